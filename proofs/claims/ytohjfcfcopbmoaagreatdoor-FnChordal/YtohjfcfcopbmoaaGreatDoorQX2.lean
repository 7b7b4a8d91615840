/- The texts X2, X3, joined. -/
import Derived.Test.YtohjfcfcopbmoaaGreatDoorQW2
import Derived.Test.YtohjfcfcopbmoaaGreatDoorQF6
import Derived.Test.YtohjfcfcopbmoaaGreatDoorQM1
import Derived.RangeFuncNested
import Derived.RangeFuncBound
import Derived.RangeFuncCalls
import Derived.RangeFuncLeaves
import Derived.Shelf.Abstract
import Derived.Shelf.RegionOpen
import Derived.OwnWalkIn
import Derived.TacticsInMore
import Derived.LoopNIn
import Derived.LoopIn

/- Walks: neighbours of a mask; plain facts on rings. -/
namespace Go.Proofs.YtohjfcfcopbmoaaGreatDoor
open Go.RowKit

/-- The masks of the first k of xs, joined. -/
def arTo (M : Nat → Nat) (xs : List Int) : Nat → Nat
  | 0 => 0
  | k + 1 => arTo M xs k ||| M (nth xs k).toNat
theorem arTo_lt {M : Nat → Nat} (hM : ∀ i, M i < 65536) (xs : List Int) (k : Nat) : arTo M xs k < 65536 := by
  induction k with
  | zero => simp [arTo]
  | succ k ih => exact Nat.or_lt_two_pow (n := 16) ih (hM _)
theorem arTo_bit {M : Nat → Nat} {xs : List Int} {k u : Nat} : (arTo M xs k).testBit u = true ↔ ∃ j, j < k ∧ (M (nth xs j).toNat).testBit u = true := by
  induction k with
  | zero => simp [arTo]
  | succ k ih =>
    simp only [arTo, Nat.testBit_or, Bool.or_eq_true, ih]
    constructor
    · rintro (⟨j, hj, h⟩ | h)
      · exact ⟨j, by omega, h⟩
      · exact ⟨k, by omega, h⟩
    · rintro ⟨j, hj, h⟩
      by_cases e : j = k
      · subst e; exact .inr h
      · exact .inl ⟨j, by omega, h⟩

set_option maxHeartbeats 1000000 in
theorem around_any (b n : Nat) (M : Nat → Nat) (m : Nat) (w : World) (h : NetAt w b n M) (hM : ∀ i, M i < 65536) (hm : m < 65536) :
    Calls Tryz.prog 280 #[.pointer (some ⟨b, 0, none⟩), .int .u32 (m : Int)] w fun e w' => e = .returned (.int .u32 (arTo M (listM m) (listM m).length : Int)) ∧ Below w.heap.size w w' := by
  go_enter Tryz.func280, Tryz.ntmps280
  go_wp2_with fail
  refine (list_any m _ hm).mono ?_
  rintro e w1 ⟨n1, a1, c1, rfl, ho1, hb1⟩
  have hlen := listM_len m
  obtain ⟨a1', c1', e1⟩ := ho1.row.slice
  simp only [Value.slice.injEq] at e1
  obtain ⟨rfl, rfl, rfl⟩ := e1
  have HN := Lib.hid (h.keep hb1)
  have HB := Lib.hid hb1
  have HO := Lib.hid ho1
  have HI : Hid (∀ i, i < (listM m).length → 0 ≤ nth (listM m) i ∧ nth (listM m) i < 16) := fun i hi => by
    obtain ⟨k, hk, _, e⟩ := (listM_mem m _).1 (nth_mem hi)
    omega
  clear ho1 hb1 h
  by_cases h0 : (listM m).length = 0
  · have HE : Hid (arTo M (listM m) (listM m).length = 0) := by show _ = _; rw [h0]; rfl
    rw [h0] at HO ⊢
    clear h0
    go_wp2
    refine wp_loop_rounds 1 ?_
    rw [rounds_succ]
    go_wp2
    go_ret
    exact ⟨by rw [HE.out]; rfl, HB.out⟩
  · obtain ⟨g, cap, e1, hgB, hgl, hc1, hc2⟩ := HO.out.posB (by omega)
    simp only [Value.slice.injEq, true_and] at e1
    obtain ⟨rfl, rfl⟩ := e1
    clear h0
    go_wp2
    go_loopw [5, 11] (fun ov iv wr => ∃ k : Nat, k ≤ (listM m).length ∧ iv = .int .i64 k ∧ ov = .int .u32 (arTo M (listM m) k : Int) ∧ wr = w1) (fun _ iv _ => (listM m).length - (intOf iv).toNat)
    case atStart => exact ⟨0, Nat.zero_le _, rfl, rfl, rfl⟩
    case round =>
      obtain ⟨k, hk, rfl, rfl, rfl⟩ := hrel
      have hal := arTo_lt hM (listM m) k
      by_cases hlt : k < (listM m).length
      · have hx := HI.out k hlt
        have hcx := HO.out.cells' k hlt
        obtain ⟨x, hxe⟩ : ∃ x : Nat, nth (listM m) k = (x : Int) := ⟨(nth (listM m) k).toNat, by omega⟩
        rw [hxe] at hcx hx
        have hx16 : x < 16 := by omega
        have hcm := HN.out.2 x hx16
        have hMx := hM x
        have hbits : bits BinOp.or IntKind.u32 (arTo M (listM m) k : Int) (M x : Int) = ((arTo M (listM m) (k + 1) : Nat) : Int) := by
          rw [u32_or_nat _ _ (by omega) (by omega)]
          show _ = ((arTo M (listM m) k ||| M (nth (listM m) k).toNat : Nat) : Int)
          rw [hxe, Int.toNat_natCast]
        have HBT := Lib.hid hbits
        clear hbits hxe
        go_wp2
        go_roundw
        case rel => exact ⟨k + 1, by omega, by go_num, by rw [HBT.out], by first | rfl | trivial⟩
        case measure => simp [intOf]; omega
      · obtain rfl : k = (listM m).length := by omega
        go_wp2
        go_ret
        exact ⟨rfl, HB.out⟩

/-! Rings. -/
section
variable (A : Nat → Nat → Bool) (S : Nat → Bool) (v : Nat)
open Classical in
/-- The vertices at distance k. -/
noncomputable def ringN (k : Nat) : Nat := pm (fun u => decide (AtD A S v k u))
open Classical in
/-- The vertices of S that are not nearer than k. -/
noncomputable def leftN (k : Nat) : Nat := pm (fun u => S u && decide (∀ j, j < k → ¬ AtD A S v j u))
/-- The vertices nearer than k, each with its distance. -/
noncomputable def visTo : Nat → List (Nat × Nat)
  | 0 => []
  | k + 1 => visTo k ++ (listM (ringN A S v k)).map (fun x => (x.toNat, k))
end
section
variable {A : Nat → Nat → Bool} {S : Nat → Bool} {v : Nat}
theorem ringN_lt (k : Nat) : ringN A S v k < 65536 := pm_lt _
theorem leftN_lt (k : Nat) : leftN A S v k < 65536 := pm_lt _
open Classical in
theorem ringN_bit (hS : ∀ u, S u = true → u < 16) (k u : Nat) : (ringN A S v k).testBit u = true ↔ AtD A S v k u := by
  unfold ringN
  rw [pm_bit, Bool.and_eq_true, decide_eq_true_iff, decide_eq_true_iff]
  exact ⟨fun h => h.2, fun h => ⟨hS u (wk_in h.1), h⟩⟩
open Classical in
theorem leftN_bit (hS : ∀ u, S u = true → u < 16) (k u : Nat) : (leftN A S v k).testBit u = true ↔ S u = true ∧ ∀ j, j < k → ¬ AtD A S v j u := by
  unfold leftN
  rw [pm_bit, Bool.and_eq_true, decide_eq_true_iff, Bool.and_eq_true, decide_eq_true_iff]
  exact ⟨fun h => h.2, fun h => ⟨hS u h.1, h⟩⟩
theorem bit_ext {a b : Nat} (h : ∀ u, a.testBit u = true ↔ b.testBit u = true) : a = b := by
  apply Nat.eq_of_testBit_eq
  intro u
  rw [Bool.eq_iff_iff]
  exact h u
theorem ringN_zero (hS : ∀ u, S u = true → u < 16) (hv : S v = true) : ringN A S v 0 = 2 ^ v := bit_ext fun u => by
  rw [ringN_bit hS, atD_zero, Nat.testBit_two_pow, decide_eq_true_iff]
  exact ⟨fun h => h.1.symm, fun h => ⟨h.symm, hv⟩⟩
theorem leftN_zero {K : Nat} (hK : K < 65536) (hS : ∀ u, S u = K.testBit u) : leftN A S v 0 = K := bit_ext fun u => by
  have h16 : ∀ u, S u = true → u < 16 := fun u hu => by
    rw [hS] at hu
    exact Nat.lt_of_not_le fun hle => by
      rw [Nat.testBit_lt_two_pow (Nat.lt_of_lt_of_le hK (Nat.pow_le_pow_right (n := 2) (by omega) hle : 2 ^ 16 ≤ 2 ^ u))] at hu; cases hu
  rw [leftN_bit h16, hS]
  exact ⟨fun h => h.1, fun h => ⟨h, fun j hj => absurd hj (by omega)⟩⟩
theorem leftN_succ (hS : ∀ u, S u = true → u < 16) (k : Nat) : clrM (leftN A S v k) (ringN A S v k) = leftN A S v (k + 1) := bit_ext fun u => by
  rw [clrM_bit (leftN_lt _) (ringN_lt _), Bool.and_eq_true, Bool.not_eq_true', ← Bool.not_eq_true, ringN_bit hS, leftN_bit hS, leftN_bit hS]
  constructor
  · rintro ⟨⟨h1, h2⟩, h3⟩
    refine ⟨h1, fun j hj => ?_⟩
    by_cases e : j = k
    · subst e; exact h3
    · exact h2 j (by omega)
  · rintro ⟨h1, h2⟩
    exact ⟨⟨h1, fun j hj => h2 j (by omega)⟩, h2 k (by omega)⟩
theorem ringN_succ {M : Nat → Nat} (hS : ∀ u, S u = true → u < 16) (hA : ∀ a b, A a b = (M a).testBit b) (k : Nat) :
    arTo M (listM (ringN A S v k)) (listM (ringN A S v k)).length &&& leftN A S v (k + 1) = ringN A S v (k + 1) := bit_ext fun u => by
  rw [Nat.testBit_and, Bool.and_eq_true, arTo_bit, leftN_bit hS, ringN_bit hS, atD_succ]
  constructor
  · rintro ⟨⟨j, hj, hb⟩, h1, h2⟩
    refine ⟨h1, ?_, fun i hi => h2 i (by omega)⟩
    obtain ⟨i, hi, hbi, e⟩ := (listM_mem _ _).1 (nth_mem hj)
    rw [← e, Int.toNat_natCast] at hb
    exact ⟨i, (ringN_bit hS k i).1 hbi, by rw [hA]; exact hb⟩
  · rintro ⟨h1, ⟨w, hw, ha⟩, h2⟩
    refine ⟨?_, h1, fun j hj => h2 j (by omega)⟩
    have hm : (w : Int) ∈ listM (ringN A S v k) := (listM_mem _ _).2 ⟨w, hS w (wk_in hw.1), (ringN_bit hS k w).2 hw, rfl⟩
    obtain ⟨j, hj, e⟩ := List.getElem_of_mem hm
    refine ⟨j, hj, ?_⟩
    rw [nth_eq hj, e, Int.toNat_natCast, ← hA]
    exact ha
theorem ringN_end (hS : ∀ u, S u = true → u < 16) {k j : Nat} (h0 : ringN A S v k = 0) (hj : k ≤ j) : ringN A S v j = 0 := bit_ext fun u => by
  rw [ringN_bit hS]
  simp only [Nat.zero_testBit, Bool.false_eq_true, iff_false]
  intro h
  obtain ⟨w, hw⟩ := atD_chain h k hj
  have := (ringN_bit hS k w).2 hw
  rw [h0] at this
  simp at this
theorem visTo_end (hS : ∀ u, S u = true → u < 16) {k : Nat} (h0 : ringN A S v k = 0) : ∀ j, k ≤ j → visTo A S v j = visTo A S v k := by
  intro j hj
  induction j with
  | zero => obtain rfl : k = 0 := by omega
            rfl
  | succ j ih =>
    by_cases e : k = j + 1
    · subst e; rfl
    · rw [visTo, ih (by omega), ringN_end hS h0 (by omega), listM_zero]; simp
theorem ringN_some (hS : ∀ u, S u = true → u < 16) {k : Nat} (h0 : ringN A S v k ≠ 0) : ∃ u, AtD A S v k u := by
  apply Classical.byContradiction
  intro hn
  apply h0
  refine bit_ext fun u => ?_
  rw [ringN_bit hS]
  simp only [Nat.zero_testBit, Bool.false_eq_true, iff_false]
  exact fun h => hn ⟨u, h⟩
theorem ringN_pos (hS : ∀ u, S u = true → u < 16) {k : Nat} (h0 : ringN A S v k ≠ 0) : 0 < (listM (ringN A S v k)).length := by
  obtain ⟨u, hu⟩ := ringN_some hS h0
  have : (u : Int) ∈ listM (ringN A S v k) := (listM_mem _ _).2 ⟨u, hS u (wk_in hu.1), (ringN_bit hS k u).2 hu, rfl⟩
  exact List.length_pos_of_mem this
theorem ringN_lt16 (hS : ∀ u, S u = true → u < 16) {k : Nat} (h0 : ringN A S v k ≠ 0) : k < 16 := by
  have : ∃ u, AtD A S v k u := by
    apply Classical.byContradiction
    intro hn
    apply h0
    refine bit_ext fun u => ?_
    rw [ringN_bit hS]
    simp only [Nat.zero_testBit, Bool.false_eq_true, iff_false]
    exact fun h => hn ⟨u, h⟩
  obtain ⟨u, hu⟩ := this
  exact atD_lt hS hu
theorem visTo_prefix {k j : Nat} (h : k ≤ j) : visTo A S v k <+: visTo A S v j := by
  induction j with
  | zero => obtain rfl : k = 0 := by omega
            exact List.prefix_refl _
  | succ j ih =>
    by_cases e : k = j + 1
    · subst e; exact List.prefix_refl _
    · rw [visTo]; exact (ih (by omega)).trans (List.prefix_append _ _)
theorem visTo_mem (hS : ∀ u, S u = true → u < 16) {k : Nat} {p : Nat × Nat} : p ∈ visTo A S v k ↔ p.2 < k ∧ AtD A S v p.2 p.1 := by
  induction k with
  | zero => simp [visTo]
  | succ k ih =>
    rw [visTo, List.mem_append, ih, List.mem_map]
    constructor
    · rintro (h | ⟨x, hx, rfl⟩)
      · exact ⟨by omega, h.2⟩
      · obtain ⟨i, hi, hb, rfl⟩ := (listM_mem _ _).1 hx
        exact ⟨by simp, by rw [Int.toNat_natCast]; exact (ringN_bit hS k i).1 hb⟩
    · rintro ⟨h1, h2⟩
      by_cases e : p.2 = k
      · right
        obtain ⟨a, b⟩ := p
        dsimp only at e h2
        subst e
        exact ⟨(a : Int), (listM_mem _ _).2 ⟨a, hS a (wk_in h2.1), (ringN_bit hS b a).2 h2, rfl⟩, by simp⟩
      · left; exact ⟨by omega, h2⟩
end

end Go.Proofs.YtohjfcfcopbmoaaGreatDoor

/- Walks: the iterator over the vertices that can be reached. -/
namespace Go.Proofs.YtohjfcfcopbmoaaGreatDoor
open Go.RowKit Go.Shelf
attribute [local go_sem] Oper.semAt_some

theorem visits_any (bn : Nat) (v : Int) (K : Nat) (w : World) :
    Calls Tryz.prog 239 #[.pointer (some ⟨bn, 0, none⟩), .int .i64 v, .int .u32 (K : Int)] w fun e w' =>
      e = .returned (.func (.func 279) #[] #[.pointer (some ⟨w.heap.size + 1, 0, none⟩), .pointer (some ⟨w.heap.size + 2, 0, none⟩), .pointer (some ⟨w.heap.size, 0, none⟩)]) ∧
      w' = ((w.alloc (.cells #[.pointer (some ⟨bn, 0, none⟩)] 191)).alloc (.cells #[.int .i64 v] 2)).alloc (.cells #[.int .u32 (K : Int)] 80) := by
  have hmf : ∀ (fn : Fn) (first cap : Array Value) (w : World), (Instr.makeFunc fn first cap).run Tryz.prog w = .ok (.func fn first cap) w := fun _ _ _ _ => rfl
  go_enter Tryz.func239, Tryz.ntmps239
  go_wp2
  go_ret
  exact ⟨rfl, rfl⟩

/-- Two numbers, as yield takes them. -/
def encP (p : Nat × Nat) : Array Value := #[.int .i64 (p.1 : Int), .int .i64 (p.2 : Int)]
/-- Who is near whom, by masks. -/
def nearM (M : Nat → Nat) (a b : Nat) : Bool := (M a).testBit b
/-- Who is in a mask. -/
def bitS (K : Nat) (u : Nat) : Bool := K.testBit u
theorem bitS_lt {K : Nat} (hK : K < 65536) : ∀ u, bitS K u = true → u < 16 := fun u hu => Nat.lt_of_not_le fun hle => by
  unfold bitS at hu
  rw [Nat.testBit_lt_two_pow (Nat.lt_of_lt_of_le hK (Nat.pow_le_pow_right (n := 2) (by omega) hle : 2 ^ 16 ≤ 2 ^ u))] at hu; cases hu

/-- What the iterator reads. -/
structure VisIn (w : World) (pf pw pt bn n : Nat) (M : Nat → Nat) (v K : Nat) : Prop where
  f : w.cell? ⟨pf, 0, none⟩ = some (.int .i64 (v : Int))
  k : w.cell? ⟨pw, 0, none⟩ = some (.int .u32 (K : Int))
  t : w.cell? ⟨pt, 0, none⟩ = some (.pointer (some ⟨bn, 0, none⟩))
  net : NetAt w bn n M
theorem VisIn.keep {w w' : World} {pf pw pt bn n : Nat} {M : Nat → Nat} {v K : Nat} (h : VisIn w pf pw pt bn n M v K) (hb : Below w.heap.size w w') : VisIn w' pf pw pt bn n M v K :=
  ⟨cell_keep hb h.f, cell_keep hb h.k, cell_keep hb h.t, h.net.keep hb⟩
theorem VisIn.but {T : Nat → Prop} {w w' : World} {pf pw pt bn n : Nat} {M : Nat → Nat} {v K : Nat} (h : VisIn w pf pw pt bn n M v K) (hb : KeepsBut T w w') (h1 : ¬ T pf) (h2 : ¬ T pw) (h3 : ¬ T pt) (h4 : ¬ T bn) : VisIn w' pf pw pt bn n M v K :=
  ⟨hb.cell h1 h.f, hb.cell h2 h.k, hb.cell h3 h.t, hb.cell h4 h.net.1, fun i hi => hb.cell h4 (h.net.2 i hi)⟩
theorem VisIn.lt {w : World} {pf pw pt bn n : Nat} {M : Nat → Nat} {v K : Nat} (h : VisIn w pf pw pt bn n M v K) : pf < w.heap.size ∧ pw < w.heap.size ∧ pt < w.heap.size ∧ bn < w.heap.size :=
  ⟨block_lt_of_cell h.f, block_lt_of_cell h.k, block_lt_of_cell h.t, block_lt_of_cell h.net.1⟩

set_option maxHeartbeats 4000000 in
set_option maxRecDepth 100000 in
theorem visits1_seq (T : Nat → Prop) (m pf pw pt bn n : Nat) (M : Nat → Nat) (v K : Nat) (w : World) (hM : ∀ i, M i < 65536) (hK : K < 65536) (hv : v < 16) (hKv : K.testBit v = true) (hin : VisIn w pf pw pt bn n M v K) (hT : ¬ T pf ∧ ¬ T pw ∧ ¬ T pt ∧ ¬ T bn) (hTw : ∀ k, T k → k < w.heap.size) :
    SeqVis Fence.wide m Tryz.prog 279 #[.pointer (some ⟨pf, 0, none⟩), .pointer (some ⟨pw, 0, none⟩), .pointer (some ⟨pt, 0, none⟩)] encP T (fun pre p => AtD (nearM M) (bitS K) v p.2 p.1 ∧ p.2 < 16 ∧ visTo (nearM M) (bitS K) v p.2 <+: pre)
      (fun xs => xs = visTo (nearM M) (bitS K) v 17) (fun pre => pre <+: visTo (nearM M) (bitS K) v 17) w := by
  intro l J Jx W hW hl1 hl2 hJ hY h0
  have hS := Lib.hid (bitS_lt hK)
  have hlt := hin.lt
  have hin1 : VisIn (W.alloc (.cells #[.int .u32 0] 80)) pf pw pt bn n M v K := (hin.keep hW).keep ((Below.refl _ _).alloc (Nat.le_refl _) _)
  have hW0 : w.heap.size ≤ W.heap.size := hW.size
  have HIN := Lib.hid hin1
  have HJ := Lib.hid hJ
  have HY := Lib.hid hY
  have H0 := Lib.hid h0
  have kf := hin1.f
  have kk := hin1.k
  have hrc : (W.alloc (.cells #[.int .u32 0] 80)).cell? ⟨W.heap.size, 0, none⟩ = some (.int .u32 ((0 : Nat) : Int)) := by go_simp
  have hrf : (W.alloc (.cells #[.int .u32 0] 80)).frozen? ⟨W.heap.size, 0, none⟩ = false := by go_simp
  have hrr : Hid ((W.alloc (.cells #[.int .u32 0] 80)).rowIs W.heap.size 80 1 (fun _ => .int .u32 ((0 : Nat) : Int))) := World.rowIs_alloc _ _ _ _ (fun i hi => by simp at hi; subst hi; rfl)
  clear hin hW hJ hY h0 hin1
  refine callsIn_of_wp Tryz.func279 rfl trivial ?_ rfl
  simp only [Tryz.ntmps279, List.size_toArray, List.length_cons, List.length_nil, Nat.reduceAdd, Nat.reduceSub, Array.replicate_succ, Array.replicate_zero, List.push_toArray, List.append_toArray, List.nil_append, List.cons_append]
  gi_wp2_with fail
  refine ⟨trivial, fun h => (by cases h), ?_⟩
  refine (callsIn_wide.2 (add_any _ _ _ _ _ hrc hrf (by omega) (by omega) (by omega))).mono ?_
  rintro e w2 ⟨rfl, hd2⟩
  have hbA : Below W.heap.size W (W.alloc (.cells #[.int .u32 0] 80)) := (Below.refl _ _).alloc (Nat.le_refl _) _
  have hb2 : Below W.heap.size W w2 := (hbA.setCell (p := ⟨W.heap.size, 0, none⟩) (Nat.le_refl _) _).trans (hd2.below _)
  have hr2 : Hid (w2.rowIs W.heap.size 80 1 (fun _ => .int .u32 (ringN (nearM M) (bitS K) v 0 : Int))) := by
    refine (rowIs_drawn (hrr.out.set 0 _) hd2).congr (fun j hj => ?_)
    rw [ringN_zero hS.out hKv]
    simp [show j = 0 from by omega]
  have hin2 : VisIn w2 pf pw pt bn n M v K := by
    have hne : ∀ k, k < w.heap.size → ∀ x u, (W.alloc (.cells #[.int .u32 0] 80)).cell? ⟨k, x, none⟩ = some u → w2.cell? ⟨k, x, none⟩ = some u := fun k hk x u hc => cell_drawn hd2 (by rw [World.cell?_setCell_other _ _ _ _ (by intro e; simp at e; try omega)]; exact hc)
    exact ⟨hne _ hlt.1 _ _ HIN.out.f, hne _ hlt.2.1 _ _ HIN.out.k, hne _ hlt.2.2.1 _ _ HIN.out.t, hne _ hlt.2.2.2 _ _ HIN.out.net.1, fun i hi => hne _ hlt.2.2.2 _ _ (HIN.out.net.2 i hi)⟩
  have hz2 : W.heap.size + 1 ≤ w2.heap.size := by have := (hd2.below 0).size; simp at this; omega
  have HI2 := Lib.hid hin2
  have HJ2 := Lib.hid (HJ.out _ _ _ H0.out hb2)
  have kk2 := hin2.k
  clear kf kk hrc hrf hrr hd2 hbA hb2 hin2 H0 HIN
  gi_wp2
  clear kk2
  gi_loopw [6, 7] (fun lv dv wr => ∃ k : Nat, k ≤ 16 ∧ lv = .int .u32 (leftN (nearM M) (bitS K) v k : Int) ∧ dv = .int .i64 k ∧ wr.rowIs W.heap.size 80 1 (fun _ => .int .u32 (ringN (nearM M) (bitS K) v k : Int)) ∧ VisIn wr pf pw pt bn n M v K ∧ J (visTo (nearM M) (bitS K) v k) wr ∧ W.heap.size + 1 ≤ wr.heap.size) (fun _ dv _ => 17 - (intOf dv).toNat)
  case atStart => exact ⟨0, by omega, by rw [leftN_zero (S := bitS K) hK (fun _ => rfl)], rfl, hr2.out, HI2.out, HJ2.out, hz2⟩
  case round =>
    clear hr2 HI2 HJ2 hz2
    obtain ⟨k, hk, rfl, rfl, hr, hi, hj, hz⟩ := hrel
    have hrc := hr.cell (i := 0) (by omega)
    have hrf := hr.frozen 0
    have hrl := ringN_lt (A := nearM M) (S := bitS K) (v := v) k
    have hll := leftN_lt (A := nearM M) (S := bitS K) (v := v) k
    have HR := Lib.hid hr
    have HI := Lib.hid hi
    have HJR := Lib.hid hj
    clear hr hi hj
    by_cases hring : ringN (nearM M) (bitS K) v k = 0
    · have HE : Hid (visTo (nearM M) (bitS K) v k = visTo (nearM M) (bitS K) v 17) := (visTo_end hS.out hring 17 (by omega)).symm
      have hb0 : ((ringN (nearM M) (bitS K) v k : Int) != 0) = false := by rw [hring]; rfl
      rw [hring] at hrc
      clear hring hb0
      gi_wp2
      go_end0
      exact ⟨⟨_, rfl⟩, .inl ⟨_, HE.out, HJR.out⟩⟩
    · have hk16 := ringN_lt16 hS.out hring
      have hb1 : ((ringN (nearM M) (bitS K) v k : Int) != 0) = true := by rw [bne_iff_ne]; omega
      have hb2 : ((ringN (nearM M) (bitS K) v k) != 0) = true := by rw [bne_iff_ne]; exact hring
      have hbits : bits BinOp.andNot IntKind.u32 (leftN (nearM M) (bitS K) v k : Int) (ringN (nearM M) (bitS K) v k : Int) = ((leftN (nearM M) (bitS K) v (k + 1) : Nat) : Int) := by
        rw [← leftN_succ hS.out, u32_andNot_nat _ _ (by omega) (by omega)]; rfl
      have HLP := Lib.hid (ringN_pos hS.out hring)
      have HBK : Hid (∀ k, W.heap.size ≤ k → ¬ (T k ∨ k = l)) := fun k hk h => by
        rcases h with h | h
        · have := hTw k h; omega
        · omega
      have HBP : Hid (¬ (T pf ∨ pf = l) ∧ ¬ (T pw ∨ pw = l) ∧ ¬ (T pt ∨ pt = l) ∧ ¬ (T bn ∨ bn = l)) :=
        ⟨fun h => by rcases h with h | h; exact hT.1 h; omega, fun h => by rcases h with h | h; exact hT.2.1 h; omega, fun h => by rcases h with h | h; exact hT.2.2.1 h; omega, fun h => by rcases h with h | h; exact hT.2.2.2 h; omega⟩
      clear hring hb2
      gi_wp2_with fail
      refine ⟨trivial, fun h => (by cases h), ?_⟩
      refine (callsIn_wide.2 (list_any _ _ hrl)).mono ?_
      rintro e w5 ⟨n5, a5, c5, rfl, ho5, hb5⟩
      obtain ⟨g, cap, e5, hgB, hgl, hc1, hc2⟩ := ho5.posB HLP.out
      simp only [Value.slice.injEq] at e5
      obtain ⟨rfl, rfl, rfl⟩ := e5
      have hls := listM_len (ringN (nearM M) (bitS K) v k)
      have HO := Lib.hid ho5
      have HI5 := Lib.hid (HI.out.keep hb5)
      have HR5 := Lib.hid (HR.out.of_block (hb5.block _ HR.out.lt))
      have HJ5 := Lib.hid (HJ.out _ _ _ HJR.out (hb5.mono (by omega)))
      have hz5 : W.heap.size + 1 ≤ w5.heap.size := by have := hb5.size; omega
      have hgW : W.heap.size ≤ g := by omega
      clear ho5 hb5 hrc hrf HR HI HJR hbits hb1
      gi_wp2_with fail
      gi_loopw [23] (fun qv wx => ∃ q : Nat, q ≤ (listM (ringN (nearM M) (bitS K) v k)).length ∧ qv = .int .i64 q ∧ J (visTo (nearM M) (bitS K) v k ++ ((listM (ringN (nearM M) (bitS K) v k)).take q).map (fun x => (x.toNat, k))) wx ∧ KeepsBut (fun k => T k ∨ k = l) w5 wx) (fun qv _ => (listM (ringN (nearM M) (bitS K) v k)).length - (intOf qv).toNat)
      case atStart => exact ⟨0, Nat.zero_le _, rfl, by simpa using HJ5.out, KeepsBut.refl _ _⟩
      case round =>
        rename World => wx
        obtain ⟨q, hq, rfl, hj, hkb⟩ := hrel
        have HJQ := Lib.hid hj
        have HKB := Lib.hid hkb
        have hzx := hkb.1
        clear hj HJ5
        by_cases hlt' : q < (listM (ringN (nearM M) (bitS K) v k)).length
        · have hcq := hkb.cell (HBK.out g hgW) (HO.out.cells' q hlt')
          obtain ⟨x, hx16, hxb, hxe⟩ := (listM_mem _ _).1 (nth_mem hlt')
          rw [← hxe] at hcq
          have hat := (ringN_bit hS.out k x).1 hxb
          have HTK : Hid (visTo (nearM M) (bitS K) v k ++ ((listM (ringN (nearM M) (bitS K) v k)).take q).map (fun x => (x.toNat, k)) ++ [(x, k)] = visTo (nearM M) (bitS K) v k ++ ((listM (ringN (nearM M) (bitS K) v k)).take (q + 1)).map (fun x => (x.toNat, k))) := by
            show _ = _
            rw [List.take_succ_eq_append_getElem hlt', List.map_append, List.append_assoc, ← nth_eq hlt', ← hxe]
            simp
          obtain ⟨fn, tmps, assign, body, hy, hR⟩ := HY.out _ (x, k) wx HJQ.out (by omega) ⟨hat, hk16, List.prefix_append _ _⟩
          simp only [encP] at hy
          have HR7 := Lib.hid hR
          clear hR hat hxb hxe hkb
          gi_wp2
          refine ⟨fun h => (by cases h), HR7.out.mono ?_⟩
          rintro e W3 (⟨rfl, hJ3, hk3⟩ | ⟨rfl, hJx3, hsz3⟩)
          · have HJ3 := Lib.hid hJ3
            have HK3 := Lib.hid (HKB.out.trans hk3)
            clear hJ3 hk3 hcq hy
            gi_wp2
            go_roundw
            case rel => exact ⟨q + 1, by omega, by go_num, by rw [← HTK.out]; exact HJ3.out, HK3.out⟩
            case measure => simp [intOf]; omega
          · have HX3 := Lib.hid hJx3
            clear hJx3 hcq hy
            gi_wp2
            refine bodyPost_ret (results_none rfl _ _ _) rfl ?_
            refine ⟨⟨_, rfl⟩, .inr ⟨_, ?_, HX3.out⟩⟩
            rw [HTK.out]
            refine List.IsPrefix.trans ?_ (visTo_prefix (k := k + 1) (by omega))
            rw [visTo, List.prefix_append_right_inj]
            exact (List.take_prefix _ _).map _
        · obtain rfl : q = (listM (ringN (nearM M) (bitS K) v k)).length := by omega
          have HJE : Hid (J (visTo (nearM M) (bitS K) v (k + 1)) wx) := by show J _ _; rw [visTo]; have := HJQ.out; rwa [List.take_length] at this
          have HIX := Lib.hid (HI5.out.but hkb HBP.out.1 HBP.out.2.1 HBP.out.2.2.1 HBP.out.2.2.2)
          have HRX := Lib.hid (HR5.out.of_block (hkb.2 _ HR5.out.lt (HBK.out _ (Nat.le_refl _))))
          have hrc := HRX.out.cell (i := 0) (by omega)
          have ktx := HIX.out.t
          clear hkb HJQ HKB hlt' hq
          gi_wp2_with fail
          refine ⟨trivial, fun h => (by cases h), ?_⟩
          refine (callsIn_wide.2 (around_any _ n M _ _ HIX.out.net hM hrl)).mono ?_
          rintro e w7 ⟨rfl, hb7⟩
          have HI7 := Lib.hid (HIX.out.keep hb7)
          have HR7 := Lib.hid (HRX.out.of_block (hb7.block _ HRX.out.lt))
          have hrc7 := HR7.out.cell (i := 0) (by omega)
          have hrf7 := HR7.out.frozen 0
          have har := arTo_lt hM (listM (ringN (nearM M) (bitS K) v k)) (listM (ringN (nearM M) (bitS K) v k)).length
          have hll2 := leftN_lt (A := nearM M) (S := bitS K) (v := v) (k + 1)
          have hbits : bits BinOp.and IntKind.u32 (arTo M (listM (ringN (nearM M) (bitS K) v k)) (listM (ringN (nearM M) (bitS K) v k)).length : Int) (leftN (nearM M) (bitS K) v (k + 1) : Int) = ((ringN (nearM M) (bitS K) v (k + 1) : Nat) : Int) := by
            rw [u32_and_nat _ _ (by omega) (by omega), ringN_succ (A := nearM M) hS.out (fun _ _ => rfl)]
          have hz7 : W.heap.size + 1 ≤ w7.heap.size := by have := hb7.size; omega
          have HJ7 : Hid (J (visTo (nearM M) (bitS K) v (k + 1)) (w7.setCell ⟨W.heap.size, 0, none⟩ (.int .u32 (ringN (nearM M) (bitS K) v (k + 1) : Int)))) := HJ.out _ _ _ HJE.out (Below.setCell (B := W.heap.size) (p := ⟨W.heap.size, 0, none⟩) (hb7.mono (by omega)) (Nat.le_refl _) _)
          have hwk : IntKind.i64.wrap ((k : Int) + 1) = (k : Int) + 1 := IntWalk.i64_in _ (by omega)
          clear hb7 hrc ktx HJE
          gi_wp2
          go_roundw
          case rel =>
            refine ⟨k + 1, by omega, rfl, by go_num, (HR7.out.set 0 _).congr (fun j hj => by simp [show j = 0 from by omega]), ?_, HJ7.out, by simp; omega⟩
            exact HI7.out.but (KeepsBut.setCell (T := fun k => k = W.heap.size) _ _ _ rfl) (by omega) (by omega) (by omega) (by omega)
          case measure => simp [intOf]; omega

end Go.Proofs.YtohjfcfcopbmoaaGreatDoor
