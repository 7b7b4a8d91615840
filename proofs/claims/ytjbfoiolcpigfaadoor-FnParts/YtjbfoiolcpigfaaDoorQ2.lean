/- The texts W4, X2, X3, Y1, X4, Y2, joined. -/
import Derived.Test.YtjbfoiolcpigfaaDoorQ1
import Derived.Deep.RegionHeld3
import Derived.Test.YtjbfoiolcpigfaaDoorF7
import Derived.Test.YtjbfoiolcpigfaaDoorM3
import Derived.Test.YtjbfoiolcpigfaaDoorX1
import Derived.RangeFuncNested
import Derived.RangeFuncBound
import Derived.RangeFuncCalls
import Derived.RangeFuncLeaves
import Derived.Shelf.Abstract
import Derived.Shelf.RegionOpen
import Derived.OwnWalkIn
import Derived.TacticsInMore
import Derived.LoopNIn
import Derived.LoopIn
import Derived.Lib.TrailingZeros
import Derived.Test.YtjbfoiolcpigfaaDoorC5

/- Walks: DistancesFrom, of the model. -/
namespace Go.Proofs.YtjbfoiolcpigfaaDoor
open Go.RowKit

/-- All vertices. -/
def allS (n : Nat) (u : Nat) : Bool := inS (allL n) u
theorem allS_iff (n u : Nat) : allS n u = true ↔ u < n := by
  show hasB _ _ = true ↔ _
  rw [hasB_iff]
  constructor
  · rintro ⟨i, hi, e⟩
    rw [allL_len] at hi
    have := nth_mem (xs := allL n) (i := i) (by rw [allL_len]; exact hi)
    rw [allL_mem] at this
    obtain ⟨k, hk, e2⟩ := this
    omega
  · intro h
    obtain ⟨i, hi, e⟩ := List.getElem_of_mem ((allL_mem n (u : Int)).2 ⟨u, h, rfl⟩)
    exact ⟨i, hi, by rw [nth_eq hi]; exact e⟩
theorem allL_rng (n : Nat) : ∀ x ∈ allL n, 0 ≤ x ∧ x < (n : Int) := by
  intro x hx
  obtain ⟨i, hi, rfl⟩ := (allL_mem n x).1 hx
  omega
/-- Whether there is an answer. -/
def dfB (L : List (List Int)) (x : Int) : Bool := decide (GraphP L) && inB x 0 ((L.length : Int) - 1)
/-- What DistancesFrom answers. -/
noncomputable def dfL (L : List (List Int)) (x : Int) : List Int := if dfB L x = true then distL L.length (nearB L) (allS L.length) x.toNat else []
theorem dfL_no {L : List (List Int)} {x : Int} (h : dfB L x = false) : dfL L x = [] := by unfold dfL; rw [if_neg (by rw [h]; exact Bool.false_ne_true)]
theorem dfL_small (L : List (List Int)) (x : Int) : (dfL L x).length ≤ 1048576 := by
  unfold dfL
  split
  · rename_i h
    rw [distL_len]
    simp only [dfB, Bool.and_eq_true, decide_eq_true_iff] at h
    have := h.1.1
    omega
  · simp

theorem gaveNone {w w' : World} (h : Below w.heap.size w w') : GaveRow w [] (.returned (.slice (some ⟨w'.heap.size, 0, none⟩) 0 0)) (w'.alloc (.cells #[] 2)) :=
  ⟨0, _, 0, rfl, OwnRow.of_ownsRow (n := 0) (World.ownsRow_lit w' #[] 0 h.size (Nat.zero_le _) rfl) (Nat.zero_le _) (fun x hx => absurd hx (by simp)), h.alloc h.size _⟩

set_option maxHeartbeats 2000000 in
theorem specDistancesFrom_any (v : Value) (L : List (List Int)) (x : Int) (w : World) (h : GridAt w v L) (_hx : I64 x) : Calls Tryd.prog 115 #[.agg #[v], .int .i64 x] w (GaveRow w (dfL L x)) := by
  obtain ⟨a0, c0, rfl⟩ := h.slice
  have ha : Below w.heap.size w (w.alloc (.cells #[.slice a0 L.length c0] 29)) := (Below.refl _ _).alloc (Nat.le_refl _) _
  have hk := h.keep ha
  have HA := Lib.hid ha
  have HGK : Hid (∀ w', Below w.heap.size w w' → GridAt w' (.slice a0 L.length c0) L) := fun w' hb => h.keep hb
  clear ha h
  go_enter Tryd.func115, Tryd.ntmps115
  go_wp2_with fail
  refine (specGraphOk_any _ _ _ hk).mono ?_
  rintro e w1 ⟨rfl, hb1⟩
  have kb1 : w1.cell? ⟨w.heap.size, 0, none⟩ = some (.slice a0 L.length c0) := by rw [hb1.cell (by simp)]; go_simp
  have HB1 : Hid (Below w.heap.size w w1) := HA.out.trans (hb1.mono (by simp))
  clear hb1 hk HA
  by_cases hG : GraphP L
  · have hz := hG.1
    have HG := Lib.hid hG
    rw [decide_eq_true hG]
    clear hG
    go_wp2_with fail
    refine (l1There_any _ L x _ (HGK.out _ HB1.out)).mono ?_
    rintro e w2 ⟨rfl, hb2⟩
    have kb2 := cell_keep hb2 kb1
    have HB2 : Hid (Below w.heap.size w w2) := HB1.out.trans (hb2.mono HB1.out.size)
    clear hb2 kb1 HB1
    by_cases hin : inB x 0 ((L.length : Int) - 1) = true
    · have hxx : 0 ≤ x ∧ x ≤ (L.length : Int) - 1 := by simpa [inB] using hin
      have HE : Hid (dfL L x = distL L.length (nearB L) (allS L.length) x.toNat) := by show _ = _; unfold dfL dfB; rw [decide_eq_true HG.out, hin]; rfl
      rw [hin]
      obtain ⟨y, rfl⟩ : ∃ y : Nat, x = (y : Int) := ⟨x.toNat, by omega⟩
      have hy : y < L.length := by omega
      clear hin hxx
      go_wp2_with fail
      go_region_held3 (fun wx => wx.cell? ⟨w.heap.size, 0, none⟩ = some (.slice a0 L.length c0)) (first | exact kb2 | exact kba | exact kbb | exact kbc)
        (first
          | (go_at_call 72; refine (l1Size_any _ L _ (HGK.out _ HB2.out.drew)).mono ?_; rintro e wa ⟨rfl, hba⟩; have kba := cell_keep hba (cell_keep (Below.refl _ _).drew kb2); have HBA : Hid (Below w.heap.size w wa) := HB2.out.drew.trans (hba.mono HB2.out.size); clear hba)
          | (go_at_call 81; refine (l1All_any L.length _ hz.2).mono ?_; rintro e wb ⟨nb, ab, cb, rfl, hob, hbb⟩; have kbb := cell_keep hbb kba; have HBB : Hid (Below w.heap.size w wb) := HBA.out.trans (hbb.mono HBA.out.size); have HOB := Lib.hid hob; clear hob hbb)
          | (go_at_call 91; refine (l3From_any _ _ L y (allL L.length) _ (HGK.out _ HBB.out) HG.out hy HOB.out.row (allL_rng _)).mono ?_; rintro e wc ⟨nc, ac, cc, rfl, hoc, hbc⟩; have kbc := cell_keep hbc kbb; have HP : Hid (GaveRow w (dfL L y) (.returned (.slice ac nc cc)) wc) := (by rw [HE.out]; exact ⟨_, _, _, rfl, hoc.mono HBB.out.size, HBB.out.trans (hbc.mono HBB.out.size)⟩); clear hoc hbc))
      go_wp2
      go_ret
      exact HP.out
    · have hin' : inB x 0 ((L.length : Int) - 1) = false := by simpa using hin
      have HE : Hid (dfL L x = []) := dfL_no (by unfold dfB; rw [hin']; simp)
      rw [hin']
      clear hin hin'
      go_wp2
      go_ret
      rw [HE.out]
      exact gaveNone HB2.out
  · have HE : Hid (dfL L x = []) := dfL_no (by unfold dfB; rw [decide_eq_false hG]; simp)
    rw [decide_eq_false hG]
    clear hG
    go_wp2
    go_ret
    rw [HE.out]
    exact gaveNone HB1.out

end Go.Proofs.YtjbfoiolcpigfaaDoor

/- Walks: neighbours of a mask; plain facts on rings. -/
namespace Go.Proofs.YtjbfoiolcpigfaaDoor
open Go.RowKit

/-- The masks of the first k of xs, joined. -/
def arTo (M : Nat → Nat) (xs : List Int) : Nat → Nat
  | 0 => 0
  | k + 1 => arTo M xs k ||| M (nth xs k).toNat
theorem arTo_lt {M : Nat → Nat} (hM : ∀ i, M i < 65536) (xs : List Int) (k : Nat) : arTo M xs k < 65536 := by
  induction k with
  | zero => simp [arTo]
  | succ k ih => exact Nat.or_lt_two_pow (n := 16) ih (hM _)
theorem arTo_bit {M : Nat → Nat} {xs : List Int} {k u : Nat} : (arTo M xs k).testBit u = true ↔ ∃ j, j < k ∧ (M (nth xs j).toNat).testBit u = true := by
  induction k with
  | zero => simp [arTo]
  | succ k ih =>
    simp only [arTo, Nat.testBit_or, Bool.or_eq_true, ih]
    constructor
    · rintro (⟨j, hj, h⟩ | h)
      · exact ⟨j, by omega, h⟩
      · exact ⟨k, by omega, h⟩
    · rintro ⟨j, hj, h⟩
      by_cases e : j = k
      · subst e; exact .inr h
      · exact .inl ⟨j, by omega, h⟩

set_option maxHeartbeats 1000000 in
theorem around_any (b n : Nat) (M : Nat → Nat) (m : Nat) (w : World) (h : NetAt w b n M) (hM : ∀ i, M i < 65536) (hm : m < 65536) :
    Calls Tryd.prog 130 #[.pointer (some ⟨b, 0, none⟩), .int .u32 (m : Int)] w fun e w' => e = .returned (.int .u32 (arTo M (listM m) (listM m).length : Int)) ∧ Below w.heap.size w w' := by
  go_enter Tryd.func130, Tryd.ntmps130
  go_wp2_with fail
  refine (list_any m _ hm).mono ?_
  rintro e w1 ⟨n1, a1, c1, rfl, ho1, hb1⟩
  have hlen := listM_len m
  obtain ⟨a1', c1', e1⟩ := ho1.row.slice
  simp only [Value.slice.injEq] at e1
  obtain ⟨rfl, rfl, rfl⟩ := e1
  have HN := Lib.hid (h.keep hb1)
  have HB := Lib.hid hb1
  have HO := Lib.hid ho1
  have HI : Hid (∀ i, i < (listM m).length → 0 ≤ nth (listM m) i ∧ nth (listM m) i < 16) := fun i hi => by
    obtain ⟨k, hk, _, e⟩ := (listM_mem m _).1 (nth_mem hi)
    omega
  clear ho1 hb1 h
  by_cases h0 : (listM m).length = 0
  · have HE : Hid (arTo M (listM m) (listM m).length = 0) := by show _ = _; rw [h0]; rfl
    rw [h0] at HO ⊢
    clear h0
    go_wp2
    refine wp_loop_rounds 1 ?_
    rw [rounds_succ]
    go_wp2
    go_ret
    exact ⟨by rw [HE.out]; rfl, HB.out⟩
  · obtain ⟨g, cap, e1, hgB, hgl, hc1, hc2⟩ := HO.out.posB (by omega)
    simp only [Value.slice.injEq, true_and] at e1
    obtain ⟨rfl, rfl⟩ := e1
    clear h0
    go_wp2
    go_loopw [5, 11] (fun ov iv wr => ∃ k : Nat, k ≤ (listM m).length ∧ iv = .int .i64 k ∧ ov = .int .u32 (arTo M (listM m) k : Int) ∧ wr = w1) (fun _ iv _ => (listM m).length - (intOf iv).toNat)
    case atStart => exact ⟨0, Nat.zero_le _, rfl, rfl, rfl⟩
    case round =>
      obtain ⟨k, hk, rfl, rfl, rfl⟩ := hrel
      have hal := arTo_lt hM (listM m) k
      by_cases hlt : k < (listM m).length
      · have hx := HI.out k hlt
        have hcx := HO.out.cells' k hlt
        obtain ⟨x, hxe⟩ : ∃ x : Nat, nth (listM m) k = (x : Int) := ⟨(nth (listM m) k).toNat, by omega⟩
        rw [hxe] at hcx hx
        have hx16 : x < 16 := by omega
        have hcm := HN.out.2 x hx16
        have hMx := hM x
        have hbits : bits BinOp.or IntKind.u32 (arTo M (listM m) k : Int) (M x : Int) = ((arTo M (listM m) (k + 1) : Nat) : Int) := by
          rw [u32_or_nat _ _ (by omega) (by omega)]
          show _ = ((arTo M (listM m) k ||| M (nth (listM m) k).toNat : Nat) : Int)
          rw [hxe, Int.toNat_natCast]
        have HBT := Lib.hid hbits
        clear hbits hxe
        go_wp2
        go_roundw
        case rel => exact ⟨k + 1, by omega, by go_num, by rw [HBT.out], by first | rfl | trivial⟩
        case measure => simp [intOf]; omega
      · obtain rfl : k = (listM m).length := by omega
        go_wp2
        go_ret
        exact ⟨rfl, HB.out⟩

/-! Rings. -/
section
variable (A : Nat → Nat → Bool) (S : Nat → Bool) (v : Nat)
open Classical in
/-- The vertices at distance k. -/
noncomputable def ringN (k : Nat) : Nat := pm (fun u => decide (AtD A S v k u))
open Classical in
/-- The vertices of S that are not nearer than k. -/
noncomputable def leftN (k : Nat) : Nat := pm (fun u => S u && decide (∀ j, j < k → ¬ AtD A S v j u))
/-- The vertices nearer than k, each with its distance. -/
noncomputable def visTo : Nat → List (Nat × Nat)
  | 0 => []
  | k + 1 => visTo k ++ (listM (ringN A S v k)).map (fun x => (x.toNat, k))
end
section
variable {A : Nat → Nat → Bool} {S : Nat → Bool} {v : Nat}
theorem ringN_lt (k : Nat) : ringN A S v k < 65536 := pm_lt _
theorem leftN_lt (k : Nat) : leftN A S v k < 65536 := pm_lt _
open Classical in
theorem ringN_bit (hS : ∀ u, S u = true → u < 16) (k u : Nat) : (ringN A S v k).testBit u = true ↔ AtD A S v k u := by
  unfold ringN
  rw [pm_bit, Bool.and_eq_true, decide_eq_true_iff, decide_eq_true_iff]
  exact ⟨fun h => h.2, fun h => ⟨hS u (wk_in h.1), h⟩⟩
open Classical in
theorem leftN_bit (hS : ∀ u, S u = true → u < 16) (k u : Nat) : (leftN A S v k).testBit u = true ↔ S u = true ∧ ∀ j, j < k → ¬ AtD A S v j u := by
  unfold leftN
  rw [pm_bit, Bool.and_eq_true, decide_eq_true_iff, Bool.and_eq_true, decide_eq_true_iff]
  exact ⟨fun h => h.2, fun h => ⟨hS u h.1, h⟩⟩
theorem bit_ext {a b : Nat} (h : ∀ u, a.testBit u = true ↔ b.testBit u = true) : a = b := by
  apply Nat.eq_of_testBit_eq
  intro u
  rw [Bool.eq_iff_iff]
  exact h u
theorem ringN_zero (hS : ∀ u, S u = true → u < 16) (hv : S v = true) : ringN A S v 0 = 2 ^ v := bit_ext fun u => by
  rw [ringN_bit hS, atD_zero, Nat.testBit_two_pow, decide_eq_true_iff]
  exact ⟨fun h => h.1.symm, fun h => ⟨h.symm, hv⟩⟩
theorem leftN_zero {K : Nat} (hK : K < 65536) (hS : ∀ u, S u = K.testBit u) : leftN A S v 0 = K := bit_ext fun u => by
  have h16 : ∀ u, S u = true → u < 16 := fun u hu => by
    rw [hS] at hu
    exact Nat.lt_of_not_le fun hle => by
      rw [Nat.testBit_lt_two_pow (Nat.lt_of_lt_of_le hK (Nat.pow_le_pow_right (n := 2) (by omega) hle : 2 ^ 16 ≤ 2 ^ u))] at hu; cases hu
  rw [leftN_bit h16, hS]
  exact ⟨fun h => h.1, fun h => ⟨h, fun j hj => absurd hj (by omega)⟩⟩
theorem leftN_succ (hS : ∀ u, S u = true → u < 16) (k : Nat) : clrM (leftN A S v k) (ringN A S v k) = leftN A S v (k + 1) := bit_ext fun u => by
  rw [clrM_bit (leftN_lt _) (ringN_lt _), Bool.and_eq_true, Bool.not_eq_true', ← Bool.not_eq_true, ringN_bit hS, leftN_bit hS, leftN_bit hS]
  constructor
  · rintro ⟨⟨h1, h2⟩, h3⟩
    refine ⟨h1, fun j hj => ?_⟩
    by_cases e : j = k
    · subst e; exact h3
    · exact h2 j (by omega)
  · rintro ⟨h1, h2⟩
    exact ⟨⟨h1, fun j hj => h2 j (by omega)⟩, h2 k (by omega)⟩
theorem ringN_succ {M : Nat → Nat} (hS : ∀ u, S u = true → u < 16) (hA : ∀ a b, A a b = (M a).testBit b) (k : Nat) :
    arTo M (listM (ringN A S v k)) (listM (ringN A S v k)).length &&& leftN A S v (k + 1) = ringN A S v (k + 1) := bit_ext fun u => by
  rw [Nat.testBit_and, Bool.and_eq_true, arTo_bit, leftN_bit hS, ringN_bit hS, atD_succ]
  constructor
  · rintro ⟨⟨j, hj, hb⟩, h1, h2⟩
    refine ⟨h1, ?_, fun i hi => h2 i (by omega)⟩
    obtain ⟨i, hi, hbi, e⟩ := (listM_mem _ _).1 (nth_mem hj)
    rw [← e, Int.toNat_natCast] at hb
    exact ⟨i, (ringN_bit hS k i).1 hbi, by rw [hA]; exact hb⟩
  · rintro ⟨h1, ⟨w, hw, ha⟩, h2⟩
    refine ⟨?_, h1, fun j hj => h2 j (by omega)⟩
    have hm : (w : Int) ∈ listM (ringN A S v k) := (listM_mem _ _).2 ⟨w, hS w (wk_in hw.1), (ringN_bit hS k w).2 hw, rfl⟩
    obtain ⟨j, hj, e⟩ := List.getElem_of_mem hm
    refine ⟨j, hj, ?_⟩
    rw [nth_eq hj, e, Int.toNat_natCast, ← hA]
    exact ha
theorem ringN_end (hS : ∀ u, S u = true → u < 16) {k j : Nat} (h0 : ringN A S v k = 0) (hj : k ≤ j) : ringN A S v j = 0 := bit_ext fun u => by
  rw [ringN_bit hS]
  simp only [Nat.zero_testBit, Bool.false_eq_true, iff_false]
  intro h
  obtain ⟨w, hw⟩ := atD_chain h k hj
  have := (ringN_bit hS k w).2 hw
  rw [h0] at this
  simp at this
theorem visTo_end (hS : ∀ u, S u = true → u < 16) {k : Nat} (h0 : ringN A S v k = 0) : ∀ j, k ≤ j → visTo A S v j = visTo A S v k := by
  intro j hj
  induction j with
  | zero => obtain rfl : k = 0 := by omega
            rfl
  | succ j ih =>
    by_cases e : k = j + 1
    · subst e; rfl
    · rw [visTo, ih (by omega), ringN_end hS h0 (by omega), listM_zero]; simp
theorem ringN_some (hS : ∀ u, S u = true → u < 16) {k : Nat} (h0 : ringN A S v k ≠ 0) : ∃ u, AtD A S v k u := by
  apply Classical.byContradiction
  intro hn
  apply h0
  refine bit_ext fun u => ?_
  rw [ringN_bit hS]
  simp only [Nat.zero_testBit, Bool.false_eq_true, iff_false]
  exact fun h => hn ⟨u, h⟩
theorem ringN_pos (hS : ∀ u, S u = true → u < 16) {k : Nat} (h0 : ringN A S v k ≠ 0) : 0 < (listM (ringN A S v k)).length := by
  obtain ⟨u, hu⟩ := ringN_some hS h0
  have : (u : Int) ∈ listM (ringN A S v k) := (listM_mem _ _).2 ⟨u, hS u (wk_in hu.1), (ringN_bit hS k u).2 hu, rfl⟩
  exact List.length_pos_of_mem this
theorem ringN_lt16 (hS : ∀ u, S u = true → u < 16) {k : Nat} (h0 : ringN A S v k ≠ 0) : k < 16 := by
  have : ∃ u, AtD A S v k u := by
    apply Classical.byContradiction
    intro hn
    apply h0
    refine bit_ext fun u => ?_
    rw [ringN_bit hS]
    simp only [Nat.zero_testBit, Bool.false_eq_true, iff_false]
    exact fun h => hn ⟨u, h⟩
  obtain ⟨u, hu⟩ := this
  exact atD_lt hS hu
theorem visTo_prefix {k j : Nat} (h : k ≤ j) : visTo A S v k <+: visTo A S v j := by
  induction j with
  | zero => obtain rfl : k = 0 := by omega
            exact List.prefix_refl _
  | succ j ih =>
    by_cases e : k = j + 1
    · subst e; exact List.prefix_refl _
    · rw [visTo]; exact (ih (by omega)).trans (List.prefix_append _ _)
theorem visTo_mem (hS : ∀ u, S u = true → u < 16) {k : Nat} {p : Nat × Nat} : p ∈ visTo A S v k ↔ p.2 < k ∧ AtD A S v p.2 p.1 := by
  induction k with
  | zero => simp [visTo]
  | succ k ih =>
    rw [visTo, List.mem_append, ih, List.mem_map]
    constructor
    · rintro (h | ⟨x, hx, rfl⟩)
      · exact ⟨by omega, h.2⟩
      · obtain ⟨i, hi, hb, rfl⟩ := (listM_mem _ _).1 hx
        exact ⟨by simp, by rw [Int.toNat_natCast]; exact (ringN_bit hS k i).1 hb⟩
    · rintro ⟨h1, h2⟩
      by_cases e : p.2 = k
      · right
        obtain ⟨a, b⟩ := p
        dsimp only at e h2
        subst e
        exact ⟨(a : Int), (listM_mem _ _).2 ⟨a, hS a (wk_in h2.1), (ringN_bit hS b a).2 h2, rfl⟩, by simp⟩
      · left; exact ⟨by omega, h2⟩
end

end Go.Proofs.YtjbfoiolcpigfaaDoor

/- Walks: the iterator over the vertices that can be reached. -/
namespace Go.Proofs.YtjbfoiolcpigfaaDoor
open Go.RowKit Go.Shelf
attribute [local go_sem] Oper.semAt_some

theorem visits_any (bn : Nat) (v : Int) (K : Nat) (w : World) :
    Calls Tryd.prog 88 #[.pointer (some ⟨bn, 0, none⟩), .int .i64 v, .int .u32 (K : Int)] w fun e w' =>
      e = .returned (.func (.func 129) #[] #[.pointer (some ⟨w.heap.size + 1, 0, none⟩), .pointer (some ⟨w.heap.size + 2, 0, none⟩), .pointer (some ⟨w.heap.size, 0, none⟩)]) ∧
      w' = ((w.alloc (.cells #[.pointer (some ⟨bn, 0, none⟩)] 113)).alloc (.cells #[.int .i64 v] 2)).alloc (.cells #[.int .u32 (K : Int)] 71) := by
  have hmf : ∀ (fn : Fn) (first cap : Array Value) (w : World), (Instr.makeFunc fn first cap).run Tryd.prog w = .ok (.func fn first cap) w := fun _ _ _ _ => rfl
  go_enter Tryd.func88, Tryd.ntmps88
  go_wp2
  go_ret
  exact ⟨rfl, rfl⟩

/-- Two numbers, as yield takes them. -/
def encP (p : Nat × Nat) : Array Value := #[.int .i64 (p.1 : Int), .int .i64 (p.2 : Int)]
/-- Who is near whom, by masks. -/
def nearM (M : Nat → Nat) (a b : Nat) : Bool := (M a).testBit b
/-- Who is in a mask. -/
def bitS (K : Nat) (u : Nat) : Bool := K.testBit u
theorem bitS_lt {K : Nat} (hK : K < 65536) : ∀ u, bitS K u = true → u < 16 := fun u hu => Nat.lt_of_not_le fun hle => by
  unfold bitS at hu
  rw [Nat.testBit_lt_two_pow (Nat.lt_of_lt_of_le hK (Nat.pow_le_pow_right (n := 2) (by omega) hle : 2 ^ 16 ≤ 2 ^ u))] at hu; cases hu

/-- What the iterator reads. -/
structure VisIn (w : World) (pf pw pt bn n : Nat) (M : Nat → Nat) (v K : Nat) : Prop where
  f : w.cell? ⟨pf, 0, none⟩ = some (.int .i64 (v : Int))
  k : w.cell? ⟨pw, 0, none⟩ = some (.int .u32 (K : Int))
  t : w.cell? ⟨pt, 0, none⟩ = some (.pointer (some ⟨bn, 0, none⟩))
  net : NetAt w bn n M
theorem VisIn.keep {w w' : World} {pf pw pt bn n : Nat} {M : Nat → Nat} {v K : Nat} (h : VisIn w pf pw pt bn n M v K) (hb : Below w.heap.size w w') : VisIn w' pf pw pt bn n M v K :=
  ⟨cell_keep hb h.f, cell_keep hb h.k, cell_keep hb h.t, h.net.keep hb⟩
theorem VisIn.but {T : Nat → Prop} {w w' : World} {pf pw pt bn n : Nat} {M : Nat → Nat} {v K : Nat} (h : VisIn w pf pw pt bn n M v K) (hb : KeepsBut T w w') (h1 : ¬ T pf) (h2 : ¬ T pw) (h3 : ¬ T pt) (h4 : ¬ T bn) : VisIn w' pf pw pt bn n M v K :=
  ⟨hb.cell h1 h.f, hb.cell h2 h.k, hb.cell h3 h.t, hb.cell h4 h.net.1, fun i hi => hb.cell h4 (h.net.2 i hi)⟩
theorem VisIn.lt {w : World} {pf pw pt bn n : Nat} {M : Nat → Nat} {v K : Nat} (h : VisIn w pf pw pt bn n M v K) : pf < w.heap.size ∧ pw < w.heap.size ∧ pt < w.heap.size ∧ bn < w.heap.size :=
  ⟨block_lt_of_cell h.f, block_lt_of_cell h.k, block_lt_of_cell h.t, block_lt_of_cell h.net.1⟩

set_option maxHeartbeats 4000000 in
set_option maxRecDepth 100000 in
theorem visits1_seq (T : Nat → Prop) (m pf pw pt bn n : Nat) (M : Nat → Nat) (v K : Nat) (w : World) (hM : ∀ i, M i < 65536) (hK : K < 65536) (hv : v < 16) (hKv : K.testBit v = true) (hin : VisIn w pf pw pt bn n M v K) (hT : ¬ T pf ∧ ¬ T pw ∧ ¬ T pt ∧ ¬ T bn) (hTw : ∀ k, T k → k < w.heap.size) :
    SeqVis Fence.wide m Tryd.prog 129 #[.pointer (some ⟨pf, 0, none⟩), .pointer (some ⟨pw, 0, none⟩), .pointer (some ⟨pt, 0, none⟩)] encP T (fun p => AtD (nearM M) (bitS K) v p.2 p.1 ∧ p.2 < 16)
      (fun xs => xs = visTo (nearM M) (bitS K) v 17) (fun pre => pre <+: visTo (nearM M) (bitS K) v 17) w := by
  intro l J Jx W hW hl1 hl2 hJ hJx hY h0
  have hS := Lib.hid (bitS_lt hK)
  have hlt := hin.lt
  have hin1 : VisIn (W.alloc (.cells #[.int .u32 0] 71)) pf pw pt bn n M v K := (hin.keep hW).keep ((Below.refl _ _).alloc (Nat.le_refl _) _)
  have hW0 : w.heap.size ≤ W.heap.size := hW.size
  have HIN := Lib.hid hin1
  have HJ := Lib.hid hJ
  have HJX := Lib.hid hJx
  have HY := Lib.hid hY
  have H0 := Lib.hid h0
  have kf := hin1.f
  have kk := hin1.k
  have hrc : (W.alloc (.cells #[.int .u32 0] 71)).cell? ⟨W.heap.size, 0, none⟩ = some (.int .u32 ((0 : Nat) : Int)) := by go_simp
  have hrf : (W.alloc (.cells #[.int .u32 0] 71)).frozen? ⟨W.heap.size, 0, none⟩ = false := by go_simp
  have hrr : Hid ((W.alloc (.cells #[.int .u32 0] 71)).rowIs W.heap.size 71 1 (fun _ => .int .u32 ((0 : Nat) : Int))) := World.rowIs_alloc _ _ _ _ (fun i hi => by simp at hi; subst hi; rfl)
  clear hin hW hJ hJx hY h0 hin1
  refine callsIn_of_wp Tryd.func129 rfl trivial ?_ rfl
  simp only [Tryd.ntmps129, List.size_toArray, List.length_cons, List.length_nil, Nat.reduceAdd, Nat.reduceSub, Array.replicate_succ, Array.replicate_zero, List.push_toArray, List.append_toArray, List.nil_append, List.cons_append]
  gi_wp2_with fail
  refine ⟨trivial, fun h => (by cases h), ?_⟩
  refine (callsIn_wide.2 (add_any _ _ _ _ _ hrc hrf (by omega) (by omega) (by omega))).mono ?_
  rintro e w2 ⟨rfl, hd2⟩
  have hbA : Below W.heap.size W (W.alloc (.cells #[.int .u32 0] 71)) := (Below.refl _ _).alloc (Nat.le_refl _) _
  have hb2 : Below W.heap.size W w2 := (hbA.setCell (p := ⟨W.heap.size, 0, none⟩) (Nat.le_refl _) _).trans (hd2.below _)
  have hr2 : Hid (w2.rowIs W.heap.size 71 1 (fun _ => .int .u32 (ringN (nearM M) (bitS K) v 0 : Int))) := by
    refine (rowIs_drawn (hrr.out.set 0 _) hd2).congr (fun j hj => ?_)
    rw [ringN_zero hS.out hKv]
    simp [show j = 0 from by omega]
  have hin2 : VisIn w2 pf pw pt bn n M v K := by
    have hne : ∀ k, k < w.heap.size → ∀ x u, (W.alloc (.cells #[.int .u32 0] 71)).cell? ⟨k, x, none⟩ = some u → w2.cell? ⟨k, x, none⟩ = some u := fun k hk x u hc => cell_drawn hd2 (by rw [World.cell?_setCell_other _ _ _ _ (by intro e; simp at e; try omega)]; exact hc)
    exact ⟨hne _ hlt.1 _ _ HIN.out.f, hne _ hlt.2.1 _ _ HIN.out.k, hne _ hlt.2.2.1 _ _ HIN.out.t, hne _ hlt.2.2.2 _ _ HIN.out.net.1, fun i hi => hne _ hlt.2.2.2 _ _ (HIN.out.net.2 i hi)⟩
  have hz2 : W.heap.size + 1 ≤ w2.heap.size := by have := (hd2.below 0).size; simp at this; omega
  have HI2 := Lib.hid hin2
  have HJ2 := Lib.hid (HJ.out _ _ _ H0.out hb2)
  have kk2 := hin2.k
  clear kf kk hrc hrf hrr hd2 hbA hb2 hin2 H0 HIN
  gi_wp2
  clear kk2
  gi_loopw [6, 7] (fun lv dv wr => ∃ k : Nat, k ≤ 16 ∧ lv = .int .u32 (leftN (nearM M) (bitS K) v k : Int) ∧ dv = .int .i64 k ∧ wr.rowIs W.heap.size 71 1 (fun _ => .int .u32 (ringN (nearM M) (bitS K) v k : Int)) ∧ VisIn wr pf pw pt bn n M v K ∧ J (visTo (nearM M) (bitS K) v k) wr ∧ W.heap.size + 1 ≤ wr.heap.size) (fun _ dv _ => 17 - (intOf dv).toNat)
  case atStart => exact ⟨0, by omega, by rw [leftN_zero (S := bitS K) hK (fun _ => rfl)], rfl, hr2.out, HI2.out, HJ2.out, hz2⟩
  case round =>
    clear hr2 HI2 HJ2 hz2
    obtain ⟨k, hk, rfl, rfl, hr, hi, hj, hz⟩ := hrel
    have hrc := hr.cell (i := 0) (by omega)
    have hrf := hr.frozen 0
    have hrl := ringN_lt (A := nearM M) (S := bitS K) (v := v) k
    have hll := leftN_lt (A := nearM M) (S := bitS K) (v := v) k
    have HR := Lib.hid hr
    have HI := Lib.hid hi
    have HJR := Lib.hid hj
    clear hr hi hj
    by_cases hring : ringN (nearM M) (bitS K) v k = 0
    · have HE : Hid (visTo (nearM M) (bitS K) v k = visTo (nearM M) (bitS K) v 17) := (visTo_end hS.out hring 17 (by omega)).symm
      have hb0 : ((ringN (nearM M) (bitS K) v k : Int) != 0) = false := by rw [hring]; rfl
      rw [hring] at hrc
      clear hring hb0
      gi_wp2
      go_end0
      exact ⟨⟨_, rfl⟩, .inl ⟨_, HE.out, HJR.out⟩⟩
    · have hk16 := ringN_lt16 hS.out hring
      have hb1 : ((ringN (nearM M) (bitS K) v k : Int) != 0) = true := by rw [bne_iff_ne]; omega
      have hb2 : ((ringN (nearM M) (bitS K) v k) != 0) = true := by rw [bne_iff_ne]; exact hring
      have hbits : bits BinOp.andNot IntKind.u32 (leftN (nearM M) (bitS K) v k : Int) (ringN (nearM M) (bitS K) v k : Int) = ((leftN (nearM M) (bitS K) v (k + 1) : Nat) : Int) := by
        rw [← leftN_succ hS.out, u32_andNot_nat _ _ (by omega) (by omega)]; rfl
      have HLP := Lib.hid (ringN_pos hS.out hring)
      have HBK : Hid (∀ k, W.heap.size ≤ k → ¬ (T k ∨ k = l)) := fun k hk h => by
        rcases h with h | h
        · have := hTw k h; omega
        · omega
      have HBP : Hid (¬ (T pf ∨ pf = l) ∧ ¬ (T pw ∨ pw = l) ∧ ¬ (T pt ∨ pt = l) ∧ ¬ (T bn ∨ bn = l)) :=
        ⟨fun h => by rcases h with h | h; exact hT.1 h; omega, fun h => by rcases h with h | h; exact hT.2.1 h; omega, fun h => by rcases h with h | h; exact hT.2.2.1 h; omega, fun h => by rcases h with h | h; exact hT.2.2.2 h; omega⟩
      clear hring hb2
      gi_wp2_with fail
      refine ⟨trivial, fun h => (by cases h), ?_⟩
      refine (callsIn_wide.2 (list_any _ _ hrl)).mono ?_
      rintro e w5 ⟨n5, a5, c5, rfl, ho5, hb5⟩
      obtain ⟨g, cap, e5, hgB, hgl, hc1, hc2⟩ := ho5.posB HLP.out
      simp only [Value.slice.injEq] at e5
      obtain ⟨rfl, rfl, rfl⟩ := e5
      have hls := listM_len (ringN (nearM M) (bitS K) v k)
      have HO := Lib.hid ho5
      have HI5 := Lib.hid (HI.out.keep hb5)
      have HR5 := Lib.hid (HR.out.of_block (hb5.block _ HR.out.lt))
      have HJ5 := Lib.hid (HJ.out _ _ _ HJR.out (hb5.mono (by omega)))
      have hz5 : W.heap.size + 1 ≤ w5.heap.size := by have := hb5.size; omega
      have hgW : W.heap.size ≤ g := by omega
      clear ho5 hb5 hrc hrf HR HI HJR hbits hb1
      gi_wp2_with fail
      gi_loopw [23] (fun qv wx => ∃ q : Nat, q ≤ (listM (ringN (nearM M) (bitS K) v k)).length ∧ qv = .int .i64 q ∧ J (visTo (nearM M) (bitS K) v k ++ ((listM (ringN (nearM M) (bitS K) v k)).take q).map (fun x => (x.toNat, k))) wx ∧ KeepsBut (fun k => T k ∨ k = l) w5 wx) (fun qv _ => (listM (ringN (nearM M) (bitS K) v k)).length - (intOf qv).toNat)
      case atStart => exact ⟨0, Nat.zero_le _, rfl, by simpa using HJ5.out, KeepsBut.refl _ _⟩
      case round =>
        rename World => wx
        obtain ⟨q, hq, rfl, hj, hkb⟩ := hrel
        have HJQ := Lib.hid hj
        have HKB := Lib.hid hkb
        have hzx := hkb.1
        clear hj HJ5
        by_cases hlt' : q < (listM (ringN (nearM M) (bitS K) v k)).length
        · have hcq := hkb.cell (HBK.out g hgW) (HO.out.cells' q hlt')
          obtain ⟨x, hx16, hxb, hxe⟩ := (listM_mem _ _).1 (nth_mem hlt')
          rw [← hxe] at hcq
          have hat := (ringN_bit hS.out k x).1 hxb
          have HTK : Hid (visTo (nearM M) (bitS K) v k ++ ((listM (ringN (nearM M) (bitS K) v k)).take q).map (fun x => (x.toNat, k)) ++ [(x, k)] = visTo (nearM M) (bitS K) v k ++ ((listM (ringN (nearM M) (bitS K) v k)).take (q + 1)).map (fun x => (x.toNat, k))) := by
            show _ = _
            rw [List.take_succ_eq_append_getElem hlt', List.map_append, List.append_assoc, ← nth_eq hlt', ← hxe]
            simp
          obtain ⟨fn, tmps, assign, body, hy, hR⟩ := HY.out _ (x, k) wx HJQ.out (by omega) ⟨hat, hk16⟩
          simp only [encP] at hy
          have HR7 := Lib.hid hR
          clear hR hat hxb hxe hkb
          gi_wp2
          refine ⟨fun h => (by cases h), HR7.out.mono ?_⟩
          rintro e W3 (⟨rfl, hJ3, hk3⟩ | ⟨rfl, hJx3, hsz3⟩)
          · have HJ3 := Lib.hid hJ3
            have HK3 := Lib.hid (HKB.out.trans hk3)
            clear hJ3 hk3 hcq hy
            gi_wp2
            go_roundw
            case rel => exact ⟨q + 1, by omega, by go_num, by rw [← HTK.out]; exact HJ3.out, HK3.out⟩
            case measure => simp [intOf]; omega
          · have HX3 := Lib.hid hJx3
            clear hJx3 hcq hy
            gi_wp2
            refine bodyPost_ret (results_none rfl _ _ _) rfl ?_
            refine ⟨⟨_, rfl⟩, .inr ⟨_, ?_, HX3.out⟩⟩
            rw [HTK.out]
            refine List.IsPrefix.trans ?_ (visTo_prefix (k := k + 1) (by omega))
            rw [visTo, List.prefix_append_right_inj]
            exact (List.take_prefix _ _).map _
        · obtain rfl : q = (listM (ringN (nearM M) (bitS K) v k)).length := by omega
          have HJE : Hid (J (visTo (nearM M) (bitS K) v (k + 1)) wx) := by show J _ _; rw [visTo]; have := HJQ.out; rwa [List.take_length] at this
          have HIX := Lib.hid (HI5.out.but hkb HBP.out.1 HBP.out.2.1 HBP.out.2.2.1 HBP.out.2.2.2)
          have HRX := Lib.hid (HR5.out.of_block (hkb.2 _ HR5.out.lt (HBK.out _ (Nat.le_refl _))))
          have hrc := HRX.out.cell (i := 0) (by omega)
          have ktx := HIX.out.t
          clear hkb HJQ HKB hlt' hq
          gi_wp2_with fail
          refine ⟨trivial, fun h => (by cases h), ?_⟩
          refine (callsIn_wide.2 (around_any _ n M _ _ HIX.out.net hM hrl)).mono ?_
          rintro e w7 ⟨rfl, hb7⟩
          have HI7 := Lib.hid (HIX.out.keep hb7)
          have HR7 := Lib.hid (HRX.out.of_block (hb7.block _ HRX.out.lt))
          have hrc7 := HR7.out.cell (i := 0) (by omega)
          have hrf7 := HR7.out.frozen 0
          have har := arTo_lt hM (listM (ringN (nearM M) (bitS K) v k)) (listM (ringN (nearM M) (bitS K) v k)).length
          have hll2 := leftN_lt (A := nearM M) (S := bitS K) (v := v) (k + 1)
          have hbits : bits BinOp.and IntKind.u32 (arTo M (listM (ringN (nearM M) (bitS K) v k)) (listM (ringN (nearM M) (bitS K) v k)).length : Int) (leftN (nearM M) (bitS K) v (k + 1) : Int) = ((ringN (nearM M) (bitS K) v (k + 1) : Nat) : Int) := by
            rw [u32_and_nat _ _ (by omega) (by omega), ringN_succ (A := nearM M) hS.out (fun _ _ => rfl)]
          have hz7 : W.heap.size + 1 ≤ w7.heap.size := by have := hb7.size; omega
          have HJ7 : Hid (J (visTo (nearM M) (bitS K) v (k + 1)) (w7.setCell ⟨W.heap.size, 0, none⟩ (.int .u32 (ringN (nearM M) (bitS K) v (k + 1) : Int)))) := HJ.out _ _ _ HJE.out (Below.setCell (B := W.heap.size) (p := ⟨W.heap.size, 0, none⟩) (hb7.mono (by omega)) (Nat.le_refl _) _)
          have hwk : IntKind.i64.wrap ((k : Int) + 1) = (k : Int) + 1 := IntWalk.i64_in _ (by omega)
          clear hb7 hrc ktx HJE
          gi_wp2
          go_roundw
          case rel =>
            refine ⟨k + 1, by omega, rfl, by go_num, (HR7.out.set 0 _).congr (fun j hj => by simp [show j = 0 from by omega]), ?_, HJ7.out, by simp; omega⟩
            exact HI7.out.but (KeepsBut.setCell (T := fun k => k = W.heap.size) _ _ _ rfl) (by omega) (by omega) (by omega) (by omega)
          case measure => simp [intOf]; omega

end Go.Proofs.YtjbfoiolcpigfaaDoor

/- Walks: the least vertex of a mask, by the library's table. -/
namespace Go.Proofs.YtjbfoiolcpigfaaDoor
open Go.RowKit

/-- The library's table lies where the program has it. -/
def TabAt (w : World) : Prop := ∀ i, i < Lib.deBruijn32tab.length → w.cell? ⟨0, i, none⟩ = some (.int .u8 (Lib.deBruijn32tab.getD i 0 : Nat))
theorem TabAt.keep {w w' : World} (h : TabAt w) (hb : Below w.heap.size w w') : TabAt w' := fun i hi => cell_keep hb (h i hi)
theorem TabAt.lt {w : World} (h : TabAt w) : 0 < w.heap.size := block_lt_of_cell (h 0 (by decide))
theorem TabAt.keepB {w w' : World} {B : Nat} (h : TabAt w) (hb : Below B w w') (hB : 0 < B) : TabAt w' := fun i hi => by rw [hb.cell hB]; exact h i hi

/-- The least bit of a mask. -/
def leastM (M : Nat) : Nat := Lib.ctz 32 M
theorem leastM_spec {M : Nat} (h0 : M ≠ 0) (hM : M < 65536) : leastM M < 16 ∧ M.testBit (leastM M) = true ∧ ∀ j, j < leastM M → M.testBit j = false := by
  unfold leastM Lib.ctz
  rw [if_neg h0]
  obtain ⟨m, hm, hk⟩ := Lib.ctzFrom_spec 32 M (by omega) (by omega)
  generalize Lib.ctzFrom 32 M = k at *
  have hb : ∀ i, M.testBit i = (decide (k ≤ i) && (2 * m + 1).testBit (i - k)) := fun i => by rw [hm, Nat.mul_comm, Nat.testBit_mul_two_pow]
  have h2 : M.testBit k = true := by rw [hb]; simp [Nat.testBit_zero]
  refine ⟨?_, h2, fun j hj => by rw [hb]; simp; omega⟩
  apply Nat.lt_of_not_le
  intro hle
  rw [Nat.testBit_lt_two_pow (Nat.lt_of_lt_of_le hM (Nat.pow_le_pow_right (n := 2) (by omega) hle : 2 ^ 16 ≤ 2 ^ k))] at h2
  cases h2

theorem tz_key (x a : Nat) (hx : x < 65536) (hx0 : x ≠ 0) (hlow : x &&& (4294967296 - x) = a) :
    bits BinOp.and IntKind.u32 (x : Int) (-(x : Int) % 4294967296) * 125613361 % 4294967296 / 134217728 = ((a * 125613361 % 4294967296 / 134217728 : Nat) : Int) := by
  have e1 : -(x : Int) % 4294967296 = ((4294967296 - x : Nat) : Int) := by omega
  rw [e1, u32_and_nat x _ (by omega) (by omega), hlow]
  omega

theorem tz_core (x k idx : Nat) (w : World) (hx0 : ((x : Int) == 0) = false)
    (key : bits BinOp.and IntKind.u32 (x : Int) (-(x : Int) % 4294967296) * 125613361 % 4294967296 / 134217728 = (idx : Int))
    (hi : idx < 32) (hk : k < 32) (hcell : w.cell? ⟨0, idx, none⟩ = some (.int .u8 k)) :
    Calls Tryd.prog 134 #[.int .u32 x] w fun e w' => e = .returned (.int .i64 k) ∧ w' = w := by
  go_enter Tryd.func134, Tryd.ntmps134
  go_wp2_with (simp only [key])
  go_ret
  exact ⟨rfl, rfl⟩

theorem least_any (M : Nat) (w : World) (hM : M < 65536) (h0 : M ≠ 0) (hT : TabAt w) :
    Calls Tryd.prog 97 #[.int .u32 (M : Int)] w fun e w' => e = .returned (.int .i64 (leastM M : Int)) ∧ w = w' := by
  obtain ⟨hlow, hk⟩ := Lib.lowest_bit 32 M h0 (by omega)
  obtain ⟨hi, htab⟩ := Lib.deBruijn32_at _ hk
  have hcell := hT _ hi
  rw [htab] at hcell
  have c := Lib.hid (tz_core M _ _ w (by simp; omega) (tz_key M _ hM h0 hlow) hi hk hcell)
  clear hcell htab hi hlow
  go_enter Tryd.func97, Tryd.ntmps97
  go_wp2_with fail
  refine c.out.mono ?_
  rintro e w' ⟨rfl, hw⟩
  subst hw
  go_wp2
  go_ret
  exact ⟨rfl, rfl⟩

end Go.Proofs.YtjbfoiolcpigfaaDoor

/- Walks: DistancesFrom, of the program. -/
namespace Go.Proofs.YtjbfoiolcpigfaaDoor
open Go.RowKit Go.Shelf
attribute [local go_sem] Oper.semAt_some

theorem calls_marks {P : Program} {f : FuncId} {fn : Func} {c : Code} {args : Array Value} {w : World} {R : Ending → World → Prop}
    (hf : P.funcs[f]? = some fn) (hb : fn.body = some c)
    (h : c.wp P (bodyPostM Fence.wide 9 P fn R) { tmps := args ++ Array.replicate (fn.ntmps - args.size) undef, defers := [] } w) : Calls P f args w R :=
  (callsIn_wide (n := 9)).1 (callsIn_of_wp_marks hf hb trivial (wpIn_wide.2 h))

theorem nearM_eq {L : List (List Int)} (hG : GraphP L) : nearM (rowM L) = nearB L := by
  funext a b
  show (rowM L a).testBit b = hasB (nthR L a) (b : Int)
  have hs : ∀ v, v < L.length → SetP (nthR L v) L.length := fun v hv => (hG.2.1 v hv).1
  have hz := hG.1
  by_cases ha : a < L.length
  · have h1 := rowM_edge hG ha (b : Int)
    by_cases hb : b < 16
    · have e : hasM (rowM L a) (b : Int) = (rowM L a).testBit b := by unfold hasM; rw [decide_eq_true (by omega)]; simp
      rw [← e, rowM_has hs ha hb]
    · have e1 : (rowM L a).testBit b = false := Nat.testBit_lt_two_pow (Nat.lt_of_lt_of_le (rowM_lt (by omega) hs a) (Nat.pow_le_pow_right (n := 2) (by omega) (by omega : 16 ≤ b)))
      have e2 : hasM (rowM L a) (b : Int) = false := by unfold hasM; rw [decide_eq_false (by omega)]; rfl
      rw [e1]
      cases hh : hasB (nthR L a) (b : Int) with
      | false => rfl
      | true =>
        obtain ⟨i, hi, e⟩ := (hasB_iff _ _).1 hh
        have := (hs a ha i hi).2.1
        omega
  · have e1 : rowM L a = 0 := by unfold rowM; rw [if_neg ha]
    have e2 : nthR L a = [] := by unfold nthR; rw [List.getD_eq_getElem?_getD, List.getElem?_eq_none (by omega)]; rfl
    rw [e1, e2]
    simp [hasB]
theorem bitS_whole (n : Nat) : bitS (2 ^ n - 1) = allS n := by
  funext u
  show (2 ^ n - 1).testBit u = allS n u
  rw [whole_bit, Bool.eq_iff_iff, decide_eq_true_iff, allS_iff]

open Classical in
/-- The distances of those that have come, -1 for all others. -/
noncomputable def doneTo (A : Nat → Nat → Bool) (S : Nat → Bool) (v : Nat) (pre : List (Nat × Nat)) (j : Nat) : Int := if ∃ d, (j, d) ∈ pre then dOf A S v j else -1
open Classical in
theorem doneTo_nil (A : Nat → Nat → Bool) (S : Nat → Bool) (v j : Nat) : doneTo A S v [] j = -1 := by unfold doneTo; rw [if_neg (by simp)]
open Classical in
theorem doneTo_at {A : Nat → Nat → Bool} {S : Nat → Bool} {v : Nat} {pre : List (Nat × Nat)} {p : Nat × Nat} (h : AtD A S v p.2 p.1) : doneTo A S v (pre ++ [p]) p.1 = (p.2 : Int) := by
  unfold doneTo
  rw [if_pos ⟨p.2, by simp⟩]
  exact dOf_at h
open Classical in
theorem doneTo_other {A : Nat → Nat → Bool} {S : Nat → Bool} {v : Nat} {pre : List (Nat × Nat)} {p : Nat × Nat} {j : Nat} (h : j ≠ p.1) : doneTo A S v (pre ++ [p]) j = doneTo A S v pre j := by
  unfold doneTo
  have : (∃ d, (j, d) ∈ pre ++ [p]) ↔ ∃ d, (j, d) ∈ pre := by
    constructor
    · rintro ⟨d, hd⟩
      rcases List.mem_append.1 hd with hd | hd
      · exact ⟨d, hd⟩
      · simp at hd; rw [← hd] at h; exact absurd rfl h
    · rintro ⟨d, hd⟩; exact ⟨d, List.mem_append.2 (.inl hd)⟩
  simp only [this]
open Classical in
theorem doneTo_all {A : Nat → Nat → Bool} {S : Nat → Bool} {v : Nat} (hS : ∀ u, S u = true → u < 16) (j : Nat) : doneTo A S v (visTo A S v 17) j = dOf A S v j := by
  unfold doneTo
  by_cases h : ∃ d, (j, d) ∈ visTo A S v 17
  · rw [if_pos h]
  · rw [if_neg h]
    symm
    refine dOf_none (fun k hk => h ⟨k, (visTo_mem hS).2 ⟨?_, hk⟩⟩)
    have := atD_lt hS hk
    show k < 17
    omega

set_option maxHeartbeats 4000000 in
set_option maxRecDepth 100000 in
theorem implDistancesFrom_any (v : Value) (L : List (List Int)) (x : Int) (w : World) (h : GridAt w v L) (_hx : I64 x) : Calls Tryd.prog 33 #[.agg #[v], .int .i64 x] w (GaveRow w (dfL L x)) := by
  obtain ⟨a0, c0, rfl⟩ := h.slice
  have ha : Below w.heap.size w (w.alloc (.cells #[.slice a0 L.length c0] 29)) := (Below.refl _ _).alloc (Nat.le_refl _) _
  have hk := h.keep ha
  have HA := Lib.hid ha
  clear ha
  refine calls_marks Tryd.func33 rfl ?_
  simp only [Tryd.ntmps33, List.size_toArray, List.length_cons, List.length_nil, Nat.reduceAdd, Nat.reduceSub, Array.replicate_succ, Array.replicate_zero, List.push_toArray, List.append_toArray, List.nil_append, List.cons_append]
  go_wp2_with fail
  refine (netOf_any _ _ _ hk).mono ?_
  rintro e w1 ⟨rfl, hb1⟩
  have HB1 : Hid (Below w.heap.size w w1) := HA.out.trans (hb1.mono (by simp))
  have hz : w.heap.size ≤ w1.heap.size := HB1.out.size
  have hnb := netBlk_new w1 0 (fun _ => 0)
  clear hb1 hk h HA
  by_cases hG : GraphP L
  · have hzz := hG.1
    have hsP : ∀ v, v < L.length → SetP (nthR L v) L.length := fun v hv => (hG.2.1 v hv).1
    have HLT : Hid (∀ i, rowM L i < 65536) := fun i => rowM_lt (by omega) hsP i
    have HNE := Lib.hid (nearM_eq hG)
    have HG := Lib.hid hG
    have hmk := run_make_row' (P := Tryd.prog) 36 2 (.int .i64 0) 8 Tryd.underlying36 Tryd.infoI rfl .i64 .i64 L.length (by omega) (by omega)
    rw [decide_eq_true hG, netArr_yes hG]
    clear hG hsP
    by_cases hin : inB x 0 ((L.length : Int) - 1) = true
    · have hxx : 0 ≤ x ∧ x ≤ (L.length : Int) - 1 := by simpa [inB] using hin
      have HE : Hid (dfL L x = distL L.length (nearB L) (allS L.length) x.toNat) := by show _ = _; unfold dfL dfB; rw [decide_eq_true HG.out, hin]; rfl
      have hdv : Hid (decide (0 ≤ x ∧ x < (L.length : Int)) = true) := by show decide _ = true; rw [decide_eq_true_iff]; omega
      obtain ⟨y, rfl⟩ : ∃ y : Nat, x = (y : Int) := ⟨x.toNat, by omega⟩
      have hy : y < L.length := by omega
      clear hin hxx
      go_wp2_with (first | (refine wpList_store_net rfl 74 (.tmp 5) (.tmp 14) rfl w1.heap.size L.length (rowM L) rfl rfl Tryd.sizeNet 0 (fun _ => 0) hnb ?_; intro w3 hp; have hn0 := hp.net.at.1; have HNet := Lib.hid hp.net.at; have HB3 : Hid (Below w.heap.size w w3) := (HB1.out.alloc hz _).trans (hp.below.mono hz); clear hp) | (go_at_call 87; refine (isVertex_any _ _ _).mono ?_; rintro e w' ⟨rfl, rfl⟩; rw [hdv.out]))
      have HR := Lib.hid (World.rowIs_made w3 (.int .i64 0) L.length 2)
      have HRS : Hid (((w3.alloc (.cells (madeCells #[.int .i64 0] L.length) 2)).alloc (.cells #[.slice (some ⟨w3.heap.size, 0, none⟩) L.length L.length] 36)).cell? ⟨w3.heap.size + 1, 0, none⟩ = some (.slice (some ⟨w3.heap.size, 0, none⟩) L.length L.length)) := by show _ = _; go_simp
      have hz3 : w.heap.size ≤ w3.heap.size := HB3.out.size
      have hw13 : w1.heap.size < w3.heap.size := block_lt_of_cell HNet.out.1
      clear hn0 hnb hmk
      go_loopw [30] (fun i wr => ∃ k : Nat, k ≤ L.length ∧ i = .int .i64 k ∧ wr.rowIs w3.heap.size 2 L.length (fun j => if j < k then .int .i64 (-1) else .int .i64 0) ∧ wr.cell? ⟨w3.heap.size + 1, 0, none⟩ = some (.slice (some ⟨w3.heap.size, 0, none⟩) L.length L.length) ∧ Below w3.heap.size w3 wr ∧ w3.heap.size + 2 ≤ wr.heap.size) (fun i _ => L.length - (intOf i).toNat)
      case atStart =>
        refine ⟨0, Nat.zero_le _, rfl, ?_, HRS.out, ((Below.refl _ _).alloc (Nat.le_refl _) _).alloc (by simp) _, by simp⟩
        exact (HR.out.of_block (Below.heap_alloc _ _ _ HR.out.lt)).congr (fun i hi => by simp)
      case round =>
        clear HR HRS
        obtain ⟨k, hk, rfl, hr, hbx, hb, hzr⟩ := hrel
        have HRR := Lib.hid hr
        have HB := Lib.hid hb
        by_cases hlt : k < L.length
        · have hcf := hr.frozen k
          have hcc := hr.cell hlt
          simp only [Nat.lt_irrefl, if_false] at hcc
          clear hr hb
          go_wp2
          go_roundw
          case rel =>
            refine ⟨k + 1, by omega, by go_num, (HRR.out.set k (.int .i64 (-1))).congr (fun j hj => ?_), ?_, HB.out.setCell (Nat.le_refl _) _, by simp; omega⟩
            · by_cases e : j = k
              · subst e; simp
              · simp only [e, if_false]
                by_cases h1 : j < k
                · simp [h1, Nat.lt_succ_of_lt h1]
                · simp [h1, show ¬ j < k + 1 from by omega]
            · rw [World.cell?_setCell_other _ _ _ _ (by intro e; simp at e)]; exact hbx
          case measure => simp [intOf]; omega
        · obtain rfl : k = L.length := by omega
          have hnc := cell_keep hb HNet.out.1
          have HRI : Hid (wr.rowIs w3.heap.size 2 L.length (fun j => .int .i64 (doneTo (nearB L) (allS L.length) y [] j))) := HRR.out.congr (fun j hj => by simp [hj, doneTo_nil])
          have HNR := Lib.hid (HNet.out.keep hb)
          have HBW : Hid (Below w.heap.size w wr) := HB3.out.trans (HB.out.mono hz3)
          have HBX := Lib.hid hbx
          clear hr hb HRR HB hbx hlt hk HNet HB3 HB1
          go_wp2_with (first | (go_at_call 89; refine (wholeMask_any L.length _ hzz.2).mono ?_; rintro e w' ⟨rfl, rfl⟩) | (go_at_call 88; refine (visits_any _ _ _ _).mono ?_; rintro e w' ⟨rfl, rfl⟩))
          obtain ⟨w5, hw5⟩ : ∃ w5, ((wr.alloc (.cells #[.pointer (some ⟨w1.heap.size, 0, none⟩)] 113)).alloc (.cells #[.int .i64 (y : Int)] 2)).alloc (.cells #[.int .u32 ((2 ^ L.length - 1 : Nat) : Int)] 71) = w5 := ⟨_, rfl⟩
          have hb5 : Below wr.heap.size wr w5 := by rw [← hw5]; exact (((Below.refl _ _).alloc (Nat.le_refl _) _).alloc (by simp) _).alloc (by simp; omega) _
          have hs5 : w5.heap.size = wr.heap.size + 3 := by rw [← hw5]; simp
          have HV : Hid (VisIn w5 (wr.heap.size + 1) (wr.heap.size + 2) wr.heap.size w1.heap.size L.length (rowM L) y (2 ^ L.length - 1)) := by
            refine ⟨?_, ?_, ?_, HNR.out.keep hb5⟩
            · subst hw5; go_simp
            · subst hw5; go_simp
            · subst hw5; go_simp
          have hwl := whole_lt (n := L.length) hzz.2
          have hwb : (2 ^ L.length - 1).testBit y = true := by rw [whole_bit]; simpa using hy
          have HS := Lib.hid (bitS_lt hwl)
          have HSQ := Lib.hid (visits1_seq (fun k => k = w3.heap.size) 8 (wr.heap.size + 1) (wr.heap.size + 2) wr.heap.size w1.heap.size L.length (rowM L) y (2 ^ L.length - 1) w5 HLT.out hwl (by omega) hwb HV.out ⟨by omega, by omega, by omega, by omega⟩ (fun k hk => by rw [hk]; omega))
          rw [hw5]
          have HR5 := Lib.hid (HRI.out.of_block (hb5.block _ HRI.out.lt))
          have HX5 := Lib.hid (cell_keep hb5 HBX.out)
          have HB5 : Hid (Below w.heap.size w w5) := HBW.out.trans (hb5.mono HBW.out.size)
          rw [HNE.out, bitS_whole] at HSQ
          clear hw5 hnc HRI HBX HBW HV hb5 HNR
          refine (wpIn_wide (n := 9)).1 ?_
          refine wpIn_rangeFunc_vis rfl (by omega) (gf := 129) (lb := #[.pointer (some ⟨wr.heap.size + 1, 0, none⟩), .pointer (some ⟨wr.heap.size + 2, 0, none⟩), .pointer (some ⟨wr.heap.size, 0, none⟩)]) rfl trivial (enters_of Tryd.func129 (by kernel_rfl) rfl)
            HSQ.out (fun k hk => by rw [hk]; omega) (fun _ => rfl)
            (fun pre W => W.rowIs w3.heap.size 2 L.length (fun j => .int .i64 (doneTo (nearB L) (allS L.length) y pre j)) ∧ W.cell? ⟨w3.heap.size + 1, 0, none⟩ = some (.slice (some ⟨w3.heap.size, 0, none⟩) L.length L.length) ∧ Below w.heap.size w W)
            (fun _ _ _ => False)
            (fun s A B hs hb => ⟨hs.1.of_block (hb.block _ (by omega)), (hb.cell (by simp; omega)).trans hs.2.1, hs.2.2.trans (hb.mono (by omega))⟩)
            (fun _ _ _ _ h _ => h)
            ⟨HR5.out, HX5.out, HB5.out⟩
            ?a1 ?assign ?body ?done ?stop
          case assign =>
            intro l x W K hK
            simp only [encP]
            gi_wp2
            exact hK
          case body =>
            rintro l pre ⟨u, d⟩ W ⟨hr, hbx, hb⟩ hsz ⟨hat, hd16⟩
            dsimp only at hat hd16
            have hun : u < L.length := (allS_iff _ _).1 (wk_in hat.1)
            have hcf := hr.frozen u
            have hcc := hr.cell hun
            have HRR := Lib.hid hr
            have HB := Lib.hid hb
            have HBX := Lib.hid hbx
            have HAT := Lib.hid hat
            clear hr hb hat
            gi_wp2
            refine ⟨KeepsBut.setCell _ _ _ rfl, (HRR.out.set u _).congr (fun j hj => ?_), ?_, HB.out.setCell (p := ⟨w3.heap.size, u, none⟩) hz3 _⟩
            · by_cases e : j = u
              · subst e; simp; rw [doneTo_at (p := (j, d)) HAT.out]
              · simp only [e, if_false]; rw [doneTo_other (p := (u, d)) e]
            · rw [World.cell?_setCell_other _ _ _ _ (by intro e; simp at e)]; exact HBX.out
          case done =>
            rintro D ys W rfl ⟨hr, hbx, hb⟩ hD hK
            have hx2 := hbx
            have HRR := Lib.hid hr
            have HB := Lib.hid hb
            have HK := Lib.hid hK
            have hDW : D < W.heap.size := (Array.getElem?_eq_some_iff.1 hK).1
            clear hr hb hK
            go_wp2
            refine ⟨by simp, .inl ⟨_, _, rfl, run_takeDeferred HK.out, ?_⟩⟩
            refine ⟨_, results_tmp rfl _ _ _, _, _, _, rfl, ?_, HB.out.trans (below_put W D _ (by omega) hDW)⟩
            rw [HE.out, Int.toNat_natCast]
            have hrp : (W.putObj D (.deferred none)).rowIs w3.heap.size 2 L.length (fun j => .int .i64 (doneTo (nearB L) (allS L.length) y (visTo (nearB L) (allS L.length) y 17) j)) := HRR.out.of_block (World.putObj_heap_other (by omega))
            have hS16 : ∀ u, allS L.length u = true → u < 16 := fun u hu => by have := (allS_iff _ _).1 hu; omega
            exact OwnRow.of_rowIs hrp hz3 (distL_len _ _ _ _) (by unfold maxLen; omega) (distL_i64 (by omega) (fun u hu => (allS_iff _ _).1 hu)) (fun i hi => by rw [distL_nth hi, doneTo_all hS16])
          case stop =>
            rintro D c pre W _ h _ _
            exact h.elim
    · have hin' : inB x 0 ((L.length : Int) - 1) = false := by simpa using hin
      have HE : Hid (dfL L x = []) := dfL_no (by unfold dfB; rw [hin']; simp)
      have hdv : Hid (decide (0 ≤ x ∧ x < (L.length : Int)) = false) := by show decide _ = false; rw [← inB_vertex]; exact hin'
      clear hin hin' hmk
      go_wp2_with (first | (refine wpList_store_net rfl 74 (.tmp 5) (.tmp 14) rfl w1.heap.size L.length (rowM L) rfl rfl Tryd.sizeNet 0 (fun _ => 0) hnb ?_; intro w3 hp; have hn0 := hp.net.at.1; have HB3 : Hid (Below w.heap.size w w3) := (HB1.out.alloc hz _).trans (hp.below.mono hz); clear hp) | (go_at_call 87; refine (isVertex_any _ _ _).mono ?_; rintro e w' ⟨rfl, rfl⟩; rw [hdv.out]))
      exact ⟨_, results_tmp rfl _ _ _, _, _, _, rfl, by rw [HE.out]; exact ⟨by simp, Nat.zero_le _, .inl ⟨rfl, rfl⟩⟩, HB3.out⟩
  · have HE : Hid (dfL L x = []) := dfL_no (by unfold dfB; rw [decide_eq_false hG]; simp)
    rw [decide_eq_false hG, netArr_no hG]
    clear hG
    go_wp2_with (refine wpList_store_net rfl 74 (.tmp 5) (.tmp 14) rfl w1.heap.size 0 (fun _ => 0) rfl rfl Tryd.sizeNet 0 (fun _ => 0) hnb ?_; intro w3 hp; have HB3 : Hid (Below w.heap.size w w3) := (HB1.out.alloc hz _).trans (hp.below.mono hz); clear hp)
    exact ⟨_, results_tmp rfl _ _ _, _, _, _, rfl, by rw [HE.out]; exact ⟨by simp, Nat.zero_le _, .inl ⟨rfl, rfl⟩⟩, HB3.out⟩

end Go.Proofs.YtjbfoiolcpigfaaDoor

/- Walks: what can be reached. -/
namespace Go.Proofs.YtjbfoiolcpigfaaDoor
open Go.RowKit Go.Shelf
attribute [local go_sem] Oper.semAt_some

/-- The mask of those that have come. -/
def gotN (pre : List (Nat × Nat)) : Nat := pre.foldl (fun m p => m ||| 2 ^ p.1) 0
theorem gotN_snoc (pre : List (Nat × Nat)) (p : Nat × Nat) : gotN (pre ++ [p]) = gotN pre ||| 2 ^ p.1 := by simp [gotN]
theorem gotN_bit (pre : List (Nat × Nat)) (u : Nat) : (gotN pre).testBit u = true ↔ ∃ p, p ∈ pre ∧ p.1 = u := by
  have key : ∀ (pre : List (Nat × Nat)) (m : Nat), (pre.foldl (fun m p => m ||| 2 ^ p.1) m).testBit u = true ↔ m.testBit u = true ∨ ∃ p, p ∈ pre ∧ p.1 = u := by
    intro pre
    induction pre with
    | nil => intro m; simp
    | cons q pre ih =>
      intro m
      rw [List.foldl_cons, ih, Nat.testBit_or, Nat.testBit_two_pow, Bool.or_eq_true, decide_eq_true_iff]
      constructor
      · rintro ((h | h) | ⟨p, hp, e⟩)
        · exact .inl h
        · exact .inr ⟨q, by simp, h⟩
        · exact .inr ⟨p, by simp [hp], e⟩
      · rintro (h | ⟨p, hp, e⟩)
        · exact .inl (.inl h)
        · rcases List.mem_cons.1 hp with rfl | hp
          · exact .inl (.inr e)
          · exact .inr ⟨p, hp, e⟩
  unfold gotN
  rw [key]
  simp
open Classical in
/-- The mask of all that can be reached. -/
noncomputable def reachN (A : Nat → Nat → Bool) (S : Nat → Bool) (v : Nat) : Nat := pm (fun u => decide (∃ k, AtD A S v k u))
theorem reachN_lt (A : Nat → Nat → Bool) (S : Nat → Bool) (v : Nat) : reachN A S v < 65536 := pm_lt _
open Classical in
theorem reachN_bit {A : Nat → Nat → Bool} {S : Nat → Bool} {v : Nat} (hS : ∀ u, S u = true → u < 16) (u : Nat) : (reachN A S v).testBit u = true ↔ ∃ k, AtD A S v k u := by
  unfold reachN
  rw [pm_bit, Bool.and_eq_true, decide_eq_true_iff, decide_eq_true_iff]
  exact ⟨fun h => h.2, fun h => ⟨hS u (wk_in h.choose_spec.1), h⟩⟩
theorem gotN_all {A : Nat → Nat → Bool} {S : Nat → Bool} {v : Nat} (hS : ∀ u, S u = true → u < 16) : gotN (visTo A S v 17) = reachN A S v := bit_ext fun u => by
  rw [gotN_bit, reachN_bit hS]
  constructor
  · rintro ⟨p, hp, rfl⟩
    exact ⟨_, ((visTo_mem hS).1 hp).2⟩
  · rintro ⟨k, hk⟩
    have := atD_lt hS hk
    exact ⟨(u, k), (visTo_mem hS).2 ⟨by show k < 17; omega, hk⟩, rfl⟩

set_option maxHeartbeats 2000000 in
set_option maxRecDepth 100000 in
theorem reached_any (bn n : Nat) (M : Nat → Nat) (v K : Nat) (w : World) (h : NetAt w bn n M) (hM : ∀ i, M i < 65536) (hK : K < 65536) (hv : v < 16) (hKv : K.testBit v = true) :
    Calls Tryd.prog 96 #[.pointer (some ⟨bn, 0, none⟩), .int .i64 (v : Int), .int .u32 (K : Int)] w fun e w' => e = .returned (.int .u32 (reachN (nearM M) (bitS K) v : Int)) ∧ Below w.heap.size w w' := by
  have hbn : bn < w.heap.size := block_lt_of_cell h.1
  refine calls_marks Tryd.func96 rfl ?_
  simp only [Tryd.ntmps96, List.size_toArray, List.length_cons, List.length_nil, Nat.reduceAdd, Nat.reduceSub, Array.replicate_succ, Array.replicate_zero, List.push_toArray, List.append_toArray, List.nil_append, List.cons_append]
  go_wp2_with (go_at_call 88; refine (visits_any _ _ _ _).mono ?_; rintro e w' ⟨rfl, rfl⟩)
  obtain ⟨w5, hw5⟩ : ∃ w5, (((w.alloc (.cells #[.int .u32 0] 71)).alloc (.cells #[.pointer (some ⟨bn, 0, none⟩)] 113)).alloc (.cells #[.int .i64 (v : Int)] 2)).alloc (.cells #[.int .u32 (K : Int)] 71) = w5 := ⟨_, rfl⟩
  have hb5 : Below w.heap.size w w5 := by rw [← hw5]; exact ((((Below.refl _ _).alloc (Nat.le_refl _) _).alloc (by simp) _).alloc (by simp; omega) _).alloc (by simp; omega) _
  have hs5 : w5.heap.size = w.heap.size + 4 := by rw [← hw5]; simp
  have HV : Hid (VisIn w5 (w.heap.size + 2) (w.heap.size + 3) (w.heap.size + 1) bn n M v K) := by
    refine ⟨?_, ?_, ?_, h.keep hb5⟩
    · subst hw5; go_simp
    · subst hw5; go_simp
    · subst hw5; go_simp
  have HR5 : Hid (w5.rowIs w.heap.size 71 1 (fun _ => .int .u32 (gotN [] : Int))) := by
    have h1 : (w.alloc (.cells #[.int .u32 0] 71)).rowIs w.heap.size 71 1 (fun _ => .int .u32 (gotN [] : Int)) := World.rowIs_alloc _ _ _ _ (fun i hi => by simp at hi; subst hi; rfl)
    refine h1.of_block ?_
    rw [← hw5]
    exact ((((Below.refl (w.heap.size + 1) _).alloc (by simp) _).alloc (by simp) _).alloc (by simp <;> omega) _).block _ (by omega)
  have HS := Lib.hid (bitS_lt hK)
  have HSQ := Lib.hid (visits1_seq (fun k => k = w.heap.size) 8 (w.heap.size + 2) (w.heap.size + 3) (w.heap.size + 1) bn n M v K w5 hM hK hv hKv HV.out ⟨by omega, by omega, by omega, by omega⟩ (fun k hk => by rw [hk]; omega))
  have HB5 := Lib.hid hb5
  simp only [Nat.add_assoc, Nat.reduceAdd] at *
  rw [hw5]
  clear hw5 HV hb5 h
  refine (wpIn_wide (n := 9)).1 ?_
  refine wpIn_rangeFunc_vis rfl (by omega) (gf := 129) (lb := #[.pointer (some ⟨w.heap.size + 2, 0, none⟩), .pointer (some ⟨w.heap.size + 3, 0, none⟩), .pointer (some ⟨w.heap.size + 1, 0, none⟩)]) rfl trivial (enters_of Tryd.func129 (by kernel_rfl) rfl)
    HSQ.out (fun k hk => by rw [hk]; omega) (fun _ => rfl)
    (fun pre W => W.rowIs w.heap.size 71 1 (fun _ => .int .u32 (gotN pre : Int)) ∧ gotN pre < 65536 ∧ Below w.heap.size w W)
    (fun _ _ _ => False)
    (fun s A B hs hb => ⟨hs.1.of_block (hb.block _ (by omega)), hs.2.1, hs.2.2.trans (hb.mono (by omega))⟩)
    (fun _ _ _ _ h _ => h)
    ⟨HR5.out, by simp [gotN], HB5.out⟩
    ?a1 ?assign ?body ?done ?stop
  case assign =>
    intro l x W K hK
    simp only [encP]
    gi_wp2
    exact hK
  case body =>
    rintro l pre ⟨u, d⟩ W ⟨hr, hgl, hb⟩ hsz ⟨hat, hd16⟩
    dsimp only at hat hd16
    have hu : u < 16 := HS.out u (wk_in hat.1)
    have hcc := hr.cell (i := 0) (by omega)
    have hcf := hr.frozen 0
    have HRR := Lib.hid hr
    have HB := Lib.hid hb
    have hg2 : gotN pre ||| 2 ^ u < 65536 := or_lt16 hgl hu
    clear hr hb hat
    gi_wp2_with fail
    refine ⟨trivial, ?_⟩
    refine (CallsIn.inRound l (callsIn_wide.2 (add_any _ _ _ _ _ hcc hcf hgl (by omega) (by omega)))).mono ?_
    rintro e w7 ⟨rfl, hd7⟩
    gi_wp2
    refine ⟨(KeepsBut.setCell (T := fun k => k = w.heap.size) _ _ _ rfl).trans (KeepsBut.below (hd7.below _)), ?_, ?_, (HB.out.setCell (p := ⟨w.heap.size, 0, none⟩) (Nat.le_refl _) _).trans (hd7.below _)⟩
    · refine (rowIs_drawn (HRR.out.set 0 _) hd7).congr (fun j hj => ?_)
      rw [gotN_snoc]
      simp [show j = 0 from by omega]
    · rw [gotN_snoc]; exact hg2
  case done =>
    rintro D ys W rfl ⟨hr, hgl, hb⟩ hD hK
    have hcc := hr.cell (i := 0) (by omega)
    have HRR := Lib.hid hr
    have HB := Lib.hid hb
    have HK := Lib.hid hK
    have hDW : D < W.heap.size := (Array.getElem?_eq_some_iff.1 hK).1
    clear hr hb hK
    go_wp2
    refine ⟨by simp, .inl ⟨_, _, rfl, run_takeDeferred HK.out, ?_⟩⟩
    exact ⟨_, results_tmp rfl _ _ _, by rw [← gotN_all HS.out]; rfl, HB.out.trans (below_put W D _ (by omega) hDW)⟩
  case stop =>
    rintro D c pre W _ h _ _
    exact h.elim

end Go.Proofs.YtjbfoiolcpigfaaDoor
