/- The texts Y1, X4, joined. -/
import Derived.Test.YtjbfoiolcpigfaaDoorX3
import Derived.Lib.TrailingZeros
import Derived.Test.YtjbfoiolcpigfaaDoorC5

/- Walks: the least vertex of a mask, by the library's table. -/
namespace Go.Proofs.YtjbfoiolcpigfaaDoor
open Go.RowKit

/-- The library's table lies where the program has it. -/
def TabAt (w : World) : Prop := ∀ i, i < Lib.deBruijn32tab.length → w.cell? ⟨0, i, none⟩ = some (.int .u8 (Lib.deBruijn32tab.getD i 0 : Nat))
theorem TabAt.keep {w w' : World} (h : TabAt w) (hb : Below w.heap.size w w') : TabAt w' := fun i hi => cell_keep hb (h i hi)
theorem TabAt.lt {w : World} (h : TabAt w) : 0 < w.heap.size := block_lt_of_cell (h 0 (by decide))
theorem TabAt.keepB {w w' : World} {B : Nat} (h : TabAt w) (hb : Below B w w') (hB : 0 < B) : TabAt w' := fun i hi => by rw [hb.cell hB]; exact h i hi

/-- The least bit of a mask. -/
def leastM (M : Nat) : Nat := Lib.ctz 32 M
theorem leastM_spec {M : Nat} (h0 : M ≠ 0) (hM : M < 65536) : leastM M < 16 ∧ M.testBit (leastM M) = true ∧ ∀ j, j < leastM M → M.testBit j = false := by
  unfold leastM Lib.ctz
  rw [if_neg h0]
  obtain ⟨m, hm, hk⟩ := Lib.ctzFrom_spec 32 M (by omega) (by omega)
  generalize Lib.ctzFrom 32 M = k at *
  have hb : ∀ i, M.testBit i = (decide (k ≤ i) && (2 * m + 1).testBit (i - k)) := fun i => by rw [hm, Nat.mul_comm, Nat.testBit_mul_two_pow]
  have h2 : M.testBit k = true := by rw [hb]; simp [Nat.testBit_zero]
  refine ⟨?_, h2, fun j hj => by rw [hb]; simp; omega⟩
  apply Nat.lt_of_not_le
  intro hle
  rw [Nat.testBit_lt_two_pow (Nat.lt_of_lt_of_le hM (Nat.pow_le_pow_right (n := 2) (by omega) hle : 2 ^ 16 ≤ 2 ^ k))] at h2
  cases h2

theorem tz_key (x a : Nat) (hx : x < 65536) (hx0 : x ≠ 0) (hlow : x &&& (4294967296 - x) = a) :
    bits BinOp.and IntKind.u32 (x : Int) (-(x : Int) % 4294967296) * 125613361 % 4294967296 / 134217728 = ((a * 125613361 % 4294967296 / 134217728 : Nat) : Int) := by
  have e1 : -(x : Int) % 4294967296 = ((4294967296 - x : Nat) : Int) := by omega
  rw [e1, u32_and_nat x _ (by omega) (by omega), hlow]
  omega

theorem tz_core (x k idx : Nat) (w : World) (hx0 : ((x : Int) == 0) = false)
    (key : bits BinOp.and IntKind.u32 (x : Int) (-(x : Int) % 4294967296) * 125613361 % 4294967296 / 134217728 = (idx : Int))
    (hi : idx < 32) (hk : k < 32) (hcell : w.cell? ⟨0, idx, none⟩ = some (.int .u8 k)) :
    Calls Tryd.prog 134 #[.int .u32 x] w fun e w' => e = .returned (.int .i64 k) ∧ w' = w := by
  go_enter Tryd.func134, Tryd.ntmps134
  go_wp2_with (simp only [key])
  go_ret
  exact ⟨rfl, rfl⟩

theorem least_any (M : Nat) (w : World) (hM : M < 65536) (h0 : M ≠ 0) (hT : TabAt w) :
    Calls Tryd.prog 97 #[.int .u32 (M : Int)] w fun e w' => e = .returned (.int .i64 (leastM M : Int)) ∧ w = w' := by
  obtain ⟨hlow, hk⟩ := Lib.lowest_bit 32 M h0 (by omega)
  obtain ⟨hi, htab⟩ := Lib.deBruijn32_at _ hk
  have hcell := hT _ hi
  rw [htab] at hcell
  have c := Lib.hid (tz_core M _ _ w (by simp; omega) (tz_key M _ hM h0 hlow) hi hk hcell)
  clear hcell htab hi hlow
  go_enter Tryd.func97, Tryd.ntmps97
  go_wp2_with fail
  refine c.out.mono ?_
  rintro e w' ⟨rfl, hw⟩
  subst hw
  go_wp2
  go_ret
  exact ⟨rfl, rfl⟩

end Go.Proofs.YtjbfoiolcpigfaaDoor

/- Walks: DistancesFrom, of the program. -/
namespace Go.Proofs.YtjbfoiolcpigfaaDoor
open Go.RowKit Go.Shelf
attribute [local go_sem] Oper.semAt_some

theorem calls_marks {P : Program} {f : FuncId} {fn : Func} {c : Code} {args : Array Value} {w : World} {R : Ending → World → Prop}
    (hf : P.funcs[f]? = some fn) (hb : fn.body = some c)
    (h : c.wp P (bodyPostM Fence.wide 9 P fn R) { tmps := args ++ Array.replicate (fn.ntmps - args.size) undef, defers := [] } w) : Calls P f args w R :=
  (callsIn_wide (n := 9)).1 (callsIn_of_wp_marks hf hb trivial (wpIn_wide.2 h))

theorem nearM_eq {L : List (List Int)} (hG : GraphP L) : nearM (rowM L) = nearB L := by
  funext a b
  show (rowM L a).testBit b = hasB (nthR L a) (b : Int)
  have hs : ∀ v, v < L.length → SetP (nthR L v) L.length := fun v hv => (hG.2.1 v hv).1
  have hz := hG.1
  by_cases ha : a < L.length
  · have h1 := rowM_edge hG ha (b : Int)
    by_cases hb : b < 16
    · have e : hasM (rowM L a) (b : Int) = (rowM L a).testBit b := by unfold hasM; rw [decide_eq_true (by omega)]; simp
      rw [← e, rowM_has hs ha hb]
    · have e1 : (rowM L a).testBit b = false := Nat.testBit_lt_two_pow (Nat.lt_of_lt_of_le (rowM_lt (by omega) hs a) (Nat.pow_le_pow_right (n := 2) (by omega) (by omega : 16 ≤ b)))
      have e2 : hasM (rowM L a) (b : Int) = false := by unfold hasM; rw [decide_eq_false (by omega)]; rfl
      rw [e1]
      cases hh : hasB (nthR L a) (b : Int) with
      | false => rfl
      | true =>
        obtain ⟨i, hi, e⟩ := (hasB_iff _ _).1 hh
        have := (hs a ha i hi).2.1
        omega
  · have e1 : rowM L a = 0 := by unfold rowM; rw [if_neg ha]
    have e2 : nthR L a = [] := by unfold nthR; rw [List.getD_eq_getElem?_getD, List.getElem?_eq_none (by omega)]; rfl
    rw [e1, e2]
    simp [hasB]
theorem bitS_whole (n : Nat) : bitS (2 ^ n - 1) = allS n := by
  funext u
  show (2 ^ n - 1).testBit u = allS n u
  rw [whole_bit, Bool.eq_iff_iff, decide_eq_true_iff, allS_iff]

open Classical in
/-- The distances of those that have come, -1 for all others. -/
noncomputable def doneTo (A : Nat → Nat → Bool) (S : Nat → Bool) (v : Nat) (pre : List (Nat × Nat)) (j : Nat) : Int := if ∃ d, (j, d) ∈ pre then dOf A S v j else -1
open Classical in
theorem doneTo_nil (A : Nat → Nat → Bool) (S : Nat → Bool) (v j : Nat) : doneTo A S v [] j = -1 := by unfold doneTo; rw [if_neg (by simp)]
open Classical in
theorem doneTo_at {A : Nat → Nat → Bool} {S : Nat → Bool} {v : Nat} {pre : List (Nat × Nat)} {p : Nat × Nat} (h : AtD A S v p.2 p.1) : doneTo A S v (pre ++ [p]) p.1 = (p.2 : Int) := by
  unfold doneTo
  rw [if_pos ⟨p.2, by simp⟩]
  exact dOf_at h
open Classical in
theorem doneTo_other {A : Nat → Nat → Bool} {S : Nat → Bool} {v : Nat} {pre : List (Nat × Nat)} {p : Nat × Nat} {j : Nat} (h : j ≠ p.1) : doneTo A S v (pre ++ [p]) j = doneTo A S v pre j := by
  unfold doneTo
  have : (∃ d, (j, d) ∈ pre ++ [p]) ↔ ∃ d, (j, d) ∈ pre := by
    constructor
    · rintro ⟨d, hd⟩
      rcases List.mem_append.1 hd with hd | hd
      · exact ⟨d, hd⟩
      · simp at hd; rw [← hd] at h; exact absurd rfl h
    · rintro ⟨d, hd⟩; exact ⟨d, List.mem_append.2 (.inl hd)⟩
  simp only [this]
open Classical in
theorem doneTo_all {A : Nat → Nat → Bool} {S : Nat → Bool} {v : Nat} (hS : ∀ u, S u = true → u < 16) (j : Nat) : doneTo A S v (visTo A S v 17) j = dOf A S v j := by
  unfold doneTo
  by_cases h : ∃ d, (j, d) ∈ visTo A S v 17
  · rw [if_pos h]
  · rw [if_neg h]
    symm
    refine dOf_none (fun k hk => h ⟨k, (visTo_mem hS).2 ⟨?_, hk⟩⟩)
    have := atD_lt hS hk
    show k < 17
    omega

set_option maxHeartbeats 4000000 in
set_option maxRecDepth 100000 in
theorem implDistancesFrom_any (v : Value) (L : List (List Int)) (x : Int) (w : World) (h : GridAt w v L) (_hx : I64 x) : Calls Tryd.prog 33 #[.agg #[v], .int .i64 x] w (GaveRow w (dfL L x)) := by
  obtain ⟨a0, c0, rfl⟩ := h.slice
  have ha : Below w.heap.size w (w.alloc (.cells #[.slice a0 L.length c0] 29)) := (Below.refl _ _).alloc (Nat.le_refl _) _
  have hk := h.keep ha
  have HA := Lib.hid ha
  clear ha
  refine calls_marks Tryd.func33 rfl ?_
  simp only [Tryd.ntmps33, List.size_toArray, List.length_cons, List.length_nil, Nat.reduceAdd, Nat.reduceSub, Array.replicate_succ, Array.replicate_zero, List.push_toArray, List.append_toArray, List.nil_append, List.cons_append]
  go_wp2_with fail
  refine (netOf_any _ _ _ hk).mono ?_
  rintro e w1 ⟨rfl, hb1⟩
  have HB1 : Hid (Below w.heap.size w w1) := HA.out.trans (hb1.mono (by simp))
  have hz : w.heap.size ≤ w1.heap.size := HB1.out.size
  have hnb := netBlk_new w1 0 (fun _ => 0)
  clear hb1 hk h HA
  by_cases hG : GraphP L
  · have hzz := hG.1
    have hsP : ∀ v, v < L.length → SetP (nthR L v) L.length := fun v hv => (hG.2.1 v hv).1
    have HLT : Hid (∀ i, rowM L i < 65536) := fun i => rowM_lt (by omega) hsP i
    have HNE := Lib.hid (nearM_eq hG)
    have HG := Lib.hid hG
    have hmk := run_make_row' (P := Tryd.prog) 36 2 (.int .i64 0) 8 Tryd.underlying36 Tryd.infoI rfl .i64 .i64 L.length (by omega) (by omega)
    rw [decide_eq_true hG, netArr_yes hG]
    clear hG hsP
    by_cases hin : inB x 0 ((L.length : Int) - 1) = true
    · have hxx : 0 ≤ x ∧ x ≤ (L.length : Int) - 1 := by simpa [inB] using hin
      have HE : Hid (dfL L x = distL L.length (nearB L) (allS L.length) x.toNat) := by show _ = _; unfold dfL dfB; rw [decide_eq_true HG.out, hin]; rfl
      have hdv : Hid (decide (0 ≤ x ∧ x < (L.length : Int)) = true) := by show decide _ = true; rw [decide_eq_true_iff]; omega
      obtain ⟨y, rfl⟩ : ∃ y : Nat, x = (y : Int) := ⟨x.toNat, by omega⟩
      have hy : y < L.length := by omega
      clear hin hxx
      go_wp2_with (first | (refine wpList_store_net rfl 74 (.tmp 5) (.tmp 14) rfl w1.heap.size L.length (rowM L) rfl rfl Tryd.sizeNet 0 (fun _ => 0) hnb ?_; intro w3 hp; have hn0 := hp.net.at.1; have HNet := Lib.hid hp.net.at; have HB3 : Hid (Below w.heap.size w w3) := (HB1.out.alloc hz _).trans (hp.below.mono hz); clear hp) | (go_at_call 87; refine (isVertex_any _ _ _).mono ?_; rintro e w' ⟨rfl, rfl⟩; rw [hdv.out]))
      have HR := Lib.hid (World.rowIs_made w3 (.int .i64 0) L.length 2)
      have HRS : Hid (((w3.alloc (.cells (madeCells #[.int .i64 0] L.length) 2)).alloc (.cells #[.slice (some ⟨w3.heap.size, 0, none⟩) L.length L.length] 36)).cell? ⟨w3.heap.size + 1, 0, none⟩ = some (.slice (some ⟨w3.heap.size, 0, none⟩) L.length L.length)) := by show _ = _; go_simp
      have hz3 : w.heap.size ≤ w3.heap.size := HB3.out.size
      have hw13 : w1.heap.size < w3.heap.size := block_lt_of_cell HNet.out.1
      clear hn0 hnb hmk
      go_loopw [30] (fun i wr => ∃ k : Nat, k ≤ L.length ∧ i = .int .i64 k ∧ wr.rowIs w3.heap.size 2 L.length (fun j => if j < k then .int .i64 (-1) else .int .i64 0) ∧ wr.cell? ⟨w3.heap.size + 1, 0, none⟩ = some (.slice (some ⟨w3.heap.size, 0, none⟩) L.length L.length) ∧ Below w3.heap.size w3 wr ∧ w3.heap.size + 2 ≤ wr.heap.size) (fun i _ => L.length - (intOf i).toNat)
      case atStart =>
        refine ⟨0, Nat.zero_le _, rfl, ?_, HRS.out, ((Below.refl _ _).alloc (Nat.le_refl _) _).alloc (by simp) _, by simp⟩
        exact (HR.out.of_block (Below.heap_alloc _ _ _ HR.out.lt)).congr (fun i hi => by simp)
      case round =>
        clear HR HRS
        obtain ⟨k, hk, rfl, hr, hbx, hb, hzr⟩ := hrel
        have HRR := Lib.hid hr
        have HB := Lib.hid hb
        by_cases hlt : k < L.length
        · have hcf := hr.frozen k
          have hcc := hr.cell hlt
          simp only [Nat.lt_irrefl, if_false] at hcc
          clear hr hb
          go_wp2
          go_roundw
          case rel =>
            refine ⟨k + 1, by omega, by go_num, (HRR.out.set k (.int .i64 (-1))).congr (fun j hj => ?_), ?_, HB.out.setCell (Nat.le_refl _) _, by simp; omega⟩
            · by_cases e : j = k
              · subst e; simp
              · simp only [e, if_false]
                by_cases h1 : j < k
                · simp [h1, Nat.lt_succ_of_lt h1]
                · simp [h1, show ¬ j < k + 1 from by omega]
            · rw [World.cell?_setCell_other _ _ _ _ (by intro e; simp at e)]; exact hbx
          case measure => simp [intOf]; omega
        · obtain rfl : k = L.length := by omega
          have hnc := cell_keep hb HNet.out.1
          have HRI : Hid (wr.rowIs w3.heap.size 2 L.length (fun j => .int .i64 (doneTo (nearB L) (allS L.length) y [] j))) := HRR.out.congr (fun j hj => by simp [hj, doneTo_nil])
          have HNR := Lib.hid (HNet.out.keep hb)
          have HBW : Hid (Below w.heap.size w wr) := HB3.out.trans (HB.out.mono hz3)
          have HBX := Lib.hid hbx
          clear hr hb HRR HB hbx hlt hk HNet HB3 HB1
          go_wp2_with (first | (go_at_call 89; refine (wholeMask_any L.length _ hzz.2).mono ?_; rintro e w' ⟨rfl, rfl⟩) | (go_at_call 88; refine (visits_any _ _ _ _).mono ?_; rintro e w' ⟨rfl, rfl⟩))
          obtain ⟨w5, hw5⟩ : ∃ w5, ((wr.alloc (.cells #[.pointer (some ⟨w1.heap.size, 0, none⟩)] 113)).alloc (.cells #[.int .i64 (y : Int)] 2)).alloc (.cells #[.int .u32 ((2 ^ L.length - 1 : Nat) : Int)] 71) = w5 := ⟨_, rfl⟩
          have hb5 : Below wr.heap.size wr w5 := by rw [← hw5]; exact (((Below.refl _ _).alloc (Nat.le_refl _) _).alloc (by simp) _).alloc (by simp; omega) _
          have hs5 : w5.heap.size = wr.heap.size + 3 := by rw [← hw5]; simp
          have HV : Hid (VisIn w5 (wr.heap.size + 1) (wr.heap.size + 2) wr.heap.size w1.heap.size L.length (rowM L) y (2 ^ L.length - 1)) := by
            refine ⟨?_, ?_, ?_, HNR.out.keep hb5⟩
            · subst hw5; go_simp
            · subst hw5; go_simp
            · subst hw5; go_simp
          have hwl := whole_lt (n := L.length) hzz.2
          have hwb : (2 ^ L.length - 1).testBit y = true := by rw [whole_bit]; simpa using hy
          have HS := Lib.hid (bitS_lt hwl)
          have HSQ := Lib.hid (visits1_seq (fun k => k = w3.heap.size) 8 (wr.heap.size + 1) (wr.heap.size + 2) wr.heap.size w1.heap.size L.length (rowM L) y (2 ^ L.length - 1) w5 HLT.out hwl (by omega) hwb HV.out ⟨by omega, by omega, by omega, by omega⟩ (fun k hk => by rw [hk]; omega))
          rw [hw5]
          have HR5 := Lib.hid (HRI.out.of_block (hb5.block _ HRI.out.lt))
          have HX5 := Lib.hid (cell_keep hb5 HBX.out)
          have HB5 : Hid (Below w.heap.size w w5) := HBW.out.trans (hb5.mono HBW.out.size)
          rw [HNE.out, bitS_whole] at HSQ
          clear hw5 hnc HRI HBX HBW HV hb5 HNR
          refine (wpIn_wide (n := 9)).1 ?_
          refine wpIn_rangeFunc_vis rfl (by omega) (gf := 129) (lb := #[.pointer (some ⟨wr.heap.size + 1, 0, none⟩), .pointer (some ⟨wr.heap.size + 2, 0, none⟩), .pointer (some ⟨wr.heap.size, 0, none⟩)]) rfl trivial (enters_of Tryd.func129 (by kernel_rfl) rfl)
            HSQ.out (fun k hk => by rw [hk]; omega) (fun _ => rfl)
            (fun pre W => W.rowIs w3.heap.size 2 L.length (fun j => .int .i64 (doneTo (nearB L) (allS L.length) y pre j)) ∧ W.cell? ⟨w3.heap.size + 1, 0, none⟩ = some (.slice (some ⟨w3.heap.size, 0, none⟩) L.length L.length) ∧ Below w.heap.size w W)
            (fun _ _ _ => False)
            (fun s A B hs hb => ⟨hs.1.of_block (hb.block _ (by omega)), (hb.cell (by simp; omega)).trans hs.2.1, hs.2.2.trans (hb.mono (by omega))⟩)
            (fun _ _ _ _ _ h _ => h)
            ⟨HR5.out, HX5.out, HB5.out⟩
            ?a1 ?assign ?body ?done ?stop
          case assign =>
            intro l x W K hK
            simp only [encP]
            gi_wp2
            exact hK
          case body =>
            rintro l pre ⟨u, d⟩ W ⟨hr, hbx, hb⟩ hsz ⟨hat, hd16, -⟩
            dsimp only at hat hd16
            have hun : u < L.length := (allS_iff _ _).1 (wk_in hat.1)
            have hcf := hr.frozen u
            have hcc := hr.cell hun
            have HRR := Lib.hid hr
            have HB := Lib.hid hb
            have HBX := Lib.hid hbx
            have HAT := Lib.hid hat
            clear hr hb hat
            gi_wp2
            refine ⟨KeepsBut.setCell _ _ _ rfl, (HRR.out.set u _).congr (fun j hj => ?_), ?_, HB.out.setCell (p := ⟨w3.heap.size, u, none⟩) hz3 _⟩
            · by_cases e : j = u
              · subst e; simp; rw [doneTo_at (p := (j, d)) HAT.out]
              · simp only [e, if_false]; rw [doneTo_other (p := (u, d)) e]
            · rw [World.cell?_setCell_other _ _ _ _ (by intro e; simp at e)]; exact HBX.out
          case done =>
            rintro D ys W rfl ⟨hr, hbx, hb⟩ hD hK
            have hx2 := hbx
            have HRR := Lib.hid hr
            have HB := Lib.hid hb
            have HK := Lib.hid hK
            have hDW : D < W.heap.size := (Array.getElem?_eq_some_iff.1 hK).1
            clear hr hb hK
            go_wp2
            refine ⟨by simp, .inl ⟨_, _, rfl, run_takeDeferred HK.out, ?_⟩⟩
            refine ⟨_, results_tmp rfl _ _ _, _, _, _, rfl, ?_, HB.out.trans (below_put W D _ (by omega) hDW)⟩
            rw [HE.out, Int.toNat_natCast]
            have hrp : (W.putObj D (.deferred none)).rowIs w3.heap.size 2 L.length (fun j => .int .i64 (doneTo (nearB L) (allS L.length) y (visTo (nearB L) (allS L.length) y 17) j)) := HRR.out.of_block (World.putObj_heap_other (by omega))
            have hS16 : ∀ u, allS L.length u = true → u < 16 := fun u hu => by have := (allS_iff _ _).1 hu; omega
            exact OwnRow.of_rowIs hrp hz3 (distL_len _ _ _ _) (by unfold maxLen; omega) (distL_i64 (by omega) (fun u hu => (allS_iff _ _).1 hu)) (fun i hi => by rw [distL_nth hi, doneTo_all hS16])
          case stop =>
            rintro D c pre W _ h _ _
            exact h.elim
    · have hin' : inB x 0 ((L.length : Int) - 1) = false := by simpa using hin
      have HE : Hid (dfL L x = []) := dfL_no (by unfold dfB; rw [hin']; simp)
      have hdv : Hid (decide (0 ≤ x ∧ x < (L.length : Int)) = false) := by show decide _ = false; rw [← inB_vertex]; exact hin'
      clear hin hin' hmk
      go_wp2_with (first | (refine wpList_store_net rfl 74 (.tmp 5) (.tmp 14) rfl w1.heap.size L.length (rowM L) rfl rfl Tryd.sizeNet 0 (fun _ => 0) hnb ?_; intro w3 hp; have hn0 := hp.net.at.1; have HB3 : Hid (Below w.heap.size w w3) := (HB1.out.alloc hz _).trans (hp.below.mono hz); clear hp) | (go_at_call 87; refine (isVertex_any _ _ _).mono ?_; rintro e w' ⟨rfl, rfl⟩; rw [hdv.out]))
      exact ⟨_, results_tmp rfl _ _ _, _, _, _, rfl, by rw [HE.out]; exact ⟨by simp, Nat.zero_le _, .inl ⟨rfl, rfl⟩⟩, HB3.out⟩
  · have HE : Hid (dfL L x = []) := dfL_no (by unfold dfB; rw [decide_eq_false hG]; simp)
    rw [decide_eq_false hG, netArr_no hG]
    clear hG
    go_wp2_with (refine wpList_store_net rfl 74 (.tmp 5) (.tmp 14) rfl w1.heap.size 0 (fun _ => 0) rfl rfl Tryd.sizeNet 0 (fun _ => 0) hnb ?_; intro w3 hp; have HB3 : Hid (Below w.heap.size w w3) := (HB1.out.alloc hz _).trans (hp.below.mono hz); clear hp)
    exact ⟨_, results_tmp rfl _ _ _, _, _, _, rfl, by rw [HE.out]; exact ⟨by simp, Nat.zero_le _, .inl ⟨rfl, rfl⟩⟩, HB3.out⟩

end Go.Proofs.YtjbfoiolcpigfaaDoor
