/- The texts Y1, X4, Y2, joined. -/
import Derived.Test.YtohjfcfcopbmoaaDoorQX2
import Derived.Lib.TrailingZeros
import Derived.Test.YtohjfcfcopbmoaaDoorQC1

/- Walks: the least vertex of a mask, by the library's table. -/
namespace Go.Proofs.YtohjfcfcopbmoaaDoor
open Go.RowKit

/-- The library's table lies where the program has it. -/
def TabAt (w : World) : Prop := ∀ i, i < Lib.deBruijn32tab.length → w.cell? ⟨0, i, none⟩ = some (.int .u8 (Lib.deBruijn32tab.getD i 0 : Nat))
theorem TabAt.keep {w w' : World} (h : TabAt w) (hb : Below w.heap.size w w') : TabAt w' := fun i hi => cell_keep hb (h i hi)
theorem TabAt.lt {w : World} (h : TabAt w) : 0 < w.heap.size := block_lt_of_cell (h 0 (by decide))
theorem TabAt.keepB {w w' : World} {B : Nat} (h : TabAt w) (hb : Below B w w') (hB : 0 < B) : TabAt w' := fun i hi => by rw [hb.cell hB]; exact h i hi

/-- The least bit of a mask. -/
def leastM (M : Nat) : Nat := Lib.ctz 32 M
theorem leastM_spec {M : Nat} (h0 : M ≠ 0) (hM : M < 65536) : leastM M < 16 ∧ M.testBit (leastM M) = true ∧ ∀ j, j < leastM M → M.testBit j = false := by
  unfold leastM Lib.ctz
  rw [if_neg h0]
  obtain ⟨m, hm, hk⟩ := Lib.ctzFrom_spec 32 M (by omega) (by omega)
  generalize Lib.ctzFrom 32 M = k at *
  have hb : ∀ i, M.testBit i = (decide (k ≤ i) && (2 * m + 1).testBit (i - k)) := fun i => by rw [hm, Nat.mul_comm, Nat.testBit_mul_two_pow]
  have h2 : M.testBit k = true := by rw [hb]; simp [Nat.testBit_zero]
  refine ⟨?_, h2, fun j hj => by rw [hb]; simp; omega⟩
  apply Nat.lt_of_not_le
  intro hle
  rw [Nat.testBit_lt_two_pow (Nat.lt_of_lt_of_le hM (Nat.pow_le_pow_right (n := 2) (by omega) hle : 2 ^ 16 ≤ 2 ^ k))] at h2
  cases h2

theorem tz_key (x a : Nat) (hx : x < 65536) (hx0 : x ≠ 0) (hlow : x &&& (4294967296 - x) = a) :
    bits BinOp.and IntKind.u32 (x : Int) (-(x : Int) % 4294967296) * 125613361 % 4294967296 / 134217728 = ((a * 125613361 % 4294967296 / 134217728 : Nat) : Int) := by
  have e1 : -(x : Int) % 4294967296 = ((4294967296 - x : Nat) : Int) := by omega
  rw [e1, u32_and_nat x _ (by omega) (by omega), hlow]
  omega

theorem tz_core (x k idx : Nat) (w : World) (hx0 : ((x : Int) == 0) = false)
    (key : bits BinOp.and IntKind.u32 (x : Int) (-(x : Int) % 4294967296) * 125613361 % 4294967296 / 134217728 = (idx : Int))
    (hi : idx < 32) (hk : k < 32) (hcell : w.cell? ⟨0, idx, none⟩ = some (.int .u8 k)) :
    Calls Tryd.prog 94 #[.int .u32 x] w fun e w' => e = .returned (.int .i64 k) ∧ w' = w := by
  go_enter Tryd.func94, Tryd.ntmps94
  go_wp2_with (simp only [key])
  go_ret
  exact ⟨rfl, rfl⟩

theorem least_any (M : Nat) (w : World) (hM : M < 65536) (h0 : M ≠ 0) (hT : TabAt w) :
    Calls Tryd.prog 84 #[.int .u32 (M : Int)] w fun e w' => e = .returned (.int .i64 (leastM M : Int)) ∧ w = w' := by -- 94
  obtain ⟨hlow, hk⟩ := Lib.lowest_bit 32 M h0 (by omega)
  obtain ⟨hi, htab⟩ := Lib.deBruijn32_at _ hk
  have hcell := hT _ hi
  rw [htab] at hcell
  have c := Lib.hid (tz_core M _ _ w (by simp; omega) (tz_key M _ hM h0 hlow) hi hk hcell)
  clear hcell htab hi hlow
  go_enter Tryd.func84, Tryd.ntmps84
  go_wp2_with fail
  refine c.out.mono ?_
  rintro e w' ⟨rfl, hw⟩
  subst hw
  go_wp2
  go_ret
  exact ⟨rfl, rfl⟩

end Go.Proofs.YtohjfcfcopbmoaaDoor

/- Walks: DistancesFrom, of the program. -/
namespace Go.Proofs.YtohjfcfcopbmoaaDoor
open Go.RowKit Go.Shelf
attribute [local go_sem] Oper.semAt_some

theorem calls_marks {P : Program} {f : FuncId} {fn : Func} {c : Code} {args : Array Value} {w : World} {R : Ending → World → Prop}
    (hf : P.funcs[f]? = some fn) (hb : fn.body = some c)
    (h : c.wp P (bodyPostM Fence.wide 9 P fn R) { tmps := args ++ Array.replicate (fn.ntmps - args.size) undef, defers := [] } w) : Calls P f args w R :=
  (callsIn_wide (n := 9)).1 (callsIn_of_wp_marks hf hb trivial (wpIn_wide.2 h))

theorem nearM_eq {L : List (List Int)} (hG : GraphP L) : nearM (rowM L) = nearB L := by
  funext a b
  show (rowM L a).testBit b = hasB (nthR L a) (b : Int)
  have hs : ∀ v, v < L.length → SetP (nthR L v) L.length := fun v hv => (hG.2.1 v hv).1
  have hz := hG.1
  by_cases ha : a < L.length
  · have h1 := rowM_edge hG ha (b : Int)
    by_cases hb : b < 16
    · have e : hasM (rowM L a) (b : Int) = (rowM L a).testBit b := by unfold hasM; rw [decide_eq_true (by omega)]; simp
      rw [← e, rowM_has hs ha hb]
    · have e1 : (rowM L a).testBit b = false := Nat.testBit_lt_two_pow (Nat.lt_of_lt_of_le (rowM_lt (by omega) hs a) (Nat.pow_le_pow_right (n := 2) (by omega) (by omega : 16 ≤ b)))
      have e2 : hasM (rowM L a) (b : Int) = false := by unfold hasM; rw [decide_eq_false (by omega)]; rfl
      rw [e1]
      cases hh : hasB (nthR L a) (b : Int) with
      | false => rfl
      | true =>
        obtain ⟨i, hi, e⟩ := (hasB_iff _ _).1 hh
        have := (hs a ha i hi).2.1
        omega
  · have e1 : rowM L a = 0 := by unfold rowM; rw [if_neg ha]
    have e2 : nthR L a = [] := by unfold nthR; rw [List.getD_eq_getElem?_getD, List.getElem?_eq_none (by omega)]; rfl
    rw [e1, e2]
    simp [hasB]
theorem bitS_whole (n : Nat) : bitS (2 ^ n - 1) = allS n := by
  funext u
  show (2 ^ n - 1).testBit u = allS n u
  rw [whole_bit, Bool.eq_iff_iff, decide_eq_true_iff, allS_iff]

open Classical in
/-- The distances of those that have come, -1 for all others. -/
noncomputable def doneTo (A : Nat → Nat → Bool) (S : Nat → Bool) (v : Nat) (pre : List (Nat × Nat)) (j : Nat) : Int := if ∃ d, (j, d) ∈ pre then dOf A S v j else -1
open Classical in
theorem doneTo_nil (A : Nat → Nat → Bool) (S : Nat → Bool) (v j : Nat) : doneTo A S v [] j = -1 := by unfold doneTo; rw [if_neg (by simp)]
open Classical in
theorem doneTo_at {A : Nat → Nat → Bool} {S : Nat → Bool} {v : Nat} {pre : List (Nat × Nat)} {p : Nat × Nat} (h : AtD A S v p.2 p.1) : doneTo A S v (pre ++ [p]) p.1 = (p.2 : Int) := by
  unfold doneTo
  rw [if_pos ⟨p.2, by simp⟩]
  exact dOf_at h
open Classical in
theorem doneTo_other {A : Nat → Nat → Bool} {S : Nat → Bool} {v : Nat} {pre : List (Nat × Nat)} {p : Nat × Nat} {j : Nat} (h : j ≠ p.1) : doneTo A S v (pre ++ [p]) j = doneTo A S v pre j := by
  unfold doneTo
  have : (∃ d, (j, d) ∈ pre ++ [p]) ↔ ∃ d, (j, d) ∈ pre := by
    constructor
    · rintro ⟨d, hd⟩
      rcases List.mem_append.1 hd with hd | hd
      · exact ⟨d, hd⟩
      · simp at hd; rw [← hd] at h; exact absurd rfl h
    · rintro ⟨d, hd⟩; exact ⟨d, List.mem_append.2 (.inl hd)⟩
  simp only [this]
open Classical in
theorem doneTo_all {A : Nat → Nat → Bool} {S : Nat → Bool} {v : Nat} (hS : ∀ u, S u = true → u < 16) (j : Nat) : doneTo A S v (visTo A S v 17) j = dOf A S v j := by
  unfold doneTo
  by_cases h : ∃ d, (j, d) ∈ visTo A S v 17
  · rw [if_pos h]
  · rw [if_neg h]
    symm
    refine dOf_none (fun k hk => h ⟨k, (visTo_mem hS).2 ⟨?_, hk⟩⟩)
    have := atD_lt hS hk
    show k < 17
    omega

end Go.Proofs.YtohjfcfcopbmoaaDoor

/- Walks: what can be reached. -/
namespace Go.Proofs.YtohjfcfcopbmoaaDoor
open Go.RowKit Go.Shelf
attribute [local go_sem] Oper.semAt_some

/-- The mask of those that have come. -/
def gotN (pre : List (Nat × Nat)) : Nat := pre.foldl (fun m p => m ||| 2 ^ p.1) 0
theorem gotN_snoc (pre : List (Nat × Nat)) (p : Nat × Nat) : gotN (pre ++ [p]) = gotN pre ||| 2 ^ p.1 := by simp [gotN]
theorem gotN_bit (pre : List (Nat × Nat)) (u : Nat) : (gotN pre).testBit u = true ↔ ∃ p, p ∈ pre ∧ p.1 = u := by
  have key : ∀ (pre : List (Nat × Nat)) (m : Nat), (pre.foldl (fun m p => m ||| 2 ^ p.1) m).testBit u = true ↔ m.testBit u = true ∨ ∃ p, p ∈ pre ∧ p.1 = u := by
    intro pre
    induction pre with
    | nil => intro m; simp
    | cons q pre ih =>
      intro m
      rw [List.foldl_cons, ih, Nat.testBit_or, Nat.testBit_two_pow, Bool.or_eq_true, decide_eq_true_iff]
      constructor
      · rintro ((h | h) | ⟨p, hp, e⟩)
        · exact .inl h
        · exact .inr ⟨q, by simp, h⟩
        · exact .inr ⟨p, by simp [hp], e⟩
      · rintro (h | ⟨p, hp, e⟩)
        · exact .inl (.inl h)
        · rcases List.mem_cons.1 hp with rfl | hp
          · exact .inl (.inr e)
          · exact .inr ⟨p, hp, e⟩
  unfold gotN
  rw [key]
  simp
open Classical in
/-- The mask of all that can be reached. -/
noncomputable def reachN (A : Nat → Nat → Bool) (S : Nat → Bool) (v : Nat) : Nat := pm (fun u => decide (∃ k, AtD A S v k u))
theorem reachN_lt (A : Nat → Nat → Bool) (S : Nat → Bool) (v : Nat) : reachN A S v < 65536 := pm_lt _
open Classical in
theorem reachN_bit {A : Nat → Nat → Bool} {S : Nat → Bool} {v : Nat} (hS : ∀ u, S u = true → u < 16) (u : Nat) : (reachN A S v).testBit u = true ↔ ∃ k, AtD A S v k u := by
  unfold reachN
  rw [pm_bit, Bool.and_eq_true, decide_eq_true_iff, decide_eq_true_iff]
  exact ⟨fun h => h.2, fun h => ⟨hS u (wk_in h.choose_spec.1), h⟩⟩
theorem gotN_all {A : Nat → Nat → Bool} {S : Nat → Bool} {v : Nat} (hS : ∀ u, S u = true → u < 16) : gotN (visTo A S v 17) = reachN A S v := bit_ext fun u => by
  rw [gotN_bit, reachN_bit hS]
  constructor
  · rintro ⟨p, hp, rfl⟩
    exact ⟨_, ((visTo_mem hS).1 hp).2⟩
  · rintro ⟨k, hk⟩
    have := atD_lt hS hk
    exact ⟨(u, k), (visTo_mem hS).2 ⟨by show k < 17; omega, hk⟩, rfl⟩

set_option maxHeartbeats 2000000 in
set_option maxRecDepth 100000 in
theorem reached_any (bn n : Nat) (M : Nat → Nat) (v K : Nat) (w : World) (h : NetAt w bn n M) (hM : ∀ i, M i < 65536) (hK : K < 65536) (hv : v < 16) (hKv : K.testBit v = true) :
    Calls Tryd.prog 91 #[.pointer (some ⟨bn, 0, none⟩), .int .i64 (v : Int), .int .u32 (K : Int)] w fun e w' => e = .returned (.int .u32 (reachN (nearM M) (bitS K) v : Int)) ∧ Below w.heap.size w w' := by
  have hbn : bn < w.heap.size := block_lt_of_cell h.1
  refine calls_marks Tryd.func91 rfl ?_
  simp only [Tryd.ntmps91, List.size_toArray, List.length_cons, List.length_nil, Nat.reduceAdd, Nat.reduceSub, Array.replicate_succ, Array.replicate_zero, List.push_toArray, List.append_toArray, List.nil_append, List.cons_append]
  go_wp2_with (go_at_call 68; refine (visits_any _ _ _ _).mono ?_; rintro e w' ⟨rfl, rfl⟩)
  obtain ⟨w5, hw5⟩ : ∃ w5, (((w.alloc (.cells #[.int .u32 0] 50)).alloc (.cells #[.pointer (some ⟨bn, 0, none⟩)] 81)).alloc (.cells #[.int .i64 (v : Int)] 2)).alloc (.cells #[.int .u32 (K : Int)] 50) = w5 := ⟨_, rfl⟩
  have hb5 : Below w.heap.size w w5 := by rw [← hw5]; exact ((((Below.refl _ _).alloc (Nat.le_refl _) _).alloc (by simp) _).alloc (by simp; omega) _).alloc (by simp; omega) _
  have hs5 : w5.heap.size = w.heap.size + 4 := by rw [← hw5]; simp
  have HV : Hid (VisIn w5 (w.heap.size + 2) (w.heap.size + 3) (w.heap.size + 1) bn n M v K) := by
    refine ⟨?_, ?_, ?_, h.keep hb5⟩
    · subst hw5; go_simp
    · subst hw5; go_simp
    · subst hw5; go_simp
  have HR5 : Hid (w5.rowIs w.heap.size 50 1 (fun _ => .int .u32 (gotN [] : Int))) := by
    have h1 : (w.alloc (.cells #[.int .u32 0] 50)).rowIs w.heap.size 50 1 (fun _ => .int .u32 (gotN [] : Int)) := World.rowIs_alloc _ _ _ _ (fun i hi => by simp at hi; subst hi; rfl)
    refine h1.of_block ?_
    rw [← hw5]
    exact ((((Below.refl (w.heap.size + 1) _).alloc (by simp) _).alloc (by simp) _).alloc (by simp <;> omega) _).block _ (by omega)
  have HS := Lib.hid (bitS_lt hK)
  have HSQ := Lib.hid (visits1_seq (fun k => k = w.heap.size) 8 (w.heap.size + 2) (w.heap.size + 3) (w.heap.size + 1) bn n M v K w5 hM hK hv hKv HV.out ⟨by omega, by omega, by omega, by omega⟩ (fun k hk => by rw [hk]; omega))
  have HB5 := Lib.hid hb5
  simp only [Nat.add_assoc, Nat.reduceAdd] at *
  rw [hw5]
  clear hw5 HV hb5 h
  refine (wpIn_wide (n := 9)).1 ?_
  refine wpIn_rangeFunc_vis rfl (by omega) (gf := 81) (lb := #[.pointer (some ⟨w.heap.size + 2, 0, none⟩), .pointer (some ⟨w.heap.size + 3, 0, none⟩), .pointer (some ⟨w.heap.size + 1, 0, none⟩)]) rfl trivial (enters_of Tryd.func81 (by kernel_rfl) rfl)
    HSQ.out (fun k hk => by rw [hk]; omega) (fun _ => rfl)
    (fun pre W => W.rowIs w.heap.size 50 1 (fun _ => .int .u32 (gotN pre : Int)) ∧ gotN pre < 65536 ∧ Below w.heap.size w W)
    (fun _ _ _ => False)
    (fun s A B hs hb => ⟨hs.1.of_block (hb.block _ (by omega)), hs.2.1, hs.2.2.trans (hb.mono (by omega))⟩)
    (fun _ _ _ _ _ h _ => h)
    ⟨HR5.out, by simp [gotN], HB5.out⟩
    ?a1 ?assign ?body ?done ?stop
  case assign =>
    intro l x W K hK
    simp only [encP]
    gi_wp2
    exact hK
  case body =>
    rintro l pre ⟨u, d⟩ W ⟨hr, hgl, hb⟩ hsz ⟨hat, hd16, -⟩
    dsimp only at hat hd16
    have hu : u < 16 := HS.out u (wk_in hat.1)
    have hcc := hr.cell (i := 0) (by omega)
    have hcf := hr.frozen 0
    have HRR := Lib.hid hr
    have HB := Lib.hid hb
    have hg2 : gotN pre ||| 2 ^ u < 65536 := or_lt16 hgl hu
    clear hr hb hat
    gi_wp2_with fail
    refine ⟨trivial, ?_⟩
    refine (CallsIn.inRound l (callsIn_wide.2 (add_any _ _ _ _ _ hcc hcf hgl (by omega) (by omega)))).mono ?_
    rintro e w7 ⟨rfl, hd7⟩
    gi_wp2
    refine ⟨(KeepsBut.setCell (T := fun k => k = w.heap.size) _ _ _ rfl).trans (KeepsBut.below (hd7.below _)), ?_, ?_, (HB.out.setCell (p := ⟨w.heap.size, 0, none⟩) (Nat.le_refl _) _).trans (hd7.below _)⟩
    · refine (rowIs_drawn (HRR.out.set 0 _) hd7).congr (fun j hj => ?_)
      rw [gotN_snoc]
      simp [show j = 0 from by omega]
    · rw [gotN_snoc]; exact hg2
  case done =>
    rintro D ys W rfl ⟨hr, hgl, hb⟩ hD hK
    have hcc := hr.cell (i := 0) (by omega)
    have HRR := Lib.hid hr
    have HB := Lib.hid hb
    have HK := Lib.hid hK
    have hDW : D < W.heap.size := (Array.getElem?_eq_some_iff.1 hK).1
    clear hr hb hK
    go_wp2
    refine ⟨by simp, .inl ⟨_, _, rfl, run_takeDeferred HK.out, ?_⟩⟩
    exact ⟨_, results_tmp rfl _ _ _, by rw [← gotN_all HS.out]; rfl, HB.out.trans (below_put W D _ (by omega) hDW)⟩
  case stop =>
    rintro D c pre W _ h _ _
    exact h.elim

end Go.Proofs.YtohjfcfcopbmoaaDoor
