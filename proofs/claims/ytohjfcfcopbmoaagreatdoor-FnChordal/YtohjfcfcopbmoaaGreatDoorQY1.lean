/- The texts Y1, X4, PO1, joined. -/
import Derived.Test.YtohjfcfcopbmoaaGreatDoorQX2
import Derived.Lib.TrailingZeros
import Derived.Test.YtohjfcfcopbmoaaGreatDoorQLater
import Derived.Test.YtohjfcfcopbmoaaGreatDoorQE1
import Derived.Test.YtohjfcfcopbmoaaGreatDoorQF6
import Derived.Test.YtohjfcfcopbmoaaGreatDoorQF4

/- Walks: the least vertex of a mask, by the library's table. -/
namespace Go.Proofs.YtohjfcfcopbmoaaGreatDoor
open Go.RowKit

/-- The library's table lies where the program has it. -/
def TabAt (w : World) : Prop := ∀ i, i < Lib.deBruijn32tab.length → w.cell? ⟨4, i, none⟩ = some (.int .u8 (Lib.deBruijn32tab.getD i 0 : Nat))
theorem TabAt.keep {w w' : World} (h : TabAt w) (hb : Below w.heap.size w w') : TabAt w' := fun i hi => cell_keep hb (h i hi)
theorem TabAt.lt {w : World} (h : TabAt w) : 4 < w.heap.size := block_lt_of_cell (h 0 (by decide))
theorem TabAt.keepB {w w' : World} {B : Nat} (h : TabAt w) (hb : Below B w w') (hB : 4 < B) : TabAt w' := fun i hi => by rw [hb.cell hB]; exact h i hi

/-- The least bit of a mask. -/
def leastM (M : Nat) : Nat := Lib.ctz 32 M
theorem leastM_spec {M : Nat} (h0 : M ≠ 0) (hM : M < 65536) : leastM M < 16 ∧ M.testBit (leastM M) = true ∧ ∀ j, j < leastM M → M.testBit j = false := by
  unfold leastM Lib.ctz
  rw [if_neg h0]
  obtain ⟨m, hm, hk⟩ := Lib.ctzFrom_spec 32 M (by omega) (by omega)
  generalize Lib.ctzFrom 32 M = k at *
  have hb : ∀ i, M.testBit i = (decide (k ≤ i) && (2 * m + 1).testBit (i - k)) := fun i => by rw [hm, Nat.mul_comm, Nat.testBit_mul_two_pow]
  have h2 : M.testBit k = true := by rw [hb]; simp [Nat.testBit_zero]
  refine ⟨?_, h2, fun j hj => by rw [hb]; simp; omega⟩
  apply Nat.lt_of_not_le
  intro hle
  rw [Nat.testBit_lt_two_pow (Nat.lt_of_lt_of_le hM (Nat.pow_le_pow_right (n := 2) (by omega) hle : 2 ^ 16 ≤ 2 ^ k))] at h2
  cases h2

theorem tz_key (x a : Nat) (hx : x < 65536) (hx0 : x ≠ 0) (hlow : x &&& (4294967296 - x) = a) :
    bits BinOp.and IntKind.u32 (x : Int) (-(x : Int) % 4294967296) * 125613361 % 4294967296 / 134217728 = ((a * 125613361 % 4294967296 / 134217728 : Nat) : Int) := by
  have e1 : -(x : Int) % 4294967296 = ((4294967296 - x : Nat) : Int) := by omega
  rw [e1, u32_and_nat x _ (by omega) (by omega), hlow]
  omega

theorem tz_core (x k idx : Nat) (w : World) (hx0 : ((x : Int) == 0) = false)
    (key : bits BinOp.and IntKind.u32 (x : Int) (-(x : Int) % 4294967296) * 125613361 % 4294967296 / 134217728 = (idx : Int))
    (hi : idx < 32) (hk : k < 32) (hcell : w.cell? ⟨4, idx, none⟩ = some (.int .u8 k)) :
    Calls Tryz.prog 306 #[.int .u32 x] w fun e w' => e = .returned (.int .i64 k) ∧ w' = w := by
  go_enter Tryz.func306, Tryz.ntmps306
  go_wp2_with (simp only [key])
  go_ret
  exact ⟨rfl, rfl⟩

theorem least_any (M : Nat) (w : World) (hM : M < 65536) (h0 : M ≠ 0) (hT : TabAt w) :
    Calls Tryz.prog 282 #[.int .u32 (M : Int)] w fun e w' => e = .returned (.int .i64 (leastM M : Int)) ∧ w = w' := by -- 306
  obtain ⟨hlow, hk⟩ := Lib.lowest_bit 32 M h0 (by omega)
  obtain ⟨hi, htab⟩ := Lib.deBruijn32_at _ hk
  have hcell := hT _ hi
  rw [htab] at hcell
  have c := Lib.hid (tz_core M _ _ w (by simp; omega) (tz_key M _ hM h0 hlow) hi hk hcell)
  clear hcell htab hi hlow
  go_enter Tryz.func282, Tryz.ntmps282
  go_wp2_with fail
  refine c.out.mono ?_
  rintro e w' ⟨rfl, hw⟩
  subst hw
  go_wp2
  go_ret
  exact ⟨rfl, rfl⟩

end Go.Proofs.YtohjfcfcopbmoaaGreatDoor

/- Walks: DistancesFrom, of the program. -/
namespace Go.Proofs.YtohjfcfcopbmoaaGreatDoor
open Go.RowKit Go.Shelf
attribute [local go_sem] Oper.semAt_some

theorem calls_marks {P : Program} {f : FuncId} {fn : Func} {c : Code} {args : Array Value} {w : World} {R : Ending → World → Prop}
    (hf : P.funcs[f]? = some fn) (hb : fn.body = some c)
    (h : c.wp P (bodyPostM Fence.wide 9 P fn R) { tmps := args ++ Array.replicate (fn.ntmps - args.size) undef, defers := [] } w) : Calls P f args w R :=
  (callsIn_wide (n := 9)).1 (callsIn_of_wp_marks hf hb trivial (wpIn_wide.2 h))

theorem nearM_eq {L : List (List Int)} (hG : GraphP L) : nearM (rowM L) = nearB L := by
  funext a b
  show (rowM L a).testBit b = hasB (nthR L a) (b : Int)
  have hs : ∀ v, v < L.length → SetP (nthR L v) L.length := fun v hv => (hG.2.1 v hv).1
  have hz := hG.1
  by_cases ha : a < L.length
  · have h1 := rowM_edge hG ha (b : Int)
    by_cases hb : b < 16
    · have e : hasM (rowM L a) (b : Int) = (rowM L a).testBit b := by unfold hasM; rw [decide_eq_true (by omega)]; simp
      rw [← e, rowM_has hs ha hb]
    · have e1 : (rowM L a).testBit b = false := Nat.testBit_lt_two_pow (Nat.lt_of_lt_of_le (rowM_lt (by omega) hs a) (Nat.pow_le_pow_right (n := 2) (by omega) (by omega : 16 ≤ b)))
      have e2 : hasM (rowM L a) (b : Int) = false := by unfold hasM; rw [decide_eq_false (by omega)]; rfl
      rw [e1]
      cases hh : hasB (nthR L a) (b : Int) with
      | false => rfl
      | true =>
        obtain ⟨i, hi, e⟩ := (hasB_iff _ _).1 hh
        have := (hs a ha i hi).2.1
        omega
  · have e1 : rowM L a = 0 := by unfold rowM; rw [if_neg ha]
    have e2 : nthR L a = [] := by unfold nthR; rw [List.getD_eq_getElem?_getD, List.getElem?_eq_none (by omega)]; rfl
    rw [e1, e2]
    simp [hasB]
theorem bitS_whole (n : Nat) : bitS (2 ^ n - 1) = allS n := by
  funext u
  show (2 ^ n - 1).testBit u = allS n u
  rw [whole_bit, Bool.eq_iff_iff, decide_eq_true_iff, allS_iff]

end Go.Proofs.YtohjfcfcopbmoaaGreatDoor

/- Plain facts: the least path down the distances. -/
namespace Go.Proofs.YtohjfcfcopbmoaaGreatDoor

/-- Where one stands after some steps down from u, whose distance is d. -/
def curD (M R : Nat → Nat) (d u : Nat) : Nat → Nat
  | 0 => u
  | i + 1 => leastM (M (curD M R d u i) &&& R (d - 1 - i))
/-- The way of the first i steps. -/
def wayD (M R : Nat → Nat) (d u i : Nat) : List Int := (List.range (i + 1)).map (fun j => (curD M R d u j : Int))
theorem wayD_len (M R : Nat → Nat) (d u i : Nat) : (wayD M R d u i).length = i + 1 := by simp [wayD]
theorem wayD_zero (M R : Nat → Nat) (d u : Nat) : wayD M R d u 0 = [(u : Int)] := rfl
theorem wayD_succ (M R : Nat → Nat) (d u i : Nat) : wayD M R d u (i + 1) = wayD M R d u i ++ [(curD M R d u (i + 1) : Int)] := by
  unfold wayD
  rw [List.range_succ, List.map_append]
  rfl
theorem curD_congr {M R R' : Nat → Nat} {d u : Nat} (h : ∀ k, k < d → R k = R' k) : ∀ i, i ≤ d → curD M R d u i = curD M R' d u i := by
  intro i
  induction i with
  | zero => intro _; rfl
  | succ i ih =>
    intro hi
    show leastM _ = leastM _
    rw [ih (by omega), h _ (by omega)]
theorem wayD_congr {M R R' : Nat → Nat} {d u : Nat} (h : ∀ k, k < d → R k = R' k) (i : Nat) (hi : i ≤ d) : wayD M R d u i = wayD M R' d u i := by
  unfold wayD
  apply List.map_congr_left
  intro j hj
  rw [List.mem_range] at hj
  rw [curD_congr h j (by omega)]

section
variable {A : Nat → Nat → Bool} {S : Nat → Bool} {v : Nat} {M : Nat → Nat}
theorem curD_step (hA : ∀ a b, A a b = A b a) (hM : ∀ i, M i < 65536) (hMA : ∀ a b, A a b = (M a).testBit b) (hS : ∀ u, S u = true → u < 16) {d u : Nat} (h : AtD A S v d u) : ∀ i, i ≤ d → AtD A S v (d - i) (curD M (ringN A S v) d u i) ∧ (i < d → M (curD M (ringN A S v) d u i) &&& ringN A S v (d - 1 - i) ≠ 0) := by
  have hne : ∀ (k x : Nat), AtD A S v (k + 1) x → M x &&& ringN A S v k ≠ 0 := by
    intro k x hx e
    obtain ⟨y, hy, hyx⟩ := atD_pred hx
    have h1 : (M x &&& ringN A S v k).testBit y = true := by
      rw [Nat.testBit_and, ← hMA, hA, hyx, (ringN_bit hS k y).2 hy]; rfl
    rw [e] at h1
    simp at h1
  intro i
  induction i with
  | zero =>
    intro _
    refine ⟨h, fun h0 => ?_⟩
    refine hne _ _ ?_
    rw [show d - 1 - 0 + 1 = d from by omega]
    exact h
  | succ i ih =>
    intro hi
    obtain ⟨h1, h2⟩ := ih (by omega)
    have h3 := h2 (by omega)
    have hlt : M (curD M (ringN A S v) d u i) &&& ringN A S v (d - 1 - i) < 65536 := Nat.lt_of_le_of_lt Nat.and_le_left (hM _)
    obtain ⟨h4, h5, _⟩ := leastM_spec h3 hlt
    rw [Nat.testBit_and, Bool.and_eq_true] at h5
    have h6 : AtD A S v (d - 1 - i) (curD M (ringN A S v) d u (i + 1)) := (ringN_bit hS _ _).1 h5.2
    refine ⟨by rw [show d - (i + 1) = d - 1 - i from by omega]; exact h6, fun h7 => ?_⟩
    refine hne _ _ ?_
    rw [show d - 1 - (i + 1) + 1 = d - 1 - i from by omega]
    exact h6
theorem curD_near (hA : ∀ a b, A a b = A b a) (hM : ∀ i, M i < 65536) (hMA : ∀ a b, A a b = (M a).testBit b) (hS : ∀ u, S u = true → u < 16) {d u : Nat} (h : AtD A S v d u) {i : Nat} (hi : i < d) : A (curD M (ringN A S v) d u i) (curD M (ringN A S v) d u (i + 1)) = true := by
  have h3 := (curD_step hA hM hMA hS h i (by omega)).2 hi
  have hlt : M (curD M (ringN A S v) d u i) &&& ringN A S v (d - 1 - i) < 65536 := Nat.lt_of_le_of_lt Nat.and_le_left (hM _)
  obtain ⟨_, h5, _⟩ := leastM_spec h3 hlt
  rw [Nat.testBit_and, Bool.and_eq_true] at h5
  rw [hMA]
  exact h5.1
end

end Go.Proofs.YtohjfcfcopbmoaaGreatDoor
