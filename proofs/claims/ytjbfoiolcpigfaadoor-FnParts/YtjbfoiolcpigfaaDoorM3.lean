/- Walks: the program's complement. -/
import Derived.Test.YtjbfoiolcpigfaaDoorM2
import Derived.Deep.RegionLaw
import Derived.StillTailTactics
namespace Go.Proofs.YtjbfoiolcpigfaaDoor
open Go.RowKit

/-- A mask without the bits of K. -/
def clrM (M K : Nat) : Nat := M &&& (4294967295 - K)
theorem clrM_bit {M K : Nat} (hM : M < 65536) (hK : K < 65536) (j : Nat) : (clrM M K).testBit j = (M.testBit j && !K.testBit j) := by
  unfold clrM
  rw [Nat.testBit_and]
  have e : 4294967295 - K = 2 ^ 32 - (K + 1) := by omega
  rw [e, Nat.testBit_two_pow_sub_succ (by omega)]
  by_cases hj : j < 32
  · simp [hj]
  · have : M.testBit j = false := Nat.testBit_lt_two_pow (Nat.lt_of_lt_of_le hM (Nat.pow_le_pow_right (n := 2) (by omega) (by omega : 16 ≤ j)))
    simp [this]
theorem clrM_lt {M : Nat} (K : Nat) (hM : M < 65536) : clrM M K < 65536 := Nat.lt_of_le_of_lt Nat.and_le_left hM

/-- All of n vertices. -/
theorem whole_lt {n : Nat} (hn : n ≤ 16) : 2 ^ n - 1 < 65536 := by
  have : 2 ^ n ≤ 2 ^ 16 := Nat.pow_le_pow_right (by omega) hn
  omega
theorem whole_bit (n j : Nat) : (2 ^ n - 1).testBit j = decide (j < n) := by
  rw [Nat.testBit_two_pow_sub_one]

set_option maxHeartbeats 400000 in
theorem wholeMask_any (n : Nat) (w : World) (hn : n ≤ 16) : Calls Tryd.prog 89 #[.int .i64 (n : Int)] w fun e w' => e = .returned (.int .u32 ((2 ^ n - 1 : Nat) : Int)) ∧ w = w' := by
  have h1 : 1 ≤ 2 ^ n := Nat.one_le_two_pow
  have h2 : 2 ^ n ≤ 65536 := Nat.pow_le_pow_right (n := 2) (by omega) hn
  have HE : Hid (IntKind.u32.wrap ((2 : Int) ^ n % 4294967296 - 1) = ((2 ^ n - 1 : Nat) : Int)) := by
    show IntKind.u32.wrap _ = _
    have e1 : ((2 : Int) ^ n) = ((2 ^ n : Nat) : Int) := by simp
    rw [e1]
    generalize 2 ^ n = q at h1 h2
    have e2 : ((q : Int) % 4294967296 - 1) = ((q - 1 : Nat) : Int) := by omega
    rw [e2]
    simp [IntKind.wrap, IntKind.signed, IntKind.bits]
    omega
  clear h1 h2
  go_enter Tryd.func89, Tryd.ntmps89
  go_wp2
  go_ret
  exact ⟨ret_int HE.out, rfl⟩

theorem bit_clr (M k : Nat) (hM : M < 65536) (hk : k < 16) : bits BinOp.andNot IntKind.u32 (M : Int) (2 ^ k % 4294967296) = ((clrM M (2 ^ k) : Nat) : Int) := by
  have h2 := pow_lt16 hk
  have h1 : ((2 : Int) ^ k % 4294967296) = ((2 ^ k : Nat) : Int) := by
    have : ((2 : Int) ^ k) = ((2 ^ k : Nat) : Int) := by simp
    rw [this]
    generalize 2 ^ k = q at h2
    omega
  rw [h1, u32_andNot_nat _ _ (by omega) (by omega)]
  rfl

set_option maxHeartbeats 400000 in
theorem cut_any (b o M : Nat) (v : Int) (w : World) (hc : w.cell? ⟨b, o, none⟩ = some (.int .u32 M)) (hf : w.frozen? ⟨b, o, none⟩ = false) (hM : M < 65536) (h1 : 0 ≤ v) (h2 : v < 16) :
    Calls Tryd.prog 128 #[.pointer (some ⟨b, o, none⟩), .int .i64 v] w fun e w' => e = .returned (.tuple #[]) ∧ Drawn (w.setCell ⟨b, o, none⟩ (.int .u32 ((clrM M (2 ^ v.toNat) : Nat) : Int))) w' := by
  have e : decide (0 ≤ v ∧ v < 16) = true := by simp [h1, h2]
  have HE := Lib.hid e
  clear e
  go_enter Tryd.func128, Tryd.ntmps128
  go_wp2_with fail
  refine (isVertex_any _ _ _).mono ?_
  rintro e w' ⟨rfl, rfl⟩
  rw [HE.out]
  go_wp2
  go_region
  go_end0
  exact ⟨rfl, by rw [bit_clr M _ hM (by omega)]; exact (Drawn.refl _).drew⟩

theorem comp_mask {L : List (List Int)} (hG : GraphP L) {k : Nat} (hk : k < L.length) : clrM (clrM (2 ^ L.length - 1) (rowM L k)) (2 ^ k) = pm (compA L k) := by
  have hz := hG.1
  have hw := whole_lt (n := L.length) (by omega)
  have hr := rowM_lt (L := L) (by omega) (fun v hv => (hG.2.1 v hv).1) k
  apply Nat.eq_of_testBit_eq
  intro j
  rw [clrM_bit (clrM_lt _ hw) (pow_lt16 (by omega)), clrM_bit hw hr, whole_bit, Nat.testBit_two_pow, pm_bit]
  unfold compA adjB
  rw [decide_eq_true hk]
  by_cases hj : j < L.length
  · have h16 : j < 16 := by omega
    have e : (k != j) = !decide (k = j) := by by_cases e : k = j <;> simp [e]
    rw [e]
    simp only [hj, h16, decide_true, Bool.true_and]
    cases (rowM L k).testBit j <;> cases decide (k = j) <;> rfl
  · simp [hj]

theorem compL_small (L : List (List Int)) : Small (compL L) := by
  unfold compL
  split
  · rename_i hG
    exact adjL_small _ _ (by have := hG.1; omega)
  · exact ⟨by simp, fun i hi => absurd hi (by simp)⟩

/-- The masks when the first k are turned. -/
def compTo (L : List (List Int)) (k i : Nat) : Nat := if i < k then pm (compA L i) else rowM L i

end Go.Proofs.YtjbfoiolcpigfaaDoor
