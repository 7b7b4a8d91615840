/- The texts B1, B3, joined. -/
import Derived.Test.YtohjfcfcopbmoaaA6
import Derived.Laws.BitsAllLaws

/- Walks: masks. -/
namespace Go.Proofs.Ytohjfcfcopbmoaa
open Go.RowKit

theorem isVertex_any (v n : Int) (w : World) : Calls Try.prog 63 #[.int .i64 v, .int .i64 n] w fun e w' => e = .returned (.bool (decide (0 ≤ v ∧ v < n))) ∧ w = w' := by
  by_cases h1 : 0 ≤ v
  · by_cases h2 : v < n
    · have e : decide (0 ≤ v ∧ v < n) = true := by simp [h1, h2]
      rw [e]
      go_enter Try.func63, Try.ntmps63
      go_wp2
      go_ret
      exact ⟨rfl, rfl⟩
    · have e : decide (0 ≤ v ∧ v < n) = false := by simp [h2]
      have d2 : decide (v < n) = false := by simpa using h2
      rw [e]
      go_enter Try.func63, Try.ntmps63
      go_wp2
      go_ret
      exact ⟨rfl, rfl⟩
  · have e : decide (0 ≤ v ∧ v < n) = false := by simp [h1]
    have d1 : decide (0 ≤ v) = false := by simpa using h1
    rw [e]
    go_enter Try.func63, Try.ntmps63
    go_wp2
    go_ret
    exact ⟨rfl, rfl⟩

theorem sizeOk_any (n : Int) (w : World) : Calls Try.prog 73 #[.int .i64 n] w fun e w' => e = .returned (.bool (inB n 1 16)) ∧ w = w' := by
  by_cases h1 : 1 ≤ n
  · by_cases h2 : n ≤ 16
    · have e : inB n 1 16 = true := by simp [inB, h1, h2]
      rw [e]
      go_enter Try.func73, Try.ntmps73
      go_wp2
      go_ret
      exact ⟨rfl, rfl⟩
    · have e : inB n 1 16 = false := by simp [inB, h2]
      have d2 : decide (n ≤ 16) = false := by simpa using h2
      rw [e]
      go_enter Try.func73, Try.ntmps73
      go_wp2
      go_ret
      exact ⟨rfl, rfl⟩
  · have e : inB n 1 16 = false := by simp [inB, h1]
    have d1 : decide (1 ≤ n) = false := by simpa using h1
    rw [e]
    go_enter Try.func73, Try.ntmps73
    go_wp2
    go_ret
    exact ⟨rfl, rfl⟩

theorem bit_test (M k : Nat) (hM : M < 65536) : (bits BinOp.and IntKind.u32 ((M : Int) / 2 ^ k) 1 == 1) = M.testBit k := by
  have h1 : ((M : Int) / 2 ^ k) = ((M / 2 ^ k : Nat) : Int) := by simp
  have h2 : M / 2 ^ k ≤ M := Nat.div_le_self _ _
  have h3 : (1 : Int) = ((1 : Nat) : Int) := rfl
  rw [h1, h3, u32_and_nat _ _ (by omega) (by omega)]
  rw [Nat.testBit_eq_decide_div_mod_eq, Nat.and_one_is_mod, Bool.eq_iff_iff, beq_iff_eq, decide_eq_true_iff]
  omega

/-- Does mask M hold v? -/
def hasM (M : Nat) (v : Int) : Bool := decide (0 ≤ v ∧ v < 16) && M.testBit v.toNat

theorem has_any (M : Nat) (v : Int) (w : World) (hM : M < 65536) : Calls Try.prog 42 #[.int .u32 M, .int .i64 v] w fun e w' => e = .returned (.bool (hasM M v)) ∧ w = w' := by
  unfold hasM
  by_cases h1 : 0 ≤ v ∧ v < 16
  · have e : decide (0 ≤ v ∧ v < 16) = true := by simpa using h1
    have HE := Lib.hid e
    clear e
    obtain ⟨h2, h3⟩ := h1
    go_enter Try.func42, Try.ntmps42
    go_wp2_with fail
    refine (isVertex_any _ _ _).mono ?_
    rintro e w' ⟨rfl, rfl⟩
    rw [HE.out]
    go_wp2
    go_ret
    exact ⟨ret_bool (by rw [bit_test M _ hM, HE.out]; rfl), rfl⟩
  · have e : decide (0 ≤ v ∧ v < 16) = false := by simpa using h1
    have HE := Lib.hid e
    clear e h1
    go_enter Try.func42, Try.ntmps42
    go_wp2_with fail
    refine (isVertex_any _ _ _).mono ?_
    rintro e w' ⟨rfl, rfl⟩
    rw [HE.out]
    go_wp2
    go_ret
    exact ⟨ret_bool (by rw [HE.out]; rfl), rfl⟩

theorem pow_lt16 {k : Nat} (hk : k < 16) : 2 ^ k < 65536 := Nat.pow_lt_pow_right (by omega) hk
theorem bit_set (M k : Nat) (hM : M < 65536) (hk : k < 16) : bits BinOp.or IntKind.u32 (M : Int) (2 ^ k % 4294967296) = ((M ||| 2 ^ k : Nat) : Int) := by
  have h2 := pow_lt16 hk
  have h1 : ((2 : Int) ^ k % 4294967296) = ((2 ^ k : Nat) : Int) := by
    have : ((2 : Int) ^ k) = ((2 ^ k : Nat) : Int) := by simp
    rw [this]
    generalize 2 ^ k = q at h2
    omega
  rw [h1, u32_or_nat _ _ (by omega) (by omega)]
theorem or_lt16 {M k : Nat} (hM : M < 65536) (hk : k < 16) : M ||| 2 ^ k < 65536 := by
  have h2 := pow_lt16 hk
  exact Nat.or_lt_two_pow (n := 16) hM h2

set_option maxHeartbeats 400000 in
theorem add_any (b o M : Nat) (v : Int) (w : World) (hc : w.cell? ⟨b, o, none⟩ = some (.int .u32 M)) (hf : w.frozen? ⟨b, o, none⟩ = false) (hM : M < 65536) (h1 : 0 ≤ v) (h2 : v < 16) :
    Calls Try.prog 43 #[.pointer (some ⟨b, o, none⟩), .int .i64 v] w fun e w' => e = .returned (.tuple #[]) ∧ Drawn (w.setCell ⟨b, o, none⟩ (.int .u32 ((M ||| 2 ^ v.toNat : Nat) : Int))) w' := by
  have e : decide (0 ≤ v ∧ v < 16) = true := by simp [h1, h2]
  have HE := Lib.hid e
  clear e
  go_enter Try.func43, Try.ntmps43
  go_wp2_with fail
  refine (isVertex_any _ _ _).mono ?_
  rintro e w' ⟨rfl, rfl⟩
  rw [HE.out]
  go_wp2
  go_region
  go_end0
  exact ⟨rfl, by rw [bit_set M _ hM (by omega)]; exact (Drawn.refl _).drew⟩

end Go.Proofs.Ytohjfcfcopbmoaa

/- Walks: nets. -/
namespace Go.Proofs.Ytohjfcfcopbmoaa
open Go.RowKit

/-- Block b holds a net: n vertices, masks M. -/
def NetAt (w : World) (b n : Nat) (M : Nat → Nat) : Prop :=
  w.cell? ⟨b, 0, none⟩ = some (.int .i64 n) ∧ ∀ i, i < 16 → w.cell? ⟨b, 1 + i, none⟩ = some (.int .u32 (M i : Int))
theorem NetAt.keep {w w' : World} {b n : Nat} {M : Nat → Nat} (h : NetAt w b n M) (hb : Below w.heap.size w w') : NetAt w' b n M :=
  ⟨cell_keep hb h.1, fun i hi => cell_keep hb (h.2 i hi)⟩
theorem NetAt.drawn {w w' : World} {b n : Nat} {M : Nat → Nat} (h : NetAt w b n M) (hb : Drawn w w') : NetAt w' b n M := h.keep (hb.below _)

end Go.Proofs.Ytohjfcfcopbmoaa
