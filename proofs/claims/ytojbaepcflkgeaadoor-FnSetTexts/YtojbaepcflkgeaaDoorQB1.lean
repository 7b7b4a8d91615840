/- The texts B1, B2, B3, joined. -/
import Derived.Test.YtojbaepcflkgeaaDoorQA6
import Derived.Laws.BitsAllLaws

/- Walks: masks. -/
namespace Go.Proofs.YtojbaepcflkgeaaDoor
open Go.RowKit

theorem isVertex_any (v n : Int) (w : World) : Calls Tryd.prog 25 #[.int .i64 v, .int .i64 n] w fun e w' => e = .returned (.bool (decide (0 ≤ v ∧ v < n))) ∧ w = w' := by
  by_cases h1 : 0 ≤ v
  · by_cases h2 : v < n
    · have e : decide (0 ≤ v ∧ v < n) = true := by simp [h1, h2]
      rw [e]
      go_enter Tryd.func25, Tryd.ntmps25
      go_wp2
      go_ret
      exact ⟨rfl, rfl⟩
    · have e : decide (0 ≤ v ∧ v < n) = false := by simp [h2]
      have d2 : decide (v < n) = false := by simpa using h2
      rw [e]
      go_enter Tryd.func25, Tryd.ntmps25
      go_wp2
      go_ret
      exact ⟨rfl, rfl⟩
  · have e : decide (0 ≤ v ∧ v < n) = false := by simp [h1]
    have d1 : decide (0 ≤ v) = false := by simpa using h1
    rw [e]
    go_enter Tryd.func25, Tryd.ntmps25
    go_wp2
    go_ret
    exact ⟨rfl, rfl⟩

theorem bit_test (M k : Nat) (hM : M < 65536) : (bits BinOp.and IntKind.u32 ((M : Int) / 2 ^ k) 1 == 1) = M.testBit k := by
  have h1 : ((M : Int) / 2 ^ k) = ((M / 2 ^ k : Nat) : Int) := by simp
  have h2 : M / 2 ^ k ≤ M := Nat.div_le_self _ _
  have h3 : (1 : Int) = ((1 : Nat) : Int) := rfl
  rw [h1, h3, u32_and_nat _ _ (by omega) (by omega)]
  rw [Nat.testBit_eq_decide_div_mod_eq, Nat.and_one_is_mod, Bool.eq_iff_iff, beq_iff_eq, decide_eq_true_iff]
  omega

/-- Does mask M hold v? -/
def hasM (M : Nat) (v : Int) : Bool := decide (0 ≤ v ∧ v < 16) && M.testBit v.toNat

theorem pow_lt16 {k : Nat} (hk : k < 16) : 2 ^ k < 65536 := Nat.pow_lt_pow_right (by omega) hk
theorem bit_set (M k : Nat) (hM : M < 65536) (hk : k < 16) : bits BinOp.or IntKind.u32 (M : Int) (2 ^ k % 4294967296) = ((M ||| 2 ^ k : Nat) : Int) := by
  have h2 := pow_lt16 hk
  have h1 : ((2 : Int) ^ k % 4294967296) = ((2 ^ k : Nat) : Int) := by
    have : ((2 : Int) ^ k) = ((2 ^ k : Nat) : Int) := by simp
    rw [this]
    generalize 2 ^ k = q at h2
    omega
  rw [h1, u32_or_nat _ _ (by omega) (by omega)]
theorem or_lt16 {M k : Nat} (hM : M < 65536) (hk : k < 16) : M ||| 2 ^ k < 65536 := by
  have h2 := pow_lt16 hk
  exact Nat.or_lt_two_pow (n := 16) hM h2

end Go.Proofs.YtojbaepcflkgeaaDoor

/- Walks: the mask of a row. -/
namespace Go.Proofs.YtojbaepcflkgeaaDoor
open Go.RowKit

/-- The mask of the first k elements. -/
def maskTo (xs : List Int) : Nat → Nat
  | 0 => 0
  | k + 1 => maskTo xs k ||| 2 ^ (nth xs k).toNat

theorem maskTo_lt {xs : List Int} {n : Int} (h : ∀ j, j < xs.length → 0 ≤ nth xs j ∧ nth xs j ≤ n - 1) (hn : n ≤ 16) : ∀ k, k ≤ xs.length → maskTo xs k < 65536
  | 0, _ => by simp [maskTo]
  | k + 1, hk => or_lt16 (maskTo_lt h hn k (by omega)) (by have := h k (by omega); omega)

theorem maskTo_bit (xs : List Int) (k i : Nat) (h : ∀ j, j < k → 0 ≤ nth xs j) : (maskTo xs k).testBit i = true ↔ ∃ j, j < k ∧ nth xs j = i := by
  induction k with
  | zero => simp [maskTo]
  | succ k ih =>
    have h0 := h k (by omega)
    rw [maskTo, Nat.testBit_or, Bool.or_eq_true, ih (fun j hj => h j (by omega)), Nat.testBit_two_pow, decide_eq_true_iff]
    constructor
    · rintro (⟨j, hj, e⟩ | e)
      · exact ⟨j, by omega, e⟩
      · exact ⟨k, by omega, by omega⟩
    · rintro ⟨j, hj, e⟩
      by_cases hjk : j = k
      · right; subst hjk; omega
      · exact Or.inl ⟨j, by omega, e⟩

/-- What maskOf hands back. -/
def GaveMask (w : World) (xs : List Int) (n : Int) (e : Ending) (w' : World) : Prop :=
  e = .returned (.tuple #[.int .u32 (if SetP xs n then (maskTo xs xs.length : Int) else 0), .bool (decide (SetP xs n))]) ∧ Below w.heap.size w w'

/-- The last element before place k, -1 at the first. -/
def lastTo (xs : List Int) : Nat → Int
  | 0 => -1
  | k + 1 => nth xs k
theorem stepOk_iff (xs : List Int) (n : Int) (k : Nat) (hp : ∀ j, j < k → StepOk xs n j) : StepOk xs n k ↔ lastTo xs k < nth xs k ∧ nth xs k < n := by
  unfold StepOk
  cases k with
  | zero => simp [lastTo]; omega
  | succ k =>
    have := (hp k (by omega)).1
    simp [lastTo]; omega

theorem rowIs_drawn {w w' : World} {b n : Nat} {t : TypeId} {f : Nat → Value} (h : w.rowIs b t n f) (hd : Drawn w w') : w'.rowIs b t n f := h.of_block ((hd.below w.heap.size).block _ h.lt)

end Go.Proofs.YtojbaepcflkgeaaDoor

/- Walks: nets. -/
namespace Go.Proofs.YtojbaepcflkgeaaDoor
open Go.RowKit

/-- No vertex is its own neighbour; all neighbours of the first n are mutual. -/
def SimpleAt (M : Nat → Nat) (v : Nat) : Prop := hasM (M v) v = false ∧ ∀ u, u < v → hasM (M u) v = hasM (M v) u
instance (M : Nat → Nat) (v : Nat) : Decidable (SimpleAt M v) := by unfold SimpleAt; infer_instance
def SimpleP (n : Nat) (M : Nat → Nat) : Prop := ∀ v, v < n → SimpleAt M v
instance (n : Nat) (M : Nat → Nat) : Decidable (SimpleP n M) := by unfold SimpleP; infer_instance

/-- Block b holds a net: n vertices, masks M. -/
def NetAt (w : World) (b n : Nat) (M : Nat → Nat) : Prop :=
  w.cell? ⟨b, 0, none⟩ = some (.int .i64 n) ∧ ∀ i, i < 16 → w.cell? ⟨b, 1 + i, none⟩ = some (.int .u32 (M i : Int))
theorem NetAt.keep {w w' : World} {b n : Nat} {M : Nat → Nat} (h : NetAt w b n M) (hb : Below w.heap.size w w') : NetAt w' b n M :=
  ⟨cell_keep hb h.1, fun i hi => cell_keep hb (h.2 i hi)⟩
theorem NetAt.drawn {w w' : World} {b n : Nat} {M : Nat → Nat} (h : NetAt w b n M) (hb : Drawn w w') : NetAt w' b n M := h.keep (hb.below _)

end Go.Proofs.YtojbaepcflkgeaaDoor
