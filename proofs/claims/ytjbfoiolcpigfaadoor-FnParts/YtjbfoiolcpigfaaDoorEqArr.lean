/- Go's == on arrays of integers of one cell each, in the model's words. No statement of the program. -/
import Derived.WalkKit
import Derived.Laws.StructEq
namespace Go.Proofs.YtjbfoiolcpigfaaDoor
open Go.RowKit

section
variable {P : Program} (w : World)

theorem run_part_int {e : TypeId} {k : IntKind} (he : P.underlying e = some (.int k)) (cs : Array Value) (i : Nat) (v : Value) (h : cs[i]? = some v) : (part e cs i).run P w = .ok v w := by
  unfold part isAgg
  simp [Sem.run_bind, run_underlying he, h]

theorem run_equalIn_array {d len : Nat} {t e : TypeId} {k : IntKind} {i : TypeInfo} (ht : P.underlying t = some (.array len e)) (he : P.underlying e = some (.int k)) (hi : P.info? e = some i) (hs : i.size = 1) (xs ys : Array Value) (X Y : Nat → Int)
    (hx : ∀ j, j < len → xs[j]? = some (.int k (X j))) (hy : ∀ j, j < len → ys[j]? = some (.int k (Y j))) :
    (Op.equalIn (d + 2) t (.agg xs) (.agg ys)).run P w = .ok (decide (∀ j, j < len → X j = Y j)) w := by
  rw [Op.equalIn]
  simp only [Sem.run_bind, run_underlying ht, Result.andThen_ok]
  have hsz : (sizeOf e).run P w = .ok 1 w := by simp [sizeOf, typeInfo, hi, hs, Sem.run_bind]
  simp only [hsz, Result.andThen_ok, Nat.mul_one]
  rw [Std.Legacy.Range.forIn_eq_forIn_range']
  simp only [Std.Legacy.Range.size, Nat.sub_zero, Nat.add_sub_cancel, Nat.div_one]
  have key : ∀ (n s : Nat), s + n = len →
      ((forIn (List.range' s n) ((none, ()) : Option Bool × Unit) (fun j _ => do
          let a ← part e xs j
          let b ← part e ys j
          let r ← Op.equalIn (d + 1) e a b
          if (!r) = true then pure (ForInStep.done (some false, ())) else pure (ForInStep.yield (none, ()))) : Sem (Option Bool × Unit)).run P w) =
        .ok ⟨if (∀ j, j < len → s ≤ j → X j = Y j) then none else some false, ()⟩ w := by
    intro n
    induction n with
    | zero =>
      intro s hsn
      have : ∀ j, j < len → s ≤ j → X j = Y j := fun j h2 h1 => by omega
      rw [if_pos this]
      rfl
    | succ n ih =>
      intro s hsn
      rw [List.range'_succ, List.forIn_cons]
      simp only [Sem.run_bind, run_part_int w he xs s _ (hx s (by omega)), run_part_int w he ys s _ (hy s (by omega)), Result.andThen_ok, run_equalIn_int w d e k k _ _ he]
      by_cases hq : X s = Y s
      · have hb : (X s == Y s) = true := by simpa using hq
        simp only [hb, Bool.not_true, Bool.false_eq_true, if_false, Sem.run_pure, Result.andThen_ok]
        rw [ih (s + 1) (by omega)]
        have e2 : (∀ j, j < len → s + 1 ≤ j → X j = Y j) ↔ (∀ j, j < len → s ≤ j → X j = Y j) := by
          constructor
          · intro h j h2 h1
            by_cases e3 : j = s
            · subst e3; exact hq
            · exact h j h2 (by omega)
          · intro h j h2 h1; exact h j h2 (by omega)
        simp only [e2]
      · have hb : (X s == Y s) = false := by simpa using hq
        have hn : ¬ (∀ j, j < len → s ≤ j → X j = Y j) := fun h => hq (h s (by omega) (Nat.le_refl _))
        simp [hb, hn]
  have k0 := key len 0 (by omega)
  rw [k0]
  simp only [Result.andThen_ok]
  by_cases hq : ∀ j, j < len → X j = Y j
  · rw [if_pos (fun j h1 _ => hq j h1), decide_eq_true hq]
    rfl
  · rw [if_neg (fun h => hq (fun j h1 => h j h1 (Nat.zero_le _))), decide_eq_false hq]
    rfl

end
end Go.Proofs.YtjbfoiolcpigfaaDoor
