/- Walks: the model's complement. -/
import Derived.Test.YtjbfoiolcpigfaaM1
import Derived.Test.YtjbfoiolcpigfaaC2
namespace Go.Proofs.Ytjbfoiolcpigfaa
open Go.RowKit

/-- Which pairs have been looked at: all below v, and of v those below u. -/
def doneB (v u i j : Nat) : Bool := decide ((i < v ∧ j < v) ∨ (i = v ∧ j < u) ∨ (j = v ∧ i < u))
/-- .. and are near by R. -/
def stepA (R : Nat → Nat → Bool) (v u i j : Nat) : Bool := doneB v u i j && R i j
theorem doneB_same {v u i j : Nat} (h1 : ¬ (i = u ∧ j = v)) (h2 : ¬ (i = v ∧ j = u)) : doneB v (u + 1) i j = doneB v u i j := by
  unfold doneB
  rw [Bool.eq_iff_iff, decide_eq_true_iff, decide_eq_true_iff]
  omega
theorem stepA_link {R : Nat → Nat → Bool} {v u : Nat} (h1 : R u v = true) (h2 : R v u = true) (i j : Nat) : stepA R v (u + 1) i j = linkA (stepA R v u) u v i j := by
  unfold linkA
  by_cases e1 : i = u ∧ j = v
  · obtain ⟨rfl, rfl⟩ := e1
    have : stepA R j (i + 1) i j = true := by unfold stepA doneB; rw [h1, Bool.and_true, decide_eq_true_iff]; omega
    rw [this]; simp
  · by_cases e2 : i = v ∧ j = u
    · obtain ⟨rfl, rfl⟩ := e2
      have : stepA R i (j + 1) i j = true := by unfold stepA doneB; rw [h2, Bool.and_true, decide_eq_true_iff]; omega
      rw [this]; simp
    · have c1 : (i == u && j == v) = false := by cases h : (i == u && j == v) with | false => rfl | true => (simp at h; exact absurd h e1)
      have c2 : (i == v && j == u) = false := by cases h : (i == v && j == u) with | false => rfl | true => (simp at h; exact absurd h e2)
      rw [c1, c2, Bool.or_false, Bool.or_false]
      unfold stepA
      rw [doneB_same e1 e2]
theorem stepA_skip {R : Nat → Nat → Bool} {v u : Nat} (h1 : R u v = false) (h2 : R v u = false) (i j : Nat) : stepA R v (u + 1) i j = stepA R v u i j := by
  unfold stepA
  by_cases e1 : i = u ∧ j = v
  · obtain ⟨rfl, rfl⟩ := e1; rw [h1, Bool.and_false, Bool.and_false]
  · by_cases e2 : i = v ∧ j = u
    · obtain ⟨rfl, rfl⟩ := e2; rw [h2, Bool.and_false, Bool.and_false]
    · rw [doneB_same e1 e2]
theorem stepA_next {R : Nat → Nat → Bool} (hl : ∀ i, R i i = false) (v i j : Nat) : stepA R v v i j = stepA R (v + 1) 0 i j := by
  unfold stepA
  by_cases e : i = j
  · subst e; rw [hl, Bool.and_false, Bool.and_false]
  · congr 1
    unfold doneB
    rw [Bool.eq_iff_iff, decide_eq_true_iff, decide_eq_true_iff]
    omega
theorem stepA_zero (R : Nat → Nat → Bool) (i j : Nat) : stepA R 0 0 i j = false := by
  unfold stepA doneB
  rw [decide_eq_false (by omega), Bool.false_and]
theorem stepA_all {R : Nat → Nat → Bool} {n : Nat} (hr : ∀ i j, R i j = true → i < n ∧ j < n) (i j : Nat) : stepA R n 0 i j = R i j := by
  unfold stepA doneB
  cases h : R i j with
  | false => rw [Bool.and_false]
  | true => rw [Bool.and_true, decide_eq_true_iff]; exact Or.inl (hr i j h)

/-- The boxes of a model's function at work: its graph's, its result's, and that of the graph which it makes. -/
structure Work (w0 : World) (b0 : Nat) (v : Value) (bo n B : Nat) (A : Nat → Nat → Bool) (w : World) : Prop where
  arg : BoxAt w b0 v
  res : BoxAt w (b0 + 1) (.slice none 0 0)
  out : ∃ a c, BoxT 28 w bo (.slice a n c) ∧ OwnGrid 2 26 w B (.slice a n c) (adjL n A)
  bel : Below b0 w0 w
theorem Work.keep {w0 : World} {b0 : Nat} {v : Value} {bo n B : Nat} {A : Nat → Nat → Bool} {w w' : World} (h : Work w0 b0 v bo n B A w) (hb : Below w.heap.size w w') : Work w0 b0 v bo n B A w' := by
  obtain ⟨h1, h2, ⟨a, c, h3, h4⟩, h5⟩ := h
  exact ⟨h1.keep hb, h2.keep hb, ⟨a, c, h3.keep hb, h4.keep hb⟩, h5.trans (hb.mono (Nat.le_of_lt h1.lt))⟩
theorem Work.congr {w0 : World} {b0 : Nat} {v : Value} {bo n B : Nat} {A A' : Nat → Nat → Bool} {w : World} (h : Work w0 b0 v bo n B A w) (e : ∀ i j, A i j = A' i j) : Work w0 b0 v bo n B A' w := by
  obtain rfl : A = A' := by funext i j; exact e i j
  exact h

/-- Who is near whom in the complement. -/
def compA (L : List (List Int)) (i j : Nat) : Bool := decide (i < L.length) && decide (j < L.length) && (i != j) && !adjB L i j
def compL (L : List (List Int)) : List (List Int) := if GraphP L then adjL L.length (compA L) else []

theorem compA_sym {L : List (List Int)} (hG : GraphP L) (i j : Nat) : compA L i j = compA L j i := by
  unfold compA
  rw [adjB_sym hG i j]
  have e : (i != j) = (j != i) := by rw [Bool.eq_iff_iff, bne_iff_ne, bne_iff_ne]; exact ⟨fun h e => h e.symm, fun h e => h e.symm⟩
  rw [e]
  cases decide (i < L.length) <;> cases decide (j < L.length) <;> rfl
theorem compA_range {L : List (List Int)} {i j : Nat} (h : compA L i j = true) : i < L.length ∧ j < L.length := by
  unfold compA at h
  simp at h
  exact ⟨h.1.1.1, h.1.1.2⟩
theorem compA_self (L : List (List Int)) (i : Nat) : compA L i i = false := by unfold compA; simp

end Go.Proofs.Ytjbfoiolcpigfaa
