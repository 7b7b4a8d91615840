/- The texts CO1, CO2, joined. -/
import Derived.Test.YtmfolclpddoplaaQM7
import Derived.Test.YtmfolclpddoplaaQM1
import Derived.Test.YtmfolclpddoplaaQC1
import Derived.Test.YtmfolclpddoplaaQF6

/- Walks: the adjacency code, of the model. -/
namespace Go.Proofs.Ytmfolclpddoplaa
open Go.RowKit

/-- 1 or 0. -/
def flagI (b : Bool) : Int := if b then 1 else 0
theorem flagI_rng (b : Bool) : 0 ≤ flagI b ∧ flagI b ≤ 1 := by cases b <;> simp [flagI]
/-- What the vertex v adds to the code behind the first k of xs. -/
def codeRow (A : Nat → Nat → Bool) (xs : List Int) (v : Int) (k : Nat) : List Int := (xs.take k).map (fun u => flagI (A u.toNat v.toNat))
theorem codeRow_zero (A : Nat → Nat → Bool) (xs : List Int) (v : Int) : codeRow A xs v 0 = [] := by simp [codeRow]
theorem codeRow_succ (A : Nat → Nat → Bool) {xs : List Int} (v : Int) {k : Nat} (h : k < xs.length) : codeRow A xs v (k + 1) = codeRow A xs v k ++ [flagI (A (nth xs k).toNat v.toNat)] := by
  unfold codeRow
  simp only [List.take_add_one, List.getElem?_eq_getElem h, Option.toList_some, List.map_append, List.map_cons, List.map_nil, nth_eq h]
theorem codeRow_len (A : Nat → Nat → Bool) (xs : List Int) (v : Int) (k : Nat) : (codeRow A xs v k).length ≤ k := by simp [codeRow]; omega
theorem codeRow_rng (A : Nat → Nat → Bool) (xs : List Int) (v : Int) (k : Nat) : ∀ x ∈ codeRow A xs v k, 0 ≤ x ∧ x ≤ 1 := by
  intro x hx
  unfold codeRow at hx
  rw [List.mem_map] at hx
  obtain ⟨u, _, rfl⟩ := hx
  exact flagI_rng _
/-- The code of the first j of xs. -/
def codeTo (A : Nat → Nat → Bool) (xs : List Int) : Nat → List Int
  | 0 => []
  | j + 1 => codeTo A xs j ++ codeRow A xs (nth xs j) j
theorem codeTo_len (A : Nat → Nat → Bool) (xs : List Int) (j : Nat) : (codeTo A xs j).length ≤ j * j := by
  induction j with
  | zero => simp [codeTo]
  | succ j ih =>
    rw [codeTo, List.length_append, Nat.succ_mul, Nat.mul_succ]
    have := codeRow_len A xs (nth xs j) j
    omega
theorem codeTo_rng (A : Nat → Nat → Bool) (xs : List Int) (j : Nat) : ∀ x ∈ codeTo A xs j, 0 ≤ x ∧ x ≤ 1 := by
  induction j with
  | zero => intro x hx; simp [codeTo] at hx
  | succ j ih =>
    intro x hx
    rw [codeTo, List.mem_append] at hx
    rcases hx with hx | hx
    · exact ih x hx
    · exact codeRow_rng _ _ _ _ x hx
theorem codeTo_small (A : Nat → Nat → Bool) (xs : List Int) {j : Nat} (h : j ≤ 16) : (codeTo A xs j).length ≤ 256 := Nat.le_trans (codeTo_len A xs j) (Nat.le_trans (Nat.mul_le_mul h h) (by decide))
theorem code_i64 {A : Nat → Nat → Bool} {xs : List Int} {j k : Nat} {v : Int} : ∀ x ∈ codeTo A xs j ++ codeRow A xs v k, I64 x := by
  intro x hx
  have : 0 ≤ x ∧ x ≤ 1 := by
    rcases List.mem_append.1 hx with h | h
    · exact codeTo_rng _ _ _ x h
    · exact codeRow_rng _ _ _ _ x h
  unfold I64
  omega
/-- What CodeOf answers. -/
def codeL (L : List (List Int)) : List Int := if GraphP L then codeTo (adjB L) (allL L.length) L.length else []
theorem codeL_small (L : List (List Int)) : (codeL L).length ≤ 1048576 := by
  unfold codeL
  split
  · rename_i h
    have := codeTo_small (adjB L) (allL L.length) h.1.2
    omega
  · simp
theorem allL_nth {n k : Nat} (h : k < n) : nth (allL n) k = (k : Int) := by
  rw [nth_eq (by rw [allL_len]; exact h)]
  simp [allL]

theorem lit1 (w : World) (x : Int) (T : TypeId) : ∀ j u, ([Value.int .i64 x] : List Value)[j]? = some u → (w.alloc (.cells #[.int .i64 x] T)).cell? ((⟨w.heap.size, 0, none⟩ : Addr).add j) = some u := by
  intro j u hj
  match j, hj with
  | 0, hj => simp at hj; subst hj; simp [Addr.add]
theorem one1 (x : Int) : ∀ u ∈ ([Value.int .i64 x] : List Value), u.oneCell' = true := by
  intro u hu; simp at hu; subst hu; rfl

end Go.Proofs.Ytmfolclpddoplaa

/- Walks: the adjacency code, of the program. -/
namespace Go.Proofs.Ytmfolclpddoplaa
open Go.RowKit

/-- Who is near whom, by masks. -/
def mA (M : Nat → Nat) (a b : Nat) : Bool := (M a).testBit b

theorem listTo_all (n k : Nat) : listTo (2 ^ n - 1) k = allL (min k n) := by
  induction k with
  | zero => simp [allL, listTo]
  | succ k ih =>
    rw [listTo_succ, ih, Nat.testBit_two_pow_sub_one]
    by_cases h : k < n
    · rw [decide_eq_true h, show min (k + 1) n = k + 1 from by omega, show min k n = k from by omega, allL_succ]
      rfl
    · rw [decide_eq_false h, show min (k + 1) n = n from by omega, show min k n = n from by omega]
      simp
theorem listM_all {n : Nat} (hn : n ≤ 16) : listM (2 ^ n - 1) = allL n := by
  show listTo _ 16 = _
  rw [listTo_all, show min 16 n = n from by omega]

/-- The first k cells of a slice, by a slice expression. -/
theorem rowAt_take {w : World} {v : Value} {xs : List Int} (h : RowAt w v xs) {b o c k : Nat} (e : v = .slice (some ⟨b, o, none⟩) xs.length c) (hk : k ≤ xs.length) : ∀ i, i < k → w.cell? ⟨b, o + i, none⟩ = some (.int .i64 (nth xs i)) := by
  intro i hi
  obtain ⟨b', o', c', e', _, _, hc⟩ := h.pos (by omega)
  rw [e] at e'
  simp only [Value.slice.injEq, Option.some.injEq, Addr.mk.injEq, and_true, true_and] at e'
  obtain ⟨⟨rfl, rfl⟩, rfl⟩ := e'
  exact hc i (by omega)

end Go.Proofs.Ytmfolclpddoplaa
