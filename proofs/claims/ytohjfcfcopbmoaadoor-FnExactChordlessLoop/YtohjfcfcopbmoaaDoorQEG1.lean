/- The texts EG1, EC1, EC2, joined. -/
import Derived.Test.YtohjfcfcopbmoaaDoorQEL1
import Derived.Test.YtohjfcfcopbmoaaDoorQM4
import Derived.Test.YtohjfcfcopbmoaaDoorQEO1

/- Walks: how many pairs of a list are no neighbours, of the model. -/
namespace Go.Proofs.YtohjfcfcopbmoaaDoor
open Go.RowKit

end Go.Proofs.YtohjfcfcopbmoaaDoor

/- Plain facts: an order built by taking, again and again, the first vertex whose neighbours that are left are all near each other. -/
namespace Go.Proofs.YtohjfcfcopbmoaaDoor
open Go.RowKit

/-- The first number below n of which p holds; n if there is none. -/
def findTo (p : Nat → Bool) : Nat → Nat
  | 0 => 0
  | n + 1 => if findTo p n < n then findTo p n else if p n = true then n else n + 1
theorem findTo_le (p : Nat → Bool) (n : Nat) : findTo p n ≤ n := by
  induction n with
  | zero => exact Nat.le_refl _
  | succ n ih => rw [findTo]; split; omega; split <;> omega
theorem findTo_no {p : Nat → Bool} {n v : Nat} (hv : v < findTo p n) : p v = false := by
  induction n with
  | zero => simp [findTo] at hv
  | succ n ih =>
    have hle := findTo_le p n
    rw [findTo] at hv
    by_cases h1 : findTo p n < n
    · rw [if_pos h1] at hv; exact ih hv
    · rw [if_neg h1] at hv
      have e : findTo p n = n := by omega
      by_cases h2 : p n = true
      · rw [if_pos h2] at hv; exact ih (by omega)
      · rw [if_neg h2] at hv
        by_cases h3 : v = n
        · subst h3; simpa using h2
        · exact ih (by omega)
theorem findTo_yes {p : Nat → Bool} {n : Nat} (h : findTo p n < n) : p (findTo p n) = true := by
  induction n with
  | zero => simp [findTo] at h
  | succ n ih =>
    have hle := findTo_le p n
    rw [findTo] at h ⊢
    by_cases h1 : findTo p n < n
    · rw [if_pos h1]; exact ih h1
    · rw [if_neg h1] at h ⊢
      by_cases h2 : p n = true
      · rw [if_pos h2]; exact h2
      · rw [if_neg h2] at h; omega
theorem findTo_some {p : Nat → Bool} {n v : Nat} (hv : v < n) (hp : p v = true) : findTo p n < n := by
  rcases Nat.lt_or_ge (findTo p n) n with h | h
  · exact h
  · have := findTo_no (p := p) (n := n) (v := v) (by omega)
    rw [hp] at this; cases this
theorem findTo_at {p : Nat → Bool} {n v : Nat} (hv : v < n) (hp : p v = true) (hn : ∀ u, u < v → p u = false) : findTo p n = v := by
  have h1 := findTo_some hv hp
  have h2 := findTo_yes h1
  rcases Nat.lt_trichotomy (findTo p n) v with h | h | h
  · rw [hn _ h] at h2; cases h2
  · exact h
  · have := findTo_no h
    rw [hp] at this; cases this
theorem findTo_none {p : Nat → Bool} {n : Nat} (hn : ∀ u, u < n → p u = false) : findTo p n = n := by
  have hle := findTo_le p n
  rcases Nat.lt_or_ge (findTo p n) n with h | h
  · have := findTo_yes h
    rw [hn _ h] at this; cases this
  · omega

/-- May v go: it has not gone, and its neighbours that are left are near each other. -/
def mayGo (A : Nat → Nat → Bool) (ys : List Int) (v : Nat) : Bool := !hasB ys (v : Int) && (missN A (listM (pm (leftB A ys v))) == 0)
def poS (A : Nat → Nat → Bool) (n : Nat) : Nat → List Int
  | 0 => []
  | k + 1 => if findTo (mayGo A (poS A n k)) n < n then poS A n k ++ [(findTo (mayGo A (poS A n k)) n : Int)] else poS A n k
def pfB (A : Nat → Nat → Bool) (n : Nat) : Bool := decide ((poS A n n).length = n)
theorem poS_le (A : Nat → Nat → Bool) (n k : Nat) : (poS A n k).length ≤ k := by
  induction k with
  | zero => exact Nat.le_refl _
  | succ k ih =>
    rw [poS]
    split
    · rw [List.length_append, List.length_singleton]; omega
    · omega
theorem poS_stuck {A : Nat → Nat → Bool} {n k : Nat} (h : findTo (mayGo A (poS A n k)) n = n) : ∀ m, k ≤ m → poS A n m = poS A n k := by
  intro m
  induction m with
  | zero => intro h1; have : k = 0 := by omega
            subst this; rfl
  | succ m ih =>
    intro h1
    by_cases e : k = m + 1
    · subst e; rfl
    · rw [poS, ih (by omega), if_neg (by omega)]
theorem poS_no {A : Nat → Nat → Bool} {n k : Nat} (hk : k < n) (h : findTo (mayGo A (poS A n k)) n = n) : pfB A n = false := by
  unfold pfB
  rw [decide_eq_false_iff_not, poS_stuck h n (by omega)]
  have := poS_le A n k
  omega
theorem missN_zero {B : Nat → Nat → Bool} {zs : List Int} (h : ∀ i k, k < i → i < zs.length → B (vtxN zs k) (vtxN zs i) = true) : missN B zs = 0 := by
  unfold missN missTo
  refine sumTo_zero (fun i hi => sumTo_zero (fun k hk => ?_))
  unfold missA
  rw [h i k hk hi]; rfl
/-- Two later neighbours of one vertex are neighbours in the filled graph. -/
theorem later_pair {A : Nat → Nat → Bool} {n : Nat} (hA : RelP n A) {xs : List Int} (h : OrdP xs n) {v i j : Nat} (hv : v < n) (hi : laterA A xs v i = true) (hj : laterA A xs v j = true) (hij : i ≠ j) : fillX A xs i j = true := by
  obtain ⟨hk, e⟩ := ordP_idx h hv
  obtain ⟨k, hkk⟩ : ∃ k, k = xs.idxOf (v : Int) := ⟨_, rfl⟩
  rw [← hkk] at hk e
  rw [later_at hA h hk e] at hi hj
  have h3 : fillX A (xs.take (k + 1)) i j = true := by
    rw [take_snoc hk, fillX_snoc]
    unfold cliqueA
    rw [← take_snoc hk, e, Int.toNat_natCast, hi, hj]
    have : (i != j) = true := by rw [bne_iff_ne]; exact hij
    rw [this]; simp
  have h4 : ∀ m, k + 1 ≤ m → m ≤ xs.length → fillX A (xs.take m) i j = true := by
    intro m
    induction m with
    | zero => intro h1 _; omega
    | succ m ihm =>
      intro h1 h2
      by_cases e2 : k = m
      · subst e2; exact h3
      · rw [take_snoc (by omega)]; exact fillX_more _ _ _ (ihm (by omega) (by omega))
  have h5 := h4 xs.length (by omega) (Nat.le_refl _)
  rwa [List.take_length] at h5
theorem fill_may {A : Nat → Nat → Bool} {n : Nat} (hA : RelP n A) (hn : n ≤ 16) {xs : List Int} (h : OrdP xs n) {ys : List Int} (hl : ys.length < n) : ∃ v, v < n ∧ mayGo (fillX A xs) ys v = true := by
  obtain ⟨v0, hv0, hf0⟩ := free_some hl
  obtain ⟨hp0, hq0⟩ := ordP_idx h hv0
  obtain ⟨i, hi, hpi, hmin⟩ := first_out (xs := xs) (fun i => hasB ys (nth xs i) = false) ⟨_, hp0, by rw [hq0]; exact hf0⟩
  obtain ⟨v, hv, ev⟩ := ordP_at h hi
  rw [ev] at hpi
  refine ⟨v, hv, ?_⟩
  unfold mayGo
  rw [hpi]
  have hF := fillX_rel hA xs
  have hlat : ∀ u, leftB (fillX A xs) ys v u = true → laterA A xs v u = true := by
    intro u hu
    unfold leftB at hu
    rw [Bool.and_eq_true] at hu
    have hun := (hF.range v u hu.1).2
    obtain ⟨pu, qu⟩ := ordP_idx h hun
    have pv := ordP_pos h hi
    rw [ev] at pv
    unfold laterA behB
    rw [hu.1, Bool.true_and, decide_eq_true_iff, pv]
    rcases Nat.lt_trichotomy i (xs.idxOf (u : Int)) with e | e | e
    · exact e
    · exfalso
      rw [← e, ev] at qu
      have : v = u := by omega
      subst this
      rw [hF.self] at hu; exact absurd hu.1 (by simp)
    · exfalso
      refine hmin _ e ?_
      show hasB ys (nth xs (xs.idxOf (u : Int))) = false
      rw [qu]
      have h2 := hu.2
      rw [Bool.not_eq_true'] at h2
      exact h2
  have hz : missN (fillX A xs) (listM (pm (leftB (fillX A xs) ys v))) = 0 := by
    refine missN_zero (fun i k hki hil => ?_)
    have hb : ∀ q, q < (listM (pm (leftB (fillX A xs) ys v))).length → leftB (fillX A xs) ys v (vtxN (listM (pm (leftB (fillX A xs) ys v))) q) = true := by
      intro q hq
      obtain ⟨u, h1, h2, h3⟩ := (listM_mem _ _).1 (nth_mem hq)
      rw [pm_bit, Bool.and_eq_true] at h2
      unfold vtxN
      rw [← h3, Int.toNat_natCast]
      exact h2.2
    refine later_pair hA h hv (hlat _ (hb k (by omega))) (hlat _ (hb i hil)) (fun e => ?_)
    have := vtx_inj (by omega) hil e
    omega
  rw [hz]; rfl
theorem fill_po {A : Nat → Nat → Bool} {n : Nat} (hA : RelP n A) (hn : n ≤ 16) {xs : List Int} (h : OrdP xs n) : pfB (fillX A xs) n = true := by
  have key : ∀ k, k ≤ n → (poS (fillX A xs) n k).length = k := by
    intro k
    induction k with
    | zero => intro _; rfl
    | succ k ih =>
      intro hk
      have h1 := ih (by omega)
      obtain ⟨v, hv, hp⟩ := fill_may hA hn h (ys := poS (fillX A xs) n k) (by omega)
      rw [poS, if_pos (findTo_some hv hp), List.length_append, List.length_singleton, h1]
  unfold pfB
  rw [decide_eq_true_iff]
  exact key n (Nat.le_refl _)

end Go.Proofs.YtohjfcfcopbmoaaDoor

/- Walks: PerfectOrder and ChordalIn of the model. -/
namespace Go.Proofs.YtohjfcfcopbmoaaDoor
open Go.RowKit

theorem left_vtx {n : Nat} {S : Nat → Bool} (hS : ∀ u, S u = true → u < n) : ∀ i, i < (listM (pm S)).length → ∃ u : Nat, u < n ∧ nth (listM (pm S)) i = (u : Int) := fun i hi => by
  obtain ⟨h1, _, h3⟩ := vtx_listM hi
  exact ⟨_, hS _ h1, h3⟩
theorem left_adj {L : List (List Int)} (hG : GraphP L) {S : Nat → Bool} (hS : ∀ u, S u = true → u < L.length) : ∀ k i, k < (listM (pm S)).length → i < (listM (pm S)).length → hasB (nthR L (vtxN (listM (pm S)) k)) (nth (listM (pm S)) i) = adjB L (vtxN (listM (pm S)) k) (vtxN (listM (pm S)) i) := fun k i hk hi => by
  obtain ⟨h1, _, h3⟩ := vtx_listM hk
  obtain ⟨h4, h5, h6⟩ := vtx_listM hi
  rw [h6]
  exact adjB_has hG (hS _ h1) h5

def lenO : Value → Nat
  | .slice _ n _ => n
  | _ => 0
/-- At work: who has gone, the list so far. -/
structure PoW (w1 : World) (n : Nat) (ys : List Int) (ov : Value) (w : World) : Prop where
  gone : w.rowIs w1.heap.size 4 n (fun i => .bool (hasB ys (i : Int)))
  out : OwnRow 2 w (w1.heap.size + 1) ov ys
  bel : Below w1.heap.size w1 w
theorem PoW.keep {w1 : World} {n : Nat} {ys : List Int} {ov : Value} {w w' : World} (h : PoW w1 n ys ov w) (hb : Below w.heap.size w w') : PoW w1 n ys ov w' :=
  ⟨rowIs_below h.gone hb, h.out.keep hb, h.bel.trans (hb.mono h.bel.size)⟩
theorem PoW.flag {w1 : World} {n : Nat} {ys : List Int} {ov : Value} {w : World} (h : PoW w1 n ys ov w) (q : Nat) : (w.setCell ⟨w1.heap.size, q, none⟩ (.bool true)).rowIs w1.heap.size 4 n (fun i => .bool (hasB (ys ++ [(q : Int)]) (i : Int))) ∧ OwnRow 2 (w.setCell ⟨w1.heap.size, q, none⟩ (.bool true)) (w1.heap.size + 1) ov ys ∧ Below w1.heap.size w1 (w.setCell ⟨w1.heap.size, q, none⟩ (.bool true)) := by
  refine ⟨(h.gone.set q (.bool true)).congr (fun i _ => ?_), h.out.setBelow (by simp) _, h.bel.setCell (Nat.le_refl _) _⟩
  rw [← hasB_more]
  by_cases e : i = q
  · rw [if_pos e, if_pos e]
  · rw [if_neg e, if_neg e]
theorem poS_next {A : Nat → Nat → Bool} {n k q : Nat} (h : findTo (mayGo A (poS A n k)) n = q) (hq : q < n) : poS A n (k + 1) = poS A n k ++ [(q : Int)] := by rw [poS, h, if_pos hq]
theorem own_none2 (w : World) (B : Nat) (hB : B ≤ w.heap.size) : OwnRow 2 (w.alloc (.cells #[] 2)) B (.slice (some ⟨w.heap.size, 0, none⟩) 0 0) [] :=
  ⟨by simp, by simp, .inr ⟨w.heap.size, 0, #[], rfl, hB, heap_alloc_new w _, Nat.le_refl _, Nat.zero_le _, rfl, fun i hi => absurd hi (by simp)⟩⟩
/-- A row and a yes or no. -/
def GaveYes (w : World) (xs : List Int) (ok : Bool) (e : Ending) (w' : World) : Prop :=
  ∃ m a c, e = .returned (.tuple #[.slice a m c, .bool ok]) ∧ OwnRow 2 w' w.heap.size (.slice a m c) xs ∧ Below w.heap.size w w'
def pfL (L : List (List Int)) : List Int := if GraphP L ∧ pfB (adjB L) L.length = true then poS (adjB L) L.length L.length else []
def poV (L : List (List Int)) : Bool := decide (GraphP L) && pfB (adjB L) L.length

theorem pf_no {L : List (List Int)} (h : ¬ (GraphP L ∧ pfB (adjB L) L.length = true)) : pfL L = [] ∧ poV L = false := by
  refine ⟨if_neg h, ?_⟩
  unfold poV
  by_cases hG : GraphP L
  · have : pfB (adjB L) L.length = false := by
      cases hp : pfB (adjB L) L.length with
      | false => rfl
      | true => exact absurd ⟨hG, hp⟩ h
    rw [this, Bool.and_false]
  · rw [decide_eq_false hG, Bool.false_and]
theorem pf_yes {L : List (List Int)} (hG : GraphP L) (h : pfB (adjB L) L.length = true) : pfL L = poS (adjB L) L.length L.length ∧ poV L = true := by
  refine ⟨if_pos ⟨hG, h⟩, ?_⟩
  unfold poV
  rw [decide_eq_true hG, h]; rfl

/-- A filled graph is chordal. -/
theorem fill_chordal {L : List (List Int)} {xs : List Int} (hG : GraphP L) (hO : OrdP xs L.length) : poV (adjL L.length (fillX (adjB L) xs)) = true := by
  have hA := adjB_rel hG
  have hF := fillX_rel hA xs
  have hGF := hF.graph hG.1
  have hB : ∀ i j, adjB (adjL L.length (fillX (adjB L) xs)) i j = fillX (adjB L) xs i j := by
    intro i j
    by_cases hi : i < L.length
    · by_cases hj : j < 16
      · exact adjB_adjL hGF hi hj
      · have h1 : adjB (adjL L.length (fillX (adjB L) xs)) i j = false := by
          cases h : adjB (adjL L.length (fillX (adjB L) xs)) i j with
          | false => rfl
          | true => have := (adjB_range hGF h).2; rw [adjL_len] at this; have := hG.1; omega
        have h2 : fillX (adjB L) xs i j = false := by
          cases h : fillX (adjB L) xs i j with
          | false => rfl
          | true => have := (hF.range i j h).2; have := hG.1; omega
        rw [h1, h2]
    · have h1 : adjB (adjL L.length (fillX (adjB L) xs)) i j = false := by
        cases h : adjB (adjL L.length (fillX (adjB L) xs)) i j with
        | false => rfl
        | true => have := (adjB_range hGF h).1; rw [adjL_len] at this; omega
      have h2 : fillX (adjB L) xs i j = false := by
        cases h : fillX (adjB L) xs i j with
        | false => rfl
        | true => have := (hF.range i j h).1; omega
      rw [h1, h2]
  refine (pf_yes hGF ?_).2
  rw [adjL_len, show adjB (adjL L.length (fillX (adjB L) xs)) = fillX (adjB L) xs from by funext i j; exact hB i j]
  exact fill_po hA hG.1.2 hO

end Go.Proofs.YtohjfcfcopbmoaaDoor
