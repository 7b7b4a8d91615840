/- The texts EO1, EO2, EO3, joined. -/
import Derived.Test.YtohjfcfcopbmoaaU1

/- Plain facts: elimination of a graph's vertices by a list of them: the filled graph, what is left of it, the later neighbours. -/
namespace Go.Proofs.Ytohjfcfcopbmoaa
open Go.RowKit

/-- Of a vertex's neighbours those that are not in the list. -/
def leftB (B : Nat → Nat → Bool) (ys : List Int) (v u : Nat) : Bool := B v u && !hasB ys (u : Int)
/-- All of a set become neighbours. -/
def cliqueA (B : Nat → Nat → Bool) (S : Nat → Bool) (i j : Nat) : Bool := B i j || (S i && S j && i != j)
def fillR (A : Nat → Nat → Bool) : List Int → Nat → Nat → Bool
  | [] => A
  | v :: r => cliqueA (fillR A r) (leftB (fillR A r) (v :: r) v.toNat)
/-- The graph filled by the elimination of a list of vertices. -/
def fillX (A : Nat → Nat → Bool) (ys : List Int) : Nat → Nat → Bool := fillR A ys.reverse
/-- .. those of its edges that are left. -/
def webX (A : Nat → Nat → Bool) (ys : List Int) (i j : Nat) : Bool := fillX A ys i j && !hasB ys (i : Int) && !hasB ys (j : Int)

theorem hasB_congr {xs ys : List Int} (h : ∀ z, z ∈ xs ↔ z ∈ ys) (z : Int) : hasB xs z = hasB ys z := by rw [Bool.eq_iff_iff, hasB_mem, hasB_mem]; exact h z
theorem hasB_false {xs : List Int} {z : Int} : hasB xs z = false ↔ z ∉ xs := by
  rw [← hasB_mem]; cases hasB xs z <;> simp
theorem leftB_congr {B : Nat → Nat → Bool} {xs ys : List Int} (h : ∀ z, z ∈ xs ↔ z ∈ ys) (v u : Nat) : leftB B xs v u = leftB B ys v u := by
  unfold leftB; rw [hasB_congr h]
theorem fillX_nil (A : Nat → Nat → Bool) : fillX A [] = A := rfl
theorem fillX_snoc (A : Nat → Nat → Bool) (ys : List Int) (v : Int) : fillX A (ys ++ [v]) = cliqueA (fillX A ys) (leftB (fillX A ys) (ys ++ [v]) v.toNat) := by
  unfold fillX
  rw [List.reverse_append]
  show fillR A (v :: ys.reverse) = _
  rw [fillR]
  funext i j
  unfold cliqueA
  have h : ∀ z, z ∈ v :: ys.reverse ↔ z ∈ ys ++ [v] := fun z => by simp [or_comm]
  rw [leftB_congr h, leftB_congr h]

/-- A relation of n vertices: symmetric, without loops. -/
structure RelP (n : Nat) (A : Nat → Nat → Bool) : Prop where
  range : ∀ i j, A i j = true → i < n ∧ j < n
  sym : ∀ i j, A i j = A j i
  self : ∀ i, A i i = false
theorem adjB_rel {L : List (List Int)} (hG : GraphP L) : RelP L.length (adjB L) := ⟨fun _ _ h => adjB_range hG h, adjB_sym hG, adjB_self hG⟩
theorem RelP.graph {n : Nat} {A : Nat → Nat → Bool} (h : RelP n A) (hn : 1 ≤ n ∧ n ≤ 16) : GraphP (adjL n A) := adjL_graph hn (fun i j e => (h.range i j e).2) h.sym h.self
theorem clique_rel {n : Nat} {B : Nat → Nat → Bool} (h : RelP n B) {S : Nat → Bool} (hS : ∀ i, S i = true → i < n) : RelP n (cliqueA B S) := by
  refine ⟨fun i j e => ?_, fun i j => ?_, fun i => ?_⟩
  · unfold cliqueA at e
    simp only [Bool.or_eq_true, Bool.and_eq_true] at e
    rcases e with e | ⟨⟨e1, e2⟩, _⟩
    · exact h.range i j e
    · exact ⟨hS i e1, hS j e2⟩
  · unfold cliqueA
    rw [h.sym i j, Bool.and_comm (S i)]
    have : (i != j) = (j != i) := by rw [Bool.eq_iff_iff, bne_iff_ne, bne_iff_ne]; omega
    rw [this]
  · unfold cliqueA
    rw [h.self]; simp
theorem leftB_range {n : Nat} {B : Nat → Nat → Bool} (h : RelP n B) (ys : List Int) (v : Nat) : ∀ i, leftB B ys v i = true → i < n := fun i e => by
  unfold leftB at e
  rw [Bool.and_eq_true] at e
  exact (h.range v i e.1).2
theorem fillR_rel {n : Nat} {A : Nat → Nat → Bool} (h : RelP n A) : ∀ r, RelP n (fillR A r)
  | [] => h
  | v :: r => clique_rel (fillR_rel h r) (leftB_range (fillR_rel h r) _ _)
theorem fillX_rel {n : Nat} {A : Nat → Nat → Bool} (h : RelP n A) (ys : List Int) : RelP n (fillX A ys) := fillR_rel h _
/-- Who has gone gets no edges any more. -/
theorem fillX_gone (A : Nat → Nat → Bool) (ys : List Int) (v : Int) {i : Nat} (hi : (i : Int) ∈ ys ++ [v]) (j : Nat) : fillX A (ys ++ [v]) i j = fillX A ys i j := by
  rw [fillX_snoc]
  unfold cliqueA
  have : leftB (fillX A ys) (ys ++ [v]) v.toNat i = false := by
    unfold leftB
    rw [(hasB_mem _ _).2 hi]; simp
  rw [this]; simp
theorem fillX_keep (A : Nat → Nat → Bool) {xs : List Int} {k : Nat} {i : Nat} (hi : (i : Int) ∈ xs.take (k + 1)) : ∀ m, k ≤ m → m ≤ xs.length → ∀ j, fillX A (xs.take m) i j = fillX A (xs.take k) i j := by
  intro m
  induction m with
  | zero => intro h _ j; have : k = 0 := by omega
            subst this; rfl
  | succ m ih =>
    intro h1 h2 j
    by_cases e : k = m + 1
    · subst e; rfl
    · rw [take_snoc (by omega), fillX_gone, ih (by omega) (by omega)]
      rw [← take_snoc (by omega)]
      exact (List.take_subset_take_left xs (by omega)) hi

/-- One more is eliminated of what is left. -/
theorem webX_snoc (A : Nat → Nat → Bool) {ys : List Int} {v : Nat} (hv : (v : Int) ∉ ys) (i j : Nat) :
    webX A (ys ++ [(v : Int)]) i j = ((webX A ys i j || (webX A ys v i && webX A ys v j && i != j)) && i != v && j != v) := by
  unfold webX
  rw [fillX_snoc, hasB_snoc, hasB_snoc, Int.toNat_natCast]
  unfold cliqueA leftB
  rw [hasB_snoc, hasB_snoc, hasB_false.2 hv]
  have e1 : ∀ i : Nat, ((i : Int) == (v : Int)) = (i == v) := fun i => by rw [Bool.eq_iff_iff, beq_iff_eq, beq_iff_eq]; omega
  rw [e1, e1]
  have e2 : ∀ i : Nat, (i != v) = !(i == v) := fun i => rfl
  rw [e2, e2]
  cases fillX A ys i j <;> cases fillX A ys v i <;> cases fillX A ys v j <;> cases hasB ys (i : Int) <;> cases hasB ys (j : Int) <;> cases (i == v) <;> cases (j == v) <;> simp
theorem webX_rel {n : Nat} {A : Nat → Nat → Bool} (h : RelP n A) (ys : List Int) : RelP n (webX A ys) := by
  have hr := fillX_rel h ys
  refine ⟨fun i j e => ?_, fun i j => ?_, fun i => ?_⟩
  · unfold webX at e
    simp only [Bool.and_eq_true] at e
    exact hr.range i j e.1.1
  · unfold webX
    rw [hr.sym i j]
    cases fillX A ys j i <;> cases hasB ys (i : Int) <;> cases hasB ys (j : Int) <;> rfl
  · unfold webX
    rw [hr.self]; rfl
/-- What is left of a vertex's neighbours, as it goes. -/
theorem webX_left (A : Nat → Nat → Bool) {n : Nat} (hA : RelP n A) {ys : List Int} {v : Nat} (hv : (v : Int) ∉ ys) (u : Nat) : webX A ys v u = leftB (fillX A ys) (ys ++ [(v : Int)]) v u := by
  unfold webX leftB
  rw [hasB_snoc, hasB_false.2 hv]
  by_cases e : u = v
  · subst e; rw [(fillX_rel hA ys).self]; rfl
  · have : ((u : Int) == (v : Int)) = false := by rw [beq_eq_false_iff_ne]; omega
    rw [this]; simp

/-- The vertex u comes behind v. -/
def behB (xs : List Int) (v u : Nat) : Bool := decide (xs.idxOf (v : Int) < xs.idxOf (u : Int))
/-- The later neighbours in the filled graph. -/
def laterA (A : Nat → Nat → Bool) (xs : List Int) (v u : Nat) : Bool := fillX A xs v u && behB xs v u

/-- An order as a list: who stands in it, each once. -/
theorem ordP_nodup {xs : List Int} {n : Nat} (h : OrdP xs n) : xs.Nodup := (ord_perm h).nodup_iff.2 (by
  rw [List.nodup_iff_pairwise_ne]
  exact (allL_pair n).imp (fun h => by omega))
theorem ordP_mem {xs : List Int} {n : Nat} (h : OrdP xs n) {v : Nat} (hv : v < n) : (v : Int) ∈ xs := (ord_perm h).mem_iff.2 ((allL_mem _ _).2 ⟨v, hv, rfl⟩)
theorem ordP_at {xs : List Int} {n : Nat} (h : OrdP xs n) {i : Nat} (hi : i < xs.length) : ∃ v : Nat, v < n ∧ nth xs i = (v : Int) := by
  have := (h.2 i hi).1
  have h2 : 0 ≤ nth xs i ∧ nth xs i ≤ (n : Int) - 1 := by simpa [inB] using this
  exact ⟨(nth xs i).toNat, by omega, by omega⟩
theorem ordP_idx {xs : List Int} {n : Nat} (h : OrdP xs n) {v : Nat} (hv : v < n) : xs.idxOf (v : Int) < xs.length ∧ nth xs (xs.idxOf (v : Int)) = (v : Int) := by
  have hm := ordP_mem h hv
  have hl := List.idxOf_lt_length_of_mem hm
  exact ⟨hl, by rw [nth_eq hl]; exact List.getElem_idxOf hl⟩
theorem ordP_pos {xs : List Int} {n : Nat} (h : OrdP xs n) {i : Nat} (hi : i < xs.length) : xs.idxOf (nth xs i) = i := by
  rw [nth_eq hi]
  exact List.Nodup.idxOf_getElem (ordP_nodup h) i hi
theorem take_pos {xs : List Int} {n : Nat} (h : OrdP xs n) {u : Nat} (hu : u < n) {k : Nat} (hk : k ≤ xs.length) : hasB (xs.take k) (u : Int) = decide (xs.idxOf (u : Int) < k) := by
  obtain ⟨h1, h2⟩ := ordP_idx h hu
  rw [Bool.eq_iff_iff, hasB_take hk, decide_eq_true_iff]
  constructor
  · rintro ⟨j, hj, e⟩
    have := ordP_pos h (i := j) (by omega)
    rw [e] at this
    omega
  · intro h3; exact ⟨_, h3, h2⟩
theorem ordP_new {xs : List Int} {n : Nat} (h : OrdP xs n) {k : Nat} (hk : k < xs.length) : nth xs k ∉ xs.take k := by
  have := (h.2 k hk).2
  exact hasB_false.1 this
/-- Round k's vertex has as its later neighbours what is left of its neighbours then. -/
theorem later_at {A : Nat → Nat → Bool} {n : Nat} (hA : RelP n A) {xs : List Int} (h : OrdP xs n) {k v : Nat} (hk : k < xs.length) (e : nth xs k = (v : Int)) (u : Nat) : laterA A xs v u = leftB (fillX A (xs.take k)) (xs.take (k + 1)) v u := by
  have hm : (v : Int) ∈ xs.take (k + 1) := by rw [take_snoc hk, e]; simp
  have hf := fillX_keep A hm xs.length (by omega) (Nat.le_refl _) u
  rw [List.take_length] at hf
  unfold laterA leftB
  rw [hf]
  cases hb : fillX A (xs.take k) v u with
  | false => rfl
  | true =>
    have hu := ((fillX_rel hA (xs.take k)).range v u hb).2
    have hp := ordP_pos h hk
    rw [e] at hp
    rw [Bool.true_and, Bool.true_and, take_pos h hu (by omega)]
    unfold behB
    rw [hp]
    by_cases h1 : k < xs.idxOf (u : Int)
    · simp [h1]; omega
    · simp [h1]; omega
theorem later_web {A : Nat → Nat → Bool} {n : Nat} (hA : RelP n A) {xs : List Int} (h : OrdP xs n) {k v : Nat} (hk : k < xs.length) (e : nth xs k = (v : Int)) (u : Nat) : laterA A xs v u = webX A (xs.take k) v u := by
  rw [later_at hA h hk e, take_snoc hk, e, webX_left A hA (by rw [← e]; exact ordP_new h hk)]
/-- .. with the whole filled graph. -/
theorem later_full {A : Nat → Nat → Bool} {n : Nat} (hA : RelP n A) {xs : List Int} (h : OrdP xs n) {k v : Nat} (hk : k < xs.length) (e : nth xs k = (v : Int)) (u : Nat) : laterA A xs v u = leftB (fillX A xs) (xs.take (k + 1)) v u := by
  have hm : (v : Int) ∈ xs.take (k + 1) := by rw [take_snoc hk, e]; simp
  have hf := fillX_keep A hm xs.length (by omega) (Nat.le_refl _) u
  rw [List.take_length] at hf
  rw [later_at hA h hk e]
  unfold leftB
  rw [hf]
theorem later_range {A : Nat → Nat → Bool} {n : Nat} (hA : RelP n A) {xs : List Int} {i j : Nat} (h : laterA A xs i j = true) : i < n ∧ j < n := by
  unfold laterA at h
  rw [Bool.and_eq_true] at h
  exact (fillX_rel hA xs).range i j h.1
end Go.Proofs.Ytohjfcfcopbmoaa

/- Plain facts: how many later neighbours there are; the least one by a number; what lists are built by taking it again and again. -/
namespace Go.Proofs.Ytohjfcfcopbmoaa
open Go.RowKit

/-- Who is left, rising. -/
def remL (g : Nat → Bool) (n : Nat) : List Int := (allL n).filter (fun x => !g x.toNat)
theorem remL_mem {g : Nat → Bool} {n : Nat} {x : Int} : x ∈ remL g n ↔ ∃ v : Nat, v < n ∧ g v = false ∧ (v : Int) = x := by
  unfold remL
  rw [List.mem_filter, allL_mem]
  constructor
  · rintro ⟨⟨v, hv, rfl⟩, h⟩; exact ⟨v, hv, by simpa using h, rfl⟩
  · rintro ⟨v, hv, h, rfl⟩; exact ⟨⟨v, hv, rfl⟩, by simpa using h⟩
/-- A list of different vertices. -/
structure DifP (ys : List Int) (n : Nat) : Prop where
  rg : ∀ z ∈ ys, 0 ≤ z ∧ z < (n : Int)
  nd : ys.Nodup
theorem DifP.nil (n : Nat) : DifP [] n := ⟨by simp, by simp⟩
theorem DifP.snoc {ys : List Int} {n v : Nat} (h : DifP ys n) (hv : v < n) (hn : (v : Int) ∉ ys) : DifP (ys ++ [(v : Int)]) n := by
  refine ⟨fun z hz => ?_, ?_⟩
  · rcases List.mem_append.1 hz with hz | hz
    · exact h.rg z hz
    · rw [List.mem_singleton] at hz; omega
  · rw [List.nodup_append]
    refine ⟨h.nd, by simp, fun a ha b hb e => ?_⟩
    rw [List.mem_singleton] at hb
    rw [← hb, ← e] at hn
    exact hn ha
end Go.Proofs.Ytohjfcfcopbmoaa

/- Plain facts: pairs of a set that are no neighbours, reckoned two ways; the filled graph filled again; no order below the degeneracy. -/
namespace Go.Proofs.Ytohjfcfcopbmoaa
open Go.RowKit

/-- How many pairs of a list are no neighbours: of the first i elements, and of the next one with the first k. -/
def vtxN (zs : List Int) (k : Nat) : Nat := (nth zs k).toNat
theorem vtx_inj {M i k : Nat} (hi : i < (listM M).length) (hk : k < (listM M).length) (h : vtxN (listM M) i = vtxN (listM M) k) : i = k := by
  unfold vtxN at h
  have hb : ∀ j, j < (listM M).length → 0 ≤ nth (listM M) j := fun j hj => ((listM_set M).bounds _ (nth_mem hj)).1
  have h1 := hb i hi
  have h2 := hb k hk
  have hp := List.pairwise_iff_getElem.1 (listM_set M).pairwise
  rcases Nat.lt_trichotomy i k with e | e | e
  · have := hp i k hi hk e
    rw [← nth_eq hi, ← nth_eq hk] at this
    omega
  · exact e
  · have := hp k i hk hi e
    rw [← nth_eq hi, ← nth_eq hk] at this
    omega
end Go.Proofs.Ytohjfcfcopbmoaa
