/- The texts EO1, EO2, EO3, joined. -/
import Derived.Test.YtohjfcfcopbmoaaGreatDoorQM9

/- Plain facts: elimination of a graph's vertices by a list of them: the filled graph, what is left of it, the later neighbours. -/
namespace Go.Proofs.YtohjfcfcopbmoaaGreatDoor
open Go.RowKit

/-- Of a vertex's neighbours those that are not in the list. -/
def leftB (B : Nat → Nat → Bool) (ys : List Int) (v u : Nat) : Bool := B v u && !hasB ys (u : Int)
/-- All of a set become neighbours. -/
def cliqueA (B : Nat → Nat → Bool) (S : Nat → Bool) (i j : Nat) : Bool := B i j || (S i && S j && i != j)
def fillR (A : Nat → Nat → Bool) : List Int → Nat → Nat → Bool
  | [] => A
  | v :: r => cliqueA (fillR A r) (leftB (fillR A r) (v :: r) v.toNat)
/-- The graph filled by the elimination of a list of vertices. -/
def fillX (A : Nat → Nat → Bool) (ys : List Int) : Nat → Nat → Bool := fillR A ys.reverse
/-- .. those of its edges that are left. -/
def webX (A : Nat → Nat → Bool) (ys : List Int) (i j : Nat) : Bool := fillX A ys i j && !hasB ys (i : Int) && !hasB ys (j : Int)

theorem hasB_congr {xs ys : List Int} (h : ∀ z, z ∈ xs ↔ z ∈ ys) (z : Int) : hasB xs z = hasB ys z := by rw [Bool.eq_iff_iff, hasB_mem, hasB_mem]; exact h z
theorem hasB_false {xs : List Int} {z : Int} : hasB xs z = false ↔ z ∉ xs := by
  rw [← hasB_mem]; cases hasB xs z <;> simp
theorem leftB_congr {B : Nat → Nat → Bool} {xs ys : List Int} (h : ∀ z, z ∈ xs ↔ z ∈ ys) (v u : Nat) : leftB B xs v u = leftB B ys v u := by
  unfold leftB; rw [hasB_congr h]
theorem fillX_nil (A : Nat → Nat → Bool) : fillX A [] = A := rfl
theorem fillX_snoc (A : Nat → Nat → Bool) (ys : List Int) (v : Int) : fillX A (ys ++ [v]) = cliqueA (fillX A ys) (leftB (fillX A ys) (ys ++ [v]) v.toNat) := by
  unfold fillX
  rw [List.reverse_append]
  show fillR A (v :: ys.reverse) = _
  rw [fillR]
  funext i j
  unfold cliqueA
  have h : ∀ z, z ∈ v :: ys.reverse ↔ z ∈ ys ++ [v] := fun z => by simp [or_comm]
  rw [leftB_congr h, leftB_congr h]

/-- A relation of n vertices: symmetric, without loops. -/
structure RelP (n : Nat) (A : Nat → Nat → Bool) : Prop where
  range : ∀ i j, A i j = true → i < n ∧ j < n
  sym : ∀ i j, A i j = A j i
  self : ∀ i, A i i = false
theorem adjB_rel {L : List (List Int)} (hG : GraphP L) : RelP L.length (adjB L) := ⟨fun _ _ h => adjB_range hG h, adjB_sym hG, adjB_self hG⟩
theorem RelP.graph {n : Nat} {A : Nat → Nat → Bool} (h : RelP n A) (hn : 1 ≤ n ∧ n ≤ 16) : GraphP (adjL n A) := adjL_graph hn (fun i j e => (h.range i j e).2) h.sym h.self
theorem clique_rel {n : Nat} {B : Nat → Nat → Bool} (h : RelP n B) {S : Nat → Bool} (hS : ∀ i, S i = true → i < n) : RelP n (cliqueA B S) := by
  refine ⟨fun i j e => ?_, fun i j => ?_, fun i => ?_⟩
  · unfold cliqueA at e
    simp only [Bool.or_eq_true, Bool.and_eq_true] at e
    rcases e with e | ⟨⟨e1, e2⟩, _⟩
    · exact h.range i j e
    · exact ⟨hS i e1, hS j e2⟩
  · unfold cliqueA
    rw [h.sym i j, Bool.and_comm (S i)]
    have : (i != j) = (j != i) := by rw [Bool.eq_iff_iff, bne_iff_ne, bne_iff_ne]; omega
    rw [this]
  · unfold cliqueA
    rw [h.self]; simp
theorem leftB_range {n : Nat} {B : Nat → Nat → Bool} (h : RelP n B) (ys : List Int) (v : Nat) : ∀ i, leftB B ys v i = true → i < n := fun i e => by
  unfold leftB at e
  rw [Bool.and_eq_true] at e
  exact (h.range v i e.1).2
theorem fillR_rel {n : Nat} {A : Nat → Nat → Bool} (h : RelP n A) : ∀ r, RelP n (fillR A r)
  | [] => h
  | v :: r => clique_rel (fillR_rel h r) (leftB_range (fillR_rel h r) _ _)
theorem fillX_rel {n : Nat} {A : Nat → Nat → Bool} (h : RelP n A) (ys : List Int) : RelP n (fillX A ys) := fillR_rel h _
theorem fillX_more (A : Nat → Nat → Bool) (ys : List Int) (v : Int) {i j : Nat} (h : fillX A ys i j = true) : fillX A (ys ++ [v]) i j = true := by
  rw [fillX_snoc]; unfold cliqueA; rw [h]; rfl
/-- Who has gone gets no edges any more. -/
theorem fillX_gone (A : Nat → Nat → Bool) (ys : List Int) (v : Int) {i : Nat} (hi : (i : Int) ∈ ys ++ [v]) (j : Nat) : fillX A (ys ++ [v]) i j = fillX A ys i j := by
  rw [fillX_snoc]
  unfold cliqueA
  have : leftB (fillX A ys) (ys ++ [v]) v.toNat i = false := by
    unfold leftB
    rw [(hasB_mem _ _).2 hi]; simp
  rw [this]; simp
theorem fillX_keep (A : Nat → Nat → Bool) {xs : List Int} {k : Nat} {i : Nat} (hi : (i : Int) ∈ xs.take (k + 1)) : ∀ m, k ≤ m → m ≤ xs.length → ∀ j, fillX A (xs.take m) i j = fillX A (xs.take k) i j := by
  intro m
  induction m with
  | zero => intro h _ j; have : k = 0 := by omega
            subst this; rfl
  | succ m ih =>
    intro h1 h2 j
    by_cases e : k = m + 1
    · subst e; rfl
    · rw [take_snoc (by omega), fillX_gone, ih (by omega) (by omega)]
      rw [← take_snoc (by omega)]
      exact (List.take_subset_take_left xs (by omega)) hi

/-- One more is eliminated of what is left. -/
theorem webX_snoc (A : Nat → Nat → Bool) {ys : List Int} {v : Nat} (hv : (v : Int) ∉ ys) (i j : Nat) :
    webX A (ys ++ [(v : Int)]) i j = ((webX A ys i j || (webX A ys v i && webX A ys v j && i != j)) && i != v && j != v) := by
  unfold webX
  rw [fillX_snoc, hasB_snoc, hasB_snoc, Int.toNat_natCast]
  unfold cliqueA leftB
  rw [hasB_snoc, hasB_snoc, hasB_false.2 hv]
  have e1 : ∀ i : Nat, ((i : Int) == (v : Int)) = (i == v) := fun i => by rw [Bool.eq_iff_iff, beq_iff_eq, beq_iff_eq]; omega
  rw [e1, e1]
  have e2 : ∀ i : Nat, (i != v) = !(i == v) := fun i => rfl
  rw [e2, e2]
  cases fillX A ys i j <;> cases fillX A ys v i <;> cases fillX A ys v j <;> cases hasB ys (i : Int) <;> cases hasB ys (j : Int) <;> cases (i == v) <;> cases (j == v) <;> simp
theorem webX_rel {n : Nat} {A : Nat → Nat → Bool} (h : RelP n A) (ys : List Int) : RelP n (webX A ys) := by
  have hr := fillX_rel h ys
  refine ⟨fun i j e => ?_, fun i j => ?_, fun i => ?_⟩
  · unfold webX at e
    simp only [Bool.and_eq_true] at e
    exact hr.range i j e.1.1
  · unfold webX
    rw [hr.sym i j]
    cases fillX A ys j i <;> cases hasB ys (i : Int) <;> cases hasB ys (j : Int) <;> rfl
  · unfold webX
    rw [hr.self]; rfl
/-- What is left of a vertex's neighbours, as it goes. -/
theorem webX_left (A : Nat → Nat → Bool) {n : Nat} (hA : RelP n A) {ys : List Int} {v : Nat} (hv : (v : Int) ∉ ys) (u : Nat) : webX A ys v u = leftB (fillX A ys) (ys ++ [(v : Int)]) v u := by
  unfold webX leftB
  rw [hasB_snoc, hasB_false.2 hv]
  by_cases e : u = v
  · subst e; rw [(fillX_rel hA ys).self]; rfl
  · have : ((u : Int) == (v : Int)) = false := by rw [beq_eq_false_iff_ne]; omega
    rw [this]; simp

/-- The vertex u comes behind v. -/
def behB (xs : List Int) (v u : Nat) : Bool := decide (xs.idxOf (v : Int) < xs.idxOf (u : Int))
/-- The later neighbours in the filled graph. -/
def laterA (A : Nat → Nat → Bool) (xs : List Int) (v u : Nat) : Bool := fillX A xs v u && behB xs v u

/-- An order as a list: who stands in it, each once. -/
theorem ordP_nodup {xs : List Int} {n : Nat} (h : OrdP xs n) : xs.Nodup := (ord_perm h).nodup_iff.2 (by
  rw [List.nodup_iff_pairwise_ne]
  exact (allL_pair n).imp (fun h => by omega))
theorem ordP_mem {xs : List Int} {n : Nat} (h : OrdP xs n) {v : Nat} (hv : v < n) : (v : Int) ∈ xs := (ord_perm h).mem_iff.2 ((allL_mem _ _).2 ⟨v, hv, rfl⟩)
theorem ordP_at {xs : List Int} {n : Nat} (h : OrdP xs n) {i : Nat} (hi : i < xs.length) : ∃ v : Nat, v < n ∧ nth xs i = (v : Int) := by
  have := (h.2 i hi).1
  have h2 : 0 ≤ nth xs i ∧ nth xs i ≤ (n : Int) - 1 := by simpa [inB] using this
  exact ⟨(nth xs i).toNat, by omega, by omega⟩
theorem ordP_idx {xs : List Int} {n : Nat} (h : OrdP xs n) {v : Nat} (hv : v < n) : xs.idxOf (v : Int) < xs.length ∧ nth xs (xs.idxOf (v : Int)) = (v : Int) := by
  have hm := ordP_mem h hv
  have hl := List.idxOf_lt_length_of_mem hm
  exact ⟨hl, by rw [nth_eq hl]; exact List.getElem_idxOf hl⟩
theorem ordP_pos {xs : List Int} {n : Nat} (h : OrdP xs n) {i : Nat} (hi : i < xs.length) : xs.idxOf (nth xs i) = i := by
  rw [nth_eq hi]
  exact List.Nodup.idxOf_getElem (ordP_nodup h) i hi
theorem take_pos {xs : List Int} {n : Nat} (h : OrdP xs n) {u : Nat} (hu : u < n) {k : Nat} (hk : k ≤ xs.length) : hasB (xs.take k) (u : Int) = decide (xs.idxOf (u : Int) < k) := by
  obtain ⟨h1, h2⟩ := ordP_idx h hu
  rw [Bool.eq_iff_iff, hasB_take hk, decide_eq_true_iff]
  constructor
  · rintro ⟨j, hj, e⟩
    have := ordP_pos h (i := j) (by omega)
    rw [e] at this
    omega
  · intro h3; exact ⟨_, h3, h2⟩
theorem ordP_new {xs : List Int} {n : Nat} (h : OrdP xs n) {k : Nat} (hk : k < xs.length) : nth xs k ∉ xs.take k := by
  have := (h.2 k hk).2
  exact hasB_false.1 this
/-- Round k's vertex has as its later neighbours what is left of its neighbours then. -/
theorem later_at {A : Nat → Nat → Bool} {n : Nat} (hA : RelP n A) {xs : List Int} (h : OrdP xs n) {k v : Nat} (hk : k < xs.length) (e : nth xs k = (v : Int)) (u : Nat) : laterA A xs v u = leftB (fillX A (xs.take k)) (xs.take (k + 1)) v u := by
  have hm : (v : Int) ∈ xs.take (k + 1) := by rw [take_snoc hk, e]; simp
  have hf := fillX_keep A hm xs.length (by omega) (Nat.le_refl _) u
  rw [List.take_length] at hf
  unfold laterA leftB
  rw [hf]
  cases hb : fillX A (xs.take k) v u with
  | false => rfl
  | true =>
    have hu := ((fillX_rel hA (xs.take k)).range v u hb).2
    have hp := ordP_pos h hk
    rw [e] at hp
    rw [Bool.true_and, Bool.true_and, take_pos h hu (by omega)]
    unfold behB
    rw [hp]
    by_cases h1 : k < xs.idxOf (u : Int)
    · simp [h1]; omega
    · simp [h1]; omega
theorem later_web {A : Nat → Nat → Bool} {n : Nat} (hA : RelP n A) {xs : List Int} (h : OrdP xs n) {k v : Nat} (hk : k < xs.length) (e : nth xs k = (v : Int)) (u : Nat) : laterA A xs v u = webX A (xs.take k) v u := by
  rw [later_at hA h hk e, take_snoc hk, e, webX_left A hA (by rw [← e]; exact ordP_new h hk)]
/-- An edge of the filled graph is a later neighbour one way, and one way alone. -/
theorem later_or {A : Nat → Nat → Bool} {n : Nat} (hA : RelP n A) {xs : List Int} (h : OrdP xs n) (i j : Nat) : fillX A xs i j = (laterA A xs i j || laterA A xs j i) ∧ (laterA A xs i j && laterA A xs j i) = false := by
  unfold laterA
  rw [(fillX_rel hA xs).sym j i]
  cases hb : fillX A xs i j with
  | false => exact ⟨rfl, rfl⟩
  | true =>
    obtain ⟨hi, hj⟩ := (fillX_rel hA xs).range i j hb
    have hne : i ≠ j := by intro e; subst e; rw [(fillX_rel hA xs).self] at hb; cases hb
    obtain ⟨_, pi⟩ := ordP_idx h hi
    obtain ⟨_, pj⟩ := ordP_idx h hj
    have hp : xs.idxOf (i : Int) ≠ xs.idxOf (j : Int) := by intro e; rw [e, pj] at pi; omega
    unfold behB
    refine ⟨?_, ?_⟩
    · by_cases h1 : xs.idxOf (i : Int) < xs.idxOf (j : Int)
      · simp [h1]
      · simp [h1]; omega
    · by_cases h1 : xs.idxOf (i : Int) < xs.idxOf (j : Int)
      · simp [h1]; omega
      · simp [h1]
theorem later_range {A : Nat → Nat → Bool} {n : Nat} (hA : RelP n A) {xs : List Int} {i j : Nat} (h : laterA A xs i j = true) : i < n ∧ j < n := by
  unfold laterA at h
  rw [Bool.and_eq_true] at h
  exact (fillX_rel hA xs).range i j h.1
theorem fill_old (A : Nat → Nat → Bool) (xs : List Int) {i j : Nat} (h : A i j = true) : fillX A xs i j = true := by
  have key : ∀ k, k ≤ xs.length → fillX A (xs.take k) i j = true := by
    intro k
    induction k with
    | zero => intro _; exact h
    | succ k ih => intro hk; rw [take_snoc (by omega)]; exact fillX_more _ _ _ (ih (by omega))
  have := key xs.length (Nat.le_refl _)
  rwa [List.take_length] at this

end Go.Proofs.YtohjfcfcopbmoaaGreatDoor

/- Plain facts: how many later neighbours there are; the least one by a number; what lists are built by taking it again and again. -/
namespace Go.Proofs.YtohjfcfcopbmoaaGreatDoor
open Go.RowKit

/-- How many hold p, below 16. -/
def szB (p : Nat → Bool) : Nat := bitsTo (pm p) 16
theorem szB_le (p : Nat → Bool) : szB p ≤ 16 := bitsTo_le _ _
theorem szB_sum (p : Nat → Bool) : szB p = sumTo (fun j => if p j then 1 else 0) 16 := by
  unfold szB
  rw [bitsTo_sum]
  refine sumTo_congr (fun j hj => ?_)
  rw [pm_bit]; simp [hj]
theorem szB_to {p : Nat → Bool} {n : Nat} (hn : n ≤ 16) (h : ∀ j, p j = true → j < n) : szB p = sumTo (fun j => if p j then 1 else 0) n := by
  rw [szB_sum]
  have := sumTo_split (fun j => if p j then 1 else 0) n (16 - n) (fun j hj _ => by
    cases hp : p j with
    | false => rfl
    | true => exact absurd (h j hp) (by omega))
  rwa [show n + (16 - n) = 16 from by omega] at this
theorem sumTo_swap2 (f : Nat → Nat → Nat) (n m : Nat) : sumTo (fun i => sumTo (f i) m) n = sumTo (fun j => sumTo (fun i => f i j) n) m := by
  induction n with
  | zero => simp only [sumTo]; rw [sumTo_zero (fun _ _ => rfl)]
  | succ n ih => simp only [sumTo]; rw [ih, ← sumTo_add]
/-- The later neighbours of all vertices are as many as the filled graph has edges. -/
theorem later_many {A : Nat → Nat → Bool} {n : Nat} (hA : RelP n A) (hn : 1 ≤ n ∧ n ≤ 16) {xs : List Int} (h : OrdP xs n) : ((sumTo (fun v => szB (laterA A xs v)) n : Nat) : Int) = manyN (adjL n (fillX A xs)) := by
  have hG := (fillX_rel hA xs).graph hn
  have h1 := many_adj hG
  rw [adjL_len] at h1
  have e1 : sumTo (fun i => sumTo (fun j => if adjB (adjL n (fillX A xs)) i j then 1 else 0) n) n = sumTo (fun i => sumTo (fun j => (if laterA A xs i j then 1 else 0) + (if laterA A xs j i then 1 else 0)) n) n := by
    refine sumTo_congr (fun i hi => sumTo_congr (fun j hj => ?_))
    rw [adjB_adjL hG hi (by omega)]
    obtain ⟨p1, p2⟩ := later_or hA h i j
    rw [p1]
    cases ha : laterA A xs i j <;> cases hb : laterA A xs j i <;> simp_all
  have e2 : sumTo (fun i => sumTo (fun j => (if laterA A xs i j then 1 else 0) + (if laterA A xs j i then 1 else 0)) n) n = sumTo (fun i => sumTo (fun j => if laterA A xs i j then 1 else 0) n) n + sumTo (fun i => sumTo (fun j => if laterA A xs j i then 1 else 0) n) n := by
    rw [← sumTo_add]
    exact sumTo_congr (fun i _ => sumTo_add _ _ _)
  rw [e1, e2, ← sumTo_swap2 (fun i j => if laterA A xs i j then 1 else 0)] at h1
  have e3 : sumTo (fun v => szB (laterA A xs v)) n = sumTo (fun i => sumTo (fun j => if laterA A xs i j then 1 else 0) n) n := sumTo_congr (fun v _ => szB_to hn.2 (fun j hj => (later_range hA hj).2))
  rw [e3]
  omega

/-- The first of those with the least number, among the first k that have not gone; -1 if there is none. -/
def bstTo (c : Nat → Nat) (g : Nat → Bool) : Nat → Int
  | 0 => -1
  | k + 1 => if g k = true then bstTo c g k else if bstTo c g k < 0 ∨ c k < c (bstTo c g k).toNat then (k : Int) else bstTo c g k
theorem bstTo_ge (c : Nat → Nat) (g : Nat → Bool) (k : Nat) : -1 ≤ bstTo c g k ∧ bstTo c g k < (k : Int) := by
  induction k with
  | zero => simp [bstTo]
  | succ k ih => rw [bstTo]; split; omega; split <;> omega
theorem bstTo_yes {c : Nat → Nat} {g : Nat → Bool} {k : Nat} (h : 0 ≤ bstTo c g k) : g (bstTo c g k).toNat = false := by
  induction k with
  | zero => simp [bstTo] at h
  | succ k ih =>
    rw [bstTo] at h ⊢
    split at h
    · rename_i e; rw [if_pos e]; exact ih h
    · rename_i e
      rw [if_neg e]
      split at h
      · rename_i e2; rw [if_pos e2, Int.toNat_natCast]; simpa using e
      · rename_i e2; rw [if_neg e2]; exact ih h
theorem bstTo_some {c : Nat → Nat} {g : Nat → Bool} {k : Nat} (h : ∃ v, v < k ∧ g v = false) : 0 ≤ bstTo c g k := by
  induction k with
  | zero => obtain ⟨v, hv, _⟩ := h; omega
  | succ k ih =>
    obtain ⟨v, hv, hg⟩ := h
    rw [bstTo]
    split
    · rename_i e
      refine ih ⟨v, ?_, hg⟩
      have : v ≠ k := by intro e2; subst e2; rw [e] at hg; cases hg
      omega
    · split
      · omega
      · rename_i e2
        omega
/-- Who is left, rising. -/
def remL (g : Nat → Bool) (n : Nat) : List Int := (allL n).filter (fun x => !g x.toNat)
theorem remL_succ (g : Nat → Bool) (n : Nat) : remL g (n + 1) = remL g n ++ (if g n = true then [] else [(n : Int)]) := by
  unfold remL
  rw [allL_succ, List.filter_append]
  congr 1
  by_cases h : g n = true
  · simp [h]
  · simp [h]
theorem remL_mem {g : Nat → Bool} {n : Nat} {x : Int} : x ∈ remL g n ↔ ∃ v : Nat, v < n ∧ g v = false ∧ (v : Int) = x := by
  unfold remL
  rw [List.mem_filter, allL_mem]
  constructor
  · rintro ⟨⟨v, hv, rfl⟩, h⟩; exact ⟨v, hv, by simpa using h, rfl⟩
  · rintro ⟨v, hv, h, rfl⟩; exact ⟨⟨v, hv, rfl⟩, by simpa using h⟩
/-- The lesser of two by their numbers, the first one among equals. -/
def pckB (c : Nat → Nat) (a z : Int) : Int := if a < 0 ∨ c z.toNat < c a.toNat then z else a
theorem best_fold (c : Nat → Nat) (g : Nat → Bool) (n : Nat) : bstTo c g n = (remL g n).foldl (pckB c) (-1) := by
  induction n with
  | zero => rfl
  | succ n ih =>
    rw [remL_succ, List.foldl_append, ← ih, bstTo]
    by_cases h : g n = true
    · rw [if_pos h, if_pos h]; rfl
    · rw [if_neg h, if_neg h]
      show _ = pckB c (bstTo c g n) (n : Int)
      unfold pckB
      rw [Int.toNat_natCast]
/-- .. among the first k + 1 of a list. -/
def minTo (c : Nat → Nat) (zs : List Int) : Nat → Int
  | 0 => nth zs 0
  | k + 1 => if c (nth zs (k + 1)).toNat < c (minTo c zs k).toNat then nth zs (k + 1) else minTo c zs k
theorem minTo_fold (c : Nat → Nat) {zs : List Int} (h0 : ∀ z ∈ zs, 0 ≤ z) : ∀ k, k < zs.length → minTo c zs k = (zs.take (k + 1)).foldl (pckB c) (-1) ∧ 0 ≤ minTo c zs k := by
  intro k
  induction k with
  | zero =>
    intro hk
    rw [take_snoc hk, List.take_zero, List.nil_append]
    refine ⟨?_, h0 _ (nth_mem hk)⟩
    show _ = pckB c (-1) (nth zs 0)
    unfold pckB
    rw [if_pos (Or.inl (by omega))]; rfl
  | succ k ih =>
    intro hk
    obtain ⟨i1, i2⟩ := ih (by omega)
    rw [take_snoc hk, List.foldl_append, ← i1]
    show minTo c zs (k + 1) = pckB c (minTo c zs k) (nth zs (k + 1)) ∧ _
    unfold pckB
    rw [minTo]
    by_cases h : c (nth zs (k + 1)).toNat < c (minTo c zs k).toNat
    · rw [if_pos h, if_pos (Or.inr h)]; exact ⟨rfl, h0 _ (nth_mem hk)⟩
    · rw [if_neg h, if_neg (by rintro (h1 | h1); omega; exact h h1)]; exact ⟨rfl, i2⟩
theorem minTo_best (c : Nat → Nat) (g : Nat → Bool) (n : Nat) (h : 0 < (remL g n).length) : minTo c (remL g n) ((remL g n).length - 1) = bstTo c g n := by
  have h0 : ∀ z ∈ remL g n, 0 ≤ z := fun z hz => by obtain ⟨v, _, _, rfl⟩ := remL_mem.1 hz; omega
  rw [(minTo_fold c h0 _ (by omega)).1, best_fold, show (remL g n).length - 1 + 1 = (remL g n).length from by omega, List.take_length]

/-- The list after k rounds, each of which takes the best one of those that are left. -/
def grL (c : List Int → Nat → Nat) (n : Nat) : Nat → List Int
  | 0 => []
  | k + 1 => grL c n k ++ [bstTo (c (grL c n k)) (fun v => hasB (grL c n k) (v : Int)) n]
theorem grL_len (c : List Int → Nat → Nat) (n k : Nat) : (grL c n k).length = k := by
  induction k with
  | zero => rfl
  | succ k ih => rw [grL, List.length_append, ih]; rfl
theorem free_some {ys : List Int} {n : Nat} (h : ys.length < n) : ∃ v, v < n ∧ hasB ys (v : Int) = false := by
  rcases Classical.em (∃ v, v < n ∧ hasB ys (v : Int) = false) with h1 | h1
  · exact h1
  · exfalso
    have h2 : (allL n) ⊆ ys := by
      intro z hz
      obtain ⟨v, hv, rfl⟩ := (allL_mem _ _).1 hz
      rcases Classical.em ((v : Int) ∈ ys) with h3 | h3
      · exact h3
      · exact absurd ⟨v, hv, hasB_false.2 h3⟩ h1
    have hnd2 : (allL n).Nodup := by
      rw [List.nodup_iff_pairwise_ne]
      exact (allL_pair n).imp (fun h => by omega)
    have := hnd2.length_le_of_subset h2
    rw [allL_len] at this
    omega
/-- A list of different vertices. -/
structure DifP (ys : List Int) (n : Nat) : Prop where
  rg : ∀ z ∈ ys, 0 ≤ z ∧ z < (n : Int)
  nd : ys.Nodup
theorem DifP.nil (n : Nat) : DifP [] n := ⟨by simp, by simp⟩
theorem DifP.snoc {ys : List Int} {n v : Nat} (h : DifP ys n) (hv : v < n) (hn : (v : Int) ∉ ys) : DifP (ys ++ [(v : Int)]) n := by
  refine ⟨fun z hz => ?_, ?_⟩
  · rcases List.mem_append.1 hz with hz | hz
    · exact h.rg z hz
    · rw [List.mem_singleton] at hz; omega
  · rw [List.nodup_append]
    refine ⟨h.nd, by simp, fun a ha b hb e => ?_⟩
    rw [List.mem_singleton] at hb
    rw [← hb, ← e] at hn
    exact hn ha
theorem DifP.ord {ys : List Int} {n : Nat} (h : DifP ys n) (hl : ys.length = n) : OrdP ys n := by
  refine ⟨hl, fun k hk => ⟨?_, ?_⟩⟩
  · have := h.rg _ (nth_mem hk)
    simp [inB]; omega
  · rw [hasB_false]
    intro hm
    have hnd := h.nd
    have e : ys = ys.take k ++ ys.drop k := (List.take_append_drop k ys).symm
    rw [e, List.nodup_append] at hnd
    refine hnd.2.2 _ hm (nth ys k) ?_ rfl
    rw [List.drop_eq_getElem_cons hk, nth_eq hk]
    exact List.mem_cons_self
theorem grL_best {c : List Int → Nat → Nat} {n k : Nat} (hk : k < n) : ∃ v : Nat, v < n ∧ bstTo (c (grL c n k)) (fun v => hasB (grL c n k) (v : Int)) n = (v : Int) ∧ (v : Int) ∉ grL c n k := by
  have hs := bstTo_some (c := c (grL c n k)) (g := fun v => hasB (grL c n k) (v : Int)) (k := n) (free_some (by rw [grL_len]; exact hk))
  have hg := bstTo_ge (c (grL c n k)) (fun v => hasB (grL c n k) (v : Int)) n
  have hy := bstTo_yes hs
  refine ⟨(bstTo (c (grL c n k)) (fun v => hasB (grL c n k) (v : Int)) n).toNat, by omega, by omega, ?_⟩
  exact hasB_false.1 hy
theorem grL_dif (c : List Int → Nat → Nat) (n : Nat) : ∀ k, k ≤ n → DifP (grL c n k) n := by
  intro k
  induction k with
  | zero => intro _; exact DifP.nil n
  | succ k ih =>
    intro hk
    obtain ⟨v, hv, e, hn⟩ := grL_best (c := c) (n := n) (k := k) (by omega)
    rw [grL, e]
    exact (ih (by omega)).snoc hv hn
theorem grL_ord (c : List Int → Nat → Nat) (n : Nat) : OrdP (grL c n n) n := (grL_dif c n n (Nat.le_refl _)).ord (grL_len c n n)
end Go.Proofs.YtohjfcfcopbmoaaGreatDoor

/- Plain facts: pairs of a set that are no neighbours, reckoned two ways; the filled graph filled again; no order below the degeneracy. -/
namespace Go.Proofs.YtohjfcfcopbmoaaGreatDoor
open Go.RowKit

/-- How many pairs of a list are no neighbours: of the first i elements, and of the next one with the first k. -/
def vtxN (zs : List Int) (k : Nat) : Nat := (nth zs k).toNat
def missA (B : Nat → Nat → Bool) (zs : List Int) (i k : Nat) : Nat := if B (vtxN zs k) (vtxN zs i) then 0 else 1
def missTo (B : Nat → Nat → Bool) (zs : List Int) (i : Nat) : Nat := sumTo (fun i => sumTo (missA B zs i) i) i
def missN (B : Nat → Nat → Bool) (zs : List Int) : Nat := missTo B zs zs.length
theorem sumTo_leB {f : Nat → Nat} {n b : Nat} (h : ∀ i, i < n → f i ≤ b) : sumTo f n ≤ n * b := by
  induction n with
  | zero => simp [sumTo]
  | succ n ih => rw [sumTo, Nat.succ_mul]; have := ih (fun i hi => h i (by omega)); have := h n (by omega); omega
theorem missA_le (B : Nat → Nat → Bool) (zs : List Int) (i k : Nat) : missA B zs i k ≤ 1 := by unfold missA; split <;> omega
theorem missRow_le (B : Nat → Nat → Bool) (zs : List Int) (i k : Nat) : sumTo (missA B zs i) k ≤ k := by
  have := sumTo_leB (f := missA B zs i) (n := k) (b := 1) (fun j _ => missA_le B zs i j)
  omega
theorem missTo_le (B : Nat → Nat → Bool) (zs : List Int) {i : Nat} (hi : i ≤ 16) : missTo B zs i ≤ 256 := by
  have h1 := sumTo_leB (f := fun i => sumTo (missA B zs i) i) (n := i) (b := 16) (fun j hj => by have := missRow_le B zs j j; omega)
  have h2 : i * 16 ≤ 16 * 16 := Nat.mul_le_mul hi (Nat.le_refl _)
  unfold missTo
  omega

theorem sum_listM (M : Nat) (q : Nat → Bool) : sumTo (fun j => if M.testBit j && q j then 1 else 0) 16 = sumTo (fun k => if q (vtxN (listM M) k) then 1 else 0) (listM M).length := by
  have h1 := sumL_to (fun x : Int => if q x.toNat then 1 else 0) (listM M)
  show _ = sumTo (fun i => (fun x : Int => if q x.toNat then 1 else 0) (nth (listM M) i)) _
  rw [← h1]
  unfold sumL listM
  have key : ∀ m, sumTo (fun j => if M.testBit j && q j then 1 else 0) m = ((((List.range m).filter (fun i => M.testBit i)).map (fun i : Nat => (i : Int))).map (fun x : Int => if q x.toNat then 1 else 0)).sum := by
    intro m
    induction m with
    | zero => rfl
    | succ m ih =>
      rw [sumTo, ih, List.range_succ, List.filter_append, List.map_append, List.map_append, List.sum_append]
      congr 1
      by_cases hb : M.testBit m = true
      · simp [hb]
      · simp [hb]
  exact key 16
theorem sumTo_cut (f : Nat → Nat) {v n : Nat} (h : v ≤ n) : sumTo (fun u => if u < v then f u else 0) n = sumTo f v := by
  have := sumTo_split (fun u => if u < v then f u else 0) v (n - v) (fun i h1 _ => if_neg (by omega))
  rw [show v + (n - v) = n from by omega] at this
  rw [this]
  exact sumTo_congr (fun i hi => if_pos hi)
theorem vtx_inj {M i k : Nat} (hi : i < (listM M).length) (hk : k < (listM M).length) (h : vtxN (listM M) i = vtxN (listM M) k) : i = k := by
  unfold vtxN at h
  have hb : ∀ j, j < (listM M).length → 0 ≤ nth (listM M) j := fun j hj => ((listM_set M).bounds _ (nth_mem hj)).1
  have h1 := hb i hi
  have h2 := hb k hk
  have hp := List.pairwise_iff_getElem.1 (listM_set M).pairwise
  rcases Nat.lt_trichotomy i k with e | e | e
  · have := hp i k hi hk e
    rw [← nth_eq hi, ← nth_eq hk] at this
    omega
  · exact e
  · have := hp k i hk hi e
    rw [← nth_eq hi, ← nth_eq hk] at this
    omega
/-- For each of a set, how many others of the set are no neighbours: together twice the pairs. -/
def lackAt (W : Nat → Nat → Bool) (S : Nat → Bool) (u : Nat) : Nat := szB (fun j => S j && !W u j && j != u)
theorem lack_twice {W : Nat → Nat → Bool} (hs : ∀ i j, W i j = W j i) (S : Nat → Bool) :
    sumTo (fun i => lackAt W S (vtxN (listM (pm S)) i)) (listM (pm S)).length = 2 * missN W (listM (pm S)) := by
  obtain ⟨zs, hz⟩ : ∃ zs, zs = listM (pm S) := ⟨_, rfl⟩
  obtain ⟨a, ha⟩ : ∃ a : Nat → Nat → Nat, a = fun i k => if !W (vtxN zs i) (vtxN zs k) && i != k then 1 else 0 := ⟨_, rfl⟩
  have e1 : ∀ i, i < zs.length → lackAt W S (vtxN zs i) = sumTo (a i) zs.length := by
    intro i hi
    unfold lackAt
    rw [szB_sum]
    have h1 := sum_listM (pm S) (fun j => !W (vtxN zs i) j && j != vtxN zs i)
    rw [← hz] at h1
    have h2 : sumTo (fun j => if (S j && !W (vtxN zs i) j && j != vtxN zs i) = true then 1 else 0) 16 = sumTo (fun j => if ((pm S).testBit j && (!W (vtxN zs i) j && j != vtxN zs i)) = true then 1 else 0) 16 := sumTo_congr (fun j hj => by
      rw [pm_bit, decide_eq_true hj, Bool.true_and, Bool.and_assoc])
    rw [h2, h1]
    refine sumTo_congr (fun k hk => ?_)
    rw [ha]
    have : (vtxN zs k != vtxN zs i) = (i != k) := by
      rw [Bool.eq_iff_iff, bne_iff_ne, bne_iff_ne]
      constructor
      · intro h e; subst e; exact h rfl
      · intro h e; subst hz; exact h (vtx_inj hk hi e).symm
    simp only [this]
  rw [← hz, sumTo_congr e1, handshake a zs.length (fun u hu => by rw [ha]; simp) (fun u v hu hv => by
    rw [ha]
    have : (u != v) = (v != u) := by rw [Bool.eq_iff_iff, bne_iff_ne, bne_iff_ne]; omega
    simp only [hs (vtxN zs u), this])]
  congr 1
  rw [sumTo_swap2]
  unfold missN missTo
  refine sumTo_congr (fun v hv => ?_)
  rw [sumTo_cut (fun u => a u v) (by omega)]
  refine sumTo_congr (fun u hu => ?_)
  rw [ha]
  unfold missA
  have : (u != v) = true := by rw [bne_iff_ne]; omega
  simp only [this, Bool.and_true]
  cases W (vtxN zs u) (vtxN zs v) <;> rfl
theorem missN_congr {B B' : Nat → Nat → Bool} {zs : List Int} (h : ∀ x ∈ zs, ∀ y ∈ zs, B x.toNat y.toNat = B' x.toNat y.toNat) : missN B zs = missN B' zs := by
  unfold missN missTo
  refine sumTo_congr (fun i hi => sumTo_congr (fun k hk => ?_))
  unfold missA vtxN
  rw [h _ (nth_mem (by omega)) _ (nth_mem hi)]
/-- What is left is as near each other as in the filled graph. -/
theorem miss_web (A : Nat → Nat → Bool) (ys : List Int) (v : Nat) : missN (webX A ys) (listM (pm (webX A ys v))) = missN (fillX A ys) (listM (pm (webX A ys v))) := by
  have key : ∀ x ∈ listM (pm (webX A ys v)), hasB ys ((x.toNat : Nat) : Int) = false := by
    intro x hx
    obtain ⟨i, hi, hb, rfl⟩ := (listM_mem _ _).1 hx
    rw [pm_bit, Bool.and_eq_true] at hb
    have h2 := hb.2
    unfold webX at h2
    rw [Bool.and_eq_true] at h2
    rw [Int.toNat_natCast]
    simpa using h2.2
  refine missN_congr (fun x hx y hy => ?_)
  unfold webX
  rw [key x hx, key y hy]; simp

/-- The neighbours that are left, no edges added. -/
def restX (A : Nat → Nat → Bool) (ys : List Int) (i j : Nat) : Bool := A i j && !hasB ys (i : Int) && !hasB ys (j : Int)
def lackC (A : Nat → Nat → Bool) (ys : List Int) (v : Nat) : Nat := missN (webX A ys) (listM (pm (webX A ys v)))
def restC (A : Nat → Nat → Bool) (ys : List Int) (v : Nat) : Nat := szB (restX A ys v)
theorem bitsTo_mono {M M' : Nat} (h : ∀ i, M.testBit i = true → M'.testBit i = true) (n : Nat) : bitsTo M n ≤ bitsTo M' n := by
  induction n with
  | zero => exact Nat.le_refl _
  | succ n ih =>
    unfold bitsTo
    by_cases hb : M.testBit n = true
    · rw [if_pos hb, if_pos (h n hb)]; omega
    · rw [if_neg hb]; omega
theorem szB_mono {p q : Nat → Bool} (h : ∀ j, p j = true → q j = true) : szB p ≤ szB q := bitsTo_mono (fun i hi => by
  rw [pm_bit, Bool.and_eq_true] at hi ⊢
  exact ⟨hi.1, h i hi.2⟩) 16
theorem first_out {xs : List Int} (P : Nat → Prop) (h : ∃ i, i < xs.length ∧ P i) : ∃ i, i < xs.length ∧ P i ∧ ∀ j, j < i → ¬ P j := by
  obtain ⟨i, hi, hp⟩ := h
  induction i using Nat.strongRecOn with
  | ind i ih =>
    rcases Classical.em (∃ j, j < i ∧ P j) with ⟨j, hj, hpj⟩ | hn
    · exact ih j hj (by omega) hpj
    · exact ⟨i, hi, hp, fun j hj hpj => hn ⟨j, hj, hpj⟩⟩
end Go.Proofs.YtohjfcfcopbmoaaGreatDoor
