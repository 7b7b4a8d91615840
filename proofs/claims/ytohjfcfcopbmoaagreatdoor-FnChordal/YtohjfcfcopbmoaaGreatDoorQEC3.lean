/- The texts EC3, CH1, joined. -/
import Derived.Test.YtohjfcfcopbmoaaGreatDoorEC2
import Derived.Test.YtohjfcfcopbmoaaGreatDoorQER6
import Derived.Test.YtohjfcfcopbmoaaGreatDoorQV1

/- Plain facts: a graph has an order that adds no edge just if the vertices can go one after another, each with what is left of its neighbours near each other; the greedy order by missing pairs is then that order. -/
namespace Go.Proofs.YtohjfcfcopbmoaaGreatDoor
open Go.RowKit

theorem sumTo_all {f g : Nat → Nat} : ∀ {n : Nat}, (∀ i, i < n → f i ≤ g i) → sumTo f n = sumTo g n → ∀ i, i < n → f i = g i
  | 0, _, _ => fun i hi => absurd hi (by omega)
  | n + 1, h, e => by
    have hle : sumTo f n ≤ sumTo g n := by
      have key : ∀ m, m ≤ n → sumTo f m ≤ sumTo g m := by
        intro m
        induction m with
        | zero => intro _; exact Nat.le_refl _
        | succ m ih => intro hm; rw [sumTo, sumTo]; have := ih (by omega); have := h m (by omega); omega
      exact key n (Nat.le_refl _)
    have hn := h n (by omega)
    rw [sumTo, sumTo] at e
    intro i hi
    by_cases ei : i = n
    · subst ei; omega
    · exact sumTo_all (n := n) (fun i hi => h i (by omega)) (by omega) i (by omega)
theorem sumTo_zeros {f : Nat → Nat} {n : Nat} (h : sumTo f n = 0) : ∀ i, i < n → f i = 0 := fun i hi => by
  have h0 : sumTo (fun _ => 0) n = 0 := sumTo_zero (fun _ _ => rfl)
  have := sumTo_all (f := fun _ => 0) (g := f) (n := n) (fun _ _ => Nat.zero_le _) (by rw [h0, h]) i hi
  exact this.symm

/-- No edge is added just if the filled graph is the graph. -/
theorem more_zero {A : Nat → Nat → Bool} {n : Nat} (hA : RelP n A) (hn : 1 ≤ n ∧ n ≤ 16) (xs : List Int) (h : manyN (adjL n (fillX A xs)) = manyN (adjL n A)) : fillX A xs = A := by
  have hF := fillX_rel hA xs
  have g1 := hF.graph hn
  have g2 := hA.graph hn
  have m1 := many_adj g1
  have m2 := many_adj g2
  rw [adjL_len] at m1 m2
  have e : sumTo (fun i => sumTo (fun j => if adjB (adjL n A) i j then 1 else 0) n) n = sumTo (fun i => sumTo (fun j => if adjB (adjL n (fillX A xs)) i j then 1 else 0) n) n := by
    omega
  have hle : ∀ i j, i < n → j < n → (if adjB (adjL n A) i j then 1 else 0) ≤ (if adjB (adjL n (fillX A xs)) i j then 1 else 0) := by
    intro i j hi hj
    rw [adjB_adjL g2 hi (by omega), adjB_adjL g1 hi (by omega)]
    cases ha : A i j with
    | false => simp
    | true => rw [fill_old A xs ha]; simp
  have hrow : ∀ i, i < n → sumTo (fun j => if adjB (adjL n A) i j then 1 else 0) n ≤ sumTo (fun j => if adjB (adjL n (fillX A xs)) i j then 1 else 0) n := by
    intro i hi
    have key : ∀ m, m ≤ n → sumTo (fun j => if adjB (adjL n A) i j then 1 else 0) m ≤ sumTo (fun j => if adjB (adjL n (fillX A xs)) i j then 1 else 0) m := by
      intro m
      induction m with
      | zero => intro _; exact Nat.le_refl _
      | succ m ih => intro hm; rw [sumTo, sumTo]; have := ih (by omega); have := hle i m hi (by omega); omega
    exact key n (Nat.le_refl _)
  have h1 := sumTo_all hrow e
  funext i j
  by_cases hi : i < n
  · by_cases hj : j < n
    · have h2 := sumTo_all (fun j hj => hle i j hi hj) (h1 i hi) j hj
      rw [adjB_adjL g2 hi (by omega), adjB_adjL g1 hi (by omega)] at h2
      cases ha : A i j <;> cases hf : fillX A xs i j <;> simp_all
    · have a1 : A i j = false := by
        cases ha : A i j with
        | false => rfl
        | true => exact absurd (hA.range i j ha).2 hj
      have a2 : fillX A xs i j = false := by
        cases ha : fillX A xs i j with
        | false => rfl
        | true => exact absurd (hF.range i j ha).2 hj
      rw [a1, a2]
  · have a1 : A i j = false := by
      cases ha : A i j with
      | false => rfl
      | true => exact absurd (hA.range i j ha).1 hi
    have a2 : fillX A xs i j = false := by
      cases ha : fillX A xs i j with
      | false => rfl
      | true => exact absurd (hF.range i j ha).1 hi
    rw [a1, a2]

theorem missN_all {B : Nat → Nat → Bool} {zs : List Int} (h : missN B zs = 0) : ∀ i k, k < i → i < zs.length → B (vtxN zs k) (vtxN zs i) = true := by
  intro i k hk hi
  unfold missN missTo at h
  have h1 := sumTo_zeros h i hi
  have h2 := sumTo_zeros h1 k hk
  unfold missA at h2
  cases hb : B (vtxN zs k) (vtxN zs i) with
  | true => rfl
  | false => rw [hb] at h2; simp at h2
/-- A set of which no pair is missing: all are near each other. -/
theorem miss_pair {A : Nat → Nat → Bool} {n : Nat} (hA : RelP n A) (hn : n ≤ 16) {S : Nat → Bool} (hS : ∀ u, S u = true → u < n) (h : missN A (listM (pm S)) = 0) {i j : Nat} (hi : S i = true) (hj : S j = true) (hij : i ≠ j) : A i j = true := by
  obtain ⟨p, hp, rfl⟩ := vtx_some (S := S) (by have := hS i hi; omega) hi
  obtain ⟨q, hq, rfl⟩ := vtx_some (S := S) (by have := hS j hj; omega) hj
  rcases Nat.lt_trichotomy p q with e | e | e
  · exact missN_all h q p e hq
  · subst e; exact absurd rfl hij
  · rw [hA.sym]; exact missN_all h p q e hp

theorem bstTo_first {c : Nat → Nat} {g : Nat → Bool} {v : Nat} (hg : g v = false) (hc : c v = 0) (hn : ∀ u, u < v → g u = false → c u ≠ 0) : ∀ {n : Nat}, v < n → bstTo c g n = (v : Int)
  | 0, h => by omega
  | n + 1, h => by
    by_cases e : v = n
    · subst e
      rw [bstTo, if_neg (by rw [hg]; simp)]
      by_cases hb : bstTo c g v < 0
      · rw [if_pos (Or.inl hb)]
      · have hy := bstTo_yes (c := c) (g := g) (k := v) (by omega)
        have hr := bstTo_ge c g v
        have := hn (bstTo c g v).toNat (by omega) hy
        rw [if_pos (Or.inr (by rw [hc]; omega))]
    · have ih := bstTo_first hg hc hn (n := n) (by omega)
      rw [bstTo, ih]
      by_cases hgn : g n = true
      · rw [if_pos hgn]
      · rw [if_neg hgn, if_neg (by rw [Int.toNat_natCast, hc]; omega)]

theorem lackC_left {A : Nat → Nat → Bool} {n : Nat} (hA : RelP n A) {ys : List Int} {v : Nat} (hF : fillX A ys = A) (hv : hasB ys (v : Int) = false) : lackC A ys v = missN A (listM (pm (leftB A ys v))) := by
  unfold lackC
  rw [miss_web]
  have e : pm (webX A ys v) = pm (leftB A ys v) := pm_congr (fun u _ => by
    unfold webX leftB
    rw [hF, hv]; simp)
  rw [e, hF]

/-- As long as the vertices can go, the greedy order by missing pairs takes the same ones, and adds no edge. -/
theorem greedy_po {A : Nat → Nat → Bool} {n : Nat} (hA : RelP n A) (hn : n ≤ 16) (h : pfB A n = true) : ∀ k, k ≤ n → grL (lackC A) n k = poS A n k ∧ fillX A (poS A n k) = A := by
  have hlen : ∀ k, k ≤ n → (poS A n k).length = k ∧ (k < n → findTo (mayGo A (poS A n k)) n < n) := by
    intro k
    induction k with
    | zero =>
      intro _
      refine ⟨rfl, fun hk => ?_⟩
      rcases Nat.lt_or_ge (findTo (mayGo A (poS A n 0)) n) n with hf | hf
      · exact hf
      · have hle := findTo_le (mayGo A (poS A n 0)) n
        have := poS_no (A := A) hk (by omega)
        rw [h] at this; cases this
    | succ k ih =>
      intro hk
      obtain ⟨h1, h2⟩ := ih (by omega)
      refine ⟨by rw [poS, if_pos (h2 (by omega)), List.length_append, List.length_singleton, h1], fun hk2 => ?_⟩
      rcases Nat.lt_or_ge (findTo (mayGo A (poS A n (k + 1))) n) n with hf | hf
      · exact hf
      · have hle := findTo_le (mayGo A (poS A n (k + 1))) n
        have := poS_no (A := A) hk2 (by omega)
        rw [h] at this; cases this
  intro k
  induction k with
  | zero => intro _; exact ⟨rfl, rfl⟩
  | succ k ih =>
    intro hk
    obtain ⟨i1, i2⟩ := ih (by omega)
    have hf := (hlen k (by omega)).2 (by omega)
    have hy := findTo_yes hf
    have hno := fun u (hu : u < findTo (mayGo A (poS A n k)) n) => findTo_no hu
    obtain ⟨ys, hys⟩ : ∃ ys, ys = poS A n k := ⟨_, rfl⟩
    obtain ⟨v, hv⟩ : ∃ v, v = findTo (mayGo A (poS A n k)) n := ⟨_, rfl⟩
    have e1 : poS A n (k + 1) = ys ++ [(v : Int)] := by rw [poS, if_pos hf, ← hv, ← hys]
    rw [← hv] at hf hy hno
    rw [← hys] at i1 i2 hy hno
    unfold mayGo at hy hno
    rw [Bool.and_eq_true, Bool.not_eq_true', beq_iff_eq] at hy
    have hb : bstTo (lackC A ys) (fun v => hasB ys (v : Int)) n = (v : Int) := by
      refine bstTo_first (c := lackC A ys) (g := fun v => hasB ys (v : Int)) hy.1 ?_ (fun u hu hg => ?_) hf
      · rw [lackC_left hA i2 hy.1]; exact hy.2
      · have hg : hasB ys (u : Int) = false := hg
        rw [lackC_left hA i2 hg]
        have := hno u hu
        rw [hg] at this
        simpa using this
    refine ⟨by rw [e1, grL, i1, hb], ?_⟩
    rw [e1, fillX_snoc, i2, Int.toNat_natCast]
    funext i j
    unfold cliqueA
    cases ha : A i j with
    | true => rfl
    | false =>
      rw [Bool.false_or]
      cases hc : (leftB A (ys ++ [(v : Int)]) v i && leftB A (ys ++ [(v : Int)]) v j && i != j) with
      | false => rfl
      | true =>
        exfalso
        rw [Bool.and_eq_true, Bool.and_eq_true, bne_iff_ne] at hc
        have hsub : ∀ u, leftB A (ys ++ [(v : Int)]) v u = true → leftB A ys v u = true := by
          intro u hu
          unfold leftB at hu ⊢
          rw [hasB_snoc] at hu
          cases h1 : A v u <;> cases h2 : hasB ys (u : Int) <;> simp_all
        have := miss_pair hA hn (leftB_range hA ys v) hy.2 (hsub i hc.1.1) (hsub j hc.1.2) hc.2
        rw [ha] at this; cases this

/-- What the program answers: the greedy order, if it adds no edge. -/
def byFillO (L : List (List Int)) : List Int := if GraphP L then grL (lackC (adjB L)) L.length L.length else []
theorem perf_po {L : List (List Int)} (hG : GraphP L) : (pfB (adjB L) L.length = true → perfB L (byFillO L) = true ∧ byFillO L = poS (adjB L) L.length L.length) ∧ (pfB (adjB L) L.length = false → perfB L (byFillO L) = false) := by
  have hA := adjB_rel hG
  have hz := hG.1
  have e0 : byFillO L = grL (lackC (adjB L)) L.length L.length := if_pos hG
  have hO : OrdP (byFillO L) L.length := by rw [e0]; exact grL_ord _ _
  have hoB : orderB L (byFillO L) = true := by unfold orderB; rw [decide_eq_true hG, decide_eq_true hO]; rfl
  have eL : adjL L.length (adjB L) = L := graph_adjL hG
  constructor
  · intro hp
    obtain ⟨g1, g2⟩ := greedy_po hA hz.2 hp L.length (Nat.le_refl _)
    rw [e0]
    refine ⟨?_, g1⟩
    rw [e0] at hoB
    unfold perfB moreI
    rw [if_pos hoB, g1, g2, eL]
    simp
  · intro hp
    cases hq : perfB L (byFillO L) with
    | false => rfl
    | true =>
      exfalso
      unfold perfB moreI at hq
      rw [if_pos hoB, beq_iff_eq] at hq
      have hm : fillX (adjB L) (byFillO L) = adjB L := more_zero hA hz (byFillO L) (by rw [eL]; omega)
      have := fill_po hA hz.2 hO
      rw [hm, hp] at this; cases this

end Go.Proofs.YtohjfcfcopbmoaaGreatDoor

/- Plain facts: a loop of four or more vertices has no chord just if each of its vertices has two neighbours on it. -/
namespace Go.Proofs.YtohjfcfcopbmoaaGreatDoor
open Go.RowKit

theorem sumTo_out (f : Nat → Nat) {a : Nat} : ∀ {n : Nat}, a < n → sumTo f n = sumTo (fun j => if j = a then 0 else f j) n + f a
  | 0, h => absurd h (by omega)
  | n + 1, h => by
    rw [sumTo, sumTo]
    by_cases e : a = n
    · subst e
      rw [if_pos rfl]
      have : sumTo (fun j => if j = a then 0 else f j) a = sumTo f a := sumTo_congr (fun i hi => by rw [if_neg (by omega)])
      omega
    · have := sumTo_out f (n := n) (a := a) (by omega)
      rw [if_neg (by omega)]
      omega
theorem szB_out {q : Nat → Bool} {a : Nat} (ha : a < 16) (h : q a = true) : szB q = szB (fun u => q u && u != a) + 1 := by
  rw [szB_sum, szB_sum, sumTo_out _ ha, h]
  congr 1
  refine sumTo_congr (fun j _ => ?_)
  by_cases e : j = a
  · subst e; simp
  · have : (j != a) = true := by rw [bne_iff_ne]; exact e
    rw [if_neg e, this, Bool.and_true]
theorem szB_none {q : Nat → Bool} : szB q = 0 ↔ ∀ j, j < 16 → q j = false := by
  rw [szB_sum]
  constructor
  · intro h j hj
    have := sumTo_zeros h j hj
    cases hq : q j with
    | false => rfl
    | true => rw [hq] at this; simp at this
  · intro h
    exact sumTo_zero (fun j hj => by rw [h j hj]; rfl)

open Classical in
/-- No chord among the pairs of the first i vertices, and of the next one with the first k. -/
noncomputable def noCh (A : Nat → Nat → Bool) (xs : List Int) : Bool :=
  decide (∀ i k, i < xs.length → k + 1 < i → ¬ (k = 0 ∧ i + 1 = xs.length) → A (vtxN xs k) (vtxN xs i) = false)

/-- What is known of a loop. -/
structure LoopF (A : Nat → Nat → Bool) (xs : List Int) : Prop where
  len : 3 ≤ xs.length
  lt : ∀ i, i < xs.length → vtxN xs i < 16
  at_ : ∀ i, i < xs.length → nth xs i = (vtxN xs i : Int)
  inj : ∀ i j, i < xs.length → j < xs.length → vtxN xs i = vtxN xs j → i = j
  step : ∀ i, i + 1 < xs.length → A (vtxN xs i) (vtxN xs (i + 1)) = true
  close : A (vtxN xs 0) (vtxN xs (xs.length - 1)) = true
theorem loop_facts {L : List (List Int)} {xs : List Int} (h : loopB L xs = true) : GraphP L ∧ LoopF (adjB L) xs ∧ xs.length ≤ L.length ∧ ∀ i, i < xs.length → vtxN xs i < L.length := by
  unfold loopB at h
  simp only [Bool.and_eq_true, decide_eq_true_eq] at h
  obtain ⟨⟨⟨⟨hG, h3⟩, hle⟩, hp⟩, hc⟩ := h
  have hz := hG.1
  have hrange : ∀ i, i < xs.length → 0 ≤ nth xs i ∧ nth xs i < (L.length : Int) := fun i hi => by
    have := (hp i hi).1
    simp [inB] at this
    omega
  have hat : ∀ i, i < xs.length → nth xs i = (vtxN xs i : Int) := fun i hi => by
    have := hrange i hi
    unfold vtxN; omega
  have hlt : ∀ i, i < xs.length → vtxN xs i < L.length := fun i hi => by
    have := hrange i hi
    unfold vtxN; omega
  have hne : ∀ i j, i < j → j < xs.length → vtxN xs i ≠ vtxN xs j := fun i j hij hj e => by
    have h2 := hasB_false.1 (hp j hj).2.1
    refine h2 ?_
    rw [hat j hj, ← e, ← hat i (by omega)]
    have hi2 : i < (xs.take j).length := by rw [List.length_take]; omega
    have : nth xs i = (xs.take j)[i] := by rw [nth_eq (show i < xs.length by omega), List.getElem_take]
    rw [this]
    exact List.getElem_mem hi2
  refine ⟨hG, ⟨h3, fun i hi => by have := hlt i hi; omega, hat, fun i j hi hj e => ?_, fun i hi => ?_, ?_⟩, hle, hlt⟩
  · rcases Nat.lt_trichotomy i j with h | h | h
    · exact absurd e (hne i j h hj)
    · exact h
    · exact absurd e.symm (hne j i h hi)
  · have := (hp (i + 1) hi).2.2 (by omega)
    rw [Nat.add_sub_cancel, hat (i + 1) hi] at this
    rw [← adjB_has hG (hlt i (by omega)) (by have := hlt (i + 1) hi; omega)]
    exact this
  · rw [hat (xs.length - 1) (by omega)] at hc
    rw [← adjB_has hG (hlt 0 (by omega)) (by have := hlt (xs.length - 1) (by omega); omega)]
    exact hc

theorem noCh_deg {A : Nat → Nat → Bool} (hs : ∀ i j, A i j = A j i) (hself : ∀ i, A i i = false) {xs : List Int} (h : LoopF A xs) (h4 : 4 ≤ xs.length) :
    noCh A xs = true ↔ ∀ i, i < xs.length → szB (fun u => A (vtxN xs i) u && hasB xs (u : Int)) = 2 := by
  have hin : ∀ j, j < xs.length → hasB xs ((vtxN xs j : Nat) : Int) = true := fun j hj => by
    rw [hasB_mem, ← h.at_ j hj]; exact nth_mem hj
  obtain ⟨p, hp⟩ : ∃ p : Nat → Nat, p = fun i => if i = 0 then xs.length - 1 else i - 1 := ⟨_, rfl⟩
  obtain ⟨s, hsu⟩ : ∃ s : Nat → Nat, s = fun i => if i + 1 = xs.length then 0 else i + 1 := ⟨_, rfl⟩
  have hpl : ∀ i, i < xs.length → p i < xs.length ∧ A (vtxN xs i) (vtxN xs (p i)) = true := fun i hi => by
    rw [hp]
    by_cases e : i = 0
    · subst e
      exact ⟨by show xs.length - 1 < xs.length; omega, h.close⟩
    · have h1 := h.step (i - 1) (by omega)
      rw [show i - 1 + 1 = i by omega] at h1
      simp only [if_neg e]
      exact ⟨by omega, by rw [hs]; exact h1⟩
  have hsl : ∀ i, i < xs.length → s i < xs.length ∧ A (vtxN xs i) (vtxN xs (s i)) = true := fun i hi => by
    rw [hsu]
    by_cases e : i + 1 = xs.length
    · simp only [if_pos e]
      have hc := h.close
      rw [show xs.length - 1 = i by omega] at hc
      exact ⟨by omega, by rw [hs]; exact hc⟩
    · simp only [if_neg e]
      exact ⟨by omega, h.step i (by omega)⟩
  have hps : ∀ i, i < xs.length → p i ≠ s i := fun i hi => by
    rw [hp, hsu]
    show (if i = 0 then xs.length - 1 else i - 1) ≠ (if i + 1 = xs.length then 0 else i + 1)
    split <;> split <;> omega
  have hrest : ∀ i, i < xs.length → szB (fun u => A (vtxN xs i) u && hasB xs (u : Int)) = szB (fun u => ((A (vtxN xs i) u && hasB xs (u : Int)) && u != vtxN xs (p i)) && u != vtxN xs (s i)) + 1 + 1 := fun i hi => by
    obtain ⟨p1, p2⟩ := hpl i hi
    obtain ⟨s1, s2⟩ := hsl i hi
    have e1 := szB_out (q := fun u => A (vtxN xs i) u && hasB xs (u : Int)) (h.lt _ p1) (by show (A _ _ && hasB _ _) = true; rw [p2, hin _ p1]; rfl)
    have e2 := szB_out (q := fun u => (A (vtxN xs i) u && hasB xs (u : Int)) && u != vtxN xs (p i)) (h.lt _ s1) (by
      show ((A _ _ && hasB _ _) && _) = true
      rw [s2, hin _ s1]
      have : (vtxN xs (s i) != vtxN xs (p i)) = true := by
        rw [bne_iff_ne]
        intro e
        exact hps i hi (h.inj _ _ s1 p1 e).symm
      rw [this]; rfl)
    rw [e1, e2]
  have hdn : noCh A xs = true ↔ ∀ i k, i < xs.length → k + 1 < i → ¬ (k = 0 ∧ i + 1 = xs.length) → A (vtxN xs k) (vtxN xs i) = false := by
    classical
    unfold noCh
    exact decide_eq_true_iff
  rw [hdn]
  constructor
  · intro hn i hi
    rw [hrest i hi]
    have hz : szB (fun u => ((A (vtxN xs i) u && hasB xs (u : Int)) && u != vtxN xs (p i)) && u != vtxN xs (s i)) = 0 := by
      rw [szB_none]
      intro u hu
      cases hq : (((A (vtxN xs i) u && hasB xs (u : Int)) && u != vtxN xs (p i)) && u != vtxN xs (s i)) with
      | false => rfl
      | true =>
        exfalso
        rw [Bool.and_eq_true, Bool.and_eq_true, Bool.and_eq_true, bne_iff_ne, bne_iff_ne] at hq
        obtain ⟨⟨⟨ha, hm⟩, n1⟩, n2⟩ := hq
        obtain ⟨j, hj, ej⟩ := List.getElem_of_mem ((hasB_mem _ _).1 hm)
        have ev : vtxN xs j = u := by unfold vtxN; rw [nth_eq hj, ej]; omega
        subst ev
        have hij : i ≠ j := fun e => by subst e; rw [hself] at ha; cases ha
        have hnp : j ≠ p i := fun e => n1 (by rw [e])
        have hns : j ≠ s i := fun e => n2 (by rw [e])
        rw [hp] at hnp
        rw [hsu] at hns
        have hnp : j ≠ (if i = 0 then xs.length - 1 else i - 1) := hnp
        have hns : j ≠ (if i + 1 = xs.length then 0 else i + 1) := hns
        rcases Nat.lt_trichotomy i j with e | e | e
        · have := hn j i hj (by split at hns <;> split at hnp <;> omega) (by split at hns <;> split at hnp <;> omega)
          rw [this] at ha; cases ha
        · exact hij e
        · have := hn i j hi (by split at hns <;> split at hnp <;> omega) (by split at hns <;> split at hnp <;> omega)
          rw [hs, this] at ha; cases ha
    omega
  · intro hd i k hi hki hne
    cases ha : A (vtxN xs k) (vtxN xs i) with
    | false => rfl
    | true =>
      exfalso
      have h2 := hd i hi
      rw [hrest i hi] at h2
      have h3 : szB (fun u => ((A (vtxN xs i) u && hasB xs (u : Int)) && u != vtxN xs (p i)) && u != vtxN xs (s i)) = 0 := by omega
      have h4 := szB_none.1 h3 (vtxN xs k) (h.lt k (by omega))
      have h5 : (((A (vtxN xs i) (vtxN xs k) && hasB xs ((vtxN xs k : Nat) : Int)) && vtxN xs k != vtxN xs (p i)) && vtxN xs k != vtxN xs (s i)) = false := h4
      rw [hs, ha, hin k (by omega)] at h5
      have n1 : (vtxN xs k != vtxN xs (p i)) = true := by
        rw [bne_iff_ne]
        intro e
        have := h.inj _ _ (by omega) (hpl i hi).1 e
        rw [hp] at this
        have this : k = (if i = 0 then xs.length - 1 else i - 1) := this
        split at this <;> omega
      have n2 : (vtxN xs k != vtxN xs (s i)) = true := by
        rw [bne_iff_ne]
        intro e
        have := h.inj _ _ (by omega) (hsl i hi).1 e
        rw [hsu] at this
        have this : k = (if i + 1 = xs.length then 0 else i + 1) := this
        split at this <;> omega
      rw [n1, n2] at h5
      simp at h5

/-- What ChordlessOk answers. -/
noncomputable def chlB (L : List (List Int)) (xs : List Int) : Bool := loopB L xs && decide (4 ≤ xs.length) && noCh (adjB L) xs

end Go.Proofs.YtohjfcfcopbmoaaGreatDoor
