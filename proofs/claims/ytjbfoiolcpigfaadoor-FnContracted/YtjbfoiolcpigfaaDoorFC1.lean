/- Plain facts: a contracted graph: its vertices, its parts, its edges. -/
import Derived.Test.YtjbfoiolcpigfaaDoorFT1
import Derived.Test.YtjbfoiolcpigfaaDoorQM9

namespace Go.Proofs.YtjbfoiolcpigfaaDoor

/-- The i-th vertex but b. -/
def skipN (b i : Nat) : Nat := if i < b then i else i + 1
/-- Where a vertex comes to: b to a. -/
def foldN (a b u : Nat) : Nat := if u < b then u else if u = b then a else u - 1
theorem skip_fold {a b u : Nat} (h : u ≠ b) : skipN b (foldN a b u) = u := by
  unfold foldN
  by_cases h1 : u < b
  · rw [if_pos h1]; unfold skipN; rw [if_pos h1]
  · rw [if_neg h1, if_neg h]; unfold skipN; rw [if_neg (by omega)]; omega
theorem fold_skip {a b i : Nat} : foldN a b (skipN b i) = i := by
  unfold skipN
  by_cases h1 : i < b
  · rw [if_pos h1]; unfold foldN; rw [if_pos h1]
  · rw [if_neg h1]; unfold foldN; rw [if_neg (by omega), if_neg (by omega)]; omega
theorem skip_ne (b i : Nat) : skipN b i ≠ b := by unfold skipN; split <;> omega
theorem skip_lt {b i n : Nat} (hb : b < n) (hi : i < n - 1) : skipN b i < n := by unfold skipN; split <;> omega
theorem fold_lt {a b u n : Nat} (ha : a < b) (hb : b < n) (hu : u < n) : foldN a b u < n - 1 := by unfold foldN; split <;> (try split) <;> omega
theorem skip_mono {b i j : Nat} : skipN b i ≤ skipN b j ↔ i ≤ j := by unfold skipN; split <;> split <;> omega
theorem fold_end (a b : Nat) : foldN a b b = a := by unfold foldN; rw [if_neg (by omega), if_pos rfl]
theorem skip_low {b i : Nat} (h : i < b) : skipN b i = i := if_pos h

theorem restL_skip {n b : Nat} (hn : n ≤ 16) (hb : b < n) : restL n b = (List.range (n - 1)).map (fun i => (skipN b i : Int)) := by
  refine sets_eq (listM_set _) (SetP.mk ?_ ?_) (fun z => ?_)
  · rw [List.pairwise_map]
    refine List.Pairwise.imp ?_ List.pairwise_lt_range
    intro i j hij
    have h2 : ¬ skipN b j ≤ skipN b i := fun h => by have := (skip_mono (b := b)).1 h; omega
    omega
  · intro x hx
    rw [List.mem_map] at hx
    obtain ⟨i, hi, rfl⟩ := hx
    rw [List.mem_range] at hi
    have := skip_lt hb hi
    omega
  · rw [restL_mem hn hb, List.mem_map]
    constructor
    · rintro ⟨i, h1, h2, rfl⟩
      exact ⟨foldN 0 b i, by
        rw [List.mem_range]
        unfold foldN
        rw [if_neg h2]
        split <;> omega, by rw [skip_fold h2]⟩
    · rintro ⟨i, h1, rfl⟩
      rw [List.mem_range] at h1
      exact ⟨skipN b i, skip_lt hb h1, skip_ne b i, rfl⟩
theorem restL_length {n b : Nat} (hn : n ≤ 16) (hb : b < n) : (restL n b).length = n - 1 := by rw [restL_skip hn hb]; simp
theorem restL_nth {n b i : Nat} (hn : n ≤ 16) (hb : b < n) (hi : i < n - 1) : nth (restL n b) i = (skipN b i : Int) := by
  rw [nth_eq (by rw [restL_length hn hb]; exact hi)]
  simp [restL_skip hn hb]

section
variable {L : List (List Int)}
/-- Who is near whom when b has come to a, by the old names. -/
def conC (L : List (List Int)) (a b i j : Nat) : Bool := adjB L i j || (i == a && j != a && adjB L b j) || (j == a && i != a && adjB L b i)
/-- .. and by the new ones. -/
def conX (L : List (List Int)) (a b i j : Nat) : Bool := decide (i < L.length - 1) && decide (j < L.length - 1) && conC L a b (skipN b i) (skipN b j)
theorem conX_pick (hG : GraphP L) {a b : Nat} (ha : a < b) (hb : b < L.length) : pickL (conG L a b) (restL L.length b) true = adjL (L.length - 1) (conX L a b) := by
  have hz := hG.1
  unfold pickL
  rw [if_pos rfl, restL_length hz.2 hb]
  refine adjL_congr (fun i hi j hj => ?_)
  unfold pickA conX
  rw [restL_length hz.2 hb]
  by_cases hjl : j < L.length - 1
  · rw [decide_eq_true hi, decide_eq_true hjl, restL_nth hz.2 hb hi, restL_nth hz.2 hb hjl, Int.toNat_natCast, Int.toNat_natCast]
    have h1 := skip_lt hb hi
    have h2 := skip_lt hb hjl
    unfold conG
    rw [adjB_adjL (conG_graph hG (show a < L.length by omega) hb) h1 (by omega)]
    unfold conA conC
    rw [adjB_has hG hb (by omega), adjB_has hG hb (by omega)]
  · rw [decide_eq_false hjl]
    simp
theorem conX_range {a b i j : Nat} (h : conX L a b i j = true) : i < L.length - 1 ∧ j < L.length - 1 := by
  unfold conX at h
  simp only [Bool.and_eq_true, decide_eq_true_iff] at h
  exact h.1
theorem conC_sym (hG : GraphP L) (a b i j : Nat) : conC L a b i j = conC L a b j i := by
  unfold conC
  rw [adjB_sym hG i j, Bool.or_assoc, Bool.or_assoc]
  congr 1
  exact Bool.or_comm _ _
theorem conX_sym (hG : GraphP L) (a b i j : Nat) : conX L a b i j = conX L a b j i := by
  unfold conX
  rw [conC_sym hG, Bool.and_comm (decide (i < L.length - 1))]
theorem conC_self (hG : GraphP L) (a b i : Nat) : conC L a b i i = false := by
  unfold conC
  rw [adjB_self hG]
  by_cases h : i = a
  · subst h; simp
  · have : (i == a) = false := by rw [beq_eq_false_iff_ne]; exact h
    rw [this]; rfl
theorem conX_graph (hG : GraphP L) {a b : Nat} (ha : a < b) (hb : b < L.length) : GraphP (adjL (L.length - 1) (conX L a b)) :=
  adjL_graph ⟨by omega, by have := hG.1; omega⟩ (fun i j h => (conX_range h).2) (conX_sym hG a b) (fun i => by unfold conX; rw [conC_self hG]; simp)

theorem con_down (hG : GraphP L) {a b : Nat} (_ha : a < b) (hb : b < L.length) (hab : adjB L a b = true) {i j : Nat} (h : Reach (conX L a b) (allS (L.length - 1)) i j) : Reach (adjB L) (allS L.length) (skipN b i) (skipN b j) := by
  obtain ⟨k, h⟩ := h
  induction k generalizing j with
  | zero =>
    obtain ⟨rfl, h⟩ := h
    exact Reach.refl ((allS_iff _ _).2 (skip_lt hb ((allS_iff _ _).1 h)))
  | succ k ih =>
    obtain ⟨hs, w, hw, hx⟩ := h
    refine (ih hw).trans ?_
    have hS : ∀ v, v < L.length → allS L.length v = true := fun v hv => (allS_iff _ _).2 hv
    have hstep : ∀ {x y : Nat}, adjB L x y = true → Reach (adjB L) (allS L.length) x y := fun {x y} h => ⟨1, hS y (adjB_range hG h).2, x, ⟨rfl, hS x (adjB_range hG h).1⟩, h⟩
    unfold conX conC at hx
    simp only [Bool.and_eq_true, Bool.or_eq_true, decide_eq_true_iff, beq_iff_eq] at hx
    rcases hx.2 with (h1 | ⟨⟨h1, _⟩, h2⟩) | ⟨⟨h1, _⟩, h2⟩
    · exact hstep h1
    · rw [h1]; exact (hstep hab).trans (hstep h2)
    · rw [h1]; exact (hstep (by rw [adjB_sym hG]; exact h2)).trans (hstep (by rw [adjB_sym hG]; exact hab))
theorem con_up (hG : GraphP L) {a b : Nat} (ha : a < b) (hb : b < L.length) {u w : Nat} (h : Reach (adjB L) (allS L.length) u w) : Reach (conX L a b) (allS (L.length - 1)) (foldN a b u) (foldN a b w) := by
  obtain ⟨k, h⟩ := h
  have hS : ∀ v, v < L.length → allS (L.length - 1) (foldN a b v) = true := fun v hv => (allS_iff _ _).2 (fold_lt ha hb hv)
  induction k generalizing w with
  | zero =>
    obtain ⟨rfl, h⟩ := h
    exact Reach.refl (hS _ ((allS_iff _ _).1 h))
  | succ k ih =>
    obtain ⟨hs, x, hx, hxw⟩ := h
    refine (ih hx).trans ?_
    obtain ⟨hxn, hwn⟩ := adjB_range hG hxw
    by_cases e : foldN a b x = foldN a b w
    · rw [e]; exact Reach.refl (hS _ hwn)
    · refine ⟨1, hS _ hwn, _, ⟨rfl, hS _ hxn⟩, ?_⟩
      unfold conX
      rw [decide_eq_true (fold_lt ha hb hxn), decide_eq_true (fold_lt ha hb hwn)]
      simp only [Bool.true_and]
      unfold conC
      simp only [Bool.or_eq_true, Bool.and_eq_true, beq_iff_eq, bne_iff_ne, ne_eq]
      by_cases h1 : x = b
      · subst h1
        have hwb : w ≠ x := fun e2 => e (by rw [e2])
        rw [skip_fold hwb, fold_end, skip_low ha]
        rw [fold_end] at e
        refine .inl (.inr ⟨⟨rfl, fun e2 => e ?_⟩, hxw⟩)
        rw [e2]; unfold foldN; rw [if_pos ha]
      · rw [skip_fold h1]
        by_cases h2 : w = b
        · subst h2
          rw [fold_end, skip_low ha]
          rw [fold_end] at e
          refine .inr ⟨⟨rfl, fun e2 => e ?_⟩, by rw [adjB_sym hG]; exact hxw⟩
          rw [e2]; unfold foldN; rw [if_pos ha]
        · rw [skip_fold h2]
          exact .inl (.inl hxw)
theorem con_head (hG : GraphP L) {a b : Nat} (ha : a < b) (hb : b < L.length) (hab : adjB L a b = true) {i : Nat} (hi : i < L.length - 1) : headN (conX L a b) (L.length - 1) i = i ↔ headN (adjB L) L.length (skipN b i) = skipN b i := by
  have hz := hG.1
  rw [head_iff (conX_sym hG a b) (by omega) hi, head_iff (adjB_sym hG) hz.2 (skip_lt hb hi)]
  constructor
  · intro h w hr
    have h1 := con_up hG ha hb hr
    rw [fold_skip] at h1
    have h2 := h _ h1
    by_cases e : w = b
    · subst e
      rw [fold_end] at h2
      unfold skipN
      split <;> omega
    · have := (skip_mono (b := b)).2 h2
      rwa [skip_fold e] at this
  · intro h j hr
    exact skip_mono.1 (h _ (con_down hG ha hb hab hr))
theorem con_parts (hG : GraphP L) {a b : Nat} (ha : a < b) (hb : b < L.length) (hab : adjB L a b = true) : (partsL (adjL (L.length - 1) (conX L a b))).length = (partsL L).length := by
  have hz := hG.1
  have hX := conX_graph hG ha hb
  rw [partsL_heads hX, List.length_map, near_adjL hX (fun i j h => conX_range h), adjL_len, parts_count hG]
  have hnb : headN (adjB L) L.length b ≠ b := fun e => by
    have := (head_iff (adjB_sym hG) hz.2 hb).1 e a ⟨1, (allS_iff _ _).2 (by omega), b, ⟨rfl, (allS_iff _ _).2 hb⟩, by rw [adjB_sym hG]; exact hab⟩
    omega
  have hq : ∀ i, i < L.length - 1 → (headN (conX L a b) (L.length - 1) i == i) = (headN (adjB L) L.length (skipN b i) == skipN b i) := fun i hi => by
    rw [Bool.eq_iff_iff, beq_iff_eq, beq_iff_eq]
    exact con_head hG ha hb hab hi
  obtain ⟨c, hc⟩ : ∃ c, L.length = b + 1 + c := ⟨L.length - b - 1, by omega⟩
  have e1 : (headsTo (conX L a b) (L.length - 1) (L.length - 1)).length = ((List.range (L.length - 1)).filter (fun i => headN (adjB L) L.length (skipN b i) == skipN b i)).length := by
    unfold headsTo
    congr 1
    exact List.filter_congr (fun i hi => hq i (List.mem_range.1 hi))
  rw [e1]
  unfold headsTo
  rw [show L.length - 1 = b + c from by omega]
  have e2 : List.range L.length = List.range b ++ [b] ++ (List.range c).map (fun k => b + 1 + k) := by rw [hc, List.range_add, List.range_succ]
  rw [e2, List.range_add, List.filter_append, List.filter_append, List.filter_append, List.length_append, List.length_append, List.length_append]
  have e3 : ([b].filter (fun v => headN (adjB L) L.length v == v)).length = 0 := by
    rw [List.filter_cons_of_neg (by simpa using hnb)]; rfl
  rw [e3, Nat.add_zero]
  congr 1
  · congr 1
    refine List.filter_congr (fun i hi => ?_)
    rw [skip_low (List.mem_range.1 hi)]
  · rw [List.filter_map, List.filter_map, List.length_map, List.length_map]
    congr 1
    refine List.filter_congr (fun i hi => ?_)
    show (headN (adjB L) L.length (skipN b (b + i)) == skipN b (b + i)) = (headN (adjB L) L.length (b + 1 + i) == b + 1 + i)
    rw [show skipN b (b + i) = b + 1 + i from by unfold skipN; rw [if_neg (by omega)]; omega]
end

theorem sumTo_mono {f g : Nat → Nat} {n : Nat} (h : ∀ i, i < n → f i ≤ g i) : sumTo f n ≤ sumTo g n := by
  induction n with
  | zero => exact Nat.le_refl _
  | succ n ih =>
    have h1 := ih (fun i hi => h i (by omega))
    have h2 := h n (by omega)
    show sumTo f n + f n ≤ sumTo g n + g n
    omega
/-- A sum over all but b. -/
theorem sumTo_skip (f : Nat → Nat) {b n : Nat} (hb : b < n) : sumTo f n = sumTo (fun i => f (skipN b i)) (n - 1) + f b := by
  obtain ⟨c, rfl⟩ : ∃ c, n = b + 1 + c := ⟨n - b - 1, by omega⟩
  rw [show b + 1 + c - 1 = b + c from by omega, sumTo_plus f (b + 1) c, sumTo_plus _ b c]
  show sumTo f b + f b + _ = _
  rw [sumTo_congr (f := fun i => f (skipN b i)) (g := f) (n := b) (fun i hi => by rw [skip_low hi])]
  rw [sumTo_congr (f := fun i => f (skipN b (b + i))) (g := fun i => f (b + 1 + i)) (n := c) (fun i hi => by
    rw [show skipN b (b + i) = b + 1 + i from by unfold skipN; rw [if_neg (by omega)]; omega])]
  omega
theorem sumTo_one (f : Nat → Nat) {a n : Nat} (ha : a < n) (h : ∀ i, i < n → i ≠ a → f i = 0) : sumTo f n = f a := by
  rw [sumTo_skip f ha, sumTo_zero (fun i hi => h _ (skip_lt ha hi) (skip_ne a i)), Nat.zero_add]

section
variable {L : List (List Int)}
/-- 1 where it is so. -/
def oneB (b : Bool) : Nat := if b then 1 else 0
theorem oneB_or (p q r : Bool) : oneB (p || q || r) ≤ oneB p + oneB q + oneB r := by cases p <;> cases q <;> cases r <;> decide
theorem con_many (hG : GraphP L) {a b : Nat} (ha : a < b) (hb : b < L.length) (hab : adjB L a b = true) : manyN (adjL (L.length - 1) (conX L a b)) < manyN L := by
  have hz := hG.1
  have hX := conX_graph hG ha hb
  have a0 := many_adj hX
  have a1 := many_adj hG
  rw [adjL_len] at a0
  have hba : adjB L b a = true := by rw [adjB_sym hG]; exact hab
  -- the old graph: all but b, and b's own
  have e1 : sumTo (fun i => sumTo (fun j => if adjB L i j then 1 else 0) L.length) L.length
      = sumTo (fun i => sumTo (fun j => oneB (adjB L (skipN b i) (skipN b j))) (L.length - 1)) (L.length - 1) + 2 * sumTo (fun j => oneB (adjB L b (skipN b j))) (L.length - 1) := by
    rw [sumTo_skip _ hb]
    rw [sumTo_congr (g := fun i => sumTo (fun j => oneB (adjB L (skipN b i) (skipN b j))) (L.length - 1) + oneB (adjB L b (skipN b i))) (fun i hi => by
      rw [sumTo_skip _ hb, adjB_sym hG b (skipN b i)]
      rfl), sumTo_add, sumTo_skip _ hb, adjB_self hG]
    show _ + _ + (sumTo (fun i => oneB (adjB L b (skipN b i))) (L.length - 1) + 0) = _
    omega
  -- b's own: a and the others
  have e2 : sumTo (fun j => oneB (adjB L b (skipN b j))) (L.length - 1) = sumTo (fun j => oneB (skipN b j != a && adjB L b (skipN b j))) (L.length - 1) + 1 := by
    have hal : a < L.length - 1 := by omega
    rw [sumTo_skip _ hal, sumTo_skip (fun j => oneB (skipN b j != a && adjB L b (skipN b j))) hal, skip_low ha, hba]
    have : (a != a) = false := by simp
    rw [this]
    show _ + 1 = _ + 0 + 1
    rw [Nat.add_zero]
    congr 1
    refine sumTo_congr (fun j hj => ?_)
    have hne : (skipN b (skipN a j) != a) = true := by
      rw [bne_iff_ne]
      intro e
      have h1 : skipN b (skipN a j) = skipN b a := by rw [e, skip_low ha]
      have h2 := (skip_mono (b := b)).1 (Nat.le_of_eq h1)
      have h3 := (skip_mono (b := b)).1 (Nat.le_of_eq h1.symm)
      exact skip_ne a j (by omega)
    rw [hne]
    rfl
  have e3 : sumTo (fun i => sumTo (fun j => if adjB (adjL (L.length - 1) (conX L a b)) i j then 1 else 0) (L.length - 1)) (L.length - 1)
      ≤ sumTo (fun i => sumTo (fun j => oneB (adjB L (skipN b i) (skipN b j)) + oneB (skipN b i == a && skipN b j != a && adjB L b (skipN b j)) + oneB (skipN b j == a && skipN b i != a && adjB L b (skipN b i))) (L.length - 1)) (L.length - 1) := by
    refine sumTo_mono (fun i hi => sumTo_mono (fun j hj => ?_))
    rw [adjB_adjL hX hi (by omega)]
    unfold conX
    rw [decide_eq_true hi, decide_eq_true hj]
    simp only [Bool.true_and]
    exact oneB_or _ _ _
  have e4 : sumTo (fun i => sumTo (fun j => oneB (adjB L (skipN b i) (skipN b j)) + oneB (skipN b i == a && skipN b j != a && adjB L b (skipN b j)) + oneB (skipN b j == a && skipN b i != a && adjB L b (skipN b i))) (L.length - 1)) (L.length - 1)
      = sumTo (fun i => sumTo (fun j => oneB (adjB L (skipN b i) (skipN b j))) (L.length - 1)) (L.length - 1) + 2 * sumTo (fun j => oneB (skipN b j != a && adjB L b (skipN b j))) (L.length - 1) := by
    have hal : a < L.length - 1 := by omega
    rw [sumTo_congr (g := fun i => sumTo (fun j => oneB (adjB L (skipN b i) (skipN b j))) (L.length - 1) + sumTo (fun j => oneB (skipN b i == a && skipN b j != a && adjB L b (skipN b j))) (L.length - 1) + sumTo (fun j => oneB (skipN b j == a && skipN b i != a && adjB L b (skipN b i))) (L.length - 1)) (fun i hi => by rw [sumTo_add, sumTo_add]), sumTo_add, sumTo_add]
    have hsk : ∀ i, i ≠ a → (skipN b i == a) = false := fun i hi => by
      rw [beq_eq_false_iff_ne]
      intro e
      have h1 : skipN b i = skipN b a := by rw [e, skip_low ha]
      have h2 := (skip_mono (b := b)).1 (Nat.le_of_eq h1)
      have h3 := (skip_mono (b := b)).1 (Nat.le_of_eq h1.symm)
      omega
    have hsa : (skipN b a == a) = true := by rw [skip_low ha, beq_iff_eq]
    rw [sumTo_one (fun i => sumTo (fun j => oneB (skipN b i == a && skipN b j != a && adjB L b (skipN b j))) (L.length - 1)) hal (fun i hi hne => sumTo_zero (fun j _ => by rw [hsk i hne]; rfl))]
    rw [sumTo_congr (f := fun i => sumTo (fun j => oneB (skipN b j == a && skipN b i != a && adjB L b (skipN b i))) (L.length - 1)) (g := fun i => oneB (skipN b i != a && adjB L b (skipN b i))) (fun i hi => by
      rw [sumTo_one _ hal (fun j hj hne => by rw [hsk j hne]; rfl), hsa]
      rfl)]
    rw [hsa]
    simp only [Bool.true_and]
    omega
  omega
end

theorem conL_sym (L : List (List Int)) (u x : Int) (h : edgeB L u x = edgeB L x u) : conL L u x = conL L x u := by
  unfold conL
  rw [show min u x = min x u from Int.min_comm u x, show max u x = max x u from Int.max_comm u x, h]

end Go.Proofs.YtjbfoiolcpigfaaDoor
