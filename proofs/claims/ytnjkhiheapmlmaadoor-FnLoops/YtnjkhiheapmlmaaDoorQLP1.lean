/- The texts LP1, LP2, joined. -/
import Derived.Test.YtnjkhiheapmlmaaDoorQPO6
import Derived.Test.YtnjkhiheapmlmaaDoorQFP1
import Derived.Test.YtnjkhiheapmlmaaDoorQLL3
import Derived.Test.YtnjkhiheapmlmaaDoorQV1
import Derived.Test.YtnjkhiheapmlmaaDoorQS4
import Derived.Test.YtnjkhiheapmlmaaDoorSD2
import Derived.Test.YtnjkhiheapmlmaaDoorQM4
import Derived.Test.YtnjkhiheapmlmaaDoorQD5
import Derived.Test.YtnjkhiheapmlmaaDoorQK2
import Derived.Test.YtnjkhiheapmlmaaDoorQFrameD
import Derived.Test.YtnjkhiheapmlmaaDoorQLater
import Derived.Deep.RegionHeld3
import Derived.BigQuiet

/- Plain facts: a graph has a loop just where it has more edges than a forest with its parts; the least loop has no chord. -/
namespace Go.Proofs.YtnjkhiheapmlmaaDoor

theorem sumTo_swap (f : Nat → Nat → Nat) (n m : Nat) : sumTo (fun i => sumTo (f i) m) n = sumTo (fun j => sumTo (fun i => f i j) n) m := by
  induction n with
  | zero => rw [sumTo]; exact (sumTo_zero (fun _ _ => rfl)).symm
  | succ n ih =>
    rw [sumTo, ih, ← sumTo_add]
    exact sumTo_congr (fun j _ => rfl)
theorem sumTo_most {f g : Nat → Nat} {n : Nat} (h : ∀ i, i < n → f i ≤ g i) : sumTo f n ≤ sumTo g n := by
  induction n with
  | zero => exact Nat.le_refl _
  | succ n ih =>
    have h1 := ih (fun i hi => h i (by omega))
    have h2 := h n (by omega)
    simp only [sumTo]; omega
theorem sumTo_same {f g : Nat → Nat} {n : Nat} (h : ∀ i, i < n → f i ≤ g i) (e : sumTo f n = sumTo g n) : ∀ i, i < n → f i = g i := by
  induction n with
  | zero => intro i hi; omega
  | succ n ih =>
    have h1 := sumTo_most (n := n) (fun i hi => h i (by omega))
    have h2 := h n (by omega)
    simp only [sumTo] at e
    intro i hi
    rcases Nat.lt_succ_iff_lt_or_eq.1 hi with h3 | rfl
    · exact ih (fun i hi => h i (by omega)) (by omega) i h3
    · omega
theorem sumTo_pick {n p : Nat} (hp : p < n) (c : Nat) : sumTo (fun i => if i = p then c else 0) n = c := by
  induction n with
  | zero => omega
  | succ n ih =>
    rw [sumTo]
    by_cases e : n = p
    · rw [if_pos e, sumTo_zero (fun i hi => if_neg (by omega)), Nat.zero_add]
    · rw [if_neg e, ih (by omega), Nat.add_zero]
theorem sumTo_two {n p q : Nat} (hp : p < n) (hq : q < n) (hne : p ≠ q) : sumTo (fun i => if i = p ∨ i = q then 1 else 0) n = 2 := by
  rw [sumTo_congr (g := fun i => (if i = p then 1 else 0) + (if i = q then 1 else 0)) (fun i _ => ?_), sumTo_add, sumTo_pick hp, sumTo_pick hq]
  by_cases e1 : i = p
  · subst e1; simp [hne]
  · by_cases e2 : i = q
    · subst e2; simp [e1]
    · simp [e1, e2]
theorem sumTo_ge2 {f : Nat → Nat} {n p q : Nat} (hp : p < n) (hq : q < n) (hne : p ≠ q) : f p + f q ≤ sumTo f n := by
  have := sumTo_most (f := fun i => (if i = p then f p else 0) + (if i = q then f q else 0)) (g := f) (n := n) (fun i _ => by
    by_cases e1 : i = p
    · subst e1; simp [hne]
    · by_cases e2 : i = q
      · subst e2; simp [e1]
      · simp [e1, e2])
  rwa [sumTo_add, sumTo_pick hp, sumTo_pick hq] at this
theorem sumTo_ge1 {f : Nat → Nat} {n p : Nat} (hp : p < n) : f p ≤ sumTo f n := by
  have := sumTo_most (f := fun i => if i = p then f p else 0) (g := f) (n := n) (fun i _ => by
    by_cases e1 : i = p
    · subst e1; simp
    · simp [e1])
  rwa [sumTo_pick hp] at this
theorem sumTo_some {f : Nat → Nat} {n : Nat} (h : sumTo f n ≠ 0) : ∃ p, p < n ∧ f p ≠ 0 := by
  rcases Classical.em (∃ p, p < n ∧ f p ≠ 0) with hx | hx
  · exact hx
  · exact absurd (sumTo_zero (fun i hi => Classical.not_not.1 (fun hne => hx ⟨i, hi, hne⟩))) h
theorem sumTo_pair {f : Nat → Nat} {n : Nat} (h1 : ∀ i, f i ≤ 1) (h : 2 ≤ sumTo f n) : ∃ p q, p < q ∧ q < n ∧ f p ≠ 0 ∧ f q ≠ 0 := by
  induction n with
  | zero => simp [sumTo] at h
  | succ n ih =>
    rw [sumTo] at h
    by_cases hn : f n = 0
    · obtain ⟨p, q, a, b, c, d⟩ := ih (by omega)
      exact ⟨p, q, a, by omega, c, d⟩
    · obtain ⟨p, hp, hf⟩ := sumTo_some (f := f) (n := n) (by have := h1 n; omega)
      exact ⟨p, n, hp, by omega, hf, hn⟩
/-- Each edge is counted at the end that is later. -/
theorem orient (a : Nat → Nat → Nat) (r : Nat → Nat) (n : Nat) (hd : ∀ u, u < n → a u u = 0) (hs : ∀ u v, u < n → v < n → a u v = a v u) (hr : ∀ u v, u < n → v < n → r u = r v → u = v) :
    sumTo (fun v => sumTo (a v) n) n = 2 * sumTo (fun v => sumTo (fun u => if r u < r v then a v u else 0) n) n := by
  have e1 : sumTo (fun v => sumTo (fun u => if r u < r v then a v u else 0) n) n = sumTo (fun v => sumTo (fun u => if r v < r u then a v u else 0) n) n := by
    rw [sumTo_swap]
    exact sumTo_congr fun u hu => sumTo_congr fun v hv => by rw [hs v u hv hu]
  have e2 : sumTo (fun v => sumTo (a v) n) n = sumTo (fun v => sumTo (fun u => if r u < r v then a v u else 0) n) n + sumTo (fun v => sumTo (fun u => if r v < r u then a v u else 0) n) n := by
    rw [← sumTo_add]
    refine sumTo_congr fun v hv => ?_
    rw [← sumTo_add]
    refine sumTo_congr fun u hu => ?_
    rcases Nat.lt_trichotomy (r u) (r v) with h | h | h
    · rw [if_pos h, if_neg (by omega)]; rfl
    · rw [if_neg (by omega), if_neg (by omega), hr u v hu hv h, hd v hv]
    · rw [if_neg (by omega), if_pos h]; omega
  omega
theorem filter_count (p : Nat → Bool) (n : Nat) : ((List.range n).filter p).length = sumTo (fun v => if p v = true then 1 else 0) n := by
  induction n with
  | zero => rfl
  | succ n ih =>
    rw [List.range_succ, List.filter_append, List.length_append, ih, sumTo]
    by_cases h : p n = true
    · rw [List.filter_cons_of_pos h, if_pos h]; rfl
    · rw [List.filter_cons_of_neg h, if_neg h]; rfl

section
variable {L : List (List Int)}
theorem near_adj (hG : GraphP L) : nearB L = adjB L := (nearM_eq hG).symm
theorem cut_near (hG : GraphP L) {s u : Nat} (hs : s < L.length) (hu : u < L.length) (h : adjB L s u = true) : nearB (cutG L s u) = unA (adjB L) s u := by
  have hG' := unA_graph hG s u
  rw [near_adj (cutG_graph hG hs hu h)]
  funext i j
  rw [cutG_adj hG hs hu h, Bool.eq_iff_iff]
  constructor
  · intro hh
    have hrg := adjB_range hG' hh
    rw [adjL_len] at hrg
    have hz := hG.1
    rwa [adjB_adjL hG' hrg.1 (by omega)] at hh
  · intro hh
    have h1 : adjB L i j = true := by unfold unA at hh; rw [Bool.and_eq_true] at hh; exact hh.1
    have hrg := adjB_range hG h1
    have hz := hG.1
    rw [adjB_adjL hG' hrg.1 (by omega)]
    exact hh
theorem unA_other {A : Nat → Nat → Bool} {s u a b : Nat} (h : A a b = true) (h1 : ¬ (a = s ∧ b = u)) (h2 : ¬ (a = u ∧ b = s)) : unA A s u a b = true := by
  unfold unA
  rw [h, Bool.true_and, Bool.not_eq_true', ← Bool.not_eq_true]
  simp only [Bool.or_eq_true, Bool.and_eq_true, beq_iff_eq]
  rintro (h | h)
  · exact h1 h
  · exact h2 h
theorem unA_same (A : Nat → Nat → Bool) (s u : Nat) : unA A s u s u = false := by simp [unA]
theorem unA_sub {A : Nat → Nat → Bool} {s u a b : Nat} (h : unA A s u a b = true) : A a b = true := by unfold unA at h; rw [Bool.and_eq_true] at h; exact h.1
theorem unA_symm {A : Nat → Nat → Bool} (hA : ∀ a b, A a b = A b a) (s u : Nat) : ∀ a b, unA A s u a b = unA A s u b a := by
  intro a b
  unfold unA
  rw [hA a b]
  congr 2
  rw [Bool.or_comm, Bool.and_comm (a == u), Bool.and_comm (a == s)]

/-- How far a vertex is from the least one of its part. -/
noncomputable def depN (L : List (List Int)) (v : Nat) : Nat := (dOf (nearB L) (allS L.length) (headN (nearB L) L.length v) v).toNat
theorem dep_at (hG : GraphP L) {v : Nat} (hv : v < L.length) : AtD (nearB L) (allS L.length) (headN (nearB L) L.length v) (depN L v) v := by
  obtain ⟨_, hr, _, _⟩ := headN_spec (nearB_symm hG) hG.1.2 hv
  obtain ⟨k, hk⟩ := reach_at.1 (hr.symm (nearB_symm hG))
  unfold depN
  rw [dOf_at hk]
  exact hk
theorem dep_eq (hG : GraphP L) {v h k : Nat} (hv : v < L.length) (hh : headN (nearB L) L.length v = h) (hk : AtD (nearB L) (allS L.length) h k v) : depN L v = k := by
  subst hh; exact atD_unique (dep_at hG hv) hk
theorem near_head (hG : GraphP L) {u v : Nat} (h : nearB L u v = true) : u < L.length ∧ v < L.length ∧ headN (nearB L) L.length v = headN (nearB L) L.length u := by
  have hr := h
  rw [near_adj hG] at hr
  have hrg := adjB_range hG hr
  exact ⟨hrg.1, hrg.2, headN_eq (nearB_symm hG) hG.1.2 ⟨1, (allS_iff _ _).2 hrg.2, u, ⟨rfl, (allS_iff _ _).2 hrg.1⟩, h⟩⟩
/-- A place for each vertex: by its depth, then by its number. -/
noncomputable def rnkN (L : List (List Int)) (v : Nat) : Nat := 16 * depN L v + v
theorem rnk_inj (hG : GraphP L) (u v : Nat) (hu : u < L.length) (hv : v < L.length) (h : rnkN L u = rnkN L v) : u = v := by
  have := hG.1
  unfold rnkN at h
  omega
/-- How many neighbours come ahead of a vertex. -/
noncomputable def upN (L : List (List Int)) (v : Nat) : Nat := sumTo (fun u => if rnkN L u < rnkN L v then adj L v u else 0) L.length
theorem up_one {v u : Nat} : (if rnkN L u < rnkN L v then adj L v u else 0) ≤ 1 := by
  unfold adj
  split
  · split <;> omega
  · omega
theorem up_at {v u : Nat} : (if rnkN L u < rnkN L v then adj L v u else 0) ≠ 0 ↔ rnkN L u < rnkN L v ∧ nearB L v u = true := by
  unfold adj nearB
  split
  · rename_i h
    split
    · rename_i h2; exact ⟨fun _ => ⟨h, h2⟩, fun _ => by omega⟩
    · rename_i h2; exact ⟨fun h3 => absurd rfl h3, fun h3 => absurd h3.2 h2⟩
  · rename_i h; exact ⟨fun h3 => absurd rfl h3, fun h3 => absurd h3.1 h⟩
theorem up_head (hG : GraphP L) {v : Nat} (hv : v < L.length) (hh : headN (nearB L) L.length v = v) : upN L v = 0 := by
  refine sumTo_zero fun u hu => Classical.not_not.1 fun hne => ?_
  obtain ⟨h1, h2⟩ := up_at.1 hne
  obtain ⟨_, _, h3⟩ := near_head hG h2
  have d0 : depN L v = 0 := dep_eq hG hv hh (atD_zero.2 ⟨rfl, (allS_iff _ _).2 hv⟩)
  have hz := hG.1
  have d1 : depN L u = 0 := by unfold rnkN at h1; omega
  have := dep_at hG hu
  rw [d1, h3, hh] at this
  have := (atD_zero.1 this).1
  subst this
  rw [near_adj hG, adjB_self hG] at h2
  cases h2
theorem up_pos (hG : GraphP L) {v : Nat} (hv : v < L.length) (hh : headN (nearB L) L.length v ≠ v) : 1 ≤ upN L v := by
  have hat := dep_at hG hv
  obtain ⟨k, hk⟩ : ∃ k, depN L v = k := ⟨_, rfl⟩
  rw [hk] at hat
  cases k with
  | zero => exact absurd (atD_zero.1 hat).1.symm hh
  | succ k =>
    obtain ⟨x, hx, ha⟩ := atD_pred hat
    rw [nearB_symm hG] at ha
    obtain ⟨_, hxl, h3⟩ := near_head hG ha
    have hd := dep_eq hG hxl h3 hx
    have hz := hG.1
    have := sumTo_ge1 (f := fun u => if rnkN L u < rnkN L v then adj L v u else 0) (n := L.length) hxl
    have h0 := (up_at (L := L) (v := v) (u := x)).2 ⟨by unfold rnkN; omega, ha⟩
    unfold upN
    omega
theorem edges_up (hG : GraphP L) : (edgesTo L L.length).length = sumTo (upN L) L.length := by
  have h1 := handshake (adj L) L.length (adj_diag hG) (adj_symm hG)
  have h2 := orient (adj L) (rnkN L) L.length (adj_diag hG) (adj_symm hG) (rnk_inj hG)
  rw [← edgesTo_count hG _ (Nat.le_refl _)] at h1
  have : sumTo (upN L) L.length = sumTo (fun v => sumTo (fun u => if rnkN L u < rnkN L v then adj L v u else 0) L.length) L.length := rfl
  omega
theorem parts_len (hG : GraphP L) : (partsL L).length + sumTo (fun v => if headN (nearB L) L.length v = v then 0 else 1) L.length = L.length := by
  rw [partsL_heads hG, List.length_map]
  unfold headsTo
  rw [filter_count, ← sumTo_add, sumTo_congr (g := fun _ => 1) (fun v _ => ?_)]
  · rw [sumTo_const]; omega
  · by_cases e : headN (nearB L) L.length v = v
    · rw [if_pos (by rw [beq_iff_eq]; exact e), if_pos e]
    · rw [if_neg (by rw [beq_iff_eq]; exact e), if_neg e]
/-- As many edges as a forest has, just where no vertex has two ahead of it. -/
theorem forest_up (hG : GraphP L) : ((edgesTo L L.length).length : Int) = (L.length : Int) - ((partsL L).length : Int) ↔ ∀ v, v < L.length → upN L v ≤ 1 := by
  have h1 := edges_up hG
  have h2 := parts_len hG
  have hle : ∀ v, v < L.length → (if headN (nearB L) L.length v = v then 0 else 1) ≤ upN L v := fun v hv => by
    split
    · omega
    · rename_i h; exact up_pos hG hv h
  constructor
  · intro h v hv
    have := sumTo_same hle (by omega) v hv
    rw [← this]
    split <;> omega
  · intro h
    have : sumTo (fun v => if headN (nearB L) L.length v = v then 0 else 1) L.length = sumTo (upN L) L.length := sumTo_congr fun v hv => by
      split
      · rename_i e; exact (up_head hG hv e).symm
      · rename_i e
        have a := up_pos hG hv e
        have b := h v hv
        omega
    omega
/-- Down to the least vertex without one that is no nearer to it. -/
theorem down_cut {A A' : Nat → Nat → Bool} {S : Nat → Bool} {h v : Nat} (hA : ∀ a b, a ≠ v → b ≠ v → A a b = true → A' a b = true) : ∀ {k x : Nat}, AtD A S h k x → (∀ j, j < k → ¬ AtD A S h j v) → x ≠ v → Reach A' S h x := by
  intro k
  induction k with
  | zero => intro x hx _ _; obtain ⟨rfl, hs⟩ := atD_zero.1 hx; exact Reach.refl hs
  | succ k ih =>
    intro x hx hn hne
    obtain ⟨y, hy, ha⟩ := atD_pred hx
    have hyv : y ≠ v := fun e => hn k (by omega) (by rw [← e]; exact hy)
    obtain ⟨j, hj⟩ := ih hy (fun j hj => hn j (by omega)) hyv
    exact ⟨j + 1, wk_in hx.1, y, hj, hA y x hyv hne ha⟩
/-- Where two come ahead of a vertex, there is a way round. -/
theorem up_two (hG : GraphP L) {v : Nat} (hv : v < L.length) (h : 2 ≤ upN L v) : ∃ s u, adjB L s u = true ∧ Reach (unA (adjB L) s u) (allS L.length) s u := by
  obtain ⟨p, q, hpq, _, h1, h2⟩ := sumTo_pair (fun u => up_one) h
  obtain ⟨r1, n1⟩ := up_at.1 h1
  obtain ⟨r2, n2⟩ := up_at.1 h2
  obtain ⟨_, p1, hd1⟩ := near_head hG n1
  obtain ⟨_, p2, hd2⟩ := near_head hG n2
  have hz := hG.1
  have hself : ∀ x, nearB L v x = true → x ≠ v := fun x hx e => by subst e; rw [near_adj hG, adjB_self hG] at hx; cases hx
  have key : ∀ x, x < L.length → rnkN L x < rnkN L v → nearB L v x = true → headN (nearB L) L.length x = headN (nearB L) L.length v → Reach (unA (adjB L) v p) (allS L.length) (headN (nearB L) L.length v) x := fun x hx hr hn hd => by
    have hat := dep_at hG hx
    rw [hd] at hat
    refine down_cut (v := v) (fun a b ha hb hab => ?_) hat (fun j hj hjv => ?_) (hself x hn)
    · rw [near_adj hG] at hab
      exact unA_other hab (fun e => ha e.1) (fun e => hb e.2)
    · have := dep_eq hG hv rfl hjv
      unfold rnkN at hr
      omega
  have k1 := key p p1 r1 n1 hd1
  have k2 := key q p2 r2 n2 hd2
  refine ⟨v, p, by rw [← near_adj hG]; exact n1, ?_⟩
  have hs := unA_symm (adjB_sym hG) v p
  have st : Reach (unA (adjB L) v p) (allS L.length) v q := ⟨1, (allS_iff _ _).2 p2, v, ⟨rfl, (allS_iff _ _).2 hv⟩, unA_other (by rw [← near_adj hG]; exact n2) (fun e => by omega) (fun e => hself p n1 e.1.symm)⟩
  exact st.trans ((k2.symm hs).trans k1)

theorem pick_mem (b c : List Int) : pickB b c = b ∨ (pickB b c = c ∧ c ≠ []) := by
  unfold pickB
  split
  · rename_i h; exact .inr ⟨rfl, h.1⟩
  · exact .inl rfl
theorem pick_left {b c : List Int} (h : b ≠ []) : pickB b c ≠ [] ∧ (pickB b c).length ≤ b.length := by
  unfold pickB
  split
  · rename_i hh
    rcases hh.2 with e | e
    · exact absurd e h
    · exact ⟨hh.1, by omega⟩
  · exact ⟨h, Nat.le_refl _⟩
theorem pick_right {b c : List Int} (h : c ≠ []) : pickB b c ≠ [] ∧ (pickB b c).length ≤ c.length := by
  unfold pickB
  split
  · exact ⟨h, Nat.le_refl _⟩
  · rename_i hh
    have hb : b ≠ [] := fun e => hh ⟨h, .inl e⟩
    exact ⟨hb, Nat.le_of_not_lt fun hlt => hh ⟨h, .inr hlt⟩⟩
theorem bestRow_mem (L : List (List Int)) (s : Nat) (b : List Int) : ∀ k, bestRow L s b k = b ∨ ∃ j, j < k ∧ bestRow L s b k = candN (rowM L) L.length s (nth (nthR L s) j).toNat ∧ bestRow L s b k ≠ [] := by
  intro k
  induction k with
  | zero => exact .inl rfl
  | succ k ih =>
    rw [bestRow]
    rcases pick_mem (bestRow L s b k) (candN (rowM L) L.length s (nth (nthR L s) k).toNat) with e | ⟨e, hne⟩
    · rw [e]
      rcases ih with h | ⟨j, hj, h, hn⟩
      · exact .inl h
      · exact .inr ⟨j, by omega, h, hn⟩
    · rw [e]; exact .inr ⟨k, by omega, rfl, hne⟩
theorem bestRow_le (L : List (List Int)) (s : Nat) (b : List Int) : ∀ k, (b ≠ [] → bestRow L s b k ≠ [] ∧ (bestRow L s b k).length ≤ b.length) ∧ ∀ j, j < k → candN (rowM L) L.length s (nth (nthR L s) j).toNat ≠ [] → bestRow L s b k ≠ [] ∧ (bestRow L s b k).length ≤ (candN (rowM L) L.length s (nth (nthR L s) j).toNat).length := by
  intro k
  induction k with
  | zero => exact ⟨fun h => ⟨h, Nat.le_refl _⟩, fun j hj => absurd hj (by omega)⟩
  | succ k ih =>
    rw [bestRow]
    refine ⟨fun h => ?_, fun j hj hc => ?_⟩
    · obtain ⟨h1, h2⟩ := ih.1 h
      have := pick_left (c := candN (rowM L) L.length s (nth (nthR L s) k).toNat) h1
      exact ⟨this.1, by omega⟩
    · rcases Nat.lt_succ_iff_lt_or_eq.1 hj with h | rfl
      · obtain ⟨h1, h2⟩ := ih.2 j h hc
        have := pick_left (c := candN (rowM L) L.length s (nth (nthR L s) k).toNat) h1
        exact ⟨this.1, by omega⟩
      · exact pick_right hc
theorem bestTo_mem (L : List (List Int)) : ∀ k, bestTo L k = [] ∨ ∃ s j, s < k ∧ j < (nthR L s).length ∧ bestTo L k = candN (rowM L) L.length s (nth (nthR L s) j).toNat ∧ bestTo L k ≠ [] := by
  intro k
  induction k with
  | zero => exact .inl rfl
  | succ k ih =>
    rw [bestTo]
    rcases bestRow_mem L k (bestTo L k) (nthR L k).length with e | ⟨j, hj, e, hne⟩
    · rw [e]
      rcases ih with h | ⟨s, j, hs, hj, h, hn⟩
      · exact .inl h
      · exact .inr ⟨s, j, by omega, hj, h, hn⟩
    · exact .inr ⟨k, j, by omega, hj, e, hne⟩
theorem bestTo_le (L : List (List Int)) : ∀ k s j, s < k → j < (nthR L s).length → candN (rowM L) L.length s (nth (nthR L s) j).toNat ≠ [] → bestTo L k ≠ [] ∧ (bestTo L k).length ≤ (candN (rowM L) L.length s (nth (nthR L s) j).toNat).length := by
  intro k
  induction k with
  | zero => intro s j hs; omega
  | succ k ih =>
    intro s j hs hj hc
    rw [bestTo]
    rcases Nat.lt_succ_iff_lt_or_eq.1 hs with h | rfl
    · obtain ⟨h1, h2⟩ := ih s j h hj hc
      have := (bestRow_le L k (bestTo L k) (nthR L k).length).1 h1
      exact ⟨this.1, by omega⟩
    · exact (bestRow_le L s (bestTo L s) (nthR L s).length).2 j hj hc
theorem edge_idx (hG : GraphP L) {s u : Nat} (h : adjB L s u = true) : s < L.length ∧ ∃ j, j < (nthR L s).length ∧ (nth (nthR L s) j).toNat = u := by
  have hrg := adjB_range hG h
  have hz := hG.1
  rw [← adjB_has hG hrg.1 (by omega), hasB_iff] at h
  obtain ⟨j, hj, e⟩ := h
  exact ⟨hrg.1, j, hj, by rw [e, Int.toNat_natCast]⟩
theorem idx_edge (hG : GraphP L) {s j : Nat} (hs : s < L.length) (hj : j < (nthR L s).length) : adjB L s (nth (nthR L s) j).toNat = true := by
  obtain ⟨h1, h2, _⟩ := graph_range hG hs (nth_mem hj)
  have hz := hG.1
  rw [← adjB_has hG hs (by omega), hasB_iff]
  exact ⟨j, hj, by omega⟩
theorem cand_at (hG : GraphP L) {s u k : Nat} (h : adjB L s u = true) (hk : AtD (unA (adjB L) s u) (allS L.length) s k u) :
    candN (rowM L) L.length s u = (s : Int) :: (wayD (rowM (cutG L s u)) (ringN (unA (adjB L) s u) (allS L.length) s) k u k).take k ∧ (candN (rowM L) L.length s u).length = k + 1 := by
  have hrg := adjB_range hG h
  have hb := back_yes hG hrg.1 hrg.2 h (by rw [cut_near hG hrg.1 hrg.2 h]; exact hk)
  rw [cut_near hG hrg.1 hrg.2 h] at hb
  have hne : backN (rowM L) L.length s u ≠ [] := fun e => by
    have := wayD_len (rowM (cutG L s u)) (ringN (unA (adjB L) s u) (allS L.length) s) k u k
    rw [← hb, e] at this
    simp at this
  rw [candN_yes hne, hb, wayD_len, Nat.add_sub_cancel]
  refine ⟨rfl, ?_⟩
  rw [List.length_cons, List.length_take, wayD_len]
  omega
theorem cand_none (hG : GraphP L) {s u : Nat} (h : adjB L s u = true) (hk : ∀ k, ¬ AtD (unA (adjB L) s u) (allS L.length) s k u) : candN (rowM L) L.length s u = [] := by
  have hrg := adjB_range hG h
  refine candN_no (back_no hG hrg.1 hrg.2 h ?_)
  rw [cut_near hG hrg.1 hrg.2 h, dOf_none hk]
  omega
/-- What the least loop is. -/
theorem ll_cases (hG : GraphP L) : (llL L = [] ∧ ∀ s u, adjB L s u = true → ¬ Reach (unA (adjB L) s u) (allS L.length) s u) ∨
    ∃ s u k, adjB L s u = true ∧ AtD (unA (adjB L) s u) (allS L.length) s k u ∧ llL L = (s : Int) :: (wayD (rowM (cutG L s u)) (ringN (unA (adjB L) s u) (allS L.length) s) k u k).take k ∧ (llL L).length = k + 1 ∧
      ∀ s' u' k', adjB L s' u' = true → Wk (unA (adjB L) s' u') (allS L.length) s' k' u' → k ≤ k' := by
  have hl : llL L = bestTo L L.length := by unfold llL; rw [if_pos hG]
  rw [hl]
  have hle : ∀ s' u' k', adjB L s' u' = true → AtD (unA (adjB L) s' u') (allS L.length) s' k' u' → bestTo L L.length ≠ [] ∧ (bestTo L L.length).length ≤ k' + 1 := fun s' u' k' ha hat => by
    obtain ⟨hs, j, hj, e⟩ := edge_idx hG ha
    have hc := cand_at hG ha hat
    have := bestTo_le L L.length s' j hs hj (by rw [e, hc.1]; simp)
    rw [e, hc.2] at this
    exact this
  rcases bestTo_mem L L.length with e | ⟨s, j, hs, hj, e, hne⟩
  · refine .inl ⟨e, fun s' u' ha hr => ?_⟩
    obtain ⟨k', hk'⟩ := reach_at.1 hr
    exact (hle s' u' k' ha hk').1 e
  · have ha := idx_edge hG hs hj
    obtain ⟨u, hu⟩ : ∃ u, u = (nth (nthR L s) j).toNat := ⟨_, rfl⟩
    rw [← hu] at ha e
    rcases Classical.em (∃ k, AtD (unA (adjB L) s u) (allS L.length) s k u) with ⟨k, hk⟩ | hno
    · have hc := cand_at hG ha hk
      refine .inr ⟨s, u, k, ha, hk, by rw [e]; exact hc.1, by rw [e]; exact hc.2, fun s' u' k' ha' hw => ?_⟩
      obtain ⟨m, hm, hat⟩ := wk_atD hw
      have := (hle s' u' m ha' hat).2
      rw [e, hc.2] at this
      omega
    · exact absurd (e.trans (cand_none hG ha (fun k hk => hno ⟨k, hk⟩))) hne
/-- A loop, and no chord in it. -/
structure LoopF (L : List (List Int)) (k : Nat) (f : Nat → Nat) : Prop where
  two : 2 ≤ k
  lt : ∀ i, i ≤ k → f i < L.length
  inj : ∀ i j, i < j → j ≤ k → f i ≠ f j
  step : ∀ i, i < k → adjB L (f i) (f (i + 1)) = true
  last : adjB L (f k) (f 0) = true
  chord : ∀ i j, i < j → j ≤ k → adjB L (f i) (f j) = true → j = i + 1 ∨ (i = 0 ∧ j = k)
theorem ll_loop (hG : GraphP L) (h : llL L ≠ []) : ∃ (k : Nat) (f : Nat → Nat), LoopF L k f ∧ llL L = (List.range (k + 1)).map (fun i => (f i : Int)) := by
  have hz := hG.1
  rcases ll_cases hG with ⟨e, _⟩ | ⟨s, u, k, ha, hk, he, hlen, hmin⟩
  · exact absurd e h
  · have hrg := adjB_range hG ha
    have hG' := cutG_graph hG hrg.1 hrg.2 ha
    have hA : ∀ a b, unA (adjB L) s u a b = unA (adjB L) s u b a := unA_symm (adjB_sym hG) s u
    have hM : ∀ i, rowM (cutG L s u) i < 65536 := fun i => rowM_lt (by have := hG'.1; omega) (fun v hv => (hG'.2.1 v hv).1) i
    have hMA : ∀ a b, unA (adjB L) s u a b = (rowM (cutG L s u) a).testBit b := fun a b => by rw [← cut_near hG hrg.1 hrg.2 ha, near_adj hG']; rfl
    have hS : ∀ x, allS L.length x = true → x < 16 := allS16 hz.2
    obtain ⟨c, hc⟩ : ∃ c, c = curD (rowM (cutG L s u)) (ringN (unA (adjB L) s u) (allS L.length) s) k u := ⟨_, rfl⟩
    have hst := fun i hi => (curD_step hA hM hMA hS hk i hi).1
    have hnr := fun i (hi : i < k) => curD_near hA hM hMA hS hk hi
    rw [← hc] at hst hnr
    have c0 : c 0 = u := by rw [hc]; rfl
    have ck : c k = s := by
      have := hst k (Nat.le_refl _)
      rw [Nat.sub_self] at this
      exact (atD_zero.1 this).1
    have hsu : s ≠ u := fun e => by rw [e, adjB_self hG] at ha; cases ha
    have hk0 : k ≠ 0 := fun e => by subst e; exact hsu (ck ▸ c0 ▸ rfl)
    have hk1 : k ≠ 1 := fun e => by
      subst e
      obtain ⟨_, x, ⟨hx, _⟩, hxa⟩ := hk.1
      subst hx
      rw [unA_same] at hxa
      cases hxa
    obtain ⟨f, hf⟩ : ∃ f : Nat → Nat, f = fun i => if i = 0 then s else c (i - 1) := ⟨_, rfl⟩
    have f0 : f 0 = s := by rw [hf]; rfl
    have fs : ∀ i, f (i + 1) = c i := fun i => by rw [hf]; simp
    have flt : ∀ i, i ≤ k → f i < L.length := fun i hi => by
      cases i with
      | zero => rw [f0]; exact hrg.1
      | succ i => rw [fs]; exact (allS_iff _ _).1 (wk_in (hst i (by omega)).1)
    have finj : ∀ i j, i < j → j ≤ k → f i ≠ f j := fun i j hij hj e => by
      cases j with
      | zero => omega
      | succ j =>
        rw [fs] at e
        have h2 := hst j (by omega)
        cases i with
        | zero =>
          rw [f0] at e
          have h1 : AtD (unA (adjB L) s u) (allS L.length) s 0 s := atD_zero.2 ⟨rfl, (allS_iff _ _).2 hrg.1⟩
          rw [← e] at h2
          have := atD_unique h1 h2
          omega
        | succ i =>
          rw [fs] at e
          have h1 := hst i (by omega)
          rw [e] at h1
          have := atD_unique h1 h2
          omega
    have fstep : ∀ i, i < k → adjB L (f i) (f (i + 1)) = true := fun i hi => by
      cases i with
      | zero => rw [f0, fs, c0]; exact ha
      | succ i => rw [fs, fs]; exact unA_sub (hnr i (by omega))
    refine ⟨k, f, ⟨by omega, flt, finj, fstep, ?_, fun i j hij hj hch => ?_⟩, ?_⟩
    · obtain ⟨m, rfl⟩ : ∃ m, k = m + 1 := ⟨k - 1, by omega⟩
      rw [fs, f0, ← ck]
      exact unA_sub (hnr m (by omega))
    · rcases Classical.em (j = i + 1 ∨ (i = 0 ∧ j = k)) with hx | hx
      · exact hx
      · exfalso
        have fS : ∀ p, p ≤ k → allS L.length (f p) = true := fun p hp => (allS_iff _ _).2 (flt p hp)
        have hi : ∀ p q, p ≤ k → q ≤ k → f p = f q → p = q := fun p q hp hq e => by
          rcases Nat.lt_trichotomy p q with h | h | h
          · exact absurd e (finj p q h hq)
          · exact h
          · exact absurd e.symm (finj q p h hp)
        have fA : ∀ p, p < k → unA (adjB L) (f i) (f j) (f p) (f (p + 1)) = true := fun p hp => by
          refine unA_other (fstep p hp) (fun e => ?_) (fun e => ?_)
          · have a := hi p i (by omega) (by omega) e.1
            have b := hi (p + 1) j (by omega) hj e.2
            exact hx (.inl (by omega))
          · have a := hi p j (by omega) (by omega) e.1
            have b := hi (p + 1) i (by omega) (by omega) e.2
            omega
        have hw := wk_sub fS fA (i := i) (j - i) (by omega)
        rw [show i + (j - i) = j from by omega] at hw
        have := hmin (f i) (f j) (j - i) hch hw
        exact hx (.inr (by omega))
    · refine nth_ext (by rw [hlen]; simp) (fun i hi => ?_)
      rw [hlen] at hi
      have hr : nth ((List.range (k + 1)).map (fun i => (f i : Int))) i = (f i : Int) := by
        rw [nth_eq (by simpa using hi)]; simp
      rw [hr, he]
      cases i with
      | zero => rw [f0]; simp [nth]
      | succ i =>
        rw [fs]
        have : nth ((s : Int) :: (wayD (rowM (cutG L s u)) (ringN (unA (adjB L) s u) (allS L.length) s) k u k).take k) (i + 1) = nth ((wayD (rowM (cutG L s u)) (ringN (unA (adjB L) s u) (allS L.length) s) k u k).take k) i := by simp [nth]
        rw [this, nth_take (by omega), wayD_nth _ _ _ _ (by omega), hc]
theorem max_at (r : Nat → Nat) : ∀ k, ∃ p, p ≤ k ∧ ∀ q, q ≤ k → r q ≤ r p := by
  intro k
  induction k with
  | zero => exact ⟨0, Nat.le_refl _, fun q hq => by obtain rfl : q = 0 := by omega
                                                    exact Nat.le_refl _⟩
  | succ k ih =>
    obtain ⟨p, hp, h⟩ := ih
    by_cases hr : r p ≤ r (k + 1)
    · refine ⟨k + 1, Nat.le_refl _, fun q hq => ?_⟩
      by_cases e : q = k + 1
      · subst e; exact Nat.le_refl _
      · have := h q (by omega); omega
    · refine ⟨p, by omega, fun q hq => ?_⟩
      by_cases e : q = k + 1
      · subst e; omega
      · exact h q (by omega)
/-- The one behind and the one ahead, in a loop. -/
def nextP (k p : Nat) : Nat := if p = k then 0 else p + 1
def prevP (k p : Nat) : Nat := if p = 0 then k else p - 1
namespace LoopF
variable {k : Nat} {f : Nat → Nat}
theorem next (h : LoopF L k f) (hG : GraphP L) {p : Nat} (hp : p ≤ k) : adjB L (f p) (f (nextP k p)) = true ∧ nextP k p ≤ k := by
  unfold nextP
  split
  · rename_i e; subst e; exact ⟨h.last, by omega⟩
  · exact ⟨h.step p (by omega), by omega⟩
theorem prev (h : LoopF L k f) (hG : GraphP L) {p : Nat} (hp : p ≤ k) : adjB L (f p) (f (prevP k p)) = true ∧ prevP k p ≤ k := by
  unfold prevP
  split
  · rename_i e; subst e; exact ⟨by rw [adjB_sym hG]; exact h.last, by omega⟩
  · have := h.step (p - 1) (by omega)
    rw [show p - 1 + 1 = p from by omega, adjB_sym hG] at this
    exact ⟨this, by omega⟩
theorem apart (h : LoopF L k f) {p : Nat} (hp : p ≤ k) : nextP k p ≠ prevP k p := by
  have := h.two
  unfold nextP prevP
  split <;> split <;> omega
theorem one (h : LoopF L k f) {p q : Nat} (hp : p ≤ k) (hq : q ≤ k) (e : f p = f q) : p = q := by
  rcases Nat.lt_trichotomy p q with h1 | h1 | h1
  · exact absurd e (h.inj p q h1 hq)
  · exact h1
  · exact absurd e.symm (h.inj q p h1 hp)
theorem only (h : LoopF L k f) (hG : GraphP L) {p q : Nat} (hp : p ≤ k) (hq : q ≤ k) (ha : adjB L (f p) (f q) = true) : q = nextP k p ∨ q = prevP k p := by
  rcases Nat.lt_trichotomy p q with h1 | h1 | h1
  · rcases h.chord p q h1 hq ha with e | ⟨e1, e2⟩
    · left; unfold nextP; rw [if_neg (by omega)]; exact e
    · right; unfold prevP; rw [if_pos e1]; exact e2
  · subst h1; rw [adjB_self hG] at ha; cases ha
  · rw [adjB_sym hG] at ha
    rcases h.chord q p h1 hp ha with e | ⟨e1, e2⟩
    · right; unfold prevP; rw [if_neg (by omega)]; omega
    · left; unfold nextP; rw [if_pos e2]; exact e1
/-- The last vertex of a loop has two ahead of it. -/
theorem up (h : LoopF L k f) (hG : GraphP L) : ∃ v, v < L.length ∧ 2 ≤ upN L v := by
  obtain ⟨p, hp, hm⟩ := max_at (fun i => rnkN L (f i)) k
  obtain ⟨a1, a2⟩ := h.next hG hp
  obtain ⟨b1, b2⟩ := h.prev hG hp
  have hne := h.apart hp
  have lt : ∀ q, q ≤ k → adjB L (f p) (f q) = true → (if rnkN L (f q) < rnkN L (f p) then adj L (f p) (f q) else 0) ≠ 0 := fun q hq ha => by
    rw [up_at, near_adj hG]
    refine ⟨?_, ha⟩
    have h1 : rnkN L (f q) ≤ rnkN L (f p) := hm q hq
    rcases Nat.lt_or_eq_of_le h1 with h2 | h2
    · exact h2
    · have := rnk_inj hG _ _ (h.lt q hq) (h.lt p hp) h2
      rw [this, adjB_self hG] at ha
      cases ha
  refine ⟨f p, h.lt p hp, ?_⟩
  have h1 := lt _ a2 a1
  have h2 := lt _ b2 b1
  have := sumTo_ge2 (f := fun u => if rnkN L u < rnkN L (f p) then adj L (f p) u else 0) (n := L.length) (h.lt _ a2) (h.lt _ b2) (fun e => hne (h.one a2 b2 e))
  unfold upN
  omega
end LoopF
/-- No loop, just where there are as many edges as in a forest. -/
theorem forest_iff (hG : GraphP L) : llL L = [] ↔ ((edgesTo L L.length).length : Int) = (L.length : Int) - ((partsL L).length : Int) := by
  rw [forest_up hG]
  constructor
  · intro e v hv
    rcases ll_cases hG with ⟨_, hno⟩ | ⟨s, u, k, _, _, _, hl, _⟩
    · refine Nat.le_of_not_lt fun hlt => ?_
      obtain ⟨s, u, ha, hr⟩ := up_two hG hv hlt
      exact hno s u ha hr
    · rw [e] at hl; simp at hl
  · intro h
    refine Classical.not_not.1 fun hne => ?_
    obtain ⟨k, f, hf, _⟩ := ll_loop hG hne
    obtain ⟨v, hv, h2⟩ := hf.up hG
    have := h v hv
    omega
/-- What is asked of the least loop where there is one. -/
theorem ll_induced (hG : GraphP L) (h : llL L ≠ []) : loopB L (llL L) = true ∧ (llL L).length ≤ 16 ∧ indB L (bothL (llL L) []) = true ∧ manyN (pickL L (bothL (llL L) []) true) = ((llL L).length : Int) := by
  have hz := hG.1
  obtain ⟨k, f, hf, hl⟩ := ll_loop hG h
  have hlen : (llL L).length = k + 1 := by rw [hl]; simp
  have hnth : ∀ i, i ≤ k → nth (llL L) i = (f i : Int) := fun i hi => by
    rw [hl, nth_eq (by simp; omega)]; simp
  have hk2 := hf.two
  have h16 : (llL L).length ≤ 16 := by
    have := bestTo_len hz.2 L.length
    unfold llL; rw [if_pos hG]; exact this
  have hap : ∀ p, p < (llL L).length → (0 ≤ nth (llL L) p ∧ nth (llL L) p < (L.length : Int)) ∧ hasB ((llL L).take p) (nth (llL L) p) = false := fun p hp => by
    rw [hlen] at hp
    rw [hnth p (by omega)]
    refine ⟨⟨by omega, by have := hf.lt p (by omega); omega⟩, ?_⟩
    rw [← Bool.not_eq_true, hasB_iff]
    rintro ⟨j, hj, e⟩
    rw [List.length_take, hlen] at hj
    rw [nth_take (by omega), hnth j (by omega)] at e
    exact hf.inj j p (by omega) (by omega) (by omega)
  have hkn : k + 1 ≤ L.length := by rw [← hlen]; exact apart_le L.length (llL L) hap
  refine ⟨?_, h16, ?_⟩
  · unfold loopB
    rw [decide_eq_true hG, hlen, decide_eq_true (p := 3 ≤ k + 1) (by omega), decide_eq_true (p := k + 1 ≤ L.length) hkn, decide_eq_true (p := PathP L (llL L)), hnth 0 (by omega), Nat.add_sub_cancel, hnth k (Nat.le_refl _), Int.toNat_natCast]
    · simp only [Bool.and_self, Bool.true_and]
      have := hf.last
      rw [adjB_sym hG, ← near_adj hG] at this
      exact this
    · intro i hi
      have hi' := hi
      rw [hlen] at hi'
      refine ⟨?_, (hap i hi).2, fun h0 => ?_⟩
      · have := (hap i hi).1
        unfold inB
        rw [decide_eq_true_iff]
        omega
      · rw [hnth (i - 1) (by omega), hnth i (by omega), Int.toNat_natCast]
        have := hf.step (i - 1) (by omega)
        rw [show i - 1 + 1 = i from by omega, ← near_adj hG] at this
        exact this
  obtain ⟨m, hm⟩ : ∃ m, m = bothM (llL L) [] := ⟨_, rfl⟩
  have hbit : ∀ v, m.testBit v = true ↔ ∃ i, i ≤ k ∧ f i = v := fun v => by
    rw [hm]
    unfold bothM
    rw [pm_bit, Bool.and_eq_true, decide_eq_true_iff, Bool.or_eq_true, hasB_iff, hasB_iff]
    constructor
    · rintro ⟨_, ⟨i, hi, e⟩ | ⟨i, hi, _⟩⟩
      · rw [hlen] at hi
        rw [hnth i (by omega)] at e
        exact ⟨i, by omega, by omega⟩
      · simp at hi
    · rintro ⟨i, hi, e⟩
      have := hf.lt i hi
      exact ⟨by omega, .inl ⟨i, by omega, by rw [hnth i hi, e]⟩⟩
  obtain ⟨xs, hxs⟩ : ∃ xs, xs = listM m := ⟨_, rfl⟩
  have hb : bothL (llL L) [] = xs := by rw [hxs, hm]; rfl
  have hset : SetP xs L.length := by rw [hxs]; exact listM_setP (fun u hu => by obtain ⟨i, hi, e⟩ := (hbit u).1 hu; rw [← e]; exact hf.lt i hi)
  have hxm : ∀ x, x ∈ xs ↔ ∃ i, i ≤ k ∧ (f i : Int) = x := fun x => by
    rw [hxs, listM_mem]
    constructor
    · rintro ⟨v, _, hv, e⟩
      obtain ⟨i, hi, e2⟩ := (hbit v).1 hv
      exact ⟨i, hi, by omega⟩
    · rintro ⟨i, hi, e⟩
      exact ⟨f i, by have := hf.lt i hi; omega, (hbit _).2 ⟨i, hi, rfl⟩, e⟩
  have hxn : xs.Nodup := hset.pairwise.imp (fun h => by omega)
  have hfn : ((List.range (k + 1)).map (fun i => (f i : Int))).Nodup := by
    rw [List.nodup_iff_pairwise_ne, List.pairwise_map]
    refine List.Pairwise.imp_of_mem ?_ (List.nodup_iff_pairwise_ne.1 List.nodup_range)
    intro a b ha hb hne e
    rw [List.mem_range] at ha hb
    exact hne (hf.one (by omega) (by omega) (by omega))
  have hxl : xs.length = k + 1 := by
    have h1 := hxn.length_le_of_subset (l₂ := (List.range (k + 1)).map (fun i => (f i : Int))) (fun x hx => by
      obtain ⟨i, hi, e⟩ := (hxm x).1 hx
      rw [List.mem_map]; exact ⟨i, by rw [List.mem_range]; omega, e⟩)
    have h2 := hfn.length_le_of_subset (l₂ := xs) (fun x hx => by
      rw [List.mem_map] at hx
      obtain ⟨i, hi, e⟩ := hx
      rw [List.mem_range] at hi
      exact (hxm x).2 ⟨i, by omega, e⟩)
    simp at h1 h2
    omega
  have hat : ∀ i, i < k + 1 → ∃ p, p ≤ k ∧ nth xs i = (f p : Int) := fun i hi => by
    obtain ⟨p, hp, e⟩ := (hxm _).1 (nth_mem (xs := xs) (i := i) (by omega))
    exact ⟨p, hp, e.symm⟩
  have hto : ∀ p, p ≤ k → ∃ i, i < k + 1 ∧ nth xs i = (f p : Int) := fun p hp => by
    obtain ⟨i, hi, e⟩ := List.getElem_of_mem ((hxm _).2 ⟨p, hp, rfl⟩)
    exact ⟨i, by omega, by rw [nth_eq hi]; exact e⟩
  have hxi : ∀ i j, i < k + 1 → j < k + 1 → nth xs i = nth xs j → i = j := fun i j hi hj e => by
    rw [nth_eq (by omega), nth_eq (by omega)] at e
    have hpw := List.pairwise_iff_getElem.1 hset.pairwise
    rcases Nat.lt_trichotomy i j with h | h | h
    · have := hpw i j (by omega) (by omega) h; omega
    · exact h
    · have := hpw j i (by omega) (by omega) h; omega
  rw [hb]
  refine ⟨?_, ?_⟩
  · unfold indB setB
    rw [decide_eq_true hG, decide_eq_true hset, decide_eq_true (p := 0 < xs.length) (by omega)]
    rfl
  · have hP := pick_graph (xs := xs) hG (by omega) (by omega)
    have he := bits_edges hP
    have hs : sumTo (fun i => bitsTo (rowM (adjL xs.length (pickA L xs)) i) 16) 16 = 2 * (k + 1) := by
      have e16 : 16 = (k + 1) + (16 - (k + 1)) := by omega
      have := sumTo_split (fun i => bitsTo (rowM (adjL xs.length (pickA L xs)) i) 16) (k + 1) (16 - (k + 1)) (fun i h1 _ => by
        have : rowM (adjL xs.length (pickA L xs)) i = 0 := by unfold rowM; exact if_neg (by rw [adjL_len]; omega)
        show bitsTo (rowM (adjL xs.length (pickA L xs)) i) 16 = 0
        rw [this, bitsTo_zero])
      rw [← e16] at this
      rw [this, sumTo_congr (g := fun _ => 2) (fun i hi => ?_), sumTo_const]
      rw [rowM_adjL hP (by omega), bitsTo_sum]
      obtain ⟨p, hp, e⟩ := hat i hi
      obtain ⟨a1, a2⟩ := hf.next hG hp
      obtain ⟨b1, b2⟩ := hf.prev hG hp
      obtain ⟨j1, j1l, j1e⟩ := hto _ a2
      obtain ⟨j2, j2l, j2e⟩ := hto _ b2
      have hne : j1 ≠ j2 := fun e2 => by
        rw [e2, j2e] at j1e
        exact hf.apart hp (hf.one a2 b2 (by omega))
      rw [← sumTo_two (n := 16) (p := j1) (q := j2) (by omega) (by omega) hne]
      refine sumTo_congr fun j hj => ?_
      have : (pm (pickA L xs i)).testBit j = true ↔ (j = j1 ∨ j = j2) := by
        rw [pm_bit, Bool.and_eq_true, decide_eq_true_iff]
        unfold pickA
        rw [Bool.and_eq_true, Bool.and_eq_true, decide_eq_true_iff, decide_eq_true_iff, e, Int.toNat_natCast]
        constructor
        · rintro ⟨_, ⟨_, h2⟩, h3⟩
          obtain ⟨q, hq, eq⟩ := hat j (by omega)
          rw [eq, Int.toNat_natCast] at h3
          rcases hf.only hG hp hq h3 with h4 | h4
          · left; exact hxi j j1 (by omega) j1l (by rw [eq, j1e, h4])
          · right; exact hxi j j2 (by omega) j2l (by rw [eq, j2e, h4])
        · rintro (h4 | h4)
          · subst h4; exact ⟨hj, ⟨by omega, by omega⟩, by rw [j1e, Int.toNat_natCast]; exact a1⟩
          · subst h4; exact ⟨hj, ⟨by omega, by omega⟩, by rw [j2e, Int.toNat_natCast]; exact b1⟩
      by_cases h5 : j = j1 ∨ j = j2
      · rw [if_pos h5, if_pos (this.2 h5)]
      · rw [if_neg h5, if_neg (fun h6 => h5 (this.1 h6))]
    unfold pickL manyN edgesL
    rw [if_pos rfl, if_pos hP, hlen]
    rw [hs] at he
    omega
theorem ll_bad (hG : ¬ GraphP L) : llL L = [] := by unfold llL; rw [if_neg hG]
end

end Go.Proofs.YtnjkhiheapmlmaaDoor

/- The walk of FnLoops. -/
namespace Go.Proofs.YtnjkhiheapmlmaaDoor
open Go.RowKit

/-- Behind the making of the loop's own graph: its box. -/
def CutL (W : World) (R : List (List Int)) (p b : Value) (wx : World) : Prop :=
  ∃ bo a n c, p = .pointer (some ⟨bo, 0, none⟩) ∧ b = .bool true ∧ BoxAt wx bo (.slice a n c) ∧ GridAt wx (.slice a n c) R ∧ Below W.heap.size W wx
theorem CutL.last {W w3 : World} {R : List (List Int)} {a : Option Addr} {n c B : Nat} (hb : Below W.heap.size W w3) (ho : OwnGrid 2 28 w3 B (.slice a n c) R) :
    CutL W R (.pointer (some ⟨w3.heap.size, 0, none⟩)) (.bool true) (w3.alloc (.cells #[.slice a n c] 26)) :=
  ⟨w3.heap.size, a, n, c, rfl, rfl, BoxAt.new w3 _ _, (ho.keep ((Below.refl _ _).alloc (Nat.le_refl _) _)).grid, hb.alloc hb.size _⟩
theorem CutL.first {W w3 : World} {R : List (List Int)} {a : Option Addr} {n c B bo : Nat} (hb : Below W.heap.size W w3) (ho : OwnGrid 2 28 w3 B (.slice a n c) R) (hbx : BoxAt w3 bo (.slice none 0 0)) (hlt : bo < B) (hbo : W.heap.size ≤ bo) :
    CutL W R (.pointer (some ⟨bo, 0, none⟩)) (.bool true) (w3.setCell ⟨bo, 0, none⟩ (.slice a n c)) :=
  ⟨bo, a, n, c, rfl, rfl, hbx.set _, (ho.setBelow hlt _).grid, hb.setCell hbo _⟩

set_option maxHeartbeats 8000000 in
set_option maxRecDepth 100000 in
theorem lawLoops (a0 : Option Addr) (n0 c0 : Nat) (w : World) (hb : n0 ≤ 4096 → BytesAt w w.heap.size (.slice a0 n0 c0) n0) (hT : TabAt w) :
    Calls Tryd.prog 4 #[.slice a0 n0 c0] w fun e w' => e = .returned (.bool true) ∧ Below w.heap.size w w' := by
  have HBY := Lib.hid hb
  clear hb
  go_enter Tryd.func4, Tryd.ntmps4
  go_wp2_with fail
  refine (big_any _ _ _ _).mono ?_
  rintro e w' ⟨rfl, rfl⟩
  by_cases hbig : (4096 : Int) < (n0 : Int)
  · rw [decide_eq_true hbig]
    go_wp2
    go_ret
    exact ⟨rfl, Below.refl _ _⟩
  rw [decide_eq_false hbig]
  go_wp2_with fail
  refine (drawLeastLoop_any n0 _ _ (HBY.out (by omega))).mono ?_
  rintro e w1 ⟨L, m, a, cap, rfl, ho1, hb1⟩
  obtain rfl : m = L.length := by
    obtain ⟨a3, c3, e3⟩ := ho1.grid.slice
    simp only [Value.slice.injEq] at e3
    exact e3.2.1
  have hl := ho1.grid.len
  unfold maxLen at hl
  have hst : Below w1.heap.size w1 (w1.alloc (.cells #[.slice a L.length cap] 26)) := (Below.refl _ _).alloc (Nat.le_refl _) _
  have HG1 := Lib.hid (ho1.grid.keep hst)
  have HB1 := Lib.hid (hb1.alloc hb1.size (.cells #[.slice a L.length cap] 26))
  clear ho1 hb1 hst HBY hbig
  go_wp2_with fail
  refine (implLeastLoop_any _ L _ HG1.out (hT.keep HB1.out)).mono ?_
  rintro e w2 ⟨n2, a2, c2, rfl, ho2, hb2⟩
  have HN2 : Hid (n2 = (llL L).length) := by
    obtain ⟨a3, c3, e3⟩ := ho2.row.slice
    simp only [Value.slice.injEq] at e3
    exact e3.2.1
  have kb2 : w2.cell? ⟨w1.heap.size, 0, none⟩ = some (.slice a L.length cap) := by rw [hb2.cell (by simp)]; go_simp
  have HG2 : Hid (∀ w', Below w2.heap.size w2 w' → GridAt w' (.slice a L.length cap) L) := fun w' h => (HG1.out.keep hb2).keep h
  have HS2 : Hid (∀ w', Below w2.heap.size w2 w' → RowAt w' (.slice a2 n2 c2) (llL L)) := fun w' h => (ho2.keep h).row
  have HB2 : Hid (Below w.heap.size w w2) := HB1.out.trans (hb2.mono HB1.out.size)
  have KB : Hid (∀ w', Below w2.heap.size w2 w' → w'.cell? ⟨w1.heap.size, 0, none⟩ = some (.slice a L.length cap)) := fun w' h => cell_keep h kb2
  clear ho2 hb2 HG1 HB1 hT
  go_wp2_with fail
  refine (specLeastLoop_any _ L _ (HG2.out _ (Below.refl _ _))).mono ?_
  rintro e w3 ⟨n3, a3, c3, rfl, ho3, hb3⟩
  have HO3 := Lib.hid ho3.row
  have HB3 := Lib.hid hb3
  clear ho3 hb3 kb2
  go_wp2_with fail
  refine (likeInts_any _ _ _ _ _ (HS2.out _ HB3.out) HO3.out).mono ?_
  rintro e w4 ⟨rfl, hd4⟩
  rw [decide_eq_true rfl]
  have HB4 : Hid (Below w2.heap.size w2 w4) := HB3.out.trans (hd4.below _)
  have kb4 := KB.out _ HB4.out
  clear hd4 HO3 HB3
  go_wp2_with fail
  refine (specGraphOk_any _ L _ (HG2.out _ HB4.out)).mono ?_
  rintro e w5 ⟨rfl, hb5⟩
  have HB5 : Hid (Below w2.heap.size w2 w5) := HB4.out.trans (hb5.mono HB4.out.size)
  have kb5 := KB.out _ HB5.out
  clear hb5 kb4 HB4
  have HF5 : Hid (Below w.heap.size w w5) := HB2.out.trans (HB5.out.mono HB2.out.size)
  by_cases hG : GraphP L
  · rw [decide_eq_true hG]
    have hz := hG.1
    have HG := Lib.hid hG
    have hPA : (partsL L).length ≤ 1048576 := (partsL_small L).1
    have HFI := Lib.hid (forest_iff hG)
    have HML : Hid (manyN L = ((edgesTo L L.length).length : Int)) := by show _ = _; unfold manyN edgesL; rw [if_pos HG.out]
    obtain ⟨PA, hPAe⟩ : ∃ PA, (partsL L).length = PA := ⟨_, rfl⟩
    rw [hPAe] at hPA
    have HPA := Lib.hid hPAe
    have hwP : IntKind.i64.wrap ((L.length : Int) - (PA : Int)) = (L.length : Int) - (PA : Int) := IntWalk.i64_in _ (by omega)
    obtain ⟨E, hE⟩ : ∃ E, manyN L = E := ⟨_, rfl⟩
    have HE := Lib.hid hE
    obtain ⟨t, ht⟩ : ∃ t, t = decide (llL L = []) := ⟨_, rfl⟩
    have qE : (E == (L.length : Int) - (PA : Int)) = t := by
      rw [ht, ← hE, HML.out, ← hPAe, Bool.eq_iff_iff, beq_iff_eq, decide_eq_true_iff]
      exact HFI.out.symm
    have HTT := Lib.hid ht
    have KB5 : Hid (∀ w', Below w5.heap.size w5 w' → w'.cell? ⟨w1.heap.size, 0, none⟩ = some (.slice a L.length cap)) := fun w' h => KB.out _ (HB5.out.trans (h.mono HB5.out.size))
    have HG5 : Hid (∀ w', Below w5.heap.size w5 w' → GridAt w' (.slice a L.length cap) L) := fun w' h => HG2.out _ (HB5.out.trans (h.mono HB5.out.size))
    clear hG hPAe hE ht HFI
    go_wp2_with fail
    go_cut [5] (fun tv wy => tv = .bool t ∧ Below w5.heap.size w5 wy)
    case first =>
      go_region_held3 (fun wy => wy.cell? ⟨w1.heap.size, 0, none⟩ = some (.slice a L.length cap)) (first | exact kb5 | with_reducible exact KB5.out _ (Below.refl _ _).drew | with_reducible exact KB5.out _ HBM.out | with_reducible exact KB5.out _ HBP.out)
        (first
          | (go_at_call 18; refine (specManyEdges_any _ L _ (HG5.out _ (by first | with_reducible exact HBP.out | with_reducible exact (Below.refl _ _).drew))).mono ?_; rintro e wm ⟨rfl, hbm⟩; have HBM : Hid (Below w5.heap.size w5 wm) := (by first | exact HBP.out.trans (hbm.mono HBP.out.size) | exact (Below.refl _ _).drew.trans hbm); rw [HE.out]; clear hbm)
          | (go_at_call 19; refine (specPartsOf_any _ L _ (HG5.out _ (by first | with_reducible exact HBM.out | with_reducible exact (Below.refl _ _).drew))).mono ?_; rintro e wp ⟨np, ap, cp, rfl, hop, hbp⟩; have HBP : Hid (Below w5.heap.size w5 wp) := (by first | exact HBM.out.trans (hbp.mono HBM.out.size) | exact (Below.refl _ _).drew.trans hbp); obtain ⟨a', c', ea⟩ := hop.grid.slice; simp only [Value.slice.injEq] at ea; obtain ⟨rfl, rfl, rfl⟩ := ea; rw [HPA.out]; clear hbp hop))
      all_goals (
        go_wp2_with fail
        go_meet
        first | exact ⟨rfl, HBP.out⟩ | exact ⟨rfl, HBM.out⟩)
    case rest =>
      rename World => w7
      obtain ⟨rfl, hb7⟩ := hcut
      have HB7 : Hid (Below w2.heap.size w2 w7) := HB5.out.trans (hb7.mono HB5.out.size)
      have HF7 : Hid (Below w.heap.size w w7) := HB2.out.trans (HB7.out.mono HB2.out.size)
      have kb7 := KB.out _ HB7.out
      clear hb7 kb5 qE hwP HPA HE HML
      cases t with
      | true =>
        have hll : llL L = [] := of_decide_eq_true HTT.out.symm
        obtain rfl : n2 = 0 := by rw [HN2.out, hll]; rfl
        clear hll
        go_wp2
        go_ret
        exact ⟨rfl, HF7.out⟩
      | false =>
        have hll : llL L ≠ [] := of_decide_eq_false HTT.out.symm
        obtain ⟨f1, f2, f3, f4⟩ := ll_induced HG.out hll
        have hn2 : 0 < n2 ∧ n2 ≤ 16 := by rw [HN2.out]; exact ⟨List.length_pos_iff.2 hll, f2⟩
        obtain ⟨hn2a, hn2b⟩ := hn2
        have q2 : ((n2 : Int) == 0) = false := by rw [beq_eq_false_iff_ne]; omega
        have HF1 := Lib.hid f1
        have HF3 := Lib.hid f3
        have HF2 : Hid ((llL L).length ≤ 1000) := Nat.le_trans f2 (by omega)
        obtain ⟨X, hX⟩ : ∃ X, bothL (llL L) [] = X := ⟨_, rfl⟩
        have HX := Lib.hid hX
        rw [hX] at f4
        have HF4 : Hid (manyN (pickL L X true) = (n2 : Int)) := by show _ = _; rw [f4, HN2.out]
        obtain ⟨PP, hPP⟩ : ∃ PP, pickL L X true = PP := ⟨_, rfl⟩
        have HPP := Lib.hid hPP
        have KB7 : Hid (∀ w', Below w7.heap.size w7 w' → w'.cell? ⟨w1.heap.size, 0, none⟩ = some (.slice a L.length cap)) := fun w' h => KB.out _ (HB7.out.trans (h.mono HB7.out.size))
        have HG7 : Hid (∀ w', Below w7.heap.size w7 w' → GridAt w' (.slice a L.length cap) L) := fun w' h => HG2.out _ (HB7.out.trans (h.mono HB7.out.size))
        have HS7 : Hid (∀ w', Below w7.heap.size w7 w' → RowAt w' (.slice a2 n2 c2) (llL L)) := fun w' h => HS2.out _ (HB7.out.trans (h.mono HB7.out.size))
        have HE0 : Hid (∀ (w' : World) (k : Nat), RowAt w' (.slice (some ⟨k, 0, none⟩) 0 0) []) := fun w' k => ⟨by simp, by simp, .inl ⟨rfl, _, _, rfl, fun h => by cases h⟩⟩
        clear hll f1 f2 f3 f4 hX hPP HTT
        go_wp2_with fail
        have HY : Hid (∀ o, Below w7.heap.size w7 (w7.alloc o).drew) := fun o => ((Below.refl _ _).alloc (Nat.le_refl _) _).drew
        have HYY : Hid (∀ o o', Below w7.heap.size w7 ((w7.alloc o).alloc o').drew) := fun o o' => (((Below.refl _ _).alloc (Nat.le_refl _) _).alloc (by simp) _).drew
        rw [HX.out] at HF3
        go_cut [6, 7] (fun p b wx => CutL w7 PP p b wx)
        case first =>
          go_region_held3 (fun wy => wy.cell? ⟨w1.heap.size, 0, none⟩ = some (.slice a L.length cap)) (first | exact kb7 | with_reducible exact KB7.out _ (Below.refl _ _).drew | with_reducible exact KB7.out _ (HY.out _) | with_reducible exact KB7.out _ (HYY.out _ _) | with_reducible exact KB7.out _ HBA.out | with_reducible exact KB7.out _ (HBA.out.alloc HBA.out.size _) | with_reducible exact KB7.out _ HBB.out | with_reducible exact KB7.out _ (HBB.out.alloc HBB.out.size _) | exact KB7.out _ (HBB.out.setCell hboA _))
            (first
              | (go_at_call 21; refine (w5Both_any _ _ (llL L) [] _ (HS7.out _ (by first | with_reducible exact HY.out _ | with_reducible exact HYY.out _ _)) (HE0.out _ _) HF2.out (by simp)).mono ?_; rintro e wA ⟨nA, aA, cA, rfl, hoA, hbA⟩; rw [HX.out] at hoA; have HBA : Hid (Below w7.heap.size w7 wA) := (by first | exact (HY.out _).trans (hbA.mono (HY.out _).size) | exact (HYY.out _ _).trans (hbA.mono (HYY.out _ _).size)); have HOA : Hid (∀ w', Below wA.heap.size wA w' → RowAt w' (.slice aA nA cA) X) := (fun w' h => (hoA.keep h).row); have HGA : Hid (∀ w', Below wA.heap.size wA w' → GridAt w' (.slice a L.length cap) L) := (fun w' h => HG7.out _ (HBA.out.trans (h.mono HBA.out.size))); (first | (have bxA : BoxAt wA (w7.heap.size + 1) (.slice none 0 0) := (by have := ((BoxAt.new (w7.alloc (.cells #[] 2)) (.slice none 0 0) 26).keep (Below.refl _ _).drew).keep hbA; rwa [size_alloc1] at this); have hboA : w7.heap.size ≤ w7.heap.size + 1 := Nat.le_succ _) | (have bxA : BoxAt wA w7.heap.size (.slice none 0 0) := (((BoxAt.new w7 (.slice none 0 0) 26).keep ((Below.refl _ _).alloc (Nat.le_refl _) _)).keep (Below.refl _ _).drew).keep hbA; have hboA : w7.heap.size ≤ w7.heap.size := Nat.le_refl _) | skip); clear hoA hbA)
              | (go_at_call 20; refine (implInduced_any _ _ L X _ (HGA.out _ (by first | with_reducible exact Below.refl _ _ | with_reducible exact (Below.refl _ _).alloc (Nat.le_refl _) _)) (HOA.out _ (by first | with_reducible exact Below.refl _ _ | with_reducible exact (Below.refl _ _).alloc (Nat.le_refl _) _))).mono ?_; rintro e wB ⟨nB, aB, cB, rfl, hoB, hbB⟩; rw [HF3.out] at hoB; rw [HPP.out] at hoB; rw [HF3.out]; have HBB : Hid (Below w7.heap.size w7 wB) := (by first | exact HBA.out.trans (hbB.mono HBA.out.size) | exact (HBA.out.alloc HBA.out.size _).trans (hbB.mono (HBA.out.alloc HBA.out.size _).size)); have OB := Lib.hid hoB; (first | (have bxB := bxA.keep hbB; have hlB := bxA.lt) | (have bxB := (BoxAt.new wA (.slice none 0 0) 26).keep hbB; have hlB : wA.heap.size < (wA.alloc (.cells #[.slice none 0 0] 26)).heap.size := (by rw [size_alloc1]; exact Nat.lt_succ_self _); have hboA : w7.heap.size ≤ wA.heap.size := HBA.out.size) | skip); (first | (have kx := bxB.1; have fx := bxB.2) | skip); clear hoB hbB))
          all_goals (
            go_wp2_with fail
            go_meet
            first | exact CutL.first HBB.out OB.out bxB hlB hboA | exact CutL.last HBB.out OB.out)
        case rest =>
          rename World => w8
          obtain ⟨bo, a8, n8, c8, rfl, rfl, hbx8, hg8, hb8⟩ := hcut
          have HB8 : Hid (Below w2.heap.size w2 w8) := HB7.out.trans (hb8.mono HB7.out.size)
          have KX : Hid (∀ w', Below w8.heap.size w8 w' → w'.cell? ⟨bo, 0, none⟩ = some (.slice a8 n8 c8)) := fun w' h => (hbx8.keep h).1
          have GX : Hid (∀ w', Below w8.heap.size w8 w' → GridAt w' (.slice a8 n8 c8) PP) := fun w' h => hg8.keep h
          have kb8 := KB.out _ HB8.out
          have qq : ((n2 : Int) == (n2 : Int)) = true := by simp
          have HF4P : Hid (manyN PP = (n2 : Int)) := by show _ = _; rw [← HPP.out]; exact HF4.out
          clear hbx8 hg8 hb8 kb7
          go_wp2_with fail
          refine (implLoopOk_any _ _ L _ _ (HG2.out _ HB8.out) (HS2.out _ HB8.out)).mono ?_
          rintro e w9 ⟨rfl, hb9⟩
          rw [HF1.out]
          have HB9 := Lib.hid hb9
          have kx9 := KX.out _ hb9
          clear hb9 kb8
          go_wp2_with fail
          refine (implManyEdges_any _ PP _ (GX.out _ HB9.out)).mono ?_
          rintro e w10 ⟨rfl, hb10⟩
          rw [HF4P.out]
          have HFIN : Hid (Below w.heap.size w w10) := HB2.out.trans (((HB8.out.trans (HB9.out.mono HB8.out.size)).trans (hb10.mono (Nat.le_trans HB8.out.size HB9.out.size))).mono HB2.out.size)
          clear hb10 kx9
          go_wp2
          go_ret
          exact ⟨rfl, HFIN.out⟩
  · rw [decide_eq_false hG]
    obtain rfl : n2 = 0 := by rw [HN2.out, ll_bad hG]; rfl
    clear hG
    go_wp2
    go_ret
    exact ⟨rfl, HF5.out⟩

end Go.Proofs.YtnjkhiheapmlmaaDoor
