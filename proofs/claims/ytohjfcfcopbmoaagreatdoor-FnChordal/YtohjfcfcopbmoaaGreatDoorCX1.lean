/- Plain facts: a graph without a chordless loop of four or more vertices has a vertex whose neighbours are near each other, whatever is left of it; so the vertices can all go; and where they can, there is no such loop. -/
import Derived.Test.YtohjfcfcopbmoaaGreatDoorW1
import Derived.Test.YtohjfcfcopbmoaaGreatDoorQEC3

namespace Go.Proofs.YtohjfcfcopbmoaaGreatDoor
open Go.RowKit

/-- There is no chordless loop of four or more vertices. -/
def NoLoop (A : Nat → Nat → Bool) : Prop := ∀ xs, LoopF A xs → 4 ≤ xs.length → noCh A xs = false
theorem noCh_iff (A : Nat → Nat → Bool) (xs : List Int) : noCh A xs = true ↔ ∀ i k, i < xs.length → k + 1 < i → ¬ (k = 0 ∧ i + 1 = xs.length) → A (vtxN xs k) (vtxN xs i) = false := by
  classical
  unfold noCh
  exact decide_eq_true_iff
/-- A list of numbers, each below 16, as a loop. -/
def asL (f : Nat → Nat) (m : Nat) : List Int := (List.range m).map (fun i => (f i : Int))
theorem asL_len (f : Nat → Nat) (m : Nat) : (asL f m).length = m := by simp [asL]
theorem asL_vtx (f : Nat → Nat) {m i : Nat} (h : i < m) : vtxN (asL f m) i = f i := by
  unfold vtxN asL
  rw [nth_eq (by simpa using h)]
  simp

section
variable {A : Nat → Nat → Bool} {n : Nat} (hA : RelP n A) (hn : n ≤ 16)
include hA hn

/-- The neighbours of v that touch a part of the rest are near each other. -/
theorem cut_clique (hno : NoLoop A) {T : Nat → Bool} {v u0 x y : Nat} (hT : ∀ t, T t = true → t < n ∧ t ≠ v ∧ A v t = false)
    (hx : A v x = true) (hy : A v y = true) {c d i j : Nat} (hc : Wk A T u0 i c) (hd : Wk A T u0 j d) (hcx : A c x = true) (hdy : A d y = true) (hxy : x ≠ y) : A x y = true := by
  classical
  cases hq : A x y with
  | true => rfl
  | false =>
    exfalso
    have hvx : v ≠ x := fun e => by subst e; rw [hA.self] at hx; cases hx
    have hvy : v ≠ y := fun e => by subst e; rw [hA.self] at hy; cases hy
    obtain ⟨S, hS⟩ : ∃ S : Nat → Bool, S = fun s => T s || s == x || s == y := ⟨_, rfl⟩
    have hST : ∀ s, S s = true ↔ T s = true ∨ s = x ∨ s = y := fun s => by rw [hS]; simp [or_assoc]
    -- a way from x to y
    have hback : ∀ (k w : Nat), Wk A T u0 k w → ∀ (p e : Nat), Wk A S x p w → Wk A S x (p + k) u0 := by
      intro k
      induction k with
      | zero => intro w h p e hp; obtain ⟨rfl, _⟩ := h; exact hp
      | succ k ih =>
        intro w h p e hp
        obtain ⟨hw, z, hz, hzw⟩ := h
        have := ih z hz (p + 1) 0 ⟨(hST z).2 (Or.inl (wk_in hz)), w, hp, by rw [hA.sym]; exact hzw⟩
        rw [show p + 1 + k = p + (k + 1) by omega] at this
        exact this
    have hfwd : ∀ (k w : Nat), Wk A T u0 k w → ∀ p, Wk A S x p u0 → Wk A S x (p + k) w := by
      intro k
      induction k with
      | zero => intro w h p hp; obtain ⟨rfl, _⟩ := h; exact hp
      | succ k ih =>
        intro w h p hp
        obtain ⟨hw, z, hz, hzw⟩ := h
        exact ⟨(hST w).2 (Or.inl hw), z, ih z hz p hp, hzw⟩
    have h0 : Wk A S x 0 x := ⟨rfl, (hST x).2 (Or.inr (Or.inl rfl))⟩
    have h1 : Wk A S x 1 c := ⟨(hST c).2 (Or.inl (wk_in hc)), x, h0, by rw [hA.sym]; exact hcx⟩
    have h2 := hback i c hc 1 0 h1
    have h3 := hfwd j d hd _ h2
    have h4 : Wk A S x (1 + i + j + 1) y := ⟨(hST y).2 (Or.inr (Or.inr rfl)), d, h3, hdy⟩
    obtain ⟨m, _, hm⟩ := wk_atD h4
    -- its vertices
    have hpath : ∀ (k : Nat) (u : Nat), AtD A S x k u → ∃ f : Nat → Nat, f k = u ∧ (∀ a, a ≤ k → AtD A S x a (f a)) ∧ ∀ a, a < k → A (f a) (f (a + 1)) = true := by
      intro k
      induction k with
      | zero =>
        intro u h
        refine ⟨fun _ => u, rfl, fun a ha => ?_, fun a ha => absurd ha (by omega)⟩
        obtain rfl : a = 0 := by omega
        exact h
      | succ k ih =>
        intro u h
        obtain ⟨w, hw, hwu⟩ := atD_pred h
        obtain ⟨f, e1, e2, e3⟩ := ih w hw
        refine ⟨fun a => if a = k + 1 then u else f a, by simp, fun a ha => ?_, fun a ha => ?_⟩
        · by_cases e : a = k + 1
          · subst e; simpa using h
          · simp only [if_neg e]; exact e2 a (by omega)
        · by_cases e : a = k
          · subst e
            simp only [if_true, if_neg (show ¬ a = a + 1 by omega)]
            rw [e1]; exact hwu
          · simp only [if_neg (show ¬ a = k + 1 by omega), if_neg (show ¬ a + 1 = k + 1 by omega)]
            exact e3 a (by omega)
    obtain ⟨f, f1, f2, f3⟩ := hpath m y hm
    have f0 : f 0 = x := (atD_zero.1 (f2 0 (by omega))).1
    have hm2 : 2 ≤ m := by
      rcases Nat.lt_or_ge m 2 with h | h
      · exfalso
        rcases Nat.lt_or_ge m 1 with h' | h'
        · obtain rfl : m = 0 := by omega
          exact hxy (by rw [← f0, f1])
        · obtain rfl : m = 1 := by omega
          have := f3 0 (by omega)
          rw [f0, f1, hq] at this; cases this
      · exact h
    have hinj : ∀ a b, a ≤ m → b ≤ m → f a = f b → a = b := fun a b ha hb e => atD_unique (f2 a ha) (by rw [e]; exact f2 b hb)
    have hmid : ∀ a, 0 < a → a < m → T (f a) = true := fun a h1 h2 => by
      rcases (hST _).1 (wk_in (f2 a (by omega)).1) with h | h | h
      · exact h
      · exact absurd (hinj a 0 (by omega) (by omega) (by rw [h, f0])) (by omega)
      · exact absurd (hinj a m (by omega) (by omega) (by rw [h, f1])) (by omega)
    have hvf : ∀ a, a ≤ m → f a ≠ v := fun a ha e => by
      by_cases e0 : a = 0
      · subst e0; rw [f0] at e; exact hvx e.symm
      · by_cases em : a = m
        · subst em; rw [f1] at e; exact hvy e.symm
        · exact (hT _ (hmid a (by omega) (by omega))).2.1 e
    have hfn : ∀ a, a ≤ m → f a < 16 := fun a ha => by
      by_cases e0 : a = 0
      · subst e0; rw [f0]; have := (hA.range v x hx).2; omega
      · by_cases em : a = m
        · subst em; rw [f1]; have := (hA.range v y hy).2; omega
        · have := (hT _ (hmid a (by omega) (by omega))).1; omega
    obtain ⟨g, hg⟩ : ∃ g : Nat → Nat, g = fun a => if a = 0 then v else f (a - 1) := ⟨_, rfl⟩
    have g0 : g 0 = v := by rw [hg]; rfl
    have gs : ∀ a, g (a + 1) = f a := fun a => by rw [hg]; simp
    have hlen := asL_len g (m + 2)
    have hvt : ∀ i, i < m + 2 → vtxN (asL g (m + 2)) i = g i := fun i hi => asL_vtx g hi
    have hL : LoopF A (asL g (m + 2)) := by
      refine ⟨by rw [hlen]; omega, fun i hi => ?_, fun i hi => ?_, fun i j hi hj e => ?_, fun i hi => ?_, ?_⟩
      · rw [hlen] at hi
        rw [hvt i hi]
        cases i with
        | zero => rw [g0]; have := (hA.range v x hx).1; omega
        | succ i => rw [gs]; exact hfn i (by omega)
      · rw [hlen] at hi
        rw [hvt i hi]
        unfold asL
        rw [nth_eq (by simpa using hi)]
        simp
      · rw [hlen] at hi hj
        rw [hvt i hi, hvt j hj] at e
        cases i with
        | zero =>
          cases j with
          | zero => rfl
          | succ j => rw [g0, gs] at e; exact absurd e.symm (hvf j (by omega))
        | succ i =>
          cases j with
          | zero => rw [g0, gs] at e; exact absurd e (hvf i (by omega))
          | succ j => rw [gs, gs] at e; rw [hinj i j (by omega) (by omega) e]
      · rw [hlen] at hi
        rw [hvt i (by omega), hvt (i + 1) hi]
        cases i with
        | zero => rw [g0, gs, f0]; exact hx
        | succ i => rw [gs, gs]; exact f3 i (by omega)
      · rw [hlen, hvt 0 (by omega), hvt (m + 2 - 1) (by omega), g0, show m + 2 - 1 = m + 1 by omega, gs, f1]
        exact hy
    have hC : noCh A (asL g (m + 2)) = true := by
      rw [noCh_iff]
      intro i k hi hki hne
      rw [hlen] at hi hne
      rw [hvt i hi, hvt k (by omega)]
      cases i with
      | zero => omega
      | succ i =>
        rw [gs]
        cases k with
        | zero =>
          rw [g0]
          exact (hT _ (hmid i (by omega) (by omega))).2.2
        | succ k =>
          rw [gs]
          cases hab : A (f k) (f i) with
          | false => rfl
          | true =>
            exfalso
            have hw : Wk A S x (k + 1) (f i) := ⟨wk_in (f2 i (by omega)).1, f k, (f2 k (by omega)).1, hab⟩
            obtain ⟨e, he, hae⟩ := wk_atD hw
            have := atD_unique hae (f2 i (by omega))
            omega
    have := hno _ hL (by rw [hlen]; omega)
    rw [hC] at this; cases this

/-- .. near each other, those that are near s among R. -/
def SimpIn (A : Nat → Nat → Bool) (R : Nat → Bool) (s : Nat) : Prop := ∀ x y, R x = true → R y = true → A s x = true → A s y = true → x ≠ y → A x y = true

omit hn in
/-- Where not all are near v, someone who is not near v has neighbours that are near each other. -/
theorem dirac (hn : n ≤ 16) (hno : NoLoop A) : ∀ (m : Nat) (R : Nat → Bool), (∀ u, R u = true → u < n) → szB R ≤ m → ∀ v u0, R v = true → R u0 = true → u0 ≠ v → A v u0 = false → ∃ s, R s = true ∧ s ≠ v ∧ A v s = false ∧ SimpIn A R s := by
  classical
  intro m
  induction m with
  | zero =>
    intro R hR hsz v u0 hv
    exfalso
    have := szB_none.1 (Nat.le_zero.1 hsz) v (by have := hR v hv; omega)
    rw [hv] at this; cases this
  | succ m ih =>
    intro R hR hsz v u0 hv hu0 hne hvu
    obtain ⟨T, hTd⟩ : ∃ T : Nat → Bool, T = fun t => R t && t != v && !A v t := ⟨_, rfl⟩
    have hT : ∀ t, T t = true ↔ R t = true ∧ t ≠ v ∧ A v t = false := fun t => by rw [hTd]; simp [and_assoc]
    obtain ⟨C, hCd⟩ : ∃ C : Nat → Bool, C = fun c => decide (∃ k, Wk A T u0 k c) := ⟨_, rfl⟩
    have hC : ∀ c, C c = true ↔ ∃ k, Wk A T u0 k c := fun c => by rw [hCd]; simp
    have hCT : ∀ c, C c = true → T c = true := fun c h => by obtain ⟨k, hk⟩ := (hC c).1 h; exact wk_in hk
    obtain ⟨N, hNd⟩ : ∃ N : Nat → Bool, N = fun x => R x && A v x && decide (∃ c, C c = true ∧ A c x = true) := ⟨_, rfl⟩
    have hN : ∀ x, N x = true ↔ R x = true ∧ A v x = true ∧ ∃ c, C c = true ∧ A c x = true := fun x => by rw [hNd]; simp [and_assoc]
    have hNc : ∀ x y, N x = true → N y = true → x ≠ y → A x y = true := fun x y h1 h2 hxy => by
      obtain ⟨_, hx, c, hc, hcx⟩ := (hN x).1 h1
      obtain ⟨_, hy, d, hd, hdy⟩ := (hN y).1 h2
      obtain ⟨i, hi⟩ := (hC c).1 hc
      obtain ⟨j, hj⟩ := (hC d).1 hd
      exact cut_clique hA hn hno (fun t ht => ⟨hR t ((hT t).1 ht).1, ((hT t).1 ht).2⟩) hx hy hi hj hcx hdy hxy
    have hC0 : C u0 = true := (hC u0).2 ⟨0, rfl, (hT u0).2 ⟨hu0, hne, hvu⟩⟩
    obtain ⟨R', hRd⟩ : ∃ R' : Nat → Bool, R' = fun u => C u || N u := ⟨_, rfl⟩
    have hR' : ∀ u, R' u = true ↔ C u = true ∨ N u = true := fun u => by rw [hRd]; simp
    have hRR : ∀ u, R' u = true → R u = true ∧ u ≠ v := fun u h => by
      rcases (hR' u).1 h with h | h
      · exact ⟨((hT u).1 (hCT u h)).1, ((hT u).1 (hCT u h)).2.1⟩
      · refine ⟨((hN u).1 h).1, fun e => ?_⟩
        subst e
        have := ((hN u).1 h).2.1
        rw [hA.self] at this; cases this
    have hsz' : szB R' ≤ m := by
      have h1 := szB_out (q := R) (a := v) (by have := hR v hv; omega) hv
      have h2 : szB R' ≤ szB (fun u => R u && u != v) := szB_mono (fun j hj => by
        obtain ⟨p1, p2⟩ := hRR j hj
        rw [p1]; simpa using p2)
      omega
    -- the neighbours of C lie in C and N
    have hin : ∀ c y, C c = true → R y = true → A c y = true → R' y = true := fun c y hc hy hcy => by
      rw [hR']
      have htc := (hT c).1 (hCT c hc)
      have hyv : y ≠ v := fun e => by subst e; rw [hA.sym, htc.2.2] at hcy; cases hcy
      cases hvy : A v y with
      | true => exact Or.inr ((hN y).2 ⟨hy, hvy, c, hc, hcy⟩)
      | false =>
        left
        obtain ⟨k, hk⟩ := (hC c).1 hc
        exact (hC y).2 ⟨k + 1, (hT y).2 ⟨hy, hyv, hvy⟩, c, hk, hcy⟩
    have hfin : ∀ s, C s = true → SimpIn A R' s → ∃ s, R s = true ∧ s ≠ v ∧ A v s = false ∧ SimpIn A R s := fun s hs hsi => by
      have ht := (hT s).1 (hCT s hs)
      exact ⟨s, ht.1, ht.2.1, ht.2.2, fun x y hx hy hsx hsy hxy => hsi x y (hin s x hs hx hsx) (hin s y hs hy hsy) hsx hsy hxy⟩
    have hRn : ∀ u, R' u = true → u < n := fun u h => hR u (hRR u h).1
    by_cases hall : ∀ p q, R' p = true → R' q = true → p ≠ q → A p q = true
    · exact hfin u0 hC0 (fun x y hx hy _ _ hxy => hall x y hx hy hxy)
    · by_cases hw : ∃ w z, N w = true ∧ R' z = true ∧ z ≠ w ∧ A w z = false
      · obtain ⟨w, z, h1, h2, h3, h4⟩ := hw
        obtain ⟨s, s1, s2, s3, s4⟩ := ih R' hRn hsz' w z ((hR' w).2 (Or.inr h1)) h2 h3 h4
        rcases (hR' s).1 s1 with hs | hs
        · exact hfin s hs s4
        · have := hNc w s h1 hs (fun e => s2 e.symm)
          rw [s3] at this; cases this
      · have hNa : ∀ w z, N w = true → R' z = true → z ≠ w → A w z = true := fun w z h1 h2 h3 => by
          cases hq : A w z with
          | true => rfl
          | false => exact absurd ⟨w, z, h1, h2, h3, hq⟩ hw
        have hpq : ∃ p q, R' p = true ∧ R' q = true ∧ p ≠ q ∧ A p q = false := by
          rcases Classical.em (∃ p q, R' p = true ∧ R' q = true ∧ p ≠ q ∧ A p q = false) with h | h
          · exact h
          · exfalso
            refine hall (fun p q h1 h2 h3 => ?_)
            cases hq : A p q with
            | true => rfl
            | false => exact absurd ⟨p, q, h1, h2, h3, hq⟩ h
        obtain ⟨p, q, h1, h2, h3, h4⟩ := hpq
        obtain ⟨s, s1, s2, s3, s4⟩ := ih R' hRn hsz' p q h1 h2 (fun e => h3 e.symm) h4
        rcases (hR' s).1 s1 with hs | hs
        · exact hfin s hs s4
        · have := hNa s p hs h1 (fun e => s2 e.symm)
          rw [hA.sym, s3] at this; cases this

/-- Without a chordless loop all vertices can go. -/
theorem noLoop_pf (hno : NoLoop A) : pfB A n = true := by
  classical
  have key : ∀ k, k ≤ n → (poS A n k).length = k := by
    intro k
    induction k with
    | zero => intro _; rfl
    | succ k ih =>
      intro hk
      have h1 := ih (by omega)
      obtain ⟨ys, hys⟩ : ∃ ys, ys = poS A n k := ⟨_, rfl⟩
      rw [← hys] at h1
      obtain ⟨u, hu, hf⟩ := free_some (ys := ys) (n := n) (by omega)
      obtain ⟨R, hRd⟩ : ∃ R : Nat → Bool, R = fun t => decide (t < n) && !hasB ys (t : Int) := ⟨_, rfl⟩
      have hR : ∀ t, R t = true ↔ t < n ∧ hasB ys (t : Int) = false := fun t => by rw [hRd]; simp
      have hs : ∃ s, R s = true ∧ SimpIn A R s := by
        rcases Classical.em (∃ p q, R p = true ∧ R q = true ∧ q ≠ p ∧ A p q = false) with h | h
        · obtain ⟨p, q, a1, a2, a3, a4⟩ := h
          obtain ⟨s, b1, _, _, b4⟩ := dirac hA hn hno 16 R (fun t ht => ((hR t).1 ht).1) (szB_le R) p q a1 a2 a3 a4
          exact ⟨s, b1, b4⟩
        · refine ⟨u, (hR u).2 ⟨hu, hf⟩, fun x y hx hy _ _ hxy => ?_⟩
          cases hq : A x y with
          | true => rfl
          | false => exact absurd ⟨x, y, hx, hy, fun e => hxy e.symm, hq⟩ h
      obtain ⟨s, hs1, hs2⟩ := hs
      have hmg : mayGo A ys s = true := by
        unfold mayGo
        rw [((hR s).1 hs1).2, Bool.not_false, Bool.true_and, beq_iff_eq]
        refine missN_zero (fun i j hji hil => ?_)
        obtain ⟨p1, _, _⟩ := vtx_listM (S := leftB A ys s) (k := j) (by omega)
        obtain ⟨q1, _, _⟩ := vtx_listM (S := leftB A ys s) hil
        have hne : vtxN (listM (pm (leftB A ys s))) j ≠ vtxN (listM (pm (leftB A ys s))) i := fun e => by have := vtx_inj (by omega) hil e; omega
        have hin : ∀ t, leftB A ys s t = true → R t = true ∧ A s t = true := fun t ht => by
          have hr := leftB_range hA ys s t ht
          unfold leftB at ht
          rw [Bool.and_eq_true, Bool.not_eq_true'] at ht
          exact ⟨(hR t).2 ⟨hr, ht.2⟩, ht.1⟩
        exact hs2 _ _ (hin _ p1).1 (hin _ q1).1 (hin _ p1).2 (hin _ q1).2 hne
      rw [poS, ← hys, if_pos (findTo_some ((hR s).1 hs1).1 hmg), List.length_append, List.length_singleton, h1]
  unfold pfB
  rw [decide_eq_true_iff]
  exact key n (Nat.le_refl _)
end

end Go.Proofs.YtohjfcfcopbmoaaGreatDoor
