/- The texts CX3, CX4, CX5, joined. -/
import Derived.Test.YtohjfcfcopbmoaaGreatDoorCX1
import Derived.Test.YtohjfcfcopbmoaaGreatDoorQY1

/- Plain facts: the least of the loops without a chord: turned round and turned back a loop stays one; there is only one least. -/
namespace Go.Proofs.YtohjfcfcopbmoaaGreatDoor
open Go.RowKit

/-- Shorter first; lists of one length by the first place where they differ. -/
def ltR (xs ys : List Int) : Prop := xs.length < ys.length ∨ (xs.length = ys.length ∧ ∃ i, i < xs.length ∧ (∀ j, j < i → nth xs j = nth ys j) ∧ nth xs i < nth ys i)
theorem ltR_irrefl (xs : List Int) : ¬ ltR xs xs := by
  rintro (h | ⟨_, i, _, _, h⟩)
  · omega
  · omega
theorem ltR_trans {xs ys zs : List Int} (h : ltR xs ys) (h' : ltR ys zs) : ltR xs zs := by
  rcases h with h | ⟨e, i, hi, hl, hx⟩
  · rcases h' with h' | ⟨e', _⟩
    · exact Or.inl (by omega)
    · exact Or.inl (by omega)
  · rcases h' with h' | ⟨e', k, hk, hl', hx'⟩
    · exact Or.inl (by omega)
    · refine Or.inr ⟨by omega, ?_⟩
      rcases Nat.lt_trichotomy i k with g | g | g
      · exact ⟨i, hi, fun j hj => by rw [hl j hj, hl' j (by omega)], by rw [← hl' i g]; exact hx⟩
      · subst g
        exact ⟨i, hi, fun j hj => by rw [hl j hj, hl' j hj], by omega⟩
      · exact ⟨k, by omega, fun j hj => by rw [hl j (by omega), hl' j hj], by rw [hl k g]; exact hx'⟩
theorem ltR_total (xs ys : List Int) : xs = ys ∨ ltR xs ys ∨ ltR ys xs := by
  classical
  rcases Nat.lt_trichotomy xs.length ys.length with h | h | h
  · exact Or.inr (Or.inl (Or.inl h))
  · by_cases hd : ∃ i, i < xs.length ∧ nth xs i ≠ nth ys i
    · have key : ∀ m, (∃ i, i < m ∧ i < xs.length ∧ nth xs i ≠ nth ys i) → ∃ i, i < xs.length ∧ (∀ j, j < i → nth xs j = nth ys j) ∧ nth xs i ≠ nth ys i := by
        intro m
        induction m with
        | zero => rintro ⟨i, hi, _⟩; omega
        | succ m ih =>
          rintro ⟨i, hi, h1, h2⟩
          by_cases hm : ∃ i, i < m ∧ i < xs.length ∧ nth xs i ≠ nth ys i
          · exact ih hm
          · refine ⟨i, h1, fun j hj => ?_, h2⟩
            by_cases e : nth xs j = nth ys j
            · exact e
            · exact absurd ⟨j, by omega, by omega, e⟩ hm
      obtain ⟨i, hi, hne⟩ := hd
      obtain ⟨k, hk, hl, hn⟩ := key (i + 1) ⟨i, by omega, hi, hne⟩
      rcases Int.lt_or_gt_of_ne hn with g | g
      · exact Or.inr (Or.inl (Or.inr ⟨h, k, hk, hl, g⟩))
      · exact Or.inr (Or.inr (Or.inr ⟨h.symm, k, by omega, fun j hj => (hl j hj).symm, g⟩))
    · exact Or.inl (nth_ext h (fun i hi => by
        by_cases e : nth xs i = nth ys i
        · exact e
        · exact absurd ⟨i, hi, e⟩ hd))
  · exact Or.inr (Or.inr (Or.inl h))

/-- A loop of four or more vertices without a chord. -/
structure ChlP (A : Nat → Nat → Bool) (xs : List Int) : Prop where
  loop : LoopF A xs
  four : 4 ≤ xs.length
  none_ : noCh A xs = true
/-- The least of those with p. -/
def LeastR (p : List Int → Prop) (xs : List Int) : Prop := p xs ∧ ∀ ys, p ys → ¬ ltR ys xs
theorem leastR_one {p : List Int → Prop} {xs ys : List Int} (h : LeastR p xs) (h' : LeastR p ys) : xs = ys := by
  rcases ltR_total xs ys with e | e | e
  · exact e
  · exact absurd e (h'.2 _ h.1)
  · exact absurd e (h.2 _ h'.1)
/-- What a search has found that has seen all that hold q: the empty list, or one with p, and none with q is less. -/
def SeenR (p q : List Int → Prop) (r : List Int) : Prop := (r = [] ∨ p r) ∧ ∀ ys, q ys → r ≠ [] ∧ ¬ ltR ys r
open Classical in
/-- The least loop without a chord, or the empty list. -/
noncomputable def clsL (A : Nat → Nat → Bool) : List Int := if h : ∃ xs, LeastR (ChlP A) xs then h.choose else []
theorem clsL_of {A : Nat → Nat → Bool} {r : List Int} (h : SeenR (ChlP A) (ChlP A) r) : clsL A = r := by
  classical
  unfold clsL
  rcases h.1 with e | e
  · subst e
    rw [dif_neg]
    rintro ⟨xs, hx⟩
    exact (h.2 xs hx.1).1 rfl
  · have hl : LeastR (ChlP A) r := ⟨e, fun ys hy => (h.2 ys hy).2⟩
    rw [dif_pos ⟨r, hl⟩]
    exact leastR_one (Exists.choose_spec (p := LeastR (ChlP A)) ⟨r, hl⟩) hl
theorem SeenR.more {p q q' : List Int → Prop} {r : List Int} (h : SeenR p q r) (hq : ∀ ys, q' ys → ∃ zs, q zs ∧ ¬ ltR ys zs) : SeenR p q' r := by
  refine ⟨h.1, fun ys hy => ?_⟩
  obtain ⟨zs, hz, hn⟩ := hq ys hy
  obtain ⟨h1, h2⟩ := h.2 zs hz
  refine ⟨h1, fun hl => ?_⟩
  rcases ltR_total ys zs with e | e | e
  · exact h2 (e ▸ hl)
  · exact hn e
  · exact h2 (ltR_trans e hl)

/-- Neighbours on a loop of m. -/
def nxt (m a b : Nat) : Prop := b = a + 1 ∨ a = b + 1 ∨ (a = 0 ∧ b + 1 = m) ∨ (b = 0 ∧ a + 1 = m)
section
variable {A : Nat → Nat → Bool} (hs : ∀ i j, A i j = A j i) {xs : List Int} (h : ChlP A xs)
include hs h
theorem ChlP.near {a b : Nat} (ha : a < xs.length) (hb : b < xs.length) (hab : nxt xs.length a b) : A (vtxN xs a) (vtxN xs b) = true := by
  have h4 := h.four
  rcases hab with e | e | ⟨e, e'⟩ | ⟨e, e'⟩
  · subst e; exact h.loop.step a hb
  · subst e; rw [hs]; exact h.loop.step b ha
  · subst e
    have := h.loop.close
    rwa [show xs.length - 1 = b by omega] at this
  · subst e
    have := h.loop.close
    rw [hs]
    rwa [show xs.length - 1 = a by omega] at this
theorem ChlP.far {a b : Nat} (ha : a < xs.length) (hb : b < xs.length) (hne : a ≠ b) (hab : ¬ nxt xs.length a b) : A (vtxN xs a) (vtxN xs b) = false := by
  have hn := (noCh_iff A xs).1 h.none_
  unfold nxt at hab
  rcases Nat.lt_trichotomy a b with e | e | e
  · exact hn b a hb (by omega) (by omega)
  · exact absurd e hne
  · rw [hs]; exact hn a b ha (by omega) (by omega)
/-- The vertices of a loop in another order that keeps who is next to whom. -/
theorem ChlP.by {s : Nat → Nat} (h1 : ∀ j, j < xs.length → s j < xs.length) (h2 : ∀ j k, j < xs.length → k < xs.length → s j = s k → j = k)
    (h3 : ∀ j k, j < xs.length → k < xs.length → (nxt xs.length (s j) (s k) ↔ nxt xs.length j k)) : ChlP A (asL (fun j => vtxN xs (s j)) xs.length) := by
  have hl := asL_len (fun j => vtxN xs (s j)) xs.length
  have hv : ∀ i, i < xs.length → vtxN (asL (fun j => vtxN xs (s j)) xs.length) i = vtxN xs (s i) := fun i hi => asL_vtx _ hi
  have h4 := h.four
  refine ⟨⟨by rw [hl]; omega, fun i hi => ?_, fun i hi => ?_, fun i j hi hj e => ?_, fun i hi => ?_, ?_⟩, by rw [hl]; exact h4, ?_⟩
  · rw [hl] at hi
    rw [hv i hi]; exact h.loop.lt _ (h1 i hi)
  · rw [hl] at hi
    rw [hv i hi]
    unfold asL
    rw [nth_eq (by simpa using hi)]
    simp
  · rw [hl] at hi hj
    rw [hv i hi, hv j hj] at e
    exact h2 i j hi hj (h.loop.inj _ _ (h1 i hi) (h1 j hj) e)
  · rw [hl] at hi
    rw [hv i (by omega), hv (i + 1) hi]
    exact h.near hs (h1 _ (by omega)) (h1 _ hi) ((h3 i (i + 1) (by omega) hi).2 (Or.inl rfl))
  · rw [hl, hv 0 (by omega), hv (xs.length - 1) (by omega)]
    exact h.near hs (h1 _ (by omega)) (h1 _ (by omega)) ((h3 0 (xs.length - 1) (by omega) (by omega)).2 (Or.inr (Or.inr (Or.inl ⟨rfl, by omega⟩))))
  · rw [noCh_iff]
    intro i k hi hki hne
    rw [hl] at hi hne
    rw [hv i hi, hv k (by omega)]
    refine h.far hs (h1 k (by omega)) (h1 i hi) (fun e => by have := h2 k i (by omega) hi e; omega) (fun hx => ?_)
    have := (h3 k i (by omega) hi).1 hx
    unfold nxt at this
    omega
/-- Begun at another of its vertices. -/
theorem ChlP.rot {i : Nat} (hi : i < xs.length) : ChlP A (asL (fun j => vtxN xs (if i + j < xs.length then i + j else i + j - xs.length)) xs.length) :=
  h.by hs (s := fun j => if i + j < xs.length then i + j else i + j - xs.length)
    (fun j hj => by show (if i + j < xs.length then i + j else i + j - xs.length) < _; split <;> omega)
    (fun j k hj hk e => by
      have e : (if i + j < xs.length then i + j else i + j - xs.length) = (if i + k < xs.length then i + k else i + k - xs.length) := e
      split at e <;> split at e <;> omega)
    (fun j k hj hk => by
      show nxt xs.length (if i + j < xs.length then i + j else i + j - xs.length) (if i + k < xs.length then i + k else i + k - xs.length) ↔ _
      have := h.four
      unfold nxt
      split <;> split <;> omega)
/-- .. and run the other way. -/
theorem ChlP.rev : ChlP A (asL (fun j => vtxN xs (if j = 0 then 0 else xs.length - j)) xs.length) :=
  h.by hs (s := fun j => if j = 0 then 0 else xs.length - j)
    (fun j hj => by show (if j = 0 then 0 else xs.length - j) < _; split <;> omega)
    (fun j k hj hk e => by
      have e : (if j = 0 then 0 else xs.length - j) = (if k = 0 then 0 else xs.length - k) := e
      split at e <;> split at e <;> omega)
    (fun j k hj hk => by
      show nxt xs.length (if j = 0 then 0 else xs.length - j) (if k = 0 then 0 else xs.length - k) ↔ _
      have := h.four
      unfold nxt
      split <;> split <;> omega)
omit hs in
theorem ChlP.ne_nil : xs ≠ [] := fun e => by have := h.four; rw [e] at this; simp at this
end

theorem asL_nth (f : Nat → Nat) {m i : Nat} (h : i < m) : nth (asL f m) i = (f i : Int) := by
  unfold asL
  rw [nth_eq (by simpa using h)]
  simp

/-- A loop begins, for none is less, at its least vertex: those that do are enough. -/
theorem ChlP.first {A : Nat → Nat → Bool} (hs : ∀ i j, A i j = A j i) {xs : List Int} (h : ChlP A xs) : ∃ zs, (ChlP A zs ∧ ∀ i, 0 < i → i < zs.length → vtxN zs 0 < vtxN zs i) ∧ ¬ ltR xs zs := by
  have h4 := h.four
  have key : ∀ m, 0 < m → m ≤ xs.length → ∃ i, i < m ∧ ∀ j, j < m → vtxN xs i ≤ vtxN xs j := by
    intro m
    induction m with
    | zero => intro h0; omega
    | succ m ih =>
      intro _ hm
      by_cases e : m = 0
      · subst e; exact ⟨0, by omega, fun j hj => by rw [show j = 0 by omega]; exact Nat.le_refl _⟩
      · obtain ⟨i, hi, hl⟩ := ih (by omega) (by omega)
        rcases Nat.lt_or_ge (vtxN xs m) (vtxN xs i) with g | g
        · exact ⟨m, by omega, fun j hj => by
            by_cases ej : j = m
            · subst ej; exact Nat.le_refl _
            · have := hl j (by omega); omega⟩
        · exact ⟨i, by omega, fun j hj => by
            by_cases ej : j = m
            · subst ej; exact g
            · exact hl j (by omega)⟩
  obtain ⟨i, hi, hl⟩ := key xs.length (by omega) (Nat.le_refl _)
  obtain ⟨zs, hz⟩ : ∃ zs, zs = asL (fun j => vtxN xs (if i + j < xs.length then i + j else i + j - xs.length)) xs.length := ⟨_, rfl⟩
  have hzl : zs.length = xs.length := by rw [hz, asL_len]
  have hv : ∀ j, j < xs.length → vtxN zs j = vtxN xs (if i + j < xs.length then i + j else i + j - xs.length) := fun j hj => by rw [hz, asL_vtx _ hj]
  have hv0 : vtxN zs 0 = vtxN xs i := by rw [hv 0 (by omega), if_pos (by omega)]; rfl
  have hc : ChlP A zs := by rw [hz]; exact h.rot hs hi
  refine ⟨zs, ⟨hc, fun k h0 hk => ?_⟩, ?_⟩
  · rw [hzl] at hk
    have hle : vtxN zs 0 ≤ vtxN zs k := by
      rw [hv0, hv k hk]
      exact hl _ (by split <;> omega)
    have hne : vtxN zs 0 ≠ vtxN zs k := fun e => by
      have := hc.loop.inj 0 k (by omega) (by omega) e
      omega
    omega
  · rintro (g | ⟨_, k, hk, hpre, g⟩)
    · omega
    · have hz0 := hc.loop.at_ 0 (by omega)
      have hx0 := h.loop.at_ 0 (by omega)
      have hmin := hl 0 (by omega)
      by_cases e0 : k = 0
      · subst e0
        rw [hz0, hx0, hv0] at g
        omega
      · have := hpre 0 (by omega)
        rw [hz0, hx0, hv0] at this
        have hi0 : i = 0 := h.loop.inj i 0 hi (by omega) (by omega)
        subst hi0
        have hzk := hc.loop.at_ k (by omega)
        have hxk := h.loop.at_ k hk
        have hvk : vtxN zs k = vtxN xs k := by rw [hv k hk, if_pos (by omega), Nat.zero_add]
        omega
/-- .. and those whose second vertex is less than their last. -/
theorem ChlP.bent {A : Nat → Nat → Bool} (hs : ∀ i j, A i j = A j i) {xs : List Int} (h : ChlP A xs) : ∃ zs, (ChlP A zs ∧ vtxN zs 1 < vtxN zs (zs.length - 1)) ∧ ¬ ltR xs zs := by
  have h4 := h.four
  rcases Nat.lt_trichotomy (vtxN xs 1) (vtxN xs (xs.length - 1)) with g | g | g
  · exact ⟨xs, ⟨h, g⟩, ltR_irrefl xs⟩
  · have := h.loop.inj 1 (xs.length - 1) (by omega) (by omega) g
    omega
  · obtain ⟨zs, hz⟩ : ∃ zs, zs = asL (fun j => vtxN xs (if j = 0 then 0 else xs.length - j)) xs.length := ⟨_, rfl⟩
    have hzl : zs.length = xs.length := by rw [hz, asL_len]
    have hv : ∀ j, j < xs.length → vtxN zs j = vtxN xs (if j = 0 then 0 else xs.length - j) := fun j hj => by rw [hz, asL_vtx _ hj]
    have hc : ChlP A zs := by rw [hz]; exact h.rev hs
    have e1 : vtxN zs 1 = vtxN xs (xs.length - 1) := by rw [hv 1 (by omega), if_neg (by omega)]
    have e2 : vtxN zs (zs.length - 1) = vtxN xs 1 := by rw [hzl, hv _ (by omega), if_neg (by omega), show xs.length - (xs.length - 1) = 1 by omega]
    refine ⟨zs, ⟨hc, by rw [e1, e2]; exact g⟩, ?_⟩
    rintro (q | ⟨_, k, hk, hpre, q⟩)
    · omega
    · have hz1 := hc.loop.at_ 1 (by omega)
      have hx1 := h.loop.at_ 1 (by omega)
      by_cases e0 : k = 0
      · subst e0
        have hz0 := hc.loop.at_ 0 (by omega)
        have hx0 := h.loop.at_ 0 (by omega)
        have : vtxN zs 0 = vtxN xs 0 := by rw [hv 0 (by omega), if_pos rfl]
        omega
      · by_cases e1' : k = 1
        · subst e1'; omega
        · have := hpre 1 (by omega)
          omega

end Go.Proofs.YtohjfcfcopbmoaaGreatDoor

/- Plain facts: the least way round from a bend is a loop without a chord, the least with that bend. -/
namespace Go.Proofs.YtohjfcfcopbmoaaGreatDoor
open Go.RowKit

/-- Where a loop with the bend v, u, w may go on: what is not near u, and v and w. -/
def bendS (A : Nat → Nat → Bool) (n u v w t : Nat) : Bool := (decide (t < n) && !A u t && t != u) || t == v || t == w
theorem bendS_iff {A : Nat → Nat → Bool} {n u v w t : Nat} : bendS A n u v w t = true ↔ (t < n ∧ A u t = false ∧ t ≠ u) ∨ t = v ∨ t = w := by
  unfold bendS
  simp [and_assoc, or_assoc]
/-- A bend: v and w are near u, and not near each other. -/
structure Bend (A : Nat → Nat → Bool) (u v w : Nat) : Prop where
  left : A u v = true
  right : A u w = true
  open_ : A v w = false
  lt : v < w
theorem asL_cons (u : Nat) (f : Nat → Nat) (m : Nat) : (u : Int) :: asL f m = asL (fun a => if a = 0 then u else f (a - 1)) (m + 1) := by
  unfold asL
  rw [List.range_succ_eq_map, List.map_cons, List.map_map]
  rfl
theorem wayD_asL (M R : Nat → Nat) (d u i : Nat) : wayD M R d u i = asL (curD M R d u) (i + 1) := rfl

section
variable {A B : Nat → Nat → Bool} {n u v w d : Nat} {T : Nat → Bool} {M : Nat → Nat} (hA : RelP n A) (hn : n ≤ 16) (hB : ∀ a b, B a b = (A a b && bendS A n u v w a && bendS A n u v w b)) (hT : ∀ t, T t = true ↔ t < n) (hb : Bend A u v w)
include hA hn hB hT hb

omit hn hT hb in
theorem bend_sym : ∀ a b, B a b = B b a := fun a b => by
  rw [hB, hB, hA.sym a b]
  cases A b a <;> cases bendS A n u v w a <;> cases bendS A n u v w b <;> rfl

theorem bend_loop (hM : ∀ i, M i < 65536) (hMB : ∀ a b, B a b = (M a).testBit b) (h : AtD B T w d v) : ChlP A ((u : Int) :: wayD M (ringN B T w) d v d) := by
  have hTS : ∀ t, T t = true → t < 16 := fun t ht => by have := (hT t).1 ht; omega
  have hsym := bend_sym hA hB
  obtain ⟨f, hf⟩ : ∃ f, f = curD M (ringN B T w) d v := ⟨_, rfl⟩
  have f2 : ∀ j, j ≤ d → AtD B T w (d - j) (f j) := fun j hj => by rw [hf]; exact (curD_step hsym hM hMB hTS h j hj).1
  have f3 : ∀ j, j < d → B (f j) (f (j + 1)) = true := fun j hj => by rw [hf]; exact curD_near hsym hM hMB hTS h hj
  have f0 : f 0 = v := by rw [hf]; rfl
  have f1 : f d = w := by have := f2 d (Nat.le_refl _); rw [Nat.sub_self] at this; exact (atD_zero.1 this).1
  have hB' : ∀ a b, B a b = true ↔ A a b = true ∧ bendS A n u v w a = true ∧ bendS A n u v w b = true := fun a b => by rw [hB]; simp [and_assoc]
  have hvw : v ≠ w := fun e => by have := hb.lt; omega
  have hd2 : 2 ≤ d := by
    rcases Nat.lt_or_ge d 2 with g | g
    · exfalso
      rcases Nat.lt_or_ge d 1 with g' | g'
      · obtain rfl : d = 0 := by omega
        exact hvw (by rw [← f0, f1])
      · obtain rfl : d = 1 := by omega
        have := ((hB' _ _).1 (f3 0 (by omega))).1
        rw [f0, f1, hb.open_] at this; cases this
    · exact g
  have hinj : ∀ a b, a ≤ d → b ≤ d → f a = f b → a = b := fun a b ha hb' e => by
    have := atD_unique (f2 a ha) (by rw [e]; exact f2 b hb')
    omega
  have hvn := (hA.range u v hb.left).2
  have hwn := (hA.range u w hb.right).2
  have hun := (hA.range u v hb.left).1
  have huv : u ≠ v := fun e => by have := hb.left; rw [← e, hA.self] at this; cases this
  have huw : u ≠ w := fun e => by have := hb.right; rw [← e, hA.self] at this; cases this
  have hmid : ∀ a, 0 < a → a < d → f a < n ∧ A u (f a) = false ∧ f a ≠ u := fun a h1 h2 => by
    rcases bendS_iff.1 ((hB' _ _).1 (f3 a h2)).2.1 with g | g | g
    · exact g
    · exact absurd (hinj a 0 (by omega) (by omega) (by rw [g, f0])) (by omega)
    · exact absurd (hinj a d (by omega) (by omega) (by rw [g, f1])) (by omega)
  have hfn : ∀ a, a ≤ d → f a < n ∧ f a ≠ u := fun a ha => by
    by_cases e0 : a = 0
    · subst e0; rw [f0]; exact ⟨hvn, fun e => huv e.symm⟩
    · by_cases ed : a = d
      · subst ed; rw [f1]; exact ⟨hwn, fun e => huw e.symm⟩
      · have := hmid a (by omega) (by omega); exact ⟨this.1, this.2.2⟩
  have hfS : ∀ a, a ≤ d → bendS A n u v w (f a) = true := fun a ha => by
    rw [bendS_iff]
    by_cases e0 : a = 0
    · subst e0; exact Or.inr (Or.inl f0)
    · by_cases ed : a = d
      · subst ed; exact Or.inr (Or.inr f1)
      · exact Or.inl (hmid a (by omega) (by omega))
  rw [wayD_asL, asL_cons, ← hf]
  obtain ⟨g, hg⟩ : ∃ g : Nat → Nat, g = fun a => if a = 0 then u else f (a - 1) := ⟨_, rfl⟩
  rw [← hg]
  have g0 : g 0 = u := by rw [hg]; rfl
  have gs : ∀ a, g (a + 1) = f a := fun a => by rw [hg]; simp
  have hlen := asL_len g (d + 2)
  have hvt : ∀ i, i < d + 2 → vtxN (asL g (d + 2)) i = g i := fun i hi => asL_vtx g hi
  show ChlP A (asL g (d + 2))
  refine ⟨⟨by rw [hlen]; omega, fun i hi => ?_, fun i hi => ?_, fun i j hi hj e => ?_, fun i hi => ?_, ?_⟩, by rw [hlen]; omega, ?_⟩
  · rw [hlen] at hi
    rw [hvt i hi]
    cases i with
    | zero => rw [g0]; omega
    | succ i => rw [gs]; have := (hfn i (by omega)).1; omega
  · rw [hlen] at hi
    rw [hvt i hi, asL_nth g hi]
  · rw [hlen] at hi hj
    rw [hvt i hi, hvt j hj] at e
    cases i with
    | zero =>
      cases j with
      | zero => rfl
      | succ j => rw [g0, gs] at e; exact absurd e.symm (hfn j (by omega)).2
    | succ i =>
      cases j with
      | zero => rw [g0, gs] at e; exact absurd e (hfn i (by omega)).2
      | succ j => rw [gs, gs] at e; rw [hinj i j (by omega) (by omega) e]
  · rw [hlen] at hi
    rw [hvt i (by omega), hvt (i + 1) hi]
    cases i with
    | zero => rw [g0, gs, f0]; exact hb.left
    | succ i => rw [gs, gs]; exact ((hB' _ _).1 (f3 i (by omega))).1
  · rw [hlen, hvt 0 (by omega), hvt (d + 2 - 1) (by omega), g0, show d + 2 - 1 = d + 1 by omega, gs, f1]
    exact hb.right
  · rw [noCh_iff]
    intro i k hi hki hne
    rw [hlen] at hi hne
    rw [hvt i hi, hvt k (by omega)]
    cases i with
    | zero => omega
    | succ i =>
      rw [gs]
      cases k with
      | zero =>
        rw [g0]
        exact (hmid i (by omega) (by omega)).2.1
      | succ k =>
        rw [gs]
        cases hab : A (f k) (f i) with
        | false => rfl
        | true =>
          exfalso
          have hbb : B (f i) (f k) = true := (hB' _ _).2 ⟨by rw [hA.sym]; exact hab, hfS i (by omega), hfS k (by omega)⟩
          have hw : Wk B T w (d - i + 1) (f k) := ⟨(hT _).2 (hfn k (by omega)).1, f i, (f2 i (by omega)).1, hbb⟩
          obtain ⟨e, he, hae⟩ := wk_atD hw
          have := atD_unique hae (f2 k (by omega))
          omega

omit hn in
/-- From a loop with the bend one sees its way. -/
theorem bend_walk {ys : List Int} (hy : ChlP A ys) (e0 : vtxN ys 0 = u) (e1 : vtxN ys 1 = v) (e2 : vtxN ys (ys.length - 1) = w) : (∀ k, k + 2 ≤ ys.length → Wk B T w k (vtxN ys (ys.length - 1 - k))) ∧ ∀ j, 1 ≤ j → j + 1 < ys.length → B (vtxN ys j) (vtxN ys (j + 1)) = true := by
  have h4 := hy.four
  have hln : ∀ i, i < ys.length → vtxN ys i < n := fun i hi => by
    by_cases e : i + 1 < ys.length
    · exact (hA.range _ _ (hy.loop.step i e)).1
    · have := hy.loop.step (i - 1) (by omega)
      rw [show i - 1 + 1 = i by omega] at this
      exact (hA.range _ _ this).2
  have hSj : ∀ j, 1 ≤ j → j < ys.length → bendS A n u v w (vtxN ys j) = true := fun j h1 h2 => by
    rw [bendS_iff]
    by_cases c1 : j = 1
    · subst c1; exact Or.inr (Or.inl e1)
    · by_cases c2 : j = ys.length - 1
      · subst c2; exact Or.inr (Or.inr e2)
      · refine Or.inl ⟨hln j h2, ?_, fun e => ?_⟩
        · rw [← e0]
          exact hy.far hA.sym (by omega) h2 (by omega) (by unfold nxt; omega)
        · have := hy.loop.inj j 0 h2 (by omega) (by rw [e, e0])
          omega
  have hBj : ∀ j, 1 ≤ j → j + 1 < ys.length → B (vtxN ys j) (vtxN ys (j + 1)) = true := fun j h1 h2 => by
    rw [hB, hy.loop.step j h2, hSj j h1 (by omega), hSj (j + 1) (by omega) h2]; rfl
  refine ⟨fun k => ?_, hBj⟩
  induction k with
  | zero => intro _; exact ⟨by rw [Nat.sub_zero, e2], (hT _).2 (hA.range u w hb.right).2⟩
  | succ k ih =>
    intro hk
    refine ⟨(hT _).2 (hln _ (by omega)), _, ih (by omega), ?_⟩
    have := hBj (ys.length - 1 - (k + 1)) (by omega) (by omega)
    rw [show ys.length - 1 - (k + 1) + 1 = ys.length - 1 - k by omega] at this
    rw [bend_sym hA hB]
    exact this
omit hn in
theorem bend_at {ys : List Int} (hy : ChlP A ys) (e0 : vtxN ys 0 = u) (e1 : vtxN ys 1 = v) (e2 : vtxN ys (ys.length - 1) = w) : ∃ d, d + 2 ≤ ys.length ∧ AtD B T w d v := by
  have h4 := hy.four
  have h1 := (bend_walk hA hB hT hb hy e0 e1 e2).1 (ys.length - 2) (by omega)
  rw [show ys.length - 1 - (ys.length - 2) = 1 by omega, e1] at h1
  obtain ⟨d, hd, h⟩ := wk_atD h1
  exact ⟨d, by omega, h⟩
theorem bend_least (hM : ∀ i, M i < 65536) (hMB : ∀ a b, B a b = (M a).testBit b) (h : AtD B T w d v) {ys : List Int} (hy : ChlP A ys) (e0 : vtxN ys 0 = u) (e1 : vtxN ys 1 = v) (e2 : vtxN ys (ys.length - 1) = w) : ¬ ltR ys ((u : Int) :: wayD M (ringN B T w) d v d) := by
  have h4 := hy.four
  have hTS : ∀ t, T t = true → t < 16 := fun t ht => by have := (hT t).1 ht; omega
  have hsym := bend_sym hA hB
  obtain ⟨hwk, hBj⟩ := bend_walk hA hB hT hb hy e0 e1 e2
  have hd : d + 2 ≤ ys.length := by
    obtain ⟨d', hd', h'⟩ := bend_at hA hB hT hb hy e0 e1 e2
    have := atD_unique h h'
    omega
  rw [wayD_asL, asL_cons]
  obtain ⟨g, hg⟩ : ∃ g : Nat → Nat, g = fun a => if a = 0 then u else curD M (ringN B T w) d v (a - 1) := ⟨_, rfl⟩
  rw [← hg]
  rintro (hl | ⟨hl, i, hi, hpre, hlt⟩)
  · rw [asL_len] at hl; omega
  · rw [asL_len] at hl
    have hgn : ∀ k, k < d + 2 → nth (asL g (d + 1 + 1)) k = (g k : Int) := fun k hk => asL_nth g hk
    rw [hgn i (by omega), hy.loop.at_ i hi] at hlt
    by_cases c0 : i = 0
    · subst c0
      have : g 0 = u := by rw [hg]; rfl
      omega
    · by_cases c1 : i = 1
      · subst c1
        have : g 1 = v := by rw [hg]; rfl
        omega
      · obtain ⟨j, rfl⟩ : ∃ j, i = j + 2 := ⟨i - 2, by omega⟩
        have hp := hpre (j + 1) (by omega)
        rw [hgn (j + 1) (by omega), hy.loop.at_ (j + 1) (by omega)] at hp
        have gj : g (j + 1) = curD M (ringN B T w) d v j := by rw [hg]; simp
        have gj2 : g (j + 2) = curD M (ringN B T w) d v (j + 1) := by rw [hg]; simp
        have hyj : vtxN ys (j + 1) = curD M (ringN B T w) d v j := by omega
        obtain ⟨s1, s2⟩ := curD_step hsym hM hMB hTS h j (by omega)
        have s3 := s2 (by omega)
        have hlt16 : M (curD M (ringN B T w) d v j) &&& ringN B T w (d - 1 - j) < 65536 := Nat.lt_of_le_of_lt Nat.and_le_left (hM _)
        obtain ⟨_, _, s6⟩ := leastM_spec s3 hlt16
        have hlow : vtxN ys (j + 2) < leastM (M (curD M (ringN B T w) d v j) &&& ringN B T w (d - 1 - j)) := by
          have : g (j + 2) = leastM (M (curD M (ringN B T w) d v j) &&& ringN B T w (d - 1 - j)) := by rw [gj2]; rfl
          omega
        have hno := s6 _ hlow
        have hbb := hBj (j + 1) (by omega) (by omega)
        have hw := hwk (ys.length - 1 - (j + 2)) (by omega)
        rw [show ys.length - 1 - (ys.length - 1 - (j + 2)) = j + 2 by omega, show ys.length - 1 - (j + 2) = d - 1 - j by omega] at hw
        obtain ⟨e, he, hae⟩ := wk_atD hw
        have hee : e = d - 1 - j := by
          rcases Nat.lt_or_ge e (d - 1 - j) with q | q
          · exfalso
            have hw2 : Wk B T w (e + 1) (vtxN ys (j + 1)) := ⟨by rw [hyj]; exact wk_in s1.1, _, hae.1, by rw [hsym]; exact hbb⟩
            obtain ⟨e', he', hae'⟩ := wk_atD hw2
            rw [hyj] at hae'
            have := atD_unique hae' s1
            omega
          · omega
        subst hee
        rw [Nat.testBit_and, ← hyj, ← hMB, hbb, (ringN_bit hTS _ _).2 hae] at hno
        simp at hno
end

end Go.Proofs.YtohjfcfcopbmoaaGreatDoor

/- Plain facts: the least of what a search sees; the search for a loop without a chord that goes on from a path. -/
namespace Go.Proofs.YtohjfcfcopbmoaaGreatDoor
open Go.RowKit

open Classical in
/-- The one that is taken on. -/
noncomputable def betterR (best x : List Int) : List Int := if x ≠ [] ∧ (best = [] ∨ ltR x best) then x else best
theorem SeenR.better {p q q' : List Int → Prop} {b x : List Int} (h : SeenR p q b) (h' : SeenR p q' x) : SeenR p (fun ys => q ys ∨ q' ys) (betterR b x) := by
  unfold betterR
  split
  · rename_i hc
    refine ⟨h'.1, fun ys hy => ?_⟩
    rcases hy with hy | hy
    · refine ⟨hc.1, fun hl => ?_⟩
      obtain ⟨h1, h2⟩ := h.2 ys hy
      rcases hc.2 with e | e
      · exact h1 e
      · exact h2 (ltR_trans hl e)
    · exact h'.2 ys hy
  · rename_i hc
    refine ⟨h.1, fun ys hy => ?_⟩
    rcases hy with hy | hy
    · exact h.2 ys hy
    · obtain ⟨h1, h2⟩ := h'.2 ys hy
      have hb : b ≠ [] := fun e => hc ⟨h1, Or.inl e⟩
      refine ⟨hb, fun hl => ?_⟩
      rcases ltR_total x b with e | e | e
      · exact h2 (e ▸ hl)
      · exact hc ⟨h1, Or.inr e⟩
      · exact h2 (ltR_trans hl e)
theorem SeenR.imp {p q q' : List Int → Prop} {r : List Int} (h : SeenR p q r) (hq : ∀ ys, q' ys → q ys) : SeenR p q' r := ⟨h.1, fun ys hy => h.2 ys (hq ys hy)⟩
theorem SeenR.zero {p : List Int → Prop} : SeenR p (fun _ => False) [] := ⟨Or.inl rfl, fun _ h => h.elim⟩
/-- The best of all bends. -/
theorem seen_fold {α : Type} {p : List Int → Prop} {q : α → List Int → Prop} {c : α → List Int} : ∀ (Z : List α), (∀ t ∈ Z, SeenR p (q t) (c t)) → ∀ {q0 : List Int → Prop} {b : List Int}, SeenR p q0 b → SeenR p (fun ys => q0 ys ∨ ∃ t ∈ Z, q t ys) (Z.foldl (fun b t => betterR b (c t)) b)
  | [], _, _, _, hb => hb.imp (fun ys hy => by
      rcases hy with hy | ⟨t, ht, _⟩
      · exact hy
      · exact absurd ht (by simp))
  | t :: Z, h, q0, b, hb => by
    have h1 := hb.better (h t (by simp))
    refine (seen_fold Z (fun t' ht' => h t' (by simp [ht'])) h1).imp (fun ys hy => ?_)
    rcases hy with hy | ⟨t', ht', hq⟩
    · exact Or.inl (Or.inl hy)
    · rcases List.mem_cons.1 ht' with e | e
      · subst e; exact Or.inl (Or.inr hq)
      · exact Or.inr ⟨t', e, hq⟩

/-- How many of a path are near v. -/
def nearC (A : Nat → Nat → Bool) (path : List Int) (v : Nat) : Nat := sumTo (fun i => if A (vtxN path i) v then 1 else 0) path.length
/-- A path without a chord, whose first vertex is its least. -/
structure PathC (A : Nat → Nat → Bool) (xs : List Int) : Prop where
  pos : 0 < xs.length
  lt : ∀ i, i < xs.length → vtxN xs i < 16
  at_ : ∀ i, i < xs.length → nth xs i = (vtxN xs i : Int)
  inj : ∀ i j, i < xs.length → j < xs.length → vtxN xs i = vtxN xs j → i = j
  step : ∀ i, i + 1 < xs.length → A (vtxN xs i) (vtxN xs (i + 1)) = true
  far : ∀ i k, i < xs.length → k + 1 < i → A (vtxN xs k) (vtxN xs i) = false
  least : ∀ i, 0 < i → i < xs.length → vtxN xs 0 < vtxN xs i
/-- A loop without a chord that begins with its least vertex and goes on from a path. -/
structure ExtC (A : Nat → Nat → Bool) (path ys : List Int) : Prop where
  loop : ChlP A ys
  least : ∀ i, 0 < i → i < ys.length → vtxN ys 0 < vtxN ys i
  len : path.length ≤ ys.length
  pre : ∀ i, i < path.length → nth ys i = nth path i

theorem PathC.one {A : Nat → Nat → Bool} {s : Nat} (hs : s < 16) : PathC A [(s : Int)] := by
  have h0 : vtxN [(s : Int)] 0 = s := rfl
  refine ⟨by simp, fun i hi => ?_, fun i hi => ?_, fun i j hi hj _ => ?_, fun i hi => ?_, fun i k hi hk => ?_, fun i h0 hi => ?_⟩
  · obtain rfl : i = 0 := by simpa using hi
    exact hs
  · obtain rfl : i = 0 := by simpa using hi
    rfl
  · have h1 : i = 0 := by simpa using hi
    have h2 : j = 0 := by simpa using hj
    omega
  · simp at hi
  · have : i = 0 := by simpa using hi
    omega
  · have : i = 0 := by simpa using hi
    omega
theorem PathC.le {A : Nat → Nat → Bool} {xs : List Int} (h : PathC A xs) : xs.length ≤ 16 := by
  have hd : xs.Nodup := by
    rw [List.nodup_iff_pairwise_ne, List.pairwise_iff_getElem]
    intro i j hi hj hij e
    have e2 : nth xs i = nth xs j := by rw [nth_eq hi, nth_eq hj]; exact e
    rw [h.at_ i hi, h.at_ j hj] at e2
    have := h.inj i j hi hj (by omega)
    omega
  have := hd.length_le_of_subset (l₂ := allL 16) (fun z hz => by
    obtain ⟨i, hi, rfl⟩ := List.getElem_of_mem hz
    rw [← nth_eq hi, h.at_ i hi]
    exact (allL_mem _ _).2 ⟨_, h.lt i hi, rfl⟩)
  rwa [allL_len] at this

section
variable {A : Nat → Nat → Bool} (hs : ∀ i j, A i j = A j i) {path : List Int} (hp : PathC A path) {v : Nat}
include hp

omit hp in
theorem vtx_snoc {path : List Int} (v : Nat) {i : Nat} : vtxN (path ++ [(v : Int)]) i = if i < path.length then vtxN path i else if i = path.length then v else vtxN (path ++ [(v : Int)]) i := by
  split
  · rename_i h
    unfold vtxN
    rw [nth_eq (by simp; omega), nth_eq h, List.getElem_append_left h]
  · split
    · rename_i e
      subst e
      unfold vtxN
      rw [nth_eq (by simp), List.getElem_append_right (by omega)]
      simp
    · rfl
omit hp in
theorem near_none {q : Nat → Bool} {n : Nat} (h : sumTo (fun i => if q i then 1 else 0) n = 0) : ∀ i, i < n → q i = false := fun i hi => by
  have := sumTo_zeros h i hi
  cases hq : q i with
  | false => rfl
  | true => rw [hq] at this; simp at this
omit hp in
theorem near_out {q : Nat → Bool} {n a : Nat} (ha : a < n) (h : q a = true) : sumTo (fun i => if q i then 1 else 0) n = sumTo (fun i => if (q i && i != a) then 1 else 0) n + 1 := by
  rw [sumTo_out _ ha, h]
  congr 1
  refine sumTo_congr (fun j _ => ?_)
  by_cases e : j = a
  · subst e; simp
  · have : (j != a) = true := by rw [bne_iff_ne]; exact e
    rw [if_neg e, this, Bool.and_true]

/-- One is near: the last alone. -/
theorem near_one (hl : A (vtxN path (path.length - 1)) v = true) : nearC A path v = 1 ↔ ∀ i, i + 1 < path.length → A (vtxN path i) v = false := by
  have h0 := hp.pos
  unfold nearC
  rw [near_out (q := fun i => A (vtxN path i) v) (a := path.length - 1) (by omega) hl]
  constructor
  · intro h i hi
    have := near_none (n := path.length) (q := fun i => A (vtxN path i) v && i != path.length - 1) (by omega) i (by omega)
    have hne : (i != path.length - 1) = true := by rw [bne_iff_ne]; omega
    simpa [hne] using this
  · intro h
    rw [sumTo_zero (fun j hj => ?_)]
    by_cases e : j = path.length - 1
    · subst e; simp
    · rw [h j (by omega)]; rfl
omit hp in
/-- Two are near: the first and the last. -/
theorem near_two (h2 : 2 ≤ path.length) (hl : A (vtxN path (path.length - 1)) v = true) (hf : A (vtxN path 0) v = true) : nearC A path v = 2 ↔ ∀ i, 0 < i → i + 1 < path.length → A (vtxN path i) v = false := by
  unfold nearC
  rw [near_out (q := fun i => A (vtxN path i) v) (a := path.length - 1) (by omega) hl, near_out (q := fun i => A (vtxN path i) v && i != path.length - 1) (a := 0) (by omega) (by
    show (A (vtxN path 0) v && (0 != path.length - 1)) = true
    rw [hf, Bool.true_and, bne_iff_ne]; omega)]
  constructor
  · intro h i h0 hi
    have := near_none (n := path.length) (q := fun i => (A (vtxN path i) v && i != path.length - 1) && i != 0) (by omega) i (by omega)
    have hne : (i != path.length - 1) = true := by rw [bne_iff_ne]; omega
    have hne0 : (i != 0) = true := by rw [bne_iff_ne]; omega
    simpa [hne, hne0] using this
  · intro h
    rw [sumTo_zero (fun j hj => ?_)]
    by_cases e : j = path.length - 1
    · subst e; simp
    · by_cases e0 : j = 0
      · subst e0; simp
      · rw [h j (by omega) (by omega)]; rfl

/-- A path goes on. -/
theorem PathC.snoc (hl : A (vtxN path (path.length - 1)) v = true) (hv : v < 16) (hn : nearC A path v = 1) (h0 : vtxN path 0 < v) (hm : ∀ i, i < path.length → vtxN path i ≠ v) : PathC A (path ++ [(v : Int)]) := by
  have hpos := hp.pos
  have hno := (near_one hp hl).1 hn
  have hlen : (path ++ [(v : Int)]).length = path.length + 1 := by simp
  have hi1 : ∀ i, i < path.length → vtxN (path ++ [(v : Int)]) i = vtxN path i := fun i hi => by rw [vtx_snoc v, if_pos hi]
  have hi2 : vtxN (path ++ [(v : Int)]) path.length = v := by rw [vtx_snoc v, if_neg (by omega), if_pos rfl]
  refine ⟨by rw [hlen]; omega, fun i hi => ?_, fun i hi => ?_, fun i j hi hj e => ?_, fun i hi => ?_, fun i k hi hk => ?_, fun i h1 hi => ?_⟩
  · rw [hlen] at hi
    by_cases e : i = path.length
    · subst e; rw [hi2]; exact hv
    · rw [hi1 i (by omega)]; exact hp.lt i (by omega)
  · rw [hlen] at hi
    by_cases e : i = path.length
    · subst e; rw [hi2, nth_eq (by simp), List.getElem_append_right (by omega)]; simp
    · rw [hi1 i (by omega), ← hp.at_ i (by omega), nth_eq (by rw [hlen]; omega), nth_eq (by omega), List.getElem_append_left (by omega)]
  · rw [hlen] at hi hj
    by_cases c1 : i = path.length
    · by_cases c2 : j = path.length
      · omega
      · subst c1; rw [hi2, hi1 j (by omega)] at e; exact absurd e.symm (hm j (by omega))
    · by_cases c2 : j = path.length
      · subst c2; rw [hi2, hi1 i (by omega)] at e; exact absurd e (hm i (by omega))
      · rw [hi1 i (by omega), hi1 j (by omega)] at e; exact hp.inj i j (by omega) (by omega) e
  · rw [hlen] at hi
    by_cases c : i + 1 = path.length
    · rw [c, hi2, hi1 i (by omega)]
      rwa [show path.length - 1 = i by omega] at hl
    · rw [hi1 i (by omega), hi1 (i + 1) (by omega)]; exact hp.step i (by omega)
  · rw [hlen] at hi
    by_cases c : i = path.length
    · subst c; rw [hi2, hi1 k (by omega)]; exact hno k (by omega)
    · rw [hi1 i (by omega), hi1 k (by omega)]; exact hp.far i k (by omega) hk
  · rw [hlen] at hi
    rw [hi1 0 hpos]
    by_cases c : i = path.length
    · subst c; rw [hi2]; exact h0
    · rw [hi1 i (by omega)]; exact hp.least i h1 (by omega)
/-- .. or closes. -/
theorem PathC.close (h3 : 3 ≤ path.length) (hl : A (vtxN path (path.length - 1)) v = true) (hf : A (vtxN path 0) v = true) (hv : v < 16) (hn : nearC A path v = 2) (hm : ∀ i, i < path.length → vtxN path i ≠ v) : ChlP A (path ++ [(v : Int)]) := by
  have hno := (near_two (by omega) hl hf).1 hn
  have hlen : (path ++ [(v : Int)]).length = path.length + 1 := by simp
  have hi1 : ∀ i, i < path.length → vtxN (path ++ [(v : Int)]) i = vtxN path i := fun i hi => by rw [vtx_snoc v, if_pos hi]
  have hi2 : vtxN (path ++ [(v : Int)]) path.length = v := by rw [vtx_snoc v, if_neg (by omega), if_pos rfl]
  refine ⟨⟨by rw [hlen]; omega, fun i hi => ?_, fun i hi => ?_, fun i j hi hj e => ?_, fun i hi => ?_, ?_⟩, by rw [hlen]; omega, ?_⟩
  · rw [hlen] at hi
    by_cases e : i = path.length
    · subst e; rw [hi2]; exact hv
    · rw [hi1 i (by omega)]; exact hp.lt i (by omega)
  · rw [hlen] at hi
    by_cases e : i = path.length
    · subst e; rw [hi2, nth_eq (by simp), List.getElem_append_right (by omega)]; simp
    · rw [hi1 i (by omega), ← hp.at_ i (by omega), nth_eq (by rw [hlen]; omega), nth_eq (by omega), List.getElem_append_left (by omega)]
  · rw [hlen] at hi hj
    by_cases c1 : i = path.length
    · by_cases c2 : j = path.length
      · omega
      · subst c1; rw [hi2, hi1 j (by omega)] at e; exact absurd e.symm (hm j (by omega))
    · by_cases c2 : j = path.length
      · subst c2; rw [hi2, hi1 i (by omega)] at e; exact absurd e (hm i (by omega))
      · rw [hi1 i (by omega), hi1 j (by omega)] at e; exact hp.inj i j (by omega) (by omega) e
  · rw [hlen] at hi
    by_cases c : i + 1 = path.length
    · rw [c, hi2, hi1 i (by omega)]
      rwa [show path.length - 1 = i by omega] at hl
    · rw [hi1 i (by omega), hi1 (i + 1) (by omega)]; exact hp.step i (by omega)
  · rw [hlen, hi1 0 (by omega), show path.length + 1 - 1 = path.length by omega, hi2]
    exact hf
  · rw [noCh_iff]
    intro i k hi hki hne
    rw [hlen] at hi hne
    by_cases c : i = path.length
    · subst c; rw [hi2, hi1 k (by omega)]; exact hno k (by omega) (by omega)
    · rw [hi1 i (by omega), hi1 k (by omega)]; exact hp.far i k (by omega) hki

/-- What a loop that goes on has next. -/
theorem ExtC.next {ys : List Int} (h : ExtC A path ys) : ∃ v : Nat, v < 16 ∧ A (vtxN path (path.length - 1)) v = true ∧ ExtC A (path ++ [(v : Int)]) ys := by
  have hpos := hp.pos
  have h4 := h.loop.four
  have hv : ∀ i, i < path.length → vtxN ys i = vtxN path i := fun i hi => by unfold vtxN; rw [h.pre i hi]
  have hlt : path.length < ys.length := by
    rcases Nat.lt_or_ge path.length ys.length with g | g
    · exact g
    · exfalso
      have e : path.length = ys.length := by have := h.len; omega
      have h1 := hp.far (path.length - 1) 0 (by omega) (by omega)
      rw [← hv _ (by omega), ← hv _ (by omega), e, h.loop.loop.close] at h1
      cases h1
  refine ⟨vtxN ys path.length, h.loop.loop.lt _ hlt, ?_, h.loop, h.least, by simp; omega, fun i hi => ?_⟩
  · rw [← hv _ (by omega)]
    have := h.loop.loop.step (path.length - 1) (by omega)
    rwa [show path.length - 1 + 1 = path.length by omega] at this
  · have hi' : i < path.length + 1 := by simpa using hi
    by_cases c : i = path.length
    · subst c
      rw [h.loop.loop.at_ _ hlt, nth_eq (by simp), List.getElem_append_right (by omega)]
      simp
    · rw [h.pre i (by omega), nth_eq (by omega), nth_eq (by simp; omega), List.getElem_append_left (by omega)]
include hs in
/-- .. and which it can be. -/
theorem ExtC.which {ys : List Int} (h : ExtC A (path ++ [(v : Int)]) ys) : vtxN path 0 < v ∧ (∀ i, i < path.length → vtxN path i ≠ v) ∧ A (vtxN path (path.length - 1)) v = true ∧ (nearC A path v = 1 ∨ (nearC A path v = 2 ∧ 3 ≤ path.length ∧ A (vtxN path 0) v = true ∧ ys = path ++ [(v : Int)])) := by
  have hpos := hp.pos
  have h4 := h.loop.four
  have hlen : path.length + 1 ≤ ys.length := by have := h.len; simpa using this
  have hv : ∀ i, i < path.length → vtxN ys i = vtxN path i := fun i hi => by
    unfold vtxN
    rw [h.pre i (by rw [List.length_append, List.length_singleton]; omega), nth_eq (show i < (path ++ [(v : Int)]).length by rw [List.length_append, List.length_singleton]; omega), nth_eq hi, List.getElem_append_left hi]
  have hvv : vtxN ys path.length = v := by
    unfold vtxN
    rw [h.pre _ (by simp), nth_eq (by simp), List.getElem_append_right (by omega)]
    simp
  have hl : A (vtxN path (path.length - 1)) v = true := by
    rw [← hv _ (by omega), ← hvv]
    have := h.loop.loop.step (path.length - 1) (by omega)
    rwa [show path.length - 1 + 1 = path.length by omega] at this
  refine ⟨by rw [← hv 0 hpos, ← hvv]; exact h.least _ hpos (by omega), fun i hi e => ?_, hl, ?_⟩
  · rw [← hv i hi, ← hvv] at e
    have := h.loop.loop.inj _ _ (by omega) (by omega) e
    omega
  · by_cases c : path.length + 1 = ys.length
    · right
      have hf : A (vtxN path 0) v = true := by
        rw [← hv 0 hpos, ← hvv]
        have := h.loop.loop.close
        rwa [show ys.length - 1 = path.length by omega] at this
      refine ⟨(near_two (by omega) hl hf).2 (fun i h0 hi => ?_), by omega, hf, nth_ext (by simp; omega) (fun i hi => h.pre i (by simp; omega))⟩
      rw [← hv i (by omega), ← hvv]
      exact h.loop.far hs (by omega) (by omega) (by omega) (by unfold nxt; omega)
    · left
      refine (near_one hp hl).2 (fun i hi => ?_)
      rw [← hv i (by omega), ← hvv]
      exact h.loop.far hs (by omega) (by omega) (by omega) (by unfold nxt; omega)
end

end Go.Proofs.YtohjfcfcopbmoaaGreatDoor
