/- Plain facts: all lists, one vertex after another. -/
import Derived.Test.YtohjfcfcopbmoaaDoorQCO1

namespace Go.Proofs.YtohjfcfcopbmoaaDoor

/-- All lists behind xs with r vertices more, each one that may follow those before it, in ascending order. -/
def enumL (C : List Int → Nat) : Nat → List Int → List (List Int)
  | 0, xs => [xs]
  | r + 1, xs => (listM (C xs)).flatMap (fun v => enumL C r (xs ++ [v]))
/-- The first of lists, nothing where there is none. -/
def firstL (Z : List (List Int)) : List Int := Z.headD []

theorem enum_len {C : List Int → Nat} : ∀ {r : Nat} {xs ys : List Int}, ys ∈ enumL C r xs → ys.length = xs.length + r := by
  intro r
  induction r with
  | zero => intro xs ys h; simp [enumL] at h; subst h; rfl
  | succ r ih =>
    intro xs ys h
    rw [enumL, List.mem_flatMap] at h
    obtain ⟨v, _, h⟩ := h
    have := ih h
    simp at this
    omega
theorem take_more {ys : List Int} {n : Nat} (h : n < ys.length) : ys.take (n + 1) = ys.take n ++ [nth ys n] := by rw [List.take_succ_eq_append_getElem h, nth_eq h]
theorem listM_pair (M : Nat) : (listM M).Pairwise (· < ·) := by
  unfold listM
  rw [List.pairwise_map]
  exact (List.pairwise_lt_range.filter _).imp (fun h => by omega)
theorem nth_app_lt {xs : List Int} {x : Int} {i : Nat} (h : i < xs.length) : nth (xs ++ [x]) i = nth xs i := by simp [nth, List.getElem?_append_left h]
theorem nth_app_at (xs : List Int) (x : Int) : nth (xs ++ [x]) xs.length = x := by simp [nth]
theorem enum_mem {C : List Int → Nat} : ∀ {r : Nat} {xs ys : List Int}, ys ∈ enumL C r xs ↔ ys.take xs.length = xs ∧ ys.length = xs.length + r ∧ ∀ i, xs.length ≤ i → i < xs.length + r → nth ys i ∈ listM (C (ys.take i)) := by
  intro r
  induction r with
  | zero =>
    intro xs ys
    simp only [enumL, List.mem_singleton, Nat.add_zero]
    constructor
    · rintro rfl; exact ⟨List.take_length, rfl, fun i h1 h2 => absurd h2 (by omega)⟩
    · rintro ⟨h1, h2, _⟩; rw [← h2, List.take_length] at h1; exact h1
  | succ r ih =>
    intro xs ys
    rw [enumL, List.mem_flatMap]
    constructor
    · rintro ⟨v, hv, h⟩
      obtain ⟨h1, h2, h3⟩ := ih.1 h
      rw [List.length_append, List.length_singleton] at h1 h2 h3
      have hl : xs.length < ys.length := by omega
      rw [take_more hl] at h1
      have h4 := List.append_inj h1 (by rw [List.length_take]; omega)
      have hv' : nth ys xs.length = v := by simpa using h4.2
      refine ⟨h4.1, by omega, fun i hi1 hi2 => ?_⟩
      by_cases e : i = xs.length
      · subst e; rw [hv', h4.1]; exact hv
      · exact h3 i (by omega) (by omega)
    · rintro ⟨h1, h2, h3⟩
      have hl : xs.length < ys.length := by omega
      refine ⟨nth ys xs.length, by have := h3 xs.length (Nat.le_refl _) (by omega); rwa [h1] at this, ih.2 ?_⟩
      rw [List.length_append, List.length_singleton]
      refine ⟨by rw [take_more hl, h1], by omega, fun i hi1 hi2 => h3 i (by omega) (by omega)⟩

/-- ys comes ahead of zs. -/
def LexLt (ys zs : List Int) : Prop := ∃ k, k < ys.length ∧ k < zs.length ∧ (∀ j, j < k → nth ys j = nth zs j) ∧ nth ys k < nth zs k
theorem lex_asymm {ys zs : List Int} (h : LexLt ys zs) (h' : LexLt zs ys) : False := by
  obtain ⟨k, _, _, h1, h2⟩ := h
  obtain ⟨k', _, _, h1', h2'⟩ := h'
  rcases Nat.lt_trichotomy k k' with hlt | rfl | hlt
  · have := h1' k hlt; omega
  · omega
  · have := h1 k' hlt; omega
theorem nth_take_of {ys : List Int} {n i : Nat} (h : i < n) : nth (ys.take n) i = nth ys i := nth_take h
theorem enum_sorted {C : List Int → Nat} : ∀ (r : Nat) (xs : List Int), (enumL C r xs).Pairwise LexLt := by
  intro r
  induction r with
  | zero => intro xs; simp [enumL]
  | succ r ih =>
    intro xs
    rw [enumL, List.pairwise_flatMap]
    refine ⟨fun v _ => ih _, ?_⟩
    refine List.Pairwise.imp ?_ (listM_pair (C xs))
    intro a b hab y hy z hz
    have hy1 := enum_mem.1 hy
    have hz1 := enum_mem.1 hz
    rw [List.length_append, List.length_singleton] at hy1 hz1
    have e1 : ∀ i, i < xs.length + 1 → nth y i = nth (xs ++ [a]) i := fun i hi => by rw [← hy1.1, nth_take hi]
    have e2 : ∀ i, i < xs.length + 1 → nth z i = nth (xs ++ [b]) i := fun i hi => by rw [← hz1.1, nth_take hi]
    refine ⟨xs.length, by omega, by omega, fun j hj => ?_, ?_⟩
    · rw [e1 j (by omega), e2 j (by omega), nth_app_lt hj, nth_app_lt hj]
    · rw [e1 _ (by omega), e2 _ (by omega), nth_app_at, nth_app_at]; exact hab
theorem firstL_mem {Z : List (List Int)} (h : Z ≠ []) : firstL Z ∈ Z := by
  cases Z with
  | nil => exact absurd rfl h
  | cons a t => simp [firstL]
theorem firstL_least {Z : List (List Int)} (hs : Z.Pairwise LexLt) {z : List Int} (hz : z ∈ Z) : z = firstL Z ∨ LexLt (firstL Z) z := by
  cases Z with
  | nil => simp at hz
  | cons a t =>
    rcases List.mem_cons.1 hz with h | h
    · exact .inl h
    · exact .inr ((List.pairwise_cons.1 hs).1 z h)
theorem firstL_eq {Z : List (List Int)} (hs : Z.Pairwise LexLt) {m : List Int} (hm : m ∈ Z) (h : ∀ z ∈ Z, z = m ∨ LexLt m z) : firstL Z = m := by
  have hne : Z ≠ [] := fun e => by rw [e] at hm; simp at hm
  rcases firstL_least hs hm with h1 | h1
  · exact h1.symm
  · rcases h _ (firstL_mem hne) with h2 | h2
    · exact h2
    · exact (lex_asymm h1 h2).elim
/-- Where a choice leaves out what leads nowhere, all lists are as they were. -/
theorem enum_prune {C C' : List Int → Nat} : ∀ (r : Nat) (xs : List Int), (∀ zs, xs.length ≤ zs.length → zs.length < xs.length + r → C' zs = C zs ∨ (C' zs = 0 ∧ enumL C (xs.length + r - zs.length) zs = [])) → enumL C' r xs = enumL C r xs := by
  intro r
  induction r with
  | zero => intro xs _; rfl
  | succ r ih =>
    intro xs h
    rcases h xs (Nat.le_refl _) (by omega) with e | ⟨e, e'⟩
    · rw [enumL, enumL, e]
      have : (fun v => enumL C' r (xs ++ [v])) = fun v => enumL C r (xs ++ [v]) := by
        funext v
        refine ih (xs ++ [v]) (fun zs h1 h2 => ?_)
        rw [List.length_append, List.length_singleton] at h1 h2 ⊢
        have := h zs (by omega) (by omega)
        rwa [show xs.length + 1 + r - zs.length = xs.length + (r + 1) - zs.length from by omega]
      rw [this]
    · rw [show xs.length + (r + 1) - xs.length = r + 1 from by omega] at e'
      rw [e', enumL, e, listM_zero]
      rfl
/-- Where a choice is narrowed, and the first list is still among those that are left, it is the first. -/
theorem firstL_narrow {C C' : List Int → Nat} {r : Nat} {xs : List Int} (hsub : ∀ zs v, v ∈ listM (C' zs) → v ∈ listM (C zs)) (hm : enumL C r xs ≠ [] → ∀ i, xs.length ≤ i → i < xs.length + r → nth (firstL (enumL C r xs)) i ∈ listM (C' ((firstL (enumL C r xs)).take i))) :
    firstL (enumL C' r xs) = firstL (enumL C r xs) ∧ (enumL C' r xs = [] ↔ enumL C r xs = []) := by
  have hs : ∀ z, z ∈ enumL C' r xs → z ∈ enumL C r xs := fun z hz => by
    obtain ⟨h1, h2, h3⟩ := enum_mem.1 hz
    exact enum_mem.2 ⟨h1, h2, fun i hi1 hi2 => hsub _ _ (h3 i hi1 hi2)⟩
  rcases Classical.em (enumL C r xs = []) with e | hne
  · have e' : enumL C' r xs = [] := by
      rw [List.eq_nil_iff_forall_not_mem]
      intro z hz
      have := hs z hz
      rw [e] at this
      simp at this
    rw [e, e']
    simp
  · have hf := firstL_mem hne
    obtain ⟨h1, h2, _⟩ := enum_mem.1 hf
    have hin : firstL (enumL C r xs) ∈ enumL C' r xs := enum_mem.2 ⟨h1, h2, hm hne⟩
    refine ⟨firstL_eq (enum_sorted _ _) hin (fun z hz => firstL_least (enum_sorted _ _) (hs z hz)), ?_⟩
    constructor
    · intro e; rw [e] at hin; simp at hin
    · intro e; exact absurd e hne

/-- v can stand for the vertex w of P behind xs, as far as the first i of xs tell. -/
def fitTo (P A : Nat → Nat → Bool) (xs : List Int) (w : Nat) (v : Nat) : Nat → Bool
  | 0 => !hasB xs (v : Int)
  | i + 1 => fitTo P A xs w v i && (P i w == A (nth xs i).toNat v)
theorem fitTo_iff {P A : Nat → Nat → Bool} {xs : List Int} {w v i : Nat} : fitTo P A xs w v i = true ↔ hasB xs (v : Int) = false ∧ ∀ j, j < i → P j w = A (nth xs j).toNat v := by
  induction i with
  | zero => simp [fitTo]
  | succ i ih =>
    rw [fitTo, Bool.and_eq_true, ih, beq_iff_eq]
    constructor
    · rintro ⟨⟨h1, h2⟩, h3⟩
      refine ⟨h1, fun j hj => ?_⟩
      rcases Nat.lt_succ_iff_lt_or_eq.1 hj with h | rfl
      · exact h2 j h
      · exact h3
    · rintro ⟨h1, h2⟩
      exact ⟨⟨h1, fun j hj => h2 j (by omega)⟩, h2 i (by omega)⟩
/-- Who can stand for the vertex w of P behind xs. -/
def roomN (P : Nat → Nat → Bool) (n : Nat) (A : Nat → Nat → Bool) (xs : List Int) (w : Nat) : Nat := pm (fun v => decide (v < n) && fitTo P A xs w v xs.length)
theorem roomN_lt (P : Nat → Nat → Bool) (n : Nat) (A : Nat → Nat → Bool) (xs : List Int) (w : Nat) : roomN P n A xs w < 65536 := pm_lt _
theorem roomN_bit {P : Nat → Nat → Bool} {n : Nat} {A : Nat → Nat → Bool} {xs : List Int} {w v : Nat} (hn : n ≤ 16) : (roomN P n A xs w).testBit v = true ↔ v < n ∧ hasB xs (v : Int) = false ∧ ∀ j, j < xs.length → P j w = A (nth xs j).toNat v := by
  unfold roomN
  rw [pm_bit, Bool.and_eq_true, Bool.and_eq_true, decide_eq_true_iff, decide_eq_true_iff, fitTo_iff]
  exact ⟨fun h => h.2, fun h => ⟨by omega, h⟩⟩
/-- Who may follow xs. -/
def nextN (P : Nat → Nat → Bool) (n : Nat) (A : Nat → Nat → Bool) (xs : List Int) : Nat := roomN P n A xs xs.length
/-- All lists of m vertices by which A stands for P. -/
def fitsL (P : Nat → Nat → Bool) (m n : Nat) (A : Nat → Nat → Bool) : List (List Int) := enumL (nextN P n A) m []
/-- Who may follow xs, none where a later vertex has no room. -/
def wiseN (P : Nat → Nat → Bool) (m n : Nat) (A : Nat → Nat → Bool) (xs : List Int) : Nat := if ∃ w, w < m ∧ xs.length < w ∧ roomN P n A xs w = 0 then 0 else nextN P n A xs
theorem wiseN_lt (P : Nat → Nat → Bool) (m n : Nat) (A : Nat → Nat → Bool) (xs : List Int) : wiseN P m n A xs < 65536 := by
  unfold wiseN
  split
  · omega
  · exact roomN_lt _ _ _ _ _
theorem room_none {P : Nat → Nat → Bool} {n : Nat} {A : Nat → Nat → Bool} (hn : n ≤ 16) {xs : List Int} {w r : Nat} (h0 : roomN P n A xs w = 0) (h1 : xs.length ≤ w) (h2 : w < xs.length + r) : enumL (nextN P n A) r xs = [] := by
  rw [List.eq_nil_iff_forall_not_mem]
  intro ys hy
  obtain ⟨e1, e2, e3⟩ := enum_mem.1 hy
  obtain ⟨v, _, hb, he⟩ := (listM_mem _ _).1 (e3 w h1 h2)
  have hl : (ys.take w).length = w := by rw [List.length_take]; omega
  unfold nextN at hb
  rw [hl, roomN_bit hn] at hb
  obtain ⟨b1, b2, b3⟩ := hb
  have hx : ∀ j, j < xs.length → nth xs j = nth ys j := fun j hj => by rw [← e1, nth_take hj]
  have : (roomN P n A xs w).testBit v = true := by
    rw [roomN_bit hn]
    refine ⟨b1, ?_, fun j hj => ?_⟩
    · rw [← Bool.not_eq_true, hasB_iff] at b2 ⊢
      rintro ⟨j, hj, e⟩
      exact b2 ⟨j, by rw [hl]; omega, by rw [nth_take (by omega), ← hx j hj]; exact e⟩
    · have := b3 j (by rw [hl]; omega)
      rw [nth_take (by omega)] at this
      rw [hx j hj]
      exact this
  rw [h0] at this
  simp at this
theorem wise_enum {P : Nat → Nat → Bool} {m n : Nat} {A : Nat → Nat → Bool} (hn : n ≤ 16) : enumL (wiseN P m n A) m [] = fitsL P m n A := by
  unfold fitsL
  refine enum_prune m [] (fun zs _ h2 => ?_)
  unfold wiseN
  split
  · rename_i h
    obtain ⟨w, hw, hz, h0⟩ := h
    simp only [List.length_nil, Nat.zero_add] at h2 ⊢
    exact .inr ⟨trivial, room_none hn h0 (by omega) (by omega)⟩
  · exact .inl rfl
/-- What a list by which A stands for P is. -/
theorem fits_mem {P : Nat → Nat → Bool} {m n : Nat} {A : Nat → Nat → Bool} (hn : n ≤ 16) {ys : List Int} : ys ∈ fitsL P m n A ↔ ys.length = m ∧ ∀ i, i < m → 0 ≤ nth ys i ∧ nth ys i < (n : Int) ∧ (∀ j, j < i → nth ys j ≠ nth ys i) ∧ ∀ j, j < i → P j i = A (nth ys j).toNat (nth ys i).toNat := by
  unfold fitsL
  rw [enum_mem]
  simp only [List.length_nil, List.take_zero, Nat.zero_add, true_and, Nat.zero_le, forall_const]
  constructor
  · rintro ⟨h1, h2⟩
    refine ⟨h1, fun i hi => ?_⟩
    obtain ⟨v, _, hb, he⟩ := (listM_mem _ _).1 (h2 i hi)
    have hl : (ys.take i).length = i := by rw [List.length_take]; omega
    unfold nextN at hb
    rw [hl, roomN_bit hn] at hb
    obtain ⟨b1, b2, b3⟩ := hb
    rw [hl] at b3
    rw [← he]
    refine ⟨by omega, by omega, fun j hj e => ?_, fun j hj => ?_⟩
    · rw [← Bool.not_eq_true, hasB_iff] at b2
      exact b2 ⟨j, by rw [hl]; exact hj, by rw [nth_take hj]; exact e⟩
    · have := b3 j hj
      rw [nth_take hj] at this
      rw [Int.toNat_natCast]
      exact this
  · rintro ⟨h1, h2⟩
    refine ⟨h1, fun i hi => ?_⟩
    obtain ⟨a1, a2, a3, a4⟩ := h2 i hi
    have hl : (ys.take i).length = i := by rw [List.length_take]; omega
    refine (listM_mem _ _).2 ⟨(nth ys i).toNat, by omega, ?_, by omega⟩
    unfold nextN
    rw [hl, roomN_bit hn]
    refine ⟨by omega, ?_, fun j hj => ?_⟩
    · rw [← Bool.not_eq_true, hasB_iff]
      rintro ⟨j, hj, e⟩
      rw [hl] at hj
      rw [nth_take hj] at e
      exact a3 j hj (by omega)
    · rw [hl] at hj
      rw [nth_take hj]
      exact a4 j hj

end Go.Proofs.YtohjfcfcopbmoaaDoor
