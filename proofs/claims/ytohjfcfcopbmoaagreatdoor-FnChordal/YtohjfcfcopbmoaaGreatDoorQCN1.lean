/- The texts CN1, CN2, joined. -/
import Derived.Test.YtohjfcfcopbmoaaGreatDoorQEN3
import Derived.Test.YtohjfcfcopbmoaaGreatDoorQCO1

/- Plain facts: the least code, place by place, and as a whole. -/
namespace Go.Proofs.YtohjfcfcopbmoaaGreatDoor

theorem lex_total : ∀ (n : Nat) {a b : List Int}, a.length = n → b.length = n → LexLt a b ∨ a = b ∨ LexLt b a := by
  intro n a b ha hb
  rcases Classical.em (∃ k, k < n ∧ nth a k ≠ nth b k) with h | h
  · have : ∀ m, (∃ k, k < m ∧ k < n ∧ nth a k ≠ nth b k) → ∃ k, k < n ∧ nth a k ≠ nth b k ∧ ∀ j, j < k → nth a j = nth b j := by
      intro m
      induction m with
      | zero => rintro ⟨k, hk, _⟩; omega
      | succ m ih =>
        rintro ⟨k, hk, hn, hne⟩
        rcases Classical.em (∃ k, k < m ∧ k < n ∧ nth a k ≠ nth b k) with h' | h'
        · exact ih h'
        · have : k = m := by
            rcases Nat.lt_succ_iff_lt_or_eq.1 hk with h2 | h2
            · exact (h' ⟨k, h2, hn, hne⟩).elim
            · exact h2
          subst this
          refine ⟨k, hn, hne, fun j hj => ?_⟩
          rcases Classical.em (nth a j = nth b j) with e | e
          · exact e
          · exact (h' ⟨j, hj, by omega, e⟩).elim
    obtain ⟨k, hk, hne⟩ := h
    obtain ⟨k, hk, hne, hpre⟩ := this n ⟨k, hk, hk, hne⟩
    rcases Int.lt_or_gt_of_ne hne with h1 | h1
    · exact .inl ⟨k, by omega, by omega, hpre, h1⟩
    · exact .inr (.inr ⟨k, by omega, by omega, fun j hj => (hpre j hj).symm, h1⟩)
  · refine .inr (.inl (nth_ext (by omega) (fun j hj => ?_)))
    rcases Classical.em (nth a j = nth b j) with e | e
    · exact e
    · exact (h ⟨j, by omega, e⟩).elim
theorem lex_irrefl {a : List Int} (h : LexLt a a) : False := lex_asymm h h
theorem lex_trans {a b c : List Int} (h : LexLt a b) (h' : LexLt b c) : LexLt a c := by
  obtain ⟨k, k1, k2, k3, k4⟩ := h
  obtain ⟨m, m1, m2, m3, m4⟩ := h'
  rcases Nat.lt_trichotomy k m with hlt | rfl | hlt
  · exact ⟨k, k1, by omega, fun j hj => (k3 j hj).trans (m3 j (by omega)), by rw [← m3 k hlt]; exact k4⟩
  · exact ⟨k, k1, m2, fun j hj => (k3 j hj).trans (m3 j hj), by omega⟩
  · exact ⟨m, by omega, m2, fun j hj => (k3 j (by omega)).trans (m3 j hj), by rw [k3 m hlt]; exact m4⟩
theorem nth_app_left {a r : List Int} {i : Nat} (h : i < a.length) : nth (a ++ r) i = nth a i := by simp [nth, List.getElem?_append_left h]
theorem nth_app_right {a r : List Int} {i : Nat} : nth (a ++ r) (a.length + i) = nth r i := by simp [nth, List.getElem?_append_right]
theorem lex_app {a b r s : List Int} (hl : a.length = b.length) : LexLt (a ++ r) (b ++ s) ↔ LexLt a b ∨ (a = b ∧ LexLt r s) := by
  constructor
  · rintro ⟨k, k1, k2, k3, k4⟩
    by_cases hk : k < a.length
    · rw [nth_app_left hk, nth_app_left (by omega)] at k4
      exact .inl ⟨k, hk, by omega, fun j hj => by have := k3 j hj; rwa [nth_app_left (by omega), nth_app_left (by omega)] at this, k4⟩
    · obtain ⟨i, rfl⟩ : ∃ i, k = a.length + i := ⟨k - a.length, by omega⟩
      have e : a = b := nth_ext hl (fun j hj => by have := k3 j (by omega); rwa [nth_app_left hj, nth_app_left (by omega)] at this)
      subst e
      rw [List.length_append] at k1 k2
      rw [nth_app_right, nth_app_right] at k4
      exact .inr ⟨rfl, i, by omega, by omega, fun j hj => by have := k3 (a.length + j) (by omega); rwa [nth_app_right, nth_app_right] at this, k4⟩
  · rintro (⟨k, k1, k2, k3, k4⟩ | ⟨rfl, k, k1, k2, k3, k4⟩)
    · exact ⟨k, by rw [List.length_append]; omega, by rw [List.length_append]; omega, fun j hj => by rw [nth_app_left (by omega), nth_app_left (by omega)]; exact k3 j hj, by rw [nth_app_left k1, nth_app_left k2]; exact k4⟩
    · refine ⟨a.length + k, by rw [List.length_append]; omega, by rw [List.length_append]; omega, fun j hj => ?_, by rw [nth_app_right, nth_app_right]; exact k4⟩
      by_cases hja : j < a.length
      · rw [nth_app_left hja, nth_app_left hja]
      · obtain ⟨i, rfl⟩ : ∃ i, j = a.length + i := ⟨j - a.length, by omega⟩
        rw [nth_app_right, nth_app_right]; exact k3 i (by omega)

/-- The code of all of xs. -/
def codeA (A : Nat → Nat → Bool) (xs : List Int) : List Int := codeTo A xs xs.length
/-- What v adds behind xs. -/
def rowA (A : Nat → Nat → Bool) (xs : List Int) (v : Int) : List Int := codeRow A xs v xs.length
theorem rowA_len (A : Nat → Nat → Bool) (xs : List Int) (v : Int) : (rowA A xs v).length = xs.length := by simp [rowA, codeRow]
theorem rowA_nth {A : Nat → Nat → Bool} {xs : List Int} {v : Int} {i : Nat} (h : i < xs.length) : nth (rowA A xs v) i = flagI (A (nth xs i).toNat v.toNat) := by
  rw [nth_eq (by rw [rowA_len]; exact h)]
  simp only [rowA, codeRow, List.take_length, List.getElem_map, nth_eq h]
theorem codeRow_app (A : Nat → Nat → Bool) {xs : List Int} (x v : Int) {k : Nat} (h : k ≤ xs.length) : codeRow A (xs ++ [x]) v k = codeRow A xs v k := by
  unfold codeRow
  rw [List.take_append_of_le_length h]
theorem codeTo_app (A : Nat → Nat → Bool) {xs : List Int} (x : Int) : ∀ {j : Nat}, j ≤ xs.length → codeTo A (xs ++ [x]) j = codeTo A xs j := by
  intro j
  induction j with
  | zero => intro _; rfl
  | succ j ih =>
    intro h
    rw [codeTo, codeTo, ih (by omega), codeRow_app A _ _ (by omega), nth_app_lt (by omega)]
theorem codeA_snoc (A : Nat → Nat → Bool) (xs : List Int) (v : Int) : codeA A (xs ++ [v]) = codeA A xs ++ rowA A xs v := by
  unfold codeA rowA
  rw [List.length_append, List.length_singleton, codeTo, codeTo_app A v (Nat.le_refl _), codeRow_app A _ _ (Nat.le_refl _), nth_app_at]
/-- How long a code is. -/
def triN : Nat → Nat
  | 0 => 0
  | j + 1 => triN j + j
theorem codeTo_tri (A : Nat → Nat → Bool) (xs : List Int) : ∀ {j : Nat}, j ≤ xs.length → (codeTo A xs j).length = triN j := by
  intro j
  induction j with
  | zero => intro _; rfl
  | succ j ih =>
    intro h
    rw [codeTo, List.length_append, ih (by omega), triN]
    congr 1
    unfold codeRow
    simp
    omega
theorem codeA_len (A : Nat → Nat → Bool) (xs : List Int) : (codeA A xs).length = triN xs.length := codeTo_tri A xs (Nat.le_refl _)

/-- Unlike numbers below n. -/
def DistP (n : Nat) (xs : List Int) : Prop := (∀ i, i < xs.length → 0 ≤ nth xs i ∧ nth xs i < (n : Int)) ∧ ∀ i j, i < j → j < xs.length → nth xs i ≠ nth xs j
/-- v is below n and not among xs. -/
def FreshP (n : Nat) (xs : List Int) (v : Int) : Prop := 0 ≤ v ∧ v < (n : Int) ∧ ∀ i, i < xs.length → nth xs i ≠ v
theorem dist_snoc {n : Nat} {xs : List Int} {v : Int} : DistP n (xs ++ [v]) ↔ DistP n xs ∧ FreshP n xs v := by
  unfold DistP FreshP
  rw [List.length_append, List.length_singleton]
  constructor
  · rintro ⟨h1, h2⟩
    refine ⟨⟨fun i hi => by have := h1 i (by omega); rwa [nth_app_lt hi] at this, fun i j hij hj => by have := h2 i j hij (by omega); rwa [nth_app_lt (by omega), nth_app_lt hj] at this⟩, ?_⟩
    have h3 := h1 xs.length (by omega)
    rw [nth_app_at] at h3
    exact ⟨h3.1, h3.2, fun i hi => by have := h2 i xs.length hi (by omega); rwa [nth_app_lt hi, nth_app_at] at this⟩
  · rintro ⟨⟨h1, h2⟩, h3, h4, h5⟩
    constructor
    · intro i hi
      by_cases e : i < xs.length
      · rw [nth_app_lt e]; exact h1 i e
      · obtain rfl : i = xs.length := by omega
        rw [nth_app_at]; exact ⟨h3, h4⟩
    · intro i j hij hj
      by_cases e : j < xs.length
      · rw [nth_app_lt (by omega), nth_app_lt e]; exact h2 i j hij e
      · obtain rfl : j = xs.length := by omega
        rw [nth_app_at, nth_app_lt hij]; exact h5 i hij
theorem fresh_some {n : Nat} {xs : List Int} (h : xs.length < n) : ∃ v, FreshP n xs v := by
  rcases Classical.em (∃ v, FreshP n xs v) with h' | h'
  · exact h'
  · exfalso
    have hsub : ∀ z, z ∈ allL n → z ∈ xs := by
      intro z hz
      obtain ⟨i, hi, rfl⟩ := (allL_mem n z).1 hz
      rcases Classical.em ((i : Int) ∈ xs) with hm | hm
      · exact hm
      · exact (h' ⟨i, by omega, by omega, fun j hj e => hm (by rw [← e, nth_eq hj]; exact List.getElem_mem _)⟩).elim
    have hnd : (allL n).Nodup := (allL_pair n).imp (fun h => by omega)
    have := hnd.length_le_of_subset hsub
    rw [allL_len] at this
    omega
/-- xs has the least code of its length. -/
def MinP (A : Nat → Nat → Bool) (n k : Nat) (xs : List Int) : Prop := DistP n xs ∧ xs.length = k ∧ ∀ ys, DistP n ys → ys.length = k → ¬ LexLt (codeA A ys) (codeA A xs)
theorem min_code {A : Nat → Nat → Bool} {n k : Nat} {xs ys : List Int} (h : MinP A n k xs) (h' : MinP A n k ys) : codeA A xs = codeA A ys := by
  rcases lex_total (triN k) (a := codeA A xs) (b := codeA A ys) (by rw [codeA_len, h.2.1]) (by rw [codeA_len, h'.2.1]) with e | e | e
  · exact (h'.2.2 xs h.1 h.2.1 e).elim
  · exact e
  · exact (h.2.2 ys h'.1 h'.2.1 e).elim
theorem min_step {A : Nat → Nat → Bool} {n k : Nat} (hk : k < n) {xs : List Int} {v : Int} : MinP A n (k + 1) (xs ++ [v]) ↔ MinP A n k xs ∧ FreshP n xs v ∧ ∀ ys u, MinP A n k ys → FreshP n ys u → ¬ LexLt (rowA A ys u) (rowA A xs v) := by
  constructor
  · rintro ⟨h1, h2, h3⟩
    obtain ⟨hd, hf⟩ := dist_snoc.1 h1
    have hl : xs.length = k := by simpa using h2
    have hm : MinP A n k xs := ⟨hd, hl, fun ys hy hyl hlt => by
      obtain ⟨u, hu⟩ := fresh_some (n := n) (xs := ys) (by omega)
      refine h3 (ys ++ [u]) (dist_snoc.2 ⟨hy, hu⟩) (by simp [hyl]) ?_
      rw [codeA_snoc, codeA_snoc, lex_app (by rw [codeA_len, codeA_len, hyl, hl])]
      exact .inl hlt⟩
    refine ⟨hm, hf, fun ys u hy hu hlt => ?_⟩
    refine h3 (ys ++ [u]) (dist_snoc.2 ⟨hy.1, hu⟩) (by simp [hy.2.1]) ?_
    rw [codeA_snoc, codeA_snoc, lex_app (by rw [codeA_len, codeA_len, hy.2.1, hl])]
    exact .inr ⟨min_code hy hm, hlt⟩
  · rintro ⟨hm, hf, hr⟩
    refine ⟨dist_snoc.2 ⟨hm.1, hf⟩, by simp [hm.2.1], fun zs hz hzl hlt => ?_⟩
    obtain ⟨ys, u, rfl⟩ : ∃ ys u, zs = ys ++ [u] := by
      refine ⟨zs.take k, nth zs k, ?_⟩
      rw [← take_more (by omega), List.take_of_length_le (by omega)]
    obtain ⟨hy, hu⟩ := dist_snoc.1 hz
    have hyl : ys.length = k := by simpa using hzl
    rw [codeA_snoc, codeA_snoc, lex_app (by rw [codeA_len, codeA_len, hyl, hm.2.1])] at hlt
    rcases hlt with h | ⟨e, h⟩
    · exact hm.2.2 ys hy hyl h
    · exact hr ys u ⟨hy, hyl, fun zs hz hzl h => hm.2.2 zs hz hzl (by rw [← e]; exact h)⟩ hu h

end Go.Proofs.YtohjfcfcopbmoaaGreatDoor

/- Plain facts: the lightest to follow; the least order of the least code is among the lists that are searched, and is found. -/
namespace Go.Proofs.YtohjfcfcopbmoaaGreatDoor

theorem codeRow_len' (A : Nat → Nat → Bool) {xs : List Int} (v : Int) {k : Nat} (h : k ≤ xs.length) : (codeRow A xs v k).length = k := by simp [codeRow]; omega
/-- The lightest to follow xs, as far as the first k tell. -/
def litTo (M : Nat → Nat) (n : Nat) (xs : List Int) : Nat → Nat
  | 0 => unN n xs
  | k + 1 => if clrM (litTo M n xs k) (M (nth xs k).toNat) ≠ 0 then clrM (litTo M n xs k) (M (nth xs k).toNat) else litTo M n xs k
def litN (M : Nat → Nat) (n : Nat) (xs : List Int) : Nat := litTo M n xs xs.length
theorem un_lt {n : Nat} (hn : n ≤ 16) (xs : List Int) : unN n xs < 65536 := unTo_lt hn xs xs.length
theorem litTo_lt {M : Nat → Nat} {n : Nat} {xs : List Int} (h : unN n xs < 65536) (k : Nat) : litTo M n xs k < 65536 := by
  induction k with
  | zero => exact h
  | succ k ih => rw [litTo]; split; exact clrM_lt _ ih; exact ih
theorem litTo_bit {M : Nat → Nat} (hM : ∀ i, M i < 65536) {n : Nat} (hn : n ≤ 16) {xs : List Int} (hx : InL xs) : ∀ {k : Nat}, k ≤ xs.length → ∀ v : Nat, (litTo M n xs k).testBit v = true ↔ (v < n ∧ hasB xs (v : Int) = false) ∧ ∀ u : Nat, u < n → hasB xs (u : Int) = false → ¬ LexLt (codeRow (hostM M) xs (u : Int) k) (codeRow (hostM M) xs (v : Int) k) := by
  intro k
  induction k with
  | zero =>
    intro _ v
    rw [litTo, unN_bit hn hx]
    refine ⟨fun h => ⟨h, fun u _ _ hlt => ?_⟩, fun h => h.1⟩
    rw [codeRow_zero, codeRow_zero] at hlt
    exact lex_irrefl hlt
  | succ k ih =>
    intro hk v
    have ih := ih (by omega)
    have hlen : ∀ a : Int, (codeRow (hostM M) xs a k).length = k := fun a => codeRow_len' _ a (by omega)
    have hone : ∀ a b : Int, LexLt [flagI (hostM M (nth xs k).toNat a.toNat)] [flagI (hostM M (nth xs k).toNat b.toNat)] ↔ hostM M (nth xs k).toNat a.toNat = false ∧ hostM M (nth xs k).toNat b.toNat = true := by
      intro a b
      cases hostM M (nth xs k).toNat a.toNat <;> cases hostM M (nth xs k).toNat b.toNat
      · exact ⟨fun h => (lex_irrefl h).elim, fun h => by cases h.2⟩
      · exact ⟨fun _ => ⟨rfl, rfl⟩, fun _ => ⟨0, by simp, by simp, fun j hj => absurd hj (by omega), by decide⟩⟩
      · refine ⟨fun h => ?_, fun h => by cases h.1⟩
        obtain ⟨j, h1, _, _, h4⟩ := h
        obtain rfl : j = 0 := by simpa using h1
        exact absurd h4 (by decide)
      · exact ⟨fun h => (lex_irrefl h).elim, fun h => by cases h.1⟩
    have hst : ∀ a b : Int, LexLt (codeRow (hostM M) xs a (k + 1)) (codeRow (hostM M) xs b (k + 1)) ↔ LexLt (codeRow (hostM M) xs a k) (codeRow (hostM M) xs b k) ∨ (codeRow (hostM M) xs a k = codeRow (hostM M) xs b k ∧ hostM M (nth xs k).toNat a.toNat = false ∧ hostM M (nth xs k).toNat b.toNat = true) := by
      intro a b
      rw [codeRow_succ _ a (by omega), codeRow_succ _ b (by omega), lex_app (by rw [hlen, hlen]), hone]
    have hcb : ∀ a : Nat, (clrM (litTo M n xs k) (M (nth xs k).toNat)).testBit a = true ↔ (litTo M n xs k).testBit a = true ∧ hostM M (nth xs k).toNat a = false := by
      intro a
      rw [clrM_bit (litTo_lt (un_lt hn xs) k) (hM _)]
      show _ ↔ _ ∧ (M (nth xs k).toNat).testBit a = false
      cases (litTo M n xs k).testBit a <;> cases (M (nth xs k).toNat).testBit a <;> simp
    have hsame : ∀ a b : Nat, (litTo M n xs k).testBit a = true → (litTo M n xs k).testBit b = true → codeRow (hostM M) xs (a : Int) k = codeRow (hostM M) xs (b : Int) k := by
      intro a b ha hb
      have h1 := (ih a).1 ha
      have h2 := (ih b).1 hb
      rcases lex_total k (hlen a) (hlen b) with e | e | e
      · exact (h2.2 a h1.1.1 h1.1.2 e).elim
      · exact e
      · exact (h1.2 b h2.1.1 h2.1.2 e).elim
    rw [litTo]
    constructor
    · intro hv
      by_cases hap : clrM (litTo M n xs k) (M (nth xs k).toNat) ≠ 0
      · rw [if_pos hap, hcb] at hv
        have h1 := (ih v).1 hv.1
        refine ⟨h1.1, fun u hu1 hu2 hlt => ?_⟩
        rcases (hst u v).1 hlt with h | ⟨_, _, h⟩
        · exact h1.2 u hu1 hu2 h
        · rw [Int.toNat_natCast, hv.2] at h; cases h
      · rw [if_neg hap] at hv
        have h1 := (ih v).1 hv
        refine ⟨h1.1, fun u hu1 hu2 hlt => ?_⟩
        rcases (hst u v).1 hlt with h | ⟨e, h, _⟩
        · exact h1.2 u hu1 hu2 h
        · have hum : (litTo M n xs k).testBit u = true := (ih u).2 ⟨⟨hu1, hu2⟩, fun u' h1' h2' h' => h1.2 u' h1' h2' (by rw [← e]; exact h')⟩
          have := (hcb u).2 ⟨hum, by rw [Int.toNat_natCast] at h; exact h⟩
          rw [Classical.not_not.1 hap] at this
          simp at this
    · rintro ⟨h1, h2⟩
      have hv : (litTo M n xs k).testBit v = true := (ih v).2 ⟨h1, fun u hu1 hu2 h => h2 u hu1 hu2 ((hst u v).2 (.inl h))⟩
      by_cases hap : clrM (litTo M n xs k) (M (nth xs k).toNat) ≠ 0
      · rw [if_pos hap, hcb]
        refine ⟨hv, ?_⟩
        cases hf : hostM M (nth xs k).toNat v with
        | false => rfl
        | true =>
          exfalso
          obtain ⟨a, ha⟩ : ∃ a, (clrM (litTo M n xs k) (M (nth xs k).toNat)).testBit a = true := by
            rcases Classical.em (∃ a, (clrM (litTo M n xs k) (M (nth xs k).toNat)).testBit a = true) with h | h
            · exact h
            · exact absurd (bit_ext fun a => ⟨fun ha => absurd ⟨a, ha⟩ h, fun ha => by simp at ha⟩) hap
          have ha2 := (hcb a).1 ha
          have ha3 := (ih a).1 ha2.1
          exact h2 a ha3.1.1 ha3.1.2 ((hst a v).2 (.inr ⟨hsame a v ha2.1 hv, by rw [Int.toNat_natCast]; exact ha2.2, by rw [Int.toNat_natCast]; exact hf⟩))
      · rw [if_neg hap]; exact hv

theorem fresh_has {n : Nat} {xs : List Int} {v : Nat} : FreshP n xs (v : Int) ↔ v < n ∧ hasB xs (v : Int) = false := by
  unfold FreshP
  rw [← Bool.not_eq_true, hasB_iff]
  constructor
  · rintro ⟨_, h1, h2⟩; exact ⟨by omega, fun ⟨i, hi, e⟩ => h2 i hi e⟩
  · rintro ⟨h1, h2⟩; exact ⟨by omega, by omega, fun i hi e => h2 ⟨i, hi, e⟩⟩
/-- The least order among those of the least code. -/
def CanP (A : Nat → Nat → Bool) (n : Nat) (z : List Int) : Prop := MinP A n n z ∧ ∀ y, MinP A n n y → y = z ∨ LexLt z y
theorem can_one {A : Nat → Nat → Bool} {n : Nat} {y z : List Int} (h : CanP A n y) (h' : CanP A n z) : y = z := by
  rcases h'.2 y h.1 with e | e
  · exact e
  · rcases h.2 z h'.1 with e' | e'
    · exact e'.symm
    · exact (lex_asymm e e').elim
theorem min_take {A : Nat → Nat → Bool} {n : Nat} {z : List Int} (h : MinP A n n z) : ∀ d, d ≤ n → MinP A n (n - d) (z.take (n - d)) := by
  intro d
  induction d with
  | zero => intro _; rw [Nat.sub_zero, List.take_of_length_le (by rw [h.2.1]; exact Nat.le_refl _)]; exact h
  | succ d ih =>
    intro hd
    have := ih (by omega)
    rw [show n - d = (n - (d + 1)) + 1 from by omega, take_more (by rw [h.2.1]; omega)] at this
    exact ((min_step (by omega)).1 this).1
theorem min_at {A : Nat → Nat → Bool} {n : Nat} {z : List Int} (h : MinP A n n z) {i : Nat} (hi : i < n) : MinP A n i (z.take i) ∧ FreshP n (z.take i) (nth z i) ∧ ∀ u, FreshP n (z.take i) u → ¬ LexLt (rowA A (z.take i) u) (rowA A (z.take i) (nth z i)) := by
  have := min_take h (n - (i + 1)) (by omega)
  rw [show n - (n - (i + 1)) = i + 1 from by omega, take_more (by rw [h.2.1]; exact hi)] at this
  obtain ⟨h1, h2, h3⟩ := (min_step hi).1 this
  exact ⟨h1, h2, fun u hu => h3 _ u h1 hu⟩

theorem codeRow_nth {A : Nat → Nat → Bool} {xs : List Int} {v : Int} {k i : Nat} (hk : k ≤ xs.length) (h : i < k) : nth (codeRow A xs v k) i = flagI (A (nth xs i).toNat v.toNat) := by
  rw [nth_eq (by rw [codeRow_len' A v hk]; exact h)]
  simp only [codeRow, List.getElem_map, List.getElem_take, nth_eq (show i < xs.length by omega)]
/-- Twins that change places leave the code as it was. -/
theorem swap_code {A : Nat → Nat → Bool} (hA : ∀ a b, A a b = A b a) {u v : Nat} (ht : ∀ x, x ≠ u → x ≠ v → A u x = A v x) {n : Nat} {z : List Int} (hd : DistP n z) : codeA A (swL u v z) = codeA A z := by
  have key : ∀ j, j ≤ z.length → codeTo A (swL u v z) j = codeTo A z j := by
    intro j
    induction j with
    | zero => intro _; rfl
    | succ j ih =>
      intro hj
      rw [codeTo, codeTo, ih (by omega)]
      congr 1
      refine nth_ext (by rw [codeRow_len' _ _ (by rw [swL_len]; omega), codeRow_len' _ _ (by omega)]) (fun i hi => ?_)
      rw [codeRow_len' _ _ (by rw [swL_len]; omega)] at hi
      rw [codeRow_nth (by rw [swL_len]; omega) hi, codeRow_nth (by omega) hi, swL_nth (by omega), swL_nth (by omega), Int.toNat_natCast, Int.toNat_natCast]
      congr 1
      have h1 := hd.1 i (by omega)
      have h2 := hd.1 j (by omega)
      have h3 := hd.2 i j hi (by omega)
      exact swN_near hA ht (by omega)
  unfold codeA
  rw [swL_len]
  exact key _ (Nat.le_refl _)
theorem swap_dist {n u v : Nat} (hu : u < n) (hv : v < n) {z : List Int} (hd : DistP n z) : DistP n (swL u v z) := by
  refine ⟨fun i hi => ?_, fun i j hij hj => ?_⟩
  · rw [swL_len] at hi
    rw [swL_nth hi]
    have := hd.1 i hi
    have := swN_lt hu hv (show (nth z i).toNat < n by omega)
    omega
  · rw [swL_len] at hj
    rw [swL_nth (by omega), swL_nth hj]
    have h1 := hd.1 i (by omega)
    have h2 := hd.1 j (by omega)
    have h3 := hd.2 i j hij hj
    intro e
    have := swN_inj (show swN u v (nth z i).toNat = swN u v (nth z j).toNat by omega)
    omega
/-- All that is searched. -/
def seekL (M : Nat → Nat) (n : Nat) : List (List Int) := enumL (turnN (litN M n) n (twN M n)) n []
theorem can_in {M : Nat → Nat} (hM : ∀ i, M i < 65536) {n : Nat} (hn : n ≤ 16) (hA : ∀ a b, hostM M a b = hostM M b a) {z : List Int} (h : CanP (hostM M) n z) : z ∈ seekL M n := by
  obtain ⟨hd, hl, hmin⟩ := h.1
  unfold seekL
  rw [enum_mem]
  refine ⟨by simp, by simpa using hl, fun i _ hi => ?_⟩
  simp only [List.length_nil, Nat.zero_add] at hi
  obtain ⟨h1, h2, h3⟩ := min_at h.1 hi
  have hzi := hd.1 i (by omega)
  obtain ⟨v, hv⟩ : ∃ v : Nat, nth z i = (v : Int) := ⟨(nth z i).toNat, by omega⟩
  have htl : (z.take i).length = i := by rw [List.length_take]; omega
  have hxi : InL (z.take i) := fun j hj => by
    rw [htl] at hj
    rw [nth_take (by omega)]
    have := hd.1 j (by omega)
    omega
  rw [hv] at h2 h3
  have hlit : (litN M n (z.take i)).testBit v = true := by
    unfold litN
    rw [litTo_bit hM hn hxi (Nat.le_refl _)]
    exact ⟨fresh_has.1 h2, fun u hu1 hu2 => h3 u (fresh_has.2 ⟨hu1, hu2⟩)⟩
  have hvn : v < n := by omega
  refine (listM_mem _ _).2 ⟨v, by omega, (turnN_bit (fun xs => litTo_lt (un_lt hn xs) _)).2 ⟨hlit, ?_⟩, hv.symm⟩
  refine Classical.not_not.1 fun hno => ?_
  obtain ⟨u, hu⟩ : ∃ u, (twN M n v &&& unN n (z.take i)).testBit u = true := by
    rcases Classical.em (∃ u, (twN M n v &&& unN n (z.take i)).testBit u = true) with h | h
    · exact h
    · exact absurd (bit_ext fun u => ⟨fun hu => absurd ⟨u, hu⟩ h, fun hu => by simp at hu⟩) hno
  rw [Nat.testBit_and, Bool.and_eq_true] at hu
  obtain ⟨hu1, hu2⟩ := hu
  rw [unN_bit hn hxi] at hu2
  unfold twN at hu1
  rw [if_pos hvn, twRow_bit (by omega)] at hu1
  obtain ⟨huv, htw⟩ := hu1
  have ht := (twin_iff hM (by omega) (by omega)).1 htw
  have hsc := swap_code hA ht hd
  have hsm : MinP (hostM M) n n (swL u v z) := ⟨swap_dist hu2.1 hvn hd, by rw [swL_len]; exact hl, fun ys hy hyl hlt => hmin ys hy hyl (by rw [← hsc]; exact hlt)⟩
  have hlt : LexLt (swL u v z) z := by
    refine ⟨i, by rw [swL_len]; omega, by omega, fun j hj => ?_, ?_⟩
    · rw [swL_nth (by omega)]
      have hj1 := hd.1 j (by omega)
      have e1 : (nth z j).toNat ≠ u := fun e => by
        have := hu2.2
        rw [← Bool.not_eq_true, hasB_iff] at this
        exact this ⟨j, by rw [htl]; exact hj, by rw [nth_take hj]; omega⟩
      have e2 : (nth z j).toNat ≠ v := fun e => hd.2 j i hj (by omega) (by omega)
      unfold swN
      rw [if_neg e1, if_neg e2]
      omega
    · rw [swL_nth (by omega), hv, Int.toNat_natCast]
      unfold swN
      rw [if_neg (by omega), if_pos rfl]
      omega
  rcases h.2 _ hsm with e | e
  · rw [e] at hlt; exact lex_irrefl hlt
  · exact lex_asymm hlt e
theorem seek_dist {M : Nat → Nat} (hM : ∀ i, M i < 65536) {n : Nat} (hn : n ≤ 16) {z : List Int} (h : z ∈ seekL M n) : DistP n z ∧ z.length = n := by
  unfold seekL at h
  have hm := enum_mem.1 h
  simp only [List.length_nil, Nat.zero_add, List.take_zero, true_and] at hm
  have key : ∀ k, k ≤ n → DistP n (z.take k) := by
    intro k
    induction k with
    | zero => intro _; exact ⟨fun i hi => absurd hi (by simp), fun i j _ hj => absurd hj (by simp)⟩
    | succ k ih =>
      intro hk
      have hd := ih (by omega)
      have htl : (z.take k).length = k := by rw [List.length_take]; omega
      rw [take_more (by omega), dist_snoc]
      refine ⟨hd, ?_⟩
      obtain ⟨v, hv16, hb, he⟩ := (listM_mem _ _).1 (hm.2 k (Nat.zero_le _) (by omega))
      have hlit := ((turnN_bit (fun xs => litTo_lt (un_lt hn xs) _)).1 hb).1
      unfold litN at hlit
      rw [litTo_bit hM hn (fun j hj => by have := hd.1 j hj; omega) (Nat.le_refl _)] at hlit
      rw [← he]
      exact fresh_has.2 hlit.1
  have := key n (Nat.le_refl _)
  rw [List.take_of_length_le (by omega)] at this
  exact ⟨this, hm.1⟩

open Classical in
/-- The better of two. -/
noncomputable def betterL (A : Nat → Nat → Bool) (b z : List Int) : List Int := if b = [] ∨ LexLt (codeA A z) (codeA A b) then z else b
/-- What the search keeps. -/
noncomputable def keptL (A : Nat → Nat → Bool) (Z : List (List Int)) : List Int := Z.foldl (betterL A) []
theorem kept_snoc (A : Nat → Nat → Bool) (Z : List (List Int)) (z : List Int) : keptL A (Z ++ [z]) = betterL A (keptL A Z) z := by simp [keptL, List.foldl_append]
theorem kept_is {A : Nat → Nat → Bool} {n : Nat} (hn : 0 < n) {Z : List (List Int)} (hs : Z.Pairwise LexLt) (hl : ∀ z ∈ Z, z.length = n) : ∀ k, k ≤ Z.length → 0 < k → keptL A (Z.take k) ∈ Z.take k ∧ ∀ z ∈ Z.take k, ¬ LexLt (codeA A z) (codeA A (keptL A (Z.take k))) ∧ (codeA A z = codeA A (keptL A (Z.take k)) → z = keptL A (Z.take k) ∨ LexLt (keptL A (Z.take k)) z) := by
  intro k
  induction k with
  | zero => intro _ h; omega
  | succ k ih =>
    intro hk _
    have hkk : k < Z.length := by omega
    rw [List.take_succ_eq_append_getElem hkk, kept_snoc]
    have hzm : Z[k] ∈ Z := List.getElem_mem _
    have hzl := hl _ hzm
    by_cases h0 : k = 0
    · subst h0
      have e : betterL A (keptL A (Z.take 0)) Z[0] = Z[0] := by unfold betterL; rw [if_pos (.inl (by simp [keptL]))]
      rw [e]
      refine ⟨by simp, fun z hz => ?_⟩
      have : z = Z[0] := by simpa using hz
      subst this
      exact ⟨fun h => lex_irrefl h, fun _ => .inl rfl⟩
    · obtain ⟨h1, h2⟩ := ih (by omega) (by omega)
      obtain ⟨b, hb⟩ : ∃ b, keptL A (Z.take k) = b := ⟨_, rfl⟩
      rw [hb] at h1 h2 ⊢
      have hbl := hl b (List.mem_of_mem_take h1)
      have hbz : LexLt b Z[k] := by
        obtain ⟨i, hi, rfl⟩ := List.getElem_of_mem h1
        rw [List.length_take] at hi
        rw [List.getElem_take]
        exact List.pairwise_iff_getElem.1 hs i k (by omega) hkk (by omega)
      have hbn : b ≠ [] := fun e => by rw [e] at hbl; simp at hbl; omega
      by_cases hlt : LexLt (codeA A Z[k]) (codeA A b)
      · have e : betterL A b Z[k] = Z[k] := by unfold betterL; rw [if_pos (.inr hlt)]
        rw [e]
        refine ⟨List.mem_append_right _ (by simp), fun z hz => ?_⟩
        rcases List.mem_append.1 hz with hz | hz
        · have h3 := h2 z hz
          refine ⟨fun h => h3.1 (lex_trans h hlt), fun e => (h3.1 (by rw [e]; exact hlt)).elim⟩
        · have : z = Z[k] := by simpa using hz
          subst this
          exact ⟨fun h => lex_irrefl h, fun _ => .inl rfl⟩
      · have e : betterL A b Z[k] = b := by unfold betterL; rw [if_neg (fun h => h.elim hbn hlt)]
        rw [e]
        refine ⟨List.mem_append_left _ h1, fun z hz => ?_⟩
        rcases List.mem_append.1 hz with hz | hz
        · exact h2 z hz
        · have : z = Z[k] := by simpa using hz
          subst this
          exact ⟨hlt, fun _ => .inr hbz⟩
/-- The search finds it. -/
theorem kept_can {M : Nat → Nat} (hM : ∀ i, M i < 65536) {n : Nat} (hn0 : 0 < n) (hn : n ≤ 16) (hA : ∀ a b, hostM M a b = hostM M b a) {z : List Int} (h : CanP (hostM M) n z) : keptL (hostM M) (seekL M n) = z := by
  have hin := can_in hM hn hA h
  have hlen : 0 < (seekL M n).length := List.length_pos_of_mem hin
  have hk := kept_is (A := hostM M) hn0 (Z := seekL M n) (enum_sorted _ _) (fun z hz => (seek_dist hM hn hz).2) _ (Nat.le_refl _) hlen
  rw [List.take_length] at hk
  obtain ⟨b, hb⟩ : ∃ b, keptL (hostM M) (seekL M n) = b := ⟨_, rfl⟩
  rw [hb] at hk ⊢
  obtain ⟨h1, h2⟩ := hk
  obtain ⟨hbd, hbl⟩ := seek_dist hM hn h1
  obtain ⟨h3, h4⟩ := h2 z hin
  have hcode : codeA (hostM M) z = codeA (hostM M) b := by
    rcases lex_total (triN n) (a := codeA (hostM M) z) (b := codeA (hostM M) b) (by rw [codeA_len, h.1.2.1]) (by rw [codeA_len, hbl]) with e | e | e
    · exact (h3 e).elim
    · exact e
    · exact (h.1.2.2 b hbd hbl e).elim
  have hbm : MinP (hostM M) n n b := ⟨hbd, hbl, fun ys hy hyl hlt => h.1.2.2 ys hy hyl (by rw [hcode]; exact hlt)⟩
  rcases h4 hcode with e | e
  · exact e.symm
  · rcases h.2 b hbm with e' | e'
    · exact e'
    · exact (lex_asymm e e').elim

end Go.Proofs.YtohjfcfcopbmoaaGreatDoor
