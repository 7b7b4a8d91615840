/- Plain facts: distances in a set of vertices, and the search by a queue that reckons them. -/
import Derived.Test.YtohjfcfcopbmoaaGreatDoorQBase

namespace Go.Proofs.YtohjfcfcopbmoaaGreatDoor

/-- From v one comes to u in k steps inside S. -/
def Wk (A : Nat → Nat → Bool) (S : Nat → Bool) (v : Nat) : Nat → Nat → Prop
  | 0, u => u = v ∧ S v = true
  | k + 1, u => S u = true ∧ ∃ w, Wk A S v k w ∧ A w u = true
/-- .. and in no fewer. -/
def AtD (A : Nat → Nat → Bool) (S : Nat → Bool) (v k u : Nat) : Prop := Wk A S v k u ∧ ∀ e, e < k → ¬ Wk A S v e u

section
variable {A : Nat → Nat → Bool} {S : Nat → Bool} {v : Nat}

theorem wk_in {k u : Nat} (h : Wk A S v k u) : S u = true := by
  cases k with
  | zero => obtain ⟨rfl, h⟩ := h; exact h
  | succ k => exact h.1
theorem atD_unique {j k u : Nat} (h : AtD A S v j u) (h' : AtD A S v k u) : j = k := by
  rcases Nat.lt_trichotomy j k with e | e | e
  · exact absurd h.1 (h'.2 j e)
  · exact e
  · exact absurd h'.1 (h.2 k e)
theorem wk_atD : ∀ {k u : Nat}, Wk A S v k u → ∃ j, j ≤ k ∧ AtD A S v j u := by
  intro k
  induction k using Nat.strongRecOn with
  | ind k ih =>
    intro u h
    by_cases hx : ∃ e, e < k ∧ Wk A S v e u
    · obtain ⟨e, he, hw⟩ := hx
      obtain ⟨j, hj, ha⟩ := ih e he hw
      exact ⟨j, by omega, ha⟩
    · exact ⟨k, Nat.le_refl _, h, fun e he hw => hx ⟨e, he, hw⟩⟩
theorem atD_pred {k u : Nat} (h : AtD A S v (k + 1) u) : ∃ w, AtD A S v k w ∧ A w u = true := by
  obtain ⟨⟨hs, w, hw, ha⟩, hn⟩ := h
  refine ⟨w, ⟨hw, fun e he hw' => hn (e + 1) (by omega) ⟨hs, w, hw', ha⟩⟩, ha⟩
theorem atD_succ {k u : Nat} : AtD A S v (k + 1) u ↔ S u = true ∧ (∃ w, AtD A S v k w ∧ A w u = true) ∧ ∀ j, j ≤ k → ¬ AtD A S v j u := by
  constructor
  · intro h
    exact ⟨h.1.1, atD_pred h, fun j hj h' => h.2 j (by omega) h'.1⟩
  · rintro ⟨hs, ⟨w, hw, ha⟩, hn⟩
    refine ⟨⟨hs, w, hw.1, ha⟩, fun e he hw' => ?_⟩
    obtain ⟨j, hj, h'⟩ := wk_atD hw'
    exact hn j (by omega) h'
theorem atD_zero {u : Nat} : AtD A S v 0 u ↔ u = v ∧ S v = true := ⟨fun h => h.1, fun h => ⟨h, fun e he => absurd he (by omega)⟩⟩
theorem atD_chain {k u : Nat} (h : AtD A S v k u) : ∀ j, j ≤ k → ∃ w, AtD A S v j w := by
  induction k generalizing u with
  | zero => intro j hj; obtain rfl : j = 0 := by omega
            exact ⟨u, h⟩
  | succ k ih =>
    intro j hj
    by_cases e : j = k + 1
    · subst e; exact ⟨u, h⟩
    · obtain ⟨w, hw, _⟩ := atD_pred h
      exact ih hw j (by omega)
theorem atD_lt {n : Nat} (hS : ∀ u, S u = true → u < n) {k u : Nat} (h : AtD A S v k u) : k < n := by
  have hc := atD_chain h
  have hf : ∀ j : Nat, ∃ w, j ≤ k → AtD A S v j w := fun j => by
    by_cases hj : j ≤ k
    · obtain ⟨w, hw⟩ := hc j hj; exact ⟨w, fun _ => hw⟩
    · exact ⟨0, fun h => absurd h hj⟩
  obtain ⟨f, hf⟩ := Classical.axiomOfChoice hf
  have hnd : ((List.range (k + 1)).map f).Nodup := by
    rw [List.nodup_iff_pairwise_ne, List.pairwise_map]
    refine List.Pairwise.imp_of_mem ?_ (List.nodup_iff_pairwise_ne.1 List.nodup_range)
    intro a b ha hb hne e
    rw [List.mem_range] at ha hb
    have h1 := hf a (by omega)
    have h2 := hf b (by omega)
    rw [e] at h1
    exact hne (atD_unique h1 h2)
  have := hnd.length_le_of_subset (l₂ := List.range n) (fun x hx => by
    rw [List.mem_map] at hx
    obtain ⟨a, ha, rfl⟩ := hx
    rw [List.mem_range] at ha ⊢
    exact hS _ (wk_in (hf a (by omega)).1))
  simp at this
  omega
end

/-- The distance; -1 where there is no way. -/
noncomputable def dOf (A : Nat → Nat → Bool) (S : Nat → Bool) (v u : Nat) : Int :=
  open Classical in if h : ∃ k, AtD A S v k u then ((Classical.choose h : Nat) : Int) else -1
section
variable {A : Nat → Nat → Bool} {S : Nat → Bool} {v : Nat}
theorem dOf_at {k u : Nat} (h : AtD A S v k u) : dOf A S v u = (k : Int) := by
  have hx : ∃ k, AtD A S v k u := ⟨k, h⟩
  unfold dOf
  rw [dif_pos hx]
  exact congrArg _ (atD_unique (Classical.choose_spec hx) h)
theorem dOf_none {u : Nat} (h : ∀ k, ¬ AtD A S v k u) : dOf A S v u = -1 := by
  unfold dOf
  rw [dif_neg (fun ⟨k, hk⟩ => h k hk)]
theorem dOf_lt {n : Nat} (hS : ∀ u, S u = true → u < n) (u : Nat) : dOf A S v u < n ∨ dOf A S v u = -1 := by
  rcases Classical.em (∃ k, AtD A S v k u) with ⟨k, hk⟩ | hx
  · rw [dOf_at hk]; have := atD_lt hS hk; omega
  · rw [dOf_none (fun k hk => hx ⟨k, hk⟩)]; omega
end

theorem nth_set_same {xs : List Int} {i : Nat} (h : i < xs.length) (x : Int) : nth (xs.set i x) i = x := by
  rw [nth_eq (by rw [List.length_set]; exact h)]; simp
theorem nth_set_other {xs : List Int} {i j : Nat} (hne : i ≠ j) (x : Int) : nth (xs.set i x) j = nth xs j := by
  simp [nth, List.getD_eq_getElem?_getD, hne]
theorem nth_append_lt {xs ys : List Int} {i : Nat} (h : i < xs.length) : nth (xs ++ ys) i = nth xs i := by
  simp [nth, List.getD_eq_getElem?_getD, List.getElem?_append_left h]
theorem nth_append_at (xs : List Int) (x : Int) : nth (xs ++ [x]) xs.length = x := by simp [nth]

/-- A search by a queue, half done: the first i that were met are served. -/
structure Bfs (A : Nat → Nat → Bool) (S : Nat → Bool) (v n : Nat) (out met : List Int) (i : Nat) : Prop where
  len : out.length = n
  rng : ∀ x ∈ met, 0 ≤ x ∧ x < (n : Int)
  nodup : met.Nodup
  src : v < n ∧ 0 ≤ nth out v
  neg : ∀ u, u < n → nth out u < 0 → nth out u = -1
  mem : ∀ u, u < n → (0 ≤ nth out u ↔ (u : Int) ∈ met)
  dist : ∀ u, u < n → 0 ≤ nth out u → AtD A S v (nth out u).toNat u
  mono : ∀ a b, a ≤ b → b < met.length → nth out (nth met a).toNat ≤ nth out (nth met b).toNat
  near : ∀ b, b < met.length → i < met.length → nth out (nth met b).toNat ≤ nth out (nth met i).toNat + 1
  done : ∀ a, a < i → ∀ u, u < n → A (nth met a).toNat u = true → S u = true → 0 ≤ nth out u
  le : i ≤ met.length

namespace Bfs
variable {A : Nat → Nat → Bool} {S : Nat → Bool} {v n : Nat} {out met : List Int} {i : Nat}
theorem at_lt (h : Bfs A S v n out met i) {a : Nat} (ha : a < met.length) : 0 ≤ nth met a ∧ nth met a < (n : Int) := h.rng _ (nth_mem ha)
theorem out_nonneg (h : Bfs A S v n out met i) {a : Nat} (ha : a < met.length) : 0 ≤ nth out (nth met a).toNat := by
  have := h.at_lt ha
  rw [h.mem _ (by omega)]
  rw [show (((nth met a).toNat : Nat) : Int) = nth met a from by omega]
  exact nth_mem ha
theorem idx (h : Bfs A S v n out met i) {u : Nat} (hu : u < n) (h0 : 0 ≤ nth out u) : ∃ a, a < met.length ∧ nth met a = (u : Int) := by
  obtain ⟨a, ha, e⟩ := List.getElem_of_mem ((h.mem u hu).1 h0)
  exact ⟨a, ha, by rw [nth_eq ha]; exact e⟩
/-- Whatever is no farther than the one that is being served has been met. -/
theorem met_of (h : Bfs A S v n out met i) (hS : ∀ u, S u = true → u < n) (d : Int) (hd : i < met.length → d ≤ nth out (nth met i).toNat) : ∀ (e u : Nat), (i < met.length → (e : Int) ≤ d) → Wk A S v e u → 0 ≤ nth out u := by
  intro e
  induction e with
  | zero => rintro u _ ⟨rfl, _⟩; exact h.src.2
  | succ e ih =>
    rintro u he ⟨hs, w, hw, ha⟩
    have hwn := hS w (wk_in hw)
    have h0 := ih w (fun hi => by have := he hi; omega) hw
    have hat := h.dist w hwn h0
    obtain ⟨a, hal, hae⟩ := h.idx hwn h0
    have hle : (nth out w).toNat ≤ e := Nat.le_of_not_lt fun hlt => hat.2 e hlt hw
    refine h.done a ?_ u (hS u hs) (by rw [hae]; exact ha) hs
    rcases Nat.lt_or_ge a i with hai | hai
    · exact hai
    · exfalso
      have h1 := h.mono i a hai hal
      have h2 := hd (by omega)
      have h3 := he (by omega)
      rw [hae] at h1
      simp at h1
      omega
theorem start (hv : v < n) (hs : S v = true) : Bfs A S v n ((List.replicate n (-1)).set v 0) [(v : Int)] 0 := by
  have hnth : ∀ u, u < n → nth ((List.replicate n (-1)).set v 0) u = if u = v then 0 else -1 := by
    intro u hu
    by_cases e : u = v
    · subst e; rw [nth_set_same (by simpa using hv), if_pos rfl]
    · rw [nth_set_other (by omega), if_neg e, nth_eq (by simpa using hu)]; simp
  refine ⟨by simp, ?_, by simp, ⟨hv, by rw [hnth v hv, if_pos rfl]; omega⟩, ?_, ?_, ?_, ?_, ?_, ?_, by simp⟩
  · intro x hx; simp at hx; subst hx; omega
  · intro u hu h; rw [hnth u hu] at h ⊢; by_cases e : u = v
    · rw [if_pos e] at h; omega
    · rw [if_neg e]
  · intro u hu; rw [hnth u hu]; by_cases e : u = v
    · subst e; simp
    · rw [if_neg e]; simp; omega
  · intro u hu h; rw [hnth u hu] at h ⊢; by_cases e : u = v
    · rw [if_pos e]; exact atD_zero.2 ⟨e, hs⟩
    · rw [if_neg e] at h; omega
  · intro a b hab hb; simp at hb; obtain rfl : a = b := by omega
    exact Int.le_refl _
  · intro b hb _; simp at hb; subst hb; omega
  · intro a ha; omega
theorem add (h : Bfs A S v n out met i) (hS : ∀ u, S u = true → u < n) (hi : i < met.length) {u : Nat} (hu : u < n) (ha : A (nth met i).toNat u = true) (hs : S u = true) (hn : nth out u < 0) :
    Bfs A S v n (out.set u (nth out (nth met i).toNat + 1)) (met ++ [(u : Int)]) i := by
  obtain ⟨m, hm⟩ : ∃ m, m = (nth met i).toNat := ⟨_, rfl⟩
  rw [← hm] at ha ⊢
  have hmi := h.at_lt hi
  have hml : m < n := by omega
  have hm0 : 0 ≤ nth out m := by rw [hm]; exact h.out_nonneg hi
  have hum : u ≠ m := fun e => by rw [e] at hn; omega
  have hul : u < out.length := by rw [h.len]; exact hu
  have hnm : (u : Int) ∉ met := fun hx => by have := (h.mem u hu).2 hx; omega
  have hset : ∀ x, nth (out.set u (nth out m + 1)) x = if x = u then nth out m + 1 else nth out x := by
    intro x
    by_cases e : x = u
    · subst e; rw [nth_set_same hul, if_pos rfl]
    · rw [nth_set_other (fun e' => e e'.symm), if_neg e]
  have hmet : ∀ a, a < met.length → nth (met ++ [(u : Int)]) a = nth met a := fun a ha => nth_append_lt ha
  have hmu : ∀ a, a < met.length → (nth met a).toNat ≠ u := fun a ha e => by
    have h1 := h.at_lt ha
    apply hnm
    rw [← e, show (((nth met a).toNat : Nat) : Int) = nth met a from by omega]
    exact nth_mem ha
  have hold : ∀ a, a < met.length → nth (out.set u (nth out m + 1)) (nth (met ++ [(u : Int)]) a).toNat = nth out (nth met a).toNat := fun a ha => by
    rw [hmet a ha, hset, if_neg (hmu a ha)]
  have hnew : nth (out.set u (nth out m + 1)) (nth (met ++ [(u : Int)]) met.length).toNat = nth out m + 1 := by
    rw [nth_append_at, hset]; simp
  have hatm := h.dist m hml hm0
  have hatu : AtD A S v ((nth out m).toNat + 1) u := by
    refine ⟨⟨hs, m, hatm.1, ha⟩, fun e he hw => ?_⟩
    have := h.met_of hS (nth out m) (fun _ => by rw [← hm]; exact Int.le_refl _) e u (fun _ => by omega) hw
    omega
  refine ⟨by rw [List.length_set]; exact h.len, ?_, ?_, ⟨h.src.1, ?_⟩, ?_, ?_, ?_, ?_, ?_, ?_, ?_⟩
  · intro x hx
    rcases List.mem_append.1 hx with hx | hx
    · exact h.rng x hx
    · simp at hx; subst hx; omega
  · rw [List.nodup_append]
    refine ⟨h.nodup, by simp, fun a ha b hb => ?_⟩
    simp at hb; subst hb
    intro e; subst e; exact hnm ha
  · rw [hset]; split
    · omega
    · exact h.src.2
  · intro x hx hxn; rw [hset] at hxn ⊢; split at hxn
    · omega
    · rename_i hne; rw [if_neg hne]; exact h.neg x hx hxn
  · intro x hx
    rw [hset]
    by_cases e : x = u
    · subst e; simp; omega
    · rw [if_neg e, h.mem x hx, List.mem_append]
      simp only [List.mem_singleton]
      constructor
      · exact fun hh => .inl hh
      · rintro (hh | hh)
        · exact hh
        · exact absurd (by omega) e
  · intro x hx hx0
    rw [hset] at hx0 ⊢
    by_cases e : x = u
    · rw [if_pos e, e]
      rw [show (nth out m + 1).toNat = (nth out m).toNat + 1 from by omega]
      exact hatu
    · rw [if_neg e] at hx0 ⊢; exact h.dist x hx hx0
  · intro a b hab hb
    simp at hb
    by_cases e : b = met.length
    · subst e
      rw [hnew]
      by_cases e2 : a = met.length
      · subst e2; rw [hnew]; exact Int.le_refl _
      · rw [hold a (by omega)]
        have := h.near a (by omega) hi
        rw [← hm] at this; exact this
    · rw [hold a (by omega), hold b (by omega)]
      exact h.mono a b hab (by omega)
  · intro b hb _
    simp at hb
    rw [hold i hi, ← hm]
    by_cases e : b = met.length
    · subst e; rw [hnew]; exact Int.le_refl _
    · rw [hold b (by omega)]
      have := h.near b (by omega) hi
      rw [← hm] at this; exact this
  · intro a hai x hx hax hsx
    rw [hmet a (by omega)] at hax
    have := h.done a hai x hx hax hsx
    rw [hset]; split
    · omega
    · exact this
  · simp; have := h.le; omega
theorem next (h : Bfs A S v n out met i) (hi : i < met.length) (hd : ∀ u, u < n → A (nth met i).toNat u = true → S u = true → 0 ≤ nth out u) : Bfs A S v n out met (i + 1) := by
  refine ⟨h.len, h.rng, h.nodup, h.src, h.neg, h.mem, h.dist, h.mono, ?_, ?_, hi⟩
  · intro b hb hi2
    have h1 := h.near b hb hi
    have h2 := h.mono i (i + 1) (by omega) hi2
    omega
  · intro a ha u hu hau hsu
    by_cases e : a = i
    · subst e; exact hd u hu hau hsu
    · exact h.done a (by omega) u hu hau hsu
end Bfs

end Go.Proofs.YtohjfcfcopbmoaaGreatDoor
