/- The texts CO1, CO2, CS2, EM1, joined. -/
import Derived.Test.YtohjfcfcopbmoaaGreatDoorQM1
import Derived.Test.YtohjfcfcopbmoaaGreatDoorQC1
import Derived.Test.YtohjfcfcopbmoaaGreatDoorQF6
import Derived.Test.YtohjfcfcopbmoaaGreatDoorQCX3
import Derived.Test.YtohjfcfcopbmoaaGreatDoorQEL4
import Derived.BigQuiet

/- Walks: the adjacency code, of the model. -/
namespace Go.Proofs.YtohjfcfcopbmoaaGreatDoor
open Go.RowKit

/-- 1 or 0. -/
def flagI (b : Bool) : Int := if b then 1 else 0
theorem flagI_rng (b : Bool) : 0 ≤ flagI b ∧ flagI b ≤ 1 := by cases b <;> simp [flagI]
/-- What the vertex v adds to the code behind the first k of xs. -/
def codeRow (A : Nat → Nat → Bool) (xs : List Int) (v : Int) (k : Nat) : List Int := (xs.take k).map (fun u => flagI (A u.toNat v.toNat))
theorem codeRow_zero (A : Nat → Nat → Bool) (xs : List Int) (v : Int) : codeRow A xs v 0 = [] := by simp [codeRow]
theorem codeRow_succ (A : Nat → Nat → Bool) {xs : List Int} (v : Int) {k : Nat} (h : k < xs.length) : codeRow A xs v (k + 1) = codeRow A xs v k ++ [flagI (A (nth xs k).toNat v.toNat)] := by
  unfold codeRow
  simp only [List.take_add_one, List.getElem?_eq_getElem h, Option.toList_some, List.map_append, List.map_cons, List.map_nil, nth_eq h]
theorem codeRow_len (A : Nat → Nat → Bool) (xs : List Int) (v : Int) (k : Nat) : (codeRow A xs v k).length ≤ k := by simp [codeRow]; omega
theorem codeRow_rng (A : Nat → Nat → Bool) (xs : List Int) (v : Int) (k : Nat) : ∀ x ∈ codeRow A xs v k, 0 ≤ x ∧ x ≤ 1 := by
  intro x hx
  unfold codeRow at hx
  rw [List.mem_map] at hx
  obtain ⟨u, _, rfl⟩ := hx
  exact flagI_rng _
/-- The code of the first j of xs. -/
def codeTo (A : Nat → Nat → Bool) (xs : List Int) : Nat → List Int
  | 0 => []
  | j + 1 => codeTo A xs j ++ codeRow A xs (nth xs j) j
theorem codeTo_len (A : Nat → Nat → Bool) (xs : List Int) (j : Nat) : (codeTo A xs j).length ≤ j * j := by
  induction j with
  | zero => simp [codeTo]
  | succ j ih =>
    rw [codeTo, List.length_append, Nat.succ_mul, Nat.mul_succ]
    have := codeRow_len A xs (nth xs j) j
    omega
theorem codeTo_rng (A : Nat → Nat → Bool) (xs : List Int) (j : Nat) : ∀ x ∈ codeTo A xs j, 0 ≤ x ∧ x ≤ 1 := by
  induction j with
  | zero => intro x hx; simp [codeTo] at hx
  | succ j ih =>
    intro x hx
    rw [codeTo, List.mem_append] at hx
    rcases hx with hx | hx
    · exact ih x hx
    · exact codeRow_rng _ _ _ _ x hx
theorem codeTo_small (A : Nat → Nat → Bool) (xs : List Int) {j : Nat} (h : j ≤ 16) : (codeTo A xs j).length ≤ 256 := Nat.le_trans (codeTo_len A xs j) (Nat.le_trans (Nat.mul_le_mul h h) (by decide))
theorem code_i64 {A : Nat → Nat → Bool} {xs : List Int} {j k : Nat} {v : Int} : ∀ x ∈ codeTo A xs j ++ codeRow A xs v k, I64 x := by
  intro x hx
  have : 0 ≤ x ∧ x ≤ 1 := by
    rcases List.mem_append.1 hx with h | h
    · exact codeTo_rng _ _ _ x h
    · exact codeRow_rng _ _ _ _ x h
  unfold I64
  omega
/-- What CodeOf answers. -/
def codeL (L : List (List Int)) : List Int := if GraphP L then codeTo (adjB L) (allL L.length) L.length else []
theorem codeL_small (L : List (List Int)) : (codeL L).length ≤ 1048576 := by
  unfold codeL
  split
  · rename_i h
    have := codeTo_small (adjB L) (allL L.length) h.1.2
    omega
  · simp
theorem allL_nth {n k : Nat} (h : k < n) : nth (allL n) k = (k : Int) := by
  rw [nth_eq (by rw [allL_len]; exact h)]
  simp [allL]

theorem lit1 (w : World) (x : Int) (T : TypeId) : ∀ j u, ([Value.int .i64 x] : List Value)[j]? = some u → (w.alloc (.cells #[.int .i64 x] T)).cell? ((⟨w.heap.size, 0, none⟩ : Addr).add j) = some u := by
  intro j u hj
  match j, hj with
  | 0, hj => simp at hj; subst hj; simp [Addr.add]
theorem one1 (x : Int) : ∀ u ∈ ([Value.int .i64 x] : List Value), u.oneCell' = true := by
  intro u hu; simp at hu; subst hu; rfl

theorem l1Flag_any (b : Bool) (w : World) : Calls Tryz.prog 82 #[.bool b] w fun e w' => e = .returned (.int .i64 (flagI b)) ∧ w = w' := by
  cases b with
  | true =>
    go_enter Tryz.func82, Tryz.ntmps82
    go_wp2
    go_ret
    exact ⟨rfl, rfl⟩
  | false =>
    go_enter Tryz.func82, Tryz.ntmps82
    go_wp2
    go_ret
    exact ⟨rfl, rfl⟩

end Go.Proofs.YtohjfcfcopbmoaaGreatDoor

/- Walks: the adjacency code, of the program. -/
namespace Go.Proofs.YtohjfcfcopbmoaaGreatDoor
open Go.RowKit

/-- Who is near whom, by masks. -/
def mA (M : Nat → Nat) (a b : Nat) : Bool := (M a).testBit b

theorem listTo_all (n k : Nat) : listTo (2 ^ n - 1) k = allL (min k n) := by
  induction k with
  | zero => simp [allL, listTo]
  | succ k ih =>
    rw [listTo_succ, ih, Nat.testBit_two_pow_sub_one]
    by_cases h : k < n
    · rw [decide_eq_true h, show min (k + 1) n = k + 1 from by omega, show min k n = k from by omega, allL_succ]
      rfl
    · rw [decide_eq_false h, show min (k + 1) n = n from by omega, show min k n = n from by omega]
      simp
theorem listM_all {n : Nat} (hn : n ≤ 16) : listM (2 ^ n - 1) = allL n := by
  show listTo _ 16 = _
  rw [listTo_all, show min 16 n = n from by omega]

/-- The first k cells of a slice, by a slice expression. -/
theorem rowAt_take {w : World} {v : Value} {xs : List Int} (h : RowAt w v xs) {b o c k : Nat} (e : v = .slice (some ⟨b, o, none⟩) xs.length c) (hk : k ≤ xs.length) : ∀ i, i < k → w.cell? ⟨b, o + i, none⟩ = some (.int .i64 (nth xs i)) := by
  intro i hi
  obtain ⟨b', o', c', e', _, _, hc⟩ := h.pos (by omega)
  rw [e] at e'
  simp only [Value.slice.injEq, Option.some.injEq, Addr.mk.injEq, and_true, true_and] at e'
  obtain ⟨⟨rfl, rfl⟩, rfl⟩ := e'
  exact hc i (by omega)

end Go.Proofs.YtohjfcfcopbmoaaGreatDoor

/- Walks: which of two lists is less, of the model. -/
namespace Go.Proofs.YtohjfcfcopbmoaaGreatDoor
open Go.RowKit

open Classical in
/-- Is one less? -/
noncomputable def ltB (xs ys : List Int) : Bool := decide (ltR xs ys)
theorem ltB_iff (xs ys : List Int) : ltB xs ys = true ↔ ltR xs ys := by
  classical
  unfold ltB
  exact decide_eq_true_iff
theorem ltB_of {xs ys : List Int} {b : Bool} (h : ltR xs ys ↔ b = true) : ltB xs ys = b := by
  cases b with
  | true => exact (ltB_iff _ _).2 (h.2 rfl)
  | false =>
    cases hq : ltB xs ys with
    | false => rfl
    | true => exact absurd (h.1 ((ltB_iff _ _).1 hq)) (by simp)
theorem ltB_at {xs ys : List Int} (hl : xs.length = ys.length) {k : Nat} (hk : k < xs.length) (heq : ∀ j, j < k → nth xs j = nth ys j) (hne : nth xs k ≠ nth ys k) : ltB xs ys = decide (nth xs k < nth ys k) := by
  refine ltB_of ?_
  rw [decide_eq_true_iff]
  constructor
  · rintro (g | ⟨_, i, hi, hp, hx⟩)
    · omega
    · rcases Nat.lt_trichotomy i k with e | e | e
      · have := heq i e; omega
      · subst e; exact hx
      · exact absurd (hp k e) hne
  · intro h
    exact Or.inr ⟨hl, k, hk, heq, h⟩
theorem ltB_end {xs ys : List Int} (heq : ∀ j, j < xs.length → nth xs j = nth ys j) (hl : xs.length = ys.length) : ltB xs ys = false := by
  refine ltB_of ?_
  constructor
  · rintro (g | ⟨_, i, hi, hp, hx⟩)
    · omega
    · have := heq i hi; omega
  · intro h; cases h
theorem ltB_len {xs ys : List Int} (hl : xs.length ≠ ys.length) : ltB xs ys = decide (xs.length < ys.length) := by
  refine ltB_of ?_
  rw [decide_eq_true_iff]
  constructor
  · rintro (g | ⟨g, _⟩)
    · exact g
    · exact absurd g hl
  · exact Or.inl

set_option maxHeartbeats 2000000 in
theorem l1LessR_any (v v1 : Value) (xs ys : List Int) (w : World) (h : RowAt w v xs) (h1 : RowAt w v1 ys) :
    Calls Tryz.prog 223 #[v, v1] w fun e w' => e = .returned (.bool (ltB xs ys)) ∧ Drawn w w' := by
  obtain ⟨a0, c0, rfl⟩ := h.slice
  obtain ⟨a1, c1, rfl⟩ := h1.slice
  by_cases hl : xs.length = ys.length
  · have HC : Hid (∀ j, j < xs.length → ∃ b o b1 o1, a0 = some ⟨b, o, none⟩ ∧ a1 = some ⟨b1, o1, none⟩ ∧ w.cell? ⟨b, o + j, none⟩ = some (.int .i64 (nth xs j)) ∧ w.cell? ⟨b1, o1 + j, none⟩ = some (.int .i64 (nth ys j))) := fun j hj => by
      obtain ⟨b, o, c, e0, l1, l2, hc⟩ := h.pos (by omega)
      obtain ⟨b1, o1, c1', e1, m1, m2, hc1⟩ := h1.pos (by omega)
      simp only [Value.slice.injEq, true_and] at e0 e1
      exact ⟨b, o, b1, o1, e0.1, e1.1, hc j hj, hc1 j (by omega)⟩
    have HL := Lib.hid hl
    have HEND : Hid ((∀ j, j < xs.length → nth xs j = nth ys j) → ltB xs ys = false) := fun g => ltB_end g hl
    rw [← hl]
    have q1 : ((xs.length : Int) != (xs.length : Int)) = false := by simp
    have hlm := h.len
    unfold maxLen at hlm
    clear hl h h1
    go_enter Tryz.func223, Tryz.ntmps223
    go_wp2_with fail
    go_loopw [5] (fun iv wr => ∃ k : Nat, k ≤ xs.length ∧ iv = .int .i64 k ∧ (∀ j, j < k → nth xs j = nth ys j) ∧ Drawn w wr) (fun iv _ => xs.length - (intOf iv).toNat)
    case atStart => exact ⟨0, Nat.zero_le _, rfl, fun j hj => absurd hj (by omega), Drawn.refl _⟩
    case round =>
      obtain ⟨k, hk, rfl, heq, hd⟩ := hrel
      have HEQ := Lib.hid heq
      have HD := Lib.hid hd
      clear heq
      by_cases hkl : k < xs.length
      · obtain ⟨b, o, b1, o1, rfl, rfl, hx, hy⟩ := HC.out k hkl
        have hx' := cell_drawn hd hx
        have hy' := cell_drawn hd hy
        have HB : Hid (nth xs k ≠ nth ys k → ltB xs ys = decide (nth xs k < nth ys k)) := fun g => ltB_at HL.out hkl HEQ.out g
        have HE : Hid (nth xs k = nth ys k → ∀ j, j < k + 1 → nth xs j = nth ys j) := fun g j hj => by
          by_cases e : j = k
          · subst e; exact g
          · exact HEQ.out j (by omega)
        clear hx hy hd HC
        obtain ⟨y, hyy⟩ : ∃ y, y = nth xs k := ⟨_, rfl⟩
        obtain ⟨z, hzz⟩ : ∃ z, z = nth ys k := ⟨_, rfl⟩
        rw [← hyy, ← hzz] at HB HE
        rw [← hyy] at hx'
        rw [← hzz] at hy'
        clear hyy hzz
        by_cases hyz : y = z
        · subst hyz
          have q2 : (y != y) = false := by simp
          have HE2 := Lib.hid (HE.out rfl)
          clear HB HE
          go_wp2
          go_quiet (fail)
          go_wp2
          go_roundw
          case rel => exact ⟨k + 1, by omega, by go_num, HE2.out, HD.out.more _⟩
          case measure => simp [intOf]; omega
        · have q2 : (y != z) = true := by rw [bne_iff_ne]; exact hyz
          have HB2 := Lib.hid (HB.out hyz)
          clear HB HE
          go_wp2
          go_quiet (fail)
          go_wp2
          go_quiet (fail)
          go_wp2
          go_ret
          exact ⟨by rw [HB2.out]; rfl, (HD.out.more _).more _⟩
      · obtain rfl : k = xs.length := by omega
        have HN := Lib.hid (HEND.out HEQ.out)
        go_wp2
        go_ret
        exact ⟨by rw [HN.out]; rfl, HD.out⟩
  · have HLB := Lib.hid (ltB_len hl)
    have q1 : ((xs.length : Int) != (ys.length : Int)) = true := by rw [bne_iff_ne]; omega
    clear h h1
    go_enter Tryz.func223, Tryz.ntmps223
    go_wp2
    go_ret
    refine ⟨?_, Drawn.refl _⟩
    rw [HLB.out]
    rfl

end Go.Proofs.YtohjfcfcopbmoaaGreatDoor

/- Plain facts: all lists, one vertex after another. -/
namespace Go.Proofs.YtohjfcfcopbmoaaGreatDoor

/-- All lists behind xs with r vertices more, each one that may follow those before it, in ascending order. -/
def enumL (C : List Int → Nat) : Nat → List Int → List (List Int)
  | 0, xs => [xs]
  | r + 1, xs => (listM (C xs)).flatMap (fun v => enumL C r (xs ++ [v]))
/-- The first of lists, nothing where there is none. -/
def firstL (Z : List (List Int)) : List Int := Z.headD []

theorem enum_len {C : List Int → Nat} : ∀ {r : Nat} {xs ys : List Int}, ys ∈ enumL C r xs → ys.length = xs.length + r := by
  intro r
  induction r with
  | zero => intro xs ys h; simp [enumL] at h; subst h; rfl
  | succ r ih =>
    intro xs ys h
    rw [enumL, List.mem_flatMap] at h
    obtain ⟨v, _, h⟩ := h
    have := ih h
    simp at this
    omega
theorem take_more {ys : List Int} {n : Nat} (h : n < ys.length) : ys.take (n + 1) = ys.take n ++ [nth ys n] := by rw [List.take_succ_eq_append_getElem h, nth_eq h]
theorem listM_pair (M : Nat) : (listM M).Pairwise (· < ·) := by
  unfold listM
  rw [List.pairwise_map]
  exact (List.pairwise_lt_range.filter _).imp (fun h => by omega)
theorem nth_app_lt {xs : List Int} {x : Int} {i : Nat} (h : i < xs.length) : nth (xs ++ [x]) i = nth xs i := by simp [nth, List.getElem?_append_left h]
theorem nth_app_at (xs : List Int) (x : Int) : nth (xs ++ [x]) xs.length = x := by simp [nth]
theorem enum_mem {C : List Int → Nat} : ∀ {r : Nat} {xs ys : List Int}, ys ∈ enumL C r xs ↔ ys.take xs.length = xs ∧ ys.length = xs.length + r ∧ ∀ i, xs.length ≤ i → i < xs.length + r → nth ys i ∈ listM (C (ys.take i)) := by
  intro r
  induction r with
  | zero =>
    intro xs ys
    simp only [enumL, List.mem_singleton, Nat.add_zero]
    constructor
    · rintro rfl; exact ⟨List.take_length, rfl, fun i h1 h2 => absurd h2 (by omega)⟩
    · rintro ⟨h1, h2, _⟩; rw [← h2, List.take_length] at h1; exact h1
  | succ r ih =>
    intro xs ys
    rw [enumL, List.mem_flatMap]
    constructor
    · rintro ⟨v, hv, h⟩
      obtain ⟨h1, h2, h3⟩ := ih.1 h
      rw [List.length_append, List.length_singleton] at h1 h2 h3
      have hl : xs.length < ys.length := by omega
      rw [take_more hl] at h1
      have h4 := List.append_inj h1 (by rw [List.length_take]; omega)
      have hv' : nth ys xs.length = v := by simpa using h4.2
      refine ⟨h4.1, by omega, fun i hi1 hi2 => ?_⟩
      by_cases e : i = xs.length
      · subst e; rw [hv', h4.1]; exact hv
      · exact h3 i (by omega) (by omega)
    · rintro ⟨h1, h2, h3⟩
      have hl : xs.length < ys.length := by omega
      refine ⟨nth ys xs.length, by have := h3 xs.length (Nat.le_refl _) (by omega); rwa [h1] at this, ih.2 ?_⟩
      rw [List.length_append, List.length_singleton]
      refine ⟨by rw [take_more hl, h1], by omega, fun i hi1 hi2 => h3 i (by omega) (by omega)⟩

/-- ys comes ahead of zs. -/
def LexLt (ys zs : List Int) : Prop := ∃ k, k < ys.length ∧ k < zs.length ∧ (∀ j, j < k → nth ys j = nth zs j) ∧ nth ys k < nth zs k
theorem lex_asymm {ys zs : List Int} (h : LexLt ys zs) (h' : LexLt zs ys) : False := by
  obtain ⟨k, _, _, h1, h2⟩ := h
  obtain ⟨k', _, _, h1', h2'⟩ := h'
  rcases Nat.lt_trichotomy k k' with hlt | rfl | hlt
  · have := h1' k hlt; omega
  · omega
  · have := h1 k' hlt; omega
theorem nth_take_of {ys : List Int} {n i : Nat} (h : i < n) : nth (ys.take n) i = nth ys i := nth_take h
theorem enum_sorted {C : List Int → Nat} : ∀ (r : Nat) (xs : List Int), (enumL C r xs).Pairwise LexLt := by
  intro r
  induction r with
  | zero => intro xs; simp [enumL]
  | succ r ih =>
    intro xs
    rw [enumL, List.pairwise_flatMap]
    refine ⟨fun v _ => ih _, ?_⟩
    refine List.Pairwise.imp ?_ (listM_pair (C xs))
    intro a b hab y hy z hz
    have hy1 := enum_mem.1 hy
    have hz1 := enum_mem.1 hz
    rw [List.length_append, List.length_singleton] at hy1 hz1
    have e1 : ∀ i, i < xs.length + 1 → nth y i = nth (xs ++ [a]) i := fun i hi => by rw [← hy1.1, nth_take hi]
    have e2 : ∀ i, i < xs.length + 1 → nth z i = nth (xs ++ [b]) i := fun i hi => by rw [← hz1.1, nth_take hi]
    refine ⟨xs.length, by omega, by omega, fun j hj => ?_, ?_⟩
    · rw [e1 j (by omega), e2 j (by omega), nth_app_lt hj, nth_app_lt hj]
    · rw [e1 _ (by omega), e2 _ (by omega), nth_app_at, nth_app_at]; exact hab
theorem firstL_mem {Z : List (List Int)} (h : Z ≠ []) : firstL Z ∈ Z := by
  cases Z with
  | nil => exact absurd rfl h
  | cons a t => simp [firstL]
theorem firstL_least {Z : List (List Int)} (hs : Z.Pairwise LexLt) {z : List Int} (hz : z ∈ Z) : z = firstL Z ∨ LexLt (firstL Z) z := by
  cases Z with
  | nil => simp at hz
  | cons a t =>
    rcases List.mem_cons.1 hz with h | h
    · exact .inl h
    · exact .inr ((List.pairwise_cons.1 hs).1 z h)
theorem firstL_eq {Z : List (List Int)} (hs : Z.Pairwise LexLt) {m : List Int} (hm : m ∈ Z) (h : ∀ z ∈ Z, z = m ∨ LexLt m z) : firstL Z = m := by
  have hne : Z ≠ [] := fun e => by rw [e] at hm; simp at hm
  rcases firstL_least hs hm with h1 | h1
  · exact h1.symm
  · rcases h _ (firstL_mem hne) with h2 | h2
    · exact h2
    · exact (lex_asymm h1 h2).elim
/-- Where a choice leaves out what leads nowhere, all lists are as they were. -/
theorem enum_prune {C C' : List Int → Nat} : ∀ (r : Nat) (xs : List Int), (∀ zs, xs.length ≤ zs.length → zs.length < xs.length + r → C' zs = C zs ∨ (C' zs = 0 ∧ enumL C (xs.length + r - zs.length) zs = [])) → enumL C' r xs = enumL C r xs := by
  intro r
  induction r with
  | zero => intro xs _; rfl
  | succ r ih =>
    intro xs h
    rcases h xs (Nat.le_refl _) (by omega) with e | ⟨e, e'⟩
    · rw [enumL, enumL, e]
      have : (fun v => enumL C' r (xs ++ [v])) = fun v => enumL C r (xs ++ [v]) := by
        funext v
        refine ih (xs ++ [v]) (fun zs h1 h2 => ?_)
        rw [List.length_append, List.length_singleton] at h1 h2 ⊢
        have := h zs (by omega) (by omega)
        rwa [show xs.length + 1 + r - zs.length = xs.length + (r + 1) - zs.length from by omega]
      rw [this]
    · rw [show xs.length + (r + 1) - xs.length = r + 1 from by omega] at e'
      rw [e', enumL, e, listM_zero]
      rfl
/-- Where a choice is narrowed, and the first list is still among those that are left, it is the first. -/
theorem firstL_narrow {C C' : List Int → Nat} {r : Nat} {xs : List Int} (hsub : ∀ zs v, v ∈ listM (C' zs) → v ∈ listM (C zs)) (hm : enumL C r xs ≠ [] → ∀ i, xs.length ≤ i → i < xs.length + r → nth (firstL (enumL C r xs)) i ∈ listM (C' ((firstL (enumL C r xs)).take i))) :
    firstL (enumL C' r xs) = firstL (enumL C r xs) ∧ (enumL C' r xs = [] ↔ enumL C r xs = []) := by
  have hs : ∀ z, z ∈ enumL C' r xs → z ∈ enumL C r xs := fun z hz => by
    obtain ⟨h1, h2, h3⟩ := enum_mem.1 hz
    exact enum_mem.2 ⟨h1, h2, fun i hi1 hi2 => hsub _ _ (h3 i hi1 hi2)⟩
  rcases Classical.em (enumL C r xs = []) with e | hne
  · have e' : enumL C' r xs = [] := by
      rw [List.eq_nil_iff_forall_not_mem]
      intro z hz
      have := hs z hz
      rw [e] at this
      simp at this
    rw [e, e']
    simp
  · have hf := firstL_mem hne
    obtain ⟨h1, h2, _⟩ := enum_mem.1 hf
    have hin : firstL (enumL C r xs) ∈ enumL C' r xs := enum_mem.2 ⟨h1, h2, hm hne⟩
    refine ⟨firstL_eq (enum_sorted _ _) hin (fun z hz => firstL_least (enum_sorted _ _) (hs z hz)), ?_⟩
    constructor
    · intro e; rw [e] at hin; simp at hin
    · intro e; exact absurd e hne

/-- v can stand for the vertex w of P behind xs, as far as the first i of xs tell. -/
def fitTo (P A : Nat → Nat → Bool) (xs : List Int) (w : Nat) (v : Nat) : Nat → Bool
  | 0 => !hasB xs (v : Int)
  | i + 1 => fitTo P A xs w v i && (P i w == A (nth xs i).toNat v)
theorem fitTo_iff {P A : Nat → Nat → Bool} {xs : List Int} {w v i : Nat} : fitTo P A xs w v i = true ↔ hasB xs (v : Int) = false ∧ ∀ j, j < i → P j w = A (nth xs j).toNat v := by
  induction i with
  | zero => simp [fitTo]
  | succ i ih =>
    rw [fitTo, Bool.and_eq_true, ih, beq_iff_eq]
    constructor
    · rintro ⟨⟨h1, h2⟩, h3⟩
      refine ⟨h1, fun j hj => ?_⟩
      rcases Nat.lt_succ_iff_lt_or_eq.1 hj with h | rfl
      · exact h2 j h
      · exact h3
    · rintro ⟨h1, h2⟩
      exact ⟨⟨h1, fun j hj => h2 j (by omega)⟩, h2 i (by omega)⟩
/-- Who can stand for the vertex w of P behind xs. -/
def roomN (P : Nat → Nat → Bool) (n : Nat) (A : Nat → Nat → Bool) (xs : List Int) (w : Nat) : Nat := pm (fun v => decide (v < n) && fitTo P A xs w v xs.length)
theorem roomN_lt (P : Nat → Nat → Bool) (n : Nat) (A : Nat → Nat → Bool) (xs : List Int) (w : Nat) : roomN P n A xs w < 65536 := pm_lt _
theorem roomN_bit {P : Nat → Nat → Bool} {n : Nat} {A : Nat → Nat → Bool} {xs : List Int} {w v : Nat} (hn : n ≤ 16) : (roomN P n A xs w).testBit v = true ↔ v < n ∧ hasB xs (v : Int) = false ∧ ∀ j, j < xs.length → P j w = A (nth xs j).toNat v := by
  unfold roomN
  rw [pm_bit, Bool.and_eq_true, Bool.and_eq_true, decide_eq_true_iff, decide_eq_true_iff, fitTo_iff]
  exact ⟨fun h => h.2, fun h => ⟨by omega, h⟩⟩
/-- Who may follow xs. -/
def nextN (P : Nat → Nat → Bool) (n : Nat) (A : Nat → Nat → Bool) (xs : List Int) : Nat := roomN P n A xs xs.length
/-- All lists of m vertices by which A stands for P. -/
def fitsL (P : Nat → Nat → Bool) (m n : Nat) (A : Nat → Nat → Bool) : List (List Int) := enumL (nextN P n A) m []
/-- Who may follow xs, none where a later vertex has no room. -/
def wiseN (P : Nat → Nat → Bool) (m n : Nat) (A : Nat → Nat → Bool) (xs : List Int) : Nat := if ∃ w, w < m ∧ xs.length < w ∧ roomN P n A xs w = 0 then 0 else nextN P n A xs
theorem wiseN_lt (P : Nat → Nat → Bool) (m n : Nat) (A : Nat → Nat → Bool) (xs : List Int) : wiseN P m n A xs < 65536 := by
  unfold wiseN
  split
  · omega
  · exact roomN_lt _ _ _ _ _
theorem room_none {P : Nat → Nat → Bool} {n : Nat} {A : Nat → Nat → Bool} (hn : n ≤ 16) {xs : List Int} {w r : Nat} (h0 : roomN P n A xs w = 0) (h1 : xs.length ≤ w) (h2 : w < xs.length + r) : enumL (nextN P n A) r xs = [] := by
  rw [List.eq_nil_iff_forall_not_mem]
  intro ys hy
  obtain ⟨e1, e2, e3⟩ := enum_mem.1 hy
  obtain ⟨v, _, hb, he⟩ := (listM_mem _ _).1 (e3 w h1 h2)
  have hl : (ys.take w).length = w := by rw [List.length_take]; omega
  unfold nextN at hb
  rw [hl, roomN_bit hn] at hb
  obtain ⟨b1, b2, b3⟩ := hb
  have hx : ∀ j, j < xs.length → nth xs j = nth ys j := fun j hj => by rw [← e1, nth_take hj]
  have : (roomN P n A xs w).testBit v = true := by
    rw [roomN_bit hn]
    refine ⟨b1, ?_, fun j hj => ?_⟩
    · rw [← Bool.not_eq_true, hasB_iff] at b2 ⊢
      rintro ⟨j, hj, e⟩
      exact b2 ⟨j, by rw [hl]; omega, by rw [nth_take (by omega), ← hx j hj]; exact e⟩
    · have := b3 j (by rw [hl]; omega)
      rw [nth_take (by omega)] at this
      rw [hx j hj]
      exact this
  rw [h0] at this
  simp at this
theorem wise_enum {P : Nat → Nat → Bool} {m n : Nat} {A : Nat → Nat → Bool} (hn : n ≤ 16) : enumL (wiseN P m n A) m [] = fitsL P m n A := by
  unfold fitsL
  refine enum_prune m [] (fun zs _ h2 => ?_)
  unfold wiseN
  split
  · rename_i h
    obtain ⟨w, hw, hz, h0⟩ := h
    simp only [List.length_nil, Nat.zero_add] at h2 ⊢
    exact .inr ⟨trivial, room_none hn h0 (by omega) (by omega)⟩
  · exact .inl rfl
/-- What a list by which A stands for P is. -/
theorem fits_mem {P : Nat → Nat → Bool} {m n : Nat} {A : Nat → Nat → Bool} (hn : n ≤ 16) {ys : List Int} : ys ∈ fitsL P m n A ↔ ys.length = m ∧ ∀ i, i < m → 0 ≤ nth ys i ∧ nth ys i < (n : Int) ∧ (∀ j, j < i → nth ys j ≠ nth ys i) ∧ ∀ j, j < i → P j i = A (nth ys j).toNat (nth ys i).toNat := by
  unfold fitsL
  rw [enum_mem]
  simp only [List.length_nil, List.take_zero, Nat.zero_add, true_and, Nat.zero_le, forall_const]
  constructor
  · rintro ⟨h1, h2⟩
    refine ⟨h1, fun i hi => ?_⟩
    obtain ⟨v, _, hb, he⟩ := (listM_mem _ _).1 (h2 i hi)
    have hl : (ys.take i).length = i := by rw [List.length_take]; omega
    unfold nextN at hb
    rw [hl, roomN_bit hn] at hb
    obtain ⟨b1, b2, b3⟩ := hb
    rw [hl] at b3
    rw [← he]
    refine ⟨by omega, by omega, fun j hj e => ?_, fun j hj => ?_⟩
    · rw [← Bool.not_eq_true, hasB_iff] at b2
      exact b2 ⟨j, by rw [hl]; exact hj, by rw [nth_take hj]; exact e⟩
    · have := b3 j hj
      rw [nth_take hj] at this
      rw [Int.toNat_natCast]
      exact this
  · rintro ⟨h1, h2⟩
    refine ⟨h1, fun i hi => ?_⟩
    obtain ⟨a1, a2, a3, a4⟩ := h2 i hi
    have hl : (ys.take i).length = i := by rw [List.length_take]; omega
    refine (listM_mem _ _).2 ⟨(nth ys i).toNat, by omega, ?_, by omega⟩
    unfold nextN
    rw [hl, roomN_bit hn]
    refine ⟨by omega, ?_, fun j hj => ?_⟩
    · rw [← Bool.not_eq_true, hasB_iff]
      rintro ⟨j, hj, e⟩
      rw [hl] at hj
      rw [nth_take hj] at e
      exact a3 j hj (by omega)
    · rw [hl] at hj
      rw [nth_take hj]
      exact a4 j hj

end Go.Proofs.YtohjfcfcopbmoaaGreatDoor
