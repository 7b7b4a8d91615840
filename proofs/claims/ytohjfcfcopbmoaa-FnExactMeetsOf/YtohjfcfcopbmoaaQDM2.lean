/- The texts DM2, DM3, joined. -/
import Derived.Test.YtohjfcfcopbmoaaDM1
import Derived.Test.YtohjfcfcopbmoaaH1
import Derived.Lib.SlicesCompact

/- Walks: slices.Clone, slices.Sort and slices.Compact at rows of any length. -/
namespace Go.Proofs.Ytohjfcfcopbmoaa
open Go.RowKit Go.Shelf

theorem eqD_in (d : Nat) (a : Option Addr) (n c : Nat) (w : World) : (Op.equalIn (d + 1) 33 (.slice a n c) (.slice none 0 0)).run Try.prog w = .ok a.isNone w := by
  cases a <;> simp [Op.equalIn, run_underlying Try.underlying33]
theorem eqD_nil (a : Option Addr) (n c : Nat) (w : World) : (Op.equal 33 (.slice a n c) (.slice none 0 0)).run Try.prog w = .ok a.isNone w := eqD_in 9999 a n c w
theorem eqD_no (a : Addr) (n c : Nat) (w : World) : (binOp .eql 33 (.slice (some a) n c) (.slice none 0 0)).run Try.prog w = .ok (.bool false) w := by
  simp [binOp, eqD_nil]
theorem eqD_yes (w : World) : (binOp .eql 33 (.slice none 0 0) (.slice none 0 0)).run Try.prog w = .ok (.bool true) w := by
  simp [binOp, eqD_nil]

set_option maxHeartbeats 1000000 in
theorem cloneD_any (v : Value) (xs : List Int) (w : World) (hr : RowAt w v xs) (hl : xs.length ≤ 2000000) :
    Calls Try.prog 83 #[v] w (GaveRow w xs) := by
  obtain ⟨i0, hi, hz0, hz1, hz2⟩ := info_parts Try.infoI
  have HI := Lib.hid hr.1
  have hcs : (v = .slice none 0 0 ∧ xs = []) ∨ ∃ ad c, v = .slice (some ad) xs.length c ∧ ∀ j u, (xs.map (Value.int .i64))[j]? = some u → w.cell? (ad.add j) = some u := by
    rcases hr.2.2 with ⟨e, a, c, ev, hc⟩ | ⟨b, o, c, ev, l1, l2, hc⟩
    · cases a with
      | none => rw [hc rfl] at ev; exact .inl ⟨ev, e⟩
      | some ad => exact .inr ⟨ad, c, by rw [ev, e]; rfl, fun j u hj => by rw [e] at hj; simp at hj⟩
    · refine .inr ⟨⟨b, o, none⟩, c, ev, fun j u hj => ?_⟩
      rw [List.getElem?_map] at hj
      obtain ⟨y, hy, rfl⟩ := Option.map_eq_some_iff.1 hj
      obtain ⟨hlt, e⟩ := List.getElem?_eq_some_iff.1 hy
      have h1 := hc j hlt
      rw [nth_eq hlt, e] at h1
      unfold Addr.add
      split
      · rename_i e0; subst e0; exact h1
      · exact h1
  clear hr
  rcases hcs with ⟨rfl, rfl⟩ | ⟨ad, c, rfl, hc⟩
  · have hq := eqD_yes
    go_enter Try.func83, Try.ntmps83
    go_wp2
    go_ret
    exact ⟨0, none, 0, rfl, ⟨by simp, Nat.zero_le _, .inl ⟨rfl, rfl⟩⟩, Below.refl _ _⟩
  · have hq := eqD_no ad xs.length c
    have HO0 : Hid ((w.alloc (.cells #[] 2)).ownsRow w.heap.size 2 1 (.slice (some ⟨w.heap.size, 0, none⟩) 0 0) 0 []) := World.ownsRow_lit w #[] 0 (Nat.le_refl _) (Nat.zero_le _) rfl
    have HNEW : Hid (∀ j u, (xs.map (Value.int .i64))[j]? = some u → (w.alloc (.cells #[] 2)).cell? (ad.add j) = some u) := fun j u hj => cell_keep ((Below.refl w.heap.size w).alloc (Nat.le_refl _) (.cells #[] 2)) (hc j u hj)
    clear hc
    go_enter Try.func83, Try.ntmps83
    go_wp2_with (at_builtin; refine wpList_append_own _ rfl (.tmp 5) (.tmp 6) 33 rfl w.heap.size 2 i0 (.int .i64 0) 1 8 Try.underlying33 hi hz0 hz1 hz2 rfl (by decide) _ _ _ rfl HO0.out ad xs.length c (xs.map (Value.int .i64)) rfl (by simp) HNEW.out (ints_one _) (by unfold maxLen; omega) (by omega) (by simp) ?_)
    intro v6 w6 hown6 hgrow6 _
    have hb6 : Below w.heap.size w w6 := ((Below.refl _ _).alloc (Nat.le_refl _) _).grown hgrow6 (by simp) (fun j hj => by simp [Value.ownBlock] at hj; omega)
    have ho6 : OwnRow 2 w6 w.heap.size v6 xs := OwnRow.of_ownsRow (n := 0 + xs.length) (by simpa using hown6) (by unfold maxLen; omega) HI.out
    obtain ⟨a6, c6, e6⟩ := ho6.row.slice
    subst e6
    have HB6 := Lib.hid hb6
    have HO6 := Lib.hid ho6
    clear hown6 hgrow6 hb6 ho6 hq
    go_wp2
    go_ret
    exact ⟨_, _, _, rfl, HO6.out, HB6.out⟩

theorem sortD_any (v : Value) (B : Nat) (xs : List Int) (w : World) (h : OwnRow 2 w B v xs) (hl : xs.length ≤ 2000000) :
    Calls Try.prog 84 #[v] w fun e w' => e = .returned (.tuple #[]) ∧ OwnRow 2 w' B v (sorted xs) ∧ Below B w w' := by
  have hk := h
  rcases hk.2.2 with ⟨e1, e2⟩ | ⟨g, cap, cur, e, _⟩
  · subst e1 e2
    refine (show Calls Try.prog 84 #[.slice none 0 0] w fun e w' => e = .returned (.tuple #[]) ∧ w' = w from AnyM.slices_Sort_int_none Try.lsort none 0 w).mono ?_
    rintro e w' ⟨rfl, rfl⟩
    exact ⟨rfl, by rw [show sorted [] = [] by simp [sorted]]; exact h, Below.refl _ _⟩
  · subst e
    exact sort_own g xs.length cap B xs w h hl

end Go.Proofs.Ytohjfcfcopbmoaa

/- Plain facts: a sorted row without what stands twice. -/
namespace Go.Proofs.Ytohjfcfcopbmoaa
open Go.RowKit

/-- The bag of a list: sorted, each number once. -/
def bagR (xs : List Int) : List Int := Lib.compact (sorted xs)

theorem keeps_iff (zs : List Int) (j : Nat) (hj : j < zs.length) : Lib.keeps zs.toArray j = true ↔ j = 0 ∨ nth zs j ≠ nth zs (j - 1) := by
  unfold Lib.keeps
  rw [nth_eq hj, nth_eq (show j - 1 < zs.length by omega)]
  simp [hj, show j - 1 < zs.length by omega]
theorem compact_eq (zs : List Int) : Lib.compact zs = ((List.range zs.length).filter (fun j => Lib.keeps zs.toArray j)).map (fun j => nth zs j) := by
  unfold Lib.compact Lib.compactUpTo
  refine List.map_congr_left (fun j hj => ?_)
  have hj' : j < zs.length := List.mem_range.1 (List.mem_filter.1 hj).1
  rw [nth_eq hj']
  simp [hj']
theorem sorted_pair (xs : List Int) : (sorted xs).Pairwise (· ≤ ·) := by
  have h := List.pairwise_mergeSort (le := fun x y : Int => decide (x ≤ y)) (fun a b c h1 h2 => by simp at *; omega) (fun a b => by simp; omega) xs
  exact h.imp (fun h => by simpa using h)
theorem sorted_at (xs : List Int) {i j : Nat} (h : i ≤ j) (hj : j < (sorted xs).length) : nth (sorted xs) i ≤ nth (sorted xs) j := by
  by_cases e : i = j
  · subst e; exact Int.le_refl _
  · rw [nth_eq (show i < (sorted xs).length by omega), nth_eq hj]
    exact List.pairwise_iff_getElem.1 (sorted_pair xs) i j (by omega) hj (by omega)
theorem sorted_mem (xs : List Int) (x : Int) : x ∈ sorted xs ↔ x ∈ xs := (List.mergeSort_perm xs _).mem_iff
theorem bagR_mem (xs : List Int) (x : Int) : x ∈ bagR xs ↔ x ∈ xs := by
  unfold bagR
  rw [compact_eq, ← sorted_mem xs x]
  constructor
  · intro h
    obtain ⟨j, hj, rfl⟩ := List.mem_map.1 h
    exact nth_mem (List.mem_range.1 (List.mem_filter.1 hj).1)
  · intro h
    obtain ⟨i, hi, e⟩ := List.getElem_of_mem h
    rw [← nth_eq hi] at e
    have key : ∀ i, i < (sorted xs).length → ∃ j, j < (sorted xs).length ∧ Lib.keeps (sorted xs).toArray j = true ∧ nth (sorted xs) j = nth (sorted xs) i := by
      intro i
      induction i with
      | zero => intro hi; exact ⟨0, hi, (keeps_iff _ 0 hi).2 (Or.inl rfl), rfl⟩
      | succ i ih =>
        intro hi
        by_cases hk : Lib.keeps (sorted xs).toArray (i + 1) = true
        · exact ⟨i + 1, hi, hk, rfl⟩
        · obtain ⟨j, h1, h2, h3⟩ := ih (by omega)
          refine ⟨j, h1, h2, ?_⟩
          rw [h3]
          have h4 : ¬ (i + 1 = 0 ∨ nth (sorted xs) (i + 1) ≠ nth (sorted xs) (i + 1 - 1)) := fun h => hk ((keeps_iff _ _ hi).2 h)
          have h5 : nth (sorted xs) (i + 1) = nth (sorted xs) (i + 1 - 1) := Classical.byContradiction fun h => h4 (Or.inr h)
          rw [h5]; rfl
    obtain ⟨j, h1, h2, h3⟩ := key i hi
    exact List.mem_map.2 ⟨j, List.mem_filter.2 ⟨List.mem_range.2 h1, h2⟩, by rw [h3, e]⟩
theorem bagR_rise (xs : List Int) : ∀ i j, i < j → j < (bagR xs).length → nth (bagR xs) i < nth (bagR xs) j := by
  have hp : (bagR xs).Pairwise (· < ·) := by
    unfold bagR
    rw [compact_eq, List.pairwise_map]
    have h1 : ((List.range (sorted xs).length).filter (fun j => Lib.keeps (sorted xs).toArray j)).Pairwise (· < ·) := List.pairwise_lt_range.filter _
    refine h1.imp_of_mem (fun {i j} hi hj hij => ?_)
    have hjl : j < (sorted xs).length := List.mem_range.1 (List.mem_filter.1 hj).1
    rcases (keeps_iff _ j hjl).1 (List.mem_filter.1 hj).2 with e | e
    · omega
    · have h2 := sorted_at xs (show i ≤ j - 1 by omega) (by omega)
      have h3 := sorted_at xs (show j - 1 ≤ j by omega) hjl
      omega
  intro i j hij hj
  rw [nth_eq (show i < (bagR xs).length by omega), nth_eq hj]
  exact List.pairwise_iff_getElem.1 hp i j (by omega) hj hij
theorem bagR_len (xs : List Int) : (bagR xs).length ≤ xs.length := by
  unfold bagR
  rw [compact_eq, List.length_map]
  refine Nat.le_trans (List.length_filter_le _ _) ?_
  rw [List.length_range, sorted_len]
  exact Nat.le_refl _
theorem bagR_has (xs : List Int) (x : Int) : hasB (bagR xs) x = hasB xs x := by
  cases h : hasB xs x with
  | true => exact (hasB_mem _ _).2 ((bagR_mem xs x).2 ((hasB_mem _ _).1 h))
  | false =>
    cases h2 : hasB (bagR xs) x with
    | false => rfl
    | true => rw [(hasB_mem _ _).2 ((bagR_mem xs x).1 ((hasB_mem _ _).1 h2))] at h; cases h

end Go.Proofs.Ytohjfcfcopbmoaa
