/- The texts F1, F2, F3, joined. -/
import Derived.Test.YtohjfcfcopbmoaaQC1
import Derived.Test.YtohjfcfcopbmoaaQGrid
import Derived.Laws.AppendOwnNone
import Derived.Test.YtohjfcfcopbmoaaQLater

/- Walks: the model's copy of a row, and a number put into a row. -/
namespace Go.Proofs.Ytohjfcfcopbmoaa
open Go.RowKit

theorem row_news {w : World} {b o : Nat} {xs : List Int} (hc : ∀ i, i < xs.length → w.cell? ⟨b, o + i, none⟩ = some (.int .i64 (nth xs i))) : ∀ j u, (xs.map (Value.int .i64))[j]? = some u → w.cell? ((⟨b, o, none⟩ : Addr).add j) = some u := by
  intro j u hj
  simp at hj
  obtain ⟨x, hx, rfl⟩ := hj
  obtain ⟨hjl, rfl⟩ := List.getElem?_eq_some_iff.1 hx
  have := hc j hjl
  rw [nth_eq hjl] at this
  unfold Addr.add
  split
  · rename_i e; subst e; exact this
  · exact this
theorem ints_one (xs : List Int) : ∀ u ∈ xs.map (Value.int .i64), u.oneCell' = true := by
  intro u hu
  simp at hu
  obtain ⟨x, _, rfl⟩ := hu
  rfl

set_option maxHeartbeats 400000 in
theorem l1Copy_any (v : Value) (xs : List Int) (w : World) (h : RowAt w v xs) (hs : xs.length ≤ 1048576) : Calls Try.prog 36 #[v] w (GaveRow w xs) := by
  obtain ⟨i0, hi, hz0, hz1, hz2⟩ := info_parts Try.infoI
  have hown0 : (w.alloc (.cells #[] 2)).ownsRow w.heap.size 2 1 (.slice (some ⟨w.heap.size, 0, none⟩) 0 0) 0 [] := World.ownsRow_lit w #[] 0 (Nat.le_refl _) (Nat.zero_le _) rfl
  have HO := Lib.hid hown0
  have HI := Lib.hid h.1
  clear hown0
  by_cases h0 : xs.length = 0
  · have he : xs = [] := List.length_eq_zero_iff.1 h0
    rcases h.none_or h0 with rfl | ⟨ad, c, rfl⟩
    · have HP : Hid (GaveRow w xs (.returned (.slice (some ⟨w.heap.size, 0, none⟩) 0 0)) (w.alloc (.cells #[] 2))) :=
        ⟨0, _, 0, rfl, by rw [he]; exact OwnRow.of_ownsRow (n := 0) HO.out (by simp) (by simp), (Below.refl _ _).alloc (Nat.le_refl _) _⟩
      clear h h0 he hs
      go_enter Try.func36, Try.ntmps36
      go_wp2_with (at_builtin; refine wpList_append_own_none rfl (.tmp 3) (.tmp 4) 33 rfl w.heap.size 2 i0 1 Try.underlying33 hi _ _ _ rfl HO.out rfl ?_)
      go_ret
      exact HP.out
    · have HE := Lib.hid he
      clear h h0 he hs
      go_enter Try.func36, Try.ntmps36
      go_wp2_with (at_builtin; refine wpList_append_own _ rfl (.tmp 3) (.tmp 4) 33 rfl w.heap.size 2 i0 (.int .i64 0) 1 8 Try.underlying33 hi hz0 hz1 hz2 rfl (by decide) _ _ _ rfl HO.out ad 0 c [] rfl rfl ?c1 ?c2 ?c3 ?c4 ?c5 ?_)
      case c1 => intro j u hj; simp at hj
      case c2 => intro u hu; simp at hu
      case c3 => unfold maxLen; omega
      case c4 => omega
      case c5 => simp
      intro v' w1 hown' hgrow _
      have hro : OwnRow 2 w1 w.heap.size v' xs := by
        rw [HE.out]; exact OwnRow.of_ownsRow (n := 0) hown' (by simp) (by simp)
      obtain ⟨a1, c1, rfl⟩ := hro.row.slice
      have HP : Hid (GaveRow w xs (.returned (.slice a1 xs.length c1)) w1) := ⟨_, _, _, rfl, hro, ((Below.refl _ _).alloc (Nat.le_refl _) _).grown hgrow (by simp) (fun j hj => by simp [Value.ownBlock] at hj; omega)⟩
      clear hown' hgrow hro
      go_wp2
      go_ret
      exact HP.out
  · obtain ⟨b, o, c, rfl, l1, l2, hc⟩ := h.pos (by omega)
    have hc1 : Hid (∀ i, i < xs.length → (w.alloc (.cells #[] 2)).cell? ⟨b, o + i, none⟩ = some (.int .i64 (nth xs i))) := fun i hi => cell_keep ((Below.refl _ _).alloc (Nat.le_refl _) _) (hc i hi)
    clear h hc h0
    go_enter Try.func36, Try.ntmps36
    go_wp2_with (at_builtin; refine wpList_append_own _ rfl (.tmp 3) (.tmp 4) 33 rfl w.heap.size 2 i0 (.int .i64 0) 1 8 Try.underlying33 hi hz0 hz1 hz2 rfl (by decide) _ _ _ rfl HO.out ⟨b, o, none⟩ xs.length c (xs.map (Value.int .i64)) rfl (by simp) ?c1 ?c2 ?c3 ?c4 ?c5 ?_)
    case c1 => exact row_news hc1.out
    case c2 => exact ints_one xs
    case c3 => unfold maxLen; omega
    case c4 => omega
    case c5 => simp
    intro v' w1 hown' hgrow _
    have hro : OwnRow 2 w1 w.heap.size v' xs := OwnRow.of_ownsRow (n := 0 + xs.length) (by simpa using hown') (by unfold maxLen; omega) HI.out
    obtain ⟨a1, c1, rfl⟩ := hro.row.slice
    have HP : Hid (GaveRow w xs (.returned (.slice a1 xs.length c1)) w1) := ⟨_, _, _, rfl, hro, ((Below.refl _ _).alloc (Nat.le_refl _) _).grown hgrow (by simp) (fun j hj => by simp [Value.ownBlock] at hj; omega)⟩
    clear hown' hgrow hro
    go_wp2
    go_ret
    exact HP.out

end Go.Proofs.Ytohjfcfcopbmoaa

/- Walks: a number put into a rising row. -/
namespace Go.Proofs.Ytohjfcfcopbmoaa
open Go.RowKit

theorem OwnRow.owns {T : TypeId} {w : World} {B : Nat} {v : Value} {xs : List Int} (h : OwnRow T w B v xs) : w.ownsRow B T 1 v xs.length (xs.map (Value.int .i64)) := by
  refine ⟨by simp, ?_⟩
  rcases h.2.2 with ⟨e, e'⟩ | ⟨g, cap, cur, e, hg, hh, l1, l2, hs, hc⟩
  · exact Or.inl ⟨e, by rw [e']; rfl⟩
  · refine Or.inr ⟨g, cap, cur, e, hg, hh, l1, l2, by omega, ?_⟩
    apply List.ext_getElem?
    intro i
    rw [List.getElem?_take, Nat.mul_one]
    by_cases hi : i < xs.length
    · rw [if_pos hi]
      have := hc i hi
      rw [nth_eq hi] at this
      simp [hi]
      simpa using this
    · rw [if_neg hi, List.getElem?_eq_none (by simp; omega)]

theorem drop_cells {w w2 : World} {b o : Nat} {xs : List Int} (hb : Below w.heap.size w w2) (hc : ∀ i, i < xs.length → w.cell? ⟨b, o + i, none⟩ = some (.int .i64 (nth xs i))) (k : Nat) : ∀ i, i < (xs.drop k).length → w2.cell? ⟨b, o + k + i, none⟩ = some (.int .i64 (nth (xs.drop k) i)) := by
  intro i hi
  rw [List.length_drop] at hi
  have h1 := cell_keep hb (hc (k + i) (by omega))
  have e : nth (xs.drop k) i = nth xs (k + i) := by simp [nth]
  rw [e, Nat.add_assoc]
  exact h1

/-- What putting x into a row does: k of its elements are less; the row itself if x follows them; else a new row. -/
def IntoPost (w : World) (v : Value) (xs : List Int) (x : Int) (e : Ending) (w' : World) : Prop :=
  ∃ k, k ≤ xs.length ∧ (∀ j, j < k → nth xs j < x) ∧
    ((k < xs.length ∧ nth xs k = x ∧ e = .returned v ∧ Below w.heap.size w w') ∨
     ((k = xs.length ∨ x < nth xs k) ∧ ∃ n a c, e = .returned (.slice a n c) ∧ OwnRow 2 w' w.heap.size (.slice a n c) (xs.take k ++ x :: xs.drop k) ∧ Below w.heap.size w w'))

set_option maxHeartbeats 2000000 in
set_option maxRecDepth 100000 in
theorem l1Into_any (v : Value) (xs : List Int) (x : Int) (w : World) (h : RowAt w v xs) (hx : I64 x) (hs : xs.length ≤ 1000000) : Calls Try.prog 35 #[v, .int .i64 x] w (IntoPost w v xs x) := by
  obtain ⟨i0, hi, hz0, hz1, hz2⟩ := info_parts Try.infoI
  by_cases h0 : xs.length = 0
  · have HX := Lib.hid hx
    have HL0 := Lib.hid h0
    rcases h.none_or h0 with rfl | ⟨ad, c, rfl⟩
    · have hrow : RowAt w (.slice none 0 0) [] := ⟨by simp, by simp, Or.inl ⟨rfl, none, 0, rfl, fun _ => rfl⟩⟩
      clear h h0 hs hx
      go_enter Try.func35, Try.ntmps35
      go_wp2
      refine wp_loop_rounds 1 ?_
      rw [rounds_succ]
      go_wp2_with fail
      refine (l1Copy_any _ [] _ (by exact hrow) (by simp)).mono ?_
      rintro e w1 ⟨n1, a1, c1, rfl, ho1, hb1⟩
      obtain rfl : n1 = 0 := by
        obtain ⟨a3, c3, e3⟩ := ho1.row.slice
        simp only [Value.slice.injEq] at e3
        simpa using e3.2.1
      have HO1 : Hid (w1.ownsRow w.heap.size 2 1 (.slice a1 0 c1) 0 []) := by show w1.ownsRow _ _ _ _ _ _; have := ho1.owns; simpa using this
      have HB1 := Lib.hid hb1
      clear ho1 hb1
      go_wp2_with (at_builtin; refine wpList_append_own _ rfl (.tmp 37) (.tmp 39) 33 rfl w.heap.size 2 i0 (.int .i64 0) 1 8 Try.underlying33 hi hz0 hz1 hz2 rfl (by decide) _ _ _ rfl (HO1.out.alloc _) ⟨w1.heap.size, 0, none⟩ 1 1 [.int .i64 x] rfl rfl ?d1 ?d2 ?d3 ?d4 ?d5 ?_)
      case d1 =>
        intro j u hj
        match j, hj with
        | 0, hj => simp at hj; subst hj; simp [Addr.add]
      case d2 => intro u hu; simp at hu; subst hu; rfl
      case d3 => simp; unfold maxLen; omega
      case d4 => simp
      case d5 => have := HB1.out.size; simp; omega
      intro v2 w2 hown2 hgrow2 _
      have hb2 : Below w.heap.size w w2 := by
        refine (HB1.out.alloc HB1.out.size _).grown hgrow2 (by have := HB1.out.size; simp; omega) (fun j hj => ?_)
        exact (HO1.out.lt j hj).1
      have HB2 := Lib.hid hb2
      have HO2 := Lib.hid hown2
      have hz2' : w.heap.size ≤ w2.heap.size := hb2.size
      clear hown2 hgrow2 hb2
      go_wp2_with (at_builtin; refine wpList_append_own_none rfl (.tmp 41) (.tmp 44) 33 rfl w.heap.size 2 i0 1 Try.underlying33 hi _ _ _ rfl HO2.out rfl ?_)
      have hro : OwnRow 2 w2 w.heap.size v2 [x] := OwnRow.of_ownsRow (n := 0 + 1) (by simpa using HO2.out) (by unfold maxLen; simp) (by intro z hz; simp at hz; subst hz; exact HX.out)
      obtain ⟨a4, c4, e4⟩ := hro.row.slice
      have HP : Hid (IntoPost w (.slice none 0 0) xs x (.returned v2) w2) := by
        refine ⟨0, Nat.zero_le _, fun j hj => absurd hj (by omega), Or.inr ⟨Or.inl HL0.out.symm, _, a4, c4, by rw [e4], ?_, HB2.out⟩⟩
        rw [← e4, List.length_eq_zero_iff.1 HL0.out]
        exact hro
      clear hro e4
      go_ret
      exact HP.out

    · have hrow : RowAt w (.slice (some ad) 0 c) [] := ⟨by simp, by simp, Or.inl ⟨rfl, some ad, c, rfl, fun h => by cases h⟩⟩
      clear h h0 hs hx
      go_enter Try.func35, Try.ntmps35
      go_wp2
      refine wp_loop_rounds 1 ?_
      rw [rounds_succ]
      go_wp2_with fail
      refine (l1Copy_any _ [] _ (by exact hrow) (by simp)).mono ?_
      rintro e w1 ⟨n1, a1, c1, rfl, ho1, hb1⟩
      obtain rfl : n1 = 0 := by
        obtain ⟨a3, c3, e3⟩ := ho1.row.slice
        simp only [Value.slice.injEq] at e3
        simpa using e3.2.1
      have HO1 : Hid (w1.ownsRow w.heap.size 2 1 (.slice a1 0 c1) 0 []) := by show w1.ownsRow _ _ _ _ _ _; have := ho1.owns; simpa using this
      have HB1 := Lib.hid hb1
      clear ho1 hb1
      go_wp2_with (at_builtin; refine wpList_append_own _ rfl (.tmp 37) (.tmp 39) 33 rfl w.heap.size 2 i0 (.int .i64 0) 1 8 Try.underlying33 hi hz0 hz1 hz2 rfl (by decide) _ _ _ rfl (HO1.out.alloc _) ⟨w1.heap.size, 0, none⟩ 1 1 [.int .i64 x] rfl rfl ?d1 ?d2 ?d3 ?d4 ?d5 ?_)
      case d1 =>
        intro j u hj
        match j, hj with
        | 0, hj => simp at hj; subst hj; simp [Addr.add]
      case d2 => intro u hu; simp at hu; subst hu; rfl
      case d3 => simp; unfold maxLen; omega
      case d4 => simp
      case d5 => have := HB1.out.size; simp; omega
      intro v2 w2 hown2 hgrow2 _
      have hb2 : Below w.heap.size w w2 := by
        refine (HB1.out.alloc HB1.out.size _).grown hgrow2 (by have := HB1.out.size; simp; omega) (fun j hj => ?_)
        exact (HO1.out.lt j hj).1
      have HB2 := Lib.hid hb2
      have HO2 := Lib.hid hown2
      have hz2' : w.heap.size ≤ w2.heap.size := hb2.size
      clear hown2 hgrow2 hb2

      go_wp2_with (at_builtin; refine wpList_append_own _ rfl (.tmp 41) (.tmp 44) 33 rfl w.heap.size 2 i0 (.int .i64 0) 1 8 Try.underlying33 hi hz0 hz1 hz2 rfl (by decide) _ _ _ rfl HO2.out ad 0 c [] rfl rfl ?f1 ?f2 ?f3 ?f4 ?f5 ?_)
      case f1 => intro j u hj; simp at hj
      case f2 => intro u hu; simp at hu
      case f3 => simp; unfold maxLen; omega
      case f4 => simp
      case f5 => exact hz2'
      intro v3 w3 hown3 hgrow3 _
      have hro : OwnRow 2 w3 w.heap.size v3 [x] := OwnRow.of_ownsRow (n := 0 + 1 + 0) (by simpa using hown3) (by unfold maxLen; simp) (by intro z hz; simp at hz; subst hz; exact HX.out)
      obtain ⟨a4, c4, e4⟩ := hro.row.slice
      have HP : Hid (IntoPost w (.slice (some ad) 0 c) xs x (.returned v3) w3) := by
        refine ⟨0, Nat.zero_le _, fun j hj => absurd hj (by omega), Or.inr ⟨Or.inl HL0.out.symm, _, a4, c4, by rw [e4], ?_, HB2.out.grown hgrow3 hz2' (fun j hj => (HO2.out.lt j hj).1)⟩⟩
        rw [← e4, List.length_eq_zero_iff.1 HL0.out]
        exact hro
      clear hown3 hgrow3 hro e4
      go_wp2
      go_ret
      exact HP.out
  · obtain ⟨b, o, c, rfl, l1, l2, hc⟩ := h.pos (by omega)
    have HC := Lib.hid hc
    have HR := Lib.hid h
    have HX := Lib.hid hx
    clear hc hx
    go_enter Try.func35, Try.ntmps35
    go_wp2
    go_loop [5] (fun i => ∃ k : Nat, k ≤ xs.length ∧ i = .int .i64 k ∧ (∀ j, j < k → nth xs j < x)) (fun i => xs.length - (intOf i).toNat)
    case atStart => exact ⟨0, Nat.zero_le _, rfl, (fun j hj => absurd hj (by omega))⟩
    case round =>
      obtain ⟨k, hk, rfl, he⟩ := hrel
      have HE := Lib.hid he
      clear he
      by_cases hlt : k < xs.length
      · have hck := HC.out k hlt
        by_cases hlx : nth xs k < x
        · have hd : decide (nth xs k < x) = true := by simpa using hlx
          have HLX := Lib.hid hlx
          clear hlx
          go_wp2
          go_round
          case rel => exact ⟨k + 1, by omega, by go_num, (fun j hj => by rcases Nat.lt_succ_iff_lt_or_eq.1 hj with h | h; exact HE.out j h; rw [h]; exact HLX.out)⟩
          case measure => simp [intOf]; omega
        · have hd : decide (nth xs k < x) = false := by simpa using hlx
          by_cases heq : nth xs k = x
          · have hb : (nth xs k == x) = true := by simpa using heq
            have HQ := Lib.hid heq
            clear hlx heq
            go_wp2
            go_ret
            exact ⟨k, hk, HE.out, Or.inl ⟨hlt, HQ.out, rfl, Below.refl _ _⟩⟩
          · have hb : (nth xs k == x) = false := by simpa using heq
            have HQ : Hid (x < nth xs k) := by show x < _; omega
            clear hlx heq
            go_wp2_with fail
            refine (l1Copy_any _ (xs.take k) _ (HR.out.take HC.out l2 l1 k hk) (by simp; omega)).mono ?_
            rintro e w1 ⟨n1, a1, c1, rfl, ho1, hb1⟩
            have hn1 : n1 = (xs.take k).length := by
              obtain ⟨a3, c3, e3⟩ := ho1.row.slice
              simp only [Value.slice.injEq] at e3
              exact e3.2.1
            have HO1 := Lib.hid ho1.owns
            have HR1 := Lib.hid ho1
            have HB1 := Lib.hid hb1
            have HN1 := Lib.hid hn1
            have hpl : (xs.take k).length ≤ 1000000 := by simp; omega
            obtain ⟨pl, hpl2⟩ : ∃ q, q = (xs.take k).length := ⟨_, rfl⟩
            rw [← hpl2] at hpl
            have HPL := Lib.hid hpl2
            clear ho1 hb1 hn1 hpl2
            go_wp2_with (at_builtin; refine wpList_append_own _ rfl (.tmp 37) (.tmp 39) 33 rfl w.heap.size 2 i0 (.int .i64 0) 1 8 Try.underlying33 hi hz0 hz1 hz2 rfl (by decide) _ _ _ rfl (HO1.out.alloc _) ⟨w1.heap.size, 0, none⟩ 1 1 [.int .i64 x] rfl rfl ?d1 ?d2 ?d3 ?d4 ?d5 ?_)
            case d1 =>
              intro j u hj
              match j, hj with
              | 0, hj => simp at hj; subst hj; simp [Addr.add]
            case d2 => intro u hu; simp at hu; subst hu; rfl
            case d3 => rw [← HPL.out]; unfold maxLen; omega
            case d4 => rw [← HPL.out]; omega
            case d5 => have := HB1.out.size; simp; omega
            intro v2 w2 hown2 hgrow2 _
            have hb2 : Below w.heap.size w w2 := by
              refine (HB1.out.alloc HB1.out.size _).grown hgrow2 (by have := HB1.out.size; simp; omega) (fun j hj => ?_)
              exact (HO1.out.lt j hj).1
            have HB2 := Lib.hid hb2
            have HO2 := Lib.hid hown2
            have hz2' : w.heap.size ≤ w2.heap.size := hb2.size
            clear hown2 hgrow2 hb2
            go_wp2_with (at_builtin; refine wpList_append_own _ rfl (.tmp 41) (.tmp 44) 33 rfl w.heap.size 2 i0 (.int .i64 0) 1 8 Try.underlying33 hi hz0 hz1 hz2 rfl (by decide) _ _ _ rfl HO2.out ⟨b, o + k, none⟩ (xs.length - k) (c - k) ((xs.drop k).map (Value.int .i64)) rfl (by simp) ?e1 ?e2 ?e3 ?e4 ?e5 ?_)
            case e1 => exact row_news (drop_cells HB2.out HC.out k)
            case e2 => exact ints_one _
            case e3 => first | (rw [← HPL.out]; unfold maxLen; omega) | (unfold maxLen; omega)
            case e4 => first | (rw [← HPL.out]; omega) | omega
            case e5 => exact hz2'
            intro v3 w3 hown3 hgrow3 _
            have hro : OwnRow 2 w3 w.heap.size v3 ((xs.take k) ++ x :: (xs.drop k)) := by
              refine OwnRow.of_ownsRow (n := k + 1 + (xs.length - k)) (by simpa using hown3) (by simp; unfold maxLen; omega) ?_
              intro z hz
              simp only [List.mem_append, List.mem_cons] at hz
              rcases hz with hz | rfl | hz
              · exact HR.out.1 z (List.mem_of_mem_take hz)
              · exact HX.out
              · exact HR.out.1 z (by first | exact List.mem_of_mem_drop hz | (simp at hz))
            obtain ⟨a4, c4, e4⟩ := hro.row.slice
            have HP : Hid (IntoPost w (.slice (some ⟨b, o, none⟩) xs.length c) xs x (.returned v3) w3) :=
              ⟨k, by omega, HE.out, Or.inr ⟨Or.inr HQ.out, _, a4, c4, by rw [e4], by rw [← e4]; first | exact hro | simpa using hro, HB2.out.grown hgrow3 hz2' (fun j hj => (HO2.out.lt j hj).1)⟩⟩
            clear hown3 hgrow3 hro e4
            go_wp2
            go_ret
            exact HP.out
      · obtain rfl : k = xs.length := by omega
        by_cases hcl : c = xs.length
        · subst hcl
          go_wp2_with fail
          refine (l1Copy_any _ (xs.take xs.length) _ (HR.out.take HC.out l2 l1 xs.length (Nat.le_refl _)) (by simp; omega)).mono ?_
          rintro e w1 ⟨n1, a1, c1, rfl, ho1, hb1⟩
          have hn1 : n1 = (xs.take xs.length).length := by
            obtain ⟨a3, c3, e3⟩ := ho1.row.slice
            simp only [Value.slice.injEq] at e3
            exact e3.2.1
          have HO1 := Lib.hid ho1.owns
          have HR1 := Lib.hid ho1
          have HB1 := Lib.hid hb1
          have HN1 := Lib.hid hn1
          have hpl : (xs.take xs.length).length ≤ 1000000 := by simp; omega
          obtain ⟨pl, hpl2⟩ : ∃ q, q = (xs.take xs.length).length := ⟨_, rfl⟩
          rw [← hpl2] at hpl
          have HPL := Lib.hid hpl2
          clear ho1 hb1 hn1 hpl2
          go_wp2_with (at_builtin; refine wpList_append_own _ rfl (.tmp 37) (.tmp 39) 33 rfl w.heap.size 2 i0 (.int .i64 0) 1 8 Try.underlying33 hi hz0 hz1 hz2 rfl (by decide) _ _ _ rfl (HO1.out.alloc _) ⟨w1.heap.size, 0, none⟩ 1 1 [.int .i64 x] rfl rfl ?d1 ?d2 ?d3 ?d4 ?d5 ?_)
          case d1 =>
            intro j u hj
            match j, hj with
            | 0, hj => simp at hj; subst hj; simp [Addr.add]
          case d2 => intro u hu; simp at hu; subst hu; rfl
          case d3 => rw [← HPL.out]; unfold maxLen; omega
          case d4 => rw [← HPL.out]; omega
          case d5 => have := HB1.out.size; simp; omega
          intro v2 w2 hown2 hgrow2 _
          have hb2 : Below w.heap.size w w2 := by
            refine (HB1.out.alloc HB1.out.size _).grown hgrow2 (by have := HB1.out.size; simp; omega) (fun j hj => ?_)
            exact (HO1.out.lt j hj).1
          have HB2 := Lib.hid hb2
          have HO2 := Lib.hid hown2
          have hz2' : w.heap.size ≤ w2.heap.size := hb2.size
          clear hown2 hgrow2 hb2
          go_wp2_with (at_builtin; refine wpList_append_own _ rfl (.tmp 41) (.tmp 44) 33 rfl w.heap.size 2 i0 (.int .i64 0) 1 8 Try.underlying33 hi hz0 hz1 hz2 rfl (by decide) _ _ _ rfl HO2.out ⟨b, o, none⟩ 0 (0) [] rfl rfl ?e1 ?e2 ?e3 ?e4 ?e5 ?_)
          case e1 => intro j u hj; simp at hj
          case e2 => intro u hu; simp at hu
          case e3 => first | (rw [← HPL.out]; unfold maxLen; omega) | (unfold maxLen; omega)
          case e4 => first | (rw [← HPL.out]; omega) | omega
          case e5 => exact hz2'
          intro v3 w3 hown3 hgrow3 _
          have hro : OwnRow 2 w3 w.heap.size v3 ((xs.take xs.length) ++ x :: []) := by
            refine OwnRow.of_ownsRow (n := xs.length + 1 + 0) (by simpa using hown3) (by simp; unfold maxLen; omega) ?_
            intro z hz
            simp only [List.mem_append, List.mem_cons] at hz
            rcases hz with hz | rfl | hz
            · exact HR.out.1 z (List.mem_of_mem_take hz)
            · exact HX.out
            · exact HR.out.1 z (by first | exact List.mem_of_mem_drop hz | (simp at hz))
          obtain ⟨a4, c4, e4⟩ := hro.row.slice
          have HP : Hid (IntoPost w (.slice (some ⟨b, o, none⟩) xs.length xs.length) xs x (.returned v3) w3) :=
            ⟨xs.length, Nat.le_refl _, HE.out, Or.inr ⟨Or.inl rfl, _, a4, c4, by rw [e4], by rw [← e4]; first | exact hro | simpa using hro, HB2.out.grown hgrow3 hz2' (fun j hj => (HO2.out.lt j hj).1)⟩⟩
          clear hown3 hgrow3 hro e4
          go_wp2
          go_ret
          exact HP.out
        · have hcl2 : xs.length < c := by omega
          have hcb : ((xs.length : Int) == (c : Int)) = false := by simp; omega
          go_wp2_with fail
          refine (l1Copy_any _ (xs.take xs.length) _ (HR.out.take HC.out l2 l1 xs.length (Nat.le_refl _)) (by simp; omega)).mono ?_
          rintro e w1 ⟨n1, a1, c1, rfl, ho1, hb1⟩
          have hn1 : n1 = (xs.take xs.length).length := by
            obtain ⟨a3, c3, e3⟩ := ho1.row.slice
            simp only [Value.slice.injEq] at e3
            exact e3.2.1
          have HO1 := Lib.hid ho1.owns
          have HR1 := Lib.hid ho1
          have HB1 := Lib.hid hb1
          have HN1 := Lib.hid hn1
          have hpl : (xs.take xs.length).length ≤ 1000000 := by simp; omega
          obtain ⟨pl, hpl2⟩ : ∃ q, q = (xs.take xs.length).length := ⟨_, rfl⟩
          rw [← hpl2] at hpl
          have HPL := Lib.hid hpl2
          clear ho1 hb1 hn1 hpl2
          go_wp2_with (at_builtin; refine wpList_append_own _ rfl (.tmp 37) (.tmp 39) 33 rfl w.heap.size 2 i0 (.int .i64 0) 1 8 Try.underlying33 hi hz0 hz1 hz2 rfl (by decide) _ _ _ rfl (HO1.out.alloc _) ⟨w1.heap.size, 0, none⟩ 1 1 [.int .i64 x] rfl rfl ?d1 ?d2 ?d3 ?d4 ?d5 ?_)
          case d1 =>
            intro j u hj
            match j, hj with
            | 0, hj => simp at hj; subst hj; simp [Addr.add]
          case d2 => intro u hu; simp at hu; subst hu; rfl
          case d3 => rw [← HPL.out]; unfold maxLen; omega
          case d4 => rw [← HPL.out]; omega
          case d5 => have := HB1.out.size; simp; omega
          intro v2 w2 hown2 hgrow2 _
          have hb2 : Below w.heap.size w w2 := by
            refine (HB1.out.alloc HB1.out.size _).grown hgrow2 (by have := HB1.out.size; simp; omega) (fun j hj => ?_)
            exact (HO1.out.lt j hj).1
          have HB2 := Lib.hid hb2
          have HO2 := Lib.hid hown2
          have hz2' : w.heap.size ≤ w2.heap.size := hb2.size
          clear hown2 hgrow2 hb2
          go_wp2_with (at_builtin; refine wpList_append_own _ rfl (.tmp 41) (.tmp 44) 33 rfl w.heap.size 2 i0 (.int .i64 0) 1 8 Try.underlying33 hi hz0 hz1 hz2 rfl (by decide) _ _ _ rfl HO2.out ⟨b, o + xs.length, none⟩ 0 (c - xs.length) [] rfl rfl ?e1 ?e2 ?e3 ?e4 ?e5 ?_)
          case e1 => intro j u hj; simp at hj
          case e2 => intro u hu; simp at hu
          case e3 => first | (rw [← HPL.out]; unfold maxLen; omega) | (unfold maxLen; omega)
          case e4 => first | (rw [← HPL.out]; omega) | omega
          case e5 => exact hz2'
          intro v3 w3 hown3 hgrow3 _
          have hro : OwnRow 2 w3 w.heap.size v3 ((xs.take xs.length) ++ x :: []) := by
            refine OwnRow.of_ownsRow (n := xs.length + 1 + 0) (by simpa using hown3) (by simp; unfold maxLen; omega) ?_
            intro z hz
            simp only [List.mem_append, List.mem_cons] at hz
            rcases hz with hz | rfl | hz
            · exact HR.out.1 z (List.mem_of_mem_take hz)
            · exact HX.out
            · exact HR.out.1 z (by first | exact List.mem_of_mem_drop hz | (simp at hz))
          obtain ⟨a4, c4, e4⟩ := hro.row.slice
          have HP : Hid (IntoPost w (.slice (some ⟨b, o, none⟩) xs.length c) xs x (.returned v3) w3) :=
            ⟨xs.length, Nat.le_refl _, HE.out, Or.inr ⟨Or.inl rfl, _, a4, c4, by rw [e4], by rw [← e4]; first | exact hro | simpa using hro, HB2.out.grown hgrow3 hz2' (fun j hj => (HO2.out.lt j hj).1)⟩⟩
          clear hown3 hgrow3 hro e4
          go_wp2
          go_ret
          exact HP.out

end Go.Proofs.Ytohjfcfcopbmoaa

/- Walks: the model's graph without edges. -/
namespace Go.Proofs.Ytohjfcfcopbmoaa
open Go.RowKit

theorem own_nil {T T1 : TypeId} (w : World) (B : Nat) : OwnGrid T T1 w B (.slice none 0 0) [] :=
  ⟨fun _ => undef, Nat.zero_le _, Or.inl ⟨rfl, rfl⟩, fun i hi => absurd hi (by simp), fun i j k _ hj => absurd hj (by simp)⟩

/-- A box: a block of one cell that is not frozen. -/
def BoxAt (w : World) (b : Nat) (v : Value) : Prop := w.cell? ⟨b, 0, none⟩ = some v ∧ w.frozen? ⟨b, 0, none⟩ = false
theorem BoxAt.keepB {w w' : World} {B b : Nat} {v : Value} (h : BoxAt w b v) (hb : Below B w w') (hlt : b < B) : BoxAt w' b v := ⟨by rw [hb.cell hlt]; exact h.1, by rw [hb.frozen hlt]; exact h.2⟩
theorem BoxAt.lt {w : World} {b : Nat} {v : Value} (h : BoxAt w b v) : b < w.heap.size := block_lt_of_cell h.1
theorem BoxAt.keep {w w' : World} {b : Nat} {v : Value} (h : BoxAt w b v) (hb : Below w.heap.size w w') : BoxAt w' b v := h.keepB hb h.lt
theorem frozen_set (w : World) (a : Addr) (u : Value) (b : Addr) : (w.setCell a u).frozen? b = w.frozen? b := by
  simp only [World.frozen?, World.setCell, Array.getElem?_modify]
  by_cases h : a.block = b.block
  · rw [if_pos h]
    cases w.heap[b.block]? with
    | none => rfl
    | some o => cases o <;> rfl
  · rw [if_neg h]
theorem BoxAt.set {w : World} {b : Nat} {v : Value} (h : BoxAt w b v) (u : Value) : BoxAt (w.setCell ⟨b, 0, none⟩ u) b u := ⟨cell_set_same u h.1, by rw [frozen_set]; exact h.2⟩
theorem BoxAt.setOther {w : World} {b : Nat} {v : Value} (h : BoxAt w b v) {a : Addr} (ha : a.block ≠ b) (u : Value) : BoxAt (w.setCell a u) b v :=
  ⟨by rw [cell_set_other u (fun e => ha (by rw [e]))]; exact h.1, by rw [frozen_set]; exact h.2⟩
theorem BoxAt.new (w : World) (v : Value) (t : TypeId) : BoxAt (w.alloc (.cells #[v] t)) w.heap.size v := ⟨by go_simp, by go_simp⟩

end Go.Proofs.Ytohjfcfcopbmoaa
