/- The texts TS4, TS5, joined. -/
import Derived.Test.YtojbaepcflkgeaaDoorQTS2

/- Walks: the program's numbers of words. -/
namespace Go.Proofs.YtojbaepcflkgeaaDoor
open Go.RowKit Go.Shelf

/-- What the program makes of words: numbers and a word that all are some; of small numbers' numerals these numbers. -/
def NumsGot (X : List (List UInt8)) (w : World) (e : Ending) (w' : World) : Prop :=
  ∃ a n c b, e = .returned (.tuple #[.slice a n c, .bool b]) ∧ (b = true → ∃ xs, OwnRow 2 w' w.heap.size (.slice a n c) xs ∧ xs.length = X.length ∧ ∀ i, i < X.length → ∀ m, m < 17 → X.getD i [] = dgs m → nth xs i = m) ∧ (b = true → ∀ i, i < X.length → X.getD i [] ≠ []) ∧
    ((∀ i, i < X.length → ∃ m, m < 17 ∧ X.getD i [] = dgs m) → b = true) ∧ Below w.heap.size w w'

set_option maxHeartbeats 4000000 in
set_option maxRecDepth 100000 in
theorem numbersOf_any (v : Value) (X : List (List UInt8)) (B : Nat) (w : World) (h : OwnS w B v X) (h0 : 0 < X.length) (hl : X.length ≤ 1048577) (hX : ∀ i, i < X.length → (X.getD i []).length ≤ 1048576) (hV : VarsAt w) : Calls Tryd.prog 18 #[v] w (NumsGot X w) := by
  obtain ⟨g, cap, rfl, hg, hlc, hcell⟩ := h.pos h0
  have HC := Lib.hid hcell
  have HV := Lib.hid hV
  have HX := Lib.hid hX
  have hlI : (X.length : Int) ≤ 1048577 := by omega
  have hmk := run_make_row' (P := Tryd.prog) 22 2 (.int .i64 0) 8 Tryd.underlying22 Tryd.infoI rfl .i64 .i64 X.length (by omega) (by omega)
  have HR := Lib.hid (World.rowIs_made w (.int .i64 0) X.length 2)
  clear hcell hV hX h
  go_enter Tryd.func18, Tryd.ntmps18
  go_wp2_with fail
  go_loopw [14] (fun i wr => ∃ (k : Nat) (f : Nat → Int), k ≤ X.length ∧ i = .int .i64 k ∧ wr.rowIs w.heap.size 2 X.length (fun j => .int .i64 (f j)) ∧ (∀ j, I64 (f j)) ∧ (∀ j, j < k → ∀ m, m < 17 → X.getD j [] = dgs m → f j = m) ∧ (∀ j, j < k → X.getD j [] ≠ []) ∧ Below w.heap.size w wr) (fun i _ => X.length - (intOf i).toNat)
  case atStart => exact ⟨0, fun _ => 0, Nat.zero_le _, rfl, HR.out.congr (fun i hi => by simp), fun _ => (by unfold I64; decide : I64 0), fun j hj => absurd hj (by omega), fun j hj => absurd hj (by omega), (Below.refl _ _).alloc (Nat.le_refl _) _⟩
  case round =>
    obtain ⟨k, f, hk, rfl, hr, hfi, hfk, hfn, hb⟩ := hrel
    have HFN := Lib.hid hfn
    have HRR := Lib.hid hr
    have HFI := Lib.hid hfi
    have HFK := Lib.hid hfk
    have HB := Lib.hid hb
    clear hr hfi hfk hfn hb
    by_cases hlt : k < X.length
    · have hck := HC.out k hlt
      have hcw := cell_keep HB.out hck
      have hltI : (k : Int) < (X.length : Int) := by omega
      have hge : X.getD k [] = X[k] := by rw [List.getD_eq_getElem?_getD, List.getElem?_eq_getElem hlt]; rfl
      obtain ⟨x, hx⟩ : ∃ x, X[k] = x := ⟨_, rfl⟩
      rw [hx] at hge hcw
      have hxl := HX.out k hlt
      rw [hge] at hxl
      have HXK := Lib.hid hge
      clear hck hge hx
      go_wp2_with fail
      refine (numberOf_any x _ hxl (HV.out.keep HB.out)).mono ?_
      rintro e w1 ⟨y, b, rfl, hy, hyn, hne, hb1⟩
      have HNE := Lib.hid hne
      have HB1 : Hid (Below w.heap.size w w1) := HB.out.trans (hb1.mono HB.out.size)
      have hr1 := HRR.out.of_block (w' := w1) (hb1.block _ HRR.out.lt)
      have hcc := hr1.cell hlt
      have hcf := hr1.frozen k
      have HR1 := Lib.hid hr1
      have HY := Lib.hid hy
      have HYN := Lib.hid hyn
      clear hb1 hr1 hy hyn hcw hne
      cases b with
      | true =>
        go_wp2
        go_roundw
        case rel =>
          refine ⟨k + 1, fun j => if j = k then y else f j, by omega, by go_num, (HR1.out.set k (.int .i64 y)).congr (fun j hj => ?_), fun j => ?_, fun j hj m hm e => ?_, fun j hj => ?_, HB1.out.setCell (Nat.le_refl _) _⟩
          · by_cases e : j = k
            · subst e; simp
            · simp only [e, if_false]
          · show I64 (if j = k then y else f j)
            split
            · exact HY.out
            · exact HFI.out j
          · show (if j = k then y else f j) = m
            by_cases e2 : j = k
            · subst e2
              rw [if_pos rfl]
              rw [HXK.out] at e
              exact (HYN.out m hm e).1
            · rw [if_neg e2]
              exact HFK.out j (by omega) m hm e
          · by_cases e2 : j = k
            · subst e2; rw [HXK.out]; exact HNE.out (by trivial)
            · exact HFN.out j (by omega)
        case measure => simp [intOf]; omega
      | false =>
        have HP : Hid (∀ W, Below w.heap.size w W → NumsGot X w (.returned (.tuple #[.slice none 0 0, .bool false])) W) := fun W hb => ⟨none, 0, 0, false, rfl, fun h => absurd h Bool.false_ne_true, fun h => absurd h Bool.false_ne_true, fun h => by
          obtain ⟨m, hm, e⟩ := h k hlt
          rw [HXK.out] at e
          exact (HYN.out m hm e).2, hb⟩
        clear hcc hcf
        go_wp2
        go_ret2
        exact HP.out _ HB1.out
    · obtain rfl : k = X.length := by omega
      have ho : OwnRow 2 wr w.heap.size (.slice (some ⟨w.heap.size, 0, none⟩) X.length X.length) ((List.range X.length).map f) := by
        have := OwnRow.of_rowIs (xs := (List.range X.length).map f) HRR.out (Nat.le_refl _) (by simp) (by unfold maxLen; omega) (by intro x hx; simp only [List.mem_map] at hx; obtain ⟨u, hu, rfl⟩ := hx; exact HFI.out u) (fun i hi => by simp [nth, hi])
        simpa using this
      have HO := Lib.hid ho
      clear ho
      go_wp2
      go_ret2
      exact ⟨_, _, _, true, rfl, fun _ => ⟨_, HO.out, by simp, fun i hi m hm e => by simp [nth, hi]; exact HFK.out i hi m hm e⟩, fun _ => HFN.out, fun _ => rfl, HB.out⟩

end Go.Proofs.YtojbaepcflkgeaaDoor

/- Plain facts: words joined and cut; the list whose text is s. -/
namespace Go.Proofs.YtojbaepcflkgeaaDoor
open Go.RowKit

theorem index_mark (c : UInt8) : ∀ (p t : List UInt8), c ∉ p → Lib.index (p ++ c :: t) [c] = p.length := by
  intro p
  induction p with
  | nil => intro t _; rw [List.nil_append, Lib.index, if_pos (by simp [List.isPrefixOf])]; rfl
  | cons b p ih =>
    intro t h
    rw [List.mem_cons, not_or] at h
    have h2 := ih t h.2
    have hb : (c == b) = false := by rw [beq_eq_false_iff_ne]; exact h.1
    rw [List.cons_append, Lib.index, if_neg (by simp [List.isPrefixOf, hb]), h2, if_neg (by rw [beq_iff_eq]; omega), List.length_cons]
    omega
theorem index_no (c : UInt8) : ∀ (p : List UInt8), c ∉ p → Lib.index p [c] = -1 := by
  intro p
  induction p with
  | nil => intro _; rfl
  | cons b p ih =>
    intro h
    rw [List.mem_cons, not_or] at h
    have hb : (c == b) = false := by rw [beq_eq_false_iff_ne]; exact h.1
    rw [Lib.index, if_neg (by simp [List.isPrefixOf, hb]), ih h.2]
    rfl
theorem jn_two (c : UInt8) (x y : List UInt8) (t : List (List UInt8)) : jn [c] (x :: y :: t) = x ++ c :: jn [c] (y :: t) := by simp [jn]
theorem splitK_words (c : UInt8) : ∀ (ws : List (List UInt8)) (K : Nat), 0 < ws.length → ws.length ≤ K + 1 → (∀ x ∈ ws, c ∉ x) → Lib.splitK [c] 0 K (jn [c] ws) = ws := by
  intro ws
  induction ws with
  | nil => intro K h; simp at h
  | cons x t ih =>
    intro K _ hK hn
    have hx := hn x (List.mem_cons_self ..)
    cases t with
    | nil =>
      rw [jn_one]
      cases K with
      | zero => rfl
      | succ K => rw [Lib.splitK, if_pos (by rw [index_no c x hx]; rfl)]
    | cons y t =>
      cases K with
      | zero => simp at hK
      | succ K =>
        rw [jn_two, Lib.splitK, index_mark c x _ hx, if_neg (by rw [beq_iff_eq]; omega)]
        have e1 : ((x.length : Int).toNat + 0) = x.length := by omega
        have e2 : ((x.length : Int).toNat + [c].length) = x.length + 1 := by simp
        rw [e1, e2, List.take_left]
        have e3 : (x ++ c :: jn [c] (y :: t)).drop (x.length + 1) = jn [c] (y :: t) := by
          rw [List.drop_append]; simp
        rw [e3, ih K (by simp) (by simp at hK ⊢; omega) (fun z hz => hn z (List.mem_cons_of_mem _ hz))]
theorem splitL_words (c : UInt8) : ∀ (ws : List (List UInt8)), 0 < ws.length → (∀ x ∈ ws, c ∉ x) → splitL c (jn [c] ws) = ws := by
  intro ws
  induction ws with
  | nil => intro h; simp at h
  | cons x t ih =>
    intro _ hn
    have hx := hn x (List.mem_cons_self ..)
    cases t with
    | nil => rw [jn_one, splitL_one _ _ hx]
    | cons y t => rw [jn_two, splitL_mark _ _ _ hx, ih (by simp) (fun z hz => hn z (List.mem_cons_of_mem _ hz))]
theorem splitK_short (c : UInt8) : ∀ (K : Nat) (s : List UInt8), ∀ x ∈ Lib.splitK [c] 0 K s, x.length ≤ s.length := by
  intro K
  induction K with
  | zero => intro s x hx; rw [Lib.splitK, List.mem_singleton] at hx; rw [hx]; exact Nat.le_refl _
  | succ K ih =>
    intro s x hx
    rw [Lib.splitK] at hx
    split at hx
    · rw [List.mem_singleton] at hx; rw [hx]; exact Nat.le_refl _
    · rcases List.mem_cons.1 hx with rfl | hx
      · rw [List.length_take]; omega
      · have := ih _ x hx
        rw [List.length_drop] at this
        omega
theorem splitK_len (c : UInt8) : ∀ (K : Nat) (s : List UInt8), 0 < (Lib.splitK [c] 0 K s).length ∧ (Lib.splitK [c] 0 K s).length ≤ K + 1 := by
  intro K
  induction K with
  | zero => intro s; simp [Lib.splitK]
  | succ K ih =>
    intro s
    rw [Lib.splitK]
    split
    · simp
    · have := ih (s.drop ((Lib.index s [c]).toNat + [c].length))
      exact ⟨by rw [List.length_cons]; omega, by rw [List.length_cons]; omega⟩

theorem dgs_low {n : Nat} (h : n < 17) : ∀ c ∈ dgs n, 48 ≤ c.toNat := by
  by_cases h1 : n < 10
  · rw [dgs_one h1]
    have : n = 0 ∨ n = 1 ∨ n = 2 ∨ n = 3 ∨ n = 4 ∨ n = 5 ∨ n = 6 ∨ n = 7 ∨ n = 8 ∨ n = 9 := by omega
    rcases this with rfl | rfl | rfl | rfl | rfl | rfl | rfl | rfl | rfl | rfl <;> decide
  · rw [dgs_more h1, dgs_one (n := n / 10) (by omega)]
    have : n = 10 ∨ n = 11 ∨ n = 12 ∨ n = 13 ∨ n = 14 ∨ n = 15 ∨ n = 16 := by omega
    rcases this with rfl | rfl | rfl | rfl | rfl | rfl | rfl <;> decide
theorem dgs_no {n : Nat} (h : n < 17) {c : UInt8} (hc : c.toNat < 48) : c ∉ dgs n := fun hm => by have := dgs_low h c hm; omega

/-- The list xs has the text s. -/
structure SetIs (s : List UInt8) (xs : List Int) : Prop where
  le : xs.length ≤ 16
  vtx : VtxP xs
  eq : stL xs = s
theorem SetIs.of {s : List UInt8} {xs : List Int} (h : stL xs = s) (h0 : s ≠ []) : SetIs s xs := by
  by_cases h1 : 16 < xs.length
  · rw [stL_long h1] at h; exact absurd h.symm h0
  · by_cases h2 : VtxP xs
    · exact ⟨by omega, h2, h⟩
    · rw [stL_bad h2] at h; exact absurd h.symm h0
theorem words_no {xs : List Int} (h : VtxP xs) {c : UInt8} (hc : c.toNat < 48) : ∀ x ∈ wordsL xs, c ∉ x := by
  intro x hx
  unfold wordsL at hx
  rw [List.mem_map] at hx
  obtain ⟨y, hy, rfl⟩ := hx
  obtain ⟨i, hi, rfl⟩ := List.getElem_of_mem hy
  have := h i hi
  rw [nth_eq hi] at this
  exact dgs_no (by omega) hc
theorem words_at {xs : List Int} {i : Nat} (hi : i < xs.length) : (wordsL xs).getD i [] = dgs (nth xs i).toNat := by
  unfold wordsL
  rw [List.getD_eq_getElem?_getD, List.getElem?_map, List.getElem?_eq_getElem hi, nth_eq hi]; rfl
theorem SetIs.text {s : List UInt8} {xs : List Int} (h : SetIs s xs) (h0 : s ≠ [45]) : 0 < xs.length ∧ s = jn [44] (wordsL xs) := by
  rcases Nat.eq_zero_or_pos xs.length with e | e
  · rw [List.length_eq_zero_iff] at e
    have := h.eq
    rw [e, stL_none] at this
    exact absurd this.symm h0
  · exact ⟨e, by rw [← h.eq, stL_yes e h.le h.vtx]⟩
theorem SetIs.cutL {s : List UInt8} {xs : List Int} (h : SetIs s xs) (h0 : s ≠ [45]) : splitL 44 s = wordsL xs := by
  obtain ⟨h1, h2⟩ := h.text h0
  rw [h2, splitL_words 44 _ (by rw [wordsL_len]; exact h1) (words_no h.vtx (by decide))]
theorem SetIs.cutK {s : List UInt8} {xs : List Int} {K : Nat} (h : SetIs s xs) (h0 : s ≠ [45]) (hK : xs.length ≤ K + 1) : Lib.splitK [44] 0 K s = wordsL xs := by
  obtain ⟨h1, h2⟩ := h.text h0
  rw [h2, splitK_words 44 _ K (by rw [wordsL_len]; exact h1) (by rw [wordsL_len]; exact hK) (words_no h.vtx (by decide))]
theorem nthS_ext {xs ys : List Int} (hl : xs.length = ys.length) (h : ∀ i, i < xs.length → nth xs i = nth ys i) : xs = ys := by
  apply List.ext_getElem hl
  intro i h1 h2
  have := h i h1
  rwa [nth_eq h1, nth_eq h2] at this
/-- Whoever reads the words' numbers has the list. -/
theorem SetIs.read {s : List UInt8} {xs ys : List Int} {X : List (List UInt8)} (h : SetIs s xs) (hX : X = wordsL xs) (hl : ys.length = X.length) (hy : ∀ i, i < X.length → ∀ m, m < 17 → X.getD i [] = dgs m → nth ys i = m) : ys = xs := by
  subst hX
  rw [wordsL_len] at hl hy
  refine nthS_ext hl (fun i hi => ?_)
  have hv := h.vtx i (by omega)
  have := hy i (by omega) (nth xs i).toNat (by omega) (words_at (by omega))
  omega
theorem SetIs.one {s : List UInt8} {xs ys : List Int} (h : SetIs s xs) (h' : SetIs s ys) : xs = ys := by
  by_cases h0 : s = [45]
  · have key : ∀ {zs : List Int}, SetIs s zs → zs = [] := fun {zs} hz => by
      rcases Nat.eq_zero_or_pos zs.length with e | e
      · exact List.length_eq_zero_iff.1 e
      · have h1 := stL_yes e hz.le hz.vtx
        rw [hz.eq, h0] at h1
        have h2 := splitL_words 44 (wordsL zs) (by rw [wordsL_len]; exact e) (words_no hz.vtx (by decide))
        rw [← h1] at h2
        have h3 := words_no hz.vtx (c := 45) (by decide) [45] (by rw [← h2]; decide)
        simp at h3
    rw [key h, key h']
  · have e1 := h.cutL h0
    have e2 := h'.cutL h0
    rw [e1] at e2
    refine (SetIs.read (X := wordsL ys) h (e2.symm) (by rw [wordsL_len]) (fun i hi m hm e => ?_)).symm
    rw [wordsL_len] at hi
    rw [words_at hi] at e
    have hv := h'.vtx i hi
    have q1 := (rd_dgs (n := (nth ys i).toNat) (by omega)).2
    have q2 := (rd_dgs (n := m) hm).2
    rw [e, q2] at q1
    omega
open Classical in
noncomputable def tsB (s : List UInt8) : Bool := decide (∃ xs, SetIs s xs)
open Classical in
noncomputable def tsL (s : List UInt8) : List Int := if h : ∃ xs, SetIs s xs then Classical.choose h else []
open Classical in
theorem ts_yes {s : List UInt8} {xs : List Int} (h : SetIs s xs) : tsB s = true ∧ tsL s = xs := by
  have he : ∃ xs, SetIs s xs := ⟨xs, h⟩
  refine ⟨decide_eq_true he, ?_⟩
  unfold tsL
  rw [dif_pos he]
  exact (Classical.choose_spec he).one h
open Classical in
theorem ts_no {s : List UInt8} (h : ∀ xs, ¬ SetIs s xs) : tsB s = false ∧ tsL s = [] := by
  have he : ¬ ∃ xs, SetIs s xs := fun ⟨xs, hx⟩ => h xs hx
  refine ⟨decide_eq_false he, ?_⟩
  unfold tsL
  rw [dif_neg he]
theorem tsL_small (s : List UInt8) : (tsL s).length ≤ 1048576 := by
  rcases Classical.em (∃ xs, SetIs s xs) with ⟨xs, h⟩ | h
  · rw [(ts_yes h).2]; have := h.le; omega
  · rw [(ts_no (fun xs hx => h ⟨xs, hx⟩)).2]; simp
theorem set_dash : SetIs [45] [] := ⟨by simp, fun i hi => absurd hi (by simp), stL_none⟩
theorem SetIs.short {s : List UInt8} {xs : List Int} (h : SetIs s xs) : s.length ≤ 800 := by
  by_cases h0 : s = [45]
  · rw [h0]; decide
  · obtain ⟨h1, h2⟩ := h.text h0
    have h3 := jn_len (sep := [44]) (k := 2) (by decide) (l := wordsL xs) (fun x hx => by
      unfold wordsL at hx
      rw [List.mem_map] at hx
      obtain ⟨y, hy, rfl⟩ := hx
      obtain ⟨i, hi, rfl⟩ := List.getElem_of_mem hy
      have := h.vtx i hi
      rw [nth_eq hi] at this
      exact dgs17 (by omega))
    rw [← h2, wordsL_len] at h3
    have := h.le
    have h4 : xs.length * (2 + 10) ≤ 16 * 12 := Nat.mul_le_mul this (Nat.le_refl _)
    omega

end Go.Proofs.YtojbaepcflkgeaaDoor
