/- The texts ST1, ST2, ST3, ST4, joined. -/
import Derived.Test.YtojbaepcflkgeaaDoorRT1
import Derived.Test.YtojbaepcflkgeaaDoorQA6
import Derived.Laws.AppendOwn
import Derived.Test.YtojbaepcflkgeaaDoorJoinLay
import Derived.Test.YtojbaepcflkgeaaDoorQB1
import Derived.Lib.Join
import Derived.Deep.OwnRows

/- Words for rows of strings; walks: the text of a list, of the model. -/
namespace Go.Proofs.YtojbaepcflkgeaaDoor
open Go.RowKit

theorem Tryd.infoS : (Tryd.prog.info? 9).map (fun i => (i.zero, i.size, i.bytes)) = some (some (.string ⟨#[]⟩), 1, 16) := by kernel_rfl
/-- A string as a value. -/
def strV (x : List UInt8) : Value := .string (bsL x)
/-- Strings of one's own. -/
def OwnS (w : World) (B : Nat) (v : Value) (l : List (List UInt8)) : Prop := w.ownsRow B 9 1 v l.length (l.map strV)
theorem OwnS.keep {w w' : World} {B : Nat} {v : Value} {l : List (List UInt8)} (h : OwnS w B v l) (hb : Below w.heap.size w w') : OwnS w' B v l :=
  ⟨h.1, h.2.imp (fun h => h) (fun ⟨g, cap, cur, e, hgB, hh, r⟩ => ⟨g, cap, cur, e, hgB, by rw [hb.block g (Array.getElem?_eq_some_iff.1 hh).1]; exact hh, r⟩)⟩
theorem OwnS.empty (w : World) (B : Nat) (hB : B ≤ w.heap.size) : OwnS (w.alloc (.cells #[] 9)) B (.slice (some ⟨w.heap.size, 0, none⟩) 0 0) [] :=
  ⟨rfl, .inr ⟨w.heap.size, 0, #[], rfl, hB, heap_alloc_new w _, Nat.zero_le _, Nat.zero_le _, rfl, rfl⟩⟩
theorem OwnS.slice {w : World} {B : Nat} {v : Value} {l : List (List UInt8)} (h : OwnS w B v l) : ∃ a c, v = .slice a l.length c := by
  rcases h.2 with ⟨e, e0⟩ | ⟨g, cap, cur, e, _⟩
  · exact ⟨none, 0, by rw [e, e0]⟩
  · exact ⟨_, _, e⟩
theorem OwnS.pos {w : World} {B : Nat} {v : Value} {l : List (List UInt8)} (h : OwnS w B v l) (h0 : 0 < l.length) : ∃ g cap, v = .slice (some ⟨g, 0, none⟩) l.length cap ∧ g < w.heap.size ∧ l.length ≤ cap ∧ ∀ (i : Nat) (hi : i < l.length), w.cell? ⟨g, i, none⟩ = some (.string (bsL l[i])) := by
  rcases h.2 with ⟨_, e⟩ | ⟨g, cap, cur, e, hgB, hh, l1, l2, hs, ht⟩
  · omega
  · refine ⟨g, cap, e, (Array.getElem?_eq_some_iff.1 hh).1, l1, fun i hi => ?_⟩
    have h6 : (cur.toList.take (l.length * 1))[i]? = (l.map strV)[i]? := by rw [ht]
    rw [List.getElem?_take, Nat.mul_one, if_pos hi] at h6
    rw [cell_of_row w g i cur _ _ hh]
    simp [hi, strV] at h6
    simpa using h6
theorem str_lit (w : World) (x : List UInt8) (T : TypeId) : ∀ j u, ([strV x] : List Value)[j]? = some u → (w.alloc (.cells #[.string (bsL x)] T)).cell? ((⟨w.heap.size, 0, none⟩ : Addr).add j) = some u := by
  intro j u hj
  match j, hj with
  | 0, hj => simp at hj; subst hj; simp [Addr.add, strV]
theorem str_one (x : List UInt8) : ∀ u ∈ ([strV x] : List Value), u.oneCell' = true := by
  intro u hu; simp at hu; subst hu; rfl
theorem OwnS.snoc {w' : World} {B : Nat} {v' : Value} {l : List (List UInt8)} {x : List UInt8} (h : w'.ownsRow B 9 1 v' (l.length + 1) (l.map strV ++ [strV x])) : OwnS w' B v' (l ++ [x]) := by
  unfold OwnS
  rw [List.length_append, List.length_singleton, List.map_append]
  exact h
/-- Words with a mark between them. -/
def jn (sep : List UInt8) : List (List UInt8) → List UInt8
  | [] => []
  | x :: t => x ++ t.flatMap (fun y => sep ++ y)
theorem jn_snoc (sep : List UInt8) {l : List (List UInt8)} (h : 0 < l.length) (y : List UInt8) : jn sep (l ++ [y]) = jn sep l ++ sep ++ y := by
  cases l with
  | nil => simp at h
  | cons x t => simp [jn]
theorem jn_one (sep y : List UInt8) : jn sep [y] = y := by simp [jn]
theorem jn_len {sep : List UInt8} {k : Nat} (hs : sep.length ≤ 10) : ∀ {l : List (List UInt8)}, (∀ x ∈ l, x.length ≤ k) → (jn sep l).length ≤ l.length * (k + 10) := by
  intro l
  cases l with
  | nil => intro _; simp [jn]
  | cons x t =>
    intro h
    have ht : ∀ t : List (List UInt8), (∀ x ∈ t, x.length ≤ k) → (t.flatMap (fun y => sep ++ y)).length ≤ t.length * (k + 10) := by
      intro t
      induction t with
      | nil => intro _; simp
      | cons y t ih =>
        intro h
        have a := ih (fun x hx => h x (List.mem_cons_of_mem _ hx))
        have b := h y (by simp)
        rw [List.flatMap_cons, List.length_append, List.length_append, List.length_cons, Nat.succ_mul]
        omega
    have a := ht t (fun x hx => h x (List.mem_cons_of_mem _ hx))
    have b := h x (by simp)
    rw [jn, List.length_append, List.length_cons, Nat.succ_mul]
    omega
theorem take_snocS {l : List (List UInt8)} {k : Nat} (h : k < l.length) : l.take (k + 1) = l.take k ++ [l[k]] := by rw [List.take_succ_eq_append_getElem h]

set_option maxHeartbeats 1000000 in
set_option maxRecDepth 100000 in
theorem l1Words_any (v : Value) (B : Nat) (l : List (List UInt8)) (sep : List UInt8) (w : World) (h : OwnS w B v l) (hs : sep.length ≤ 10) (hl : l.length ≤ 1000) (hx : ∀ x ∈ l, x.length ≤ 100) :
    Calls Tryd.prog 29 #[v, .string (bsL sep)] w fun e w' => e = .returned (.string (bsL (jn sep l))) ∧ Drawn w w' := by
  obtain ⟨a0, c0, rfl⟩ := h.slice
  have H := Lib.hid h
  have HX := Lib.hid hx
  clear h hx
  go_enter Tryd.func29, Tryd.ntmps29
  go_wp2_with fail
  go_loopw [5, 6] (fun sv iv wr => ∃ k : Nat, k ≤ l.length ∧ iv = .int .i64 k ∧ sv = .string (bsL (jn sep (l.take k))) ∧ Drawn w wr) (fun _ iv _ => l.length - (intOf iv).toNat)
  case atStart => exact ⟨0, Nat.zero_le _, rfl, rfl, Drawn.refl _⟩
  case round =>
    obtain ⟨k, hk, rfl, rfl, hd⟩ := hrel
    have HD := Lib.hid hd
    have hjl : (jn sep (l.take k)).length ≤ k * 110 := by
      have := jn_len hs (l := l.take k) (k := 100) (fun x hx => HX.out x (List.mem_of_mem_take hx))
      rw [List.length_take] at this
      exact Nat.le_trans this (Nat.mul_le_mul_right _ (by omega))
    obtain ⟨X, hX⟩ : ∃ X, jn sep (l.take k) = X := ⟨_, rfl⟩
    have HXE := Lib.hid hX
    rw [hX] at hjl ⊢
    clear hX
    by_cases hlt : k < l.length
    · obtain ⟨g, cap, eg, hgl, hgc, hc⟩ := H.out.pos (by omega)
      simp only [Value.slice.injEq, true_and] at eg
      obtain ⟨rfl, rfl⟩ := eg
      have hck := cell_drawn hd (hc k hlt)
      have hyl := HX.out l[k] (List.getElem_mem _)
      have HTS := Lib.hid (take_snocS hlt)
      obtain ⟨Y, hY⟩ : ∃ Y, l[k] = Y := ⟨_, rfl⟩
      rw [hY] at hck hyl HTS
      have hltI : (k : Int) < (l.length : Int) := by omega
      clear hc hY hd
      rcases Nat.eq_zero_or_pos k with h0 | h0
      · subst h0
        have HE : Hid (X = []) := HXE.out.symm
        have hsz : ¬ (bsL X).size + (bsL Y).size > 9223372036854775807 := by rw [bsL_size, bsL_size]; omega
        go_wp2
        go_roundw
        case rel => exact ⟨1, by omega, by go_num, by rw [bsL_app, HE.out, HTS.out]; simp [jn], HD.out⟩
        case measure => simp [intOf]; omega
      · have q0 : decide ((0 : Int) < (k : Int)) = true := decide_eq_true (by omega)
        have hsz1 : ¬ (bsL X).size + (bsL sep).size > 9223372036854775807 := by rw [bsL_size, bsL_size]; omega
        have hsz2 : ¬ (bsL X).size + (bsL sep).size + (bsL Y).size > 9223372036854775807 := by rw [bsL_size, bsL_size, bsL_size]; omega
        have HE : Hid (jn sep (l.take (k + 1)) = X ++ sep ++ Y) := by show _ = _; rw [HTS.out, jn_snoc _ (by rw [List.length_take]; omega), HXE.out]
        go_wp2
        go_roundw
        case rel => exact ⟨k + 1, by omega, by go_num, by rw [bsL_app, bsL_app, HE.out], HD.out⟩
        case measure => simp [intOf]; omega
    · obtain rfl : k = l.length := by omega
      rw [List.take_length] at HXE
      clear hd
      go_wp2
      go_ret
      exact ⟨by rw [HXE.out]; rfl, HD.out⟩

end Go.Proofs.YtojbaepcflkgeaaDoor

/- Walks: SetText of the model and of the program. -/
namespace Go.Proofs.YtojbaepcflkgeaaDoor
open Go.RowKit

/-- All are below 16. -/
def VtxP (xs : List Int) : Prop := ∀ i, i < xs.length → 0 ≤ nth xs i ∧ nth xs i < 16
/-- The words of a list. -/
def wordsL (xs : List Int) : List (List UInt8) := xs.map (fun x => dgs x.toNat)
theorem wordsL_len (xs : List Int) : (wordsL xs).length = xs.length := by simp [wordsL]
theorem wordsL_snoc (xs : List Int) {k : Nat} (h : k < xs.length) : wordsL (xs.take (k + 1)) = wordsL (xs.take k) ++ [dgs (nth xs k).toNat] := by
  unfold wordsL
  rw [List.take_succ_eq_append_getElem h, List.map_append, nth_eq h]
  rfl
theorem dgs16 {n : Nat} (h : n < 16) : (dgs n).length ≤ 2 := dgs_len 2 n (by omega) (by omega)
theorem words_short {xs : List Int} (h : VtxP xs) : ∀ x ∈ wordsL xs, x.length ≤ 100 := by
  intro x hx
  unfold wordsL at hx
  rw [List.mem_map] at hx
  obtain ⟨y, hy, rfl⟩ := hx
  obtain ⟨i, hi, rfl⟩ := List.getElem_of_mem hy
  have := h i hi
  rw [nth_eq hi] at this
  have := dgs16 (n := xs[i].toNat) (by omega)
  omega
open Classical in
/-- The text of a list. -/
noncomputable def stL (xs : List Int) : List UInt8 := if 16 < xs.length then [] else if VtxP xs then (if xs = [] then [45] else jn [44] (wordsL xs)) else []
theorem stL_long {xs : List Int} (h : 16 < xs.length) : stL xs = [] := if_pos h
theorem stL_none : stL [] = [45] := by
  unfold stL
  rw [if_neg (by simp), if_pos (show VtxP [] from fun i hi => absurd hi (by simp)), if_pos rfl]
theorem stL_bad {xs : List Int} (h : ¬ VtxP xs) : stL xs = [] := by
  unfold stL
  rw [if_neg h]
  split <;> rfl
theorem stL_yes {xs : List Int} (h0 : 0 < xs.length) (h1 : xs.length ≤ 16) (h : VtxP xs) : stL xs = jn [44] (wordsL xs) := by
  unfold stL
  rw [if_neg (by omega), if_pos h, if_neg (fun e => by rw [e] at h0; simp at h0)]

set_option maxHeartbeats 2000000 in
set_option maxRecDepth 100000 in
theorem specSetText_any (v : Value) (xs : List Int) (w : World) (h : RowAt w v xs) : Calls Tryd.prog 13 #[v] w fun e w' => e = .returned (.string (bsL (stL xs))) ∧ Below w.heap.size w w' := by
  obtain ⟨i0, hi, hz0, hz1, hz2⟩ := info_parts Tryd.infoS
  have hlm := h.len
  unfold maxLen at hlm
  obtain ⟨a0, c0, rfl⟩ := h.slice
  have HR := Lib.hid h
  clear h
  by_cases hlong : 16 < xs.length
  · have HF : Hid (stL xs = []) := stL_long hlong
    have hI : (16 : Int) < (xs.length : Int) := by omega
    go_enter Tryd.func13, Tryd.ntmps13
    go_wp2
    go_ret
    exact ⟨by rw [HF.out]; rfl, Below.refl _ _⟩
  · by_cases h0 : xs.length = 0
    · obtain rfl : xs = [] := List.length_eq_zero_iff.1 h0
      go_enter Tryd.func13, Tryd.ntmps13
      go_wp2
      go_ret
      exact ⟨by rw [stL_none]; rfl, Below.refl _ _⟩
    · have q0 : ((xs.length : Int) == 0) = false := by rw [beq_eq_false_iff_ne]; omega
      have hlI : ¬ (16 : Int) < (xs.length : Int) := by omega
      have hpos : 0 < xs.length := by omega
      clear h0
      go_enter Tryd.func13, Tryd.ntmps13
      go_wp2_with fail
      go_loopw [3, 4] (fun sv iv wr => ∃ k : Nat, k ≤ xs.length ∧ iv = .int .i64 k ∧ OwnS wr w.heap.size sv (wordsL (xs.take k)) ∧ (∀ j, j < k → 0 ≤ nth xs j ∧ nth xs j < 16) ∧ Below w.heap.size w wr) (fun _ iv _ => xs.length - (intOf iv).toNat)
      case atStart => exact ⟨0, Nat.zero_le _, rfl, OwnS.empty w _ (Nat.le_refl _), fun j hj => absurd hj (by omega), (Below.refl _ _).alloc (Nat.le_refl _) _⟩
      case round =>
        obtain ⟨k, hk, rfl, hos, hin, hb⟩ := hrel
        obtain ⟨ao, co, es⟩ := hos.slice
        subst es
        have hwl : (wordsL (xs.take k)).length ≤ 16 := by rw [wordsL_len, List.length_take]; omega
        have HOS := Lib.hid hos
        have HIN := Lib.hid hin
        have HB := Lib.hid hb
        have hzr : w.heap.size ≤ wr.heap.size := hb.size
        clear hos hin
        by_cases hlt : k < xs.length
        · obtain ⟨b, o, c, e1, l1, l2, hc⟩ := (HR.out.keep hb).pos (by omega)
          simp only [Value.slice.injEq, true_and] at e1
          obtain ⟨rfl, rfl⟩ := e1
          have hck := hc k hlt
          have HST := Lib.hid (wordsL_snoc xs hlt)
          obtain ⟨y, hy⟩ : ∃ y, nth xs k = y := ⟨_, rfl⟩
          have HY := Lib.hid hy
          rw [hy] at hck HST
          obtain ⟨X, hX⟩ : ∃ X, wordsL (xs.take k) = X := ⟨_, rfl⟩
          rw [hX] at HOS HST hwl ⊢
          have hltI : (k : Int) < (xs.length : Int) := by omega
          clear hc hy hX hb
          by_cases hv : 0 ≤ y ∧ y < 16
          · have hinb : inB y 0 15 = true := by unfold inB; rw [decide_eq_true_iff]; omega
            obtain ⟨z, rfl⟩ : ∃ z : Nat, y = (z : Int) := ⟨y.toNat, by omega⟩
            rw [Int.toNat_natCast] at HST
            have hz16 : z < 16 := by omega
            have HYL := Lib.hid hv
            clear hv
            go_wp2_with fail
            refine (l1In_any _ _ _ _).mono ?_
            rintro e w' ⟨rfl, rfl⟩
            rw [hinb]
            clear hinb
            go_wp2_with fail
            refine (l1Int_any z _ (by omega)).mono ?_
            rintro e w5 ⟨rfl, hb5⟩
            have HO5 := Lib.hid (HOS.out.keep hb5)
            have HB5 : Hid (Below w.heap.size w w5) := HB.out.trans (hb5.mono HB.out.size)
            have hz5 : w.heap.size ≤ w5.heap.size := HB5.out.size
            have HLIT := Lib.hid (str_lit w5 (dgs z) 9)
            clear hb5 hck
            go_wp2_with (at_builtin; refine wpList_append_own _ rfl (.tmp 24) (.tmp 30) 33 rfl w.heap.size 9 i0 (.string ⟨#[]⟩) 1 16 Tryd.underlying33 hi hz0 hz1 hz2 rfl (by decide) _ _ _ rfl (HO5.out.alloc _) ⟨w5.heap.size, 0, none⟩ 1 1 [strV (dgs z)] rfl rfl HLIT.out (str_one _) (by unfold maxLen; omega) (by omega) (by simp; omega) ?_; intro v6 w6 hown6 hgrow6 _; have HO6 := Lib.hid (OwnS.snoc hown6); have HB6 : Hid (Below w.heap.size w w6) := (HB5.out.alloc hz5 _).grown hgrow6 (by simp; omega) (fun j hj => (HO5.out.lt j hj).1); clear hown6 hgrow6)
            go_roundw
            case rel =>
              refine ⟨k + 1, by omega, by go_num, by rw [HST.out]; exact HO6.out, fun j hj => ?_, HB6.out⟩
              rcases Nat.lt_succ_iff_lt_or_eq.1 hj with h | rfl
              · exact HIN.out j h
              · rw [HY.out]; exact HYL.out
            case measure => simp [intOf]; omega
          · have hinb : inB y 0 15 = false := by unfold inB; rw [decide_eq_false_iff_not]; omega
            have HF : Hid (stL xs = []) := stL_bad (fun h => hv (by have := h k hlt; rwa [HY.out] at this))
            go_wp2_with fail
            refine (l1In_any _ _ _ _).mono ?_
            rintro e w' ⟨rfl, rfl⟩
            rw [hinb]
            clear hinb
            go_wp2
            go_ret
            exact ⟨by rw [HF.out]; rfl, HB.out⟩
        · obtain rfl : k = xs.length := by omega
          have HVP : Hid (VtxP xs) := HIN.out
          rw [List.take_length] at HOS ⊢
          clear hb
          go_wp2_with fail
          refine (l1Words_any _ _ (wordsL xs) [44] _ HOS.out (by simp) (by rw [wordsL_len]; omega) (words_short HVP.out)).mono ?_
          rintro e w7 ⟨rfl, hd7⟩
          have HB7 : Hid (Below w.heap.size w w7) := HB.out.trans ((hd7.below _).mono hzr)
          have HF : Hid (stL xs = jn [44] (wordsL xs)) := stL_yes hpos (by omega) HVP.out
          clear hd7
          go_wp2
          go_ret
          exact ⟨by rw [HF.out]; rfl, HB7.out⟩

end Go.Proofs.YtojbaepcflkgeaaDoor

/- Walks: SetText of the program. -/
namespace Go.Proofs.YtojbaepcflkgeaaDoor
open Go.RowKit

set_option maxHeartbeats 4000000 in
set_option maxRecDepth 100000 in
theorem fmt_small (N : Nat) (w : World) (h : N < 16) : Calls Tryd.prog 40 #[.int .i64 (N : Int), .int .i64 10] w fun e w' => e = .returned (.string (bsL (dgs N))) ∧ w = w' := by
  by_cases h10 : N < 10
  · rw [dgs_one h10]
    clear h
    have hc : N = 0 ∨ N = 1 ∨ N = 2 ∨ N = 3 ∨ N = 4 ∨ N = 5 ∨ N = 6 ∨ N = 7 ∨ N = 8 ∨ N = 9 := by omega
    clear h10
    rcases hc with rfl | rfl | rfl | rfl | rfl | rfl | rfl | rfl | rfl | rfl
    all_goals (
      go_enter Tryd.func40, Tryd.ntmps40
      go_wp2
      go_ret
      exact ⟨rfl, rfl⟩)
  · rw [dgs_more h10, dgs_one (show N / 10 < 10 by omega)]
    have hc : N = 10 ∨ N = 11 ∨ N = 12 ∨ N = 13 ∨ N = 14 ∨ N = 15 := by omega
    clear h10 h
    rcases hc with rfl | rfl | rfl | rfl | rfl | rfl
    all_goals (
      go_enter Tryd.func40, Tryd.ntmps40
      go_wp2
      go_ret
      exact ⟨rfl, rfl⟩)

theorem join_jn (l : List (List UInt8)) (sep : List UInt8) : Lib.join l sep = jn sep l := by
  cases l with
  | nil => rfl
  | cons x t => rw [Lib.join_cons, jn]; unfold Lib.joinTail; rw [List.flatMap_def]

/-- The words so far. -/
def wordAt (xs : List Int) (k i : Nat) : Value := if i < k then strV (dgs (nth xs i).toNat) else .string ⟨#[]⟩

set_option maxHeartbeats 2000000 in
set_option maxRecDepth 100000 in
theorem joined_any (v : Value) (xs : List Int) (sep : List UInt8) (w : World) (h : RowAt w v xs) (h0 : 0 < xs.length) (h16 : xs.length ≤ 16) (hv : VtxP xs) (hs : sep.length ≤ 10) :
    Calls Tryd.prog 26 #[.string (bsL sep), v] w fun e w' => e = .returned (.string (bsL (jn sep (wordsL xs)))) ∧ Below w.heap.size w w' := by
  obtain ⟨i0, hi, hz0, hz1, hz2⟩ := info_parts Tryd.infoS
  obtain ⟨b, o, c, rfl, l1, l2, hc⟩ := h.pos h0
  have HR := Lib.hid h
  have HV := Lib.hid hv
  have hmk : ∀ (w : World), (Instr.makeSlice 33 (.int .i64 (xs.length : Int)) (.int .i64 (xs.length : Int))).run Tryd.prog w = .ok (.slice (some ⟨w.heap.size, 0, none⟩) xs.length xs.length) (w.alloc (.cells (madeCells #[.string ⟨#[]⟩] xs.length) 9)) := fun w => by
    have := run_makeSlice (P := Tryd.prog) w 33 9 i0 (.string ⟨#[]⟩) Tryd.underlying33 hi hz0 .i64 .i64 (xs.length : Int) (xs.length : Int) (by omega) (by omega) (by rw [hz1]; simp; omega) (by rw [hz2]; omega) (by omega)
    rw [hz1] at this
    simpa [Value.cells] using this
  have hb0 : Below w.heap.size w (w.alloc (.cells (madeCells #[.string ⟨#[]⟩] xs.length) 9)) := (Below.refl _ _).alloc (Nat.le_refl _) _
  have hr0 : (w.alloc (.cells (madeCells #[.string ⟨#[]⟩] xs.length) 9)).rowIs w.heap.size 9 xs.length (wordAt xs 0) := by
    have := World.rowIs_made w (.string ⟨#[]⟩) xs.length 9
    exact this
  have HR0 := Lib.hid hr0
  have HB0 := Lib.hid hb0
  have hlw : b < w.heap.size := block_lt_of_cell (hc 0 h0)
  clear h hv hc hr0 hb0
  go_enter Tryd.func26, Tryd.ntmps26
  go_wp2_with fail
  clear hmk
  go_loopw [13] (fun iv wr => ∃ k : Nat, k ≤ xs.length ∧ iv = .int .i64 k ∧ wr.rowIs w.heap.size 9 xs.length (wordAt xs k) ∧ Below w.heap.size w wr) (fun iv _ => xs.length - (intOf iv).toNat)
  case atStart => exact ⟨0, Nat.zero_le _, rfl, HR0.out, HB0.out⟩
  case round =>
    clear HR0 HB0
    obtain ⟨k, hk, rfl, hrw, hb⟩ := hrel
    have HRW := Lib.hid hrw
    have HB := Lib.hid hb
    by_cases hlt : k < xs.length
    · obtain ⟨b', o', c', e1, _, _, hc⟩ := (HR.out.keep hb).pos h0
      simp only [Value.slice.injEq, Option.some.injEq, Addr.mk.injEq, true_and, and_true] at e1
      obtain ⟨⟨rfl, rfl⟩, rfl⟩ := e1
      have hck := hc k hlt
      have hvk := HV.out k hlt
      obtain ⟨z, hz⟩ : ∃ z : Nat, nth xs k = (z : Int) := ⟨(nth xs k).toNat, by omega⟩
      rw [hz] at hck hvk
      have hltI : (k : Int) < (xs.length : Int) := by omega
      have kc : wr.cell? ⟨w.heap.size, k, none⟩ = some (.string ⟨#[]⟩) := by
        obtain ⟨cs, h1, h2, h3⟩ := hrw
        rw [cell_of_row wr _ k cs _ _ h1, h3 k hlt]
        unfold wordAt
        rw [if_neg (by omega)]
      have kf : wr.frozen? ⟨w.heap.size, k, none⟩ = false := by
        obtain ⟨cs, h1, _⟩ := hrw
        exact frozen_of_row wr _ k cs _ h1
      have HNW : Hid ((wr.setCell ⟨w.heap.size, k, none⟩ (.string (bsL (dgs z)))).rowIs w.heap.size 9 xs.length (wordAt xs (k + 1))) := by
        refine (hrw.set k _).congr (fun i hi => ?_)
        unfold wordAt
        by_cases e : i = k
        · subst e
          rw [if_pos rfl, if_pos (by omega), hz, Int.toNat_natCast]
          rfl
        · rw [if_neg e]
          by_cases h : i < k
          · rw [if_pos h, if_pos (by omega)]
          · rw [if_neg h, if_neg (by omega)]
      have HNB : Hid (Below w.heap.size w (wr.setCell ⟨w.heap.size, k, none⟩ (.string (bsL (dgs z))))) := hb.setCell (p := ⟨w.heap.size, k, none⟩) (Nat.le_refl _) _
      clear hc hz hrw hb
      go_wp2_with (go_at_call 40; refine (fmt_small z _ (by omega)).mono ?_; rintro e w' ⟨rfl, rfl⟩)
      go_roundw
      case rel => exact ⟨k + 1, by omega, by go_num, HNW.out, HNB.out⟩
      case measure => simp [intOf]; omega
    · obtain rfl : k = xs.length := by omega
      have HJ := Lib.hid (Tryd.strings_Join w.heap.size 0 xs.length ((wordsL xs).map bsL) (bsL sep) wr (fun j x hj => by
          rw [List.getElem?_map] at hj
          obtain ⟨y, hy, rfl⟩ := Option.map_eq_some_iff.1 hj
          unfold wordsL at hy
          rw [List.getElem?_map] at hy
          obtain ⟨u, hu, rfl⟩ := Option.map_eq_some_iff.1 hy
          obtain ⟨hjl, e⟩ := List.getElem?_eq_some_iff.1 hu
          obtain ⟨cs, h1, h2, h3⟩ := hrw
          rw [Nat.zero_add, cell_of_row wr _ j cs _ _ h1, h3 j hjl]
          unfold wordAt strV
          rw [if_pos hjl, nth_eq hjl, e])
        (by obtain ⟨cs, h1, _⟩ := hrw; exact (Array.getElem?_eq_some_iff.1 h1).1) (by simp [wordsL]; omega) (by simp [wordsL]) (by
          have e : ((wordsL xs).map bsL).map (·.data.toList) = wordsL xs := by rw [List.map_map]; exact (List.map_congr_left (fun x _ => by simp [bsL])).trans (List.map_id _)
          rw [e, show (bsL sep).data.toList = sep by simp [bsL], join_jn]
          have := jn_len hs (l := wordsL xs) (k := 100) (words_short HV.out)
          rw [wordsL_len] at this
          omega))
      have e : ((wordsL xs).map bsL).map (·.data.toList) = wordsL xs := by rw [List.map_map]; exact (List.map_congr_left (fun x _ => by simp [bsL])).trans (List.map_id _)
      rw [e, show (bsL sep).data.toList = sep by simp [bsL], join_jn, List.length_map, wordsL_len] at HJ
      have HB2 := Lib.hid hb
      clear e hrw hb
      go_wp2_with fail
      refine HJ.out.mono ?_
      rintro e w7 ⟨rfl, hb7⟩
      have HB7 : Hid (Below w.heap.size w w7) := HB2.out.trans (hb7.mono HB2.out.size)
      clear hb7
      go_wp2
      go_ret
      exact ⟨rfl, HB7.out⟩

end Go.Proofs.YtojbaepcflkgeaaDoor

/- Walks: SetText of the program. -/
namespace Go.Proofs.YtojbaepcflkgeaaDoor
open Go.RowKit

set_option maxHeartbeats 2000000 in
set_option maxRecDepth 100000 in
theorem implSetText_any (v : Value) (xs : List Int) (w : World) (h : RowAt w v xs) : Calls Tryd.prog 12 #[v] w fun e w' => e = .returned (.string (bsL (stL xs))) ∧ Below w.heap.size w w' := by
  have hlm := h.len
  unfold maxLen at hlm
  obtain ⟨a0, c0, rfl⟩ := h.slice
  have HR := Lib.hid h
  clear h
  by_cases hlong : 16 < xs.length
  · have HF : Hid (stL xs = []) := stL_long hlong
    have hI : (16 : Int) < (xs.length : Int) := by omega
    go_enter Tryd.func12, Tryd.ntmps12
    go_wp2
    go_ret
    exact ⟨by rw [HF.out]; rfl, Below.refl _ _⟩
  · have hlI : ¬ (16 : Int) < (xs.length : Int) := by omega
    go_enter Tryd.func12, Tryd.ntmps12
    go_wp2_with fail
    go_loopw [10] (fun iv wr => ∃ k : Nat, k ≤ xs.length ∧ iv = .int .i64 k ∧ (∀ j, j < k → 0 ≤ nth xs j ∧ nth xs j < 16) ∧ wr = w) (fun iv _ => xs.length - (intOf iv).toNat)
    case atStart => exact ⟨0, Nat.zero_le _, rfl, fun j hj => absurd hj (by omega), rfl⟩
    case round =>
      obtain ⟨k, hk, rfl, hin, rfl⟩ := hrel
      have HIN := Lib.hid hin
      clear hin
      by_cases hlt : k < xs.length
      · obtain ⟨b, o, c, e1, l1, l2, hc⟩ := HR.out.pos (by omega)
        simp only [Value.slice.injEq, true_and] at e1
        obtain ⟨rfl, rfl⟩ := e1
        have hck := hc k hlt
        obtain ⟨y, hy⟩ : ∃ y, nth xs k = y := ⟨_, rfl⟩
        have HY := Lib.hid hy
        rw [hy] at hck
        have hltI : (k : Int) < (xs.length : Int) := by omega
        clear hc hy
        by_cases hv : 0 ≤ y ∧ y < 16
        · have hd : decide (0 ≤ y ∧ y < 16) = true := decide_eq_true hv
          have HV := Lib.hid hv
          clear hv
          go_wp2_with fail
          refine (isVertex_any _ _ _).mono ?_
          rintro e w' ⟨rfl, rfl⟩
          rw [hd]
          clear hd
          go_wp2
          go_roundw
          case rel =>
            refine ⟨k + 1, by omega, by go_num, fun j hj => ?_, by first | rfl | trivial⟩
            rcases Nat.lt_succ_iff_lt_or_eq.1 hj with h | rfl
            · exact HIN.out j h
            · rw [HY.out]; exact HV.out
          case measure => simp [intOf]; omega
        · have hd : decide (0 ≤ y ∧ y < 16) = false := decide_eq_false hv
          have HF : Hid (stL xs = []) := stL_bad (fun h => hv (by have := h k hlt; rwa [HY.out] at this))
          clear hv
          go_wp2_with fail
          refine (isVertex_any _ _ _).mono ?_
          rintro e w' ⟨rfl, rfl⟩
          rw [hd]
          clear hd
          go_wp2
          go_ret
          exact ⟨by rw [HF.out]; rfl, Below.refl _ _⟩
      · obtain rfl : k = xs.length := by omega
        have HVP : Hid (VtxP xs) := HIN.out
        by_cases h0 : xs.length = 0
        · obtain rfl : xs = [] := List.length_eq_zero_iff.1 h0
          go_wp2
          go_ret
          exact ⟨by rw [stL_none]; rfl, Below.refl _ _⟩
        · have q0 : ((xs.length : Int) == 0) = false := by rw [beq_eq_false_iff_ne]; omega
          have HJ := Lib.hid (joined_any (.slice a0 xs.length c0) xs [44] wr HR.out (by omega) (by omega) HVP.out (by simp))
          have HF : Hid (stL xs = jn [44] (wordsL xs)) := stL_yes (by omega) (by omega) HVP.out
          clear h0
          go_wp2_with fail
          refine HJ.out.mono ?_
          rintro e w7 ⟨rfl, hb7⟩
          have HB7 := Lib.hid hb7
          clear hb7
          go_wp2
          go_ret
          exact ⟨by rw [HF.out]; rfl, HB7.out⟩

end Go.Proofs.YtojbaepcflkgeaaDoor
