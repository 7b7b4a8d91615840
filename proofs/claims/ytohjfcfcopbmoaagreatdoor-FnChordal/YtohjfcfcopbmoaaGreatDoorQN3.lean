/- The texts N3, N4, N5, N6, N7, N8, N9, P1, joined. -/
import Derived.Test.YtohjfcfcopbmoaaGreatDoorQM4
import Derived.Laws.CopyOwn
import Derived.Test.YtohjfcfcopbmoaaGreatDoorQK1
import Derived.Deep.DeepCutAuto
import Derived.ArgAppend
import Derived.Deep.AppendLies

/- Walks: the program's copies. -/
namespace Go.Proofs.YtohjfcfcopbmoaaGreatDoor
open Go.RowKit

theorem Tryz.sizeI : (Tryz.prog.info? 2).map (·.size) = some 1 := by kernel_rfl

set_option maxHeartbeats 800000 in
set_option maxRecDepth 100000 in
theorem copiedRow_any (v : Value) (xs : List Int) (w : World) (h : RowAt w v xs) (hs : xs.length ≤ 1048576) : Calls Tryz.prog 206 #[v] w (GaveRow w xs) := by
  have hmk := run_make_row' (P := Tryz.prog) 33 2 (.int .i64 0) 8 Tryz.underlying33 Tryz.infoI rfl .i64 .i64 xs.length (by omega) (by omega)
  obtain ⟨cur, c1, c2, c3⟩ := World.rowIs_made w (.int .i64 0) xs.length 2
  have hg : (w.alloc (.cells (madeCells #[.int .i64 0] xs.length) 2)).heap[w.heap.size]? = some (.cells cur.toList.toArray 2 (0, 0)) := c1
  have hbel : Below w.heap.size w (w.alloc (.cells (madeCells #[.int .i64 0] xs.length) 2)) := (Below.refl _ _).alloc (Nat.le_refl _) _
  have HG := Lib.hid hg
  have HB := Lib.hid hbel
  have HI := Lib.hid h.1
  have HC2 : Hid (cur.toList.length = xs.length) := by show _ = _; simpa using c2
  obtain ⟨a, c, rfl⟩ := h.slice
  have HPOS : Hid (0 < (xs.map (Value.int .i64)).length → (some ⟨w.heap.size, 0, none⟩ : Option Addr) = some ⟨w.heap.size, 0, none⟩ ∧ ∃ ad, a = some ad ∧ ∀ j u, (xs.map (Value.int .i64))[j]? = some u → (w.alloc (.cells (madeCells #[.int .i64 0] xs.length) 2)).cell? (ad.add j) = some u) := by
    intro h0
    rw [List.length_map] at h0
    obtain ⟨b, o, c', e, l1, l2, hc⟩ := h.pos h0
    simp only [Value.slice.injEq, true_and] at e
    obtain ⟨rfl, rfl⟩ := e
    exact ⟨rfl, _, rfl, row_news (fun i hi => cell_keep hbel (hc i hi))⟩
  have hbf := h.len
  obtain ⟨X, hX⟩ : ∃ X, X = xs.map (Value.int .i64) := ⟨_, rfl⟩
  rw [← hX] at HPOS
  have HX := Lib.hid hX
  have HXL : Hid (X.length = xs.length) := by show _ = _; rw [hX]; simp
  have HX1 : Hid (∀ u ∈ X, u.oneCell' = true) := by rw [hX]; exact ints_one xs
  have HE1 : Hid (X.length = Nat.min xs.length xs.length) := by show _ = _; rw [HXL.out]; exact (Nat.min_self _).symm
  have HE2 : Hid (0 + X.length ≤ cur.toList.length) := by show _ ≤ _; rw [HXL.out, HC2.out]; omega
  clear h c1 c2 c3 hg hbel hX
  go_enter Tryz.func206, Tryz.ntmps206
  go_wp2_with (refine wpList_copy_splice rfl (.tmp 7) (.tmp 8) 33 33 rfl 2 Tryz.underlying33 Tryz.sizeI (some ⟨w.heap.size, 0, none⟩) a xs.length xs.length xs.length c rfl rfl w.heap.size 0 cur.toList 2 HG.out X HE1.out HPOS.out HE2.out HX1.out w.heap.size w HB.out (Nat.le_refl _) ?_; intro w2 HG2 hB2)
  have esp : splice cur.toList 0 X = X := by
    unfold splice
    rw [HXL.out, Nat.zero_add, List.drop_of_length_le (by rw [HC2.out]; exact Nat.le_refl _)]
    simp
  rw [esp] at HG2
  have hro : OwnRow 2 w2 w.heap.size (.slice (some ⟨w.heap.size, 0, none⟩) xs.length xs.length) xs := by
    refine ⟨HI.out, by unfold maxLen; omega, Or.inr ⟨w.heap.size, xs.length, X.toArray, rfl, Nat.le_refl _, HG2.out, Nat.le_refl _, by unfold maxLen; omega, by simp [HXL.out], fun i hi => ?_⟩⟩
    rw [HX.out]
    simp [nth_eq hi, hi]
  have HP : Hid (GaveRow w xs (.returned (.slice (some ⟨w.heap.size, 0, none⟩) xs.length xs.length)) w2) := ⟨_, _, _, rfl, hro, hB2⟩
  clear hro hB2 HG2 esp
  go_wp2
  go_ret
  exact HP.out

/-- The first k rows; the rest empty. -/
def cpL (L : List (List Int)) (k : Nat) : List (List Int) := (List.range L.length).map (fun i => if i < k then nthR L i else [])
theorem cpL_len (L : List (List Int)) (k : Nat) : (cpL L k).length = L.length := by simp [cpL]
theorem cpL_nth {L : List (List Int)} (k : Nat) {i : Nat} (hi : i < L.length) : nthR (cpL L k) i = if i < k then nthR L i else [] := by simp [cpL, nthR, hi]
theorem cpL_set (L : List (List Int)) (k : Nat) : (cpL L k).set k (nthR L k) = cpL L (k + 1) := by
  apply nthR_ext
  · simp [cpL_len]
  · intro i hi
    rw [List.length_set, cpL_len] at hi
    rw [cpL_nth (k + 1) hi]
    unfold nthR
    rw [List.getD_eq_getElem?_getD]
    by_cases e : k = i
    · subst e
      rw [List.getElem?_set_self (by rw [cpL_len]; exact hi)]
      simp
    · rw [List.getElem?_set_ne e]
      have := cpL_nth (L := L) k hi
      unfold nthR at this
      rw [List.getD_eq_getElem?_getD] at this
      rw [this]
      by_cases h : i < k
      · simp [h, Nat.lt_succ_of_lt h]
      · simp [h, show ¬ i < k + 1 from by omega]
theorem cpL_all (L : List (List Int)) : cpL L L.length = L := by
  apply nthR_ext
  · rw [cpL_len]
  · intro i hi
    rw [cpL_len] at hi
    rw [cpL_nth _ hi, if_pos hi]
theorem own_madeC (w : World) (L : List (List Int)) (hn : L.length ≤ 1048576) : OwnGrid 2 33 (w.alloc (.cells (madeCells #[.slice none 0 0] L.length) 33)) w.heap.size (.slice (some ⟨w.heap.size, 0, none⟩) L.length L.length) (cpL L 0) := by
  obtain ⟨cur, c1, c2, c3⟩ := World.rowIs_made w (.slice none 0 0) L.length 33
  refine ⟨fun _ => .slice none 0 0, by rw [cpL_len]; unfold maxLen; omega, Or.inr ⟨w.heap.size, L.length, cur, by rw [cpL_len], Nat.le_refl _, c1, by rw [cpL_len]; exact Nat.le_refl _, by unfold maxLen; omega, c2, fun i hi => by rw [cpL_len] at hi; rw [c3 i hi]⟩, fun i hi => ?_, fun i j k _ _ hk => by cases hk⟩
  rw [cpL_len] at hi
  rw [cpL_nth 0 hi, if_neg (by omega)]
  exact ⟨by simp, by simp, Or.inl ⟨rfl, rfl⟩⟩

set_option maxHeartbeats 1600000 in
theorem copied_any (v : Value) (L : List (List Int)) (w : World) (h : GridAt w v L) (hs : Small L) : Calls Tryz.prog 217 #[.agg #[v]] w (GaveGraph w L) := by
  have hl := hs.1
  have HS := Lib.hid hs.2
  have hmk := run_make_row' (P := Tryz.prog) 24 33 (.slice none 0 0) 24 Tryz.underlying24 Tryz.infoR rfl .i64 .i64 L.length (by omega) (by omega)
  obtain ⟨a0, c0, rfl⟩ := h.slice
  have T0 := Lib.hid (Two.start w (.slice a0 L.length c0))
  have T1 := Lib.hid ((Two.start w (.slice a0 L.length c0)).keep ((Below.refl _ _).alloc (Nat.le_refl _) (.cells (madeCells #[.slice none 0 0] L.length) 33)))
  have og := own_madeC ((w.alloc (.cells #[.slice a0 L.length c0] 26)).alloc (.cells #[.slice none 0 0] 26)) L hl
  rw [size_alloc1, size_alloc1] at og
  have HOG := Lib.hid og
  have HG := Lib.hid h
  clear h hs og T0
  go_enter Tryz.func217, Tryz.ntmps217
  go_wp2
  go_loopw [13] (fun i wr => ∃ k : Nat, k ≤ L.length ∧ i = .int .i64 k ∧ OwnGrid 2 33 wr (w.heap.size + 1 + 1) (.slice (some ⟨w.heap.size + 1 + 1, 0, none⟩) L.length L.length) (cpL L k) ∧ Two w (.slice a0 L.length c0) wr ∧ w.heap.size + 1 + 1 < wr.heap.size) (fun i _ => L.length - (intOf i).toNat)
  case atStart => exact ⟨0, Nat.zero_le _, rfl, HOG.out, T1.out, by simp⟩
  case round =>
    obtain ⟨k, hk, rfl, hog, ht, hz⟩ := hrel
    have HOG1 := Lib.hid hog
    have HT := Lib.hid ht
    by_cases hlt : k < L.length
    · obtain ⟨b, o, c', A, C, e2, l1, l2, hc⟩ := HG.out.pos (by omega)
      simp only [Value.slice.injEq, true_and] at e2
      obtain ⟨rfl, rfl⟩ := e2
      have hck := cell_keep ht.bel (hc k hlt).1
      have HRK := Lib.hid ((hc k hlt).2.keep ht.bel)
      obtain ⟨g', cap', eg, _, hgs, hcell⟩ := hog.place (by rw [cpL_len]; omega)
      obtain ⟨a, m, c, kc, kf, _⟩ := hcell k (by rw [cpL_len]; exact hlt)
      simp only [Value.slice.injEq, Option.some.injEq, Addr.mk.injEq, and_true] at eg
      obtain ⟨rfl, e9, e8⟩ := eg
      have KC := Lib.hid kc
      have KF := Lib.hid kf
      have hrl := HS.out k hlt
      clear hog ht hcell e9 e8 kc kf hc
      go_wp2_with fail
      refine (copiedRow_any _ _ _ HRK.out hrl).mono ?_
      rintro e w1 ⟨n1, a1, c1, rfl, ho1, hb1⟩
      have kc1 := cell_keep hb1 KC.out
      have kf1 : w1.frozen? ⟨w.heap.size + 1 + 1, k, none⟩ = false := by rw [hb1.frozen hgs]; exact KF.out
      have HO1 := Lib.hid ho1
      have HBB := Lib.hid hb1
      clear ho1 hb1 hck
      go_wp2
      go_roundw
      case rel =>
        refine ⟨k + 1, by omega, by go_num, ?_, ?_, by rw [size_setCell1]; exact Nat.lt_of_lt_of_le hz HBB.out.size⟩
        · rw [← cpL_set]
          exact HOG1.out.setRow (by decide) HBB.out (by rw [cpL_len]; exact hlt) (HO1.out.mono (by omega)) (fun q hq => Or.inl (HO1.out.lt q hq).1)
        · have t1 := HT.out.keep HBB.out
          exact ⟨t1.arg.setOther (by simp; omega) _, t1.res.setOther (by simp) _, t1.bel.setCell (by simp; omega) _⟩
      case measure => simp [intOf]; omega
    · obtain rfl : k = L.length := by omega
      have kr := ht.res.1
      have kf := ht.res.2
      clear hog ht
      go_wp2
      refine bodyPost_ret (v := .agg #[.slice (some ⟨w.heap.size + 1 + 1, 0, none⟩) L.length L.length]) (by simp [results, Tryz.results217, go_sem, HT.out.q0]) rfl ⟨L.length, _, L.length, rfl, ?_, ?_⟩
      · have := HOG1.out
        rw [cpL_all] at this
        exact (this.setBelow (by simp) _).mono (by omega)
      · exact HT.out.bel.setCell (by simp) _

end Go.Proofs.YtohjfcfcopbmoaaGreatDoor

/- Walks: an edge cut. -/
namespace Go.Proofs.YtohjfcfcopbmoaaGreatDoor
open Go.RowKit

/-- The boxes of a function at work on a copy: its graph's, its result's, that of the copy, and the copy. -/
structure WorkL (w0 : World) (v : Value) (bo B g n cg : Nat) (L : List (List Int)) (w : World) : Prop where
  two : Two w0 v w
  box : BoxT 26 w bo (.slice (some ⟨g, 0, none⟩) n cg)
  own : OwnGrid 2 33 w B (.slice (some ⟨g, 0, none⟩) n cg) L
  low : w0.heap.size + 1 < B
theorem WorkL.keep {w0 : World} {v : Value} {bo B g n cg : Nat} {L : List (List Int)} {w w' : World} (h : WorkL w0 v bo B g n cg L w) (hb : Below w.heap.size w w') : WorkL w0 v bo B g n cg L w' :=
  ⟨h.two.keep hb, h.box.keep hb, h.own.keep hb, h.low⟩
theorem WorkL.ne {w0 : World} {v : Value} {bo B g n cg : Nat} {L : List (List Int)} {w : World} (h : WorkL w0 v bo B g n cg L w) : bo ≠ g := by
  obtain ⟨cur, hcur⟩ := h.own.blkT
  intro e
  rw [← e] at hcur
  have hbb : w.heap[bo]? = _ := h.box
  rw [hcur] at hbb
  simp at hbb
theorem WorkL.at {w0 : World} {v : Value} {bo B g n cg : Nat} {L : List (List Int)} {w : World} (h : WorkL w0 v bo B g n cg L w) {i : Nat} (hi : i < L.length) :
    B ≤ g ∧ g < w.heap.size ∧ ∃ a m c, w.cell? ⟨g, i, none⟩ = some (.slice a m c) ∧ w.frozen? ⟨g, i, none⟩ = false ∧ OwnRow 2 w B (.slice a m c) (nthR L i) := by
  obtain ⟨g', cap', eg, hB, hgs, hcell⟩ := h.own.place (by omega)
  simp only [Value.slice.injEq, Option.some.injEq, Addr.mk.injEq, and_true] at eg
  obtain ⟨rfl, _, _⟩ := eg
  exact ⟨hB, hgs, hcell i hi⟩
theorem WorkL.set {w0 : World} {v : Value} {bo B g n cg : Nat} {L : List (List Int)} {w w' : World} (h : WorkL w0 v bo B g n cg L w) (hb : Below w.heap.size w w') {rv : Value} {xs : List Int} (hr : OwnRow 2 w' w.heap.size rv xs) {i : Nat} (hi : i < L.length) :
    WorkL w0 v bo B g n cg (L.set i xs) (w'.setCell ⟨g, i, none⟩ rv) := by
  obtain ⟨hB, hgs, _⟩ := h.at hi
  have hlow := h.low
  have h1 := h.keep hb
  exact ⟨⟨h1.two.arg.setOther (by simp; omega) _, h1.two.res.setOther (by simp; omega) _, h1.two.bel.setCell (by simp; omega) _⟩, h1.box.setOther h.ne _, h.own.setRow (by decide) hb hi (hr.mono (by omega)) (fun k hk => Or.inl (hr.lt k hk).1), hlow⟩

/-- Two different vertices of a graph. -/
def pairB (L : List (List Int)) (u x : Int) : Bool := decide (GraphP L) && inB u 0 ((L.length : Int) - 1) && inB x 0 ((L.length : Int) - 1) && (u != x)

end Go.Proofs.YtohjfcfcopbmoaaGreatDoor

/- Walks: an edge cut: the model's and the program's. -/
namespace Go.Proofs.YtohjfcfcopbmoaaGreatDoor
open Go.RowKit

theorem cell_set_blk {w : World} {a b : Addr} {u : Value} (v : Value) (hne : a.block ≠ b.block) (h : w.cell? b = some u) : (w.setCell a v).cell? b = some u :=
  (cell_set_other v (fun e => hne (congrArg Addr.block e))).trans h
theorem hasB_ne {L : List (List Int)} (hG : GraphP L) {u x : Int} (h0 : 0 ≤ u) (h1 : u < (L.length : Int)) (h : hasB (nthR L u.toNat) x = true) : u ≠ x := by
  intro e
  subst e
  have := (hG.2.1 u.toNat (by omega)).2
  rw [Int.toNat_of_nonneg h0, h] at this
  cases this
theorem edgeB_pair (L : List (List Int)) (u x : Int) : edgeB L u x = (pairB L u x && hasB (nthR L u.toNat) x) := by
  unfold edgeB pairB
  by_cases hG : GraphP L
  · by_cases hu : inB u 0 ((L.length : Int) - 1) = true
    · cases hh : hasB (nthR L u.toNat) x with
      | false => simp
      | true =>
        have hu' : 0 ≤ u ∧ u ≤ (L.length : Int) - 1 := by simpa [inB] using hu
        have hne := hasB_ne hG hu'.1 (by omega) hh
        have : (u != x) = true := by rw [bne_iff_ne]; exact hne
        rw [this]; simp
    · have hu' : inB u 0 ((L.length : Int) - 1) = false := by simpa using hu
      rw [hu']; simp
  · rw [decide_eq_false hG]; simp
theorem edgeB_nat {L : List (List Int)} {u x : Int} (h : edgeB L u x = true) : GraphP L ∧ ∃ p q : Nat, u = (p : Int) ∧ x = (q : Int) ∧ p < L.length ∧ q < L.length ∧ p ≠ q := by
  unfold edgeB inB at h
  simp at h
  obtain ⟨⟨⟨hG, hu⟩, hx⟩, hh⟩ := h
  have hne := hasB_ne hG hu.1 (by omega) hh
  exact ⟨hG, u.toNat, x.toNat, by omega, by omega, by omega, by omega, by omega⟩

/-- The graph without the edge. -/
def cutEL (L : List (List Int)) (u x : Int) : List (List Int) := if edgeB L u x = true then (L.set u.toNat (wo (nthR L u.toNat) x)).set x.toNat (wo (nthR L x.toNat) u) else []
theorem cutEL_no {L : List (List Int)} {u x : Int} (h : edgeB L u x = false) : cutEL L u x = [] := by rw [cutEL, h]; rfl
theorem nthR_set_ne {L : List (List Int)} {i j : Nat} (xs : List Int) (h : i ≠ j) : nthR (L.set i xs) j = nthR L j := by
  unfold nthR
  rw [List.getD_eq_getElem?_getD, List.getD_eq_getElem?_getD, List.getElem?_set_ne h]
theorem small_set {L : List (List Int)} (h : Small L) {i : Nat} {xs : List Int} (hx : xs.length ≤ 1048576) : Small (L.set i xs) := by
  refine ⟨by rw [List.length_set]; exact h.1, fun j hj => ?_⟩
  rw [List.length_set] at hj
  by_cases e : i = j
  · subst e
    unfold nthR
    rw [List.getD_eq_getElem?_getD, List.getElem?_set_self hj]
    exact hx
  · rw [nthR_set_ne xs e]; exact h.2 j hj
theorem row_small {L : List (List Int)} (hG : GraphP L) {i : Nat} (hi : i < L.length) : (nthR L i).length ≤ 16 := by rw [← row_list hG hi]; exact listM_len _
theorem cutEL_small (L : List (List Int)) (u x : Int) : Small (cutEL L u x) := by
  unfold cutEL
  split
  · rename_i h
    obtain ⟨hG, p, q, rfl, rfl, hp, hq, _⟩ := edgeB_nat h
    have h1 := wo_len (nthR L (p : Int).toNat) (q : Int)
    have h2 := wo_len (nthR L (q : Int).toNat) (p : Int)
    rw [Int.toNat_natCast] at h1 h2 ⊢
    have h3 := row_small hG hp
    have h4 := row_small hG hq
    exact small_set (small_set (graph_small hG) (by omega)) (by rw [Int.toNat_natCast]; omega)
  · exact ⟨by simp, fun i hi => absurd hi (by simp)⟩

/-- A copy laid and boxed. -/
theorem WorkL.start {w0 w w2 : World} {v : Value} {a2 : Option Addr} {n2 c2 : Nat} {L : List (List Int)} (ht : Two w0 v w) (hb : Below w.heap.size w w2) (ho : OwnGrid 2 33 w2 w.heap.size (.slice a2 n2 c2) L) (hl : 0 < L.length) :
    n2 = L.length ∧ ∃ g, a2 = some ⟨g, 0, none⟩ ∧ WorkL w0 v w2.heap.size w.heap.size g L.length c2 L (w2.alloc (.cells #[.slice (some ⟨g, 0, none⟩) L.length c2] 26)) := by
  obtain ⟨g, cap, eg, hB, hgs, _⟩ := ho.place hl
  simp only [Value.slice.injEq] at eg
  obtain ⟨rfl, rfl, rfl⟩ := eg
  have hbw : Below w2.heap.size w2 (w2.alloc (.cells #[.slice (some ⟨g, 0, none⟩) L.length c2] 26)) := (Below.refl _ _).alloc (Nat.le_refl _) _
  exact ⟨rfl, g, rfl, (ht.keep hb).keep hbw, BoxT.new _ _ _, ho.keep hbw, ht.lt⟩
theorem WorkL.done {w0 : World} {v : Value} {bo B g n cg : Nat} {L : List (List Int)} {w : World} (h : WorkL w0 v bo B g n cg L w) {ok : Bool} (hok : ok = true) : GaveGB w0 L ok (.returned (.tuple #[.agg #[.slice (some ⟨g, 0, none⟩) n cg], .bool true])) (w.setCell ⟨w0.heap.size + 1, 0, none⟩ (.slice (some ⟨g, 0, none⟩) n cg)) :=
  h.two.yes h.own h.low hok

end Go.Proofs.YtohjfcfcopbmoaaGreatDoor

/- Walks: slices.BinarySearch over a rising row. -/
namespace Go.Proofs.YtohjfcfcopbmoaaGreatDoor
open Go.RowKit

theorem isNaNc_any (x : Int) (w : World) : Calls Tryz.prog 283 #[.int .i64 x] w fun e w' => e = .returned (.bool false) ∧ w = w' := by
  have hx : (x != x) = false := by simp
  go_enter Tryz.func283, Tryz.ntmps283
  go_wp2
  go_ret
  exact ⟨rfl, rfl⟩
theorem isNaNs_any (x : Int) (w : World) : Calls Tryz.prog 293 #[.int .i64 x] w fun e w' => e = .returned (.bool false) ∧ w = w' := by
  have hx : (x != x) = false := by simp
  go_enter Tryz.func293, Tryz.ntmps293
  go_wp2
  go_ret
  exact ⟨rfl, rfl⟩
theorem less_any (x y : Int) (w : World) : Calls Tryz.prog 292 #[.int .i64 x, .int .i64 y] w fun e w' => e = .returned (.bool (decide (x < y))) ∧ w = w' := by
  go_enter Tryz.func292, Tryz.ntmps292
  go_wp2_with fail
  refine (isNaNc_any _ _).mono ?_
  rintro e w' ⟨rfl, rfl⟩
  go_wp2
  go_ret
  exact ⟨rfl, rfl⟩

/-- The place of x in a rising row: what is before it is less, what is from it on is not; and a bool. -/
def BsPost (w : World) (xs : List Int) (x : Int) (e : Ending) (w' : World) : Prop :=
  ∃ (k : Nat) (b : Bool), k ≤ xs.length ∧ (∀ j, j < k → nth xs j < x) ∧ (∀ j, k ≤ j → j < xs.length → x ≤ nth xs j) ∧ e = .returned (.tuple #[.int .i64 k, .bool b]) ∧ w = w'

set_option maxHeartbeats 1600000 in
set_option maxRecDepth 100000 in
theorem binarySearch_any (v : Value) (xs : List Int) (x : Int) (w : World) (h : RowAt w v xs) (hs : xs.length ≤ 1000000) (hm : ∀ i j, i < j → j < xs.length → nth xs i < nth xs j) : Calls Tryz.prog 258 #[v, .int .i64 x] w (BsPost w xs x) := by
  have HR := Lib.hid h
  have HM := Lib.hid hm
  obtain ⟨a, c, rfl⟩ := h.slice
  clear h hm
  go_enter Tryz.func258, Tryz.ntmps258
  go_wp2_with fail
  go_loop [7, 8] (fun s t => ∃ i j : Nat, i ≤ j ∧ j ≤ xs.length ∧ s = .int .i64 i ∧ t = .int .i64 j ∧ (∀ q, q < i → nth xs q < x) ∧ (∀ q, j ≤ q → q < xs.length → x ≤ nth xs q)) (fun s t => (intOf t - intOf s).toNat)
  case atStart => exact ⟨0, xs.length, Nat.zero_le _, Nat.le_refl _, rfl, rfl, (fun q hq => absurd hq (by omega)), (fun q h1 h2 => absurd h2 (by omega))⟩
  case round =>
    obtain ⟨i, j, hij, hj, rfl, rfl, hlo, hhi⟩ := hrel
    have HLO := Lib.hid hlo
    have HHI := Lib.hid hhi
    clear hlo hhi
    by_cases hlt : i < j
    · obtain ⟨b, o, c', e2, l1, l2, hc⟩ := HR.out.pos (by omega)
      simp only [Value.slice.injEq, true_and] at e2
      obtain ⟨rfl, rfl⟩ := e2
      have hck := hc ((i + j) / 2) (by omega)
      clear hc
      go_wp2_with fail
      refine (less_any _ _ _).mono ?_
      rintro e w' ⟨rfl, rfl⟩
      have hh : ((i : Int) + (j : Int)) / 2 = (((i + j) / 2 : Nat) : Int) := by omega
      have HH := Lib.hid hh
      have hml : (i + j) / 2 < xs.length := by omega
      clear hh hck
      by_cases hd : nth xs ((i + j) / 2) < x
      · rw [decide_eq_true hd]
        have HD := Lib.hid hd
        clear hd
        go_wp2
        go_round
        case rel =>
          refine ⟨(i + j) / 2 + 1, j, by omega, hj, by rw [HH.out]; rfl, rfl, fun q hq => ?_, HHI.out⟩
          by_cases e : q = (i + j) / 2
          · rw [e]; exact HD.out
          · have := HM.out q ((i + j) / 2) (by omega) hml
            have := HD.out
            omega
        case measure => simp [intOf]; omega
      · rw [decide_eq_false hd]
        have HD := Lib.hid hd
        clear hd
        go_wp2
        go_round
        case rel =>
          refine ⟨i, (i + j) / 2, by omega, by omega, rfl, by rw [HH.out], HLO.out, fun q hq hql => ?_⟩
          by_cases e : q = (i + j) / 2
          · rw [e]; have := HD.out; omega
          · have := HM.out ((i + j) / 2) q (by omega) hql
            have := HD.out
            omega
        case measure => simp [intOf]; omega
    · obtain rfl : i = j := by omega
      by_cases hil : i < xs.length
      · obtain ⟨b, o, c', e2, l1, l2, hc⟩ := HR.out.pos (by omega)
        simp only [Value.slice.injEq, true_and] at e2
        obtain ⟨rfl, rfl⟩ := e2
        have hck := hc i hil
        have hilI : (i : Int) < (xs.length : Int) := by omega
        clear hc
        by_cases he : (nth xs i == x) = true
        · go_wp2
          go_ret2
          exact ⟨i, _, hj, HLO.out, HHI.out, rfl, rfl⟩
        · have he' : (nth xs i == x) = false := by simpa using he
          clear he
          go_wp2_with fail
          refine (isNaNs_any _ _).mono ?_
          rintro e w' ⟨rfl, rfl⟩
          go_wp2
          go_ret2
          exact ⟨i, _, hj, HLO.out, HHI.out, rfl, rfl⟩
      · go_wp2
        go_ret2
        exact ⟨i, _, hj, HLO.out, HHI.out, rfl, rfl⟩

end Go.Proofs.YtohjfcfcopbmoaaGreatDoor

/- Walks: a number put into a rising row by the program. -/
namespace Go.Proofs.YtohjfcfcopbmoaaGreatDoor
open Go.RowKit

/-- Where x stands in a rising row, and the row with it. -/
def WithPost (w : World) (xs : List Int) (x : Int) (e : Ending) (w' : World) : Prop :=
  ∃ k, k ≤ xs.length ∧ (∀ j, j < k → nth xs j < x) ∧ (∀ j, k ≤ j → j < xs.length → x ≤ nth xs j) ∧ GaveRow w (xs.take k ++ x :: xs.drop k) e w'

set_option maxHeartbeats 3200000 in
set_option maxRecDepth 100000 in
theorem rowWith_any (v : Value) (xs : List Int) (x : Int) (w : World) (h : RowAt w v xs) (hx : I64 x) (hs : xs.length ≤ 1000000) (hm : ∀ i j, i < j → j < xs.length → nth xs i < nth xs j) : Calls Tryz.prog 218 #[v, .int .i64 x] w (WithPost w xs x) := by
  obtain ⟨i0, hi, hz0, hz1, hz2⟩ := info_parts Tryz.infoI
  have HX := Lib.hid hx
  have HR := Lib.hid h
  have HM := Lib.hid hm
  clear hm hx
  by_cases h0 : xs.length = 0
  · have he : xs = [] := List.length_eq_zero_iff.1 h0
    have HE := Lib.hid he
    rcases h.none_or h0 with rfl | ⟨ad, c, rfl⟩
    · clear h h0 he
      go_enter Tryz.func218, Tryz.ntmps218
      go_wp2_with fail
      refine (binarySearch_any _ xs x _ HR.out hs HM.out).mono ?_
      rintro e w' ⟨k, bb, hk, hlo, hhi, rfl, rfl⟩
      obtain rfl : k = 0 := by have := HE.out; subst this; simpa using hk
      clear hlo hhi hk
      go_wp2_with (at_builtin; refine wpList_append_grows _ rfl (.tmp 17) (.tmp 19) 33 rfl 2 i0 (.int .i64 0) 1 8 Tryz.underlying33 hi hz0 hz1 hz2 rfl (by decide) none 0 0 [] rfl (fun _ => ⟨rfl, rfl⟩) ?d0 ?d6 ⟨w.heap.size, 0, none⟩ 1 1 [.int .i64 x] rfl rfl ?d1 ?d2 ?d3 ?d4 ?d5 ?_)
      case d0 => simp
      case d6 => intro b hb; cases hb
      case d1 =>
        intro j u hj
        match j, hj with
        | 0, hj => simp at hj; subst hj; simp [Addr.add]
      case d2 => intro u hu; simp at hu; subst hu; rfl
      case d3 => omega
      case d4 => unfold maxLen; omega
      case d5 => omega
      intro v2 w2 hown2 hgrow2
      have hb2 : Below w.heap.size w w2 := ((Below.refl _ _).alloc (Nat.le_refl _) _).grown hgrow2 (by simp) (fun j hj => by cases hj)
      have HB2 := Lib.hid hb2
      have HO2 := Lib.hid hown2
      have hzw : w.heap.size + 1 ≤ w2.heap.size := by have := hgrow2.size; rw [size_alloc1] at this; exact this
      clear hown2 hgrow2 hb2
      go_wp2_with (at_builtin; refine wpList_append_own_none rfl (.tmp 21) (.tmp 24) 33 rfl (w.heap.size + 1) 2 i0 1 Tryz.underlying33 hi _ _ _ rfl HO2.out rfl ?_)
      have hro : OwnRow 2 w2 (w.heap.size + 1) _ [x] := OwnRow.of_ownsRow (n := 0 + 1) (by simpa using HO2.out) (by unfold maxLen; simp) (by intro z hz; simp at hz; subst hz; exact HX.out)
      obtain ⟨a4, c4, e4⟩ := hro.row.slice
      have HP : Hid (WithPost w xs x (.returned (.slice a4 [x].length c4)) w2) := by
        refine ⟨0, Nat.zero_le _, fun j hj => absurd hj (by omega), fun j _ hj => absurd hj (by rw [HE.out]; simp), _, a4, c4, rfl, ?_, HB2.out⟩
        rw [← e4, HE.out]
        exact hro.mono (by omega)
      rw [e4]
      clear hro e4
      go_ret
      exact HP.out
    · clear h h0 he
      go_enter Tryz.func218, Tryz.ntmps218
      go_wp2_with fail
      refine (binarySearch_any _ xs x _ HR.out hs HM.out).mono ?_
      rintro e w' ⟨k, bb, hk, hlo, hhi, rfl, rfl⟩
      obtain rfl : k = 0 := by have := HE.out; subst this; simpa using hk
      clear hlo hhi hk
      go_wp2_with (at_builtin; refine wpList_append_grows _ rfl (.tmp 17) (.tmp 19) 33 rfl 2 i0 (.int .i64 0) 1 8 Tryz.underlying33 hi hz0 hz1 hz2 rfl (by decide) (some ad) 0 0 [] rfl (fun h => by cases h) ?d0 ?d6 ⟨w.heap.size, 0, none⟩ 1 1 [.int .i64 x] rfl rfl ?d1 ?d2 ?d3 ?d4 ?d5 ?_)
      case d0 => simp
      case d6 => intro b hb j u hj; simp at hj
      case d1 =>
        intro j u hj
        match j, hj with
        | 0, hj => simp at hj; subst hj; simp [Addr.add]
      case d2 => intro u hu; simp at hu; subst hu; rfl
      case d3 => omega
      case d4 => unfold maxLen; omega
      case d5 => omega
      intro v2 w2 hown2 hgrow2
      have hb2 : Below w.heap.size w w2 := ((Below.refl _ _).alloc (Nat.le_refl _) _).grown hgrow2 (by simp) (fun j hj => by cases hj)
      have HB2 := Lib.hid hb2
      have HO2 := Lib.hid hown2
      have hzw : w.heap.size + 1 ≤ w2.heap.size := by have := hgrow2.size; rw [size_alloc1] at this; exact this
      clear hown2 hgrow2 hb2
      go_wp2_with (at_builtin; refine wpList_append_own _ rfl (.tmp 21) (.tmp 24) 33 rfl (w.heap.size + 1) 2 i0 (.int .i64 0) 1 8 Tryz.underlying33 hi hz0 hz1 hz2 rfl (by decide) _ _ _ rfl HO2.out ad (0) (c) [] rfl (by simp) ?e1 ?e2 ?e3 ?e4 ?e5 ?_)
      case e1 => intro j u hj; simp at hj
      case e2 => intro u hu; simp at hu
      case e3 => unfold maxLen; omega
      case e4 => omega
      case e5 => exact hzw
      intro v3 w3 hown3 hgrow3 _
      have hb3 : Below w.heap.size w w3 := HB2.out.grown hgrow3 (by omega) (fun j hj => by have := (HO2.out.lt j hj).1; omega)
      have hro : OwnRow 2 w3 (w.heap.size + 1) v3 [x] := OwnRow.of_ownsRow (n := 0 + 1 + 0) (by simpa using hown3) (by unfold maxLen; simp) (by intro z hz; simp at hz; subst hz; exact HX.out)
      obtain ⟨a4, c4, e4⟩ := hro.row.slice
      have HP : Hid (WithPost w xs x (.returned v3) w3) := by
        refine ⟨0, Nat.zero_le _, fun j hj => absurd hj (by omega), fun j _ hj => absurd hj (by rw [HE.out]; simp), _, a4, c4, by rw [e4], ?_, hb3⟩
        rw [← e4, HE.out]
        exact hro.mono (by omega)
      clear hro e4 hown3 hgrow3 hb3
      go_wp2
      go_ret
      exact HP.out
  · obtain ⟨b, o, c, rfl, l1, l2, hc⟩ := h.pos (by omega)
    have HC := Lib.hid hc
    unfold maxLen at l2
    clear h hc
    go_enter Tryz.func218, Tryz.ntmps218
    go_wp2_with fail
    refine (binarySearch_any _ xs x _ HR.out hs HM.out).mono ?_
    rintro e w' ⟨k, bb, hk, hlo, hhi, rfl, rfl⟩
    have HLO := Lib.hid hlo
    have HHI := Lib.hid hhi
    have HTL : Hid ((xs.take k).length = k) := by show _ = _; rw [List.length_take]; omega
    have HDL : Hid ((xs.drop k).length = xs.length - k) := by show _ = _; rw [List.length_drop]
    have hkc : (k : Int) ≤ (c : Int) := by omega
    have hkl : (k : Int) ≤ (xs.length : Int) := by omega
    have HTC : Hid (∀ b', (some ⟨b, o, none⟩ : Option Addr) = some b' → ∀ j u, ((xs.take k).map (Value.int .i64))[j]? = some u → (w.alloc (.cells #[.int .i64 x] 2)).cell? (b'.add j) = some u) := by
      intro b' hb' j u hj
      cases hb'
      exact row_news (fun i hi => cell_keep ((Below.refl _ _).alloc (Nat.le_refl _) _) (by
        rw [HTL.out] at hi
        rw [nth_take hi]
        exact HC.out i (by omega))) j u hj
    clear hlo hhi
    by_cases hkc2 : k < c
    · have hne : ((k : Int) == (c : Int)) = false := by rw [beq_eq_false_iff_ne]; omega
      go_wp2_with (at_builtin; refine wpList_append_grows _ rfl (.tmp 17) (.tmp 19) 33 rfl 2 i0 (.int .i64 0) 1 8 Tryz.underlying33 hi hz0 hz1 hz2 rfl (by decide) (some ⟨b, o, none⟩) k k ((xs.take k).map (Value.int .i64)) rfl (fun h => by cases h) ?d0 ?d6 ⟨w.heap.size, 0, none⟩ 1 1 [.int .i64 x] rfl rfl ?d1 ?d2 ?d3 ?d4 ?d5 ?_)
      case d0 => rw [List.length_map, HTL.out, Nat.mul_one]
      case d6 => exact HTC.out
      case d1 =>
        intro j u hj
        match j, hj with
        | 0, hj => simp at hj; subst hj; simp [Addr.add]
      case d2 => intro u hu; simp at hu; subst hu; rfl
      case d3 => omega
      case d4 => unfold maxLen; omega
      case d5 => omega
      intro v2 w2 hown2 hgrow2
      have hb2 : Below w.heap.size w w2 := ((Below.refl _ _).alloc (Nat.le_refl _) _).grown hgrow2 (by simp) (fun j hj => by cases hj)
      have HB2 := Lib.hid hb2
      have HO2 := Lib.hid hown2
      have hzw : w.heap.size + 1 ≤ w2.heap.size := by have := hgrow2.size; rw [size_alloc1] at this; exact this
      clear hown2 hgrow2 hb2
      go_wp2_with (at_builtin; refine wpList_append_own _ rfl (.tmp 21) (.tmp 24) 33 rfl (w.heap.size + 1) 2 i0 (.int .i64 0) 1 8 Tryz.underlying33 hi hz0 hz1 hz2 rfl (by decide) _ _ _ rfl HO2.out ⟨b, o + k, none⟩ (xs.length - k) (c - k) ((xs.drop k).map (Value.int .i64)) rfl (by simp) ?e1 ?e2 ?e3 ?e4 ?e5 ?_)
      case e1 => exact row_news (drop_cells HB2.out HC.out k)
      case e2 => exact ints_one _
      case e3 => unfold maxLen; omega
      case e4 => omega
      case e5 => exact hzw
      intro v3 w3 hown3 hgrow3 _
      have hb3 : Below w.heap.size w w3 := HB2.out.grown hgrow3 (by omega) (fun j hj => by have := (HO2.out.lt j hj).1; omega)
      have hro : OwnRow 2 w3 (w.heap.size + 1) v3 (xs.take k ++ x :: xs.drop k) := by
        refine OwnRow.of_ownsRow (n := k + 1 + (xs.length - k)) (by simpa using hown3) (by simp; unfold maxLen; omega) ?_
        intro z hz
        simp only [List.mem_append, List.mem_cons] at hz
        rcases hz with hz | rfl | hz
        · exact HR.out.1 z (by first | exact List.mem_of_mem_take hz | (simp at hz))
        · exact HX.out
        · exact HR.out.1 z (by first | exact List.mem_of_mem_drop hz | (simp at hz))
      obtain ⟨a4, c4, e4⟩ := hro.row.slice
      have HP : Hid (WithPost w xs x (.returned v3) w3) := ⟨k, hk, HLO.out, HHI.out, _, a4, c4, by rw [e4], by rw [← e4]; exact hro.mono (by omega), hb3⟩
      clear hro e4 hown3 hgrow3 hb3
      go_wp2
      go_ret
      exact HP.out
    · obtain hce : c = xs.length := by omega
      subst hce
      obtain hke : k = xs.length := by omega
      subst hke
      go_wp2_with (at_builtin; refine wpList_append_grows _ rfl (.tmp 17) (.tmp 19) 33 rfl 2 i0 (.int .i64 0) 1 8 Tryz.underlying33 hi hz0 hz1 hz2 rfl (by decide) (some ⟨b, o, none⟩) xs.length xs.length ((xs.take xs.length).map (Value.int .i64)) rfl (fun h => by cases h) ?d0 ?d6 ⟨w.heap.size, 0, none⟩ 1 1 [.int .i64 x] rfl rfl ?d1 ?d2 ?d3 ?d4 ?d5 ?_)
      case d0 => rw [List.length_map, HTL.out, Nat.mul_one]
      case d6 => exact HTC.out
      case d1 =>
        intro j u hj
        match j, hj with
        | 0, hj => simp at hj; subst hj; simp [Addr.add]
      case d2 => intro u hu; simp at hu; subst hu; rfl
      case d3 => omega
      case d4 => unfold maxLen; omega
      case d5 => omega
      intro v2 w2 hown2 hgrow2
      have hb2 : Below w.heap.size w w2 := ((Below.refl _ _).alloc (Nat.le_refl _) _).grown hgrow2 (by simp) (fun j hj => by cases hj)
      have HB2 := Lib.hid hb2
      have HO2 := Lib.hid hown2
      have hzw : w.heap.size + 1 ≤ w2.heap.size := by have := hgrow2.size; rw [size_alloc1] at this; exact this
      clear hown2 hgrow2 hb2
      go_wp2_with (at_builtin; refine wpList_append_own _ rfl (.tmp 21) (.tmp 24) 33 rfl (w.heap.size + 1) 2 i0 (.int .i64 0) 1 8 Tryz.underlying33 hi hz0 hz1 hz2 rfl (by decide) _ _ _ rfl HO2.out ⟨b, o, none⟩ (0) (0) [] rfl (by simp) ?e1 ?e2 ?e3 ?e4 ?e5 ?_)
      case e1 => intro j u hj; simp at hj
      case e2 => intro u hu; simp at hu
      case e3 => unfold maxLen; omega
      case e4 => omega
      case e5 => exact hzw
      intro v3 w3 hown3 hgrow3 _
      have hb3 : Below w.heap.size w w3 := HB2.out.grown hgrow3 (by omega) (fun j hj => by have := (HO2.out.lt j hj).1; omega)
      have hro : OwnRow 2 w3 (w.heap.size + 1) v3 (xs.take xs.length ++ x :: []) := by
        refine OwnRow.of_ownsRow (n := xs.length + 1 + 0) (by simpa using hown3) (by simp; unfold maxLen; omega) ?_
        intro z hz
        simp only [List.mem_append, List.mem_cons] at hz
        rcases hz with hz | rfl | hz
        · exact HR.out.1 z (by first | exact List.mem_of_mem_take hz | (simp at hz))
        · exact HX.out
        · exact HR.out.1 z (by first | exact List.mem_of_mem_drop hz | (simp at hz))
      obtain ⟨a4, c4, e4⟩ := hro.row.slice
      have HP : Hid (WithPost w xs x (.returned v3) w3) := ⟨xs.length, hk, HLO.out, HHI.out, _, a4, c4, by rw [e4], by rw [← e4, List.drop_length]; exact hro.mono (by omega), hb3⟩
      clear hro e4 hown3 hgrow3 hb3
      go_wp2
      go_ret
      exact HP.out

end Go.Proofs.YtohjfcfcopbmoaaGreatDoor

/- Walks: an edge added. -/
namespace Go.Proofs.YtohjfcfcopbmoaaGreatDoor
open Go.RowKit

theorem listM_rise (M : Nat) : ∀ i j, i < j → j < (listM M).length → nth (listM M) i < nth (listM M) j := by
  intro i j hij hj
  have := List.pairwise_iff_getElem.1 (listM_set M).pairwise i j (by omega) hj hij
  rwa [nth_eq (by omega), nth_eq hj]
theorem rowWith_mask (v : Value) (M x : Nat) (w : World) (h : RowAt w v (listM M)) (hx : x < 16) (hn : M.testBit x = false) : Calls Tryz.prog 218 #[v, .int .i64 (x : Int)] w (GaveRow w (listM (M ||| 2 ^ x))) := by
  refine (rowWith_any v (listM M) (x : Int) w h (by unfold I64; omega) (by have := listM_len M; omega) (listM_rise M)).mono ?_
  rintro e w' ⟨k, hk, hlo, hhi, hg⟩
  rw [into_list hx hk hlo ?_] at hg
  · exact hg
  · by_cases e : k = (listM M).length
    · exact Or.inl e
    · right
      have h1 := hhi k (Nat.le_refl _) (by omega)
      have h2 : nth (listM M) k ≠ (x : Int) := by
        intro e2
        have := (listM_mem M (x : Int)).1 (e2 ▸ nth_mem (by omega))
        obtain ⟨i, _, h3, h4⟩ := this
        have : i = x := by omega
        subst this
        rw [hn] at h3
        cases h3
      omega

/-- May this edge be added? -/
def addB (L : List (List Int)) (u x : Int) : Bool := pairB L u x && !hasB (nthR L u.toNat) x
/-- The graph with it. -/
def addEL (L : List (List Int)) (u x : Int) : List (List Int) := if addB L u x = true then (L.set u.toNat (listM (rowM L u.toNat ||| 2 ^ x.toNat))).set x.toNat (listM (rowM L x.toNat ||| 2 ^ u.toNat)) else []
theorem addEL_no {L : List (List Int)} {u x : Int} (h : addB L u x = false) : addEL L u x = [] := by rw [addEL, h]; rfl
theorem pairB_nat {L : List (List Int)} {u x : Int} (h : pairB L u x = true) : GraphP L ∧ ∃ p q : Nat, u = (p : Int) ∧ x = (q : Int) ∧ p < L.length ∧ q < L.length ∧ p ≠ q := by
  unfold pairB inB at h
  simp at h
  obtain ⟨⟨⟨hG, hu⟩, hx⟩, hne⟩ := h
  exact ⟨hG, u.toNat, x.toNat, by omega, by omega, by omega, by omega, by omega⟩
theorem addB_nat {L : List (List Int)} {u x : Int} (h : addB L u x = true) : GraphP L ∧ ∃ p q : Nat, u = (p : Int) ∧ x = (q : Int) ∧ p < L.length ∧ q < L.length ∧ p ≠ q ∧ adjB L p q = false := by
  unfold addB at h
  rw [Bool.and_eq_true, Bool.not_eq_true'] at h
  obtain ⟨hG, p, q, rfl, rfl, hp, hq, hpq⟩ := pairB_nat h.1
  refine ⟨hG, p, q, rfl, rfl, hp, hq, hpq, ?_⟩
  have := h.2
  have hz := hG.1
  rwa [Int.toNat_natCast, adjB_has hG hp (by omega)] at this
theorem addEL_small (L : List (List Int)) (u x : Int) : Small (addEL L u x) := by
  unfold addEL
  split
  · rename_i h
    obtain ⟨hG, p, q, rfl, rfl, hp, hq, _, _⟩ := addB_nat h
    exact small_set (small_set (graph_small hG) (by have := listM_len (rowM L (p : Int).toNat ||| 2 ^ (q : Int).toNat); omega)) (by have := listM_len (rowM L (q : Int).toNat ||| 2 ^ (p : Int).toNat); omega)
  · exact ⟨by simp, fun i hi => absurd hi (by simp)⟩
theorem Two.keepB {w0 : World} {v : Value} {w w' : World} {B : Nat} (h : Two w0 v w) (hb : Below B w w') (hB : w0.heap.size + 1 < B) : Two w0 v w' :=
  ⟨h.arg.keepB hb (by omega), h.res.keepB hb hB, h.bel.trans (hb.mono (by omega))⟩

set_option maxHeartbeats 3200000 in
set_option maxRecDepth 100000 in
theorem implAddedEdge_any (v : Value) (L : List (List Int)) (u x : Int) (w : World) (h : GridAt w v L) (hu : I64 u) (hx : I64 x) : Calls Tryz.prog 138 #[.agg #[v], .int .i64 u, .int .i64 x] w (GaveGB w (addEL L u x) (addB L u x)) := by
  have hl := h.len
  unfold maxLen at hl
  obtain ⟨a0, c0, rfl⟩ := h.slice
  have T0 := Lib.hid (Two.start w (.slice a0 L.length c0))
  have HGK : Hid (∀ w', Below w.heap.size w w' → GridAt w' (.slice a0 L.length c0) L) := fun w' hb => h.keep hb
  clear h
  go_enter Tryz.func138, Tryz.ntmps138
  go_wp2_with fail
  refine (implGraphOk_any _ L _ (HGK.out _ T0.out.bel)).mono ?_
  rintro e w1 ⟨rfl, hb1⟩
  have T1 := Lib.hid (T0.out.keep hb1)
  clear hb1 T0
  by_cases hG : GraphP L
  · have HG := Lib.hid hG
    have hz := hG.1
    rw [decide_eq_true hG]
    clear hG
    by_cases hu1 : 0 ≤ u ∧ u < (L.length : Int)
    · have HDU : Hid (decide (0 ≤ u ∧ u < (L.length : Int)) = true) := decide_eq_true hu1
      by_cases hx1 : 0 ≤ x ∧ x < (L.length : Int)
      · have HDX : Hid (decide (0 ≤ x ∧ x < (L.length : Int)) = true) := decide_eq_true hx1
        by_cases hux : u = x
        · have HI : Hid (addB L u x = false) := by show addB L u x = false; unfold addB pairB; rw [hux]; simp
          have heq : (u == x) = true := by rw [hux]; simp
          have kr := T1.out.res.1
          have kf := T1.out.res.2
          clear hux hu1 hx1
          go_wp2_with fail
          refine (isVertex_any _ _ _).mono ?_
          rintro e w' ⟨rfl, rfl⟩
          rw [HDU.out]
          go_wp2_with fail
          refine (isVertex_any _ _ _).mono ?_
          rintro e w' ⟨rfl, rfl⟩
          rw [HDX.out]
          go_wp2
          exact bodyPost_ret (v := .tuple #[.agg #[.slice none 0 0], .bool false]) (by simp [results, Tryz.results138, go_sem, T1.out.q0]) rfl (T1.out.no (addEL_no HI.out) HI.out)
        · have HPP : Hid (pairB L u x = true) := by
            show pairB L u x = true
            unfold pairB inB
            rw [decide_eq_true HG.out, decide_eq_true (by omega : 0 ≤ u ∧ u ≤ (L.length : Int) - 1), decide_eq_true (by omega : 0 ≤ x ∧ x ≤ (L.length : Int) - 1)]
            have : (u != x) = true := by rw [bne_iff_ne]; exact hux
            rw [this]; rfl
          have heq : (u == x) = false := by rw [beq_eq_false_iff_ne]; exact hux
          have kb1 := T1.out.arg.1
          clear hux hu1 hx1
          go_wp2_with fail
          refine (isVertex_any _ _ _).mono ?_
          rintro e w' ⟨rfl, rfl⟩
          rw [HDU.out]
          go_wp2_with fail
          refine (isVertex_any _ _ _).mono ?_
          rintro e w' ⟨rfl, rfl⟩
          rw [HDX.out]
          go_wp2_with fail
          refine (implEdgeIn_any _ L u x _ (HGK.out _ T1.out.bel) hu hx).mono ?_
          rintro e w2 ⟨rfl, hb2⟩
          have T2 := Lib.hid (T1.out.keep hb2)
          clear hb2 kb1 T1
          by_cases hE : edgeB L u x = true
          · have HI : Hid (addB L u x = false) := by
              show addB L u x = false
              rw [edgeB_pair, Bool.and_eq_true] at hE
              unfold addB
              rw [hE.2]; simp
            have kr := T2.out.res.1
            have kf := T2.out.res.2
            rw [hE]
            clear hE
            go_wp2
            exact bodyPost_ret (v := .tuple #[.agg #[.slice none 0 0], .bool false]) (by simp [results, Tryz.results138, go_sem, T2.out.q0]) rfl (T2.out.no (addEL_no HI.out) HI.out)
          · have hE' : edgeB L u x = false := by simpa using hE
            have HI : Hid (addB L u x = true) := by
              show addB L u x = true
              rw [edgeB_pair, HPP.out, Bool.true_and] at hE'
              unfold addB
              rw [HPP.out, hE']; rfl
            have kb2 := T2.out.arg.1
            rw [hE']
            clear hE hE' heq
            obtain ⟨-, p, q, rfl, rfl, hp, hq, hpq, hadj⟩ := addB_nat HI.out
            have hadj2 : adjB L q p = false := by rw [adjB_sym HG.out]; exact hadj
            have HA1 := Lib.hid hadj
            have HA2 := Lib.hid hadj2
            clear hadj hadj2
            go_wp2_with fail
            refine (copied_any _ L _ (HGK.out _ T2.out.bel) (graph_small HG.out)).mono ?_
            rintro e w3 ⟨n2, a2, c2, rfl, ho2, hb2⟩
            obtain ⟨rfl, g, rfl, hwk⟩ := WorkL.start T2.out hb2 ho2 (by omega)
            obtain ⟨bg, og, cg, A, C, eg, lg1, lg2, hcg⟩ := (HGK.out _ (Below.refl _ _)).pos (by omega)
            simp only [Value.slice.injEq, true_and] at eg
            obtain ⟨rfl, rfl⟩ := eg
            have hbgl : bg < w.heap.size := block_lt_of_cell (hcg p hp).1
            have HKC : Hid (∀ i, i < L.length → ∀ w', Below w.heap.size w w' → w'.cell? ⟨bg, og + i, none⟩ = some (.slice (A i) (nthR L i).length (C i)) ∧ RowAt w' (.slice (A i) (nthR L i).length (C i)) (listM (rowM L i))) := fun i hi w' hb => ⟨cell_keep hb (hcg i hi).1, by rw [row_list HG.out hi]; exact (hcg i hi).2.keep hb⟩
            have HWK := Lib.hid hwk
            have hpI : (p : Int) < (L.length : Int) := by omega
            have hqI : (q : Int) < (L.length : Int) := by omega
            have hq16 : q < 16 := by omega
            have hp16 : p < 16 := by omega
            clear hb2 ho2 kb2 hcg hwk
            go_wp2_with fail
            generalize hw4 : (w3.alloc (.cells #[.slice (some ⟨g, 0, none⟩) L.length c2] 26)) = w4 at HWK ⊢
            clear hw4
            have k8 := HWK.out.box.box.1
            have k3 := HWK.out.two.arg.1
            have kg := (HKC.out p hp _ HWK.out.two.bel).1
            obtain ⟨hBg, hgs, ap, mp, cp, kp, fp, -⟩ := HWK.out.at (i := p) hp
            have hlow := HWK.out.low
            have HKP := Lib.hid kp
            have HFP := Lib.hid fp
            have hne8 := HWK.out.ne
            clear kp fp
            go_region_held3 (fun wx => wx.cell? ⟨w3.heap.size, 0, none⟩ = some (.slice (some ⟨g, 0, none⟩) L.length c2) ∧ wx.cell? ⟨w.heap.size, 0, none⟩ = some (.slice (some ⟨bg, og, none⟩) L.length c0) ∧ wx.cell? ⟨bg, og + p, none⟩ = some (.slice (A p) (nthR L p).length (C p))) (first | exact ⟨k8, k3, kg⟩ | exact ⟨k8a, k3a, kga⟩ | exact ⟨cell_set_blk _ (fun e => hne8 e.symm) k8a, cell_set_blk _ (fun e => by simp at e; omega) k3a, cell_set_blk _ (fun e => by simp at e; omega) kga⟩)
              ((go_at_call 218; refine (rowWith_mask _ (rowM L p) q _ ((HKC.out p hp _ HWK.out.two.bel).2.keep (Below.refl _ _).drew) hq16 HA1.out).mono ?_; rintro e w5 ⟨n5, a5, c5, rfl, ho5, hb5⟩; have HB5 : Hid (Below w4.heap.size w4 w5) := (Below.refl _ _).drew.trans hb5; have k8a := cell_keep HB5.out k8; have k3a := cell_keep HB5.out k3; have kga := cell_keep HB5.out kg; have kpa := cell_keep HB5.out HKP.out; have fpa : w5.frozen? ⟨g, p, none⟩ = false := (by rw [HB5.out.frozen hgs]; exact HFP.out); have HO5 : Hid (OwnRow 2 w5 w4.heap.size (.slice a5 n5 c5) (listM (rowM L p ||| 2 ^ q))) := ho5; clear ho5 hb5))
            have hw6 := HWK.out.set HB5.out HO5.out hp
            clear kpa fpa k8a k3a kga k8 k3 kg HKP HFP HO5 HB5 HWK hne8 hBg hgs
            rename_i hHeld
            clear hHeld
            generalize (w5.setCell ⟨g, p, none⟩ (.slice a5 n5 c5)) = w6 at hw6 ⊢
            have hq' : q < (L.set p (listM (rowM L p ||| 2 ^ q))).length := by rw [List.length_set]; exact hq
            have HWK := Lib.hid hw6
            have k8 := HWK.out.box.box.1
            have k3 := HWK.out.two.arg.1
            have kg := (HKC.out q hq _ HWK.out.two.bel).1
            obtain ⟨hBg, hgs, ap, mp, cp, kp, fp, -⟩ := HWK.out.at (i := q) hq'
            have HKP := Lib.hid kp
            have HFP := Lib.hid fp
            have hne8 := HWK.out.ne
            clear kp fp hw6
            go_wp2_with fail
            go_region_held3 (fun wx => wx.cell? ⟨w3.heap.size, 0, none⟩ = some (.slice (some ⟨g, 0, none⟩) L.length c2) ∧ wx.cell? ⟨w.heap.size, 0, none⟩ = some (.slice (some ⟨bg, og, none⟩) L.length c0) ∧ wx.cell? ⟨bg, og + q, none⟩ = some (.slice (A q) (nthR L q).length (C q))) (first | exact ⟨k8, k3, kg⟩ | exact ⟨k8a, k3a, kga⟩ | exact ⟨cell_set_blk _ (fun e => hne8 e.symm) k8a, cell_set_blk _ (fun e => by simp at e; omega) k3a, cell_set_blk _ (fun e => by simp at e; omega) kga⟩)
              ((go_at_call 218; refine (rowWith_mask _ (rowM L q) p _ ((HKC.out q hq _ HWK.out.two.bel).2.keep (Below.refl _ _).drew) hp16 HA2.out).mono ?_; rintro e w7 ⟨n7, a7, c7, rfl, ho7, hb7⟩; have HB7 : Hid (Below w6.heap.size w6 w7) := (Below.refl _ _).drew.trans hb7; have k8a := cell_keep HB7.out k8; have k3a := cell_keep HB7.out k3; have kga := cell_keep HB7.out kg; have kpa := cell_keep HB7.out HKP.out; have fpa : w7.frozen? ⟨g, q, none⟩ = false := (by rw [HB7.out.frozen hgs]; exact HFP.out); have HO7 : Hid (OwnRow 2 w7 w6.heap.size (.slice a7 n7 c7) (listM (rowM L q ||| 2 ^ p))) := ho7; clear ho7 hb7))
            have hw8 := HWK.out.set HB7.out HO7.out hq'
            clear kpa fpa k8a k3a kga k8 k3 kg HKP HFP HO7 HB7 HWK hne8 hBg hgs
            rename_i hHeld
            clear hHeld
            generalize (w7.setCell ⟨g, q, none⟩ (.slice a7 n7 c7)) = w8 at hw8 ⊢
            have HW8 := Lib.hid hw8
            have k8 := HW8.out.box.box.1
            have kr := HW8.out.two.res.1
            have kf := HW8.out.two.res.2
            have HEL : Hid (addEL L (p : Int) (q : Int) = (L.set p (listM (rowM L p ||| 2 ^ q))).set q (listM (rowM L q ||| 2 ^ p))) := by show _ = _; rw [addEL, if_pos HI.out, Int.toNat_natCast, Int.toNat_natCast]
            clear hw8
            go_wp2
            refine bodyPost_ret (v := .tuple #[.agg #[.slice (some ⟨g, 0, none⟩) L.length c2], .bool true]) (by simp [results, Tryz.results138, go_sem, HW8.out.two.q0]) rfl ?_
            rw [HEL.out]
            exact HW8.out.done HI.out
      · have HDX : Hid (decide (0 ≤ x ∧ x < (L.length : Int)) = false) := decide_eq_false hx1
        have HI : Hid (addB L u x = false) := by
          show addB L u x = false
          unfold addB pairB inB
          rw [decide_eq_false (by omega : ¬ (0 ≤ x ∧ x ≤ (L.length : Int) - 1))]; simp
        have kr := T1.out.res.1
        have kf := T1.out.res.2
        clear hu1 hx1
        go_wp2_with fail
        refine (isVertex_any _ _ _).mono ?_
        rintro e w' ⟨rfl, rfl⟩
        rw [HDU.out]
        go_wp2_with fail
        refine (isVertex_any _ _ _).mono ?_
        rintro e w' ⟨rfl, rfl⟩
        rw [HDX.out]
        go_wp2
        exact bodyPost_ret (v := .tuple #[.agg #[.slice none 0 0], .bool false]) (by simp [results, Tryz.results138, go_sem, T1.out.q0]) rfl (T1.out.no (addEL_no HI.out) HI.out)
    · have HDU : Hid (decide (0 ≤ u ∧ u < (L.length : Int)) = false) := decide_eq_false hu1
      have HI : Hid (addB L u x = false) := by
        show addB L u x = false
        unfold addB pairB inB
        rw [decide_eq_false (by omega : ¬ (0 ≤ u ∧ u ≤ (L.length : Int) - 1))]; simp
      have kr := T1.out.res.1
      have kf := T1.out.res.2
      clear hu1
      go_wp2_with fail
      refine (isVertex_any _ _ _).mono ?_
      rintro e w' ⟨rfl, rfl⟩
      rw [HDU.out]
      go_wp2
      exact bodyPost_ret (v := .tuple #[.agg #[.slice none 0 0], .bool false]) (by simp [results, Tryz.results138, go_sem, T1.out.q0]) rfl (T1.out.no (addEL_no HI.out) HI.out)
  · have HI : Hid (addB L u x = false) := by show addB L u x = false; unfold addB pairB; rw [decide_eq_false hG]; simp
    have kr := T1.out.res.1
    have kf := T1.out.res.2
    rw [decide_eq_false hG]
    clear hG
    go_wp2
    exact bodyPost_ret (v := .tuple #[.agg #[.slice none 0 0], .bool false]) (by simp [results, Tryz.results138, go_sem, T1.out.q0]) rfl (T1.out.no (addEL_no HI.out) HI.out)

end Go.Proofs.YtohjfcfcopbmoaaGreatDoor

/- Walks: a vertex added: the model's. -/
namespace Go.Proofs.YtohjfcfcopbmoaaGreatDoor
open Go.RowKit

/-- May a vertex with these neighbours be added? -/
def avB (L : List (List Int)) (xs : List Int) : Bool := setB L xs && !((L.length : Int) == 16)
theorem avB_yes {L : List (List Int)} {xs : List Int} (h : avB L xs = true) : GraphP L ∧ SetP xs L.length ∧ L.length < 16 ∧ xs.length ≤ 16 := by
  unfold avB setB at h
  simp at h
  have := h.1.2.len (by omega)
  have := h.1.1.1
  exact ⟨h.1.1, h.1.2, by omega, by omega⟩
/-- Who is near whom when the new vertex has been joined to ys. -/
def avA (L : List (List Int)) (ys : List Int) (i j : Nat) : Bool := adjB L i j || (i == L.length && hasB ys (j : Int)) || (j == L.length && hasB ys (i : Int))
theorem hasB_nil (z : Int) : hasB [] z = false := by cases h : hasB [] z with | false => rfl | true => (rw [hasB_iff] at h; obtain ⟨q, hq, _⟩ := h; simp at hq)
theorem avA_link (L : List (List Int)) {y : Nat} (ys : List Int) (i j : Nat) : avA L (ys ++ [(y : Int)]) i j = linkA (avA L ys) y L.length i j := by
  unfold linkA avA
  rw [hasB_snoc, hasB_snoc]
  have c1 : ((j : Int) == (y : Int)) = (j == y) := by rw [Bool.eq_iff_iff, beq_iff_eq, beq_iff_eq]; omega
  have c2 : ((i : Int) == (y : Int)) = (i == y) := by rw [Bool.eq_iff_iff, beq_iff_eq, beq_iff_eq]; omega
  rw [c1, c2]
  cases adjB L i j <;> cases (i == L.length) <;> cases (j == L.length) <;> cases hasB ys (j : Int) <;> cases hasB ys (i : Int) <;> cases (i == y) <;> cases (j == y) <;> rfl
/-- The answer. -/
def avL (L : List (List Int)) (xs : List Int) : List (List Int) := if avB L xs = true then adjL (L.length + 1) (avA L xs) else []
theorem avL_no {L : List (List Int)} {xs : List Int} (h : avB L xs = false) : avL L xs = [] := by rw [avL, h]; rfl
theorem avL_small (L : List (List Int)) (xs : List Int) : Small (avL L xs) := by
  unfold avL
  split
  · rename_i h
    exact adjL_small _ _ (by have := (avB_yes h).2.2.1; omega)
  · exact ⟨by simp, fun i hi => absurd hi (by simp)⟩
theorem avA_start {L : List (List Int)} (hG : GraphP L) : L ++ [[]] = adjL (L.length + 1) (avA L []) := by
  apply nthR_ext
  · simp [adjL_len]
  · intro i hi
    rw [List.length_append, List.length_singleton] at hi
    rw [adjL_nth _ hi]
    have e : ∀ j, avA L [] i j = adjB L i j := fun j => by unfold avA; rw [hasB_nil, hasB_nil]; simp
    rw [pm_congr (fun j _ => e j)]
    by_cases h : i < L.length
    · rw [nthR_append_old h, ← rowM_pm hG, row_list hG h]
    · obtain rfl : i = L.length := by omega
      rw [nthR_append_last]
      have : pm (adjB L L.length) = 0 := by
        rw [← pm_false]
        refine pm_congr (fun j _ => ?_)
        cases hb : adjB L L.length j with
        | false => rfl
        | true => exact absurd (adjB_range hG hb).1 (by omega)
      rw [this, listM_zero]

end Go.Proofs.YtohjfcfcopbmoaaGreatDoor

/- Walks: a vertex added: the program's. -/
namespace Go.Proofs.YtohjfcfcopbmoaaGreatDoor
open Go.RowKit

/-- A row laid, its box laid, the copy grown by it, put back: the copy has one row more. -/
theorem WorkL.grow {w0 w w2 w7 : World} {v : Value} {bo B g n cg g7 cap7 : Nat} {L : List (List Int)} {xs : List Int} {rv : Value} {R : Nat → Value} (h : WorkL w0 v bo B g n cg L w) (hbo2 : w0.heap.size + 1 < bo) (hn : L.length = n) (hl : n ≤ 1000) (hb : Below w.heap.size w w2) (hr : OwnRow 2 w2 w.heap.size rv xs)
    (hR : w.ownsRow B 33 1 (.slice (some ⟨g, 0, none⟩) n cg) n ((List.range n).map R)) (hRr : ∀ i, i < n → OwnRow 2 w B (R i) (nthR L i)) (hRd : ∀ i j q, i < j → j < n → (R i).ownBlock = some q → (R j).ownBlock ≠ some q)
    (hown : w7.ownsRow B 33 1 (.slice (some ⟨g7, 0, none⟩) (n + 1) cap7) (n + 1) ((List.range n).map R ++ [rv])) (hgrow : (w2.alloc (.cells #[rv] 33)).grownBy w7 (Value.slice (some ⟨g, 0, none⟩) n cg).ownBlock) :
    BoxT 26 w7 bo (.slice (some ⟨g, 0, none⟩) n cg) ∧ WorkL w0 v bo B g7 (n + 1) cap7 (L ++ [xs]) (w7.setCell ⟨bo, 0, none⟩ (.slice (some ⟨g7, 0, none⟩) (n + 1) cap7)) := by
  subst hn
  have hBs : B ≤ w.heap.size := by
    rcases hR.2 with ⟨e, _⟩ | ⟨g', cap', cur', e, hg, hh, _⟩
    · cases e
    · obtain ⟨hlt, _⟩ := Array.getElem?_eq_some_iff.1 hh
      omega
  have hlow := h.low
  have hW : Below w.heap.size w (w2.alloc (.cells #[rv] 33)) := hb.alloc hb.size _
  have hbw : Below B w w7 := (hW.mono hBs).grown hgrow (by rw [size_alloc1]; have := hb.size; omega) (fun j hj => (hR.lt j hj).1)
  have hog : OwnGrid 2 33 w7 B (.slice (some ⟨g7, 0, none⟩) (L.length + 1) cap7) (L ++ [xs]) := by
    refine OwnGrid.snoc (w0 := w) (w := w2.alloc (.cells #[rv] 33)) (rv := rv) (n := L.length) (v := .slice (some ⟨g, 0, none⟩) L.length cg) (by decide) hW hBs ?_ rfl (by unfold maxLen; omega) R hR hRr hRd hown hgrow
    exact hr.keep ((Below.refl _ _).alloc (Nat.le_refl _) _)
  have hbt : BoxT 26 w7 bo (.slice (some ⟨g, 0, none⟩) L.length cg) := by
    unfold BoxT
    have hlt := h.box.lt
    rw [hgrow.block bo (by rw [size_alloc1]; have := hb.size; omega) (fun e => h.ne (by simpa [Value.ownBlock] using e)), hW.block bo hlt]
    exact h.box
  have t7 := h.two.keepB hbw hlow
  exact ⟨hbt, ⟨t7.arg.setOther (by simp; omega) _, t7.res.setOther (by simp; omega) _, t7.bel.setCell (by simp; omega) _⟩, hbt.set _, hog.setType hbt (by decide) (by decide) 0 _, hlow⟩

/-- Who is near whom among the old vertices and the new one, when the rows of ys have it. -/
def avP (L : List (List Int)) (ys : List Int) (i j : Nat) : Bool := adjB L i j || (j == L.length && hasB ys (i : Int))
theorem avP_start {L : List (List Int)} (hG : GraphP L) : L = adjL L.length (avP L []) := by
  have h := graph_adjL hG
  rw [← adjL_congr (A := avP L []) (A' := adjB L) (fun i _ j _ => by unfold avP; rw [hasB_nil]; simp)] at h
  exact h.symm
theorem avP_set {L : List (List Int)} (hG : GraphP L) (hn : L.length < 16) {y : Nat} (ys : List Int) (hy : y < L.length) : (adjL L.length (avP L ys)).set y (listM (rowM L y ||| 2 ^ L.length)) = adjL L.length (avP L (ys ++ [(y : Int)])) := by
  apply nthR_ext
  · simp [adjL_len]
  · intro i hi
    rw [List.length_set, adjL_len] at hi
    rw [adjL_nth _ hi]
    by_cases e : y = i
    · subst e
      unfold nthR
      rw [List.getD_eq_getElem?_getD, List.getElem?_set_self (by rw [adjL_len]; exact hi)]
      show listM _ = listM _
      congr 1
      apply Nat.eq_of_testBit_eq
      intro j
      rw [Nat.testBit_or, rowM_pm hG, pm_bit, pm_bit, Nat.testBit_two_pow]
      unfold avP
      rw [hasB_snoc]
      have e1 : ((y : Int) == (y : Int)) = true := by simp
      have e2 : (j == L.length) = decide (L.length = j) := by by_cases h : L.length = j <;> simp [h]; omega
      rw [e1, e2, Bool.or_true, Bool.and_true]
      by_cases hj : j < 16
      · simp [hj]
      · simp [hj, show ¬ L.length = j from by omega]
    · rw [nthR_set_ne _ e, adjL_nth _ hi]
      congr 1
      refine pm_congr (fun j _ => ?_)
      unfold avP
      rw [hasB_snoc]
      have : ((i : Int) == (y : Int)) = false := by rw [beq_eq_false_iff_ne]; omega
      rw [this, Bool.or_false]
theorem avP_end {L : List (List Int)} {xs : List Int} (hG : GraphP L) (hs : SetP xs L.length) (hn : L.length < 16) : adjL L.length (avP L xs) ++ [xs] = adjL (L.length + 1) (avA L xs) := by
  apply nthR_ext
  · simp [adjL_len]
  · intro i hi
    rw [List.length_append, List.length_singleton, adjL_len] at hi
    rw [adjL_nth _ hi]
    by_cases h : i < L.length
    · rw [nthR_append_old (by rw [adjL_len]; exact h), adjL_nth _ h]
      congr 1
      refine pm_congr (fun j _ => ?_)
      unfold avP avA
      have : (i == L.length) = false := by rw [beq_eq_false_iff_ne]; omega
      rw [this]; simp
    · obtain rfl : i = L.length := by omega
      have e := nthR_append_last (adjL L.length (avP L xs)) xs
      rw [adjL_len] at e
      rw [e]
      refine sets_eq (SetP.mk hs.pairwise (fun x hx => by have := hs.bounds x hx; omega)) (listM_set _) (fun z => ?_)
      rw [listM_mem]
      have hadj : ∀ j, adjB L L.length j = false := fun j => by
        cases hb : adjB L L.length j with
        | false => rfl
        | true => exact absurd (adjB_range hG hb).1 (by omega)
      have hself : hasB xs (L.length : Int) = false := by
        cases hb : hasB xs (L.length : Int) with
        | false => rfl
        | true =>
          have := hs.bounds _ ((hasB_mem _ _).1 hb)
          omega
      constructor
      · intro hz
        have hb := hs.bounds z hz
        obtain ⟨j, rfl⟩ : ∃ j : Nat, z = (j : Int) := ⟨z.toNat, by omega⟩
        refine ⟨j, by omega, ?_, rfl⟩
        rw [pm_bit]
        unfold avA
        rw [(hasB_mem xs (j : Int)).2 hz]
        simp; omega
      · rintro ⟨j, hj, hb, rfl⟩
        rw [pm_bit, Bool.and_eq_true] at hb
        have hb2 := hb.2
        unfold avA at hb2
        rw [hadj, hself] at hb2
        simp at hb2
        exact (hasB_mem _ _).1 hb2

end Go.Proofs.YtohjfcfcopbmoaaGreatDoor
