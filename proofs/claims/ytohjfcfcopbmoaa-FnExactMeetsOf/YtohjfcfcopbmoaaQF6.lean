/- The texts F6, F7, F8, F9, joined. -/
import Derived.Test.YtohjfcfcopbmoaaQF4
import Derived.Test.YtohjfcfcopbmoaaE1
import Derived.Test.YtohjfcfcopbmoaaQB4
import Derived.Deep.RegionLaw

/- Walks: the program's edge test; an edge put into a net. -/
namespace Go.Proofs.Ytohjfcfcopbmoaa
open Go.RowKit

/-- Two vertices of n, the lesser first. -/
def EdgeP (xs : List Int) (n : Int) : Prop := xs.length = 2 ∧ 0 ≤ nth xs 0 ∧ nth xs 0 < nth xs 1 ∧ nth xs 1 < n
instance (xs : List Int) (n : Int) : Decidable (EdgeP xs n) := by unfold EdgeP; infer_instance
theorem edge_set {xs : List Int} {n : Int} (h : xs.length = 2) : SetP xs n ↔ EdgeP xs n := by
  unfold EdgeP
  constructor
  · intro hs
    have h0 := hs 0 (by omega)
    have h1 := hs 1 (by omega)
    obtain ⟨a1, a2, _⟩ := h0
    obtain ⟨b1, b2, b3⟩ := h1
    have b4 := b3 (by omega)
    simp only [Nat.sub_self] at b4
    exact ⟨h, a1, b4, by omega⟩
  · rintro ⟨_, h1, h2, h3⟩ i hi
    match i, hi with
    | 0, _ => exact ⟨h1, by omega, fun h => absurd h (by omega)⟩
    | 1, _ => exact ⟨by omega, by omega, fun _ => h2⟩
    | (k + 2), hi => omega

set_option maxHeartbeats 800000 in
theorem edgeOk_any (v : Value) (xs : List Int) (n : Int) (w : World) (h : RowAt w v xs) : Calls Try.prog 80 #[v, .int .i64 n] w fun e w' => e = .returned (.bool (decide (EdgeP xs n))) ∧ Drawn w w' := by
  by_cases h2 : xs.length = 2
  · obtain ⟨b, o, c, rfl, l1, l2, hc⟩ := h.pos (by omega)
    have c0 : ∀ m, (w.drewN m).cell? ⟨b, o, none⟩ = some (.int .i64 (nth xs 0)) := fun m => hc 0 (by omega)
    have c1 : ∀ m, (w.drewN m).cell? ⟨b, o + 1, none⟩ = some (.int .i64 (nth xs 1)) := fun m => hc 1 (by omega)
    have hE : decide (EdgeP xs n) = (decide (0 ≤ nth xs 0) && decide (nth xs 0 < nth xs 1) && decide (nth xs 1 < n)) := by
      unfold EdgeP; rw [Bool.eq_iff_iff]; simp [h2, and_assoc]
    have HE := Lib.hid hE
    clear hE hc h
    rw [h2] at l1 ⊢
    generalize nth xs 0 = x0 at c0 c1 HE
    generalize nth xs 1 = x1 at c1 HE
    by_cases d0 : 0 ≤ x0
    · by_cases d1 : x0 < x1
      · by_cases d2 : x1 < n
        · have e0 : decide (0 ≤ x0) = true := by simpa using d0
          have e1 : decide (x0 < x1) = true := by simpa using d1
          have e2 : decide (x1 < n) = true := by simpa using d2
          go_enter Try.func80, Try.ntmps80
          go_wp2
          go_quiet (fail)
          go_wp2
          go_ret
          exact ⟨ret_bool (by rw [HE.out, e0, e1, e2]; rfl), (Drawn.refl _).more _⟩
        · have e0 : decide (0 ≤ x0) = true := by simpa using d0
          have e1 : decide (x0 < x1) = true := by simpa using d1
          have e2 : decide (x1 < n) = false := by simpa using d2
          go_enter Try.func80, Try.ntmps80
          go_wp2
          go_quiet (fail)
          go_wp2
          go_ret
          exact ⟨ret_bool (by rw [HE.out, e0, e1, e2]; rfl), (Drawn.refl _).more _⟩
      · have e0 : decide (0 ≤ x0) = true := by simpa using d0
        have e1 : decide (x0 < x1) = false := by simpa using d1
        go_enter Try.func80, Try.ntmps80
        go_wp2
        go_quiet (fail)
        go_wp2
        go_ret
        exact ⟨ret_bool (by rw [HE.out, e0, e1]; rfl), (Drawn.refl _).more _⟩
    · have e0 : decide (0 ≤ x0) = false := by simpa using d0
      go_enter Try.func80, Try.ntmps80
      go_wp2
      go_quiet (fail)
      go_wp2
      go_ret
      exact ⟨ret_bool (by rw [HE.out, e0]; rfl), (Drawn.refl _).more _⟩
  · have hE : decide (EdgeP xs n) = false := by rw [decide_eq_false_iff_not]; exact fun h => h2 h.1
    obtain ⟨a, c, rfl⟩ := h.slice
    have q : ((xs.length : Int) == 2) = false := by rw [beq_eq_false_iff_ne]; omega
    have HE := Lib.hid hE
    clear hE
    go_enter Try.func80, Try.ntmps80
    go_wp2
    go_quiet (fail)
    go_wp2
    go_ret
    exact ⟨ret_bool HE.out.symm, (Drawn.refl _).more _⟩

/-- Masks with the edge a b put in. -/
def linkM (M : Nat → Nat) (a b : Nat) (i : Nat) : Nat := if i = b then M b ||| 2 ^ a else if i = a then M a ||| 2 ^ b else M i
theorem linkM_lt {M : Nat → Nat} {a b : Nat} (hM : ∀ i, M i < 65536) (ha : a < 16) (hb : b < 16) (i : Nat) : linkM M a b i < 65536 := by
  unfold linkM
  split
  · exact or_lt16 (hM _) ha
  · split
    · exact or_lt16 (hM _) hb
    · exact hM _

theorem NetPut.of {T : TypeId} {w : World} {g n : Nat} {M M' : Nat → Nat} {i j mi mj : Nat} {w1 w2 : World} (h : NetBlk T w g n M) (hi : i < 16) (hj : j < 16) (h1 : Drawn (w.setCell ⟨g, 1 + i, none⟩ (.int .u32 (mi : Int))) w1) (h2 : Drawn (w1.setCell ⟨g, 1 + j, none⟩ (.int .u32 (mj : Int))) w2)
    (hM : ∀ k, k < 16 → (if k = j then mj else if k = i then mi else M k) = M' k) : NetPut T w w2 g n M' := by
  obtain ⟨a, rfl⟩ := h1
  obtain ⟨b, rfl⟩ := h2
  refine ⟨rfl, rfl, rfl, ?_, ?_, ?_⟩
  · show (((w.setCell _ _).drewN a).setCell _ _).heap.size = _
    rw [size_setCell1]
    exact size_setCell1 _ _ _
  · have q1 : NetBlk T (w.setCell ⟨g, 1 + i, none⟩ (.int .u32 (mi : Int))) g n (fun k => if k = i then mi else M k) := h.set i mi hi
    have q2 : NetBlk T ((w.setCell ⟨g, 1 + i, none⟩ (.int .u32 (mi : Int))).drewN a) g n (fun k => if k = i then mi else M k) := q1
    have q3 := q2.set j mj hj
    exact NetBlk.congr (w := ((((w.setCell ⟨g, 1 + i, none⟩ (.int .u32 (mi : Int))).drewN a).setCell ⟨g, 1 + j, none⟩ (.int .u32 (mj : Int))).drewN b)) q3 rfl hM
  · intro k hk
    show ((((w.setCell ⟨g, 1 + i, none⟩ (.int .u32 (mi : Int))).drewN a).setCell ⟨g, 1 + j, none⟩ (.int .u32 (mj : Int)))).heap[k]? = _
    rw [heap_setCell_other _ _ _ _ hk]
    exact heap_setCell_other _ _ _ _ hk

set_option maxHeartbeats 800000 in
theorem link_any (g n a b : Nat) (M : Nat → Nat) (w : World) (h : NetBlk 61 w g n M) (hM : ∀ i, M i < 65536) (ha : a < 16) (hb : b < 16) (hab : a ≠ b) :
    Calls Try.prog 81 #[.pointer (some ⟨g, 0, none⟩), .int .i64 (a : Int), .int .i64 (b : Int)] w (fun e w' => e = .returned (.tuple #[]) ∧ NetPut 61 w w' g n (linkM M a b)) := by
  have H := Lib.hid h
  have HM := Lib.hid hM
  clear h hM
  have ha' : (a : Int) < 16 := by omega
  have hb' : (b : Int) < 16 := by omega
  go_enter Try.func81, Try.ntmps81
  go_wp2_with fail
  refine (add_any g (1 + a) (M a) b w (H.out.at.2 a ha) (H.out.frozen _) (HM.out _) (by omega) hb').mono ?_
  rintro e w1 ⟨rfl, hd1⟩
  have HD1 := Lib.hid hd1
  clear hd1
  have n1 : Hid (NetBlk 61 w1 g n (fun k => if k = a then M a ||| 2 ^ (b : Int).toNat else M k)) := ((H.out.set a (M a ||| 2 ^ (b : Int).toNat) ha).drawn HD1.out)
  go_wp2_with fail
  refine (add_any g (1 + b) (M b) a w1 (by have := n1.out.at.2 b hb; simpa [show ¬ b = a from fun h => hab h.symm] using this) (n1.out.frozen _) (HM.out _) (by omega) ha').mono ?_
  rintro e w2 ⟨rfl, hd2⟩
  have HD2 := Lib.hid hd2
  clear hd2
  go_wp2
  go_end0
  exact ⟨rfl, NetPut.of H.out ha hb HD1.out HD2.out (fun k _ => by unfold linkM; simp)⟩

end Go.Proofs.Ytohjfcfcopbmoaa

/- Walks: a mask's list. -/
namespace Go.Proofs.Ytohjfcfcopbmoaa
open Go.RowKit

def listTo (M k : Nat) : List Int := ((List.range k).filter (fun i => M.testBit i)).map (fun i : Nat => (i : Int))
theorem listTo_len (M k : Nat) : (listTo M k).length ≤ k := by
  unfold listTo
  rw [List.length_map]
  have := List.length_filter_le (fun i => M.testBit i) (List.range k)
  rw [List.length_range] at this
  exact this
theorem listTo_succ (M k : Nat) : listTo M (k + 1) = listTo M k ++ if M.testBit k then [(k : Int)] else [] := by
  unfold listTo
  rw [List.range_succ, List.filter_append, List.map_append]
  congr 1
  by_cases h : M.testBit k = true
  · simp [h]
  · simp [h]

set_option maxHeartbeats 1600000 in
theorem list_any (M : Nat) (w : World) (hM : M < 65536) : Calls Try.prog 44 #[.int .u32 M] w (GaveRow w (listM M)) := by
  obtain ⟨i0, hi, hz0, hz1, hz2⟩ := info_parts Try.infoI
  have hbl := bitsTo_le M 16
  go_enter Try.func44, Try.ntmps44
  go_wp2_with fail
  refine (size_any _ _ hM).mono ?_
  rintro e w1 ⟨rfl, hd1⟩
  have hb1 := hd1.below w.heap.size
  have HB1 := Lib.hid hb1
  have hs1 : w.heap.size ≤ w1.heap.size := hb1.size
  clear hd1 hb1
  go_wp2_with (refine wpList_make_own _ rfl (.const (.int .i64 0)) (.tmp 6) 33 rfl w.heap.size 2 i0 (.int .i64 0) 1 Try.underlying33 hi hz0 hz1 .i64 .i64 _ (bitsTo M 16) rfl rfl rfl ?m1 ?m2 ?m3 ?_)
  case m1 => rw [hz2]; omega
  case m2 => unfold maxLen; omega
  case m3 => exact hs1
  intro w2 hown hgrow
  have hb2 : Below w.heap.size w w2 := HB1.out.grown hgrow hs1 (fun j hj => by cases hj)
  have HB2 := Lib.hid hb2
  have HO2 := Lib.hid hown
  have hs2 : w.heap.size ≤ w2.heap.size := hb2.size
  clear hown hgrow hb2
  go_wp2_with fail
  go_loopw [3, 8] (fun s i wr => ∃ k : Nat, k ≤ 16 ∧ i = .int .i64 k ∧ wr.ownsRow w.heap.size 2 1 s (listTo M k).length ((listTo M k).map (Value.int .i64)) ∧ Below w.heap.size w wr ∧ w.heap.size ≤ wr.heap.size) (fun _ i _ => 16 - (intOf i).toNat)
  case atStart => exact ⟨0, Nat.zero_le _, rfl, HO2.out, HB2.out, hs2⟩
  case round =>
    obtain ⟨k, hk, rfl, ho, hb, hz⟩ := hrel
    have HO := Lib.hid ho
    have HB := Lib.hid hb
    have hll := listTo_len M k
    clear ho hb
    by_cases hlt : k < 16
    · have hlk : (k : Int) < 16 := by omega
      have hasE : hasM M (k : Int) = M.testBit k := by unfold hasM; simp; omega
      have HE := Lib.hid hasE
      clear hasE
      go_wp2_with fail
      refine (has_any M k _ hM).mono ?_
      rintro e w3 ⟨rfl, rfl⟩
      rw [HE.out]
      by_cases ht : M.testBit k = true
      · rw [ht]
        go_wp2_with (at_builtin; refine wpList_append_own _ rfl (.tmp 14) (.tmp 16) 33 rfl w.heap.size 2 i0 (.int .i64 0) 1 8 Try.underlying33 hi hz0 hz1 hz2 rfl (by decide) _ _ _ rfl (HO.out.alloc _) ⟨wr.heap.size, 0, none⟩ 1 1 [.int .i64 (k : Int)] rfl rfl ?d1 ?d2 ?d3 ?d4 ?d5 ?_)
        case d1 =>
          intro j u hj
          match j, hj with
          | 0, hj => simp at hj; subst hj; simp [Addr.add]
        case d2 => intro u hu; simp at hu; subst hu; rfl
        case d3 => unfold maxLen; omega
        case d4 => omega
        case d5 => simp; omega
        intro v4 w4 hown4 hgrow4 _
        have hb4 : Below w.heap.size w w4 := (HB.out.alloc hz _).grown hgrow4 (by simp; omega) (fun j hj => (HO.out.lt j hj).1)
        have HT := Lib.hid ht
        have HO4 := Lib.hid hown4
        have HB4 := Lib.hid hb4
        clear hown4 hgrow4 hb4 ht
        go_wp2
        go_roundw
        case rel =>
          refine ⟨k + 1, by omega, by go_num, ?_, HB4.out, HB4.out.size⟩
          rw [listTo_succ, HT.out, if_pos rfl]
          simpa using HO4.out
        case measure => simp [intOf]; omega
      · have ht' : M.testBit k = false := by simpa using ht
        have HT := Lib.hid ht'
        rw [ht']
        clear ht ht'
        go_wp2
        go_roundw
        case rel =>
          refine ⟨k + 1, by omega, by go_num, ?_, HB.out, hz⟩
          rw [listTo_succ, HT.out]
          simpa using HO.out
        case measure => simp [intOf]; omega
    · obtain rfl : k = 16 := by omega
      have hro : OwnRow 2 wr w.heap.size _ (listM M) := OwnRow.of_ownsRow (n := (listTo M 16).length) HO.out (by unfold maxLen; show (listTo M 16).length ≤ _; omega) (listM_i64 M)
      obtain ⟨a4, c4, e4⟩ := hro.row.slice
      have HP : Hid (GaveRow w (listM M) (.returned (.slice a4 (listM M).length c4)) wr) := ⟨_, a4, c4, rfl, by rw [← e4]; exact hro, HB.out⟩
      rw [e4]
      clear hro e4
      go_wp2
      go_ret
      exact HP.out

end Go.Proofs.Ytohjfcfcopbmoaa

/- Walks: the graph of a net. -/
namespace Go.Proofs.Ytohjfcfcopbmoaa
open Go.RowKit

/-- The lists of the first k masks; the rest empty. -/
def partL (n : Nat) (M : Nat → Nat) (k : Nat) : List (List Int) := (List.range n).map (fun i => if i < k then listM (M i) else [])
theorem partL_len (n : Nat) (M : Nat → Nat) (k : Nat) : (partL n M k).length = n := by simp [partL]
theorem partL_nth {n : Nat} (M : Nat → Nat) (k : Nat) {i : Nat} (hi : i < n) : nthR (partL n M k) i = if i < k then listM (M i) else [] := by simp [partL, nthR, hi]
theorem partL_set (n : Nat) (M : Nat → Nat) (k : Nat) : (partL n M k).set k (listM (M k)) = partL n M (k + 1) := by
  apply nthR_ext
  · simp [partL_len]
  · intro i hi
    rw [List.length_set, partL_len] at hi
    rw [partL_nth M (k + 1) hi]
    unfold nthR
    rw [List.getD_eq_getElem?_getD]
    by_cases e : k = i
    · subst e
      rw [List.getElem?_set_self (by rw [partL_len]; exact hi)]
      simp
    · rw [List.getElem?_set_ne e]
      have := partL_nth M k hi
      unfold nthR at this
      rw [List.getD_eq_getElem?_getD] at this
      rw [this]
      by_cases h : i < k
      · simp [h, Nat.lt_succ_of_lt h]
      · simp [h, show ¬ i < k + 1 from by omega]
/-- The lists of n masks. -/
def maskL (n : Nat) (M : Nat → Nat) : List (List Int) := (List.range n).map (fun i => listM (M i))
theorem maskL_len (n : Nat) (M : Nat → Nat) : (maskL n M).length = n := by simp [maskL]
theorem maskL_nth {n : Nat} (M : Nat → Nat) {i : Nat} (hi : i < n) : nthR (maskL n M) i = listM (M i) := by simp [maskL, nthR, hi]
theorem partL_all (n : Nat) (M : Nat → Nat) : partL n M n = maskL n M := by
  apply nthR_ext
  · rw [partL_len, maskL_len]
  · intro i hi
    rw [partL_len] at hi
    rw [partL_nth M n hi, maskL_nth M hi, if_pos hi]

theorem own_made (w : World) (n : Nat) (M : Nat → Nat) (hn : n ≤ 16) : OwnGrid 2 33 (w.alloc (.cells (madeCells #[.slice none 0 0] n) 33)) w.heap.size (.slice (some ⟨w.heap.size, 0, none⟩) n n) (partL n M 0) := by
  obtain ⟨cur, c1, c2, c3⟩ := World.rowIs_made w (.slice none 0 0) n 33
  refine ⟨fun _ => .slice none 0 0, by rw [partL_len]; unfold maxLen; omega, Or.inr ⟨w.heap.size, n, cur, by rw [partL_len], Nat.le_refl _, c1, by rw [partL_len]; exact Nat.le_refl _, by unfold maxLen; omega, c2, fun i hi => by rw [partL_len] at hi; rw [c3 i hi]⟩, fun i hi => ?_, fun i j k _ _ hk => by cases hk⟩
  rw [partL_len] at hi
  rw [partL_nth M 0 hi, if_neg (by omega)]
  exact ⟨by simp, by simp, Or.inl ⟨rfl, rfl⟩⟩

set_option maxHeartbeats 1600000 in
theorem graph_any (g n : Nat) (M : Nat → Nat) (w : World) (h : NetBlk 61 w g n M) (hM : ∀ i, M i < 65536) (hn1 : 1 ≤ n) (hn : n ≤ 16) : Calls Try.prog 82 #[.pointer (some ⟨g, 0, none⟩)] w (GaveGraph w (maskL n M)) := by
  have hmk := run_make_row' (P := Try.prog) 22 33 (.slice none 0 0) 24 Try.underlying22 Try.infoR rfl .i64 .i64 n (by omega) (by omega)
  have hg := h.lt
  have k0 := h.at.1
  have H := Lib.hid h
  have HM := Lib.hid hM
  have hb0 : Below w.heap.size w ((w.alloc (.cells #[.slice none 0 0] 37)).alloc (.cells (madeCells #[.slice none 0 0] n) 33)) := ((Below.refl _ _).alloc (Nat.le_refl _) _).alloc (by simp) _
  have bx : BoxAt ((w.alloc (.cells #[.slice none 0 0] 37)).alloc (.cells (madeCells #[.slice none 0 0] n) 33)) w.heap.size (.slice none 0 0) := (BoxAt.new w _ _).keep ((Below.refl _ _).alloc (Nat.le_refl _) _)
  have og := own_made (w.alloc (.cells #[.slice none 0 0] 37)) n M hn
  rw [size_alloc1] at og
  have HB0 := Lib.hid hb0
  have HBX := Lib.hid bx
  have HOG := Lib.hid og
  clear h hM hb0 bx og
  go_enter Try.func82, Try.ntmps82
  go_wp2
  go_loopw [12] (fun i wr => ∃ k : Nat, k ≤ n ∧ i = .int .i64 k ∧ OwnGrid 2 33 wr (w.heap.size + 1) (.slice (some ⟨w.heap.size + 1, 0, none⟩) n n) (partL n M k) ∧ BoxAt wr w.heap.size (.slice none 0 0) ∧ Below w.heap.size w wr ∧ w.heap.size + 1 + 1 ≤ wr.heap.size) (fun i _ => n - (intOf i).toNat)
  case atStart => exact ⟨0, Nat.zero_le _, rfl, HOG.out, HBX.out, HB0.out, by simp⟩
  case round =>
    obtain ⟨k, hk, rfl, hog, hbx, hb, hz⟩ := hrel
    have HOG1 := Lib.hid hog
    have HBX1 := Lib.hid hbx
    have HB1 := Lib.hid hb
    by_cases hlt : k < n
    · obtain ⟨g', cap', eg, _, hgs, hcell⟩ := hog.place (by rw [partL_len]; omega)
      obtain ⟨a, m, c, kc, kf, _⟩ := hcell k (by rw [partL_len]; exact hlt)
      simp only [Value.slice.injEq, Option.some.injEq, Addr.mk.injEq, and_true] at eg
      obtain ⟨rfl, e9, e8⟩ := eg
      have kn := (H.out.keepB hb hg).at.2 k (by omega)
      have KC := Lib.hid kc
      have KF := Lib.hid kf
      clear hog hbx hb hcell e9 e8 kc kf
      go_wp2_with fail
      refine (list_any _ _ (HM.out k)).mono ?_
      rintro e w1 ⟨n1, a1, c1, rfl, ho1, hb1⟩
      have kc1 := cell_keep hb1 KC.out
      have kf1 : w1.frozen? ⟨w.heap.size + 1, k, none⟩ = false := by rw [hb1.frozen hgs]; exact KF.out
      have HO1 := Lib.hid ho1
      have HBB := Lib.hid hb1
      clear ho1 hb1 kn
      go_wp2
      go_roundw
      case rel =>
        refine ⟨k + 1, by omega, by go_num, ?_, (HBX1.out.keep HBB.out).setOther (by simp) _, (HB1.out.trans (HBB.out.mono (by omega))).setCell (by simp) _, by rw [size_setCell1]; exact Nat.le_trans hz HBB.out.size⟩
        rw [← partL_set]
        exact HOG1.out.setRow (by decide) HBB.out (by rw [partL_len]; exact hlt) (HO1.out.mono (by omega)) (fun q hq => Or.inl (HO1.out.lt q hq).1)
      case measure => simp [intOf]; omega
    · obtain rfl : k = n := by omega
      have hrc := hbx.1
      have hrf := hbx.2
      clear hog hbx hb
      go_wp2
      have q0 : (wr.setCell ⟨w.heap.size, 0, none⟩ (.slice (some ⟨w.heap.size + 1, 0, none⟩) k k)).cell? ⟨w.heap.size, 0, none⟩ = some (.slice (some ⟨w.heap.size + 1, 0, none⟩) k k) := cell_set_same _ HBX1.out.1
      refine bodyPost_ret (v := .agg #[.slice (some ⟨w.heap.size + 1, 0, none⟩) k k]) (by simp [results, Try.results82, go_sem, q0]) rfl ⟨k, _, k, rfl, ?_, ?_⟩
      · rw [← partL_all]
        exact (HOG1.out.setBelow (by simp) _).mono (by omega)
      · exact HB1.out.setCell (by simp) _

end Go.Proofs.Ytohjfcfcopbmoaa

/- Walks: the program's graph of a list of edges. -/
namespace Go.Proofs.Ytohjfcfcopbmoaa
open Go.RowKit

/-- The masks of the first k edges. -/
def edgeM (E : List (List Int)) : Nat → Nat → Nat
  | 0, _ => 0
  | k + 1, i => linkM (edgeM E k) (nth (nthR E k) 0).toNat (nth (nthR E k) 1).toNat i
theorem edgeM_lt {E : List (List Int)} {n : Int} (hn : n ≤ 16) : ∀ k, (∀ j, j < k → EdgeP (nthR E j) n) → ∀ i, edgeM E k i < 65536
  | 0, _, _ => by simp [edgeM]
  | k + 1, h, i => by
    obtain ⟨_, h1, h2, h3⟩ := h k (by omega)
    exact linkM_lt (edgeM_lt hn k (fun j hj => h j (by omega))) (by omega) (by omega) i

/-- The numbers and edges that make a graph. -/
def OfP (n : Int) (E : List (List Int)) : Prop := inB n 1 16 = true ∧ E.length ≤ 120 ∧ ∀ k, k < E.length → EdgeP (nthR E k) n
instance (n : Int) (E : List (List Int)) : Decidable (OfP n E) := by unfold OfP; infer_instance
/-- Its rows. -/
def ofL (n : Int) (E : List (List Int)) : List (List Int) := if OfP n E then maskL n.toNat (edgeM E E.length) else []
/-- A call has handed back the graph of those edges, of its own make, and whether there is one. -/
def GaveOf (w : World) (n : Int) (E : List (List Int)) (e : Ending) (w' : World) : Prop :=
  ∃ m a c, e = .returned (.tuple #[.agg #[.slice a m c], .bool (decide (OfP n E))]) ∧ OwnGrid 2 33 w' w.heap.size (.slice a m c) (ofL n E) ∧ Below w.heap.size w w'
theorem GaveOf.no {w : World} {n : Int} {E : List (List Int)} (h : ¬ OfP n E) {w' : World} (hb : Below w.heap.size w w') : GaveOf w n E (.returned (.tuple #[.agg #[.slice none 0 0], .bool false])) w' :=
  ⟨0, none, 0, by rw [decide_eq_false h], by rw [ofL, if_neg h]; exact own_nil _ _, hb⟩

set_option maxHeartbeats 1600000 in
theorem implGraphOf_any (v : Value) (n : Int) (E : List (List Int)) (w : World) (h : GridAt w v E) : Calls Try.prog 67 #[.int .i64 n, v] w (GaveOf w n E) := by
  have hl := h.len
  unfold maxLen at hl
  obtain ⟨a, c, rfl⟩ := h.slice
  have b0 : BoxAt (w.alloc (.cells #[.slice none 0 0] 37)) w.heap.size (.slice none 0 0) := BoxAt.new _ _ _
  have hb0 : Below w.heap.size w (w.alloc (.cells #[.slice none 0 0] 37)) := (Below.refl _ _).alloc (Nat.le_refl _) _
  have hc0 := b0.1
  have hf0 := b0.2
  have HB0 := Lib.hid hb0
  have HBX0 := Lib.hid b0
  have H := Lib.hid h
  clear h b0 hb0
  by_cases hin : inB n 1 16 = true
  · have HI := Lib.hid hin
    by_cases hlen : E.length ≤ 120
    · obtain ⟨m, hm⟩ : ∃ m : Nat, (m : Int) = n := ⟨n.toNat, by have : 1 ≤ n ∧ n ≤ 16 := (by simpa [inB] using hin); omega⟩
      have hm1 : 1 ≤ m ∧ m ≤ 16 := by have : 1 ≤ n ∧ n ≤ 16 := (by simpa [inB] using hin); omega
      obtain ⟨hm1, hm2⟩ := hm1
      subst hm
      have hlen' : decide ((120 : Int) < (E.length : Int)) = false := by simp; omega
      clear hin
      have g0 : NetBlk 61 ((w.alloc (.cells #[.slice none 0 0] 37)).alloc (.cells (netArr 0 (fun _ => 0)) 61)) (w.heap.size + 1) 0 (fun _ => 0) := by
        have := heap_alloc_new (w.alloc (.cells #[.slice none 0 0] 37)) (.cells (netArr 0 (fun _ => 0)) 61)
        rwa [size_alloc1] at this
      have HB1 : Hid (Below w.heap.size w ((w.alloc (.cells #[.slice none 0 0] 37)).alloc (.cells (netArr 0 (fun _ => 0)) 61))) := HB0.out.alloc HB0.out.size _
      have HBX1 : Hid (BoxAt ((w.alloc (.cells #[.slice none 0 0] 37)).alloc (.cells (netArr 0 (fun _ => 0)) 61)) w.heap.size (.slice none 0 0)) := HBX0.out.keep ((Below.refl _ _).alloc (Nat.le_refl _) _)
      go_enter Try.func67, Try.ntmps67
      go_wp2_with fail
      refine (sizeOk_any _ _).mono ?_
      rintro e w' ⟨rfl, rfl⟩
      rw [HI.out]
      go_wp2_with (refine wpList_store_net rfl 61 (.tmp 6) (.tmp 19) rfl (w.heap.size + 1) m (fun _ => 0) rfl rfl Try.sizeNet 0 (fun _ => 0) g0 ?_; intro w3 hp; have HPU : Hid (NetBlk 61 w3 (w.heap.size + 1) m (fun _ => 0) ∧ BoxAt w3 w.heap.size (.slice none 0 0) ∧ Below w.heap.size w w3) := ⟨hp.net, HBX1.out.keepB hp.below (by omega), HB1.out.trans (hp.below.mono (by omega))⟩; clear hp g0)
      go_loopw [22] (fun i wr => ∃ k : Nat, k ≤ E.length ∧ i = .int .i64 k ∧ (∀ j, j < k → EdgeP (nthR E j) m) ∧ NetBlk 61 wr (w.heap.size + 1) m (edgeM E k) ∧ BoxAt wr w.heap.size (.slice none 0 0) ∧ Below w.heap.size w wr) (fun i _ => E.length - (intOf i).toNat)
      case atStart => exact ⟨0, Nat.zero_le _, rfl, (fun j hj => absurd hj (by omega)), HPU.out.1.congr rfl (fun i _ => rfl), HPU.out.2.1, HPU.out.2.2⟩
      case round =>
        obtain ⟨k, hk, rfl, he, hn, hbx, hb⟩ := hrel
        have HE := Lib.hid he
        have HB := Lib.hid hb
        have HN := Lib.hid hn
        have HBX := Lib.hid hbx
        clear he hn HPU
        by_cases hlt : k < E.length
        · obtain ⟨b, o, c0, A, C, e2, l1, l2, hc⟩ := H.out.pos (by omega)
          simp only [Value.slice.injEq, true_and] at e2
          obtain ⟨rfl, rfl⟩ := e2
          have hck := cell_keep hb (hc k hlt).1
          have hrk := (hc k hlt).2.keep hb
          have HRK := Lib.hid hrk
          clear hb hc hbx hrk
          go_wp2_with fail
          refine (edgeOk_any _ _ _ _ HRK.out).mono ?_
          rintro e w4 ⟨rfl, hd4⟩
          have HN4 := Lib.hid (HN.out.drawn hd4)
          have hbx4 := HBX.out.keep (hd4.below _)
          have HB4 : Hid (Below w.heap.size w w4) := HB.out.trans (hd4.below _)
          have HRK4 := Lib.hid (HRK.out.drawn hd4)
          clear hd4 hck
          by_cases hE : EdgeP (nthR E k) m
          · rw [decide_eq_true hE]
            obtain ⟨h2, x0, x1, x2⟩ := id hE
            obtain ⟨b2, o2, c2, e3, l3, l4, hc2⟩ := HRK4.out.pos (by omega)
            rw [e3, h2]
            obtain ⟨p, hp⟩ : ∃ p : Nat, nth (nthR E k) 0 = (p : Int) := ⟨(nth (nthR E k) 0).toNat, by omega⟩
            obtain ⟨q, hq⟩ : ∃ q : Nat, nth (nthR E k) 1 = (q : Int) := ⟨(nth (nthR E k) 1).toNat, by omega⟩
            have k0 : w4.cell? ⟨b2, o2, none⟩ = some (.int .i64 (p : Int)) := by rw [← hp]; exact hc2 0 (by omega)
            have k1 : w4.cell? ⟨b2, o2 + 1, none⟩ = some (.int .i64 (q : Int)) := by rw [← hq]; exact hc2 1 (by omega)
            have hpq : p < q ∧ q < 16 := by omega
            have hml := edgeM_lt (n := (m : Int)) (by omega) k HE.out
            have HML := Lib.hid hml
            have hed : linkM (edgeM E k) p q = edgeM E (k + 1) := by
              funext i
              show _ = linkM (edgeM E k) (nth (nthR E k) 0).toNat (nth (nthR E k) 1).toNat i
              rw [hp, hq, Int.toNat_natCast, Int.toNat_natCast]
            have HED := Lib.hid hed
            have HEK := Lib.hid hE
            have HBX4 := Lib.hid hbx4
            obtain ⟨hpq1, hpq2⟩ := hpq
            clear hE h2 x0 x1 x2 e3 l3 l4 hc2 hp hq hml hed hbx4
            go_wp2_with fail
            go_region_law (first | (go_simp; go_at_call 81; refine (link_any (w.heap.size + 1) m p q (edgeM E k) _ (HN4.out.keep (Below.refl _ _).drew) HML.out (by omega) hpq2 (by omega)).mono ?_; rintro e w6 ⟨rfl, hp6⟩; have hb6 : Below (w.heap.size + 1) w4 w6 := (Below.refl _ _).drew.trans hp6.below; have HB6 := Lib.hid hb6; have HN6 := Lib.hid hp6.net; clear hp6 hb6))
            all_goals (
              go_wp2
              go_roundw
              case rel => exact ⟨k + 1, by omega, by go_num, (fun j hj => by rcases Nat.lt_succ_iff_lt_or_eq.1 hj with h | h; exact HE.out j h; subst h; exact HEK.out), by rw [← HED.out]; exact HN6.out, HBX4.out.keepB HB6.out (by omega), HB4.out.trans (HB6.out.mono (by omega))⟩
              case measure => simp [intOf]; omega)
          · have hno : ¬ OfP (m : Int) E := fun h => hE (h.2.2 k hlt)
            rw [decide_eq_false hE]
            have hbc := hbx4.1
            have hbf := hbx4.2
            have HBX4 := Lib.hid hbx4
            clear hbx4
            go_wp2
            have q0 : (w4.setCell ⟨w.heap.size, 0, none⟩ (.slice none 0 0)).cell? ⟨w.heap.size, 0, none⟩ = some (.slice none 0 0) := cell_set_same _ HBX4.out.1
            refine bodyPost_ret (v := .tuple #[.agg #[.slice none 0 0], .bool false]) (by simp [results, Try.results67, go_sem, q0]) rfl (GaveOf.no hno (HB4.out.setCell (Nat.le_refl _) _))
        · obtain rfl : k = E.length := by omega
          have hof : OfP (m : Int) E := ⟨HI.out, hlen, HE.out⟩
          have hml := edgeM_lt (n := (m : Int)) (by omega) E.length HE.out
          clear hb hbx
          go_wp2_with fail
          refine (graph_any _ _ _ _ HN.out hml hm1 hm2).mono ?_
          rintro e w5 ⟨n5, a5, c5, rfl, ho5, hb5⟩
          have hbx5 := HBX.out.keep hb5
          have hbc := hbx5.1
          have hbf := hbx5.2
          have HBX5 := Lib.hid hbx5
          have HO5 := Lib.hid ho5
          have HB5 := Lib.hid hb5
          have hws : w.heap.size + 1 < wr.heap.size := HN.out.lt
          clear hbx5 ho5 hb5 hml
          go_wp2
          have q0 : (w5.setCell ⟨w.heap.size, 0, none⟩ (.slice a5 n5 c5)).cell? ⟨w.heap.size, 0, none⟩ = some (.slice a5 n5 c5) := cell_set_same _ HBX5.out.1
          refine bodyPost_ret (v := .tuple #[.agg #[.slice a5 n5 c5], .bool true]) (by simp [results, Try.results67, go_sem, q0]) rfl ⟨n5, a5, c5, by rw [decide_eq_true hof], ?_, (HB.out.trans (HB5.out.mono HB.out.size)).setCell (Nat.le_refl _) _⟩
          rw [ofL, if_pos hof]
          exact (HO5.out.setBelow (by simp; omega) _).mono HB.out.size
    · have hno : ¬ OfP n E := fun h => hlen h.2.1
      have hlen' : decide ((120 : Int) < (E.length : Int)) = true := by simp; omega
      clear hin
      go_enter Try.func67, Try.ntmps67
      go_wp2_with fail
      refine (sizeOk_any _ _).mono ?_
      rintro e w' ⟨rfl, rfl⟩
      rw [HI.out]
      go_wp2
      refine bodyPost_ret (v := .tuple #[.agg #[.slice none 0 0], .bool false]) (by simp [results, Try.results67, go_sem, HBX0.out.1]) rfl (GaveOf.no hno HB0.out)
  · have hin' : inB n 1 16 = false := by simpa using hin
    have hno : ¬ OfP n E := fun h => hin h.1
    have HI := Lib.hid hin'
    clear hin hin'
    go_enter Try.func67, Try.ntmps67
    go_wp2_with fail
    refine (sizeOk_any _ _).mono ?_
    rintro e w' ⟨rfl, rfl⟩
    rw [HI.out]
    go_wp2
    refine bodyPost_ret (v := .tuple #[.agg #[.slice none 0 0], .bool false]) (by simp [results, Try.results67, go_sem, HBX0.out.1]) rfl (GaveOf.no hno HB0.out)

end Go.Proofs.Ytohjfcfcopbmoaa
