/- The texts J5, J6, J7, J8, J9, GrowRow, joined. -/
import Derived.Test.YtohjfcfcopbmoaaGreatDoorQJ1

/- Walks: paths and loops, as the draws make them. -/
namespace Go.Proofs.YtohjfcfcopbmoaaGreatDoor
open Go.RowKit

theorem Midst.linkRaw {w : World} {c nb n b : Nat} {bv : Value} {wr : World} (h : Midst w c bv nb n b wr) (hc : c < w.heap.size) (hb : w.heap.size < b) (hn : n ≤ 16) (x y : Nat) (hx : x < n) (hy : y < n) (hxy : x ≠ y) :
    ∃ a cap, wr.cell? ⟨b, 0, none⟩ = some (.slice a n cap) ∧
      Calls Tryz.prog 181 #[.agg #[.slice a n cap], .int .i64 (x : Int), .int .i64 (y : Int)] wr (fun e w' => e = .returned (.agg #[.slice a n cap]) ∧ w'.cell? ⟨b, 0, none⟩ = some (.slice a n cap) ∧ Midst w c bv nb n b w') := by
  obtain ⟨M, a, cap, h1, h2, h3, h4, h5⟩ := h
  obtain ⟨g, cap', eg, hBg, hgs, hcell⟩ := h2.place (by rw [maskL_len]; omega)
  rw [maskL_len] at eg
  simp only [Value.slice.injEq, true_and] at eg
  obtain ⟨rfl, rfl⟩ := eg
  have hgne : g ≠ b := by
    obtain ⟨cur, hcur⟩ := h2.blkT
    intro e
    rw [e] at hcur
    have hbb : wr.heap[b]? = _ := h1
    rw [hcur] at hbb
    simp at hbb
  refine ⟨_, _, h1.box.1, ?_⟩
  have hlk := l1Link_own x y g cap (w.heap.size + 1) (maskL n M) wr (by rw [maskL_len]; exact h2) (by have := h1.lt; omega) (by rw [maskL_len]; exact hx) (by rw [maskL_len]; exact hy) (by rw [maskL_len]; exact hn) hxy (M x) (M y) (maskL_nth _ hx) (maskL_nth _ hy)
  rw [maskL_len, maskL_link _ _ _ _ hxy] at hlk
  refine hlk.mono ?_
  rintro e w6 ⟨rfl, ho6, hb6, ht6⟩
  have bt6 : BoxT 26 w6 b (.slice (some ⟨g, 0, none⟩) n cap) := by
    unfold BoxT
    rw [ht6 _ h1.lt (fun e => hgne e.symm)]
    exact h1
  exact ⟨rfl, bt6.box.1, linkM M x y, _, cap, bt6, ho6, h3.keepB hb6 (by omega), h4.keepB hb6 (by omega), h5.under hb6 (by omega)⟩

/-- .. a graph and the word that it is one. -/
def DrewP (w : World) (c : Nat) (bv : Value) (nb n : Nat) (e : Ending) (w' : World) : Prop :=
  ∃ M a cap, e = .returned (.tuple #[.agg #[.slice a n cap], .bool true]) ∧ OwnGrid 2 33 w' w.heap.size (.slice a n cap) (maskL n M) ∧ CurAt w' c bv nb ∧ Touched c (c + 1) w w'
theorem DrewM.pair {w w' : World} {c nb n : Nat} {bv : Value} {a : Option Addr} {cap : Nat} (h : DrewM w c bv nb (.returned (.agg #[.slice a n cap])) w') : DrewP w c bv nb n (.returned (.tuple #[.agg #[.slice a n cap], .bool true])) w' := by
  obtain ⟨n', M, a', cap', _, _, e, ho, hc, ht⟩ := h
  simp only [Ending.returned.injEq, Value.agg.injEq, Array.mk.injEq, List.cons.injEq, Value.slice.injEq, and_true] at e
  obtain ⟨rfl, rfl, rfl⟩ := e
  exact ⟨M, _, _, rfl, ho, hc, ht⟩

theorem l6Of_any (n : Nat) (w : World) (hn1 : 1 ≤ n) (hn : n ≤ 16) : Calls Tryz.prog 259 #[.int .i64 (n : Int)] w (fun e w' => ∃ a cap, e = .returned (.tuple #[.agg #[.slice a n cap], .bool true]) ∧ OwnGrid 2 33 w' w.heap.size (.slice a n cap) (maskL n (fun _ => 0)) ∧ Below w.heap.size w w') := by
  have hin : inB (n : Int) 1 16 = true := by simp [inB]; omega
  have HI := Lib.hid hin
  have HB0 : Hid (Below w.heap.size w (w.alloc (.cells #[.slice none 0 0] 26))) := (Below.refl _ _).alloc (Nat.le_refl _) _
  have HBX0 : Hid (BoxAt (w.alloc (.cells #[.slice none 0 0] 26)) w.heap.size (.slice none 0 0)) := BoxAt.new _ _ _
  clear hin
  go_enter Tryz.func259, Tryz.ntmps259
  go_wp2_with fail
  refine (l1In_any _ _ _ _).mono ?_
  rintro e w' ⟨rfl, rfl⟩
  rw [HI.out]
  go_wp2_with fail
  refine (l1Empty_any n _ (by omega)).mono ?_
  rintro e w2 ⟨n2, a2, c2, rfl, ho2, hb2⟩
  obtain rfl : n2 = n := by
    obtain ⟨a3, c3, e3⟩ := ho2.grid.slice
    simp only [Value.slice.injEq] at e3
    simpa using e3.2.1
  rw [maskL_zero n2 [], size_alloc1] at ho2
  have hbx := HBX0.out.keep hb2
  have hbc := hbx.1
  have hbf := hbx.2
  have HQ : Hid ((w2.setCell ⟨w.heap.size, 0, none⟩ (.slice a2 n2 c2)).cell? ⟨w.heap.size, 0, none⟩ = some (.slice a2 n2 c2)) := cell_set_same _ hbx.1
  have HO := Lib.hid ho2
  have HB : Hid (Below w.heap.size w w2) := HB0.out.trans (hb2.mono HB0.out.size)
  clear hbx ho2 hb2
  go_wp2
  refine bodyPost_ret (v := .tuple #[.agg #[.slice a2 n2 c2], .bool true]) (by simp [results, Tryz.results259, go_sem, HQ.out]) rfl ⟨a2, c2, rfl, ?_, HB.out.setCell (Nat.le_refl _) _⟩
  exact (HO.out.setBelow (by simp) _).mono (by omega)

set_option maxHeartbeats 1600000 in
theorem pathGraph_any (c nb n : Nat) (bv : Value) (w : World) (hc : CurAt w c bv nb) (hn1 : 1 ≤ n) (hn : n ≤ 16) : Calls Tryz.prog 225 #[.int .i64 (n : Int)] w (DrewP w c bv nb n) := by
  have hcw := hc.lt
  have HC := Lib.hid hc
  have HB0 : Hid (Below w.heap.size w (w.alloc (.cells #[.slice none 0 0] 26))) := (Below.refl _ _).alloc (Nat.le_refl _) _
  have HBX0 : Hid (BoxAt (w.alloc (.cells #[.slice none 0 0] 26)) w.heap.size (.slice none 0 0)) := BoxAt.new _ _ _
  clear hc
  go_enter Tryz.func225, Tryz.ntmps225
  go_wp2_with fail
  refine (l6Of_any n _ hn1 hn).mono ?_
  rintro e w2 ⟨a2, c2, rfl, ho2, hb2⟩
  rw [size_alloc1] at ho2
  have hs2 : w.heap.size + 1 ≤ w2.heap.size := by have := hb2.size; rw [size_alloc1] at this; exact this
  have hbl2 : Below w.heap.size w w2 := HB0.out.trans (hb2.mono HB0.out.size)
  have hst : Below w2.heap.size w2 (w2.alloc (.cells #[.slice a2 n c2] 26)) := (Below.refl _ _).alloc (Nat.le_refl _) _
  have hmid : Midst w c bv nb n w2.heap.size (w2.alloc (.cells #[.slice a2 n c2] 26)) :=
    ⟨_, a2, c2, BoxT.new _ _ _, ho2.keep hst, (HBX0.out.keep hb2).keep hst, (HC.out.keepB hbl2 hcw).keepB hst (by omega), Touched.ofBelow (hbl2.trans (hst.mono (by omega)))⟩
  have HM := Lib.hid hmid
  clear ho2 hb2 hbl2 hst hmid
  go_wp2_with fail
  go_loopw [6] (fun i wr => ∃ k : Nat, 1 ≤ k ∧ k ≤ n ∧ i = .int .i64 k ∧ Midst w c bv nb n w2.heap.size wr) (fun i _ => n - (intOf i).toNat)
  case atStart => exact ⟨1, Nat.le_refl _, hn1, rfl, HM.out⟩
  case round =>
    obtain ⟨k, hk1, hk, rfl, hmid⟩ := hrel
    have HM4 := Lib.hid hmid
    clear hmid
    by_cases hlt : k < n
    · have dk : decide ((k : Int) < (n : Int)) = true := by simpa using hlt
      obtain ⟨k', rfl⟩ : ∃ k', k = k' + 1 := ⟨k - 1, by omega⟩
      obtain ⟨a6, cap6, kb6, hlk⟩ := HM4.out.link hcw (by omega) hn k' (k' + 1) (by omega) hlt (by omega)
      have HLK := Lib.hid hlk
      clear hlk
      go_wp2_with fail
      have eK : (((k' + 1 : Nat) : Int) - 1) = (k' : Int) := by omega
      first
        | refine HLK.out.mono ?_
        | (simp only [eK]; refine HLK.out.mono ?_)
      rintro e w7 ⟨rfl, kb7, kf7, hm7⟩
      have HM7 := Lib.hid hm7
      clear hm7
      go_wp2
      go_roundw
      case rel => exact ⟨k' + 1 + 1, by omega, by omega, by go_num, HM7.out⟩
      case measure => simp [intOf]; omega
    · obtain rfl : k = n := by omega
      obtain ⟨a8, cap8, kb8, k08, f08, q08, hp8⟩ := HM4.out.done hcw hn1 hn
      have HP := Lib.hid hp8.pair
      have HQ := Lib.hid q08
      clear hp8 q08
      go_wp2
      exact bodyPost_ret (v := .tuple #[.agg #[.slice a8 k cap8], .bool true]) (by simp [results, Tryz.results225, go_sem, HQ.out]) rfl HP.out

end Go.Proofs.YtohjfcfcopbmoaaGreatDoor

/- Walks: l1Draw. -/
namespace Go.Proofs.YtohjfcfcopbmoaaGreatDoor
open Go.RowKit

set_option maxHeartbeats 1600000 in
theorem loopGraph_any (c nb n : Nat) (bv : Value) (w : World) (hc : CurAt w c bv nb) (hn1 : 3 ≤ n) (hn : n ≤ 16) : Calls Tryz.prog 224 #[.int .i64 (n : Int)] w (DrewP w c bv nb n) := by
  have hcw := hc.lt
  have HC := Lib.hid hc
  have HB0 : Hid (Below w.heap.size w (w.alloc (.cells #[.slice none 0 0] 26))) := (Below.refl _ _).alloc (Nat.le_refl _) _
  have HBX0 : Hid (BoxAt (w.alloc (.cells #[.slice none 0 0] 26)) w.heap.size (.slice none 0 0)) := BoxAt.new _ _ _
  clear hc
  go_enter Tryz.func224, Tryz.ntmps224
  go_wp2_with fail
  refine (pathGraph_any c nb n bv _ (HC.out.keepB HB0.out hcw) (by omega) hn).mono ?_
  rintro e w2 ⟨M2, a2, c2, rfl, ho2, hc2, ht2⟩
  rw [size_alloc1] at ho2
  have hs2 : w.heap.size + 1 ≤ w2.heap.size := by have := ht2.size; rw [size_alloc1] at this; exact this
  have ht : Touched c (c + 1) w w2 := (Touched.ofBelow HB0.out).trans ht2
  have hst : Below w2.heap.size w2 (w2.alloc (.cells #[.slice a2 n c2] 26)) := (Below.refl _ _).alloc (Nat.le_refl _) _
  have hbx2 : BoxAt w2 w.heap.size (.slice none 0 0) := by
    have hq : w2.heap[w.heap.size]? = (w.alloc (.cells #[.slice none 0 0] 26)).heap[w.heap.size]? := ht2.other _ (by simp) (by omega)
    exact ⟨by rw [World.cell?_of_block (w := w.alloc (.cells #[.slice none 0 0] 26)) hq]; exact HBX0.out.1, by rw [World.frozen?_of_block (w := w.alloc (.cells #[.slice none 0 0] 26)) hq]; exact HBX0.out.2⟩
  have hmid : Midst w c bv nb n w2.heap.size (w2.alloc (.cells #[.slice a2 n c2] 26)) :=
    ⟨M2, a2, c2, BoxT.new _ _ _, ho2.keep hst, hbx2.keep hst, hc2.keepB hst (by omega), ht.under hst (by omega)⟩
  have HM := Lib.hid hmid
  have d3 : decide ((n : Int) < 3) = false := by simp; omega
  obtain ⟨a6, cap6, kb6, hlk⟩ := hmid.linkRaw hcw (by omega) hn 0 (n - 1) (by omega) (by omega) (by omega)
  have kb5 := (BoxT.new w2 (.slice a2 n c2) 26).box.1
  rw [kb5] at kb6
  simp only [Option.some.injEq, Value.slice.injEq, true_and] at kb6
  obtain ⟨rfl, rfl⟩ := kb6
  have en : ((n - 1 : Nat) : Int) = (n : Int) - 1 := by omega
  rw [en] at hlk
  have HLK := Lib.hid hlk
  clear ho2 hc2 ht2 ht hst hbx2 hmid hlk kb5 en
  go_wp2_with fail
  refine HLK.out.mono ?_
  rintro e w7 ⟨rfl, kb7, hm7⟩
  obtain ⟨a8, cap8, kb8, k08, f08, q08, hp8⟩ := hm7.done hcw (by omega) hn
  rw [kb7] at kb8
  simp only [Option.some.injEq, Value.slice.injEq, true_and] at kb8
  obtain ⟨rfl, rfl⟩ := kb8
  have HP := Lib.hid hp8.pair
  have HQ := Lib.hid q08
  clear hp8 q08 hm7 HLK HM
  go_wp2
  exact bodyPost_ret (v := .tuple #[.agg #[.slice _ n _], .bool true]) (by simp [results, Tryz.results224, go_sem, HQ.out]) rfl HP.out

end Go.Proofs.YtohjfcfcopbmoaaGreatDoor

/- Walks: l1Draw. -/
namespace Go.Proofs.YtohjfcfcopbmoaaGreatDoor
open Go.RowKit

theorem CurAt.setOther {w : World} {c n : Nat} {bv : Value} (h : CurAt w c bv n) {a : Addr} (ha : c ≠ a.block) (u : Value) : CurAt (w.setCell a u) c bv n := by
  obtain ⟨i, k, hi, hh⟩ := h
  exact ⟨i, k, hi, by rw [heap_setCell_other _ _ _ _ ha]; exact hh⟩
theorem Touched.set {c : Nat} {w w' : World} (h : Touched c (c + 1) w w') {a : Addr} (ha : w.heap.size ≤ a.block) (u : Value) : Touched c (c + 1) w (w'.setCell a u) :=
  ⟨h.os, h.tape, h.output, by rw [size_setCell1]; exact h.size, fun j hj hj2 => by rw [heap_setCell_other _ _ _ _ (by omega)]; exact h.other j hj hj2⟩
theorem BoxAt.touched {c b : Nat} {w w' : World} {v : Value} (h : BoxAt w b v) (ht : Touched c (c + 1) w w') (hb : b ≠ c) (hlt : b < w.heap.size) : BoxAt w' b v := by
  have hq := ht.other b hlt (by omega)
  exact ⟨by rw [World.cell?_of_block (w := w) hq]; exact h.1, by rw [World.frozen?_of_block (w := w) hq]; exact h.2⟩

theorem DrewM.mk {w w' : World} {c nb n B : Nat} {bv : Value} {M : Nat → Nat} {a : Option Addr} {cap : Nat} (hcw : c < w.heap.size) (hn1 : 1 ≤ n) (hn : n ≤ 16) (ho : OwnGrid 2 33 w' B (.slice a n cap) (maskL n M)) (hB : w.heap.size < B) (hc : CurAt w' c bv nb) (ht : Touched c (c + 1) w w') :
    DrewM w c bv nb (.returned (.agg #[.slice a n cap])) (w'.setCell ⟨w.heap.size, 0, none⟩ (.slice a n cap)) :=
  ⟨n, M, a, cap, hn1, hn, rfl, (ho.setBelow (by simpa using hB) _).mono (by omega), hc.setOther (by simp; omega) _, ht.set (by simp) _⟩

set_option maxHeartbeats 1600000 in
theorem l1Draw_any (c nb : Nat) (bv : Value) (w : World) (hc : CurAt w c bv nb) (hb : BytesAt w c bv nb) : Calls Tryz.prog 158 #[.pointer (some ⟨c, 0, none⟩)] w (DrewM w c bv nb) := by
  have hcw := hc.lt
  have hb0 : Below w.heap.size w (w.alloc (.cells #[.slice none 0 0] 26)) := (Below.refl _ _).alloc (Nat.le_refl _) _
  have hbx0 : BoxAt (w.alloc (.cells #[.slice none 0 0] 26)) w.heap.size (.slice none 0 0) := BoxAt.new _ _ _
  have HBY := Lib.hid hb
  have HC0 := Lib.hid (hc.keepB hb0 hcw)
  have HBY0 := Lib.hid (hb.keepB hb0 (Nat.le_of_lt hcw))
  have HB0 := Lib.hid hb0
  have HBX0 := Lib.hid hbx0
  clear hc hb hb0 hbx0
  go_enter Tryz.func158, Tryz.ntmps158
  go_wp2_with fail
  refine (l1Below_any c nb bv _ _ HC0.out HBY0.out (by unfold I64; omega)).mono ?_
  rintro e w1 ⟨x, rfl, hx, hc1, ho1⟩
  have HT1 : Hid (Touched c (c + 1) w w1) := (Touched.ofBelow HB0.out).only ho1
  have HX1 : Hid (BoxAt w1 w.heap.size (.slice none 0 0)) := HBX0.out.only ho1 (by omega)
  have hs1 : w1.heap.size = w.heap.size + 1 := by rw [ho1.size, size_alloc1]
  have HC1 := Lib.hid hc1
  have HBY1 := Lib.hid (HT1.out.bytes HBY.out (Nat.le_of_lt hcw))
  clear hx hc1 ho1 HC0 HBY0 HB0 HBX0
  have tail : ∀ (w4 : World) (n : Nat) (M : Nat → Nat) (a : Option Addr) (cap B : Nat), 1 ≤ n → n ≤ 16 → OwnGrid 2 33 w4 B (.slice a n cap) (maskL n M) → w.heap.size < B → CurAt w4 c bv nb → Touched c (c + 1) w w4 → BoxAt w4 w.heap.size (.slice none 0 0) →
      DrewM w c bv nb (.returned (.agg #[.slice a n cap])) (w4.setCell ⟨w.heap.size, 0, none⟩ (.slice a n cap)) := fun w4 n M a cap B h1 h2 h3 h4 h5 h6 _ => DrewM.mk hcw h1 h2 h3 h4 h5 h6
  have TAIL := Lib.hid tail
  clear tail
  by_cases e0 : x = 0
  · subst e0
    go_wp2_with fail
    refine (l1Below_any c nb bv _ _ HC1.out HBY1.out (by unfold I64; omega)).mono ?_
    rintro e w2 ⟨y, rfl, hy, hc2, ho2⟩
    have hy' := hy.2 (by omega)
    obtain ⟨y', rfl⟩ : ∃ y' : Nat, y = (y' : Int) := ⟨y.toNat, by omega⟩
    have hy4 : y' < 4 := by omega
    have HT2 := Lib.hid (HT1.out.only ho2)
    have HX2 := Lib.hid (HX1.out.only ho2 (by omega))
    have HC2 := Lib.hid hc2
    have hs2 : w2.heap.size = w.heap.size + 1 := by rw [ho2.size, hs1]
    clear hy hy' hc2 ho2
    have hlp := loopGraph_any c nb (3 + y') bv w2 HC2.out (by omega) (by omega)
    have e3 : ((3 + y' : Nat) : Int) = 3 + (y' : Int) := by omega
    rw [e3] at hlp
    have HLP := Lib.hid hlp
    clear hlp e3
    go_wp2_with fail
    refine HLP.out.mono ?_
    rintro e w4 ⟨M4, a4, cap4, rfl, ho4, hc4, ht4⟩
    have hst : Below w4.heap.size w4 (w4.alloc (.cells #[.slice a4 (3 + y') cap4] 26)) := (Below.refl _ _).alloc (Nat.le_refl _) _
    have hx4 := ((HX2.out.touched ht4 (by omega) (by omega)).keep hst)
    have hxc := hx4.1
    have hxf := hx4.2
    have HT4 := Lib.hid ((HT2.out.trans ht4).under hst (by have := (HT2.out.trans ht4).size; exact this))
    have HP := Lib.hid (TAIL.out _ (3 + y') M4 a4 cap4 w2.heap.size (by omega) (by omega) (ho4.keep hst) (by omega) (hc4.keepB hst hc4.lt) HT4.out hx4)
    have HQ := Lib.hid (cell_set_same (.slice a4 (3 + y') cap4) hx4.1)
    clear hst hx4 ho4 hc4 ht4
    go_wp2
    exact bodyPost_ret (v := .agg #[.slice a4 (3 + y') cap4]) (by simp [results, Tryz.results158, go_sem, HQ.out]) rfl HP.out
  · have d0 : (x == 0) = false := by rw [beq_eq_false_iff_ne]; exact e0
    by_cases e1 : x = 1
    · subst e1
      go_wp2_with fail
      refine (l1Below_any c nb bv _ _ HC1.out HBY1.out (by unfold I64; omega)).mono ?_
      rintro e w2 ⟨y, rfl, hy, hc2, ho2⟩
      have hy' := hy.2 (by omega)
      obtain ⟨y', rfl⟩ : ∃ y' : Nat, y = (y' : Int) := ⟨y.toNat, by omega⟩
      have hy4 : y' < 6 := by omega
      have HT2 := Lib.hid (HT1.out.only ho2)
      have HX2 := Lib.hid (HX1.out.only ho2 (by omega))
      have HC2 := Lib.hid hc2
      have hs2 : w2.heap.size = w.heap.size + 1 := by rw [ho2.size, hs1]
      clear hy hy' hc2 ho2
      have hlp := pathGraph_any c nb (1 + y') bv w2 HC2.out (by omega) (by omega)
      have e3 : ((1 + y' : Nat) : Int) = 1 + (y' : Int) := by omega
      rw [e3] at hlp
      have HLP := Lib.hid hlp
      clear hlp e3
      go_wp2_with fail
      refine HLP.out.mono ?_
      rintro e w4 ⟨M4, a4, cap4, rfl, ho4, hc4, ht4⟩
      have hst : Below w4.heap.size w4 (w4.alloc (.cells #[.slice a4 (1 + y') cap4] 26)) := (Below.refl _ _).alloc (Nat.le_refl _) _
      have hx4 := ((HX2.out.touched ht4 (by omega) (by omega)).keep hst)
      have hxc := hx4.1
      have hxf := hx4.2
      have HT4 := Lib.hid ((HT2.out.trans ht4).under hst (by have := (HT2.out.trans ht4).size; exact this))
      have HP := Lib.hid (TAIL.out _ (1 + y') M4 a4 cap4 w2.heap.size (by omega) (by omega) (ho4.keep hst) (by omega) (hc4.keepB hst hc4.lt) HT4.out hx4)
      have HQ := Lib.hid (cell_set_same (.slice a4 (1 + y') cap4) hx4.1)
      clear hst hx4 ho4 hc4 ht4
      go_wp2
      exact bodyPost_ret (v := .agg #[.slice a4 (1 + y') cap4]) (by simp [results, Tryz.results158, go_sem, HQ.out]) rfl HP.out
    · have d1 : (x == 1) = false := by rw [beq_eq_false_iff_ne]; exact e1
      go_wp2_with fail
      refine (l1Below_any c nb bv _ _ HC1.out HBY1.out (by unfold I64; omega)).mono ?_
      rintro e w2 ⟨y, rfl, hy, hc2, ho2⟩
      have hy' := hy.2 (by omega)
      obtain ⟨y', rfl⟩ : ∃ y' : Nat, y = (y' : Int) := ⟨y.toNat, by omega⟩
      have hy4 : y' < 7 := by omega
      have HT2 := Lib.hid (HT1.out.only ho2)
      have HX2 := Lib.hid (HX1.out.only ho2 (by omega))
      have HC2 := Lib.hid hc2
      have hs2 : w2.heap.size = w.heap.size + 1 := by rw [ho2.size, hs1]
      clear hy hy' hc2 ho2
      have hlp := l1DrawOf_any c nb (1 + y') bv w2 HC2.out (HT2.out.bytes HBY.out (Nat.le_of_lt hcw)) (by omega) (by omega)
      have e3 : ((1 + y' : Nat) : Int) = 1 + (y' : Int) := by omega
      rw [e3] at hlp
      have HLP := Lib.hid hlp
      clear hlp e3
      go_wp2_with fail
      refine HLP.out.mono ?_
      rintro e w4 ⟨n4, M4, a4, cap4, hn41, hn42, rfl, ho4, hc4, ht4⟩
      have hx4 := HX2.out.touched ht4 (by omega) (by omega)
      have hxc := hx4.1
      have hxf := hx4.2
      have HP := Lib.hid (TAIL.out _ n4 M4 a4 cap4 w2.heap.size hn41 hn42 ho4 (by omega) hc4 (HT2.out.trans ht4) hx4)
      have HQ := Lib.hid (cell_set_same (.slice a4 n4 cap4) hx4.1)
      clear hx4 ho4 hc4 ht4
      go_wp2
      exact bodyPost_ret (v := .agg #[.slice a4 n4 cap4]) (by simp [results, Tryz.results158, go_sem, HQ.out]) rfl HP.out

end Go.Proofs.YtohjfcfcopbmoaaGreatDoor

/- Walks: odd numbers, and numbers up to a bound. -/
namespace Go.Proofs.YtohjfcfcopbmoaaGreatDoor
open Go.RowKit

/-- Some number has been drawn. -/
def DrewN (w : World) (c : Nat) (bv : Value) (nb : Nat) (e : Ending) (w' : World) : Prop :=
  ∃ x : Int, e = .returned (.int .i64 x) ∧ I64 x ∧ CurAt w' c bv nb ∧ Touched c (c + 1) w w'

theorem list_cell {T : TypeId} {w w' : World} {vs : List Int} (hI : ∀ x ∈ vs, I64 x) (h : w'.heap[w.heap.size]? = some (.cells (vs.map (Value.int .i64)).toArray T (0, 0))) {y : Nat} (hy : y < vs.length) : ∃ v, I64 v ∧ w'.cell? ⟨w.heap.size, y, none⟩ = some (.int .i64 v) := by
  refine ⟨vs[y], hI _ (List.getElem_mem hy), ?_⟩
  rw [cell_of_row w' w.heap.size y _ _ _ h]
  simp [hy]

set_option maxHeartbeats 1600000 in
theorem l1Odd_any (c nb : Nat) (bv : Value) (w : World) (hc : CurAt w c bv nb) (hb : BytesAt w c bv nb) : Calls Tryz.prog 228 #[.pointer (some ⟨c, 0, none⟩)] w (DrewN w c bv nb) := by
  have hcw := hc.lt
  have hb0 : ∀ o, Below w.heap.size w (w.alloc o) := fun o => (Below.refl _ _).alloc (Nat.le_refl _) _
  have HC0 : Hid (∀ o, CurAt (w.alloc o) c bv nb) := fun o => hc.keepB (hb0 o) hcw
  have HBY0 : Hid (∀ o, BytesAt (w.alloc o) c bv nb) := fun o => hb.keepB (hb0 o) (Nat.le_of_lt hcw)
  have HB0 := Lib.hid hb0
  clear hc hb hb0
  go_enter Tryz.func228, Tryz.ntmps228
  go_wp2_with fail
  refine (l1Below_any c nb bv _ _ (HC0.out _) (HBY0.out _) (by unfold I64; omega)).mono ?_
  rintro e w1 ⟨y, rfl, hy, hc1, ho1⟩
  have hy' := hy.2 (by omega)
  obtain ⟨y', rfl⟩ : ∃ y' : Nat, y = (y' : Int) := ⟨y.toNat, by omega⟩
  have hy10 : y' < 10 := by omega
  have hblk : w1.heap[w.heap.size]? = _ := (ho1.other w.heap.size (by omega)).trans (heap_alloc_new w _)
  have HT1 : Hid (Touched c (c + 1) w w1) := (Touched.ofBelow (HB0.out _)).only ho1
  have HC1 := Lib.hid hc1
  obtain ⟨v, hv, hcell⟩ := list_cell (vs := [-1, 0, 1, 2147483648, -2147483648, 1099511627776, 4611686018427387904, -4611686018427387904, 9223372036854775807, -9223372036854775808]) (by intro x hx; simp at hx; unfold I64; omega) hblk (by simpa using hy10)
  clear hblk hc1 ho1 hy hy'
  go_wp2
  go_ret
  exact ⟨v, rfl, hv, HC1.out, HT1.out⟩

theorem l1Min_any (x y : Int) (w : World) : Calls Tryz.prog 222 #[.int .i64 x, .int .i64 y] w fun e w' => e = .returned (.int .i64 (if x < y then x else y)) ∧ w = w' := by
  by_cases h : x < y
  · rw [if_pos h]
    go_enter Tryz.func222, Tryz.ntmps222
    go_wp2
    go_ret
    exact ⟨rfl, rfl⟩
  · rw [if_neg h]
    go_enter Tryz.func222, Tryz.ntmps222
    go_wp2
    go_ret
    exact ⟨rfl, rfl⟩

set_option maxHeartbeats 1600000 in
theorem l1Num_any (c nb : Nat) (bv : Value) (m : Nat) (w : World) (hc : CurAt w c bv nb) (hb : BytesAt w c bv nb) (hm : m ≤ 1000000) : Calls Tryz.prog 160 #[.pointer (some ⟨c, 0, none⟩), .int .i64 (m : Int)] w (DrewN w c bv nb) := by
  have hcw := hc.lt
  have HBY := Lib.hid hb
  have HC := Lib.hid hc
  clear hc hb
  go_enter Tryz.func160, Tryz.ntmps160
  go_wp2_with fail
  refine (l1Once_any c nb bv _ _ HC.out HBY.out (by unfold I64; omega)).mono ?_
  rintro e w1 ⟨b1, rfl, hc1, ho1⟩
  have HT1 : Hid (Touched c (c + 1) w w1) := (Touched.refl _ _ _).only ho1
  have HC1 := Lib.hid hc1
  clear hc1 ho1
  cases b1 with
  | true =>
    go_wp2_with fail
    refine (l1Odd_any c nb bv _ HC1.out (HT1.out.bytes HBY.out (Nat.le_of_lt hcw))).mono ?_
    rintro e w2 ⟨x2, rfl, hx2, hc2, ht2⟩
    have HT2 := Lib.hid (HT1.out.trans ht2)
    have HC2 := Lib.hid hc2
    have HX2 := Lib.hid hx2
    have hcw2 := hc2.lt
    have hb2 : ∀ o, Below w2.heap.size w2 (w2.alloc o) := fun o => (Below.refl _ _).alloc (Nat.le_refl _) _
    have HB2 := Lib.hid hb2
    clear hc2 ht2 hx2 hb2
    go_wp2_with fail
    refine (l1Below_any c nb bv _ _ (HC2.out.keepB (HB2.out _) hcw2) ((HT2.out.bytes HBY.out (Nat.le_of_lt hcw)).keepB (HB2.out _) (Nat.le_of_lt hcw2)) (by unfold I64; omega)).mono ?_
    rintro e w3 ⟨y, rfl, hy, hc3, ho3⟩
    have hy' := hy.2 (by omega)
    obtain ⟨y', rfl⟩ : ∃ y' : Nat, y = (y' : Int) := ⟨y.toNat, by omega⟩
    have hy4 : y' < 4 := by omega
    have hblk : w3.heap[w2.heap.size]? = _ := (ho3.other w2.heap.size (by omega)).trans (heap_alloc_new w2 _)
    have HT3 : Hid (Touched c (c + 1) w w3) := ((HT2.out.under (HB2.out _) HT2.out.size)).only ho3
    have HC3 := Lib.hid hc3
    obtain ⟨v, hv, hcell⟩ := list_cell (vs := [-1, (m : Int), (m : Int) + 1, x2]) (by intro x hx; simp at hx; rcases hx with rfl | rfl | rfl | rfl; (unfold I64; omega); (unfold I64; omega); (unfold I64; omega); exact HX2.out) hblk (by simpa using hy4)
    clear hblk hc3 ho3 hy hy'
    go_wp2
    go_ret
    exact ⟨v, rfl, hv, HC3.out, HT3.out⟩
  | false =>
    go_wp2_with fail
    refine (l1Once_any c nb bv _ _ HC1.out (HT1.out.bytes HBY.out (Nat.le_of_lt hcw)) (by unfold I64; omega)).mono ?_
    rintro e w2 ⟨b2, rfl, hc2, ho2⟩
    have HT2 := Lib.hid (HT1.out.only ho2)
    have HC2 := Lib.hid hc2
    clear hc2 ho2
    cases b2 with
    | true =>
      go_wp2_with fail
      refine (l1Min_any _ _ _).mono ?_
      rintro e w' ⟨rfl, rfl⟩
      obtain ⟨z, hz⟩ : ∃ z : Int, z = (if (m : Int) < 4 then (m : Int) else 4) := ⟨_, rfl⟩
      have hz4 : 0 ≤ z ∧ z ≤ 4 := by rw [hz]; split <;> omega
      obtain ⟨hz5, hz6⟩ := hz4
      rw [← hz]
      clear hz
      go_wp2_with fail
      refine (l1Below_any c nb bv _ _ HC2.out (HT2.out.bytes HBY.out (Nat.le_of_lt hcw)) (by unfold I64; omega)).mono ?_
      rintro e w3 ⟨y, rfl, hy, hc3, ho3⟩
      have hy' := hy.2 (by omega)
      have HP : Hid (DrewN w c bv nb (.returned (.int .i64 y)) w3) := ⟨y, rfl, by unfold I64; omega, hc3, HT2.out.only ho3⟩
      clear hy hy' hc3 ho3
      go_wp2
      go_ret
      exact HP.out
    | false =>
      go_wp2_with fail
      refine (l1Below_any c nb bv _ _ HC2.out (HT2.out.bytes HBY.out (Nat.le_of_lt hcw)) (by unfold I64; omega)).mono ?_
      rintro e w3 ⟨y, rfl, hy, hc3, ho3⟩
      have hy' := hy.2 (by omega)
      have HP : Hid (DrewN w c bv nb (.returned (.int .i64 y)) w3) := ⟨y, rfl, by unfold I64; omega, hc3, HT2.out.only ho3⟩
      clear hy hy' hc3 ho3
      go_wp2
      go_ret
      exact HP.out

end Go.Proofs.YtohjfcfcopbmoaaGreatDoor

/- Words for l1DrawAny: a graph of one's own, of any rows, in a box. -/
namespace Go.Proofs.YtohjfcfcopbmoaaGreatDoor
open Go.RowKit

/-- Some graph of the call's own has been drawn. -/
def DrewG (w : World) (c : Nat) (bv : Value) (nb : Nat) (e : Ending) (w' : World) : Prop :=
  ∃ L n a cap, e = .returned (.agg #[.slice a n cap]) ∧ OwnGrid 2 33 w' w.heap.size (.slice a n cap) L ∧ CurAt w' c bv nb ∧ Touched c (c + 1) w w' ∧ n ≤ 17
/-- In the midst of l1DrawAny. -/
def MidG (w : World) (c : Nat) (bv : Value) (nb b : Nat) (wr : World) : Prop :=
  ∃ L n a cap, BoxT 26 wr b (.slice a n cap) ∧ OwnGrid 2 33 wr (w.heap.size + 1) (.slice a n cap) L ∧ BoxAt wr w.heap.size (.slice none 0 0) ∧ CurAt wr c bv nb ∧ Touched c (c + 1) w wr ∧ n ≤ 17
theorem MidG.done {w : World} {c nb b : Nat} {bv : Value} {wr : World} (h : MidG w c bv nb b wr) (hc : c < w.heap.size) :
    ∃ n a cap, wr.cell? ⟨b, 0, none⟩ = some (.slice a n cap) ∧ wr.cell? ⟨w.heap.size, 0, none⟩ = some (.slice none 0 0) ∧ wr.frozen? ⟨w.heap.size, 0, none⟩ = false ∧ (wr.setCell ⟨w.heap.size, 0, none⟩ (.slice a n cap)).cell? ⟨w.heap.size, 0, none⟩ = some (.slice a n cap) ∧ DrewG w c bv nb (.returned (.agg #[.slice a n cap])) (wr.setCell ⟨w.heap.size, 0, none⟩ (.slice a n cap)) := by
  obtain ⟨L, n, a, cap, h1, h2, h3, h4, h5, h6⟩ := h
  exact ⟨n, a, cap, h1.box.1, h3.1, h3.2, cell_set_same _ h3.1, L, n, a, cap, rfl, (h2.setBelow (by simp) _).mono (by omega), h4.setOther (by simp; omega) _, h5.set (by simp) _, h6⟩
theorem MidG.only {w : World} {c nb b : Nat} {bv : Value} {wr w1 : World} (h : MidG w c bv nb b wr) (hc : c < w.heap.size) (hb : w.heap.size < b) (ho : OnlyBlk c wr w1) (hcur : CurAt w1 c bv nb) : MidG w c bv nb b w1 := by
  obtain ⟨L, n, a, cap, h1, h2, h3, _, h5, h6⟩ := h
  exact ⟨L, n, a, cap, h1.only ho (by omega), h2.touched (ho.touched (Nat.le_refl _) (Nat.lt_succ_self c)) (by omega), h3.only ho (by omega), hcur, h5.only ho, h6⟩
/-- Another graph laid into the box. -/
theorem MidG.put {w : World} {c nb b : Nat} {bv : Value} {wr w1 : World} (h : MidG w c bv nb b wr) (hc : c < w.heap.size) (hb : w.heap.size < b) (hbel : Below wr.heap.size wr w1) {n cap : Nat} {a : Option Addr} {L : List (List Int)} (ho : OwnGrid 2 33 w1 (w.heap.size + 1) (.slice a n cap) L) (hn : n ≤ 17) :
    w1.frozen? ⟨b, 0, none⟩ = false ∧ (∃ v, w1.cell? ⟨b, 0, none⟩ = some v) ∧ MidG w c bv nb b (w1.setCell ⟨b, 0, none⟩ (.slice a n cap)) := by
  obtain ⟨_, _, _, _, h1, _, h3, h4, h5, _⟩ := h
  have b1 := h1.keep hbel
  refine ⟨b1.box.2, ⟨_, b1.box.1⟩, L, n, a, cap, b1.set _, ho.setType b1 (by decide) (by decide) 0 _, (h3.keep hbel).setOther (by simp; omega) _, (h4.keepB hbel h4.lt).setOther (by simp; omega) _, (h5.under hbel h5.size).set (by simp; omega) _, hn⟩
theorem own_one {T : TypeId} {w : World} {x : Int} (hx : I64 x) : OwnRow T (w.alloc (.cells #[.int .i64 x] T)) w.heap.size (.slice (some ⟨w.heap.size, 0, none⟩) 1 1) [x] := by
  refine ⟨by intro y hy; simp at hy; subst hy; exact hx, by unfold maxLen; simp, Or.inr ⟨w.heap.size, 1, #[.int .i64 x], rfl, Nat.le_refl _, heap_alloc_new _ _, Nat.le_refl _, by unfold maxLen; omega, rfl, fun i hi => ?_⟩⟩
  have : i = 0 := by simpa using hi
  subst this; rfl

/-- A row of the graph in the box put anew, out of new memory. -/
theorem MidG.row {w : World} {c nb b : Nat} {bv : Value} {wr w1 : World} {g n cap : Nat} (h1 : BoxT 26 wr b (.slice (some ⟨g, 0, none⟩) n cap)) {L : List (List Int)} (h2 : OwnGrid 2 33 wr (w.heap.size + 1) (.slice (some ⟨g, 0, none⟩) n cap) L) (h3 : BoxAt wr w.heap.size (.slice none 0 0)) (h4 : CurAt wr c bv nb) (h5 : Touched c (c + 1) w wr)
    (hc : c < w.heap.size) (hb : w.heap.size < b) (hbel : Below wr.heap.size wr w1) {i : Nat} (hi : i < L.length) {rv : Value} {xs : List Int} (hr : OwnRow 2 w1 wr.heap.size rv xs) (hn : n ≤ 17) :
    MidG w c bv nb b (w1.setCell ⟨g, i, none⟩ rv) := by
  have hgne : g ≠ b := by
    obtain ⟨cur, hcur⟩ := h2.blkT
    intro e
    rw [e] at hcur
    have hbb : wr.heap[b]? = _ := h1
    rw [hcur] at hbb
    simp at hbb
  obtain ⟨g', cap', eg, hBg, hgs, _⟩ := h2.place (by omega)
  simp only [Value.slice.injEq, Option.some.injEq, Addr.mk.injEq, and_true] at eg
  obtain ⟨rfl, _, _⟩ := eg
  refine ⟨L.set i xs, n, _, cap, (h1.keep hbel).setOther (by simp; omega) _, h2.setRow (by decide) hbel hi (hr.mono (by have := h1.lt; omega)) (fun k hk => Or.inl (hr.lt k hk).1), (h3.keep hbel).setOther (by simp; omega) _, (h4.keepB hbel h4.lt).setOther (by simp; omega) _, (h5.under hbel h5.size).set (by simp; omega) _, hn⟩

end Go.Proofs.YtohjfcfcopbmoaaGreatDoor

/- A row of one's own grid, appended to where it lies or anew, and put back. -/
namespace Go.Proofs.YtohjfcfcopbmoaaGreatDoor
open Go.RowKit

theorem OwnRow.far {T : TypeId} {w w' : World} {B : Nat} {v : Value} {xs : List Int} {r : Option Nat} (h : OwnRow T w B v xs) (hg : w.grownBy w' r) (hne : ∀ k, v.ownBlock = some k → some k ≠ r) : OwnRow T w' B v xs := by
  obtain ⟨h1, h2, h3⟩ := h
  refine ⟨h1, h2, ?_⟩
  rcases h3 with h3 | ⟨g, cap, cur, e, hgB, hh, rest⟩
  · exact Or.inl h3
  · refine Or.inr ⟨g, cap, cur, e, hgB, ?_, rest⟩
    rw [hg.block g (Array.getElem?_eq_some_iff.1 hh).1 (hne g (by rw [e]; rfl))]
    exact hh

theorem OwnGrid.growRow {T T1 : TypeId} {w w' : World} {B g n cap i : Nat} {L : List (List Int)} {rv rv2 : Value} {xs : List Int} (hT : T ≠ T1) (h : OwnGrid T T1 w B (.slice (some ⟨g, 0, none⟩) n cap) L) (hi : i < L.length) (hci : w.cell? ⟨g, i, none⟩ = some rv) (hg : w.grownBy w' rv.ownBlock) (hr : OwnRow T w' B rv2 xs)
    (hblk : ∀ k, rv2.ownBlock = some k → rv.ownBlock = some k ∨ w.heap.size ≤ k) :
    OwnGrid T T1 (w'.setCell ⟨g, i, none⟩ rv2) B (.slice (some ⟨g, 0, none⟩) n cap) (L.set i xs) := by
  obtain ⟨R, h2, h3, h4, h5⟩ := h
  rcases h3 with ⟨e, _⟩ | ⟨g', cap', cur, e, hgB, hh, l1, l2, hs, hc⟩
  · cases e
  · simp only [Value.slice.injEq, Option.some.injEq, Addr.mk.injEq, and_true] at e
    obtain ⟨rfl, rfl, rfl⟩ := e
    obtain ⟨hlt, _⟩ := Array.getElem?_eq_some_iff.1 hh
    have hRi : R i = rv := by
      have : w.cell? ⟨g, i, none⟩ = some (R i) := by rw [cell_of_row w g i cur _ _ hh]; exact hc i hi
      rw [hci] at this
      cases this; rfl
    have hgne : some g ≠ rv.ownBlock := by
      intro e
      obtain ⟨c2, hc2⟩ := (h4 i hi).blk (g := g) (by rw [hRi]; exact e.symm)
      rw [hh] at hc2
      simp at hc2
      exact hT hc2.2.symm
    have hh' : w'.heap[g]? = some (.cells cur T1 (0, 0)) := by rw [hg.block g hlt hgne]; exact hh
    have hne : ∀ u ys, OwnRow T w' B u ys → u.ownBlock ≠ some g := by
      intro u ys hu hub
      obtain ⟨c2, hc2⟩ := hu.blk hub
      rw [hh'] at hc2
      simp at hc2
      exact hT hc2.2.symm
    have hfar : ∀ j, j ≠ i → j < L.length → OwnRow T w' B (R j) (nthR L j) := by
      intro j hji hjl
      refine (h4 j hjl).far hg (fun k hk e => ?_)
      rw [← hRi] at e
      rcases Nat.lt_or_gt_of_ne hji with h7 | h7
      · exact h5 j i k h7 hi hk e.symm
      · exact h5 i j k h7 hjl e.symm hk
    have hlen : (L.set i xs).length = L.length := by simp
    have hnth : ∀ j, nthR (L.set i xs) j = if j = i then xs else nthR L j := by
      intro j
      unfold nthR
      by_cases e : j = i
      · subst e; simp [hi]
      · simp only [e, if_false]
        rw [List.getD_eq_getElem?_getD, List.getD_eq_getElem?_getD, List.getElem?_set_ne (by omega)]
    refine ⟨fun j => if j = i then rv2 else R j, by rw [hlen]; exact h2, Or.inr ⟨g, cap, cur.setIfInBounds i rv2, by rw [hlen], hgB, heap_setCell_same w' g i cur T1 rv2 hh', by rw [hlen]; exact l1, l2, by rw [Array.size_setIfInBounds]; exact hs, fun j hj => ?_⟩, fun j hj => ?_, fun p q k hpq hq hk => ?_⟩
    · rw [hlen] at hj
      rw [Array.getElem?_setIfInBounds]
      by_cases e : i = j
      · subst e
        rw [if_pos rfl, if_pos (by omega)]
        simp
      · rw [if_neg e, hc j hj]
        simp [show ¬ j = i from fun h => e h.symm]
    · rw [hlen] at hj
      rw [hnth j]
      by_cases e : j = i
      · simp only [e, if_true]
        exact hr.setCell (hne rv2 xs hr) _
      · simp only [e, if_false]
        have := hfar j e hj
        exact this.setCell (hne _ _ this) _
    · rw [hlen] at hq
      have fresh : ∀ j, j ≠ i → j < L.length → ∀ k, rv2.ownBlock = some k → (R j).ownBlock ≠ some k := by
        intro j hji hjl k hk2 hj2
        rcases hblk k hk2 with h6 | h6
        · rw [← hRi] at h6
          rcases Nat.lt_or_gt_of_ne hji with h7 | h7
          · exact h5 j i k h7 hi hj2 h6
          · exact h5 i j k h7 hjl h6 hj2
        · have := ((h4 j hjl).lt k hj2).2; omega
      simp only at hk ⊢
      by_cases e1 : p = i
      · have e2 : ¬ q = i := by omega
        simp only [e1, if_true] at hk
        simp only [e2, if_false]
        exact fresh q e2 hq k hk
      · simp only [e1, if_false] at hk
        by_cases e2 : q = i
        · simp only [e2, if_true]
          intro h8
          exact fresh p e1 (by omega) k h8 hk
        · simp only [e2, if_false]
          exact h5 p q k hpq hq hk

/-- A row of the graph in the box appended to. -/
theorem MidG.grow {w : World} {c nb b : Nat} {bv : Value} {w6 w7 : World} {g n cap : Nat} (h1 : BoxT 26 w6 b (.slice (some ⟨g, 0, none⟩) n cap)) {L : List (List Int)} (h2 : OwnGrid 2 33 w6 (w.heap.size + 1) (.slice (some ⟨g, 0, none⟩) n cap) L) (h3 : BoxAt w6 w.heap.size (.slice none 0 0)) (h4 : CurAt w6 c bv nb) (h5 : Touched c (c + 1) w w6)
    (hc : c < w.heap.size) {i : Nat} (hi : i < L.length) {rv : Value} {xs : List Int} {x : Int} (hci : w6.cell? ⟨g, i, none⟩ = some rv) (hfi : w6.frozen? ⟨g, i, none⟩ = false) (hrv : OwnRow 2 w6 (w.heap.size + 1) rv xs) (hx : I64 x) (hxl : xs.length ≤ 1000)
    {g7 m7 cap7 : Nat} (hown : w7.ownsRow (w.heap.size + 1) 2 1 (.slice (some ⟨g7, 0, none⟩) m7 cap7) m7 (xs.map (Value.int .i64) ++ [.int .i64 x])) (hgrow : (w6.alloc (.cells #[.int .i64 x] 2)).grownBy w7 rv.ownBlock) (hat : rv.ownBlock = some g7 ∨ g7 = w6.heap.size + 1) (hn : n ≤ 17) :
    w7.cell? ⟨b, 0, none⟩ = some (.slice (some ⟨g, 0, none⟩) n cap) ∧ w7.cell? ⟨g, i, none⟩ = some rv ∧ w7.frozen? ⟨g, i, none⟩ = false ∧ MidG w c bv nb b (w7.setCell ⟨g, i, none⟩ (.slice (some ⟨g7, 0, none⟩) m7 cap7)) := by
  have hal : Below w6.heap.size w6 (w6.alloc (.cells #[.int .i64 x] 2)) := (Below.refl _ _).alloc (Nat.le_refl _) _
  obtain ⟨cur, hcur⟩ := h2.blkT
  have hgs : g < w6.heap.size := (Array.getElem?_eq_some_iff.1 hcur).1
  have hbs := h1.lt
  have hgne : g ≠ b := by
    intro e
    rw [e] at hcur
    have hbb : w6.heap[b]? = _ := h1
    rw [hcur] at hbb
    simp at hbb
  have nb1 : some b ≠ rv.ownBlock := by
    intro e
    obtain ⟨c2, hc2⟩ := hrv.blk e.symm
    have hbb : w6.heap[b]? = _ := h1
    rw [hc2] at hbb
    simp at hbb
  have ng1 : some g ≠ rv.ownBlock := by
    intro e
    obtain ⟨c2, hc2⟩ := hrv.blk e.symm
    rw [hcur] at hc2
    simp at hc2
  have nl : ∀ j, j ≤ w.heap.size → some j ≠ rv.ownBlock := fun j hj e => by have := (hrv.lt j e.symm).1; omega
  have same : ∀ j, j < w6.heap.size → some j ≠ rv.ownBlock → w7.heap[j]? = w6.heap[j]? := fun j hj hne => (hgrow.block j (by rw [size_alloc1]; omega) hne).trans (hal.block j hj)
  have hws : w.heap.size < w6.heap.size := h3.lt
  have bt7 : BoxT 26 w7 b (.slice (some ⟨g, 0, none⟩) n cap) := by unfold BoxT; rw [same b hbs nb1]; exact h1
  have hro : OwnRow 2 w7 (w.heap.size + 1) (.slice (some ⟨g7, 0, none⟩) m7 cap7) (xs ++ [x]) := OwnRow.of_ownsRow (n := m7) (by simpa using hown) (by simp; unfold maxLen; omega) (by intro y hy; rcases List.mem_append.1 hy with h | h; exact hrv.1 y h; simp at h; subst h; exact hx)
  refine ⟨bt7.box.1, by rw [World.cell?_of_block (w := w6) (same g hgs ng1)]; exact hci, by rw [World.frozen?_of_block (w := w6) (same g hgs ng1)]; exact hfi, L.set i (xs ++ [x]), n, _, cap, bt7.setOther (by simp; omega) _, ?_, ?_, ?_, ?_, hn⟩
  · refine OwnGrid.growRow (by decide) (h2.keep hal) hi (by rw [hal.cell hgs]; exact hci) hgrow hro (fun k hk => ?_)
    have : k = g7 := by simpa [Value.ownBlock] using hk.symm
    subst this
    rcases hat with h | h
    · exact Or.inl h
    · right; rw [size_alloc1]; omega
  · refine BoxAt.setOther ?_ (by simp; have := (h2.place (by omega)); obtain ⟨g', _, eg, hBg, _⟩ := this; simp only [Value.slice.injEq, Option.some.injEq, Addr.mk.injEq, and_true] at eg; obtain ⟨rfl, _⟩ := eg; omega) _
    exact ⟨by rw [World.cell?_of_block (w := w6) (same _ hws (nl _ (Nat.le_refl _)))]; exact h3.1, by rw [World.frozen?_of_block (w := w6) (same _ hws (nl _ (Nat.le_refl _)))]; exact h3.2⟩
  · have hBg : w.heap.size + 1 ≤ g := by obtain ⟨g', _, eg, hBg, _⟩ := h2.place (by omega); simp only [Value.slice.injEq, Option.some.injEq, Addr.mk.injEq, and_true] at eg; obtain ⟨rfl, _⟩ := eg; exact hBg
    obtain ⟨i4, k4, hi4, hh4⟩ := h4
    exact CurAt.setOther ⟨i4, k4, hi4, by rw [same c (by omega) (nl c (by omega))]; exact hh4⟩ (by simp; omega) _
  · have hBg : w.heap.size + 1 ≤ g := by obtain ⟨g', _, eg, hBg, _⟩ := h2.place (by omega); simp only [Value.slice.injEq, Option.some.injEq, Addr.mk.injEq, and_true] at eg; obtain ⟨rfl, _⟩ := eg; exact hBg
    refine Touched.set ⟨?_, ?_, ?_, ?_, ?_⟩ (by simp; omega) _
    · exact (hgrow.os.trans hal.os).trans h5.os
    · exact (hgrow.tape.trans hal.tape).trans h5.tape
    · exact (hgrow.output.trans hal.output).trans h5.output
    · have := hgrow.size; rw [size_alloc1] at this; have := h5.size; omega
    · intro j hj hj2
      rw [same j (by omega) (nl j (by omega))]
      exact h5.other j hj hj2

end Go.Proofs.YtohjfcfcopbmoaaGreatDoor
