/- The texts J5, J6, J7, joined. -/
import Derived.Test.YtjbfoiolcpigfaaDoorQJ3

/- Walks: paths and loops, as the draws make them. -/
namespace Go.Proofs.YtjbfoiolcpigfaaDoor
open Go.RowKit

theorem Midst.linkRaw {w : World} {c nb n b : Nat} {bv : Value} {wr : World} (h : Midst w c bv nb n b wr) (hc : c < w.heap.size) (hb : w.heap.size < b) (hn : n ≤ 16) (x y : Nat) (hx : x < n) (hy : y < n) (hxy : x ≠ y) :
    ∃ a cap, wr.cell? ⟨b, 0, none⟩ = some (.slice a n cap) ∧
      Calls Tryd.prog 117 #[.agg #[.slice a n cap], .int .i64 (x : Int), .int .i64 (y : Int)] wr (fun e w' => e = .returned (.agg #[.slice a n cap]) ∧ w'.cell? ⟨b, 0, none⟩ = some (.slice a n cap) ∧ Midst w c bv nb n b w') := by
  obtain ⟨M, a, cap, h1, h2, h3, h4, h5⟩ := h
  obtain ⟨g, cap', eg, hBg, hgs, hcell⟩ := h2.place (by rw [maskL_len]; omega)
  rw [maskL_len] at eg
  simp only [Value.slice.injEq, true_and] at eg
  obtain ⟨rfl, rfl⟩ := eg
  have hgne : g ≠ b := by
    obtain ⟨cur, hcur⟩ := h2.blkT
    intro e
    rw [e] at hcur
    have hbb : wr.heap[b]? = _ := h1
    rw [hcur] at hbb
    simp at hbb
  refine ⟨_, _, h1.box.1, ?_⟩
  have hlk := l1Link_own x y g cap (w.heap.size + 1) (maskL n M) wr (by rw [maskL_len]; exact h2) (by have := h1.lt; omega) (by rw [maskL_len]; exact hx) (by rw [maskL_len]; exact hy) (by rw [maskL_len]; exact hn) hxy (M x) (M y) (maskL_nth _ hx) (maskL_nth _ hy)
  rw [maskL_len, maskL_link _ _ _ _ hxy] at hlk
  refine hlk.mono ?_
  rintro e w6 ⟨rfl, ho6, hb6, ht6⟩
  have bt6 : BoxT 29 w6 b (.slice (some ⟨g, 0, none⟩) n cap) := by
    unfold BoxT
    rw [ht6 _ h1.lt (fun e => hgne e.symm)]
    exact h1
  exact ⟨rfl, bt6.box.1, linkM M x y, _, cap, bt6, ho6, h3.keepB hb6 (by omega), h4.keepB hb6 (by omega), h5.under hb6 (by omega)⟩

/-- .. a graph and the word that it is one. -/
def DrewP (w : World) (c : Nat) (bv : Value) (nb n : Nat) (e : Ending) (w' : World) : Prop :=
  ∃ M a cap, e = .returned (.tuple #[.agg #[.slice a n cap], .bool true]) ∧ OwnGrid 2 36 w' w.heap.size (.slice a n cap) (maskL n M) ∧ CurAt w' c bv nb ∧ Touched c (c + 1) w w'
theorem DrewM.pair {w w' : World} {c nb n : Nat} {bv : Value} {a : Option Addr} {cap : Nat} (h : DrewM w c bv nb (.returned (.agg #[.slice a n cap])) w') : DrewP w c bv nb n (.returned (.tuple #[.agg #[.slice a n cap], .bool true])) w' := by
  obtain ⟨n', M, a', cap', _, _, e, ho, hc, ht⟩ := h
  simp only [Ending.returned.injEq, Value.agg.injEq, Array.mk.injEq, List.cons.injEq, Value.slice.injEq, and_true] at e
  obtain ⟨rfl, rfl, rfl⟩ := e
  exact ⟨M, _, _, rfl, ho, hc, ht⟩

theorem l6Of_any (n : Nat) (w : World) (hn1 : 1 ≤ n) (hn : n ≤ 16) : Calls Tryd.prog 150 #[.int .i64 (n : Int)] w (fun e w' => ∃ a cap, e = .returned (.tuple #[.agg #[.slice a n cap], .bool true]) ∧ OwnGrid 2 36 w' w.heap.size (.slice a n cap) (maskL n (fun _ => 0)) ∧ Below w.heap.size w w') := by
  have hin : inB (n : Int) 1 16 = true := by simp [inB]; omega
  have HI := Lib.hid hin
  have HB0 : Hid (Below w.heap.size w (w.alloc (.cells #[.slice none 0 0] 29))) := (Below.refl _ _).alloc (Nat.le_refl _) _
  have HBX0 : Hid (BoxAt (w.alloc (.cells #[.slice none 0 0] 29)) w.heap.size (.slice none 0 0)) := BoxAt.new _ _ _
  clear hin
  go_enter Tryd.func150, Tryd.ntmps150
  go_wp2_with fail
  refine (l1In_any _ _ _ _).mono ?_
  rintro e w' ⟨rfl, rfl⟩
  rw [HI.out]
  go_wp2_with fail
  refine (l1Empty_any n _ (by omega)).mono ?_
  rintro e w2 ⟨n2, a2, c2, rfl, ho2, hb2⟩
  obtain rfl : n2 = n := by
    obtain ⟨a3, c3, e3⟩ := ho2.grid.slice
    simp only [Value.slice.injEq] at e3
    simpa using e3.2.1
  rw [maskL_zero n2 [], size_alloc1] at ho2
  have hbx := HBX0.out.keep hb2
  have hbc := hbx.1
  have hbf := hbx.2
  have HQ : Hid ((w2.setCell ⟨w.heap.size, 0, none⟩ (.slice a2 n2 c2)).cell? ⟨w.heap.size, 0, none⟩ = some (.slice a2 n2 c2)) := cell_set_same _ hbx.1
  have HO := Lib.hid ho2
  have HB : Hid (Below w.heap.size w w2) := HB0.out.trans (hb2.mono HB0.out.size)
  clear hbx ho2 hb2
  go_wp2
  refine bodyPost_ret (v := .tuple #[.agg #[.slice a2 n2 c2], .bool true]) (by simp [results, Tryd.results150, go_sem, HQ.out]) rfl ⟨a2, c2, rfl, ?_, HB.out.setCell (Nat.le_refl _) _⟩
  exact (HO.out.setBelow (by simp) _).mono (by omega)

set_option maxHeartbeats 1600000 in
theorem pathGraph_any (c nb n : Nat) (bv : Value) (w : World) (hc : CurAt w c bv nb) (hn1 : 1 ≤ n) (hn : n ≤ 16) : Calls Tryd.prog 145 #[.int .i64 (n : Int)] w (DrewP w c bv nb n) := by
  have hcw := hc.lt
  have HC := Lib.hid hc
  have HB0 : Hid (Below w.heap.size w (w.alloc (.cells #[.slice none 0 0] 29))) := (Below.refl _ _).alloc (Nat.le_refl _) _
  have HBX0 : Hid (BoxAt (w.alloc (.cells #[.slice none 0 0] 29)) w.heap.size (.slice none 0 0)) := BoxAt.new _ _ _
  clear hc
  go_enter Tryd.func145, Tryd.ntmps145
  go_wp2_with fail
  refine (l6Of_any n _ hn1 hn).mono ?_
  rintro e w2 ⟨a2, c2, rfl, ho2, hb2⟩
  rw [size_alloc1] at ho2
  have hs2 : w.heap.size + 1 ≤ w2.heap.size := by have := hb2.size; rw [size_alloc1] at this; exact this
  have hbl2 : Below w.heap.size w w2 := HB0.out.trans (hb2.mono HB0.out.size)
  have hst : Below w2.heap.size w2 (w2.alloc (.cells #[.slice a2 n c2] 29)) := (Below.refl _ _).alloc (Nat.le_refl _) _
  have hmid : Midst w c bv nb n w2.heap.size (w2.alloc (.cells #[.slice a2 n c2] 29)) :=
    ⟨_, a2, c2, BoxT.new _ _ _, ho2.keep hst, (HBX0.out.keep hb2).keep hst, (HC.out.keepB hbl2 hcw).keepB hst (by omega), Touched.ofBelow (hbl2.trans (hst.mono (by omega)))⟩
  have HM := Lib.hid hmid
  clear ho2 hb2 hbl2 hst hmid
  go_wp2_with fail
  go_loopw [6] (fun i wr => ∃ k : Nat, 1 ≤ k ∧ k ≤ n ∧ i = .int .i64 k ∧ Midst w c bv nb n w2.heap.size wr) (fun i _ => n - (intOf i).toNat)
  case atStart => exact ⟨1, Nat.le_refl _, hn1, rfl, HM.out⟩
  case round =>
    obtain ⟨k, hk1, hk, rfl, hmid⟩ := hrel
    have HM4 := Lib.hid hmid
    clear hmid
    by_cases hlt : k < n
    · have dk : decide ((k : Int) < (n : Int)) = true := by simpa using hlt
      obtain ⟨k', rfl⟩ : ∃ k', k = k' + 1 := ⟨k - 1, by omega⟩
      obtain ⟨a6, cap6, kb6, hlk⟩ := HM4.out.link hcw (by omega) hn k' (k' + 1) (by omega) hlt (by omega)
      have HLK := Lib.hid hlk
      clear hlk
      go_wp2_with fail
      have eK : (((k' + 1 : Nat) : Int) - 1) = (k' : Int) := by omega
      first
        | refine HLK.out.mono ?_
        | (simp only [eK]; refine HLK.out.mono ?_)
      rintro e w7 ⟨rfl, kb7, kf7, hm7⟩
      have HM7 := Lib.hid hm7
      clear hm7
      go_wp2
      go_roundw
      case rel => exact ⟨k' + 1 + 1, by omega, by omega, by go_num, HM7.out⟩
      case measure => simp [intOf]; omega
    · obtain rfl : k = n := by omega
      obtain ⟨a8, cap8, kb8, k08, f08, q08, hp8⟩ := HM4.out.done hcw hn1 hn
      have HP := Lib.hid hp8.pair
      have HQ := Lib.hid q08
      clear hp8 q08
      go_wp2
      exact bodyPost_ret (v := .tuple #[.agg #[.slice a8 k cap8], .bool true]) (by simp [results, Tryd.results145, go_sem, HQ.out]) rfl HP.out

end Go.Proofs.YtjbfoiolcpigfaaDoor

/- Walks: l1Draw. -/
namespace Go.Proofs.YtjbfoiolcpigfaaDoor
open Go.RowKit

set_option maxHeartbeats 1600000 in
theorem loopGraph_any (c nb n : Nat) (bv : Value) (w : World) (hc : CurAt w c bv nb) (hn1 : 3 ≤ n) (hn : n ≤ 16) : Calls Tryd.prog 144 #[.int .i64 (n : Int)] w (DrewP w c bv nb n) := by
  have hcw := hc.lt
  have HC := Lib.hid hc
  have HB0 : Hid (Below w.heap.size w (w.alloc (.cells #[.slice none 0 0] 29))) := (Below.refl _ _).alloc (Nat.le_refl _) _
  have HBX0 : Hid (BoxAt (w.alloc (.cells #[.slice none 0 0] 29)) w.heap.size (.slice none 0 0)) := BoxAt.new _ _ _
  clear hc
  go_enter Tryd.func144, Tryd.ntmps144
  go_wp2_with fail
  refine (pathGraph_any c nb n bv _ (HC.out.keepB HB0.out hcw) (by omega) hn).mono ?_
  rintro e w2 ⟨M2, a2, c2, rfl, ho2, hc2, ht2⟩
  rw [size_alloc1] at ho2
  have hs2 : w.heap.size + 1 ≤ w2.heap.size := by have := ht2.size; rw [size_alloc1] at this; exact this
  have ht : Touched c (c + 1) w w2 := (Touched.ofBelow HB0.out).trans ht2
  have hst : Below w2.heap.size w2 (w2.alloc (.cells #[.slice a2 n c2] 29)) := (Below.refl _ _).alloc (Nat.le_refl _) _
  have hbx2 : BoxAt w2 w.heap.size (.slice none 0 0) := by
    have hq : w2.heap[w.heap.size]? = (w.alloc (.cells #[.slice none 0 0] 29)).heap[w.heap.size]? := ht2.other _ (by simp) (by omega)
    exact ⟨by rw [World.cell?_of_block (w := w.alloc (.cells #[.slice none 0 0] 29)) hq]; exact HBX0.out.1, by rw [World.frozen?_of_block (w := w.alloc (.cells #[.slice none 0 0] 29)) hq]; exact HBX0.out.2⟩
  have hmid : Midst w c bv nb n w2.heap.size (w2.alloc (.cells #[.slice a2 n c2] 29)) :=
    ⟨M2, a2, c2, BoxT.new _ _ _, ho2.keep hst, hbx2.keep hst, hc2.keepB hst (by omega), ht.under hst (by omega)⟩
  have HM := Lib.hid hmid
  have d3 : decide ((n : Int) < 3) = false := by simp; omega
  obtain ⟨a6, cap6, kb6, hlk⟩ := hmid.linkRaw hcw (by omega) hn 0 (n - 1) (by omega) (by omega) (by omega)
  have kb5 := (BoxT.new w2 (.slice a2 n c2) 29).box.1
  rw [kb5] at kb6
  simp only [Option.some.injEq, Value.slice.injEq, true_and] at kb6
  obtain ⟨rfl, rfl⟩ := kb6
  have en : ((n - 1 : Nat) : Int) = (n : Int) - 1 := by omega
  rw [en] at hlk
  have HLK := Lib.hid hlk
  clear ho2 hc2 ht2 ht hst hbx2 hmid hlk kb5 en
  go_wp2_with fail
  refine HLK.out.mono ?_
  rintro e w7 ⟨rfl, kb7, hm7⟩
  obtain ⟨a8, cap8, kb8, k08, f08, q08, hp8⟩ := hm7.done hcw (by omega) hn
  rw [kb7] at kb8
  simp only [Option.some.injEq, Value.slice.injEq, true_and] at kb8
  obtain ⟨rfl, rfl⟩ := kb8
  have HP := Lib.hid hp8.pair
  have HQ := Lib.hid q08
  clear hp8 q08 hm7 HLK HM
  go_wp2
  exact bodyPost_ret (v := .tuple #[.agg #[.slice _ n _], .bool true]) (by simp [results, Tryd.results144, go_sem, HQ.out]) rfl HP.out

end Go.Proofs.YtjbfoiolcpigfaaDoor

/- Walks: l1Draw. -/
namespace Go.Proofs.YtjbfoiolcpigfaaDoor
open Go.RowKit

theorem CurAt.setOther {w : World} {c n : Nat} {bv : Value} (h : CurAt w c bv n) {a : Addr} (ha : c ≠ a.block) (u : Value) : CurAt (w.setCell a u) c bv n := by
  obtain ⟨i, k, hi, hh⟩ := h
  exact ⟨i, k, hi, by rw [heap_setCell_other _ _ _ _ ha]; exact hh⟩
theorem Touched.set {c : Nat} {w w' : World} (h : Touched c (c + 1) w w') {a : Addr} (ha : w.heap.size ≤ a.block) (u : Value) : Touched c (c + 1) w (w'.setCell a u) :=
  ⟨h.os, h.tape, h.output, by rw [size_setCell1]; exact h.size, fun j hj hj2 => by rw [heap_setCell_other _ _ _ _ (by omega)]; exact h.other j hj hj2⟩
theorem BoxAt.touched {c b : Nat} {w w' : World} {v : Value} (h : BoxAt w b v) (ht : Touched c (c + 1) w w') (hb : b ≠ c) (hlt : b < w.heap.size) : BoxAt w' b v := by
  have hq := ht.other b hlt (by omega)
  exact ⟨by rw [World.cell?_of_block (w := w) hq]; exact h.1, by rw [World.frozen?_of_block (w := w) hq]; exact h.2⟩

theorem DrewM.mk {w w' : World} {c nb n B : Nat} {bv : Value} {M : Nat → Nat} {a : Option Addr} {cap : Nat} (hcw : c < w.heap.size) (hn1 : 1 ≤ n) (hn : n ≤ 16) (ho : OwnGrid 2 36 w' B (.slice a n cap) (maskL n M)) (hB : w.heap.size < B) (hc : CurAt w' c bv nb) (ht : Touched c (c + 1) w w') :
    DrewM w c bv nb (.returned (.agg #[.slice a n cap])) (w'.setCell ⟨w.heap.size, 0, none⟩ (.slice a n cap)) :=
  ⟨n, M, a, cap, hn1, hn, rfl, (ho.setBelow (by simpa using hB) _).mono (by omega), hc.setOther (by simp; omega) _, ht.set (by simp) _⟩

set_option maxHeartbeats 1600000 in
theorem l1Draw_any (c nb : Nat) (bv : Value) (w : World) (hc : CurAt w c bv nb) (hb : BytesAt w c bv nb) : Calls Tryd.prog 132 #[.pointer (some ⟨c, 0, none⟩)] w (DrewM w c bv nb) := by
  have hcw := hc.lt
  have hb0 : Below w.heap.size w (w.alloc (.cells #[.slice none 0 0] 29)) := (Below.refl _ _).alloc (Nat.le_refl _) _
  have hbx0 : BoxAt (w.alloc (.cells #[.slice none 0 0] 29)) w.heap.size (.slice none 0 0) := BoxAt.new _ _ _
  have HBY := Lib.hid hb
  have HC0 := Lib.hid (hc.keepB hb0 hcw)
  have HBY0 := Lib.hid (hb.keepB hb0 (Nat.le_of_lt hcw))
  have HB0 := Lib.hid hb0
  have HBX0 := Lib.hid hbx0
  clear hc hb hb0 hbx0
  go_enter Tryd.func132, Tryd.ntmps132
  go_wp2_with fail
  refine (l1Below_any c nb bv _ _ HC0.out HBY0.out (by unfold I64; omega)).mono ?_
  rintro e w1 ⟨x, rfl, hx, hc1, ho1⟩
  have HT1 : Hid (Touched c (c + 1) w w1) := (Touched.ofBelow HB0.out).only ho1
  have HX1 : Hid (BoxAt w1 w.heap.size (.slice none 0 0)) := HBX0.out.only ho1 (by omega)
  have hs1 : w1.heap.size = w.heap.size + 1 := by rw [ho1.size, size_alloc1]
  have HC1 := Lib.hid hc1
  have HBY1 := Lib.hid (HT1.out.bytes HBY.out (Nat.le_of_lt hcw))
  clear hx hc1 ho1 HC0 HBY0 HB0 HBX0
  have tail : ∀ (w4 : World) (n : Nat) (M : Nat → Nat) (a : Option Addr) (cap B : Nat), 1 ≤ n → n ≤ 16 → OwnGrid 2 36 w4 B (.slice a n cap) (maskL n M) → w.heap.size < B → CurAt w4 c bv nb → Touched c (c + 1) w w4 → BoxAt w4 w.heap.size (.slice none 0 0) →
      DrewM w c bv nb (.returned (.agg #[.slice a n cap])) (w4.setCell ⟨w.heap.size, 0, none⟩ (.slice a n cap)) := fun w4 n M a cap B h1 h2 h3 h4 h5 h6 _ => DrewM.mk hcw h1 h2 h3 h4 h5 h6
  have TAIL := Lib.hid tail
  clear tail
  by_cases e0 : x = 0
  · subst e0
    go_wp2_with fail
    refine (l1Below_any c nb bv _ _ HC1.out HBY1.out (by unfold I64; omega)).mono ?_
    rintro e w2 ⟨y, rfl, hy, hc2, ho2⟩
    have hy' := hy.2 (by omega)
    obtain ⟨y', rfl⟩ : ∃ y' : Nat, y = (y' : Int) := ⟨y.toNat, by omega⟩
    have hy4 : y' < 4 := by omega
    have HT2 := Lib.hid (HT1.out.only ho2)
    have HX2 := Lib.hid (HX1.out.only ho2 (by omega))
    have HC2 := Lib.hid hc2
    have hs2 : w2.heap.size = w.heap.size + 1 := by rw [ho2.size, hs1]
    clear hy hy' hc2 ho2
    have hlp := loopGraph_any c nb (3 + y') bv w2 HC2.out (by omega) (by omega)
    have e3 : ((3 + y' : Nat) : Int) = 3 + (y' : Int) := by omega
    rw [e3] at hlp
    have HLP := Lib.hid hlp
    clear hlp e3
    go_wp2_with fail
    refine HLP.out.mono ?_
    rintro e w4 ⟨M4, a4, cap4, rfl, ho4, hc4, ht4⟩
    have hst : Below w4.heap.size w4 (w4.alloc (.cells #[.slice a4 (3 + y') cap4] 29)) := (Below.refl _ _).alloc (Nat.le_refl _) _
    have hx4 := ((HX2.out.touched ht4 (by omega) (by omega)).keep hst)
    have hxc := hx4.1
    have hxf := hx4.2
    have HT4 := Lib.hid ((HT2.out.trans ht4).under hst (by have := (HT2.out.trans ht4).size; exact this))
    have HP := Lib.hid (TAIL.out _ (3 + y') M4 a4 cap4 w2.heap.size (by omega) (by omega) (ho4.keep hst) (by omega) (hc4.keepB hst hc4.lt) HT4.out hx4)
    have HQ := Lib.hid (cell_set_same (.slice a4 (3 + y') cap4) hx4.1)
    clear hst hx4 ho4 hc4 ht4
    go_wp2
    exact bodyPost_ret (v := .agg #[.slice a4 (3 + y') cap4]) (by simp [results, Tryd.results132, go_sem, HQ.out]) rfl HP.out
  · have d0 : (x == 0) = false := by rw [beq_eq_false_iff_ne]; exact e0
    by_cases e1 : x = 1
    · subst e1
      go_wp2_with fail
      refine (l1Below_any c nb bv _ _ HC1.out HBY1.out (by unfold I64; omega)).mono ?_
      rintro e w2 ⟨y, rfl, hy, hc2, ho2⟩
      have hy' := hy.2 (by omega)
      obtain ⟨y', rfl⟩ : ∃ y' : Nat, y = (y' : Int) := ⟨y.toNat, by omega⟩
      have hy4 : y' < 6 := by omega
      have HT2 := Lib.hid (HT1.out.only ho2)
      have HX2 := Lib.hid (HX1.out.only ho2 (by omega))
      have HC2 := Lib.hid hc2
      have hs2 : w2.heap.size = w.heap.size + 1 := by rw [ho2.size, hs1]
      clear hy hy' hc2 ho2
      have hlp := pathGraph_any c nb (1 + y') bv w2 HC2.out (by omega) (by omega)
      have e3 : ((1 + y' : Nat) : Int) = 1 + (y' : Int) := by omega
      rw [e3] at hlp
      have HLP := Lib.hid hlp
      clear hlp e3
      go_wp2_with fail
      refine HLP.out.mono ?_
      rintro e w4 ⟨M4, a4, cap4, rfl, ho4, hc4, ht4⟩
      have hst : Below w4.heap.size w4 (w4.alloc (.cells #[.slice a4 (1 + y') cap4] 29)) := (Below.refl _ _).alloc (Nat.le_refl _) _
      have hx4 := ((HX2.out.touched ht4 (by omega) (by omega)).keep hst)
      have hxc := hx4.1
      have hxf := hx4.2
      have HT4 := Lib.hid ((HT2.out.trans ht4).under hst (by have := (HT2.out.trans ht4).size; exact this))
      have HP := Lib.hid (TAIL.out _ (1 + y') M4 a4 cap4 w2.heap.size (by omega) (by omega) (ho4.keep hst) (by omega) (hc4.keepB hst hc4.lt) HT4.out hx4)
      have HQ := Lib.hid (cell_set_same (.slice a4 (1 + y') cap4) hx4.1)
      clear hst hx4 ho4 hc4 ht4
      go_wp2
      exact bodyPost_ret (v := .agg #[.slice a4 (1 + y') cap4]) (by simp [results, Tryd.results132, go_sem, HQ.out]) rfl HP.out
    · have d1 : (x == 1) = false := by rw [beq_eq_false_iff_ne]; exact e1
      go_wp2_with fail
      refine (l1Below_any c nb bv _ _ HC1.out HBY1.out (by unfold I64; omega)).mono ?_
      rintro e w2 ⟨y, rfl, hy, hc2, ho2⟩
      have hy' := hy.2 (by omega)
      obtain ⟨y', rfl⟩ : ∃ y' : Nat, y = (y' : Int) := ⟨y.toNat, by omega⟩
      have hy4 : y' < 7 := by omega
      have HT2 := Lib.hid (HT1.out.only ho2)
      have HX2 := Lib.hid (HX1.out.only ho2 (by omega))
      have HC2 := Lib.hid hc2
      have hs2 : w2.heap.size = w.heap.size + 1 := by rw [ho2.size, hs1]
      clear hy hy' hc2 ho2
      have hlp := l1DrawOf_any c nb (1 + y') bv w2 HC2.out (HT2.out.bytes HBY.out (Nat.le_of_lt hcw)) (by omega) (by omega)
      have e3 : ((1 + y' : Nat) : Int) = 1 + (y' : Int) := by omega
      rw [e3] at hlp
      have HLP := Lib.hid hlp
      clear hlp e3
      go_wp2_with fail
      refine HLP.out.mono ?_
      rintro e w4 ⟨n4, M4, a4, cap4, hn41, hn42, rfl, ho4, hc4, ht4⟩
      have hx4 := HX2.out.touched ht4 (by omega) (by omega)
      have hxc := hx4.1
      have hxf := hx4.2
      have HP := Lib.hid (TAIL.out _ n4 M4 a4 cap4 w2.heap.size hn41 hn42 ho4 (by omega) hc4 (HT2.out.trans ht4) hx4)
      have HQ := Lib.hid (cell_set_same (.slice a4 n4 cap4) hx4.1)
      clear hx4 ho4 hc4 ht4
      go_wp2
      exact bodyPost_ret (v := .agg #[.slice a4 n4 cap4]) (by simp [results, Tryd.results132, go_sem, HQ.out]) rfl HP.out

end Go.Proofs.YtjbfoiolcpigfaaDoor
