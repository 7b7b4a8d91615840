/- The texts J3, J4, joined. -/
import Derived.Test.YtjbfoiolcpigfaaDoorQJ1

/- Walks: a graph by dice. -/
namespace Go.Proofs.YtjbfoiolcpigfaaDoor
open Go.RowKit

theorem Touched.under {c B : Nat} {w a b : World} (h : Touched c (c + 1) w a) (hb : Below B a b) (hB : w.heap.size ≤ B) : Touched c (c + 1) w b :=
  ⟨hb.os.trans h.os, hb.tape.trans h.tape, hb.output.trans h.output, Nat.le_trans h.size hb.size, fun j h1 h2 => (hb.block j (by omega)).trans (h.other j h1 h2)⟩
theorem Touched.only {c : Nat} {w a b : World} (h : Touched c (c + 1) w a) (ho : OnlyBlk c a b) : Touched c (c + 1) w b := h.trans (ho.touched (Nat.le_refl _) (by omega))
theorem Touched.bytes {c n : Nat} {w a : World} {bv : Value} (h : Touched c (c + 1) w a) (hb : BytesAt w c bv n) (hc : c ≤ w.heap.size) : BytesAt a c bv n := hb.keepB (h.below hc) (Nat.le_refl _)
theorem BoxT.only {T : TypeId} {c b : Nat} {w w' : World} {v : Value} (h : BoxT T w b v) (ho : OnlyBlk c w w') (hb : b ≠ c) : BoxT T w' b v := by unfold BoxT; rw [ho.other b hb]; exact h
theorem BoxAt.only {c b : Nat} {w w' : World} {v : Value} (h : BoxAt w b v) (ho : OnlyBlk c w w') (hb : b ≠ c) : BoxAt w' b v :=
  ⟨by rw [World.cell?_of_block (w := w) (ho.other b hb)]; exact h.1, by rw [World.frozen?_of_block (w := w) (ho.other b hb)]; exact h.2⟩

/-- In the midst of a draw: box b holds a graph of masks of one's own, box w.heap.size nothing, block c the cursor. -/
def Midst (w : World) (c : Nat) (bv : Value) (nb n b : Nat) (wr : World) : Prop :=
  ∃ M a cap, BoxT 29 wr b (.slice a n cap) ∧ OwnGrid 2 36 wr (w.heap.size + 1) (.slice a n cap) (maskL n M) ∧ BoxAt wr w.heap.size (.slice none 0 0) ∧ CurAt wr c bv nb ∧ Touched c (c + 1) w wr
theorem Midst.only {w : World} {c nb n b : Nat} {bv : Value} {wr w1 : World} (h : Midst w c bv nb n b wr) (hc : c < w.heap.size) (hb : w.heap.size < b) (ho : OnlyBlk c wr w1) (hcur : CurAt w1 c bv nb) : Midst w c bv nb n b w1 := by
  obtain ⟨M, a, cap, h1, h2, h3, _, h5⟩ := h
  exact ⟨M, a, cap, h1.only ho (by omega), h2.touched (ho.touched (Nat.le_refl _) (Nat.lt_succ_self c)) (by omega), h3.only ho (by omega), hcur, h5.only ho⟩

/-- Two vertices joined in the midst of a draw: the call of l1Link, and the store of what it gives. -/
theorem Midst.link {w : World} {c nb n b : Nat} {bv : Value} {wr : World} (h : Midst w c bv nb n b wr) (hc : c < w.heap.size) (hb : w.heap.size < b) (hn : n ≤ 16) (x y : Nat) (hx : x < n) (hy : y < n) (hxy : x ≠ y) :
    ∃ a cap, wr.cell? ⟨b, 0, none⟩ = some (.slice a n cap) ∧
      Calls Tryd.prog 117 #[.agg #[.slice a n cap], .int .i64 (x : Int), .int .i64 (y : Int)] wr (fun e w' => e = .returned (.agg #[.slice a n cap]) ∧ w'.cell? ⟨b, 0, none⟩ = some (.slice a n cap) ∧ w'.frozen? ⟨b, 0, none⟩ = false ∧ Midst w c bv nb n b (w'.setCell ⟨b, 0, none⟩ (.slice a n cap))) := by
  obtain ⟨M, a, cap, h1, h2, h3, h4, h5⟩ := h
  obtain ⟨g, cap', eg, hBg, hgs, hcell⟩ := h2.place (by rw [maskL_len]; omega)
  rw [maskL_len] at eg
  simp only [Value.slice.injEq, true_and] at eg
  obtain ⟨rfl, rfl⟩ := eg
  have hgne : g ≠ b := by
    obtain ⟨cur, hcur⟩ := h2.blkT
    intro e
    rw [e] at hcur
    have hbb : wr.heap[b]? = _ := h1
    rw [hcur] at hbb
    simp at hbb
  refine ⟨_, _, h1.box.1, ?_⟩
  have hlk := l1Link_own x y g cap (w.heap.size + 1) (maskL n M) wr (by rw [maskL_len]; exact h2) (by have := h1.lt; omega) (by rw [maskL_len]; exact hx) (by rw [maskL_len]; exact hy) (by rw [maskL_len]; exact hn) hxy (M x) (M y) (maskL_nth _ hx) (maskL_nth _ hy)
  rw [maskL_len, maskL_link _ _ _ _ hxy] at hlk
  refine hlk.mono ?_
  rintro e w6 ⟨rfl, ho6, hb6, ht6⟩
  have bt6 : BoxT 29 w6 b (.slice (some ⟨g, 0, none⟩) n cap) := by
    unfold BoxT
    rw [ht6 _ h1.lt (fun e => hgne e.symm)]
    exact h1
  refine ⟨rfl, bt6.box.1, bt6.box.2, linkM M x y, _, cap, bt6.set _, ho6.setType bt6 (by decide) (by decide) 0 _, (h3.keepB hb6 (by omega)).setOther (by simp; omega) _, ?_, ?_⟩
  · have := h4.keepB hb6 (by omega)
    obtain ⟨i, k, hi, hh⟩ := this
    exact ⟨i, k, hi, by rw [heap_setCell_other _ _ _ _ (by simp; omega)]; exact hh⟩
  · have := h5.under hb6 (by omega)
    refine ⟨this.os, this.tape, this.output, by rw [size_setCell1]; exact this.size, fun j hj hj2 => ?_⟩
    rw [heap_setCell_other _ _ _ _ (by simp; omega)]
    exact this.other j hj hj2

/-- A graph of masks of the call's own has been drawn. -/
def DrewM (w : World) (c : Nat) (bv : Value) (nb : Nat) (e : Ending) (w' : World) : Prop :=
  ∃ n M a cap, 1 ≤ n ∧ n ≤ 16 ∧ e = .returned (.agg #[.slice a n cap]) ∧ OwnGrid 2 36 w' w.heap.size (.slice a n cap) (maskL n M) ∧ CurAt w' c bv nb ∧ Touched c (c + 1) w w'
theorem Midst.done {w : World} {c nb n b : Nat} {bv : Value} {wr : World} (h : Midst w c bv nb n b wr) (hc : c < w.heap.size) (hn1 : 1 ≤ n) (hn : n ≤ 16) :
    ∃ a cap, wr.cell? ⟨b, 0, none⟩ = some (.slice a n cap) ∧ wr.cell? ⟨w.heap.size, 0, none⟩ = some (.slice none 0 0) ∧ wr.frozen? ⟨w.heap.size, 0, none⟩ = false ∧ (wr.setCell ⟨w.heap.size, 0, none⟩ (.slice a n cap)).cell? ⟨w.heap.size, 0, none⟩ = some (.slice a n cap) ∧ DrewM w c bv nb (.returned (.agg #[.slice a n cap])) (wr.setCell ⟨w.heap.size, 0, none⟩ (.slice a n cap)) := by
  obtain ⟨M, a, cap, h1, h2, h3, h4, h5⟩ := h
  refine ⟨a, cap, h1.box.1, h3.1, h3.2, cell_set_same _ h3.1, n, M, a, cap, hn1, hn, rfl, (h2.setBelow (by simp) _).mono (by omega), ?_, ?_⟩
  · obtain ⟨i, k, hi, hh⟩ := h4
    exact ⟨i, k, hi, by rw [heap_setCell_other _ _ _ _ (by simp; omega)]; exact hh⟩
  · refine ⟨h5.os, h5.tape, h5.output, by rw [size_setCell1]; exact h5.size, fun j hj hj2 => ?_⟩
    rw [heap_setCell_other _ _ _ _ (by simp; omega)]
    exact h5.other j hj hj2

end Go.Proofs.YtjbfoiolcpigfaaDoor

/- Walks: l1DrawOf. -/
namespace Go.Proofs.YtjbfoiolcpigfaaDoor
open Go.RowKit

set_option maxHeartbeats 1600000 in
theorem l1DrawOf_any (c nb n : Nat) (bv : Value) (w : World) (hc : CurAt w c bv nb) (hb : BytesAt w c bv nb) (hn1 : 1 ≤ n) (hn : n ≤ 16) : Calls Tryd.prog 146 #[.pointer (some ⟨c, 0, none⟩), .int .i64 (n : Int)] w (DrewM w c bv nb) := by
  have hcw := hc.lt
  have HC := Lib.hid hc
  have HBY := Lib.hid hb
  have HB0 : Hid (Below w.heap.size w (w.alloc (.cells #[.slice none 0 0] 29))) := (Below.refl _ _).alloc (Nat.le_refl _) _
  have HBX0 : Hid (BoxAt (w.alloc (.cells #[.slice none 0 0] 29)) w.heap.size (.slice none 0 0)) := BoxAt.new _ _ _
  clear hc hb
  go_enter Tryd.func146, Tryd.ntmps146
  go_wp2_with fail
  refine (l1Empty_any n _ (by omega)).mono ?_
  rintro e w2 ⟨n2, a2, c2, rfl, ho2, hb2⟩
  obtain rfl : n2 = n := by
    obtain ⟨a3, c3, e3⟩ := ho2.grid.slice
    simp only [Value.slice.injEq] at e3
    simpa using e3.2.1
  rw [maskL_zero n2 [], size_alloc1] at ho2
  have hs2 : w.heap.size + 1 ≤ w2.heap.size := by have := hb2.size; rw [size_alloc1] at this; exact this
  have hbl2 : Below w.heap.size w w2 := HB0.out.trans (hb2.mono HB0.out.size)
  have hst : Below w2.heap.size w2 (w2.alloc (.cells #[.slice a2 n2 c2] 29)) := (Below.refl _ _).alloc (Nat.le_refl _) _
  have hmid : Midst w c bv nb n2 w2.heap.size (w2.alloc (.cells #[.slice a2 n2 c2] 29)) :=
    ⟨_, a2, c2, BoxT.new _ _ _, ho2.keep hst, (HBX0.out.keep hb2).keep hst, (HC.out.keepB hbl2 hcw).keepB hst (by omega), Touched.ofBelow (hbl2.trans (hst.mono (by omega)))⟩
  have HM := Lib.hid hmid
  have hcur : CurAt (w2.alloc (.cells #[.slice a2 n2 c2] 29)) c bv nb := by obtain ⟨_, _, _, _, _, _, h4, _⟩ := hmid; exact h4
  have hby : BytesAt (w2.alloc (.cells #[.slice a2 n2 c2] 29)) c bv nb := by obtain ⟨_, _, _, _, _, _, _, h5⟩ := hmid; exact h5.bytes HBY.out (by omega)
  have HCU := Lib.hid hcur
  have HBY2 := Lib.hid hby
  clear ho2 hb2 hbl2 hst hmid hcur hby
  go_wp2_with fail
  refine (l1Below_any c nb bv _ _ HCU.out HBY2.out (by unfold I64; omega)).mono ?_
  rintro e w3 ⟨x, rfl, hx, hc3, ho3⟩
  have hx' := hx.2 (by omega)
  have HM3 := Lib.hid (HM.out.only hcw (by omega) ho3 hc3)
  clear hx hc3 ho3 HCU HBY2 HM
  obtain ⟨hx0, hx1⟩ := hx'
  go_wp2_with fail
  go_loopw [7] (fun i wr => ∃ k : Nat, 1 ≤ k ∧ k ≤ n2 ∧ i = .int .i64 k ∧ Midst w c bv nb n2 w2.heap.size wr) (fun i _ => n2 - (intOf i).toNat)
  case atStart => exact ⟨1, Nat.le_refl _, hn1, rfl, HM3.out⟩
  case round =>
    obtain ⟨k, hk1, hk, rfl, hmid⟩ := hrel
    have HM4 := Lib.hid hmid
    by_cases hlt : k < n2
    · clear hmid
      go_wp2
      go_loopw [8] (fun i w5 => ∃ u : Nat, u ≤ k ∧ i = .int .i64 u ∧ Midst w c bv nb n2 w2.heap.size w5) (fun i _ => k - (intOf i).toNat)
      case atStart => exact ⟨0, Nat.zero_le _, rfl, HM4.out⟩
      case round =>
        rename World => w5
        obtain ⟨u, hu, rfl, hmid⟩ := hrel
        have HM5 := Lib.hid hmid
        by_cases hul : u < k
        · have hcur : CurAt w5 c bv nb := by obtain ⟨_, _, _, _, _, _, h4, _⟩ := hmid; exact h4
          have hby : BytesAt w5 c bv nb := by obtain ⟨_, _, _, _, _, _, _, h5⟩ := hmid; exact h5.bytes HBY.out (by omega)
          have HCU := Lib.hid hcur
          have HBY2 := Lib.hid hby
          clear hmid hcur hby
          go_wp2_with fail
          refine (l1Below_any c nb bv _ _ HCU.out HBY2.out (by unfold I64; omega)).mono ?_
          rintro e w6 ⟨y, rfl, hy, hc6, ho6⟩
          have HM6 := Lib.hid (HM5.out.only hcw (by omega) ho6 hc6)
          clear hy hc6 ho6 HCU HBY2
          by_cases hyx : y < 1 + x
          · have dy : decide (y < 1 + x) = true := by simpa using hyx
            obtain ⟨a6, cap6, kb6, hlk⟩ := HM6.out.link hcw (by omega) hn u k (by omega) hlt (by omega)
            have HLK := Lib.hid hlk
            clear hlk
            go_wp2_with fail
            refine HLK.out.mono ?_
            rintro e w7 ⟨rfl, kb7, kf7, hm7⟩
            have HM7 := Lib.hid hm7
            clear hm7
            go_wp2
            go_roundw
            case rel => exact ⟨u + 1, by omega, by go_num, HM7.out⟩
            case measure => simp [intOf]; omega
          · have dy : decide (y < 1 + x) = false := by simpa using hyx
            go_wp2
            go_roundw
            case rel => exact ⟨u + 1, by omega, by go_num, HM6.out⟩
            case measure => simp [intOf]; omega
        · clear hmid
          obtain rfl : u = k := by omega
          go_wp2
          go_roundw
          case rel => exact ⟨u + 1, by omega, by omega, by go_num, HM5.out⟩
          case measure => simp [intOf]; omega
    · obtain rfl : k = n2 := by omega
      obtain ⟨a8, cap8, kb8, k08, f08, q08, hp8⟩ := HM4.out.done hcw hn1 hn
      have HP := Lib.hid hp8
      have HQ := Lib.hid q08
      clear hmid hp8 q08
      go_wp2
      exact bodyPost_ret (v := .agg #[.slice a8 k cap8]) (by simp [results, Tryd.results146, go_sem, HQ.out]) rfl HP.out

end Go.Proofs.YtjbfoiolcpigfaaDoor
