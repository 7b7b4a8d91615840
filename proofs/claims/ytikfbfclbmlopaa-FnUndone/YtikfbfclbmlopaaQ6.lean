/- The texts J7, J8, J9, S3, joined. -/
import Derived.Test.YtikfbfclbmlopaaQ5

/- Walks: l1Draw. -/
namespace Go.Proofs.Ytikfbfclbmlopaa
open Go.RowKit

theorem CurAt.setOther {w : World} {c n : Nat} {bv : Value} (h : CurAt w c bv n) {a : Addr} (ha : c ≠ a.block) (u : Value) : CurAt (w.setCell a u) c bv n := by
  obtain ⟨i, k, hi, hh⟩ := h
  exact ⟨i, k, hi, by rw [heap_setCell_other _ _ _ _ ha]; exact hh⟩
theorem Touched.set {c : Nat} {w w' : World} (h : Touched c (c + 1) w w') {a : Addr} (ha : w.heap.size ≤ a.block) (u : Value) : Touched c (c + 1) w (w'.setCell a u) :=
  ⟨h.os, h.tape, h.output, by rw [size_setCell1]; exact h.size, fun j hj hj2 => by rw [heap_setCell_other _ _ _ _ (by omega)]; exact h.other j hj hj2⟩
theorem BoxAt.touched {c b : Nat} {w w' : World} {v : Value} (h : BoxAt w b v) (ht : Touched c (c + 1) w w') (hb : b ≠ c) (hlt : b < w.heap.size) : BoxAt w' b v := by
  have hq := ht.other b hlt (by omega)
  exact ⟨by rw [World.cell?_of_block (w := w) hq]; exact h.1, by rw [World.frozen?_of_block (w := w) hq]; exact h.2⟩

theorem DrewM.mk {w w' : World} {c nb n B : Nat} {bv : Value} {M : Nat → Nat} {a : Option Addr} {cap : Nat} (hcw : c < w.heap.size) (hn1 : 1 ≤ n) (hn : n ≤ 16) (ho : OwnGrid 2 34 w' B (.slice a n cap) (maskL n M)) (hB : w.heap.size < B) (hc : CurAt w' c bv nb) (ht : Touched c (c + 1) w w') :
    DrewM w c bv nb (.returned (.agg #[.slice a n cap])) (w'.setCell ⟨w.heap.size, 0, none⟩ (.slice a n cap)) :=
  ⟨n, M, a, cap, hn1, hn, rfl, (ho.setBelow (by simpa using hB) _).mono (by omega), hc.setOther (by simp; omega) _, ht.set (by simp) _⟩

set_option maxHeartbeats 1600000 in
theorem l1Draw_any (c nb : Nat) (bv : Value) (w : World) (hc : CurAt w c bv nb) (hb : BytesAt w c bv nb) : Calls Try.prog 118 #[.pointer (some ⟨c, 0, none⟩)] w (DrewM w c bv nb) := by
  have hcw := hc.lt
  have hb0 : Below w.heap.size w (w.alloc (.cells #[.slice none 0 0] 26)) := (Below.refl _ _).alloc (Nat.le_refl _) _
  have hbx0 : BoxAt (w.alloc (.cells #[.slice none 0 0] 26)) w.heap.size (.slice none 0 0) := BoxAt.new _ _ _
  have HBY := Lib.hid hb
  have HC0 := Lib.hid (hc.keepB hb0 hcw)
  have HBY0 := Lib.hid (hb.keepB hb0 (Nat.le_of_lt hcw))
  have HB0 := Lib.hid hb0
  have HBX0 := Lib.hid hbx0
  clear hc hb hb0 hbx0
  go_enter Try.func118, Try.ntmps118
  go_wp2_with fail
  refine (l1Below_any c nb bv _ _ HC0.out HBY0.out (by unfold I64; omega)).mono ?_
  rintro e w1 ⟨x, rfl, hx, hc1, ho1⟩
  have HT1 : Hid (Touched c (c + 1) w w1) := (Touched.ofBelow HB0.out).only ho1
  have HX1 : Hid (BoxAt w1 w.heap.size (.slice none 0 0)) := HBX0.out.only ho1 (by omega)
  have hs1 : w1.heap.size = w.heap.size + 1 := by rw [ho1.size, size_alloc1]
  have HC1 := Lib.hid hc1
  have HBY1 := Lib.hid (HT1.out.bytes HBY.out (Nat.le_of_lt hcw))
  clear hx hc1 ho1 HC0 HBY0 HB0 HBX0
  have tail : ∀ (w4 : World) (n : Nat) (M : Nat → Nat) (a : Option Addr) (cap B : Nat), 1 ≤ n → n ≤ 16 → OwnGrid 2 34 w4 B (.slice a n cap) (maskL n M) → w.heap.size < B → CurAt w4 c bv nb → Touched c (c + 1) w w4 → BoxAt w4 w.heap.size (.slice none 0 0) →
      DrewM w c bv nb (.returned (.agg #[.slice a n cap])) (w4.setCell ⟨w.heap.size, 0, none⟩ (.slice a n cap)) := fun w4 n M a cap B h1 h2 h3 h4 h5 h6 _ => DrewM.mk hcw h1 h2 h3 h4 h5 h6
  have TAIL := Lib.hid tail
  clear tail
  by_cases e0 : x = 0
  · subst e0
    go_wp2_with fail
    refine (l1Below_any c nb bv _ _ HC1.out HBY1.out (by unfold I64; omega)).mono ?_
    rintro e w2 ⟨y, rfl, hy, hc2, ho2⟩
    have hy' := hy.2 (by omega)
    obtain ⟨y', rfl⟩ : ∃ y' : Nat, y = (y' : Int) := ⟨y.toNat, by omega⟩
    have hy4 : y' < 4 := by omega
    have HT2 := Lib.hid (HT1.out.only ho2)
    have HX2 := Lib.hid (HX1.out.only ho2 (by omega))
    have HC2 := Lib.hid hc2
    have hs2 : w2.heap.size = w.heap.size + 1 := by rw [ho2.size, hs1]
    clear hy hy' hc2 ho2
    have hlp := loopGraph_any c nb (3 + y') bv w2 HC2.out (by omega) (by omega)
    have e3 : ((3 + y' : Nat) : Int) = 3 + (y' : Int) := by omega
    rw [e3] at hlp
    have HLP := Lib.hid hlp
    clear hlp e3
    go_wp2_with fail
    refine HLP.out.mono ?_
    rintro e w4 ⟨M4, a4, cap4, rfl, ho4, hc4, ht4⟩
    have hst : Below w4.heap.size w4 (w4.alloc (.cells #[.slice a4 (3 + y') cap4] 26)) := (Below.refl _ _).alloc (Nat.le_refl _) _
    have hx4 := ((HX2.out.touched ht4 (by omega) (by omega)).keep hst)
    have hxc := hx4.1
    have hxf := hx4.2
    have HT4 := Lib.hid ((HT2.out.trans ht4).under hst (by have := (HT2.out.trans ht4).size; exact this))
    have HP := Lib.hid (TAIL.out _ (3 + y') M4 a4 cap4 w2.heap.size (by omega) (by omega) (ho4.keep hst) (by omega) (hc4.keepB hst hc4.lt) HT4.out hx4)
    have HQ := Lib.hid (cell_set_same (.slice a4 (3 + y') cap4) hx4.1)
    clear hst hx4 ho4 hc4 ht4
    go_wp2
    exact bodyPost_ret (v := .agg #[.slice a4 (3 + y') cap4]) (by simp [results, Try.results118, go_sem, HQ.out]) rfl HP.out
  · have d0 : (x == 0) = false := by rw [beq_eq_false_iff_ne]; exact e0
    by_cases e1 : x = 1
    · subst e1
      go_wp2_with fail
      refine (l1Below_any c nb bv _ _ HC1.out HBY1.out (by unfold I64; omega)).mono ?_
      rintro e w2 ⟨y, rfl, hy, hc2, ho2⟩
      have hy' := hy.2 (by omega)
      obtain ⟨y', rfl⟩ : ∃ y' : Nat, y = (y' : Int) := ⟨y.toNat, by omega⟩
      have hy4 : y' < 6 := by omega
      have HT2 := Lib.hid (HT1.out.only ho2)
      have HX2 := Lib.hid (HX1.out.only ho2 (by omega))
      have HC2 := Lib.hid hc2
      have hs2 : w2.heap.size = w.heap.size + 1 := by rw [ho2.size, hs1]
      clear hy hy' hc2 ho2
      have hlp := pathGraph_any c nb (1 + y') bv w2 HC2.out (by omega) (by omega)
      have e3 : ((1 + y' : Nat) : Int) = 1 + (y' : Int) := by omega
      rw [e3] at hlp
      have HLP := Lib.hid hlp
      clear hlp e3
      go_wp2_with fail
      refine HLP.out.mono ?_
      rintro e w4 ⟨M4, a4, cap4, rfl, ho4, hc4, ht4⟩
      have hst : Below w4.heap.size w4 (w4.alloc (.cells #[.slice a4 (1 + y') cap4] 26)) := (Below.refl _ _).alloc (Nat.le_refl _) _
      have hx4 := ((HX2.out.touched ht4 (by omega) (by omega)).keep hst)
      have hxc := hx4.1
      have hxf := hx4.2
      have HT4 := Lib.hid ((HT2.out.trans ht4).under hst (by have := (HT2.out.trans ht4).size; exact this))
      have HP := Lib.hid (TAIL.out _ (1 + y') M4 a4 cap4 w2.heap.size (by omega) (by omega) (ho4.keep hst) (by omega) (hc4.keepB hst hc4.lt) HT4.out hx4)
      have HQ := Lib.hid (cell_set_same (.slice a4 (1 + y') cap4) hx4.1)
      clear hst hx4 ho4 hc4 ht4
      go_wp2
      exact bodyPost_ret (v := .agg #[.slice a4 (1 + y') cap4]) (by simp [results, Try.results118, go_sem, HQ.out]) rfl HP.out
    · have d1 : (x == 1) = false := by rw [beq_eq_false_iff_ne]; exact e1
      go_wp2_with fail
      refine (l1Below_any c nb bv _ _ HC1.out HBY1.out (by unfold I64; omega)).mono ?_
      rintro e w2 ⟨y, rfl, hy, hc2, ho2⟩
      have hy' := hy.2 (by omega)
      obtain ⟨y', rfl⟩ : ∃ y' : Nat, y = (y' : Int) := ⟨y.toNat, by omega⟩
      have hy4 : y' < 7 := by omega
      have HT2 := Lib.hid (HT1.out.only ho2)
      have HX2 := Lib.hid (HX1.out.only ho2 (by omega))
      have HC2 := Lib.hid hc2
      have hs2 : w2.heap.size = w.heap.size + 1 := by rw [ho2.size, hs1]
      clear hy hy' hc2 ho2
      have hlp := l1DrawOf_any c nb (1 + y') bv w2 HC2.out (HT2.out.bytes HBY.out (Nat.le_of_lt hcw)) (by omega) (by omega)
      have e3 : ((1 + y' : Nat) : Int) = 1 + (y' : Int) := by omega
      rw [e3] at hlp
      have HLP := Lib.hid hlp
      clear hlp e3
      go_wp2_with fail
      refine HLP.out.mono ?_
      rintro e w4 ⟨n4, M4, a4, cap4, hn41, hn42, rfl, ho4, hc4, ht4⟩
      have hx4 := HX2.out.touched ht4 (by omega) (by omega)
      have hxc := hx4.1
      have hxf := hx4.2
      have HP := Lib.hid (TAIL.out _ n4 M4 a4 cap4 w2.heap.size hn41 hn42 ho4 (by omega) hc4 (HT2.out.trans ht4) hx4)
      have HQ := Lib.hid (cell_set_same (.slice a4 n4 cap4) hx4.1)
      clear hx4 ho4 hc4 ht4
      go_wp2
      exact bodyPost_ret (v := .agg #[.slice a4 n4 cap4]) (by simp [results, Try.results118, go_sem, HQ.out]) rfl HP.out

end Go.Proofs.Ytikfbfclbmlopaa

/- Walks: odd numbers, and numbers up to a bound. -/
namespace Go.Proofs.Ytikfbfclbmlopaa
open Go.RowKit

/-- Some number has been drawn. -/
def DrewN (w : World) (c : Nat) (bv : Value) (nb : Nat) (e : Ending) (w' : World) : Prop :=
  ∃ x : Int, e = .returned (.int .i64 x) ∧ I64 x ∧ CurAt w' c bv nb ∧ Touched c (c + 1) w w'

theorem list_cell {T : TypeId} {w w' : World} {vs : List Int} (hI : ∀ x ∈ vs, I64 x) (h : w'.heap[w.heap.size]? = some (.cells (vs.map (Value.int .i64)).toArray T (0, 0))) {y : Nat} (hy : y < vs.length) : ∃ v, I64 v ∧ w'.cell? ⟨w.heap.size, y, none⟩ = some (.int .i64 v) := by
  refine ⟨vs[y], hI _ (List.getElem_mem hy), ?_⟩
  rw [cell_of_row w' w.heap.size y _ _ _ h]
  simp [hy]

set_option maxHeartbeats 1600000 in
theorem l1Odd_any (c nb : Nat) (bv : Value) (w : World) (hc : CurAt w c bv nb) (hb : BytesAt w c bv nb) : Calls Try.prog 137 #[.pointer (some ⟨c, 0, none⟩)] w (DrewN w c bv nb) := by
  have hcw := hc.lt
  have hb0 : ∀ o, Below w.heap.size w (w.alloc o) := fun o => (Below.refl _ _).alloc (Nat.le_refl _) _
  have HC0 : Hid (∀ o, CurAt (w.alloc o) c bv nb) := fun o => hc.keepB (hb0 o) hcw
  have HBY0 : Hid (∀ o, BytesAt (w.alloc o) c bv nb) := fun o => hb.keepB (hb0 o) (Nat.le_of_lt hcw)
  have HB0 := Lib.hid hb0
  clear hc hb hb0
  go_enter Try.func137, Try.ntmps137
  go_wp2_with fail
  refine (l1Below_any c nb bv _ _ (HC0.out _) (HBY0.out _) (by unfold I64; omega)).mono ?_
  rintro e w1 ⟨y, rfl, hy, hc1, ho1⟩
  have hy' := hy.2 (by omega)
  obtain ⟨y', rfl⟩ : ∃ y' : Nat, y = (y' : Int) := ⟨y.toNat, by omega⟩
  have hy10 : y' < 10 := by omega
  have hblk : w1.heap[w.heap.size]? = _ := (ho1.other w.heap.size (by omega)).trans (heap_alloc_new w _)
  have HT1 : Hid (Touched c (c + 1) w w1) := (Touched.ofBelow (HB0.out _)).only ho1
  have HC1 := Lib.hid hc1
  obtain ⟨v, hv, hcell⟩ := list_cell (vs := [-1, 0, 1, 2147483648, -2147483648, 1099511627776, 4611686018427387904, -4611686018427387904, 9223372036854775807, -9223372036854775808]) (by intro x hx; simp at hx; unfold I64; omega) hblk (by simpa using hy10)
  clear hblk hc1 ho1 hy hy'
  go_wp2
  go_ret
  exact ⟨v, rfl, hv, HC1.out, HT1.out⟩

theorem l1Min_any (x y : Int) (w : World) : Calls Try.prog 115 #[.int .i64 x, .int .i64 y] w fun e w' => e = .returned (.int .i64 (if x < y then x else y)) ∧ w = w' := by
  by_cases h : x < y
  · rw [if_pos h]
    go_enter Try.func115, Try.ntmps115
    go_wp2
    go_ret
    exact ⟨rfl, rfl⟩
  · rw [if_neg h]
    go_enter Try.func115, Try.ntmps115
    go_wp2
    go_ret
    exact ⟨rfl, rfl⟩

set_option maxHeartbeats 1600000 in
theorem l1Num_any (c nb : Nat) (bv : Value) (m : Nat) (w : World) (hc : CurAt w c bv nb) (hb : BytesAt w c bv nb) (hm : m ≤ 1000000) : Calls Try.prog 121 #[.pointer (some ⟨c, 0, none⟩), .int .i64 (m : Int)] w (DrewN w c bv nb) := by
  have hcw := hc.lt
  have HBY := Lib.hid hb
  have HC := Lib.hid hc
  clear hc hb
  go_enter Try.func121, Try.ntmps121
  go_wp2_with fail
  refine (l1Once_any c nb bv _ _ HC.out HBY.out (by unfold I64; omega)).mono ?_
  rintro e w1 ⟨b1, rfl, hc1, ho1⟩
  have HT1 : Hid (Touched c (c + 1) w w1) := (Touched.refl _ _ _).only ho1
  have HC1 := Lib.hid hc1
  clear hc1 ho1
  cases b1 with
  | true =>
    go_wp2_with fail
    refine (l1Odd_any c nb bv _ HC1.out (HT1.out.bytes HBY.out (Nat.le_of_lt hcw))).mono ?_
    rintro e w2 ⟨x2, rfl, hx2, hc2, ht2⟩
    have HT2 := Lib.hid (HT1.out.trans ht2)
    have HC2 := Lib.hid hc2
    have HX2 := Lib.hid hx2
    have hcw2 := hc2.lt
    have hb2 : ∀ o, Below w2.heap.size w2 (w2.alloc o) := fun o => (Below.refl _ _).alloc (Nat.le_refl _) _
    have HB2 := Lib.hid hb2
    clear hc2 ht2 hx2 hb2
    go_wp2_with fail
    refine (l1Below_any c nb bv _ _ (HC2.out.keepB (HB2.out _) hcw2) ((HT2.out.bytes HBY.out (Nat.le_of_lt hcw)).keepB (HB2.out _) (Nat.le_of_lt hcw2)) (by unfold I64; omega)).mono ?_
    rintro e w3 ⟨y, rfl, hy, hc3, ho3⟩
    have hy' := hy.2 (by omega)
    obtain ⟨y', rfl⟩ : ∃ y' : Nat, y = (y' : Int) := ⟨y.toNat, by omega⟩
    have hy4 : y' < 4 := by omega
    have hblk : w3.heap[w2.heap.size]? = _ := (ho3.other w2.heap.size (by omega)).trans (heap_alloc_new w2 _)
    have HT3 : Hid (Touched c (c + 1) w w3) := ((HT2.out.under (HB2.out _) HT2.out.size)).only ho3
    have HC3 := Lib.hid hc3
    obtain ⟨v, hv, hcell⟩ := list_cell (vs := [-1, (m : Int), (m : Int) + 1, x2]) (by intro x hx; simp at hx; rcases hx with rfl | rfl | rfl | rfl; (unfold I64; omega); (unfold I64; omega); (unfold I64; omega); exact HX2.out) hblk (by simpa using hy4)
    clear hblk hc3 ho3 hy hy'
    go_wp2
    go_ret
    exact ⟨v, rfl, hv, HC3.out, HT3.out⟩
  | false =>
    go_wp2_with fail
    refine (l1Once_any c nb bv _ _ HC1.out (HT1.out.bytes HBY.out (Nat.le_of_lt hcw)) (by unfold I64; omega)).mono ?_
    rintro e w2 ⟨b2, rfl, hc2, ho2⟩
    have HT2 := Lib.hid (HT1.out.only ho2)
    have HC2 := Lib.hid hc2
    clear hc2 ho2
    cases b2 with
    | true =>
      go_wp2_with fail
      refine (l1Min_any _ _ _).mono ?_
      rintro e w' ⟨rfl, rfl⟩
      obtain ⟨z, hz⟩ : ∃ z : Int, z = (if (m : Int) < 4 then (m : Int) else 4) := ⟨_, rfl⟩
      have hz4 : 0 ≤ z ∧ z ≤ 4 := by rw [hz]; split <;> omega
      obtain ⟨hz5, hz6⟩ := hz4
      rw [← hz]
      clear hz
      go_wp2_with fail
      refine (l1Below_any c nb bv _ _ HC2.out (HT2.out.bytes HBY.out (Nat.le_of_lt hcw)) (by unfold I64; omega)).mono ?_
      rintro e w3 ⟨y, rfl, hy, hc3, ho3⟩
      have hy' := hy.2 (by omega)
      have HP : Hid (DrewN w c bv nb (.returned (.int .i64 y)) w3) := ⟨y, rfl, by unfold I64; omega, hc3, HT2.out.only ho3⟩
      clear hy hy' hc3 ho3
      go_wp2
      go_ret
      exact HP.out
    | false =>
      go_wp2_with fail
      refine (l1Below_any c nb bv _ _ HC2.out (HT2.out.bytes HBY.out (Nat.le_of_lt hcw)) (by unfold I64; omega)).mono ?_
      rintro e w3 ⟨y, rfl, hy, hc3, ho3⟩
      have hy' := hy.2 (by omega)
      have HP : Hid (DrewN w c bv nb (.returned (.int .i64 y)) w3) := ⟨y, rfl, by unfold I64; omega, hc3, HT2.out.only ho3⟩
      clear hy hy' hc3 ho3
      go_wp2
      go_ret
      exact HP.out

end Go.Proofs.Ytikfbfclbmlopaa

/- Words for l1DrawAny: a graph of one's own, of any rows, in a box. -/
namespace Go.Proofs.Ytikfbfclbmlopaa
open Go.RowKit

/-- Some graph of the call's own has been drawn. -/
def DrewG (w : World) (c : Nat) (bv : Value) (nb : Nat) (e : Ending) (w' : World) : Prop :=
  ∃ L n a cap, e = .returned (.agg #[.slice a n cap]) ∧ OwnGrid 2 34 w' w.heap.size (.slice a n cap) L ∧ CurAt w' c bv nb ∧ Touched c (c + 1) w w' ∧ n ≤ 17
/-- In the midst of l1DrawAny. -/
def MidG (w : World) (c : Nat) (bv : Value) (nb b : Nat) (wr : World) : Prop :=
  ∃ L n a cap, BoxT 26 wr b (.slice a n cap) ∧ OwnGrid 2 34 wr (w.heap.size + 1) (.slice a n cap) L ∧ BoxAt wr w.heap.size (.slice none 0 0) ∧ CurAt wr c bv nb ∧ Touched c (c + 1) w wr ∧ n ≤ 17
theorem MidG.done {w : World} {c nb b : Nat} {bv : Value} {wr : World} (h : MidG w c bv nb b wr) (hc : c < w.heap.size) :
    ∃ n a cap, wr.cell? ⟨b, 0, none⟩ = some (.slice a n cap) ∧ wr.cell? ⟨w.heap.size, 0, none⟩ = some (.slice none 0 0) ∧ wr.frozen? ⟨w.heap.size, 0, none⟩ = false ∧ (wr.setCell ⟨w.heap.size, 0, none⟩ (.slice a n cap)).cell? ⟨w.heap.size, 0, none⟩ = some (.slice a n cap) ∧ DrewG w c bv nb (.returned (.agg #[.slice a n cap])) (wr.setCell ⟨w.heap.size, 0, none⟩ (.slice a n cap)) := by
  obtain ⟨L, n, a, cap, h1, h2, h3, h4, h5, h6⟩ := h
  exact ⟨n, a, cap, h1.box.1, h3.1, h3.2, cell_set_same _ h3.1, L, n, a, cap, rfl, (h2.setBelow (by simp) _).mono (by omega), h4.setOther (by simp; omega) _, h5.set (by simp) _, h6⟩
theorem MidG.only {w : World} {c nb b : Nat} {bv : Value} {wr w1 : World} (h : MidG w c bv nb b wr) (hc : c < w.heap.size) (hb : w.heap.size < b) (ho : OnlyBlk c wr w1) (hcur : CurAt w1 c bv nb) : MidG w c bv nb b w1 := by
  obtain ⟨L, n, a, cap, h1, h2, h3, _, h5, h6⟩ := h
  exact ⟨L, n, a, cap, h1.only ho (by omega), h2.touched (ho.touched (Nat.le_refl _) (Nat.lt_succ_self c)) (by omega), h3.only ho (by omega), hcur, h5.only ho, h6⟩
/-- Another graph laid into the box. -/
theorem MidG.put {w : World} {c nb b : Nat} {bv : Value} {wr w1 : World} (h : MidG w c bv nb b wr) (hc : c < w.heap.size) (hb : w.heap.size < b) (hbel : Below wr.heap.size wr w1) {n cap : Nat} {a : Option Addr} {L : List (List Int)} (ho : OwnGrid 2 34 w1 (w.heap.size + 1) (.slice a n cap) L) (hn : n ≤ 17) :
    w1.frozen? ⟨b, 0, none⟩ = false ∧ (∃ v, w1.cell? ⟨b, 0, none⟩ = some v) ∧ MidG w c bv nb b (w1.setCell ⟨b, 0, none⟩ (.slice a n cap)) := by
  obtain ⟨_, _, _, _, h1, _, h3, h4, h5, _⟩ := h
  have b1 := h1.keep hbel
  refine ⟨b1.box.2, ⟨_, b1.box.1⟩, L, n, a, cap, b1.set _, ho.setType b1 (by decide) (by decide) 0 _, (h3.keep hbel).setOther (by simp; omega) _, (h4.keepB hbel h4.lt).setOther (by simp; omega) _, (h5.under hbel h5.size).set (by simp; omega) _, hn⟩
theorem own_one {T : TypeId} {w : World} {x : Int} (hx : I64 x) : OwnRow T (w.alloc (.cells #[.int .i64 x] T)) w.heap.size (.slice (some ⟨w.heap.size, 0, none⟩) 1 1) [x] := by
  refine ⟨by intro y hy; simp at hy; subst hy; exact hx, by unfold maxLen; simp, Or.inr ⟨w.heap.size, 1, #[.int .i64 x], rfl, Nat.le_refl _, heap_alloc_new _ _, Nat.le_refl _, by unfold maxLen; omega, rfl, fun i hi => ?_⟩⟩
  have : i = 0 := by simpa using hi
  subst this; rfl

/-- A row of the graph in the box put anew, out of new memory. -/
theorem MidG.row {w : World} {c nb b : Nat} {bv : Value} {wr w1 : World} {g n cap : Nat} (h1 : BoxT 26 wr b (.slice (some ⟨g, 0, none⟩) n cap)) {L : List (List Int)} (h2 : OwnGrid 2 34 wr (w.heap.size + 1) (.slice (some ⟨g, 0, none⟩) n cap) L) (h3 : BoxAt wr w.heap.size (.slice none 0 0)) (h4 : CurAt wr c bv nb) (h5 : Touched c (c + 1) w wr)
    (hc : c < w.heap.size) (hb : w.heap.size < b) (hbel : Below wr.heap.size wr w1) {i : Nat} (hi : i < L.length) {rv : Value} {xs : List Int} (hr : OwnRow 2 w1 wr.heap.size rv xs) (hn : n ≤ 17) :
    MidG w c bv nb b (w1.setCell ⟨g, i, none⟩ rv) := by
  have hgne : g ≠ b := by
    obtain ⟨cur, hcur⟩ := h2.blkT
    intro e
    rw [e] at hcur
    have hbb : wr.heap[b]? = _ := h1
    rw [hcur] at hbb
    simp at hbb
  obtain ⟨g', cap', eg, hBg, hgs, _⟩ := h2.place (by omega)
  simp only [Value.slice.injEq, Option.some.injEq, Addr.mk.injEq, and_true] at eg
  obtain ⟨rfl, _, _⟩ := eg
  refine ⟨L.set i xs, n, _, cap, (h1.keep hbel).setOther (by simp; omega) _, h2.setRow (by decide) hbel hi (hr.mono (by have := h1.lt; omega)) (fun k hk => Or.inl (hr.lt k hk).1), (h3.keep hbel).setOther (by simp; omega) _, (h4.keepB hbel h4.lt).setOther (by simp; omega) _, (h5.under hbel h5.size).set (by simp; omega) _, hn⟩

end Go.Proofs.Ytikfbfclbmlopaa

/- Walks: a graph rolled. -/
namespace Go.Proofs.Ytikfbfclbmlopaa
open Go.RowKit

theorem own_gempty {T T1 : TypeId} (w : World) : OwnGrid T T1 (w.alloc (.cells #[] T1)) w.heap.size (.slice (some ⟨w.heap.size, 0, none⟩) 0 0) [] :=
  ⟨fun _ => .slice none 0 0, by simp, Or.inr ⟨w.heap.size, 0, #[], rfl, Nat.le_refl _, heap_alloc_new _ _, Nat.le_refl _, by simp, rfl, fun i hi => absurd hi (by simp)⟩, fun i hi => absurd hi (by simp), fun i j k _ hj => absurd hj (by simp)⟩

/-- A graph has been rolled: a right one, of at most so many vertices; beside new memory only the dice have turned. -/
def RolledGraph (w : World) (d : Nat) (bv : Value) (n most : Nat) (e : Ending) (w' : World) : Prop :=
  ∃ L m a c, e = .returned (.agg #[.slice a m c]) ∧ GraphP L ∧ L.length ≤ most ∧ OwnGrid 2 34 w' w.heap.size (.slice a m c) L ∧ DiceAt w' d bv n ∧ Touched d (d + 1) w w'

theorem of_right {n : Nat} {E : List (List Int)} (h : OfP (n : Int) E) : GraphP (ofL (n : Int) E) := by
  have hn : 1 ≤ n ∧ n ≤ 16 := by have := h.1; simp [inB] at this; omega
  rw [ofL, if_pos h, Int.toNat_natCast]
  have e : maskL n (edgeM E E.length) = adjL n (fun i j => (edgeM E E.length i).testBit j) := by
    apply nthR_ext
    · rw [maskL_len, adjL_len]
    · intro i hi
      rw [maskL_len] at hi
      rw [maskL_nth _ hi, adjL_nth _ hi, pm_of (edgeM_lt (n := (n : Int)) (by omega) _ h.2.2 i)]
  rw [e]
  have hbit := edgeM_bit (n := (n : Int)) (by omega) E.length h.2.2
  refine adjL_graph hn ?_ ?_ ?_
  · intro i j hb
    obtain ⟨q, hq, hh⟩ := (hbit i j).1 hb
    obtain ⟨_, h1, h2, h3⟩ := h.2.2 q hq
    omega
  · intro i j
    rw [Bool.eq_iff_iff, hbit i j, hbit j i]
    constructor
    · rintro ⟨q, hq, hh⟩; exact ⟨q, hq, hh.symm⟩
    · rintro ⟨q, hq, hh⟩; exact ⟨q, hq, hh.symm⟩
  · intro i
    cases hb : (edgeM E E.length i).testBit i with
    | false => rfl
    | true =>
      obtain ⟨q, hq, hh⟩ := (hbit i i).1 hb
      obtain ⟨_, h1, h2, h3⟩ := h.2.2 q hq
      omega
theorem of_len {n : Nat} {E : List (List Int)} (h : OfP (n : Int) E) : (ofL (n : Int) E).length = n := by rw [ofL, if_pos h, Int.toNat_natCast, maskL_len]

set_option maxHeartbeats 3200000 in
set_option maxRecDepth 100000 in
theorem w5Graph_any (d n most : Nat) (bv : Value) (w : World) (hd : DiceAt w d bv n) (hb : BytesAt w d bv n) (hm1 : 1 ≤ most) (hm : most ≤ 8) : Calls Try.prog 37 #[.pointer (some ⟨d, 0, none⟩), .int .i64 (most : Int)] w (RolledGraph w d bv n most) := by
  obtain ⟨i0, hi, hz0, hz1, hz2⟩ := info_parts Try.infoR
  have hdl := hd.lt
  have hbA : Below w.heap.size w (w.alloc (.cells #[.slice none 0 0] 26)) := (Below.refl _ _).alloc (Nat.le_refl _) _
  have HD0 := Lib.hid (hd.keep hbA)
  have BX0 := Lib.hid (BoxAt.new w (.slice none 0 0) 26)
  have HT0 : Hid (Touched d (d + 1) w (w.alloc (.cells #[.slice none 0 0] 26))) := Touched.ofBelow hbA
  have HBY := Lib.hid hb
  clear hd hb hbA
  go_enter Try.func37, Try.ntmps37
  go_wp2_with fail
  refine (below_any d n bv (most : Int) _ HD0.out (HT0.out.bytes HBY.out (Nat.le_of_lt hdl)) (by omega) (by unfold I64; omega)).mono ?_
  rintro e w1 ⟨x1, rfl, hx1, hd1, ho1⟩
  obtain ⟨m0, rfl⟩ : ∃ m0 : Nat, x1 = (m0 : Int) := ⟨x1.toNat, by have := (hx1.2 (by omega)).1; omega⟩
  have hm0 : m0 < most := by have := (hx1.2 (by omega)).2; omega
  have HD1 := Lib.hid hd1
  have HT1 := Lib.hid (HT0.out.only ho1)
  have BX1 := Lib.hid (BX0.out.only ho1 (by omega))
  clear hx1 hd1 ho1 HD0 HT0 BX0
  go_wp2_with fail
  refine (below_any d n bv 3 _ HD1.out (HT1.out.bytes HBY.out (Nat.le_of_lt hdl)) (by omega) (by unfold I64; omega)).mono ?_
  rintro e w2 ⟨x2, rfl, hx2, hd2, ho2⟩
  have hx20 := hx2.2 (by omega)
  obtain ⟨hx20, hx21⟩ := hx20
  have HD2 := Lib.hid hd2
  have HT2 := Lib.hid (HT1.out.only ho2)
  have BX2 := Lib.hid (BX1.out.only ho2 (by omega))
  have hz2' : w.heap.size < w2.heap.size := BX2.out.lt
  have hbE : Below w2.heap.size w2 (w2.alloc (.cells #[] 34)) := (Below.refl _ _).alloc (Nat.le_refl _) _
  have HD3 := Lib.hid (HD2.out.keep hbE)
  have HT3 := Lib.hid (HT2.out.under hbE (Nat.le_of_lt hz2'))
  have BX3 := Lib.hid (BX2.out.keep hbE)
  have HOE := Lib.hid (own_gempty (T := 2) (T1 := 34) w2)
  clear hx2 hd2 ho2 HD1 HT1 BX1 HD2 HT2 BX2 hbE
  obtain ⟨m, hme⟩ : ∃ m, m = m0 + 1 := ⟨_, rfl⟩
  have hmI : (1 : Int) + (m0 : Int) = (m : Int) := by omega
  have hmm : m ≤ most := by omega
  have hm1' : 1 ≤ m := by omega
  clear hme hm0
  go_wp2_with fail
  clear hmI
  go_loopw [7, 8] (fun s i wr => ∃ k : Nat, 1 ≤ k ∧ k ≤ m ∧ i = .int .i64 k ∧ (∃ E, (∀ q, q < E.length → EdgeP (nthR E q) (m : Int)) ∧ E.length ≤ 8 * k ∧ OwnGrid 2 34 wr (w.heap.size + 1) s E) ∧ BoxAt wr w.heap.size (.slice none 0 0) ∧ DiceAt wr d bv n ∧ Touched d (d + 1) w wr) (fun _ i _ => m - (intOf i).toNat)
  case atStart => exact ⟨1, Nat.le_refl _, by omega, rfl, ⟨[], fun q hq => absurd hq (by simp), by simp, HOE.out.mono (by omega)⟩, BX3.out, HD3.out, HT3.out⟩
  case round =>
    obtain ⟨k, hk1, hk, rfl, ⟨E, hE, hEl, ho⟩, hbx, hdi, ht⟩ := hrel
    have HE := Lib.hid hE
    have HO := Lib.hid ho
    have HBX := Lib.hid hbx
    have HDI := Lib.hid hdi
    have HT := Lib.hid ht
    clear hE ho hbx hdi ht
    by_cases hlt : k < m
    · go_wp2_with fail
      go_loopw [7, 9] (fun s i wr => ∃ q : Nat, q ≤ k ∧ i = .int .i64 q ∧ (∃ E, (∀ q, q < E.length → EdgeP (nthR E q) (m : Int)) ∧ E.length ≤ 8 * k + q ∧ OwnGrid 2 34 wr (w.heap.size + 1) s E) ∧ BoxAt wr w.heap.size (.slice none 0 0) ∧ DiceAt wr d bv n ∧ Touched d (d + 1) w wr) (fun _ i _ => k - (intOf i).toNat)
      case atStart => exact ⟨0, Nat.zero_le _, rfl, ⟨E, HE.out, hEl, HO.out⟩, HBX.out, HDI.out, HT.out⟩
      case round =>
        rename World => w4
        obtain ⟨q, hq, rfl, ⟨F, hF, hFl, ho⟩, hbx, hdi, ht⟩ := hrel
        have HF := Lib.hid hF
        have HO4 := Lib.hid ho
        have HBX4 := Lib.hid hbx
        have HDI4 := Lib.hid hdi
        have HT4 := Lib.hid ht
        clear hF ho hbx hdi ht
        by_cases hql : q < k
        · go_wp2_with fail
          refine (below_any d n bv 4 _ HDI4.out (HT4.out.bytes HBY.out (Nat.le_of_lt hdl)) (by omega) (by unfold I64; omega)).mono ?_
          rintro e w5 ⟨x5, rfl, hx5, hd5, ho5⟩
          have HD5 := Lib.hid hd5
          have HT5 := Lib.hid (HT4.out.only ho5)
          have BX5 := Lib.hid (HBX4.out.only ho5 (by omega))
          have HO5 := Lib.hid (HO4.out.touched (ho5.touched (Nat.le_refl _) (Nat.lt_succ_self _)) (by omega))
          have hz5 : w.heap.size < w5.heap.size := BX5.out.lt
          clear hx5 hd5 ho5
          by_cases hlx : x5 < 1 + x2
          · have hdx : decide (x5 < 1 + x2) = true := by simpa using hlx
            obtain ⟨R, hR, hRr, hRd⟩ := HO5.out.owns
            have HR := Lib.hid hR
            have HRr := Lib.hid hRr
            have HRd := Lib.hid hRd
            have hbw : Below w5.heap.size w5 ((w5.alloc (.cells #[.int .i64 (q : Int), .int .i64 (k : Int)] 2)).alloc (.cells #[.slice (some ⟨w5.heap.size, 0, none⟩) 2 2] 34)) := ((Below.refl _ _).alloc (Nat.le_refl _) _).alloc (by simp) _
            have HBW := Lib.hid hbw
            clear hR hRr hRd hlx hbw
            go_wp2_with (at_builtin; refine wpList_append_own _ rfl (.tmp 34) (.tmp 38) 24 rfl (w.heap.size + 1) 34 i0 (.slice none 0 0) 1 24 Try.underlying24 hi hz0 hz1 hz2 rfl (by decide) _ _ _ rfl ((HR.out.alloc _).alloc _) ⟨w5.heap.size + 1, 0, none⟩ 1 1 [.slice (some ⟨w5.heap.size, 0, none⟩) 2 2] rfl rfl ?c1 ?c2 ?c3 ?c4 ?c5 ?_)
            case c1 =>
              intro j u hj
              match j, hj with
              | 0, hj => simp at hj; subst hj; simp [Addr.add]
            case c2 => intro u hu; simp at hu; subst hu; rfl
            case c3 => unfold maxLen; omega
            case c4 => omega
            case c5 => simp; omega
            intro v' w6 hown' hgrow _
            have hog6 : OwnGrid 2 34 w6 (w.heap.size + 1) v' (F ++ [[(q : Int), (k : Int)]]) := by
              refine OwnGrid.snoc (w0 := w5) (w := (w5.alloc (.cells #[.int .i64 (q : Int), .int .i64 (k : Int)] 2)).alloc (.cells #[.slice (some ⟨w5.heap.size, 0, none⟩) 2 2] 34)) (rv := .slice (some ⟨w5.heap.size, 0, none⟩) 2 2) (by decide) HBW.out (by omega) ?_ rfl (by unfold maxLen; omega) R HR.out HRr.out HRd.out hown' hgrow
              exact (own_two (by unfold I64; omega) (by unfold I64; omega)).keep ((Below.refl _ _).alloc (Nat.le_refl _) _)
            have hb6 : Below (w.heap.size + 1) w5 w6 := (HBW.out.mono (by omega)).grown hgrow (by simp; omega) (fun j hj => (HR.out.lt j hj).1)
            have HO6 := Lib.hid hog6
            have HD6 := Lib.hid (HD5.out.keepB hb6 (by omega))
            have HT6 := Lib.hid (HT5.out.under hb6 (by omega))
            have BX6 := Lib.hid (BX5.out.keepB hb6 (by omega))
            clear hown' hgrow hog6 hb6
            go_wp2
            go_roundw
            case rel =>
              refine ⟨q + 1, by omega, by go_num, ⟨F ++ [[(q : Int), (k : Int)]], fun p hp => ?_, by rw [List.length_append, List.length_singleton]; omega, HO6.out⟩, BX6.out, HD6.out, HT6.out⟩
              rw [List.length_append, List.length_singleton] at hp
              by_cases hp2 : p < F.length
              · rw [nthR_append_old hp2]; exact HF.out p hp2
              · obtain rfl : p = F.length := by omega
                rw [nthR_append_last]
                exact ⟨rfl, by show (0 : Int) ≤ (q : Int); omega, by show (q : Int) < (k : Int); omega, by show (k : Int) < (m : Int); omega⟩
            case measure => simp [intOf]; omega
          · have hdx : decide (x5 < 1 + x2) = false := by simpa using hlx
            clear hlx
            go_wp2
            go_roundw
            case rel => exact ⟨q + 1, by omega, by go_num, ⟨F, HF.out, by omega, HO5.out⟩, BX5.out, HD5.out, HT5.out⟩
            case measure => simp [intOf]; omega
        · obtain rfl : q = k := by omega
          go_wp2
          go_roundw
          case rel => exact ⟨q + 1, by omega, by omega, by go_num, ⟨F, HF.out, by omega, HO4.out⟩, HBX4.out, HDI4.out, HT4.out⟩
          case measure => simp [intOf]; omega
    · obtain rfl : k = m := by omega
      have hof : OfP (k : Int) E := ⟨by simp [inB]; omega, by omega, HE.out⟩
      have HOF := Lib.hid hof
      obtain ⟨aE, cE, eE⟩ := HO.out.grid.slice
      rw [eE]
      have HGE : Hid (GridAt wr (.slice aE E.length cE) E) := by have := HO.out.grid; rw [eE] at this; exact this
      clear hof eE
      go_wp2_with fail
      refine (specGraphOf_any _ (k : Int) E _ HGE.out).mono ?_
      rintro e w7 ⟨n7, a7, c7, rfl, ho7, hb7⟩
      rw [decide_eq_true HOF.out]
      have HD7 := Lib.hid (HDI.out.keep hb7)
      have hzr : w.heap.size < wr.heap.size := HBX.out.lt
      have HT7 := Lib.hid (HT.out.under hb7 (Nat.le_of_lt hzr))
      have BX7 := Lib.hid (HBX.out.keep hb7)
      have hbq : Below w7.heap.size w7 (w7.alloc (.cells #[.slice a7 n7 c7] 26)) := (Below.refl _ _).alloc (Nat.le_refl _) _
      have HO8 := Lib.hid (ho7.keep hbq)
      have HD8 := Lib.hid (HD7.out.keep hbq)
      have BX8 := Lib.hid (BX7.out.keep hbq)
      have hz7 : w.heap.size ≤ w7.heap.size := Nat.le_trans (Nat.le_of_lt hzr) hb7.size
      have HT8 := Lib.hid (HT7.out.under hbq hz7)
      have kr := BX8.out.1
      have kf := BX8.out.2
      clear ho7 hb7 hbq
      go_wp2
      have q0 : ((w7.alloc (.cells #[.slice a7 n7 c7] 26)).setCell ⟨w.heap.size, 0, none⟩ (.slice a7 n7 c7)).cell? ⟨w.heap.size, 0, none⟩ = some (.slice a7 n7 c7) := cell_set_same _ BX8.out.1
      refine bodyPost_ret (v := .agg #[.slice a7 n7 c7]) (by simp [results, Try.results37, go_sem, q0]) rfl ⟨ofL (k : Int) E, n7, a7, c7, rfl, of_right HOF.out, by rw [of_len HOF.out]; omega, ?_, ?_, ?_⟩
      · exact (HO8.out.setBelow (by simp; omega) _).mono (by omega)
      · exact HD8.out.keepB ((Below.refl w.heap.size _).setCell (Nat.le_refl _) _) hdl
      · exact HT8.out.under ((Below.refl w.heap.size _).setCell (Nat.le_refl _) _) (Nat.le_refl _)

end Go.Proofs.Ytikfbfclbmlopaa
