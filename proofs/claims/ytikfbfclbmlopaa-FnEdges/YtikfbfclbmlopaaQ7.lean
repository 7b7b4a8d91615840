/- The texts J8, J9, GrowRow, K1, K2, K5, K4, SortLay, joined. -/
import Derived.Deep.AppendLies
import Derived.Deep.RegionLaw
import Derived.Shelf.SortM.Plain
import Derived.Shelf.SortM.SortNone
import Derived.Test.YtikfbfclbmlopaaChecked
import Derived.Test.YtikfbfclbmlopaaQ6

/- Walks: odd numbers, and numbers up to a bound. -/
namespace Go.Proofs.Ytikfbfclbmlopaa
open Go.RowKit

/-- Some number has been drawn. -/
def DrewN (w : World) (c : Nat) (bv : Value) (nb : Nat) (e : Ending) (w' : World) : Prop :=
  ∃ x : Int, e = .returned (.int .i64 x) ∧ I64 x ∧ CurAt w' c bv nb ∧ Touched c (c + 1) w w'

theorem list_cell {T : TypeId} {w w' : World} {vs : List Int} (hI : ∀ x ∈ vs, I64 x) (h : w'.heap[w.heap.size]? = some (.cells (vs.map (Value.int .i64)).toArray T (0, 0))) {y : Nat} (hy : y < vs.length) : ∃ v, I64 v ∧ w'.cell? ⟨w.heap.size, y, none⟩ = some (.int .i64 v) := by
  refine ⟨vs[y], hI _ (List.getElem_mem hy), ?_⟩
  rw [cell_of_row w' w.heap.size y _ _ _ h]
  simp [hy]

set_option maxHeartbeats 1600000 in
theorem l1Odd_any (c nb : Nat) (bv : Value) (w : World) (hc : CurAt w c bv nb) (hb : BytesAt w c bv nb) : Calls Try.prog 137 #[.pointer (some ⟨c, 0, none⟩)] w (DrewN w c bv nb) := by
  have hcw := hc.lt
  have hb0 : ∀ o, Below w.heap.size w (w.alloc o) := fun o => (Below.refl _ _).alloc (Nat.le_refl _) _
  have HC0 : Hid (∀ o, CurAt (w.alloc o) c bv nb) := fun o => hc.keepB (hb0 o) hcw
  have HBY0 : Hid (∀ o, BytesAt (w.alloc o) c bv nb) := fun o => hb.keepB (hb0 o) (Nat.le_of_lt hcw)
  have HB0 := Lib.hid hb0
  clear hc hb hb0
  go_enter Try.func137, Try.ntmps137
  go_wp2_with fail
  refine (l1Below_any c nb bv _ _ (HC0.out _) (HBY0.out _) (by unfold I64; omega)).mono ?_
  rintro e w1 ⟨y, rfl, hy, hc1, ho1⟩
  have hy' := hy.2 (by omega)
  obtain ⟨y', rfl⟩ : ∃ y' : Nat, y = (y' : Int) := ⟨y.toNat, by omega⟩
  have hy10 : y' < 10 := by omega
  have hblk : w1.heap[w.heap.size]? = _ := (ho1.other w.heap.size (by omega)).trans (heap_alloc_new w _)
  have HT1 : Hid (Touched c (c + 1) w w1) := (Touched.ofBelow (HB0.out _)).only ho1
  have HC1 := Lib.hid hc1
  obtain ⟨v, hv, hcell⟩ := list_cell (vs := [-1, 0, 1, 2147483648, -2147483648, 1099511627776, 4611686018427387904, -4611686018427387904, 9223372036854775807, -9223372036854775808]) (by intro x hx; simp at hx; unfold I64; omega) hblk (by simpa using hy10)
  clear hblk hc1 ho1 hy hy'
  go_wp2
  go_ret
  exact ⟨v, rfl, hv, HC1.out, HT1.out⟩

theorem l1Min_any (x y : Int) (w : World) : Calls Try.prog 115 #[.int .i64 x, .int .i64 y] w fun e w' => e = .returned (.int .i64 (if x < y then x else y)) ∧ w = w' := by
  by_cases h : x < y
  · rw [if_pos h]
    go_enter Try.func115, Try.ntmps115
    go_wp2
    go_ret
    exact ⟨rfl, rfl⟩
  · rw [if_neg h]
    go_enter Try.func115, Try.ntmps115
    go_wp2
    go_ret
    exact ⟨rfl, rfl⟩

set_option maxHeartbeats 1600000 in
theorem l1Num_any (c nb : Nat) (bv : Value) (m : Nat) (w : World) (hc : CurAt w c bv nb) (hb : BytesAt w c bv nb) (hm4 : 4 ≤ m) (hm : m ≤ 1000000) : Calls Try.prog 121 #[.pointer (some ⟨c, 0, none⟩), .int .i64 (m : Int)] w (DrewN w c bv nb) := by
  have hcw := hc.lt
  have HBY := Lib.hid hb
  have HC := Lib.hid hc
  clear hc hb
  go_enter Try.func121, Try.ntmps121
  go_wp2_with fail
  refine (l1Once_any c nb bv _ _ HC.out HBY.out (by unfold I64; omega)).mono ?_
  rintro e w1 ⟨b1, rfl, hc1, ho1⟩
  have HT1 : Hid (Touched c (c + 1) w w1) := (Touched.refl _ _ _).only ho1
  have HC1 := Lib.hid hc1
  clear hc1 ho1
  cases b1 with
  | true =>
    go_wp2_with fail
    refine (l1Odd_any c nb bv _ HC1.out (HT1.out.bytes HBY.out (Nat.le_of_lt hcw))).mono ?_
    rintro e w2 ⟨x2, rfl, hx2, hc2, ht2⟩
    have HT2 := Lib.hid (HT1.out.trans ht2)
    have HC2 := Lib.hid hc2
    have HX2 := Lib.hid hx2
    have hcw2 := hc2.lt
    have hb2 : ∀ o, Below w2.heap.size w2 (w2.alloc o) := fun o => (Below.refl _ _).alloc (Nat.le_refl _) _
    have HB2 := Lib.hid hb2
    clear hc2 ht2 hx2 hb2
    go_wp2_with fail
    refine (l1Below_any c nb bv _ _ (HC2.out.keepB (HB2.out _) hcw2) ((HT2.out.bytes HBY.out (Nat.le_of_lt hcw)).keepB (HB2.out _) (Nat.le_of_lt hcw2)) (by unfold I64; omega)).mono ?_
    rintro e w3 ⟨y, rfl, hy, hc3, ho3⟩
    have hy' := hy.2 (by omega)
    obtain ⟨y', rfl⟩ : ∃ y' : Nat, y = (y' : Int) := ⟨y.toNat, by omega⟩
    have hy4 : y' < 4 := by omega
    have hblk : w3.heap[w2.heap.size]? = _ := (ho3.other w2.heap.size (by omega)).trans (heap_alloc_new w2 _)
    have HT3 : Hid (Touched c (c + 1) w w3) := ((HT2.out.under (HB2.out _) HT2.out.size)).only ho3
    have HC3 := Lib.hid hc3
    obtain ⟨v, hv, hcell⟩ := list_cell (vs := [-1, (m : Int), (m : Int) + 1, x2]) (by intro x hx; simp at hx; rcases hx with rfl | rfl | rfl | rfl; (unfold I64; omega); (unfold I64; omega); (unfold I64; omega); exact HX2.out) hblk (by simpa using hy4)
    clear hblk hc3 ho3 hy hy'
    go_wp2
    go_ret
    exact ⟨v, rfl, hv, HC3.out, HT3.out⟩
  | false =>
    go_wp2_with fail
    refine (l1Once_any c nb bv _ _ HC1.out (HT1.out.bytes HBY.out (Nat.le_of_lt hcw)) (by unfold I64; omega)).mono ?_
    rintro e w2 ⟨b2, rfl, hc2, ho2⟩
    have HT2 := Lib.hid (HT1.out.only ho2)
    have HC2 := Lib.hid hc2
    clear hc2 ho2
    cases b2 with
    | true =>
      go_wp2_with fail
      refine (l1Min_any _ _ _).mono ?_
      rintro e w' ⟨rfl, rfl⟩
      obtain ⟨z, hz⟩ : ∃ z : Int, z = (if (m : Int) < 4 then (m : Int) else 4) := ⟨_, rfl⟩
      have hz4 : z = 4 := by rw [hz, if_neg (by omega)]
      rw [← hz, hz4]
      clear hz hz4
      go_wp2_with fail
      refine (l1Below_any c nb bv _ _ HC2.out (HT2.out.bytes HBY.out (Nat.le_of_lt hcw)) (by unfold I64; omega)).mono ?_
      rintro e w3 ⟨y, rfl, hy, hc3, ho3⟩
      have hy' := hy.2 (by omega)
      have HP : Hid (DrewN w c bv nb (.returned (.int .i64 y)) w3) := ⟨y, rfl, by unfold I64; omega, hc3, HT2.out.only ho3⟩
      clear hy hy' hc3 ho3
      go_wp2
      go_ret
      exact HP.out
    | false =>
      go_wp2_with fail
      refine (l1Below_any c nb bv _ _ HC2.out (HT2.out.bytes HBY.out (Nat.le_of_lt hcw)) (by unfold I64; omega)).mono ?_
      rintro e w3 ⟨y, rfl, hy, hc3, ho3⟩
      have hy' := hy.2 (by omega)
      have HP : Hid (DrewN w c bv nb (.returned (.int .i64 y)) w3) := ⟨y, rfl, by unfold I64; omega, hc3, HT2.out.only ho3⟩
      clear hy hy' hc3 ho3
      go_wp2
      go_ret
      exact HP.out

end Go.Proofs.Ytikfbfclbmlopaa

/- Words for l1DrawAny: a graph of one's own, of any rows, in a box. -/
namespace Go.Proofs.Ytikfbfclbmlopaa
open Go.RowKit

/-- Some graph of the call's own has been drawn. -/
def DrewG (w : World) (c : Nat) (bv : Value) (nb : Nat) (e : Ending) (w' : World) : Prop :=
  ∃ L n a cap, e = .returned (.agg #[.slice a n cap]) ∧ OwnGrid 2 34 w' w.heap.size (.slice a n cap) L ∧ CurAt w' c bv nb ∧ Touched c (c + 1) w w'
/-- In the midst of l1DrawAny. -/
def MidG (w : World) (c : Nat) (bv : Value) (nb b : Nat) (wr : World) : Prop :=
  ∃ L n a cap, BoxT 26 wr b (.slice a n cap) ∧ OwnGrid 2 34 wr (w.heap.size + 1) (.slice a n cap) L ∧ BoxAt wr w.heap.size (.slice none 0 0) ∧ CurAt wr c bv nb ∧ Touched c (c + 1) w wr
theorem MidG.done {w : World} {c nb b : Nat} {bv : Value} {wr : World} (h : MidG w c bv nb b wr) (hc : c < w.heap.size) :
    ∃ n a cap, wr.cell? ⟨b, 0, none⟩ = some (.slice a n cap) ∧ wr.cell? ⟨w.heap.size, 0, none⟩ = some (.slice none 0 0) ∧ wr.frozen? ⟨w.heap.size, 0, none⟩ = false ∧ (wr.setCell ⟨w.heap.size, 0, none⟩ (.slice a n cap)).cell? ⟨w.heap.size, 0, none⟩ = some (.slice a n cap) ∧ DrewG w c bv nb (.returned (.agg #[.slice a n cap])) (wr.setCell ⟨w.heap.size, 0, none⟩ (.slice a n cap)) := by
  obtain ⟨L, n, a, cap, h1, h2, h3, h4, h5⟩ := h
  exact ⟨n, a, cap, h1.box.1, h3.1, h3.2, cell_set_same _ h3.1, L, n, a, cap, rfl, (h2.setBelow (by simp) _).mono (by omega), h4.setOther (by simp; omega) _, h5.set (by simp) _⟩
theorem MidG.only {w : World} {c nb b : Nat} {bv : Value} {wr w1 : World} (h : MidG w c bv nb b wr) (hc : c < w.heap.size) (hb : w.heap.size < b) (ho : OnlyBlk c wr w1) (hcur : CurAt w1 c bv nb) : MidG w c bv nb b w1 := by
  obtain ⟨L, n, a, cap, h1, h2, h3, _, h5⟩ := h
  exact ⟨L, n, a, cap, h1.only ho (by omega), h2.touched (ho.touched (Nat.le_refl _) (Nat.lt_succ_self c)) (by omega), h3.only ho (by omega), hcur, h5.only ho⟩
/-- Another graph laid into the box. -/
theorem MidG.put {w : World} {c nb b : Nat} {bv : Value} {wr w1 : World} (h : MidG w c bv nb b wr) (hc : c < w.heap.size) (hb : w.heap.size < b) (hbel : Below wr.heap.size wr w1) {n cap : Nat} {a : Option Addr} {L : List (List Int)} (ho : OwnGrid 2 34 w1 (w.heap.size + 1) (.slice a n cap) L) :
    w1.frozen? ⟨b, 0, none⟩ = false ∧ (∃ v, w1.cell? ⟨b, 0, none⟩ = some v) ∧ MidG w c bv nb b (w1.setCell ⟨b, 0, none⟩ (.slice a n cap)) := by
  obtain ⟨_, _, _, _, h1, _, h3, h4, h5⟩ := h
  have b1 := h1.keep hbel
  refine ⟨b1.box.2, ⟨_, b1.box.1⟩, L, n, a, cap, b1.set _, ho.setType b1 (by decide) (by decide) 0 _, (h3.keep hbel).setOther (by simp; omega) _, (h4.keepB hbel h4.lt).setOther (by simp; omega) _, (h5.under hbel h5.size).set (by simp; omega) _⟩
theorem own_one {T : TypeId} {w : World} {x : Int} (hx : I64 x) : OwnRow T (w.alloc (.cells #[.int .i64 x] T)) w.heap.size (.slice (some ⟨w.heap.size, 0, none⟩) 1 1) [x] := by
  refine ⟨by intro y hy; simp at hy; subst hy; exact hx, by unfold maxLen; simp, Or.inr ⟨w.heap.size, 1, #[.int .i64 x], rfl, Nat.le_refl _, heap_alloc_new _ _, Nat.le_refl _, by unfold maxLen; omega, rfl, fun i hi => ?_⟩⟩
  have : i = 0 := by simpa using hi
  subst this; rfl

/-- A row of the graph in the box put anew, out of new memory. -/
theorem MidG.row {w : World} {c nb b : Nat} {bv : Value} {wr w1 : World} {g n cap : Nat} (h1 : BoxT 26 wr b (.slice (some ⟨g, 0, none⟩) n cap)) {L : List (List Int)} (h2 : OwnGrid 2 34 wr (w.heap.size + 1) (.slice (some ⟨g, 0, none⟩) n cap) L) (h3 : BoxAt wr w.heap.size (.slice none 0 0)) (h4 : CurAt wr c bv nb) (h5 : Touched c (c + 1) w wr)
    (hc : c < w.heap.size) (hb : w.heap.size < b) (hbel : Below wr.heap.size wr w1) {i : Nat} (hi : i < L.length) {rv : Value} {xs : List Int} (hr : OwnRow 2 w1 wr.heap.size rv xs) :
    MidG w c bv nb b (w1.setCell ⟨g, i, none⟩ rv) := by
  have hgne : g ≠ b := by
    obtain ⟨cur, hcur⟩ := h2.blkT
    intro e
    rw [e] at hcur
    have hbb : wr.heap[b]? = _ := h1
    rw [hcur] at hbb
    simp at hbb
  obtain ⟨g', cap', eg, hBg, hgs, _⟩ := h2.place (by omega)
  simp only [Value.slice.injEq, Option.some.injEq, Addr.mk.injEq, and_true] at eg
  obtain ⟨rfl, _, _⟩ := eg
  refine ⟨L.set i xs, n, _, cap, (h1.keep hbel).setOther (by simp; omega) _, h2.setRow (by decide) hbel hi (hr.mono (by have := h1.lt; omega)) (fun k hk => Or.inl (hr.lt k hk).1), (h3.keep hbel).setOther (by simp; omega) _, (h4.keepB hbel h4.lt).setOther (by simp; omega) _, (h5.under hbel h5.size).set (by simp; omega) _⟩

end Go.Proofs.Ytikfbfclbmlopaa

/- A row of one's own grid, appended to where it lies or anew, and put back. -/
namespace Go.Proofs.Ytikfbfclbmlopaa
open Go.RowKit

theorem OwnRow.far {T : TypeId} {w w' : World} {B : Nat} {v : Value} {xs : List Int} {r : Option Nat} (h : OwnRow T w B v xs) (hg : w.grownBy w' r) (hne : ∀ k, v.ownBlock = some k → some k ≠ r) : OwnRow T w' B v xs := by
  obtain ⟨h1, h2, h3⟩ := h
  refine ⟨h1, h2, ?_⟩
  rcases h3 with h3 | ⟨g, cap, cur, e, hgB, hh, rest⟩
  · exact Or.inl h3
  · refine Or.inr ⟨g, cap, cur, e, hgB, ?_, rest⟩
    rw [hg.block g (Array.getElem?_eq_some_iff.1 hh).1 (hne g (by rw [e]; rfl))]
    exact hh

theorem OwnGrid.growRow {T T1 : TypeId} {w w' : World} {B g n cap i : Nat} {L : List (List Int)} {rv rv2 : Value} {xs : List Int} (hT : T ≠ T1) (h : OwnGrid T T1 w B (.slice (some ⟨g, 0, none⟩) n cap) L) (hi : i < L.length) (hci : w.cell? ⟨g, i, none⟩ = some rv) (hg : w.grownBy w' rv.ownBlock) (hr : OwnRow T w' B rv2 xs)
    (hblk : ∀ k, rv2.ownBlock = some k → rv.ownBlock = some k ∨ w.heap.size ≤ k) :
    OwnGrid T T1 (w'.setCell ⟨g, i, none⟩ rv2) B (.slice (some ⟨g, 0, none⟩) n cap) (L.set i xs) := by
  obtain ⟨R, h2, h3, h4, h5⟩ := h
  rcases h3 with ⟨e, _⟩ | ⟨g', cap', cur, e, hgB, hh, l1, l2, hs, hc⟩
  · cases e
  · simp only [Value.slice.injEq, Option.some.injEq, Addr.mk.injEq, and_true] at e
    obtain ⟨rfl, rfl, rfl⟩ := e
    obtain ⟨hlt, _⟩ := Array.getElem?_eq_some_iff.1 hh
    have hRi : R i = rv := by
      have : w.cell? ⟨g, i, none⟩ = some (R i) := by rw [cell_of_row w g i cur _ _ hh]; exact hc i hi
      rw [hci] at this
      cases this; rfl
    have hgne : some g ≠ rv.ownBlock := by
      intro e
      obtain ⟨c2, hc2⟩ := (h4 i hi).blk (g := g) (by rw [hRi]; exact e.symm)
      rw [hh] at hc2
      simp at hc2
      exact hT hc2.2.symm
    have hh' : w'.heap[g]? = some (.cells cur T1 (0, 0)) := by rw [hg.block g hlt hgne]; exact hh
    have hne : ∀ u ys, OwnRow T w' B u ys → u.ownBlock ≠ some g := by
      intro u ys hu hub
      obtain ⟨c2, hc2⟩ := hu.blk hub
      rw [hh'] at hc2
      simp at hc2
      exact hT hc2.2.symm
    have hfar : ∀ j, j ≠ i → j < L.length → OwnRow T w' B (R j) (nthR L j) := by
      intro j hji hjl
      refine (h4 j hjl).far hg (fun k hk e => ?_)
      rw [← hRi] at e
      rcases Nat.lt_or_gt_of_ne hji with h7 | h7
      · exact h5 j i k h7 hi hk e.symm
      · exact h5 i j k h7 hjl e.symm hk
    have hlen : (L.set i xs).length = L.length := by simp
    have hnth : ∀ j, nthR (L.set i xs) j = if j = i then xs else nthR L j := by
      intro j
      unfold nthR
      by_cases e : j = i
      · subst e; simp [hi]
      · simp only [e, if_false]
        rw [List.getD_eq_getElem?_getD, List.getD_eq_getElem?_getD, List.getElem?_set_ne (by omega)]
    refine ⟨fun j => if j = i then rv2 else R j, by rw [hlen]; exact h2, Or.inr ⟨g, cap, cur.setIfInBounds i rv2, by rw [hlen], hgB, heap_setCell_same w' g i cur T1 rv2 hh', by rw [hlen]; exact l1, l2, by rw [Array.size_setIfInBounds]; exact hs, fun j hj => ?_⟩, fun j hj => ?_, fun p q k hpq hq hk => ?_⟩
    · rw [hlen] at hj
      rw [Array.getElem?_setIfInBounds]
      by_cases e : i = j
      · subst e
        rw [if_pos rfl, if_pos (by omega)]
        simp
      · rw [if_neg e, hc j hj]
        simp [show ¬ j = i from fun h => e h.symm]
    · rw [hlen] at hj
      rw [hnth j]
      by_cases e : j = i
      · simp only [e, if_true]
        exact hr.setCell (hne rv2 xs hr) _
      · simp only [e, if_false]
        have := hfar j e hj
        exact this.setCell (hne _ _ this) _
    · rw [hlen] at hq
      have fresh : ∀ j, j ≠ i → j < L.length → ∀ k, rv2.ownBlock = some k → (R j).ownBlock ≠ some k := by
        intro j hji hjl k hk2 hj2
        rcases hblk k hk2 with h6 | h6
        · rw [← hRi] at h6
          rcases Nat.lt_or_gt_of_ne hji with h7 | h7
          · exact h5 j i k h7 hi hj2 h6
          · exact h5 i j k h7 hjl h6 hj2
        · have := ((h4 j hjl).lt k hj2).2; omega
      simp only at hk ⊢
      by_cases e1 : p = i
      · have e2 : ¬ q = i := by omega
        simp only [e1, if_true] at hk
        simp only [e2, if_false]
        exact fresh q e2 hq k hk
      · simp only [e1, if_false] at hk
        by_cases e2 : q = i
        · simp only [e2, if_true]
          intro h8
          exact fresh p e1 (by omega) k h8 hk
        · simp only [e2, if_false]
          exact h5 p q k hpq hq hk

/-- A row of the graph in the box appended to. -/
theorem MidG.grow {w : World} {c nb b : Nat} {bv : Value} {w6 w7 : World} {g n cap : Nat} (h1 : BoxT 26 w6 b (.slice (some ⟨g, 0, none⟩) n cap)) {L : List (List Int)} (h2 : OwnGrid 2 34 w6 (w.heap.size + 1) (.slice (some ⟨g, 0, none⟩) n cap) L) (h3 : BoxAt w6 w.heap.size (.slice none 0 0)) (h4 : CurAt w6 c bv nb) (h5 : Touched c (c + 1) w w6)
    (hc : c < w.heap.size) {i : Nat} (hi : i < L.length) {rv : Value} {xs : List Int} {x : Int} (hci : w6.cell? ⟨g, i, none⟩ = some rv) (hfi : w6.frozen? ⟨g, i, none⟩ = false) (hrv : OwnRow 2 w6 (w.heap.size + 1) rv xs) (hx : I64 x) (hxl : xs.length ≤ 1000)
    {g7 m7 cap7 : Nat} (hown : w7.ownsRow (w.heap.size + 1) 2 1 (.slice (some ⟨g7, 0, none⟩) m7 cap7) m7 (xs.map (Value.int .i64) ++ [.int .i64 x])) (hgrow : (w6.alloc (.cells #[.int .i64 x] 2)).grownBy w7 rv.ownBlock) (hat : rv.ownBlock = some g7 ∨ g7 = w6.heap.size + 1) :
    w7.cell? ⟨b, 0, none⟩ = some (.slice (some ⟨g, 0, none⟩) n cap) ∧ w7.cell? ⟨g, i, none⟩ = some rv ∧ w7.frozen? ⟨g, i, none⟩ = false ∧ MidG w c bv nb b (w7.setCell ⟨g, i, none⟩ (.slice (some ⟨g7, 0, none⟩) m7 cap7)) := by
  have hal : Below w6.heap.size w6 (w6.alloc (.cells #[.int .i64 x] 2)) := (Below.refl _ _).alloc (Nat.le_refl _) _
  obtain ⟨cur, hcur⟩ := h2.blkT
  have hgs : g < w6.heap.size := (Array.getElem?_eq_some_iff.1 hcur).1
  have hbs := h1.lt
  have hgne : g ≠ b := by
    intro e
    rw [e] at hcur
    have hbb : w6.heap[b]? = _ := h1
    rw [hcur] at hbb
    simp at hbb
  have nb1 : some b ≠ rv.ownBlock := by
    intro e
    obtain ⟨c2, hc2⟩ := hrv.blk e.symm
    have hbb : w6.heap[b]? = _ := h1
    rw [hc2] at hbb
    simp at hbb
  have ng1 : some g ≠ rv.ownBlock := by
    intro e
    obtain ⟨c2, hc2⟩ := hrv.blk e.symm
    rw [hcur] at hc2
    simp at hc2
  have nl : ∀ j, j ≤ w.heap.size → some j ≠ rv.ownBlock := fun j hj e => by have := (hrv.lt j e.symm).1; omega
  have same : ∀ j, j < w6.heap.size → some j ≠ rv.ownBlock → w7.heap[j]? = w6.heap[j]? := fun j hj hne => (hgrow.block j (by rw [size_alloc1]; omega) hne).trans (hal.block j hj)
  have hws : w.heap.size < w6.heap.size := h3.lt
  have bt7 : BoxT 26 w7 b (.slice (some ⟨g, 0, none⟩) n cap) := by unfold BoxT; rw [same b hbs nb1]; exact h1
  have hro : OwnRow 2 w7 (w.heap.size + 1) (.slice (some ⟨g7, 0, none⟩) m7 cap7) (xs ++ [x]) := OwnRow.of_ownsRow (n := m7) (by simpa using hown) (by simp; unfold maxLen; omega) (by intro y hy; rcases List.mem_append.1 hy with h | h; exact hrv.1 y h; simp at h; subst h; exact hx)
  refine ⟨bt7.box.1, by rw [World.cell?_of_block (w := w6) (same g hgs ng1)]; exact hci, by rw [World.frozen?_of_block (w := w6) (same g hgs ng1)]; exact hfi, L.set i (xs ++ [x]), n, _, cap, bt7.setOther (by simp; omega) _, ?_, ?_, ?_, ?_⟩
  · refine OwnGrid.growRow (by decide) (h2.keep hal) hi (by rw [hal.cell hgs]; exact hci) hgrow hro (fun k hk => ?_)
    have : k = g7 := by simpa [Value.ownBlock] using hk.symm
    subst this
    rcases hat with h | h
    · exact Or.inl h
    · right; rw [size_alloc1]; omega
  · refine BoxAt.setOther ?_ (by simp; have := (h2.place (by omega)); obtain ⟨g', _, eg, hBg, _⟩ := this; simp only [Value.slice.injEq, Option.some.injEq, Addr.mk.injEq, and_true] at eg; obtain ⟨rfl, _⟩ := eg; omega) _
    exact ⟨by rw [World.cell?_of_block (w := w6) (same _ hws (nl _ (Nat.le_refl _)))]; exact h3.1, by rw [World.frozen?_of_block (w := w6) (same _ hws (nl _ (Nat.le_refl _)))]; exact h3.2⟩
  · have hBg : w.heap.size + 1 ≤ g := by obtain ⟨g', _, eg, hBg, _⟩ := h2.place (by omega); simp only [Value.slice.injEq, Option.some.injEq, Addr.mk.injEq, and_true] at eg; obtain ⟨rfl, _⟩ := eg; exact hBg
    obtain ⟨i4, k4, hi4, hh4⟩ := h4
    exact CurAt.setOther ⟨i4, k4, hi4, by rw [same c (by omega) (nl c (by omega))]; exact hh4⟩ (by simp; omega) _
  · have hBg : w.heap.size + 1 ≤ g := by obtain ⟨g', _, eg, hBg, _⟩ := h2.place (by omega); simp only [Value.slice.injEq, Option.some.injEq, Addr.mk.injEq, and_true] at eg; obtain ⟨rfl, _⟩ := eg; exact hBg
    refine Touched.set ⟨?_, ?_, ?_, ?_, ?_⟩ (by simp; omega) _
    · exact (hgrow.os.trans hal.os).trans h5.os
    · exact (hgrow.tape.trans hal.tape).trans h5.tape
    · exact (hgrow.output.trans hal.output).trans h5.output
    · have := hgrow.size; rw [size_alloc1] at this; have := h5.size; omega
    · intro j hj hj2
      rw [same j (by omega) (nl j (by omega))]
      exact h5.other j hj hj2

end Go.Proofs.Ytikfbfclbmlopaa

/- Walks: l1DrawAny. -/
namespace Go.Proofs.Ytikfbfclbmlopaa
open Go.RowKit

set_option maxHeartbeats 16000000 in
set_option maxRecDepth 100000 in
theorem l1DrawAny_any (c nb : Nat) (bv : Value) (w : World) (hc : CurAt w c bv nb) (hb : BytesAt w c bv nb) : Calls Try.prog 69 #[.pointer (some ⟨c, 0, none⟩)] w (DrewG w c bv nb) := by
  have hcw := hc.lt
  obtain ⟨i0, hi, hz0, hz1, hz2⟩ := info_parts Try.infoI
  have hb0 : Below w.heap.size w (w.alloc (.cells #[.slice none 0 0] 26)) := (Below.refl _ _).alloc (Nat.le_refl _) _
  have hbx0 : BoxAt (w.alloc (.cells #[.slice none 0 0] 26)) w.heap.size (.slice none 0 0) := BoxAt.new _ _ _
  have HBY := Lib.hid hb
  have HC0 := Lib.hid (hc.keepB hb0 hcw)
  have HBY0 := Lib.hid (hb.keepB hb0 (Nat.le_of_lt hcw))
  have HB0 := Lib.hid hb0
  have HBX0 := Lib.hid hbx0
  clear hc hb hb0 hbx0
  go_enter Try.func69, Try.ntmps69
  go_wp2_with fail
  refine (l1Draw_any c nb bv _ HC0.out HBY0.out).mono ?_
  rintro e w1 ⟨n, M, a, cap, hn1, hn, rfl, ho1, hc1, ht1⟩
  rw [size_alloc1] at ho1
  have hs1 : w.heap.size + 1 ≤ w1.heap.size := by have := ht1.size; rw [size_alloc1] at this; exact this
  have hst : Below w1.heap.size w1 (w1.alloc (.cells #[.slice a n cap] 26)) := (Below.refl _ _).alloc (Nat.le_refl _) _
  have hT : Touched c (c + 1) w (w1.alloc (.cells #[.slice a n cap] 26)) := ((Touched.ofBelow HB0.out).trans ht1).under hst (by omega)
  have hX : BoxAt (w1.alloc (.cells #[.slice a n cap] 26)) w.heap.size (.slice none 0 0) := (HBX0.out.touched ht1 (by omega) (by simp)).keep hst
  obtain ⟨g, cap', eg, hBg, hgs, hcell1⟩ := ho1.place (by rw [maskL_len]; omega)
  clear hcell1
  rw [maskL_len] at eg
  simp only [Value.slice.injEq, true_and] at eg
  obtain ⟨rfl, rfl⟩ := eg
  have HO2 := Lib.hid (ho1.keep hst)
  have HBT2 := Lib.hid (BoxT.new w1 (.slice (some ⟨g, 0, none⟩) n cap) 26)
  have HC2 := Lib.hid (hc1.keepB hst hc1.lt)
  have HT2 := Lib.hid hT
  have HX2 := Lib.hid hX
  clear ho1 hc1 ht1 hst hT hX HC0 HBY0 HB0 HBX0
  go_wp2_with fail
  refine (l1Once_any c nb bv _ _ HC2.out (HT2.out.bytes HBY.out (Nat.le_of_lt hcw)) (by unfold I64; omega)).mono ?_
  rintro e w3 ⟨b3, rfl, hc3, ho3⟩
  have HO3 := Lib.hid (HO2.out.touched (ho3.touched (Nat.le_refl _) (Nat.lt_succ_self c)) (by omega))
  have HBT3 := Lib.hid (HBT2.out.only ho3 (by omega))
  have HC3 := Lib.hid hc3
  have HT3 := Lib.hid (HT2.out.only ho3)
  have HX3 := Lib.hid (HX2.out.only ho3 (by omega))
  clear hc3 ho3 HO2 HBT2 HC2 HT2 HX2
  cases b3 with
  | false =>
    have hmid : MidG w c bv nb w1.heap.size w3 := ⟨_, n, _, cap, HBT3.out, HO3.out, HX3.out, HC3.out, HT3.out⟩
    obtain ⟨n8, a8, cap8, kb8, k08, f08, q08, hp8⟩ := hmid.done hcw
    have HP := Lib.hid hp8
    have HQ := Lib.hid q08
    clear hmid hp8 q08
    go_wp2
    exact bodyPost_ret (v := .agg #[.slice a8 n8 cap8]) (by simp [results, Try.results69, go_sem, HQ.out]) rfl HP.out
  | true =>
    have kb3 := HBT3.out.box.1
    go_wp2_with fail
    refine (l1Below_any c nb bv _ _ HC3.out (HT3.out.bytes HBY.out (Nat.le_of_lt hcw)) (by unfold I64; omega)).mono ?_
    rintro e w4 ⟨y, rfl, hy, hc4, ho4⟩
    have hy' := hy.2 (by omega)
    obtain ⟨v, rfl⟩ : ∃ v : Nat, y = (v : Int) := ⟨y.toNat, by omega⟩
    have hv : v < n := by omega
    have HO4 := Lib.hid (HO3.out.touched (ho4.touched (Nat.le_refl _) (Nat.lt_succ_self c)) (by omega))
    have HBT4 := Lib.hid (HBT3.out.only ho4 (by omega))
    have HC4 := Lib.hid hc4
    have HT4 := Lib.hid (HT3.out.only ho4)
    have HX4 := Lib.hid (HX3.out.only ho4 (by omega))
    clear hc4 ho4 HO3 HBT3 HC3 HT3 HX3 hy hy' kb3
    go_wp2_with fail
    refine (l1Below_any c nb bv _ _ HC4.out (HT4.out.bytes HBY.out (Nat.le_of_lt hcw)) (by unfold I64; omega)).mono ?_
    rintro e w5 ⟨z, rfl, hz, hc5, ho5⟩
    have hz' := hz.2 (by omega)
    have HO5 := Lib.hid (HO4.out.touched (ho5.touched (Nat.le_refl _) (Nat.lt_succ_self c)) (by omega))
    have HBT5 := Lib.hid (HBT4.out.only ho5 (by omega))
    have HC5 := Lib.hid hc5
    have HT5 := Lib.hid (HT4.out.only ho5)
    have HX5 := Lib.hid (HX4.out.only ho5 (by omega))
    clear hc5 ho5 HO4 HBT4 HC4 HT4 HX4 hz
    obtain ⟨g', cap', eg, _, hgs5, hcell5⟩ := HO5.out.place (by rw [maskL_len]; omega)
    simp only [maskL_len, Value.slice.injEq, Option.some.injEq, Addr.mk.injEq, and_true, true_and] at eg
    obtain ⟨rfl, rfl⟩ := eg
    obtain ⟨ar, nr, cr, kr, fr, hor⟩ := hcell5 v (by rw [maskL_len]; exact hv)
    have kb5 := HBT5.out.box.1
    have kf5 := HBT5.out.box.2
    have HKR := Lib.hid kr
    have HFR := Lib.hid fr
    have HOR := Lib.hid hor
    have hmid5 : MidG w c bv nb w1.heap.size w5 := ⟨_, n, _, cap, HBT5.out, HO5.out, HX5.out, HC5.out, HT5.out⟩
    have HM5 := Lib.hid hmid5
    clear hcell5 hor hmid5
    have hvn : (v : Int) < (n : Int) := by omega
    by_cases e0 : z = 0
    · subst e0
      obtain ⟨xs, hxs⟩ : ∃ xs, xs = nthR (maskL n M) v := ⟨_, rfl⟩
      have hxl : xs.length ≤ 16 := by rw [hxs, maskL_nth M hv]; exact listM_len _
      rw [← hxs] at HOR
      have hws5 : w1.heap.size < w5.heap.size := HBT5.out.lt
      clear hxs
      have HC3 : Hid (xs.length + 1 ≤ maxLen) := by show _ ≤ _; unfold maxLen; omega
      have HC4 : Hid ((xs.length + 1) * 8 ≤ 140737488355328) := by show _ ≤ _; omega
      go_wp2_with fail
      go_region_law (first
        | (go_simp; go_at_call 121; refine (l1Num_any c nb bv 16 _ (HC5.out.keepB (Below.refl _ _).drew HC5.out.lt) ((HT5.out.bytes HBY.out (Nat.le_of_lt hcw)).keepB (Below.refl w5.heap.size _).drew (Nat.le_of_lt HC5.out.lt)) (by omega) (by omega)).mono ?_; rintro e w6 ⟨x6, rfl, hx6, hc6, ht6⟩; have ht6' : Touched c (c + 1) w5 w6 := (Touched.ofBelow (Below.refl _ _).drew).trans ht6; have HT6 := Lib.hid (HT5.out.trans ht6'); have HC6 := Lib.hid hc6; have HX6x := Lib.hid hx6; have HX6 := Lib.hid (HX5.out.touched ht6' (by omega) (by omega)); have HO6 := Lib.hid (HO5.out.touched ht6' (by omega)); have HOR6 := Lib.hid (HOR.out.touched ht6' (by omega)); have hb6 : w6.heap[w1.heap.size]? = w5.heap[w1.heap.size]? := ht6'.other _ hws5 (by omega); have hg6 : w6.heap[g]? = w5.heap[g]? := ht6'.other _ hgs5 (by omega); have HBT6 : Hid (BoxT 26 w6 w1.heap.size (.slice (some ⟨g, 0, none⟩) n cap)) := (by unfold Hid BoxT; rw [hb6]; exact HBT5.out); have kb6 := HBT6.out.box.1; have kr6 : w6.cell? ⟨g, v, none⟩ = some (.slice ar nr cr) := (World.cell?_of_block (w := w5) hg6).trans HKR.out; have fr6 : w6.frozen? ⟨g, v, none⟩ = false := (World.frozen?_of_block (w := w5) hg6).trans HFR.out; have HKR6 := Lib.hid kr6; have HFR6 := Lib.hid fr6; have hws6 : w1.heap.size < w6.heap.size := HBT6.out.lt; have hgs6 : g < w6.heap.size := Nat.lt_of_lt_of_le hgs5 ht6'.size; have HC5z : Hid (∀ o, w.heap.size + 1 ≤ (w6.alloc o).heap.size) := (fun o => (by rw [size_alloc1]; omega)); clear hx6 hc6 ht6 ht6' hb6 hg6)
        | (refine step_append_lies _ (by rfl) (.tmp 25) (.tmp 28) 34 (by rfl) (w.heap.size + 1) 2 i0 (.int .i64 0) 1 8 Try.underlying34 hi hz0 hz1 hz2 rfl (by omega) (.slice ar nr cr) xs.length (xs.map (Value.int .i64)) (by rfl) (HOR6.out.owns.alloc _) ⟨w6.heap.size, 0, none⟩ 1 1 [.int .i64 x6] (by rfl) rfl (World.news_of_block (heap_alloc_new _ _)) (ints_one [x6]) Nat.one_pos HC3.out HC4.out (HC5z.out _) (w6.heap.size + 1) (size_alloc1 _ _) ?_; intro g7 cap7 w7 hown7 hgrow7 hat7 hlt7; obtain ⟨kb7, kr7, fr7, hm7⟩ := MidG.grow HBT6.out HO6.out HX6.out HC6.out HT6.out hcw (by rw [maskL_len]; exact hv) HKR6.out HFR6.out HOR6.out HX6x.out (by omega) hown7 hgrow7 hat7; have HM6 := Lib.hid hm7; clear hown7 hgrow7 hat7 hlt7 hm7))
      all_goals (
        go_upto_region 15 with fail
        generalize (w7.setCell ⟨g, v, none⟩ (.slice (some ⟨g7, 0, none⟩) (xs.length + 1) cap7)) = W8 at HM6 ⊢
        obtain ⟨n8, a8, cap8, kb8, k08, f08, q08, hp8⟩ := HM6.out.done hcw
        have HP := Lib.hid hp8
        have HQ := Lib.hid q08
        clear hp8 q08 kb5 kf5 kr fr kb6 kr6 fr6 kb7 kr7 fr7
        go_wp2
        exact bodyPost_ret (v := .agg #[.slice a8 n8 cap8]) (by simp [results, Try.results69, go_sem, HQ.out]) rfl HP.out)
    · have d0 : (z == 0) = false := by rw [beq_eq_false_iff_ne]; exact e0
      by_cases e1 : z = 1
      · subst e1
        have hbel : Below w5.heap.size w5 (w5.alloc (.cells #[.int .i64 (v : Int)] 2)) := (Below.refl _ _).alloc (Nat.le_refl _) _
        have hm6 : MidG w c bv nb w1.heap.size ((w5.alloc (.cells #[.int .i64 (v : Int)] 2)).setCell ⟨g, v, none⟩ (.slice (some ⟨w5.heap.size, 0, none⟩) 1 1)) := MidG.row HBT5.out HO5.out HX5.out HC5.out HT5.out hcw (by omega) hbel (by rw [maskL_len]; exact hv) (own_one (by unfold I64; omega))
        rw [World.setCell_alloc_past _ _ _ _ hgs5] at hm6
        have HM6 := Lib.hid hm6
        clear hbel hm6
        go_upto_region 15 with fail
        generalize ((w5.setCell ⟨g, v, none⟩ (.slice (some ⟨w5.heap.size, 0, none⟩) 1 1)).alloc (.cells #[.int .i64 (v : Int)] 2)) = W8 at HM6 ⊢
        obtain ⟨n8, a8, cap8, kb8, k08, f08, q08, hp8⟩ := HM6.out.done hcw
        have HP := Lib.hid hp8
        have HQ := Lib.hid q08
        clear hp8 q08 kb5 kf5 kr fr
        go_wp2
        exact bodyPost_ret (v := .agg #[.slice a8 n8 cap8]) (by simp [results, Try.results69, go_sem, HQ.out]) rfl HP.out
      · have d1 : (z == 1) = false := by rw [beq_eq_false_iff_ne]; exact e1
        by_cases e2 : z = 2
        · subst e2
          go_wp2_with fail
          refine (l1Below_any c nb bv _ _ HC5.out (HT5.out.bytes HBY.out (Nat.le_of_lt hcw)) (by unfold I64; omega)).mono ?_
          rintro e w6 ⟨t, rfl, ht, hc6, ho6⟩
          have ht' := ht.2 (by omega)
          obtain ⟨t', rfl⟩ : ∃ t' : Nat, t = (t' : Int) := ⟨t.toNat, by omega⟩
          have ht2 : t' < 2 := by omega
          have HMo := Lib.hid (HM5.out.only hcw (by omega) ho6 hc6)
          have hsz6 : w5.heap.size = w6.heap.size := ho6.size.symm
          clear ht ht' hc6 ho6
          have hem := l1Empty_any (16 + t') w6 (by omega)
          have e16 : ((16 + t' : Nat) : Int) = 16 + (t' : Int) := by omega
          rw [e16] at hem
          have HEM := Lib.hid hem
          clear hem e16
          go_wp2_with fail
          refine HEM.out.mono ?_
          rintro e w7 ⟨n7, a7, c7, rfl, ho7, hb7⟩
          have hbt := HBT5.out.lt
          obtain ⟨kf7, ⟨u7, kb7⟩, hm7⟩ := HMo.out.put hcw (by omega) hb7 (ho7.mono (by omega))
          have HM6 := Lib.hid hm7
          clear ho7 hb7 hm7 hbt
          go_upto_region 15 with fail
          generalize (w7.setCell ⟨w1.heap.size, 0, none⟩ (.slice a7 n7 c7)) = W8 at HM6 ⊢
          obtain ⟨n8, a8, cap8, kb8, k08, f08, q08, hp8⟩ := HM6.out.done hcw
          have HP := Lib.hid hp8
          have HQ := Lib.hid q08
          clear hp8 q08 kb5 kf5 kr fr
          go_wp2
          exact bodyPost_ret (v := .agg #[.slice a8 n8 cap8]) (by simp [results, Try.results69, go_sem, HQ.out]) rfl HP.out
        · have d2 : (z == 2) = false := by rw [beq_eq_false_iff_ne]; exact e2
          by_cases e3 : z = 3
          · subst e3
            obtain ⟨_, _, hm6⟩ := HM5.out.put hcw (by omega) (Below.refl _ _) (own_nil w5 (w.heap.size + 1))
            have HM6 := Lib.hid hm6
            clear hm6
            go_upto_region 15 with fail
            generalize (w5.setCell ⟨w1.heap.size, 0, none⟩ (.slice none 0 0)) = W8 at HM6 ⊢
            obtain ⟨n8, a8, cap8, kb8, k08, f08, q08, hp8⟩ := HM6.out.done hcw
            have HP := Lib.hid hp8
            have HQ := Lib.hid q08
            clear hp8 q08 kb5 kf5 kr fr
            go_wp2
            exact bodyPost_ret (v := .agg #[.slice a8 n8 cap8]) (by simp [results, Try.results69, go_sem, HQ.out]) rfl HP.out
          · have d3 : (z == 3) = false := by rw [beq_eq_false_iff_ne]; exact e3
            obtain rfl : z = 4 := by omega
            have hbel : Below w5.heap.size w5 (w5.alloc (.cells #[] 2)) := (Below.refl _ _).alloc (Nat.le_refl _) _
            have hm6 : MidG w c bv nb w1.heap.size ((w5.alloc (.cells #[] 2)).setCell ⟨g, v, none⟩ (.slice (some ⟨w5.heap.size, 0, none⟩) 0 0)) := MidG.row HBT5.out HO5.out HX5.out HC5.out HT5.out hcw (by omega) hbel (by rw [maskL_len]; exact hv) (own_empty w5)
            rw [World.setCell_alloc_past _ _ _ _ hgs5] at hm6
            have HM6 := Lib.hid hm6
            clear hbel hm6
            go_upto_region 15 with fail
            generalize ((w5.setCell ⟨g, v, none⟩ (.slice (some ⟨w5.heap.size, 0, none⟩) 0 0)).alloc (.cells #[] 2)) = W8 at HM6 ⊢
            obtain ⟨n8, a8, cap8, kb8, k08, f08, q08, hp8⟩ := HM6.out.done hcw
            have HP := Lib.hid hp8
            have HQ := Lib.hid q08
            clear hp8 q08 kb5 kf5 kr fr
            go_wp2
            exact bodyPost_ret (v := .agg #[.slice a8 n8 cap8]) (by simp [results, Try.results69, go_sem, HQ.out]) rfl HP.out

end Go.Proofs.Ytikfbfclbmlopaa

/- Walks: a new cursor; DrawEdgesOf; the size test of a code. -/
namespace Go.Proofs.Ytikfbfclbmlopaa
open Go.RowKit

theorem big_any (a : Option Addr) (n cap : Nat) (w : World) : Calls Try.prog 16 #[.slice a n cap] w fun e w' => e = .returned (.bool (decide ((4096 : Int) < (n : Int)))) ∧ w = w' := by
  go_enter Try.func16, Try.ntmps16
  go_wp2
  go_ret
  exact ⟨rfl, rfl⟩

set_option maxHeartbeats 1600000 in
theorem l1New_any (n : Nat) (bv : Value) (w : World) (hb : BytesAt w w.heap.size bv n) : Calls Try.prog 68 #[bv] w fun e w' => e = .returned (.pointer (some ⟨w.heap.size, 0, none⟩)) ∧ CurAt w' w.heap.size bv n ∧ Below w.heap.size w w' := by
  obtain ⟨hn, a, cap, rfl, hbs⟩ := hb
  have HBS := Lib.hid hbs
  clear hbs
  go_enter Try.func68, Try.ntmps68
  go_wp2
  go_loop [3, 4] (fun h i => ∃ (k : Nat) (x : Int), k ≤ n ∧ i = .int .i64 k ∧ h = .int .i64 x) (fun _ i => n - (intOf i).toNat)
  case atStart => exact ⟨0, _, Nat.zero_le _, rfl, rfl⟩
  case round =>
    obtain ⟨k, x, hk, rfl, rfl⟩ := hrel
    by_cases hlt : k < n
    · obtain ⟨b, o, rfl, hbc, hcs⟩ := HBS.out (by omega)
      obtain ⟨y, hy, hcy⟩ := hcs k hlt
      clear hcs
      go_wp2
      go_round
      case rel => exact ⟨k + 1, _, by omega, by go_num, rfl⟩
      case measure => simp [intOf]; omega
    · obtain rfl : k = n := by omega
      go_wp2
      go_ret
      exact ⟨rfl, ⟨0, x, Nat.zero_le _, heap_alloc_new _ _⟩, (Below.refl _ _).alloc (Nat.le_refl _) _⟩

end Go.Proofs.Ytikfbfclbmlopaa

/- Walks: DrawEdgesOf. -/
namespace Go.Proofs.Ytikfbfclbmlopaa
open Go.RowKit

theorem BytesAt.wide {w : World} {c c' n : Nat} {bv : Value} (h : BytesAt w c bv n) (hc : c ≤ c') : BytesAt w c' bv n := by
  obtain ⟨h1, a, cap, e, h2⟩ := h
  refine ⟨h1, a, cap, e, fun hn => ?_⟩
  obtain ⟨b, o, ea, hb, hcs⟩ := h2 hn
  exact ⟨b, o, ea, by omega, hcs⟩

/-- A call has handed back some graph of its own make, and has turned nothing that was there. -/
def GaveSome (w : World) (e : Ending) (w' : World) : Prop := ∃ L, GaveGraph w L e w'

theorem drawEdgesOf_any (n : Nat) (bv : Value) (w : World) (hb : BytesAt w w.heap.size bv n) : Calls Try.prog 17 #[bv] w (GaveSome w) := by
  have hb0 : Below w.heap.size w (w.alloc (.cells #[.slice none 0 0] 26)) := (Below.refl _ _).alloc (Nat.le_refl _) _
  have hbx0 : BoxAt (w.alloc (.cells #[.slice none 0 0] 26)) w.heap.size (.slice none 0 0) := BoxAt.new _ _ _
  have hby0 : BytesAt (w.alloc (.cells #[.slice none 0 0] 26)) (w.alloc (.cells #[.slice none 0 0] 26)).heap.size bv n := (hb.keepB hb0 (Nat.le_refl _)).wide (by simp)
  have HB0 := Lib.hid hb0
  have HBX0 := Lib.hid hbx0
  have HBY0 := Lib.hid hby0
  clear hb hb0 hbx0 hby0
  go_enter Try.func17, Try.ntmps17
  go_wp2_with fail
  refine (l1New_any n bv _ HBY0.out).mono ?_
  rintro e w1 ⟨rfl, hc1, hb1⟩
  have HB1 : Hid (Below w.heap.size w w1) := HB0.out.trans (hb1.mono HB0.out.size)
  have HX1 : Hid (BoxAt w1 w.heap.size (.slice none 0 0)) := HBX0.out.keep hb1
  have HY1 := Lib.hid (HBY0.out.keepB hb1 (Nat.le_refl _))
  rw [size_alloc1] at hc1 HY1
  have HC1 := Lib.hid hc1
  have hs1 := hc1.lt
  clear hc1 hb1 HBY0
  go_wp2_with fail
  refine (l1DrawAny_any (w.heap.size + 1) n bv w1 HC1.out HY1.out).mono ?_
  rintro e w2 ⟨L, m, a, cap, rfl, ho2, hc2, ht2⟩
  have hx2 := HX1.out.touched ht2 (by omega) (by omega)
  have kx := hx2.1
  have fx := hx2.2
  have HQ := Lib.hid (cell_set_same (.slice a m cap) hx2.1)
  have HO := Lib.hid ho2
  have HB2 : Hid (Below w.heap.size w w2) := HB1.out.trans ((ht2.below (by omega)).mono (by omega))
  clear hx2 ho2 hc2 ht2
  go_wp2
  refine bodyPost_ret (v := .agg #[.slice a m cap]) (by simp [results, Try.results17, go_sem, HQ.out]) rfl ⟨L, m, a, cap, rfl, ?_, HB2.out.setCell (Nat.le_refl _) _⟩
  exact (HO.out.setBelow (by simp; omega) _).mono (by omega)

end Go.Proofs.Ytikfbfclbmlopaa

/- Walks: the laws' tests of lists, written by program out of A4's (the same code under other names). -/
namespace Go.Proofs.Ytikfbfclbmlopaa
open Go.RowKit

set_option maxHeartbeats 400000 in
theorem likeInts_any (v v' : Value) (xs ys : List Int) (w : World) (h : RowAt w v xs) (h' : RowAt w v' ys) :
    Calls Try.prog 77 #[v, v'] w fun e w' => e = .returned (.bool (decide (xs = ys))) ∧ Drawn w w' := by
  have hl := h.len
  have hl' := h'.len
  unfold maxLen at hl hl'
  by_cases hn : xs.length = ys.length
  · have hne : ((xs.length : Int) != (ys.length : Int)) = false := by rw [hn]; simp
    by_cases h0 : xs.length = 0
    · have hd : decide (xs = ys) = true := by rw [decide_eq_true_iff, List.length_eq_zero_iff.1 h0, List.length_eq_zero_iff.1 (by omega : ys.length = 0)]
      rw [hd]
      obtain ⟨a, c, rfl⟩ := h.zero h0
      obtain ⟨a', c', rfl⟩ := h'.zero (by omega)
      clear hn hne h h' h0 hl hl' hd
      go_enter Try.func77, Try.ntmps77
      go_wp2
      refine wp_loop_rounds 1 ?_
      rw [rounds_succ]
      go_wp2
      go_ret
      exact ⟨rfl, Drawn.refl _⟩
    · obtain ⟨b, o, c, rfl, l1, l2, hc⟩ := h.pos (by omega)
      obtain ⟨b', o', c', rfl, l1', l2', hc'⟩ := h'.pos (by omega)
      have HC := Lib.hid hc
      have HC' := Lib.hid hc'
      have HN := Lib.hid hn
      have hle : xs.length ≤ ys.length := by omega
      clear hc hc' hn h0
      go_enter Try.func77, Try.ntmps77
      go_wp2
      go_loopw [5] (fun i wr => ∃ k : Nat, k ≤ xs.length ∧ i = .int .i64 k ∧ (∀ j, j < k → nth xs j = nth ys j) ∧ Drawn w wr) (fun i _ => xs.length - (intOf i).toNat)
      case atStart => exact ⟨0, Nat.zero_le _, rfl, (fun j hj => absurd hj (by omega)), Drawn.refl _⟩
      case round =>
        obtain ⟨k, hk, rfl, he, hd⟩ := hrel
        have HE := Lib.hid he
        clear he
        by_cases hlt : k < xs.length
        · have hlt' : k < ys.length := by omega
          have hck := cell_drawn hd (HC.out k hlt)
          have hck' := cell_drawn hd (HC'.out k hlt')
          by_cases hx : nth xs k = nth ys k
          · have hxb : (nth xs k != nth ys k) = false := by rw [hx]; simp
            have HX := Lib.hid hx
            clear hx
            go_wp2
            go_quiet (fail)
            go_wp2
            go_roundw
            case rel => exact ⟨k + 1, by omega, by go_num, (fun j hj => by rcases Nat.lt_succ_iff_lt_or_eq.1 hj with h | h; exact HE.out j h; rw [h]; exact HX.out), hd.more _⟩
            case measure => simp [intOf]; omega
          · have hxb : (nth xs k != nth ys k) = true := by rw [bne_iff_ne]; exact hx
            have HX := Lib.hid hx
            clear hx
            go_wp2
            go_quiet (fail)
            go_wp2
            go_ret
            exact ⟨ret_bool (by symm; rw [decide_eq_false_iff_not]; intro e; exact HX.out (by rw [e])), hd.more _⟩
        · obtain rfl : k = xs.length := by omega
          go_wp2
          go_ret
          exact ⟨ret_bool (by symm; rw [decide_eq_true_iff]; exact nth_ext HN.out HE.out), hd⟩
  · have hne : ((xs.length : Int) != (ys.length : Int)) = true := by rw [bne_iff_ne]; omega
    have hd : decide (xs = ys) = false := by simp; intro e; exact hn (by rw [e])
    rw [hd]
    obtain ⟨a, c, rfl⟩ := h.slice
    obtain ⟨a', c', rfl⟩ := h'.slice
    go_enter Try.func77, Try.ntmps77
    go_wp2
    go_ret
    exact ⟨rfl, Drawn.refl _⟩

set_option maxHeartbeats 400000 in
theorem w5Lists_any (v v' : Value) (xs ys : List (List Int)) (w : World) (h : GridAt w v xs) (h' : GridAt w v' ys) :
    Calls Try.prog 22 #[v, v'] w fun e w' => e = .returned (.bool (decide (xs = ys))) ∧ Drawn w w' := by
  have hl := h.len
  have hl' := h'.len
  unfold maxLen at hl hl'
  by_cases hn : xs.length = ys.length
  · have hne : ((xs.length : Int) != (ys.length : Int)) = false := by rw [hn]; simp
    by_cases h0 : xs.length = 0
    · have hd : decide (xs = ys) = true := by rw [decide_eq_true_iff, List.length_eq_zero_iff.1 h0, List.length_eq_zero_iff.1 (by omega : ys.length = 0)]
      rw [hd]
      obtain ⟨a, c, rfl⟩ := h.zero h0
      obtain ⟨a', c', rfl⟩ := h'.zero (by omega)
      clear hn hne h h' h0 hl hl' hd
      go_enter Try.func22, Try.ntmps22
      go_wp2
      refine wp_loop_rounds 1 ?_
      rw [rounds_succ]
      go_wp2
      go_ret
      exact ⟨rfl, Drawn.refl _⟩
    · obtain ⟨b, o, c, A, C, rfl, l1, l2, hc⟩ := h.pos (by omega)
      obtain ⟨b', o', c', A', C', rfl, l1', l2', hc'⟩ := h'.pos (by omega)
      have HC := Lib.hid hc
      have HC' := Lib.hid hc'
      have HN := Lib.hid hn
      have hle : xs.length ≤ ys.length := by omega
      clear hc hc' hn h0
      go_enter Try.func22, Try.ntmps22
      go_wp2
      go_loopw [5] (fun i wr => ∃ k : Nat, k ≤ xs.length ∧ i = .int .i64 k ∧ (∀ j, j < k → nthR xs j = nthR ys j) ∧ Drawn w wr) (fun i _ => xs.length - (intOf i).toNat)
      case atStart => exact ⟨0, Nat.zero_le _, rfl, (fun j hj => absurd hj (by omega)), Drawn.refl _⟩
      case round =>
        obtain ⟨k, hk, rfl, he, hd⟩ := hrel
        have HE := Lib.hid he
        clear he
        by_cases hlt : k < xs.length
        · have hlt' : k < ys.length := by omega
          have hck := cell_drawn hd (HC.out k hlt).1
          have hck' := cell_drawn hd (HC'.out k hlt').1
          have hr := Lib.hid ((HC.out k hlt).2.drawn hd)
          have hr' := Lib.hid ((HC'.out k hlt').2.drawn hd)
          by_cases hx : nthR xs k = nthR ys k
          · have hxb : decide (nthR xs k = nthR ys k) = true := by rw [hx]; simp
            have hcall : ∀ n, Calls Try.prog 77 #[.slice (A k) (nthR xs k).length (C k), .slice (A' k) (nthR ys k).length (C' k)] (wr.drewN n) fun e w2 => e = .returned (.bool true) ∧ ∃ m, w2 = (wr.drewN n).drewN m :=
              fun n => (likeInts_any _ _ _ _ _ (hr.out.drewN n) (hr'.out.drewN n)).mono (by rintro e w2 ⟨rfl, hd2⟩; exact ⟨by rw [hxb], hd2⟩)
            have HCall := Lib.hid hcall
            clear hcall hxb
            have HX := Lib.hid hx
            clear hx
            go_wp2
            go_quiet ((go_at_call 77; exact Calls.quiet_of (HCall.out _)))
            go_wp2
            go_roundw
            case rel => exact ⟨k + 1, by omega, by go_num, (fun j hj => by rcases Nat.lt_succ_iff_lt_or_eq.1 hj with h | h; exact HE.out j h; rw [h]; exact HX.out), hd.more _⟩
            case measure => simp [intOf]; omega
          · have hxb : decide (nthR xs k = nthR ys k) = false := by rw [decide_eq_false_iff_not]; exact hx
            have hcall : ∀ n, Calls Try.prog 77 #[.slice (A k) (nthR xs k).length (C k), .slice (A' k) (nthR ys k).length (C' k)] (wr.drewN n) fun e w2 => e = .returned (.bool false) ∧ ∃ m, w2 = (wr.drewN n).drewN m :=
              fun n => (likeInts_any _ _ _ _ _ (hr.out.drewN n) (hr'.out.drewN n)).mono (by rintro e w2 ⟨rfl, hd2⟩; exact ⟨by rw [hxb], hd2⟩)
            have HCall := Lib.hid hcall
            clear hcall hxb
            have HX := Lib.hid hx
            clear hx
            go_wp2
            go_quiet ((go_at_call 77; exact Calls.quiet_of (HCall.out _)))
            go_wp2
            go_ret
            exact ⟨ret_bool (by symm; rw [decide_eq_false_iff_not]; intro e; exact HX.out (by rw [e])), hd.more _⟩
        · obtain rfl : k = xs.length := by omega
          go_wp2
          go_ret
          exact ⟨ret_bool (by symm; rw [decide_eq_true_iff]; exact nthR_ext HN.out HE.out), hd⟩
  · have hne : ((xs.length : Int) != (ys.length : Int)) = true := by rw [bne_iff_ne]; omega
    have hd : decide (xs = ys) = false := by simp; intro e; exact hn (by rw [e])
    rw [hd]
    obtain ⟨a, c, rfl⟩ := h.slice
    obtain ⟨a', c', rfl⟩ := h'.slice
    go_enter Try.func22, Try.ntmps22
    go_wp2
    go_ret
    exact ⟨rfl, Drawn.refl _⟩


end Go.Proofs.Ytikfbfclbmlopaa

/- The shelf's contract of slices.Sort laid at the program's own function (written by tools/layplain.py; anew for each seat). -/
namespace Go.Proofs.Ytikfbfclbmlopaa
open Go.Shelf

def Try.lsort_ren : Go.Shelf.Ren := ⟨fun | 5 => 83 | 8 => 126 | 7 => 125 | 19 => 147 | 20 => 148 | 10 => 138 | 11 => 139 | 12 => 140 | 13 => 141 | 14 => 142 | 15 => 143 | 16 => 144 | 17 => 145 | 18 => 146 | 30 => 151 | 31 => 152 | 32 => 153 | 33 => 154 | 34 => 155 | 35 => 156 | 40 => 157 | n => n, fun | 23 => 34 | 25 => 2 | 3 => 3 | 32 => 89 | 22 => 34 | 0 => 0 | 44 => 67 | 46 => 44 | 4 => 4 | 36 => 121 | 35 => 120 | 41 => 114 | 5 => 5 | 9 => 9 | 53 => 127 | 57 => 131 | 63 => 133 | 64 => 134 | n => n, fun | n => n⟩
theorem Try.lsort : Go.Proofs.SlLaysM.n5 Try.prog Try.lsort_ren := {
  mixed := by kernel_rfl
  f5 := ⟨Try.f83.name, by decide, Try.func83.trans (congrArg some (by kernel_rfl))⟩
  f7 := ⟨Try.f125.name, by decide, Try.func125.trans (congrArg some (by kernel_rfl))⟩
  f8 := Try.func126.trans (congrArg some (by kernel_rfl))
  f10 := ⟨Try.f138.name, by decide, Try.func138.trans (congrArg some (by kernel_rfl))⟩
  f11 := ⟨Try.f139.name, by decide, Try.func139.trans (congrArg some (by kernel_rfl))⟩
  f12 := ⟨Try.f140.name, by decide, Try.func140.trans (congrArg some (by kernel_rfl))⟩
  f13 := ⟨Try.f141.name, by decide, Try.func141.trans (congrArg some (by kernel_rfl))⟩
  f14 := ⟨Try.f142.name, by decide, Try.func142.trans (congrArg some (by kernel_rfl))⟩
  f15 := ⟨Try.f143.name, by decide, Try.func143.trans (congrArg some (by kernel_rfl))⟩
  f16 := ⟨Try.f144.name, by decide, Try.func144.trans (congrArg some (by kernel_rfl))⟩
  f17 := ⟨Try.f145.name, by decide, Try.func145.trans (congrArg some (by kernel_rfl))⟩
  f18 := ⟨Try.f146.name, by decide, Try.func146.trans (congrArg some (by kernel_rfl))⟩
  f19 := Try.func147.trans (congrArg some (by kernel_rfl))
  f20 := Try.func148.trans (congrArg some (by kernel_rfl))
  f30 := ⟨Try.f151.name, by decide, Try.func151.trans (congrArg some (by kernel_rfl))⟩
  f31 := Try.func152.trans (congrArg some (by kernel_rfl))
  f32 := Try.func153.trans (congrArg some (by kernel_rfl))
  f33 := ⟨Try.f154.name, by decide, Try.func154.trans (congrArg some (by kernel_rfl))⟩
  f34 := ⟨Try.f155.name, by decide, Try.func155.trans (congrArg some (by kernel_rfl))⟩
  f35 := ⟨Try.f156.name, by decide, Try.func156.trans (congrArg some (by kernel_rfl))⟩
  f40 := ⟨Try.f157.name, by decide, Try.func157.trans (congrArg some (by kernel_rfl))⟩
  t0 := Try.underlying0
  a0 := Try.isAgg0
  z0 := Try.sizeOf0
  v0 := Try.zeroValue0
  t3 := Try.underlying3
  a3 := Try.isAgg3
  z3 := Try.sizeOf3
  v3 := Try.zeroValue3
  t4 := Try.underlying4
  a4 := Try.isAgg4
  z4 := Try.sizeOf4
  v4 := Try.zeroValue4
  t5 := Try.underlying5
  a5 := Try.isAgg5
  z5 := Try.sizeOf5
  v5 := Try.zeroValue5
  t9 := Try.underlying9
  a9 := Try.isAgg9
  z9 := Try.sizeOf9
  v9 := Try.zeroValue9
  t22 := Try.underlying34
  a22 := Try.isAgg34
  z22 := Try.sizeOf34
  v22 := Try.zeroValue34
  t23 := Try.underlying34
  a23 := Try.isAgg34
  z23 := Try.sizeOf34
  v23 := Try.zeroValue34
  t25 := Try.underlying2
  a25 := Try.isAgg2
  z25 := Try.sizeOf2
  v25 := Try.zeroValue2
  t32 := Try.underlying89
  a32 := Try.isAgg89
  z32 := Try.sizeOf89
  v32 := Try.zeroValue89
  t35 := Try.underlying120
  a35 := Try.isAgg120
  z35 := Try.sizeOf120
  v35 := Try.zeroValue120
  t36 := Try.underlying121
  a36 := Try.isAgg121
  z36 := Try.sizeOf121
  v36 := Try.zeroValue121
  t41 := Try.underlying114
  a41 := Try.isAgg114
  z41 := Try.sizeOf114
  v41 := Try.zeroValue114
  t44 := Try.underlying67
  a44 := Try.isAgg67
  z44 := Try.sizeOf67
  v44 := Try.zeroValue67
  t46 := Try.underlying44
  a46 := Try.isAgg44
  z46 := Try.sizeOf44
  v46 := Try.zeroValue44
  t53 := Try.underlying127
  a53 := Try.isAgg127
  z53 := Try.sizeOf127
  v53 := Try.zeroValue127
  t57 := Try.underlying131
  a57 := Try.isAgg131
  z57 := Try.sizeOf131
  v57 := Try.zeroValue131
  t63 := Try.underlying133
  a63 := Try.isAgg133
  z63 := Try.sizeOf133
  v63 := Try.zeroValue133
  t64 := Try.underlying134
  a64 := Try.isAgg134
  z64 := Try.sizeOf134
  v64 := Try.zeroValue134 }

end Go.Proofs.Ytikfbfclbmlopaa
