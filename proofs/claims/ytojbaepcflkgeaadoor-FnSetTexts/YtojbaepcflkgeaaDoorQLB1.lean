/- The texts LB1, TD1, joined. -/
import Derived.Test.YtojbaepcflkgeaaDoorRT1
import Derived.Test.YtojbaepcflkgeaaDoorQU2
import Derived.Lib.ConvBytes
import Derived.Lib.SmallJoins
import Derived.Lib.BufferRead
import Derived.Deep.RegionLaw
import Derived.Test.YtojbaepcflkgeaaDoorQK2
import Derived.Test.YtojbaepcflkgeaaDoorK1
import Derived.Test.YtojbaepcflkgeaaDoorQTS4

/- Bytes of one's own of which nothing is said of what lies behind them; a text bent. -/
namespace Go.Proofs.YtojbaepcflkgeaaDoor
open Go.RowKit

theorem Tryd.infoB8 : (Tryd.prog.info? 5).map (fun i => (i.zero, i.size, i.bytes)) = some (some (.int .u8 0), 1, 1) := by kernel_rfl
def byV (x : UInt8) : Value := .int .u8 (x.toNat : Int)
def BRow (W : World) (B : Nat) (v : Value) (l : List UInt8) : Prop :=
  (v = .slice none 0 0 ∧ l = []) ∨ ∃ g c, v = .slice (some ⟨g, 0, none⟩) l.length c ∧ B ≤ g ∧ g < W.heap.size ∧ l.length ≤ c ∧ c ≤ maxLen ∧ ∀ i, i < l.length → W.cell? ⟨g, i, none⟩ = some (byV (l.getD i 0)) ∧ W.frozen? ⟨g, i, none⟩ = false
theorem BRow.slice {W : World} {B : Nat} {v : Value} {l : List UInt8} (h : BRow W B v l) : ∃ a c, v = .slice a l.length c := by
  rcases h with ⟨rfl, rfl⟩ | ⟨g, c, rfl, _⟩
  · exact ⟨none, 0, rfl⟩
  · exact ⟨_, c, rfl⟩
theorem BRow.block {W W' : World} {B : Nat} {v : Value} {l : List UInt8} (h : BRow W B v l) (hE : ∀ g, B ≤ g → g < W.heap.size → W'.heap[g]? = W.heap[g]?) (hs : W.heap.size ≤ W'.heap.size) : BRow W' B v l := by
  rcases h with h | ⟨g, c, e, hB, hg, hc, hm, hi⟩
  · exact .inl h
  · refine .inr ⟨g, c, e, hB, by omega, hc, hm, fun i hl => ?_⟩
    obtain ⟨h1, h2⟩ := hi i hl
    unfold World.cell? World.frozen? at *
    rw [hE g hB hg]
    exact ⟨h1, h2⟩
theorem BRow.touched {W W' : World} {B c : Nat} {v : Value} {l : List UInt8} (h : BRow W B v l) (ht : Touched c (c + 1) W W') (hc : c < B) : BRow W' B v l :=
  h.block (fun g h1 h2 => ht.other g h2 (.inr (by omega))) ht.size
theorem BRow.keep {W W' : World} {B : Nat} {v : Value} {l : List UInt8} (h : BRow W B v l) (hb : Below W.heap.size W W') : BRow W' B v l :=
  h.block (fun g _ h2 => hb.block g h2) hb.size
theorem BRow.ofOwn {W : World} {B B' n : Nat} {v : Value} {l : List UInt8} {us : List Value} (h : W.ownsRow B 5 1 v n us) (hB : B' ≤ B) (hn : n = l.length) (hu : us = l.map byV) : BRow W B' v l := by
  subst hn; subst hu
  obtain ⟨_, ⟨e, h0⟩ | ⟨g, cap, cur, e, hgB, hh, l1, l2, hs, ht⟩⟩ := h
  · exact .inl ⟨e, List.length_eq_zero_iff.1 h0⟩
  · refine .inr ⟨g, cap, e, by omega, (Array.getElem?_eq_some_iff.1 hh).1, l1, l2, fun i hi => ⟨?_, frozen_of_row W g i cur _ hh⟩⟩
    rw [cell_of_row W g i cur _ _ hh]
    have h3 : (cur.toList.take (l.length * 1))[i]? = some (byV (l.getD i 0)) := by rw [ht]; simp [hi]
    rw [List.getElem?_take] at h3
    split at h3
    · simpa using h3
    · cases h3
theorem BRow.ofConv (w : World) (s : List UInt8) (c : Nat) (h1 : s.length ≤ c) (h2 : c ≤ maxLen) : BRow (Lib.bytesWorld w 5 (bsL s)) w.heap.size (.slice (some ⟨w.heap.size, 0, none⟩) s.length c) s := by
  have hz := bsL_size s
  refine .inr ⟨w.heap.size, c, rfl, Nat.le_refl _, by rw [Lib.bytesWorld_size]; omega, h1, h2, fun i hi => ⟨?_, ?_⟩⟩
  · rw [Lib.bytesWorld_cell w _ _ i (by omega)]
    have hL := bsL_list s
    unfold ByteArray.toList at *
    simp [byV, bsL]
  · unfold World.frozen?
    rw [Lib.bytesWorld_at_new]
    have hsz : s.length ≤ (Lib.bytesCells w 5 (bsL s)).size := by unfold Lib.bytesCells; simp [bsL]
    simp
    omega
theorem BRow.take {W : World} {B g c : Nat} {l : List UInt8} (h : BRow W B (.slice (some ⟨g, 0, none⟩) l.length c) l) {k : Nat} (hk : k < l.length) : BRow W B (.slice (some ⟨g, 0, none⟩) k c) (l.take k) := by
  rcases h with ⟨e, _⟩ | ⟨g', c', e, hB, hg, hc, hm, hi⟩
  · cases e
  · simp only [Value.slice.injEq, Option.some.injEq, Addr.mk.injEq, and_true, true_and] at e
    obtain ⟨rfl, rfl⟩ := e
    have hl : (l.take k).length = k := by simp; omega
    refine .inr ⟨g, c, by rw [hl], hB, hg, by omega, hm, fun i hik => ?_⟩
    rw [hl] at hik
    obtain ⟨h1, h2⟩ := hi i (by omega)
    refine ⟨?_, h2⟩
    rw [h1]
    congr 2
    simp [List.getD_eq_getElem?_getD, hik]
theorem BRow.at {W : World} {B g n c : Nat} {l : List UInt8} (h : BRow W B (.slice (some ⟨g, 0, none⟩) n c) l) {k : Nat} (hk : k < l.length) : n = l.length ∧ B ≤ g ∧ g < W.heap.size ∧ l.length ≤ c ∧ c ≤ maxLen ∧ W.cell? ⟨g, k, none⟩ = some (byV (l.getD k 0)) ∧ W.frozen? ⟨g, k, none⟩ = false := by
  rcases h with ⟨e, _⟩ | ⟨g', c', e, hB, hg, hc, hm, hi⟩
  · cases e
  · simp only [Value.slice.injEq, Option.some.injEq, Addr.mk.injEq, and_true] at e
    obtain ⟨rfl, rfl, rfl⟩ := e
    exact ⟨rfl, hB, hg, hc, hm, hi k hk⟩
theorem BRow.set {W : World} {B g n c : Nat} {l : List UInt8} (h : BRow W B (.slice (some ⟨g, 0, none⟩) n c) l) {k : Nat} (hk : k < l.length) (x : UInt8) : BRow (W.setCell ⟨g, k, none⟩ (byV x)) B (.slice (some ⟨g, 0, none⟩) n c) (l.set k x) := by
  rcases h with ⟨e, _⟩ | ⟨g', c', e, hB, hg, hc, hm, hi⟩
  · cases e
  · simp only [Value.slice.injEq, Option.some.injEq, Addr.mk.injEq, and_true] at e
    obtain ⟨rfl, rfl, rfl⟩ := e
    refine .inr ⟨g, c, by rw [List.length_set], hB, by simpa [World.setCell] using hg, by rw [List.length_set]; exact hc, hm, fun i hik => ?_⟩
    rw [List.length_set] at hik
    obtain ⟨h1, h2⟩ := hi i hik
    refine ⟨?_, by rw [frozen_set]; exact h2⟩
    by_cases e : k = i
    · subst e
      rw [cell_set_same _ h1]
      simp [List.getD_eq_getElem?_getD, hk]
    · rw [cell_set_other _ (fun h => e (by injection h)), h1]
      congr 2
      simp [List.getD_eq_getElem?_getD, e]
theorem BRow.conv {W : World} {B : Nat} {a : Option Addr} {n c : Nat} {l : List UInt8} (h : BRow W B (.slice a n c) l) : (convert 28 9 (.slice a n c)).run Tryd.prog W = .ok (.string (bsL l)) W := by
  rcases h with ⟨e, rfl⟩ | ⟨g, c', e, hB, hg, hc, hm, hi⟩
  · cases e
    exact Lib.run_convert_nil_bytes W _ _ 5 0 Tryd.underlying28 Tryd.underlying5 Tryd.underlying9
  · simp only [Value.slice.injEq] at e
    obtain ⟨rfl, rfl, rfl⟩ := e
    refine conv_row W ⟨g, 0, none⟩ l c (fun j v hj => ?_)
    simp only [List.getElem?_map, Option.map_eq_some_iff] at hj
    obtain ⟨x, hx, rfl⟩ := hj
    have hl := (List.getElem?_eq_some_iff.1 hx).1
    have := (hi j hl).1
    rw [show (⟨g, 0, none⟩ : Addr).add j = ⟨g, j, none⟩ by simp [Addr.add]; intro h; exact h.symm, this]
    simp [byV, List.getD_eq_getElem?_getD, hx]

/-- What a bent text is. -/
def GaveBent (w : World) (c : Nat) (bv : Value) (nb : Nat) (s : List UInt8) (e : Ending) (w' : World) : Prop :=
  ∃ t : List UInt8, e = .returned (.string (bsL t)) ∧ t.length ≤ s.length + 2 ∧ CurAt w' c bv nb ∧ Touched c (c + 1) w w'

end Go.Proofs.YtojbaepcflkgeaaDoor

/- Walks: a list drawn for its text; a text drawn for its list (the bending of a text as a premise). -/
namespace Go.Proofs.YtojbaepcflkgeaaDoor
open Go.RowKit

/-- A row of at most 18 numbers of one's own. -/
def Gave18 (w : World) (e : Ending) (w' : World) : Prop :=
  ∃ xs a k cap, e = .returned (.slice a k cap) ∧ xs.length ≤ 18 ∧ OwnRow 2 w' w.heap.size (.slice a k cap) xs ∧ Below w.heap.size w w'

set_option maxHeartbeats 1600000 in
set_option maxRecDepth 100000 in
theorem drawSetText_any (n : Nat) (bv : Value) (w : World) (hb : BytesAt w w.heap.size bv n) : Calls Tryd.prog 11 #[bv] w (Gave18 w) := by
  have HBY0 := Lib.hid hb
  clear hb
  go_enter Tryd.func11, Tryd.ntmps11
  go_wp2_with fail
  refine (l1New_any n bv _ HBY0.out).mono ?_
  rintro e w1 ⟨rfl, hc1, hb1⟩
  have HY1 := Lib.hid (HBY0.out.keepB hb1 (Nat.le_refl _))
  have HB1 := Lib.hid hb1
  have HC1 := Lib.hid hc1
  have hs1 := hc1.lt
  clear hc1 hb1 HBY0
  go_wp2_with fail
  refine (l1DrawAny_any w.heap.size n bv w1 HC1.out HY1.out).mono ?_
  rintro e w2 ⟨L, m, a, cap, rfl, _, hc2, ht2, hm17⟩
  have hs2 : w1.heap.size ≤ w2.heap.size := ht2.size
  have hst : Below w2.heap.size w2 (w2.alloc (.cells #[.slice a m cap] 43)) := (Below.refl _ _).alloc (Nat.le_refl _) _
  have HC2 := Lib.hid (hc2.keepB hst hc2.lt)
  have HT2 : Hid (Touched w.heap.size (w.heap.size + 1) w1 (w2.alloc (.cells #[.slice a m cap] 43))) := ht2.under hst (by omega)
  have HX2 := Lib.hid (BoxAt.new w2 (.slice a m cap) 43)
  clear hc2 ht2 hst
  go_wp2_with fail
  refine (l1Once_any w.heap.size n bv _ _ HC2.out (HT2.out.bytes HY1.out (Nat.le_of_lt hs1)) (by unfold I64; omega)).mono ?_
  rintro e w3 ⟨b, rfl, hc3, ho3⟩
  have HX3 := Lib.hid (HX2.out.only ho3 (by omega))
  have HT3 := Lib.hid (HT2.out.only ho3)
  have HC3 := Lib.hid hc3
  have hz3 : w1.heap.size ≤ w3.heap.size := HT3.out.size
  have kx := HX3.out.1
  clear hc3 ho3 HX2 HT2 HC2
  have HE : Hid (∀ e w4, DrewS w3 w.heap.size bv n e w4 → Gave18 w e w4) := fun e w4 ⟨xs, a, k, cp, he, hl, ho, _, ht⟩ => ⟨xs, a, k, cp, he, hl, ho.mono (by omega), HB1.out.trans ((HT3.out.trans ht).below (by omega))⟩
  cases b with
  | true =>
    go_wp2_with fail
    refine (l1DrawOrder_any w.heap.size n bv a m cap _ HC3.out (HT3.out.bytes HY1.out (Nat.le_of_lt hs1)) hm17).mono ?_
    rintro e w4 hd
    have HD := HE.out _ _ hd
    clear hd
    obtain ⟨xs, a4, k4, c4, rfl, hgv⟩ := HD
    have HDD := Lib.hid hgv
    clear hgv
    go_wp2
    go_ret
    exact ⟨xs, a4, k4, c4, rfl, HDD.out⟩
  | false =>
    go_wp2_with fail
    refine (l1DrawSet_any w.heap.size n bv a m cap _ HC3.out (HT3.out.bytes HY1.out (Nat.le_of_lt hs1)) hm17).mono ?_
    rintro e w4 hd
    have HD := HE.out _ _ hd
    clear hd
    obtain ⟨xs, a4, k4, c4, rfl, hgv⟩ := HD
    have HDD := Lib.hid hgv
    clear hgv
    go_wp2
    go_ret
    exact ⟨xs, a4, k4, c4, rfl, HDD.out⟩

theorem stL_short (xs : List Int) : (stL xs).length ≤ 800 := by
  by_cases h : stL xs = []
  · rw [h]; simp
  · exact (SetIs.of rfl h).short

set_option maxHeartbeats 1600000 in
set_option maxRecDepth 100000 in
theorem drawTextSet_of (bend : ∀ (c nb : Nat) (bv : Value) (s : List UInt8) (w : World), CurAt w c bv nb → BytesAt w c bv nb → s.length ≤ 800 → Calls Tryd.prog 30 #[.pointer (some ⟨c, 0, none⟩), .string (bsL s), .string (bsL [48, 49, 50, 51, 44, 45])] w (GaveBent w c bv nb s))
    (n : Nat) (bv : Value) (w : World) (hb : BytesAt w w.heap.size bv n) : Calls Tryd.prog 15 #[bv] w fun e w' => ∃ t : List UInt8, e = .returned (.string (bsL t)) ∧ t.length ≤ 802 ∧ Below w.heap.size w w' := by
  have HBY0 := Lib.hid hb
  clear hb
  go_enter Tryd.func15, Tryd.ntmps15
  go_wp2_with fail
  refine (l1New_any n bv _ HBY0.out).mono ?_
  rintro e w1 ⟨rfl, hc1, hb1⟩
  have HY1 := Lib.hid (HBY0.out.keepB hb1 (Nat.le_refl _))
  have HB1 := Lib.hid hb1
  have HC1 := Lib.hid hc1
  have hs1 := hc1.lt
  clear hc1 hb1 HBY0
  go_wp2_with fail
  refine (l1DrawAny_any w.heap.size n bv w1 HC1.out HY1.out).mono ?_
  rintro e w2 ⟨L, m, a, cap, rfl, _, hc2, ht2, hm17⟩
  have hs2 : w1.heap.size ≤ w2.heap.size := ht2.size
  have hst : Below w2.heap.size w2 (w2.alloc (.cells #[.slice a m cap] 43)) := (Below.refl _ _).alloc (Nat.le_refl _) _
  have HC2 := Lib.hid (hc2.keepB hst hc2.lt)
  have HT2 : Hid (Touched w.heap.size (w.heap.size + 1) w1 (w2.alloc (.cells #[.slice a m cap] 43))) := ht2.under hst (by omega)
  have HX2 := Lib.hid (BoxAt.new w2 (.slice a m cap) 43)
  have kx := HX2.out.1
  clear hc2 ht2 hst
  go_wp2_with fail
  refine (l1DrawSet_any w.heap.size n bv a m cap _ HC2.out (HT2.out.bytes HY1.out (Nat.le_of_lt hs1)) hm17).mono ?_
  rintro e w3 ⟨xs, a3, k3, c3, rfl, hl3, ho3, hc3, ht3⟩
  have HC3 := Lib.hid hc3
  have HO3 := Lib.hid ho3
  have HT3 := Lib.hid (HT2.out.trans ht3)
  clear hc3 ht3 ho3 kx HX2 HT2 HC2
  go_wp2_with fail
  refine (specSetText_any _ xs _ HO3.out.row).mono ?_
  rintro e w4 ⟨rfl, hb4⟩
  have HC4 := Lib.hid (HC3.out.keepB hb4 HC3.out.lt)
  have HT4 : Hid (Touched w.heap.size (w.heap.size + 1) w1 w4) := HT3.out.under hb4 HT3.out.size
  clear hb4 HC3 HT3 HO3
  go_wp2_with fail
  refine (l1Once_any w.heap.size n bv _ _ HC4.out (HT4.out.bytes HY1.out (Nat.le_of_lt hs1)) (by unfold I64; omega)).mono ?_
  rintro e w5 ⟨b, rfl, hc5, ho5⟩
  have HT5 := Lib.hid (HT4.out.only ho5)
  have HC5 := Lib.hid hc5
  clear hc5 ho5 HC4 HT4
  cases b with
  | true =>
    go_wp2
    go_ret
    exact ⟨stL xs, rfl, by have := stL_short xs; omega, HB1.out.trans (HT5.out.below (Nat.le_of_lt hs1))⟩
  | false =>
    have hlit : (.string { data := #[48, 49, 50, 51, 44, 45] } : Value) = .string (bsL [48, 49, 50, 51, 44, 45]) := rfl
    go_wp2_with fail
    refine (bend w.heap.size n bv (stL xs) _ HC5.out (HT5.out.bytes HY1.out (Nat.le_of_lt hs1)) (stL_short xs)).mono ?_
    rintro e w6 ⟨t, rfl, hl, _, ht6⟩
    have HB6 : Hid (Below w.heap.size w w6) := HB1.out.trans ((HT5.out.trans ht6).below (Nat.le_of_lt hs1))
    have htl : t.length ≤ 802 := by have := stL_short xs; omega
    clear ht6 hl
    go_wp2
    go_ret
    exact ⟨t, rfl, htl, HB6.out⟩

end Go.Proofs.YtojbaepcflkgeaaDoor
