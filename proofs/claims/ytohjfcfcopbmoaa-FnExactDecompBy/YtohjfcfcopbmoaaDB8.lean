/- Walks of the laws' own helpers: marks of a decomposition whose grids lie interleaved, and whether it holds them. -/
import Derived.Test.YtohjfcfcopbmoaaDB7
import Derived.Test.YtohjfcfcopbmoaaQMark

namespace Go.Proofs.Ytohjfcfcopbmoaa
open Go.RowKit

theorem OwnRow.ofBlock {T : TypeId} {w w' : World} {B : Nat} {v : Value} {xs : List Int} (h : OwnRow T w B v xs) (hz : ∀ z, v.ownBlock = some z → w'.heap[z]? = w.heap[z]?) : OwnRow T w' B v xs := by
  obtain ⟨h1, h2, h3⟩ := h
  refine ⟨h1, h2, ?_⟩
  rcases h3 with h3 | ⟨g, cap, cur, e, hgB, hh, r⟩
  · exact Or.inl h3
  · exact Or.inr ⟨g, cap, cur, e, hgB, by rw [hz g (by rw [e]; rfl)]; exact hh, r⟩
theorem OwnBy.ofBlock {T T1 : TypeId} {w w' : World} {B : Nat} {v : Value} {L : List (List Int)} {R : Nat → Value} (h : OwnBy T T1 w B v L R) (hv : ∀ z, v.ownBlock = some z → w'.heap[z]? = w.heap[z]?) (hr : ∀ i z, i < L.length → (R i).ownBlock = some z → w'.heap[z]? = w.heap[z]?) : OwnBy T T1 w' B v L R := by
  refine ⟨h.len, ⟨h.owns.1, ?_⟩, fun i hi => (h.rows i hi).ofBlock (fun z hz => hr i z hi hz), h.diff⟩
  rcases h.owns.2 with h1 | ⟨g, cap, cur, e, hgB, hh, r⟩
  · exact Or.inl h1
  · exact Or.inr ⟨g, cap, cur, e, hgB, by rw [hv g (by rw [e]; rfl)]; exact hh, r⟩
/-- A grid's own header is no row of another. -/
theorem OwnBy.noRow {T T1 : TypeId} {w : World} {B B' : Nat} {v v' : Value} {L L' : List (List Int)} {R R' : Nat → Value} (hT : T ≠ T1) (h : OwnBy T T1 w B v L R) (h' : OwnBy T T1 w B' v' L' R') {z : Nat} (hz : v.ownBlock = some z) {i : Nat} (hi : i < L'.length) : (R' i).ownBlock ≠ some z := by
  intro e
  obtain ⟨c, hc⟩ := (h'.rows i hi).blk e
  have hc : w.heap[z]? = _ := hc
  rcases h.owns.2 with ⟨e1, _⟩ | ⟨g, cap, cur, e1, hgB, hh, r⟩
  · rw [e1] at hz; simp [Value.ownBlock] at hz
  · rw [e1] at hz
    simp [Value.ownBlock] at hz
    subst hz
    rw [hc] at hh
    simp at hh
    exact hT hh.2

/-- What marking both grids of a decomposition does. -/
def MarkedPair (w : World) (B : Nat) (v u : Value) (L K : List (List Int)) (R R' : Nat → Value) (U : Nat) (k : Int) (e : Ending) (w' : World) : Prop :=
  e = .returned (.int .i64 (k + (totTo L L.length : Int) + (totTo K K.length : Int))) ∧ PairBy 2 33 w' B v u (marksG L k) (marksG K (k + (totTo L L.length : Int))) R R' ∧ Touched B U w w'

set_option maxHeartbeats 1000000 in
theorem markPair_any (v u : Value) (L K : List (List Int)) (R R' : Nat → Value) (B U : Nat) (k : Int) (w : World) (hU : (∀ i z, i < L.length → (R i).ownBlock = some z → z < U) ∧ ∀ i z, i < K.length → (R' i).ownBlock = some z → z < U) (h : PairBy 2 33 w B v u L K R R') (hB : B ≤ w.heap.size) (h0 : 0 ≤ k) (h1 : k ≤ 10000000000000) (hs : Small L) (hs' : Small K) :
    Calls Try.prog 21 #[.agg #[v, u], .int .i64 k] w (MarkedPair w B v u L K R R' U k) := by
  obtain ⟨a, c, rfl⟩ := h.one.grid.grid.slice
  obtain ⟨a', c', rfl⟩ := h.two.grid.grid.slice
  obtain ⟨wA, hwA⟩ : ∃ wA, wA = w.alloc (.cells #[.slice a L.length c, .slice a' K.length c'] 27) := ⟨_, rfl⟩
  have ha : Below w.heap.size w wA := by rw [hwA]; exact (Below.refl _ _).alloc (Nat.le_refl _) _
  have hsA : wA.heap.size = w.heap.size + 1 := by rw [hwA]; simp
  have HP := Lib.hid (h.keep ha)
  have HA := Lib.hid ha
  have X0 : Hid (Box2 27 wA w.heap.size (.slice a L.length c) (.slice a' K.length c')) := by rw [hwA]; exact Box2.new w (.slice a L.length c) (.slice a' K.length c') 27
  have HL : Hid (∀ i z, i < L.length → (R i).ownBlock = some z → z < w.heap.size) := fun i z hi hz => ((h.one.rows i hi).lt z hz).2
  have HL' : Hid (∀ i z, i < K.length → (R' i).ownBlock = some z → z < w.heap.size) := fun i z hi hz => ((h.two.rows i hi).lt z hz).2
  have HU := Lib.hid hU
  have HLB : Hid (∀ i z, i < L.length → (R i).ownBlock = some z → B ≤ z) := fun i z hi hz => ((h.one.rows i hi).lt z hz).1
  have HLB' : Hid (∀ i z, i < K.length → (R' i).ownBlock = some z → B ≤ z) := fun i z hi hz => ((h.two.rows i hi).lt z hz).1
  clear hU
  have htb := totTo_le hs.2 L.length (Nat.le_refl _)
  have htk := totTo_le hs'.2 K.length (Nat.le_refl _)
  have hb1 := hs.1
  have hb2 := hs'.1
  have htb2 : 1048576 * L.length ≤ 1048576 * 1048576 := by omega
  have htk2 : 1048576 * K.length ≤ 1048576 * 1048576 := by omega
  clear ha h
  go_enter Try.func21, Try.ntmps21
  go_wp2_with fail
  rw [← hwA]
  clear hwA
  have k0 := X0.out.c0
  go_wp2_with fail
  refine (markBy_any _ L R B k wA HP.out.one h0 (by omega) hs).mono ?_
  rintro e w1 ⟨rfl, hg1, ht1, hr1⟩
  have HG1 := Lib.hid hg1
  have HT1 := Lib.hid ht1
  have HR1 := Lib.hid hr1
  have HK1 : Hid (OwnBy 2 33 w1 B (.slice a' K.length c') K R') := HP.out.two.ofBlock (fun z hz => hr1 z (by have := (ownsRow_lt HP.out.two.owns hz).2; omega) (fun i hi => HP.out.two.noRow (by decide) HP.out.one hz hi)) (fun i z hi hz => hr1 z (by have := HL'.out i z hi hz; omega) (fun j hj e => HP.out.apart j i z hj hi e hz))
  have X1 : Hid (Box2 27 w1 w.heap.size (.slice a L.length c) (.slice a' K.length c')) := by
    show _ = _
    rw [hr1 w.heap.size (by omega) (fun i hi e => by have := HL.out i _ hi e; omega)]
    exact X0.out
  have k1 := X1.out.c1
  have hz1 : w.heap.size + 1 ≤ w1.heap.size := by have := ht1.size; omega
  clear hg1 ht1 hr1 k0 X0
  go_wp2_with fail
  refine (markBy_any _ K R' B (k + (totTo L L.length : Int)) w1 HK1.out (by omega) (by omega) hs').mono ?_
  rintro e w2 ⟨rfl, hg2, ht2, hr2⟩
  have HG2 := Lib.hid hg2
  have HT2 : Hid (Touched B U w w2) := ⟨ht2.os.trans (HT1.out.os.trans HA.out.os), ht2.tape.trans (HT1.out.tape.trans HA.out.tape), ht2.output.trans (HT1.out.output.trans HA.out.output), by have := ht2.size; omega, fun j h3 h4 => by
    rw [hr2 j (by omega) (fun i hi e => by have := HLB'.out i j hi e; have := HU.out.2 i j hi e; omega), HR1.out j (by omega) (fun i hi e => by have := HLB.out i j hi e; have := HU.out.1 i j hi e; omega), HA.out.block j h3]⟩
  have HL2 : Hid (OwnBy 2 33 w2 B (.slice a L.length c) (marksG L k) R) := HG1.out.ofBlock (fun z hz => hr2 z (ownsRow_lt HG1.out.owns hz).2 (fun i hi => HG1.out.noRow (by decide) HK1.out hz hi)) (fun i z hi hz => by
    rw [marksG_len] at hi
    exact hr2 z (by have := HL.out i z hi hz; omega) (fun j hj e => HP.out.apart i j z hi hj hz e))
  clear hg2 ht2 hr2 k1
  go_wp2
  go_ret
  exact ⟨rfl, ⟨HL2.out, HG2.out, fun i j z hi hj => HP.out.apart i j z (by rw [marksG_len] at hi; exact hi) (by rw [marksG_len] at hj; exact hj), HP.out.heads⟩, HT2.out⟩

/-- What is written below both grids does not touch them. -/
theorem PairBy.low {T T1 : TypeId} {w w' : World} {B B1 U1 : Nat} {v v' : Value} {L L' : List (List Int)} {R R' : Nat → Value} (h : PairBy T T1 w B v v' L L' R R') (ht : Touched B1 U1 w w') (hU : U1 ≤ B) : PairBy T T1 w' B v v' L L' R R' :=
  ⟨h.one.ofBlock (fun z hz => by have := ownsRow_lt h.one.owns hz; exact ht.other z this.2 (Or.inr (by omega))) (fun i z hi hz => by have := (h.one.rows i hi).lt z hz; exact ht.other z this.2 (Or.inr (by omega))),
   h.two.ofBlock (fun z hz => by have := ownsRow_lt h.two.owns hz; exact ht.other z this.2 (Or.inr (by omega))) (fun i z hi hz => by have := (h.two.rows i hi).lt z hz; exact ht.other z this.2 (Or.inr (by omega))), h.apart, h.heads⟩

set_option maxHeartbeats 1000000 in
theorem heldPair_any (v u : Value) (L K : List (List Int)) (k : Int) (w : World) (h : GridAt w v (marksG L k)) (h' : GridAt w u (marksG K (k + (totTo L L.length : Int)))) (h0 : 0 ≤ k) (h1 : k ≤ 10000000000000) (hs : Small L) (hs' : Small K) :
    Calls Try.prog 22 #[.agg #[v, u], .int .i64 k] w fun e w' => e = .returned (.int .i64 (k + (totTo L L.length : Int) + (totTo K K.length : Int))) ∧ Below w.heap.size w w' := by
  obtain ⟨a, c, ev⟩ := h.slice
  obtain ⟨a', c', eu⟩ := h'.slice
  rw [marksG_len] at ev eu
  subst ev eu
  obtain ⟨wA, hwA⟩ : ∃ wA, wA = w.alloc (.cells #[.slice a L.length c, .slice a' K.length c'] 27) := ⟨_, rfl⟩
  have ha : Below w.heap.size w wA := by rw [hwA]; exact (Below.refl _ _).alloc (Nat.le_refl _) _
  have HG := Lib.hid (h.keep ha)
  have HG' := Lib.hid (h'.keep ha)
  have HA := Lib.hid ha
  have X0 : Hid (Box2 27 wA w.heap.size (.slice a L.length c) (.slice a' K.length c')) := by rw [hwA]; exact Box2.new w (.slice a L.length c) (.slice a' K.length c') 27
  have htb := totTo_le hs.2 L.length (Nat.le_refl _)
  have htk := totTo_le hs'.2 K.length (Nat.le_refl _)
  have hb1 := hs.1
  have hb2 := hs'.1
  have htb2 : 1048576 * L.length ≤ 1048576 * 1048576 := by omega
  have htk2 : 1048576 * K.length ≤ 1048576 * 1048576 := by omega
  clear ha h h'
  go_enter Try.func22, Try.ntmps22
  go_wp2_with fail
  rw [← hwA]
  clear hwA
  have k0 := X0.out.c0
  have k1 := X0.out.c1
  have hn1 : ¬ k + (totTo L L.length : Int) < 0 := by omega
  have hn2 : ¬ k + (totTo L L.length : Int) + (totTo K K.length : Int) < 0 := by omega
  go_wp2_with fail
  refine (heldInt64SS_any _ L k wA HG.out h0 (by omega) hs).mono ?_
  rintro e w1 ⟨rfl, rfl⟩
  go_wp2_with fail
  refine (heldInt64SS_any _ K _ _ HG'.out (by omega) (by omega) hs').mono ?_
  rintro e w1 ⟨rfl, rfl⟩
  go_wp2
  go_ret
  exact ⟨rfl, HA.out⟩

end Go.Proofs.Ytohjfcfcopbmoaa
