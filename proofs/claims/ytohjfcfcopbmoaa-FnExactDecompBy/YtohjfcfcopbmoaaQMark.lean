/- The texts Mark, D2, D3, joined. -/
import Derived.Test.YtohjfcfcopbmoaaQGrid
import Derived.Test.YtohjfcfcopbmoaaQC1

/- Words for memory of the call's own between two block numbers, and for what marking it does. No statement of the program. -/
namespace Go.Proofs.Ytohjfcfcopbmoaa
open Go.RowKit

/-- k, k + 1, .., n numbers. -/
def seqFrom (k : Int) (n : Nat) : List Int := (List.range n).map (fun i : Nat => k + (i : Int))
theorem seqFrom_len (k : Int) (n : Nat) : (seqFrom k n).length = n := by simp [seqFrom]
theorem seqFrom_nth (k : Int) {n i : Nat} (h : i < n) : nth (seqFrom k n) i = k + i := by simp [seqFrom, nth, h]
/-- How many numbers the first i rows hold. -/
def totTo (L : List (List Int)) : Nat → Nat
  | 0 => 0
  | i + 1 => totTo L i + (nthR L i).length
theorem totTo_le {L : List (List Int)} {B : Nat} (h : ∀ i, i < L.length → (nthR L i).length ≤ B) : ∀ i, i ≤ L.length → totTo L i ≤ B * i
  | 0, _ => by simp [totTo]
  | i + 1, hi => by
    have := totTo_le h i (by omega)
    have := h i (by omega)
    simp only [totTo, Nat.mul_add, Nat.mul_one]
    omega
/-- The numbers that marking writes, from k on. -/
def marksG (L : List (List Int)) (k : Int) : List (List Int) := (List.range L.length).map (fun i : Nat => seqFrom (k + totTo L i) (nthR L i).length)
theorem marksG_len (L : List (List Int)) (k : Int) : (marksG L k).length = L.length := by simp [marksG]
theorem marksG_nth (L : List (List Int)) (k : Int) {i : Nat} (h : i < L.length) : nthR (marksG L k) i = seqFrom (k + totTo L i) (nthR L i).length := by simp [marksG, nthR, h]

/-- Between B and U something may have been written; all else that was there is as it was. -/
structure Touched (B U : Nat) (w w' : World) : Prop where
  os : w'.os = w.os
  tape : w'.tape = w.tape
  output : w'.output = w.output
  size : w.heap.size ≤ w'.heap.size
  other : ∀ j, j < w.heap.size → (j < B ∨ U ≤ j) → w'.heap[j]? = w.heap[j]?
theorem Touched.refl (B U : Nat) (w : World) : Touched B U w w := ⟨rfl, rfl, rfl, Nat.le_refl _, fun _ _ _ => rfl⟩
theorem Touched.trans {B U : Nat} {a b c : World} (h : Touched B U a b) (k : Touched B U b c) : Touched B U a c :=
  ⟨k.os.trans h.os, k.tape.trans h.tape, k.output.trans h.output, Nat.le_trans h.size k.size, fun j h1 h2 => (k.other j (Nat.lt_of_lt_of_le h1 h.size) h2).trans (h.other j h1 h2)⟩
theorem Touched.below {B U : Nat} {w w' : World} (h : Touched B U w w') (hB : B ≤ w.heap.size) : Below B w w' :=
  ⟨h.os, h.tape, h.output, h.size, fun k hk => h.other k (by omega) (Or.inl hk)⟩
theorem Touched.ofBelow {B U : Nat} {w w' : World} (h : Below w.heap.size w w') : Touched B U w w' :=
  ⟨h.os, h.tape, h.output, h.size, fun j h1 _ => h.block j h1⟩
/-- A row of the call's own that lies below U. -/
def OwnRowU (T : TypeId) (w : World) (B U : Nat) (v : Value) (xs : List Int) : Prop := OwnRow T w B v xs ∧ ∀ k, v.ownBlock = some k → k < U
/-- A grid of the call's own that lies below U. -/
def OwnGridU (T T1 : TypeId) (w : World) (B U : Nat) (v : Value) (L : List (List Int)) : Prop :=
  ∃ R : Nat → Value, L.length ≤ maxLen ∧
  ((v = .slice none 0 0 ∧ L = []) ∨
   ∃ g cap cur, v = .slice (some ⟨g, 0, none⟩) L.length cap ∧ B ≤ g ∧ g < U ∧ w.heap[g]? = some (.cells cur T1 (0, 0)) ∧ L.length ≤ cap ∧ cap ≤ maxLen ∧ cur.size = cap ∧
     ∀ i, i < L.length → cur[i]? = some (R i)) ∧
  (∀ i, i < L.length → OwnRowU T w B U (R i) (nthR L i)) ∧
  ∀ i j k, i < j → j < L.length → (R i).ownBlock = some k → (R j).ownBlock ≠ some k

theorem OwnRow.under {T : TypeId} {w : World} {B : Nat} {v : Value} {xs : List Int} (h : OwnRow T w B v xs) : OwnRowU T w B w.heap.size v xs := ⟨h, fun k hk => (h.lt k hk).2⟩
theorem OwnGrid.under {T T1 : TypeId} {w : World} {B : Nat} {v : Value} {L : List (List Int)} (h : OwnGrid T T1 w B v L) : OwnGridU T T1 w B w.heap.size v L := by
  obtain ⟨R, h2, h3, h4, h5⟩ := h
  refine ⟨R, h2, ?_, fun i hi => (h4 i hi).under, h5⟩
  rcases h3 with h3 | ⟨g, cap, cur, e, hg, hh, r⟩
  · exact Or.inl h3
  · obtain ⟨hlt, _⟩ := Array.getElem?_eq_some_iff.1 hh
    exact Or.inr ⟨g, cap, cur, e, hg, hlt, hh, r⟩
theorem OwnGridU.own {T T1 : TypeId} {w : World} {B U : Nat} {v : Value} {L : List (List Int)} (h : OwnGridU T T1 w B U v L) : OwnGrid T T1 w B v L := by
  obtain ⟨R, h2, h3, h4, h5⟩ := h
  refine ⟨R, h2, ?_, fun i hi => (h4 i hi).1, h5⟩
  rcases h3 with h3 | ⟨g, cap, cur, e, hg, _, hh, r⟩
  · exact Or.inl h3
  · exact Or.inr ⟨g, cap, cur, e, hg, hh, r⟩

/-- What lies elsewhere stays, when something is touched. -/
theorem OwnRow.touched {T : TypeId} {w w' : World} {B U B' : Nat} {v : Value} {xs : List Int} (h : OwnRow T w B' v xs) (ht : Touched B U w w') (hU : U ≤ B') : OwnRow T w' B' v xs := by
  obtain ⟨h1, h2, h3⟩ := h
  refine ⟨h1, h2, ?_⟩
  rcases h3 with h3 | ⟨g, cap, cur, e, hg, hh, r⟩
  · exact Or.inl h3
  · obtain ⟨hlt, _⟩ := Array.getElem?_eq_some_iff.1 hh
    exact Or.inr ⟨g, cap, cur, e, hg, by rw [ht.other g hlt (Or.inr (by omega))]; exact hh, r⟩
theorem OwnGrid.touched {T T1 : TypeId} {w w' : World} {B U B' : Nat} {v : Value} {L : List (List Int)} (h : OwnGrid T T1 w B' v L) (ht : Touched B U w w') (hU : U ≤ B') : OwnGrid T T1 w' B' v L := by
  obtain ⟨R, h2, h3, h4, h5⟩ := h
  refine ⟨R, h2, ?_, fun i hi => (h4 i hi).touched ht hU, h5⟩
  rcases h3 with h3 | ⟨g, cap, cur, e, hg, hh, r⟩
  · exact Or.inl h3
  · obtain ⟨hlt, _⟩ := Array.getElem?_eq_some_iff.1 hh
    exact Or.inr ⟨g, cap, cur, e, hg, by rw [ht.other g hlt (Or.inr (by omega))]; exact hh, r⟩
theorem OwnRowU.keep {T : TypeId} {w w' : World} {B U : Nat} {v : Value} {xs : List Int} (h : OwnRowU T w B U v xs) (hb : Below w.heap.size w w') : OwnRowU T w' B U v xs := ⟨h.1.keep hb, h.2⟩
theorem OwnGridU.keep {T T1 : TypeId} {w w' : World} {B U : Nat} {v : Value} {L : List (List Int)} (h : OwnGridU T T1 w B U v L) (hb : Below w.heap.size w w') : OwnGridU T T1 w' B U v L := by
  obtain ⟨R, h2, h3, h4, h5⟩ := h
  refine ⟨R, h2, ?_, fun i hi => (h4 i hi).keep hb, h5⟩
  rcases h3 with h3 | ⟨g, cap, cur, e, hg, hu, hh, r⟩
  · exact Or.inl h3
  · obtain ⟨hlt, _⟩ := Array.getElem?_eq_some_iff.1 hh
    exact Or.inr ⟨g, cap, cur, e, hg, hu, by rw [hb.block g hlt]; exact hh, r⟩

/-- What lies in another stretch of blocks stays, when something is touched. -/
theorem OwnRowU.apart {T : TypeId} {w w' : World} {B U B' U' : Nat} {v : Value} {xs : List Int} (h : OwnRowU T w B' U' v xs) (ht : Touched B U w w') (hd : U' ≤ B ∨ U ≤ B') : OwnRowU T w' B' U' v xs := by
  obtain ⟨⟨h1, h2, h3⟩, hu⟩ := h
  refine ⟨⟨h1, h2, ?_⟩, hu⟩
  rcases h3 with h3 | ⟨g, cap, cur, e, hg, hh, r⟩
  · exact Or.inl h3
  · obtain ⟨hlt, _⟩ := Array.getElem?_eq_some_iff.1 hh
    have hgu := hu g (by rw [e]; rfl)
    exact Or.inr ⟨g, cap, cur, e, hg, by rw [ht.other g hlt (by omega)]; exact hh, r⟩
theorem OwnGridU.apart {T T1 : TypeId} {w w' : World} {B U B' U' : Nat} {v : Value} {L : List (List Int)} (h : OwnGridU T T1 w B' U' v L) (ht : Touched B U w w') (hd : U' ≤ B ∨ U ≤ B') : OwnGridU T T1 w' B' U' v L := by
  obtain ⟨R, h2, h3, h4, h5⟩ := h
  refine ⟨R, h2, ?_, fun i hi => (h4 i hi).apart ht hd, h5⟩
  rcases h3 with h3 | ⟨g, cap, cur, e, hg, hu, hh, r⟩
  · exact Or.inl h3
  · obtain ⟨hlt, _⟩ := Array.getElem?_eq_some_iff.1 hh
    exact Or.inr ⟨g, cap, cur, e, hg, hu, by rw [ht.other g hlt (by omega)]; exact hh, r⟩
theorem cell_apart {w w' : World} {B U : Nat} {a : Addr} {v : Value} (h : w.cell? a = some v) (ht : Touched B U w w') (hd : a.block < B ∨ U ≤ a.block) : w'.cell? a = some v := by
  rw [World.cell?_of_block (w := w) (ht.other a.block (block_lt_of_cell h) hd)]; exact h
theorem OwnRowU.read {T : TypeId} {w : World} {B U : Nat} {v : Value} {xs : List Int} (h : OwnRowU T w B U v xs) : RowAt w v xs := h.1.row
theorem OwnGridU.read {T T1 : TypeId} {w : World} {B U : Nat} {v : Value} {L : List (List Int)} (h : OwnGridU T T1 w B U v L) : GridAt w v L := h.own.grid

/-- Only block g has been written. -/
structure OnlyBlk (g : Nat) (w w' : World) : Prop where
  os : w'.os = w.os
  tape : w'.tape = w.tape
  output : w'.output = w.output
  size : w'.heap.size = w.heap.size
  other : ∀ j, j ≠ g → w'.heap[j]? = w.heap[j]?
theorem OnlyBlk.refl (g : Nat) (w : World) : OnlyBlk g w w := ⟨rfl, rfl, rfl, rfl, fun _ _ => rfl⟩
theorem OnlyBlk.setCell {g : Nat} {w w' : World} (h : OnlyBlk g w w') (i : Nat) (v : Value) : OnlyBlk g w (w'.setCell ⟨g, i, none⟩ v) :=
  ⟨h.os, h.tape, h.output, by rw [size_setCell1]; exact h.size, fun j hj => by rw [heap_setCell_other _ _ _ _ (by simpa using hj)]; exact h.other j hj⟩
theorem OnlyBlk.touched {g B U : Nat} {w w' : World} (h : OnlyBlk g w w') (hB : B ≤ g) (hU : g < U) : Touched B U w w' :=
  ⟨h.os, h.tape, h.output, Nat.le_of_eq h.size.symm, fun j _ hj => h.other j (by omega)⟩

theorem OwnRow.only {T : TypeId} {w w' : World} {B g : Nat} {v : Value} {xs : List Int} (h : OwnRow T w B v xs) (ho : OnlyBlk g w w') (hne : v.ownBlock ≠ some g) : OwnRow T w' B v xs := by
  obtain ⟨h1, h2, h3⟩ := h
  refine ⟨h1, h2, ?_⟩
  rcases h3 with h3 | ⟨g', cap, cur, e, hg, hh, r⟩
  · exact Or.inl h3
  · refine Or.inr ⟨g', cap, cur, e, hg, ?_, r⟩
    rw [ho.other g' (fun e2 => hne (by rw [e, e2]; rfl))]
    exact hh
/-- The row's block is of the element's type. -/
theorem OwnRow.blk {T : TypeId} {w : World} {B g : Nat} {v : Value} {xs : List Int} (h : OwnRow T w B v xs) (hg : v.ownBlock = some g) : ∃ cur, w.heap[g]? = some (.cells cur T (0, 0)) := by
  rcases h.2.2 with ⟨e, _⟩ | ⟨g', cap, cur, e, _, hh, _⟩
  · rw [e] at hg; simp [Value.ownBlock] at hg
  · rw [e] at hg
    simp [Value.ownBlock] at hg
    subst hg
    exact ⟨cur, hh⟩

end Go.Proofs.Ytohjfcfcopbmoaa

/- Walks of the laws' own helpers: marks. -/
namespace Go.Proofs.Ytohjfcfcopbmoaa
open Go.RowKit

/-- What marking a row does. -/
def MarkedRow (w : World) (B U : Nat) (v : Value) (n : Nat) (k : Int) (e : Ending) (w' : World) : Prop :=
  e = .returned (.int .i64 (k + n)) ∧ OwnRowU 2 w' B U v (seqFrom k n) ∧ Touched B U w w' ∧ (∀ g, v.ownBlock = some g → OnlyBlk g w w') ∧ (v.ownBlock = none → w' = w)

set_option maxHeartbeats 400000 in
theorem markInt64S_any (v : Value) (xs : List Int) (B U : Nat) (k : Int) (w : World) (h : OwnRowU 2 w B U v xs) (h0 : 0 ≤ k) (h1 : k + xs.length ≤ 1000000000000000) :
    Calls Try.prog 20 #[v, .int .i64 k] w (MarkedRow w B U v xs.length k) := by
  obtain ⟨⟨hI, hm, hv⟩, hu⟩ := h
  have HI := Lib.hid hI
  clear hI
  rcases hv with ⟨rfl, rfl⟩ | ⟨g, cap, cur, rfl, hg, hh, l1, l2, hs, hc⟩
  · have HP : Hid (MarkedRow w B U (.slice none 0 0) 0 k (.returned (.int .i64 k)) w) :=
      ⟨by simp, ⟨⟨by simp [seqFrom], by simp [seqFrom], Or.inl ⟨rfl, by simp [seqFrom]⟩⟩, hu⟩, Touched.refl _ _ _, fun g hg => by simp [Value.ownBlock] at hg, fun _ => rfl⟩
    clear hu hm h1
    go_enter Try.func20, Try.ntmps20
    go_wp2
    refine wp_loop_rounds 1 ?_
    rw [rounds_succ]
    go_wp2
    go_ret
    exact HP.out
  · have hgU := hu g rfl
    have HH := Lib.hid hh
    have HS := Lib.hid hs
    have HC := Lib.hid hc
    unfold maxLen at hm l2
    clear hu hh hc hs
    go_enter Try.func20, Try.ntmps20
    go_wp2
    go_loopw [1, 5] (fun q i wr => ∃ j : Nat, j ≤ xs.length ∧ i = .int .i64 j ∧ q = .int .i64 (k + j) ∧ (∃ cur' : Array Value, wr.heap[g]? = some (.cells cur' 2 (0, 0)) ∧ cur'.size = cap ∧ ∀ i, i < j → cur'[i]? = some (.int .i64 (k + i))) ∧ OnlyBlk g w wr) (fun _ i _ => xs.length - (intOf i).toNat)
    case atStart => exact ⟨0, Nat.zero_le _, rfl, by simp, ⟨cur, HH.out, HS.out, fun i hi => absurd hi (by omega)⟩, OnlyBlk.refl _ _⟩
    case round =>
      obtain ⟨j, hj, rfl, rfl, ⟨cur', hh', hs', hc'⟩, ho⟩ := hrel
      have HO := Lib.hid ho
      have HH' := Lib.hid hh'
      have HS' := Lib.hid hs'
      have HC' := Lib.hid hc'
      by_cases hlt : j < xs.length
      · have hcf := frozen_of_row wr g j cur' 2 hh'
        obtain ⟨old, hold⟩ : ∃ u, wr.cell? ⟨g, j, none⟩ = some u := by
          rw [cell_of_row wr g j cur' _ _ hh']
          exact ⟨cur'[j]'(by omega), Array.getElem?_eq_getElem (by omega)⟩
        have hk2 : k + (j : Int) ≤ 1000000000000000 := by omega
        clear ho hh' hs' hc'
        go_wp2
        go_roundw
        case rel =>
          refine ⟨j + 1, by omega, by go_num, by go_num, ⟨cur'.setIfInBounds j (.int .i64 (k + j)), heap_setCell_same wr g j cur' 2 _ HH'.out, by rw [Array.size_setIfInBounds]; exact HS'.out, fun i hi => ?_⟩, HO.out.setCell _ _⟩
          rw [Array.getElem?_setIfInBounds]
          by_cases e : j = i
          · subst e; rw [if_pos rfl, if_pos (by have := HS'.out; omega)]
          · rw [if_neg e]; exact HC'.out i (by omega)
        case measure => simp [intOf]; omega
      · obtain rfl : j = xs.length := by omega
        clear ho hh' hs' hc'
        go_wp2
        go_ret
        refine ⟨rfl, ⟨⟨?_, by rw [seqFrom_len]; unfold maxLen; omega, Or.inr ⟨g, cap, cur', by rw [seqFrom_len], hg, HH'.out, by rw [seqFrom_len]; exact l1, by unfold maxLen; exact l2, HS'.out, fun i hi => ?_⟩⟩, fun q hq => by simp [Value.ownBlock] at hq; omega⟩, HO.out.touched hg hgU, fun q hq => by simp [Value.ownBlock] at hq; subst hq; exact HO.out, fun hn => by simp [Value.ownBlock] at hn⟩
        · intro x hx
          simp [seqFrom] at hx
          obtain ⟨i, hi, rfl⟩ := hx
          unfold I64; omega
        · rw [seqFrom_len] at hi
          rw [seqFrom_nth k hi]
          exact HC'.out i hi

/-- What marking a grid does. -/
def MarkedGrid (w : World) (B U : Nat) (v : Value) (L : List (List Int)) (k : Int) (e : Ending) (w' : World) : Prop :=
  e = .returned (.int .i64 (k + totTo L L.length)) ∧ OwnGridU 2 33 w' B U v (marksG L k) ∧ Touched B U w w'

/-- In the middle of marking: j rows are marked. -/
def MidMark (w wr : World) (B U : Nat) (L : List (List Int)) (R : Nat → Value) (k : Int) (j : Nat) : Prop :=
  (∀ i, i < j → OwnRowU 2 wr B U (R i) (seqFrom (k + totTo L i) (nthR L i).length)) ∧ (∀ i, j ≤ i → i < L.length → OwnRowU 2 wr B U (R i) (nthR L i)) ∧ Touched B U w wr

theorem midMark_step {w wr w' : World} {B U : Nat} {L : List (List Int)} {R : Nat → Value} {k : Int} {j : Nat} (h : MidMark w wr B U L R k j) (hj : j < L.length) (hd : ∀ i j k, i < j → j < L.length → (R i).ownBlock = some k → (R j).ownBlock ≠ some k)
    (hr : OwnRowU 2 w' B U (R j) (seqFrom (k + totTo L j) (nthR L j).length)) (ht : Touched B U wr w') (ho : ∀ g, (R j).ownBlock = some g → OnlyBlk g wr w') (hn : (R j).ownBlock = none → w' = wr) : MidMark w w' B U L R k (j + 1) := by
  obtain ⟨h1, h2, h3⟩ := h
  have other : ∀ i xs, i ≠ j → i < L.length → OwnRowU 2 wr B U (R i) xs → OwnRowU 2 w' B U (R i) xs := by
    intro i xs hij hi hx
    refine ⟨?_, hx.2⟩
    cases hb : (R j).ownBlock with
    | none => rw [hn hb]; exact hx.1
    | some g =>
      refine hx.1.only (ho g hb) ?_
      intro e
      rcases Nat.lt_or_gt_of_ne hij with hlt | hgt
      · exact hd i j g hlt hj e hb
      · exact hd j i g hgt hi hb e
  refine ⟨fun i hi => ?_, fun i hi hi2 => other i _ (by omega) hi2 (h2 i (by omega) hi2), h3.trans ht⟩
  by_cases e : i = j
  · subst e; exact hr
  · exact other i _ e (by omega) (h1 i (by omega))

set_option maxHeartbeats 400000 in
theorem markInt64SS_any (v : Value) (L : List (List Int)) (B U : Nat) (k : Int) (w : World) (h : OwnGridU 2 33 w B U v L) (h0 : 0 ≤ k) (h1 : k ≤ 100000000000000) (hs : Small L) :
    Calls Try.prog 28 #[v, .int .i64 k] w (MarkedGrid w B U v L k) := by
  obtain ⟨R, hm, hv, hr, hd⟩ := h
  have HR := Lib.hid hr
  have HD := Lib.hid hd
  have htot := totTo_le hs.2
  have HT := Lib.hid htot
  have hsl := hs.1
  clear hr hd htot
  rcases hv with ⟨rfl, rfl⟩ | ⟨g, cap, cur, rfl, hg, hgU, hh, l1, l2, hsz, hc⟩
  · have HP : Hid (MarkedGrid w B U (.slice none 0 0) [] k (.returned (.int .i64 k)) w) :=
      ⟨by simp [totTo], ⟨R, by simp [marksG], Or.inl ⟨rfl, by simp [marksG]⟩, fun i hi => absurd hi (by simp [marksG]), fun i j q _ hj => absurd hj (by simp [marksG])⟩, Touched.refl _ _ _⟩
    clear hm hs HR HD HT
    go_enter Try.func28, Try.ntmps28
    go_wp2
    refine wp_loop_rounds 1 ?_
    rw [rounds_succ]
    go_wp2
    go_ret
    exact HP.out
  · have HH := Lib.hid hh
    have HC := Lib.hid hc
    have HS := Lib.hid hsz
    unfold maxLen at hm l2
    have HSm := Lib.hid hs
    clear hh hc hsz hs
    go_enter Try.func28, Try.ntmps28
    go_wp2
    go_loopw [1, 5] (fun q i wr => ∃ j : Nat, j ≤ L.length ∧ i = .int .i64 j ∧ q = .int .i64 (k + totTo L j) ∧ wr.heap[g]? = some (.cells cur 33 (0, 0)) ∧ MidMark w wr B U L R k j) (fun _ i _ => L.length - (intOf i).toNat)
    case atStart => exact ⟨0, Nat.zero_le _, rfl, by simp [totTo], HH.out, fun i hi => absurd hi (by omega), fun i _ hi => HR.out i hi, Touched.refl _ _ _⟩
    case round =>
      obtain ⟨j, hj, rfl, rfl, hh', hmid⟩ := hrel
      have HH' := Lib.hid hh'
      have HM := Lib.hid hmid
      have htj := HT.out j hj
      have htj2 : 1048576 * j ≤ 1048576 * 1048576 := by omega
      by_cases hlt : j < L.length
      · have hck : wr.cell? ⟨g, j, none⟩ = some (R j) := by rw [cell_of_row wr g j cur _ _ hh']; exact HC.out j hlt
        have hrow := hmid.2.1 j (Nat.le_refl _) hlt
        have hrs := HSm.out.2 j hlt
        have hts : totTo L (j + 1) = totTo L j + (nthR L j).length := rfl
        have HTS := Lib.hid hts
        clear hh' hmid hts
        go_wp2_with fail
        refine (markInt64S_any _ _ _ _ _ _ hrow (by omega) (by omega)).mono ?_
        rintro e w' ⟨rfl, hr1, ht1, ho1, hn1⟩
        have hstep := midMark_step HM.out hlt HD.out hr1 ht1 ho1 hn1
        have hh2 : w'.heap[g]? = some (.cells cur 33 (0, 0)) := by
          cases hb : (R j).ownBlock with
          | none => rw [hn1 hb]; exact HH'.out
          | some q =>
            rw [(ho1 q hb).other g (fun e => by
              obtain ⟨c2, hc2⟩ := hrow.1.blk hb
              rw [← e, HH'.out] at hc2
              simp at hc2)]
            exact HH'.out
        have HST := Lib.hid hstep
        have HH2 := Lib.hid hh2
        clear hr1 ht1 ho1 hn1 hstep hh2 hrow
        go_wp2
        go_roundw
        case rel => exact ⟨j + 1, by omega, by go_num, by rw [HTS.out]; go_num, HH2.out, HST.out⟩
        case measure => simp [intOf]; omega
      · obtain rfl : j = L.length := by omega
        clear hh' hmid
        go_wp2
        go_ret
        refine ⟨rfl, ⟨R, by rw [marksG_len]; unfold maxLen; omega, Or.inr ⟨g, cap, cur, by rw [marksG_len], hg, hgU, HH'.out, by rw [marksG_len]; exact l1, by unfold maxLen; exact l2, HS.out, fun i hi => HC.out i (by rw [marksG_len] at hi; exact hi)⟩, fun i hi => ?_, fun i q r h2 h3 => HD.out i q r h2 (by rw [marksG_len] at h3; exact h3)⟩, HM.out.2.2⟩
        rw [marksG_len] at hi
        rw [marksG_nth L k hi]
        exact HM.out.1 i hi

end Go.Proofs.Ytohjfcfcopbmoaa

/- Walks of the laws' own helpers: marks of graphs; looking whether marks are held. -/
namespace Go.Proofs.Ytohjfcfcopbmoaa
open Go.RowKit

theorem Touched.alloc {B U : Nat} {w w' : World} (h : Touched B U w w') (o : Obj) : Touched B U w (w'.alloc o) :=
  h.trans (Touched.ofBelow ((Below.refl _ _).alloc (Nat.le_refl _) _))

set_option maxHeartbeats 400000 in
theorem markGraph_any (v : Value) (L : List (List Int)) (B U : Nat) (k : Int) (w : World) (h : OwnGridU 2 33 w B U v L) (h0 : 0 ≤ k) (h1 : k ≤ 100000000000000) (hs : Small L) :
    Calls Try.prog 19 #[.agg #[v], .int .i64 k] w (MarkedGrid w B U v L k) := by
  obtain ⟨a, c, rfl⟩ := h.own.grid.slice
  have ha : Below w.heap.size w (w.alloc (.cells #[.slice a L.length c] 37)) := (Below.refl _ _).alloc (Nat.le_refl _) _
  have hk := h.keep ha
  have HA := Lib.hid ha
  clear ha
  go_enter Try.func19, Try.ntmps19
  go_wp2_with fail
  refine (markInt64SS_any _ _ _ _ _ _ hk h0 h1 hs).mono ?_
  rintro e w' ⟨rfl, hg, ht⟩
  have HP : Hid (MarkedGrid w B U (.slice a L.length c) L k (.returned (.int .i64 (k + totTo L L.length))) w') := ⟨rfl, hg, (Touched.ofBelow HA.out).trans ht⟩
  clear hg ht
  go_wp2
  go_ret
  exact HP.out

set_option maxHeartbeats 400000 in
theorem heldInt64S_any (v : Value) (n : Nat) (k : Int) (w : World) (h : RowAt w v (seqFrom k n)) (h0 : 0 ≤ k) (h1 : k + n ≤ 1000000000000000) :
    Calls Try.prog 50 #[v, .int .i64 k] w fun e w' => e = .returned (.int .i64 (k + n)) ∧ w = w' := by
  by_cases hn : n = 0
  · subst hn
    obtain ⟨a, c, rfl⟩ := h.zero (by simp [seqFrom])
    have HE : Hid (k + ((0 : Nat) : Int) = k) := by show _ = _; simp
    clear h h1
    go_enter Try.func50, Try.ntmps50
    go_wp2
    refine wp_loop_rounds 1 ?_
    rw [rounds_succ]
    go_wp2
    go_ret
    exact ⟨ret_int HE.out.symm, rfl⟩
  · obtain ⟨b, o, c, e, l1, l2, hc⟩ := h.pos (by rw [seqFrom_len]; omega)
    rw [seqFrom_len] at e l1 hc
    subst e
    have HC : Hid (∀ i, i < n → w.cell? ⟨b, o + i, none⟩ = some (.int .i64 (k + i))) := fun i hi => by rw [hc i hi, seqFrom_nth k hi]
    clear h hc hn
    go_enter Try.func50, Try.ntmps50
    go_wp2
    go_loop [1, 5] (fun q i => ∃ j : Nat, j ≤ n ∧ i = .int .i64 j ∧ q = .int .i64 (k + j)) (fun _ i => n - (intOf i).toNat)
    case atStart => exact ⟨0, Nat.zero_le _, rfl, by simp⟩
    case round =>
      obtain ⟨j, hj, rfl, rfl⟩ := hrel
      by_cases hlt : j < n
      · have hck := HC.out j hlt
        have hk2 : k + (j : Int) ≤ 1000000000000000 := by omega
        have hne : ((k + (j : Int)) != (k + (j : Int))) = false := by simp
        go_wp2
        go_round
        case rel => exact ⟨j + 1, by omega, by go_num, by go_num⟩
        case measure => simp [intOf]; omega
      · obtain rfl : j = n := by omega
        go_wp2
        go_ret
        exact ⟨rfl, rfl⟩

set_option maxHeartbeats 400000 in
theorem heldInt64SS_any (v : Value) (L : List (List Int)) (k : Int) (w : World) (h : GridAt w v (marksG L k)) (h0 : 0 ≤ k) (h1 : k ≤ 100000000000000) (hs : Small L) :
    Calls Try.prog 29 #[v, .int .i64 k] w fun e w' => e = .returned (.int .i64 (k + totTo L L.length)) ∧ w = w' := by
  have HT := Lib.hid (totTo_le hs.2)
  have hsl := hs.1
  have HSm := Lib.hid hs
  clear hs
  by_cases hn : L.length = 0
  · have HE : Hid (k + (totTo L L.length : Int) = k) := by show _ = _; rw [hn]; simp [totTo]
    obtain ⟨a, c, rfl⟩ := h.zero (by rw [marksG_len]; exact hn)
    clear h hn
    go_enter Try.func29, Try.ntmps29
    go_wp2
    refine wp_loop_rounds 1 ?_
    rw [rounds_succ]
    go_wp2
    go_ret
    exact ⟨ret_int HE.out.symm, rfl⟩
  · obtain ⟨b, o, c, A, C, e, l1, l2, hc⟩ := h.pos (by rw [marksG_len]; omega)
    rw [marksG_len] at e l1 hc
    subst e
    have HC := Lib.hid hc
    clear h hc hn
    go_enter Try.func29, Try.ntmps29
    go_wp2
    go_loop [1, 5] (fun q i => ∃ j : Nat, j ≤ L.length ∧ i = .int .i64 j ∧ q = .int .i64 (k + totTo L j)) (fun _ i => L.length - (intOf i).toNat)
    case atStart => exact ⟨0, Nat.zero_le _, rfl, by simp [totTo]⟩
    case round =>
      obtain ⟨j, hj, rfl, rfl⟩ := hrel
      have htj := HT.out j hj
      have htj2 : 1048576 * j ≤ 1048576 * 1048576 := by omega
      by_cases hlt : j < L.length
      · have hck := (HC.out j hlt).1
        have hrow := (HC.out j hlt).2
        rw [marksG_nth L k hlt] at hck hrow
        have hrs := HSm.out.2 j hlt
        have hts : totTo L (j + 1) = totTo L j + (nthR L j).length := rfl
        have HTS := Lib.hid hts
        have hpos : 0 ≤ k + (totTo L j : Int) + ((nthR L j).length : Int) := by omega
        clear hts
        go_wp2_with fail
        refine (heldInt64S_any _ _ _ _ hrow (by omega) (by omega)).mono ?_
        rintro e w' ⟨rfl, rfl⟩
        go_wp2
        go_round
        case rel => exact ⟨j + 1, by omega, by go_num, by rw [HTS.out]; go_num⟩
        case measure => simp [intOf]; omega
      · obtain rfl : j = L.length := by omega
        go_wp2
        go_ret
        exact ⟨rfl, rfl⟩

end Go.Proofs.Ytohjfcfcopbmoaa
