/- The texts F6, F7, F8, F9, joined. -/
import Derived.Test.YtohjfcfcopbmoaaQF4
import Derived.Test.YtohjfcfcopbmoaaE1
import Derived.Test.YtohjfcfcopbmoaaQB4
import Derived.Deep.RegionLaw

/- Walks: the program's edge test; an edge put into a net. -/
namespace Go.Proofs.Ytohjfcfcopbmoaa
open Go.RowKit

/-- Two vertices of n, the lesser first. -/
def EdgeP (xs : List Int) (n : Int) : Prop := xs.length = 2 ∧ 0 ≤ nth xs 0 ∧ nth xs 0 < nth xs 1 ∧ nth xs 1 < n
instance (xs : List Int) (n : Int) : Decidable (EdgeP xs n) := by unfold EdgeP; infer_instance
/-- Masks with the edge a b put in. -/
def linkM (M : Nat → Nat) (a b : Nat) (i : Nat) : Nat := if i = b then M b ||| 2 ^ a else if i = a then M a ||| 2 ^ b else M i
theorem NetPut.of {T : TypeId} {w : World} {g n : Nat} {M M' : Nat → Nat} {i j mi mj : Nat} {w1 w2 : World} (h : NetBlk T w g n M) (hi : i < 16) (hj : j < 16) (h1 : Drawn (w.setCell ⟨g, 1 + i, none⟩ (.int .u32 (mi : Int))) w1) (h2 : Drawn (w1.setCell ⟨g, 1 + j, none⟩ (.int .u32 (mj : Int))) w2)
    (hM : ∀ k, k < 16 → (if k = j then mj else if k = i then mi else M k) = M' k) : NetPut T w w2 g n M' := by
  obtain ⟨a, rfl⟩ := h1
  obtain ⟨b, rfl⟩ := h2
  refine ⟨rfl, rfl, rfl, ?_, ?_, ?_⟩
  · show (((w.setCell _ _).drewN a).setCell _ _).heap.size = _
    rw [size_setCell1]
    exact size_setCell1 _ _ _
  · have q1 : NetBlk T (w.setCell ⟨g, 1 + i, none⟩ (.int .u32 (mi : Int))) g n (fun k => if k = i then mi else M k) := h.set i mi hi
    have q2 : NetBlk T ((w.setCell ⟨g, 1 + i, none⟩ (.int .u32 (mi : Int))).drewN a) g n (fun k => if k = i then mi else M k) := q1
    have q3 := q2.set j mj hj
    exact NetBlk.congr (w := ((((w.setCell ⟨g, 1 + i, none⟩ (.int .u32 (mi : Int))).drewN a).setCell ⟨g, 1 + j, none⟩ (.int .u32 (mj : Int))).drewN b)) q3 rfl hM
  · intro k hk
    show ((((w.setCell ⟨g, 1 + i, none⟩ (.int .u32 (mi : Int))).drewN a).setCell ⟨g, 1 + j, none⟩ (.int .u32 (mj : Int)))).heap[k]? = _
    rw [heap_setCell_other _ _ _ _ hk]
    exact heap_setCell_other _ _ _ _ hk

end Go.Proofs.Ytohjfcfcopbmoaa

/- Walks: a mask's list. -/
namespace Go.Proofs.Ytohjfcfcopbmoaa
open Go.RowKit

def listTo (M k : Nat) : List Int := ((List.range k).filter (fun i => M.testBit i)).map (fun i : Nat => (i : Int))
theorem listTo_len (M k : Nat) : (listTo M k).length ≤ k := by
  unfold listTo
  rw [List.length_map]
  have := List.length_filter_le (fun i => M.testBit i) (List.range k)
  rw [List.length_range] at this
  exact this
theorem listTo_succ (M k : Nat) : listTo M (k + 1) = listTo M k ++ if M.testBit k then [(k : Int)] else [] := by
  unfold listTo
  rw [List.range_succ, List.filter_append, List.map_append]
  congr 1
  by_cases h : M.testBit k = true
  · simp [h]
  · simp [h]

set_option maxHeartbeats 1600000 in
theorem list_any (M : Nat) (w : World) (hM : M < 65536) : Calls Try.prog 44 #[.int .u32 M] w (GaveRow w (listM M)) := by
  obtain ⟨i0, hi, hz0, hz1, hz2⟩ := info_parts Try.infoI
  have hbl := bitsTo_le M 16
  go_enter Try.func44, Try.ntmps44
  go_wp2_with fail
  refine (size_any _ _ hM).mono ?_
  rintro e w1 ⟨rfl, hd1⟩
  have hb1 := hd1.below w.heap.size
  have HB1 := Lib.hid hb1
  have hs1 : w.heap.size ≤ w1.heap.size := hb1.size
  clear hd1 hb1
  go_wp2_with (refine wpList_make_own _ rfl (.const (.int .i64 0)) (.tmp 6) 33 rfl w.heap.size 2 i0 (.int .i64 0) 1 Try.underlying33 hi hz0 hz1 .i64 .i64 _ (bitsTo M 16) rfl rfl rfl ?m1 ?m2 ?m3 ?_)
  case m1 => rw [hz2]; omega
  case m2 => unfold maxLen; omega
  case m3 => exact hs1
  intro w2 hown hgrow
  have hb2 : Below w.heap.size w w2 := HB1.out.grown hgrow hs1 (fun j hj => by cases hj)
  have HB2 := Lib.hid hb2
  have HO2 := Lib.hid hown
  have hs2 : w.heap.size ≤ w2.heap.size := hb2.size
  clear hown hgrow hb2
  go_wp2_with fail
  go_loopw [3, 8] (fun s i wr => ∃ k : Nat, k ≤ 16 ∧ i = .int .i64 k ∧ wr.ownsRow w.heap.size 2 1 s (listTo M k).length ((listTo M k).map (Value.int .i64)) ∧ Below w.heap.size w wr ∧ w.heap.size ≤ wr.heap.size) (fun _ i _ => 16 - (intOf i).toNat)
  case atStart => exact ⟨0, Nat.zero_le _, rfl, HO2.out, HB2.out, hs2⟩
  case round =>
    obtain ⟨k, hk, rfl, ho, hb, hz⟩ := hrel
    have HO := Lib.hid ho
    have HB := Lib.hid hb
    have hll := listTo_len M k
    clear ho hb
    by_cases hlt : k < 16
    · have hlk : (k : Int) < 16 := by omega
      have hasE : hasM M (k : Int) = M.testBit k := by unfold hasM; simp; omega
      have HE := Lib.hid hasE
      clear hasE
      go_wp2_with fail
      refine (has_any M k _ hM).mono ?_
      rintro e w3 ⟨rfl, rfl⟩
      rw [HE.out]
      by_cases ht : M.testBit k = true
      · rw [ht]
        go_wp2_with (at_builtin; refine wpList_append_own _ rfl (.tmp 14) (.tmp 16) 33 rfl w.heap.size 2 i0 (.int .i64 0) 1 8 Try.underlying33 hi hz0 hz1 hz2 rfl (by decide) _ _ _ rfl (HO.out.alloc _) ⟨wr.heap.size, 0, none⟩ 1 1 [.int .i64 (k : Int)] rfl rfl ?d1 ?d2 ?d3 ?d4 ?d5 ?_)
        case d1 =>
          intro j u hj
          match j, hj with
          | 0, hj => simp at hj; subst hj; simp [Addr.add]
        case d2 => intro u hu; simp at hu; subst hu; rfl
        case d3 => unfold maxLen; omega
        case d4 => omega
        case d5 => simp; omega
        intro v4 w4 hown4 hgrow4 _
        have hb4 : Below w.heap.size w w4 := (HB.out.alloc hz _).grown hgrow4 (by simp; omega) (fun j hj => (HO.out.lt j hj).1)
        have HT := Lib.hid ht
        have HO4 := Lib.hid hown4
        have HB4 := Lib.hid hb4
        clear hown4 hgrow4 hb4 ht
        go_wp2
        go_roundw
        case rel =>
          refine ⟨k + 1, by omega, by go_num, ?_, HB4.out, HB4.out.size⟩
          rw [listTo_succ, HT.out, if_pos rfl]
          simpa using HO4.out
        case measure => simp [intOf]; omega
      · have ht' : M.testBit k = false := by simpa using ht
        have HT := Lib.hid ht'
        rw [ht']
        clear ht ht'
        go_wp2
        go_roundw
        case rel =>
          refine ⟨k + 1, by omega, by go_num, ?_, HB.out, hz⟩
          rw [listTo_succ, HT.out]
          simpa using HO.out
        case measure => simp [intOf]; omega
    · obtain rfl : k = 16 := by omega
      have hro : OwnRow 2 wr w.heap.size _ (listM M) := OwnRow.of_ownsRow (n := (listTo M 16).length) HO.out (by unfold maxLen; show (listTo M 16).length ≤ _; omega) (listM_i64 M)
      obtain ⟨a4, c4, e4⟩ := hro.row.slice
      have HP : Hid (GaveRow w (listM M) (.returned (.slice a4 (listM M).length c4)) wr) := ⟨_, a4, c4, rfl, by rw [← e4]; exact hro, HB.out⟩
      rw [e4]
      clear hro e4
      go_wp2
      go_ret
      exact HP.out

end Go.Proofs.Ytohjfcfcopbmoaa

/- Walks: the graph of a net. -/
namespace Go.Proofs.Ytohjfcfcopbmoaa
open Go.RowKit

/-- The lists of the first k masks; the rest empty. -/
def partL (n : Nat) (M : Nat → Nat) (k : Nat) : List (List Int) := (List.range n).map (fun i => if i < k then listM (M i) else [])
theorem partL_len (n : Nat) (M : Nat → Nat) (k : Nat) : (partL n M k).length = n := by simp [partL]
theorem partL_nth {n : Nat} (M : Nat → Nat) (k : Nat) {i : Nat} (hi : i < n) : nthR (partL n M k) i = if i < k then listM (M i) else [] := by simp [partL, nthR, hi]
/-- The lists of n masks. -/
def maskL (n : Nat) (M : Nat → Nat) : List (List Int) := (List.range n).map (fun i => listM (M i))
theorem maskL_len (n : Nat) (M : Nat → Nat) : (maskL n M).length = n := by simp [maskL]
theorem maskL_nth {n : Nat} (M : Nat → Nat) {i : Nat} (hi : i < n) : nthR (maskL n M) i = listM (M i) := by simp [maskL, nthR, hi]
theorem own_made (w : World) (n : Nat) (M : Nat → Nat) (hn : n ≤ 16) : OwnGrid 2 33 (w.alloc (.cells (madeCells #[.slice none 0 0] n) 33)) w.heap.size (.slice (some ⟨w.heap.size, 0, none⟩) n n) (partL n M 0) := by
  obtain ⟨cur, c1, c2, c3⟩ := World.rowIs_made w (.slice none 0 0) n 33
  refine ⟨fun _ => .slice none 0 0, by rw [partL_len]; unfold maxLen; omega, Or.inr ⟨w.heap.size, n, cur, by rw [partL_len], Nat.le_refl _, c1, by rw [partL_len]; exact Nat.le_refl _, by unfold maxLen; omega, c2, fun i hi => by rw [partL_len] at hi; rw [c3 i hi]⟩, fun i hi => ?_, fun i j k _ _ hk => by cases hk⟩
  rw [partL_len] at hi
  rw [partL_nth M 0 hi, if_neg (by omega)]
  exact ⟨by simp, by simp, Or.inl ⟨rfl, rfl⟩⟩

end Go.Proofs.Ytohjfcfcopbmoaa

/- Walks: the program's graph of a list of edges. -/
namespace Go.Proofs.Ytohjfcfcopbmoaa
open Go.RowKit

/-- The masks of the first k edges. -/
def edgeM (E : List (List Int)) : Nat → Nat → Nat
  | 0, _ => 0
  | k + 1, i => linkM (edgeM E k) (nth (nthR E k) 0).toNat (nth (nthR E k) 1).toNat i
/-- The numbers and edges that make a graph. -/
def OfP (n : Int) (E : List (List Int)) : Prop := inB n 1 16 = true ∧ E.length ≤ 120 ∧ ∀ k, k < E.length → EdgeP (nthR E k) n
instance (n : Int) (E : List (List Int)) : Decidable (OfP n E) := by unfold OfP; infer_instance
/-- Its rows. -/
def ofL (n : Int) (E : List (List Int)) : List (List Int) := if OfP n E then maskL n.toNat (edgeM E E.length) else []
/-- A call has handed back the graph of those edges, of its own make, and whether there is one. -/
def GaveOf (w : World) (n : Int) (E : List (List Int)) (e : Ending) (w' : World) : Prop :=
  ∃ m a c, e = .returned (.tuple #[.agg #[.slice a m c], .bool (decide (OfP n E))]) ∧ OwnGrid 2 33 w' w.heap.size (.slice a m c) (ofL n E) ∧ Below w.heap.size w w'
theorem GaveOf.no {w : World} {n : Int} {E : List (List Int)} (h : ¬ OfP n E) {w' : World} (hb : Below w.heap.size w w') : GaveOf w n E (.returned (.tuple #[.agg #[.slice none 0 0], .bool false])) w' :=
  ⟨0, none, 0, by rw [decide_eq_false h], by rw [ofL, if_neg h]; exact own_nil _ _, hb⟩

end Go.Proofs.Ytohjfcfcopbmoaa
