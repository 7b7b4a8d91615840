/- Walks: a mask's list. -/
import Derived.Test.YtjbfoiolcpigfaaDoorF6
import Derived.Test.YtjbfoiolcpigfaaDoorE1
namespace Go.Proofs.YtjbfoiolcpigfaaDoor
open Go.RowKit

def listTo (M k : Nat) : List Int := ((List.range k).filter (fun i => M.testBit i)).map (fun i : Nat => (i : Int))
theorem listTo_len (M k : Nat) : (listTo M k).length ≤ k := by
  unfold listTo
  rw [List.length_map]
  have := List.length_filter_le (fun i => M.testBit i) (List.range k)
  rw [List.length_range] at this
  exact this
theorem listTo_succ (M k : Nat) : listTo M (k + 1) = listTo M k ++ if M.testBit k then [(k : Int)] else [] := by
  unfold listTo
  rw [List.range_succ, List.filter_append, List.map_append]
  congr 1
  by_cases h : M.testBit k = true
  · simp [h]
  · simp [h]

set_option maxHeartbeats 1600000 in
theorem list_any (M : Nat) (w : World) (hM : M < 65536) : Calls Tryd.prog 79 #[.int .u32 M] w (GaveRow w (listM M)) := by
  obtain ⟨i0, hi, hz0, hz1, hz2⟩ := info_parts Tryd.infoI
  have hbl := bitsTo_le M 16
  go_enter Tryd.func79, Tryd.ntmps79
  go_wp2_with fail
  refine (size_any _ _ hM).mono ?_
  rintro e w1 ⟨rfl, hd1⟩
  have hb1 := hd1.below w.heap.size
  have HB1 := Lib.hid hb1
  have hs1 : w.heap.size ≤ w1.heap.size := hb1.size
  clear hd1 hb1
  go_wp2_with (refine wpList_make_own _ rfl (.const (.int .i64 0)) (.tmp 6) 36 rfl w.heap.size 2 i0 (.int .i64 0) 1 Tryd.underlying36 hi hz0 hz1 .i64 .i64 _ (bitsTo M 16) rfl rfl rfl ?m1 ?m2 ?m3 ?_)
  case m1 => rw [hz2]; omega
  case m2 => unfold maxLen; omega
  case m3 => exact hs1
  intro w2 hown hgrow
  have hb2 : Below w.heap.size w w2 := HB1.out.grown hgrow hs1 (fun j hj => by cases hj)
  have HB2 := Lib.hid hb2
  have HO2 := Lib.hid hown
  have hs2 : w.heap.size ≤ w2.heap.size := hb2.size
  clear hown hgrow hb2
  go_wp2_with fail
  go_loopw [3, 8] (fun s i wr => ∃ k : Nat, k ≤ 16 ∧ i = .int .i64 k ∧ wr.ownsRow w.heap.size 2 1 s (listTo M k).length ((listTo M k).map (Value.int .i64)) ∧ Below w.heap.size w wr ∧ w.heap.size ≤ wr.heap.size) (fun _ i _ => 16 - (intOf i).toNat)
  case atStart => exact ⟨0, Nat.zero_le _, rfl, HO2.out, HB2.out, hs2⟩
  case round =>
    obtain ⟨k, hk, rfl, ho, hb, hz⟩ := hrel
    have HO := Lib.hid ho
    have HB := Lib.hid hb
    have hll := listTo_len M k
    clear ho hb
    by_cases hlt : k < 16
    · have hlk : (k : Int) < 16 := by omega
      have hasE : hasM M (k : Int) = M.testBit k := by unfold hasM; simp; omega
      have HE := Lib.hid hasE
      clear hasE
      go_wp2_with fail
      refine (has_any M k _ hM).mono ?_
      rintro e w3 ⟨rfl, rfl⟩
      rw [HE.out]
      by_cases ht : M.testBit k = true
      · rw [ht]
        go_wp2_with (at_builtin; refine wpList_append_own _ rfl (.tmp 14) (.tmp 16) 36 rfl w.heap.size 2 i0 (.int .i64 0) 1 8 Tryd.underlying36 hi hz0 hz1 hz2 rfl (by decide) _ _ _ rfl (HO.out.alloc _) ⟨wr.heap.size, 0, none⟩ 1 1 [.int .i64 (k : Int)] rfl rfl ?d1 ?d2 ?d3 ?d4 ?d5 ?_)
        case d1 =>
          intro j u hj
          match j, hj with
          | 0, hj => simp at hj; subst hj; simp [Addr.add]
        case d2 => intro u hu; simp at hu; subst hu; rfl
        case d3 => unfold maxLen; omega
        case d4 => omega
        case d5 => simp; omega
        intro v4 w4 hown4 hgrow4 _
        have hb4 : Below w.heap.size w w4 := (HB.out.alloc hz _).grown hgrow4 (by simp; omega) (fun j hj => (HO.out.lt j hj).1)
        have HT := Lib.hid ht
        have HO4 := Lib.hid hown4
        have HB4 := Lib.hid hb4
        clear hown4 hgrow4 hb4 ht
        go_wp2
        go_roundw
        case rel =>
          refine ⟨k + 1, by omega, by go_num, ?_, HB4.out, HB4.out.size⟩
          rw [listTo_succ, HT.out, if_pos rfl]
          simpa using HO4.out
        case measure => simp [intOf]; omega
      · have ht' : M.testBit k = false := by simpa using ht
        have HT := Lib.hid ht'
        rw [ht']
        clear ht ht'
        go_wp2
        go_roundw
        case rel =>
          refine ⟨k + 1, by omega, by go_num, ?_, HB.out, hz⟩
          rw [listTo_succ, HT.out]
          simpa using HO.out
        case measure => simp [intOf]; omega
    · obtain rfl : k = 16 := by omega
      have hro : OwnRow 2 wr w.heap.size _ (listM M) := OwnRow.of_ownsRow (n := (listTo M 16).length) HO.out (by unfold maxLen; show (listTo M 16).length ≤ _; omega) (listM_i64 M)
      obtain ⟨a4, c4, e4⟩ := hro.row.slice
      have HP : Hid (GaveRow w (listM M) (.returned (.slice a4 (listM M).length c4)) wr) := ⟨_, a4, c4, rfl, by rw [← e4]; exact hro, HB.out⟩
      rw [e4]
      clear hro e4
      go_wp2
      go_ret
      exact HP.out

end Go.Proofs.YtjbfoiolcpigfaaDoor
