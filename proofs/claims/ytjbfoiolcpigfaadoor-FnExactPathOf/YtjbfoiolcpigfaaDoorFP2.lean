/- Walks: what is in one of both; a graph drawn. -/
import Derived.Test.YtjbfoiolcpigfaaDoorFP1
import Derived.Test.YtjbfoiolcpigfaaDoorQK2

namespace Go.Proofs.YtjbfoiolcpigfaaDoor
open Go.RowKit

theorem bothM_bit (xs ys : List Int) (k : Nat) (hk : k < 16) : (bothM xs ys).testBit k = (hasB xs (k : Int) || hasB ys (k : Int)) := by
  unfold bothM
  rw [pm_bit, decide_eq_true hk]
  rfl

theorem lit_one (w : World) (x : Int) (T : TypeId) : ∀ j u, ([Value.int .i64 x] : List Value)[j]? = some u → (w.alloc (.cells #[.int .i64 x] T)).cell? ((⟨w.heap.size, 0, none⟩ : Addr).add j) = some u := by
  intro j u hj
  match j, hj with
  | 0, hj => simp at hj; subst hj; simp [Addr.add]
theorem one_one (x : Int) : ∀ u ∈ ([Value.int .i64 x] : List Value), u.oneCell' = true := by
  intro u hu; simp at hu; subst hu; rfl

set_option maxHeartbeats 4000000 in
set_option maxRecDepth 100000 in
theorem w5Both_any (v v1 : Value) (xs ys : List Int) (w : World) (h : RowAt w v xs) (h1 : RowAt w v1 ys) (hl0 : xs.length ≤ 1000) (hl1 : ys.length ≤ 1000) : Calls Tryd.prog 41 #[v, v1] w (GaveRow w (bothL xs ys)) := by
  obtain ⟨i0, hi, hz0, hz1, hz2⟩ := info_parts Tryd.infoI
  obtain ⟨a0, c0, rfl⟩ := h.slice
  obtain ⟨a1, c1, rfl⟩ := h1.slice
  have HR0 := Lib.hid h
  have HR1 := Lib.hid h1
  have hown0 : (w.alloc (.cells #[] 2)).ownsRow w.heap.size 2 1 (.slice (some ⟨w.heap.size, 0, none⟩) 0 0) 0 [] := World.ownsRow_lit w #[] 0 (Nat.le_refl _) (Nat.zero_le _) rfl
  have HO0 := Lib.hid hown0
  clear h h1 hown0
  go_enter Tryd.func41, Tryd.ntmps41
  go_wp2_with fail
  go_loopw [5, 6] (fun s i wr => ∃ k : Nat, k ≤ 16 ∧ i = .int .i64 k ∧ OwnRow 2 wr w.heap.size s (listTo (bothM xs ys) k) ∧ Below w.heap.size w wr) (fun _ i _ => 16 - (intOf i).toNat)
  case atStart => exact ⟨0, Nat.zero_le _, rfl, OwnRow.of_ownsRow (n := 0) (xs := []) HO0.out (Nat.zero_le _) (fun x hx => absurd hx (by simp)), (Below.refl _ _).alloc (Nat.le_refl _) _⟩
  case round =>
    obtain ⟨k, hk, rfl, ho, hb⟩ := hrel
    have hpl := listTo_len (bothM xs ys) k
    obtain ⟨a3, c3, e3⟩ := ho.row.slice
    subst e3
    have HO := Lib.hid ho
    have HB := Lib.hid hb
    have hz3 : w.heap.size ≤ wr.heap.size := hb.size
    have HX := Lib.hid (HR0.out.keep hb)
    have HY := Lib.hid (HR1.out.keep hb)
    have HLS := Lib.hid (listTo_succ (bothM xs ys) k)
    clear ho hb
    by_cases hlt : k < 16
    · have HBT := Lib.hid (bothM_bit xs ys k hlt)
      go_wp2_with fail
      go_loop [5, 7] (fun s i => ∃ q : Nat, q ≤ xs.length + ys.length ∧ s = .slice a3 (listTo (bothM xs ys) k).length c3 ∧ i = .int .i64 q ∧ ∀ j, j < q → (j < xs.length → nth xs j ≠ (k : Int)) ∧ (xs.length ≤ j → nth ys (j - xs.length) ≠ (k : Int))) (fun _ i => xs.length + ys.length - (intOf i).toNat)
      case atStart => exact ⟨0, Nat.zero_le _, rfl, rfl, fun j hj => absurd hj (by omega)⟩
      case round =>
        obtain ⟨q, hq, rfl, rfl, hnot⟩ := hrel
        have HNOT := Lib.hid hnot
        clear hnot
        by_cases hql : q < xs.length + ys.length
        · by_cases hqx : q < xs.length
          · obtain ⟨b, o, c, e1, l1, l2, hc⟩ := HX.out.pos (by omega)
            simp only [Value.slice.injEq, true_and] at e1
            obtain ⟨rfl, rfl⟩ := e1
            have hcq := hc q hqx
            clear hc
            by_cases hit : nth xs q = (k : Int)
            · rw [hit] at hcq
              have HPE : Hid (listTo (bothM xs ys) (k + 1) = listTo (bothM xs ys) k ++ [(k : Int)]) := by
                show _ = _
                rw [HLS.out, HBT.out, (hasB_iff _ _).2 ⟨q, hqx, hit⟩]
                rfl
              clear hit
              go_wp2_with (at_builtin; refine wpList_append_own _ rfl (.tmp 51) (.tmp 53) 36 rfl w.heap.size 2 i0 (.int .i64 0) 1 8 Tryd.underlying36 hi hz0 hz1 hz2 rfl (by decide) _ _ _ rfl (HO.out.owns.alloc _) ⟨wr.heap.size, 0, none⟩ 1 1 [.int .i64 (k : Int)] rfl rfl (lit_one _ _ _) (one_one _) (by unfold maxLen; omega) (by omega) (by simp; omega) ?_)
              intro v4 w4 hown4 hgrow4 _
              have hb4 : Below w.heap.size w w4 := (HB.out.alloc hz3 _).grown hgrow4 (by simp; omega) (fun j hj => (HO.out.lt j hj).1)
              have HO4 : Hid (OwnRow 2 w4 w.heap.size v4 (listTo (bothM xs ys) (k + 1))) := OwnRow.of_ownsRow (n := (listTo (bothM xs ys) k).length + 1) (by rw [HPE.out]; simpa using hown4) (by rw [HPE.out]; simp; unfold maxLen; omega) (fun x hx => by
                rw [HPE.out] at hx
                rcases List.mem_append.1 hx with hx | hx
                · exact HO.out.1 x hx
                · simp at hx; subst hx; unfold I64; omega)
              have HB4 := Lib.hid hb4
              clear hown4 hgrow4 hb4
              go_wp2
              go_roundw
              case rel => exact ⟨k + 1, by omega, by go_num, HO4.out, HB4.out⟩
              case measure => simp [intOf]; omega
            · have hne : (nth xs q == (k : Int)) = false := by rw [beq_eq_false_iff_ne]; exact hit
              have hge : ¬ (xs.length ≤ q) := by omega
              have HH := Lib.hid hit
              clear hit
              go_wp2
              go_round
              case rel =>
                refine ⟨q + 1, by omega, rfl, by go_num, fun j hj => ?_⟩
                rcases Nat.lt_succ_iff_lt_or_eq.1 hj with h' | rfl
                · exact HNOT.out j h'
                · exact ⟨fun _ => HH.out, fun h => absurd h (by omega)⟩
              case measure => simp [intOf]; omega
          · obtain ⟨p, rfl⟩ : ∃ p, q = xs.length + p := ⟨q - xs.length, by omega⟩
            have hpl2 : p < ys.length := by omega
            obtain ⟨b, o, c, e1, l1, l2, hc⟩ := HY.out.pos (by omega)
            simp only [Value.slice.injEq, true_and] at e1
            obtain ⟨rfl, rfl⟩ := e1
            have hcq := hc p hpl2
            clear hc
            by_cases hit : nth ys p = (k : Int)
            · rw [hit] at hcq
              have HPE : Hid (listTo (bothM xs ys) (k + 1) = listTo (bothM xs ys) k ++ [(k : Int)]) := by
                show _ = _
                rw [HLS.out, HBT.out, (hasB_iff ys _).2 ⟨p, hpl2, hit⟩, Bool.or_true]
                rfl
              clear hit
              go_wp2_with (at_builtin; refine wpList_append_own _ rfl (.tmp 51) (.tmp 53) 36 rfl w.heap.size 2 i0 (.int .i64 0) 1 8 Tryd.underlying36 hi hz0 hz1 hz2 rfl (by decide) _ _ _ rfl (HO.out.owns.alloc _) ⟨wr.heap.size, 0, none⟩ 1 1 [.int .i64 (k : Int)] rfl rfl (lit_one _ _ _) (one_one _) (by unfold maxLen; omega) (by omega) (by simp; omega) ?_)
              intro v4 w4 hown4 hgrow4 _
              have hb4 : Below w.heap.size w w4 := (HB.out.alloc hz3 _).grown hgrow4 (by simp; omega) (fun j hj => (HO.out.lt j hj).1)
              have HO4 : Hid (OwnRow 2 w4 w.heap.size v4 (listTo (bothM xs ys) (k + 1))) := OwnRow.of_ownsRow (n := (listTo (bothM xs ys) k).length + 1) (by rw [HPE.out]; simpa using hown4) (by rw [HPE.out]; simp; unfold maxLen; omega) (fun x hx => by
                rw [HPE.out] at hx
                rcases List.mem_append.1 hx with hx | hx
                · exact HO.out.1 x hx
                · simp at hx; subst hx; unfold I64; omega)
              have HB4 := Lib.hid hb4
              clear hown4 hgrow4 hb4
              go_wp2
              go_roundw
              case rel => exact ⟨k + 1, by omega, by go_num, HO4.out, HB4.out⟩
              case measure => simp [intOf]; omega
            · have hne : (nth ys p == (k : Int)) = false := by rw [beq_eq_false_iff_ne]; exact hit
              have HH := Lib.hid hit
              clear hit
              go_wp2
              go_round
              case rel =>
                refine ⟨xs.length + p + 1, by omega, by omega, fun j hj => ?_⟩
                rcases Nat.lt_succ_iff_lt_or_eq.1 hj with h' | rfl
                · exact HNOT.out j h'
                · exact ⟨fun h => absurd h (by omega), fun _ => by rw [Nat.add_sub_cancel_left]; exact HH.out⟩
              case measure => simp [intOf]; omega
        · obtain rfl : q = xs.length + ys.length := by omega
          have HPE : Hid (listTo (bothM xs ys) (k + 1) = listTo (bothM xs ys) k) := by
            show _ = _
            have h1 : hasB xs (k : Int) = false := by
              rw [← Bool.not_eq_true, hasB_iff]
              rintro ⟨i, hi, e⟩
              exact (HNOT.out i (by omega)).1 hi e
            have h2 : hasB ys (k : Int) = false := by
              rw [← Bool.not_eq_true, hasB_iff]
              rintro ⟨i, hi, e⟩
              exact (HNOT.out (xs.length + i) (by omega)).2 (by omega) (by rw [Nat.add_sub_cancel_left]; exact e)
            rw [HLS.out, HBT.out, h1, h2]
            simp
          go_wp2
          go_roundw
          case rel => exact ⟨k + 1, by omega, by go_num, by rw [HPE.out]; exact HO.out, HB.out⟩
          case measure => simp [intOf]; omega
    · obtain rfl : k = 16 := by omega
      have HF : Hid (GaveRow w (bothL xs ys) (.returned (.slice a3 (listTo (bothM xs ys) 16).length c3)) wr) := ⟨_, _, _, rfl, HO.out, HB.out⟩
      go_wp2
      go_ret
      exact HF.out

theorem drawPartsOf_any (n : Nat) (bv : Value) (w : World) (hb : BytesAt w w.heap.size bv n) : Calls Tryd.prog 38 #[bv] w (GaveSome w) := by
  have hb0 : Below w.heap.size w (w.alloc (.cells #[.slice none 0 0] 29)) := (Below.refl _ _).alloc (Nat.le_refl _) _
  have hbx0 : BoxAt (w.alloc (.cells #[.slice none 0 0] 29)) w.heap.size (.slice none 0 0) := BoxAt.new _ _ _
  have hby0 : BytesAt (w.alloc (.cells #[.slice none 0 0] 29)) (w.alloc (.cells #[.slice none 0 0] 29)).heap.size bv n := (hb.keepB hb0 (Nat.le_refl _)).wide (by simp)
  have HB0 := Lib.hid hb0
  have HBX0 := Lib.hid hbx0
  have HBY0 := Lib.hid hby0
  clear hb hb0 hbx0 hby0
  go_enter Tryd.func38, Tryd.ntmps38
  go_wp2_with fail
  refine (l1New_any n bv _ HBY0.out).mono ?_
  rintro e w1 ⟨rfl, hc1, hb1⟩
  have HB1 : Hid (Below w.heap.size w w1) := HB0.out.trans (hb1.mono HB0.out.size)
  have HX1 : Hid (BoxAt w1 w.heap.size (.slice none 0 0)) := HBX0.out.keep hb1
  have HY1 := Lib.hid (HBY0.out.keepB hb1 (Nat.le_refl _))
  rw [size_alloc1] at hc1 HY1
  have HC1 := Lib.hid hc1
  have hs1 := hc1.lt
  clear hc1 hb1 HBY0
  go_wp2_with fail
  refine (l1DrawAny_any (w.heap.size + 1) n bv w1 HC1.out HY1.out).mono ?_
  rintro e w2 ⟨L, m, a, cap, rfl, ho2, hc2, ht2, -⟩
  have hx2 := HX1.out.touched ht2 (by omega) (by omega)
  have kx := hx2.1
  have fx := hx2.2
  have HQ := Lib.hid (cell_set_same (.slice a m cap) hx2.1)
  have HO := Lib.hid ho2
  have HB2 : Hid (Below w.heap.size w w2) := HB1.out.trans ((ht2.below (by omega)).mono (by omega))
  clear hx2 ho2 hc2 ht2
  go_wp2
  refine bodyPost_ret (v := .agg #[.slice a m cap]) (by simp [results, Tryd.results38, go_sem, HQ.out]) rfl ⟨L, m, a, cap, rfl, ?_, HB2.out.setCell (Nat.le_refl _) _⟩
  exact (HO.out.setBelow (by simp; omega) _).mono (by omega)

end Go.Proofs.YtjbfoiolcpigfaaDoor
