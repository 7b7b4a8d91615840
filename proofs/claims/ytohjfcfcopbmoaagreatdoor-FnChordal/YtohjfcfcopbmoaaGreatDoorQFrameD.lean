/- The texts FrameD, K4, FH2, joined. -/
import Derived.Test.YtohjfcfcopbmoaaGreatDoorRows
import Derived.Test.YtohjfcfcopbmoaaGreatDoorTie
import Derived.Test.YtohjfcfcopbmoaaGreatDoorCards
import Derived.Test.YtohjfcfcopbmoaaGreatDoorQER16
import Derived.Test.YtohjfcfcopbmoaaGreatDoorQY1
import Derived.LaidMore
import Derived.Stop.Joined
import Derived.Lib.LaidTab
import Derived.SevenTiedAt
import Derived.Test.YtohjfcfcopbmoaaGreatDoorQA1
import Derived.Test.YtohjfcfcopbmoaaGreatDoorQCD1

/- What the row's condition on the library's table gives; the witness. -/
namespace Go.Proofs.YtohjfcfcopbmoaaGreatDoor
open Go.ChangeShapes Go.WideShapes Go.ChangeAt Go.RowKit

/-- The list of the rows. -/
abbrev laidL : List (String × DataW Unit) := [("math/bits.deBruijn32tab", Rows.laid_math_bits_deBruijn32tab)]
theorem gTab : Tryz.prog.globalNamed "math/bits.deBruijn32tab" = some 4 := by kernel_rfl
theorem gTabT : (Tryz.prog.globals[4]?).map (·.type) = some 293 := by kernel_rfl
theorem tabA : Tryz.prog.underlying 293 = some (.array 32 5) := by kernel_rfl
theorem tabE : Tryz.prog.underlying 5 = some (.int .u8) := by kernel_rfl
theorem tabC : Tryz.prog.cellsOf 5 = 1 := by kernel_rfl
theorem tabN : Tryz.prog.cellsOf 293 = 32 := by kernel_rfl

theorem door_met (os : Os) (args : Array Value) : laidMetH Tryz.prog laidL ((World.doorLaid Tryz.prog 400 os).forCall (fun _ _ => 0) ⟨#[], args, []⟩).memory :=
  laidMetH_of_parts3 (fuel := 8) (laidMet_of_run' 8 (by kernel_rfl) (by kernel_rfl)) (by kernel_rfl) (by kernel_rfl)

theorem tab_of_laid {W : World} (h : laidMetH Tryz.prog laidL W) : TabAt W := by
  rw [MakeChecks.laidMetH_plain _ _ _ (by kernel_rfl)] at h
  have h2 : laidMet Tryz.prog [("math/bits.deBruijn32tab", Lib.tabData .u8 (Lib.deBruijn32tab.map (fun z : Nat => (z : Int))))] W := h
  have hT := Lib.tabIs_of_head gTab gTabT tabA tabE tabC tabN h2
  intro i hi
  have := hT.cell gTab i (by rw [List.length_map]; exact hi)
  rw [this]
  congr 2
  simp [List.getD_eq_getElem?_getD, hi]

end Go.Proofs.YtohjfcfcopbmoaaGreatDoor

/- Walks: the laws' tests of lists, written by program out of A4's (the same code under other names). -/
namespace Go.Proofs.YtohjfcfcopbmoaaGreatDoor
open Go.RowKit

set_option maxHeartbeats 400000 in
theorem likeInts_any (v v' : Value) (xs ys : List Int) (w : World) (h : RowAt w v xs) (h' : RowAt w v' ys) :
    Calls Tryz.prog 101 #[v, v'] w fun e w' => e = .returned (.bool (decide (xs = ys))) ∧ Drawn w w' := by
  have hl := h.len
  have hl' := h'.len
  unfold maxLen at hl hl'
  by_cases hn : xs.length = ys.length
  · have hne : ((xs.length : Int) != (ys.length : Int)) = false := by rw [hn]; simp
    by_cases h0 : xs.length = 0
    · have hd : decide (xs = ys) = true := by rw [decide_eq_true_iff, List.length_eq_zero_iff.1 h0, List.length_eq_zero_iff.1 (by omega : ys.length = 0)]
      rw [hd]
      obtain ⟨a, c, rfl⟩ := h.zero h0
      obtain ⟨a', c', rfl⟩ := h'.zero (by omega)
      clear hn hne h h' h0 hl hl' hd
      go_enter Tryz.func101, Tryz.ntmps101
      go_wp2
      refine wp_loop_rounds 1 ?_
      rw [rounds_succ]
      go_wp2
      go_ret
      exact ⟨rfl, Drawn.refl _⟩
    · obtain ⟨b, o, c, rfl, l1, l2, hc⟩ := h.pos (by omega)
      obtain ⟨b', o', c', rfl, l1', l2', hc'⟩ := h'.pos (by omega)
      have HC := Lib.hid hc
      have HC' := Lib.hid hc'
      have HN := Lib.hid hn
      have hle : xs.length ≤ ys.length := by omega
      clear hc hc' hn h0
      go_enter Tryz.func101, Tryz.ntmps101
      go_wp2
      go_loopw [5] (fun i wr => ∃ k : Nat, k ≤ xs.length ∧ i = .int .i64 k ∧ (∀ j, j < k → nth xs j = nth ys j) ∧ Drawn w wr) (fun i _ => xs.length - (intOf i).toNat)
      case atStart => exact ⟨0, Nat.zero_le _, rfl, (fun j hj => absurd hj (by omega)), Drawn.refl _⟩
      case round =>
        obtain ⟨k, hk, rfl, he, hd⟩ := hrel
        have HE := Lib.hid he
        clear he
        by_cases hlt : k < xs.length
        · have hlt' : k < ys.length := by omega
          have hck := cell_drawn hd (HC.out k hlt)
          have hck' := cell_drawn hd (HC'.out k hlt')
          by_cases hx : nth xs k = nth ys k
          · have hxb : (nth xs k != nth ys k) = false := by rw [hx]; simp
            have HX := Lib.hid hx
            clear hx
            go_wp2
            go_quiet (fail)
            go_wp2
            go_roundw
            case rel => exact ⟨k + 1, by omega, by go_num, (fun j hj => by rcases Nat.lt_succ_iff_lt_or_eq.1 hj with h | h; exact HE.out j h; rw [h]; exact HX.out), hd.more _⟩
            case measure => simp [intOf]; omega
          · have hxb : (nth xs k != nth ys k) = true := by rw [bne_iff_ne]; exact hx
            have HX := Lib.hid hx
            clear hx
            go_wp2
            go_quiet (fail)
            go_wp2
            go_ret
            exact ⟨ret_bool (by symm; rw [decide_eq_false_iff_not]; intro e; exact HX.out (by rw [e])), hd.more _⟩
        · obtain rfl : k = xs.length := by omega
          go_wp2
          go_ret
          exact ⟨ret_bool (by symm; rw [decide_eq_true_iff]; exact nth_ext HN.out HE.out), hd⟩
  · have hne : ((xs.length : Int) != (ys.length : Int)) = true := by rw [bne_iff_ne]; omega
    have hd : decide (xs = ys) = false := by simp; intro e; exact hn (by rw [e])
    rw [hd]
    obtain ⟨a, c, rfl⟩ := h.slice
    obtain ⟨a', c', rfl⟩ := h'.slice
    go_enter Tryz.func101, Tryz.ntmps101
    go_wp2
    go_ret
    exact ⟨rfl, Drawn.refl _⟩

set_option maxHeartbeats 400000 in
theorem w5Lists_any (v v' : Value) (xs ys : List (List Int)) (w : World) (h : GridAt w v xs) (h' : GridAt w v' ys) :
    Calls Tryz.prog 50 #[v, v'] w fun e w' => e = .returned (.bool (decide (xs = ys))) ∧ Drawn w w' := by
  have hl := h.len
  have hl' := h'.len
  unfold maxLen at hl hl'
  by_cases hn : xs.length = ys.length
  · have hne : ((xs.length : Int) != (ys.length : Int)) = false := by rw [hn]; simp
    by_cases h0 : xs.length = 0
    · have hd : decide (xs = ys) = true := by rw [decide_eq_true_iff, List.length_eq_zero_iff.1 h0, List.length_eq_zero_iff.1 (by omega : ys.length = 0)]
      rw [hd]
      obtain ⟨a, c, rfl⟩ := h.zero h0
      obtain ⟨a', c', rfl⟩ := h'.zero (by omega)
      clear hn hne h h' h0 hl hl' hd
      go_enter Tryz.func50, Tryz.ntmps50
      go_wp2
      refine wp_loop_rounds 1 ?_
      rw [rounds_succ]
      go_wp2
      go_ret
      exact ⟨rfl, Drawn.refl _⟩
    · obtain ⟨b, o, c, A, C, rfl, l1, l2, hc⟩ := h.pos (by omega)
      obtain ⟨b', o', c', A', C', rfl, l1', l2', hc'⟩ := h'.pos (by omega)
      have HC := Lib.hid hc
      have HC' := Lib.hid hc'
      have HN := Lib.hid hn
      have hle : xs.length ≤ ys.length := by omega
      clear hc hc' hn h0
      go_enter Tryz.func50, Tryz.ntmps50
      go_wp2
      go_loopw [5] (fun i wr => ∃ k : Nat, k ≤ xs.length ∧ i = .int .i64 k ∧ (∀ j, j < k → nthR xs j = nthR ys j) ∧ Drawn w wr) (fun i _ => xs.length - (intOf i).toNat)
      case atStart => exact ⟨0, Nat.zero_le _, rfl, (fun j hj => absurd hj (by omega)), Drawn.refl _⟩
      case round =>
        obtain ⟨k, hk, rfl, he, hd⟩ := hrel
        have HE := Lib.hid he
        clear he
        by_cases hlt : k < xs.length
        · have hlt' : k < ys.length := by omega
          have hck := cell_drawn hd (HC.out k hlt).1
          have hck' := cell_drawn hd (HC'.out k hlt').1
          have hr := Lib.hid ((HC.out k hlt).2.drawn hd)
          have hr' := Lib.hid ((HC'.out k hlt').2.drawn hd)
          by_cases hx : nthR xs k = nthR ys k
          · have hxb : decide (nthR xs k = nthR ys k) = true := by rw [hx]; simp
            have hcall : ∀ n, Calls Tryz.prog 101 #[.slice (A k) (nthR xs k).length (C k), .slice (A' k) (nthR ys k).length (C' k)] (wr.drewN n) fun e w2 => e = .returned (.bool true) ∧ ∃ m, w2 = (wr.drewN n).drewN m :=
              fun n => (likeInts_any _ _ _ _ _ (hr.out.drewN n) (hr'.out.drewN n)).mono (by rintro e w2 ⟨rfl, hd2⟩; exact ⟨by rw [hxb], hd2⟩)
            have HCall := Lib.hid hcall
            clear hcall hxb
            have HX := Lib.hid hx
            clear hx
            go_wp2
            go_quiet ((go_at_call 101; exact Calls.quiet_of (HCall.out _)))
            go_wp2
            go_roundw
            case rel => exact ⟨k + 1, by omega, by go_num, (fun j hj => by rcases Nat.lt_succ_iff_lt_or_eq.1 hj with h | h; exact HE.out j h; rw [h]; exact HX.out), hd.more _⟩
            case measure => simp [intOf]; omega
          · have hxb : decide (nthR xs k = nthR ys k) = false := by rw [decide_eq_false_iff_not]; exact hx
            have hcall : ∀ n, Calls Tryz.prog 101 #[.slice (A k) (nthR xs k).length (C k), .slice (A' k) (nthR ys k).length (C' k)] (wr.drewN n) fun e w2 => e = .returned (.bool false) ∧ ∃ m, w2 = (wr.drewN n).drewN m :=
              fun n => (likeInts_any _ _ _ _ _ (hr.out.drewN n) (hr'.out.drewN n)).mono (by rintro e w2 ⟨rfl, hd2⟩; exact ⟨by rw [hxb], hd2⟩)
            have HCall := Lib.hid hcall
            clear hcall hxb
            have HX := Lib.hid hx
            clear hx
            go_wp2
            go_quiet ((go_at_call 101; exact Calls.quiet_of (HCall.out _)))
            go_wp2
            go_ret
            exact ⟨ret_bool (by symm; rw [decide_eq_false_iff_not]; intro e; exact HX.out (by rw [e])), hd.more _⟩
        · obtain rfl : k = xs.length := by omega
          go_wp2
          go_ret
          exact ⟨ret_bool (by symm; rw [decide_eq_true_iff]; exact nthR_ext HN.out HE.out), hd⟩
  · have hne : ((xs.length : Int) != (ys.length : Int)) = true := by rw [bne_iff_ne]; omega
    have hd : decide (xs = ys) = false := by simp; intro e; exact hn (by rw [e])
    rw [hd]
    obtain ⟨a, c, rfl⟩ := h.slice
    obtain ⟨a', c', rfl⟩ := h'.slice
    go_enter Tryz.func50, Tryz.ntmps50
    go_wp2
    go_ret
    exact ⟨rfl, Drawn.refl _⟩


end Go.Proofs.YtohjfcfcopbmoaaGreatDoor

/- Walks: the draw of the law FnChordal; whether an order is the one asked for. -/
namespace Go.Proofs.YtohjfcfcopbmoaaGreatDoor
open Go.RowKit

set_option maxHeartbeats 1600000 in
theorem drawChordalIn_any (n : Nat) (bv : Value) (w : World) (hb : BytesAt w w.heap.size bv n) : Calls Tryz.prog 24 #[bv] w (GaveC w) := by
  have hb0 : Below w.heap.size w (w.alloc (.cells #[.slice none 0 0] 26)) := (Below.refl _ _).alloc (Nat.le_refl _) _
  have hbx0 : BoxAt (w.alloc (.cells #[.slice none 0 0] 26)) w.heap.size (.slice none 0 0) := BoxAt.new _ _ _
  have hby0 : BytesAt (w.alloc (.cells #[.slice none 0 0] 26)) (w.alloc (.cells #[.slice none 0 0] 26)).heap.size bv n := (hb.keepB hb0 (Nat.le_refl _)).wide (by simp)
  have HB0 := Lib.hid hb0
  have HBX0 := Lib.hid hbx0
  have HBY0 := Lib.hid hby0
  clear hb hb0 hbx0 hby0
  go_enter Tryz.func24, Tryz.ntmps24
  go_wp2_with fail
  refine (l1New_any n bv _ HBY0.out).mono ?_
  rintro e w1 ⟨rfl, hc1, hb1⟩
  have HB1 : Hid (Below w.heap.size w w1) := HB0.out.trans (hb1.mono HB0.out.size)
  have HX1 : Hid (BoxAt w1 w.heap.size (.slice none 0 0)) := HBX0.out.keep hb1
  have HY1 := Lib.hid (HBY0.out.keepB hb1 (Nat.le_refl _))
  rw [size_alloc1] at hc1 HY1
  have HC1 := Lib.hid hc1
  have hs1 := hc1.lt
  clear hc1 hb1 HBY0
  go_wp2_with fail
  refine (l8Draw_any (w.heap.size + 1) n bv w1 HC1.out HY1.out).mono ?_
  rintro e w2 ⟨L, m, a, cap, rfl, hm17, hg2, ht2⟩
  have hx2 := HX1.out.touched ht2 (by omega) (by omega)
  have HX2 := Lib.hid hx2
  have HG2 := Lib.hid hg2
  have HB2 : Hid (Below w.heap.size w w2) := HB1.out.trans ((ht2.below (by omega)).mono (by omega))
  have kx := hx2.1
  have fx := hx2.2
  have HQ := Lib.hid (cell_set_same (.slice a m cap) hx2.1)
  clear hx2 hg2 ht2
  go_wp2
  refine bodyPost_ret (v := .agg #[.slice a m cap]) (by simp [results, Tryz.results24, go_sem, HQ.out]) rfl ⟨L, m, a, cap, rfl, hm17, (HG2.out.setBelow (by simp; omega) _).grid, HB2.out.setCell (Nat.le_refl _) _⟩


set_option maxHeartbeats 1600000 in
theorem w5OrderIs_any (v v1 : Value) (L : List (List Int)) (xs : List Int) (w : World) (h : GridAt w v L) (h1 : RowAt w v1 xs) :
    Calls Tryz.prog 27 #[.agg #[v], v1] w fun e w' => e = .returned (.bool (decide (xs = pfL L))) ∧ Below w.heap.size w w' := by
  obtain ⟨a0, c0, rfl⟩ := h.slice
  obtain ⟨a1, c1, rfl⟩ := h1.slice
  have ha : Below w.heap.size w (w.alloc (.cells #[.slice a0 L.length c0] 26)) := (Below.refl _ _).alloc (Nat.le_refl _) _
  have hk := h.keep ha
  have HR := Lib.hid (h1.keep ha)
  have HA := Lib.hid ha
  clear ha h h1
  go_enter Tryz.func27, Tryz.ntmps27
  go_wp2_with fail
  refine (specPerfectOrder_any _ L _ hk).mono ?_
  rintro e w1 ⟨m1, a2, c2, rfl, ho1, hb1⟩
  have HR1 := Lib.hid (HR.out.keep hb1)
  have HB1 : Hid (Below w.heap.size w w1) := HA.out.trans (hb1.mono HA.out.size)
  have HO1 := Lib.hid ho1.row
  clear hb1 ho1 hk
  go_wp2_with fail
  refine (likeInts_any _ _ xs (pfL L) _ HR1.out HO1.out).mono ?_
  rintro e w2 ⟨rfl, hd2⟩
  have HB2 : Hid (Below w.heap.size w w2) := HB1.out.trans (hd2.below _)
  clear hd2
  go_wp2
  go_ret
  exact ⟨rfl, HB2.out⟩

end Go.Proofs.YtohjfcfcopbmoaaGreatDoor
