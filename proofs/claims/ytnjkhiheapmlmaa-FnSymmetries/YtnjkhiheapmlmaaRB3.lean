/- The walk of FnRenamedBack. -/
import Derived.Test.YtnjkhiheapmlmaaQRB1
import Derived.Test.YtnjkhiheapmlmaaQEP1
import Derived.Test.YtnjkhiheapmlmaaQC6
import Derived.Test.YtnjkhiheapmlmaaQC1
import Derived.Test.YtnjkhiheapmlmaaQK2
import Derived.Test.YtnjkhiheapmlmaaQLater
import Derived.BigQuiet

namespace Go.Proofs.Ytnjkhiheapmlmaa
open Go.RowKit

/-- A box and the graph of one's own in it, above the dice. -/
structure BxO (d : Nat) (w : World) (b : Nat) (v : Value) (L : List (List Int)) : Prop where
  box : BoxAt w b v
  own : ∃ B, d < B ∧ OwnGrid 2 31 w B v L
  ne : d < b
theorem BxO.keep {d : Nat} {w w' : World} {b : Nat} {v : Value} {L : List (List Int)} (h : BxO d w b v L) (hb : Below w.heap.size w w') : BxO d w' b v L := by
  obtain ⟨B, h1, h2⟩ := h.own
  exact ⟨h.box.keep hb, ⟨B, h1, h2.keep hb⟩, h.ne⟩
theorem BxO.touched {d : Nat} {w w' : World} {b : Nat} {v : Value} {L : List (List Int)} (h : BxO d w b v L) (ht : Touched d (d + 1) w w') : BxO d w' b v L := by
  obtain ⟨B, h1, h2⟩ := h.own
  exact ⟨h.box.touched ht (by have := h.ne; omega) h.box.lt, ⟨B, h1, h2.touched ht h1⟩, h.ne⟩
theorem BxO.grid {d : Nat} {w : World} {b : Nat} {v : Value} {L : List (List Int)} (h : BxO d w b v L) : GridAt w v L := by
  obtain ⟨B, _, h2⟩ := h.own
  exact h2.grid
theorem BxO.new {d : Nat} {w : World} {B : Nat} {v : Value} {L : List (List Int)} (h : OwnGrid 2 31 w B v L) (hB : d < B) (hd : d < w.heap.size) : BxO d (w.alloc (.cells #[v] 29)) w.heap.size v L :=
  ⟨BoxAt.new w v _, ⟨B, hB, h.keep ((Below.refl _ _).alloc (Nat.le_refl _) _)⟩, hd⟩

set_option maxHeartbeats 8000000 in
set_option maxRecDepth 100000 in
theorem lawRenamedBack (a0 : Option Addr) (n0 c0 : Nat) (w : World) (hb : n0 ≤ 4096 → BytesAt w w.heap.size (.slice a0 n0 c0) n0) :
    Calls Try.prog 3 #[.slice a0 n0 c0] w fun e w' => e = .returned (.bool true) ∧ Below w.heap.size w w' := by
  have HBY := Lib.hid hb
  clear hb
  go_enter Try.func3, Try.ntmps3
  go_wp2_with fail
  refine (big_any _ _ _ _).mono ?_
  rintro e w' ⟨rfl, rfl⟩
  by_cases hbig : (4096 : Int) < (n0 : Int)
  · rw [decide_eq_true hbig]
    go_wp2
    go_ret
    exact ⟨rfl, Below.refl _ _⟩
  rw [decide_eq_false hbig]
  have hby0 := HBY.out (by omega)
  have HB0 := Lib.hid hby0
  clear hby0 HBY hbig
  go_wp2_with fail
  refine (roll_any _ n0 802 w HB0.out).mono ?_
  rintro e w1 ⟨rfl, hd1, hb1⟩
  obtain ⟨d, hdd⟩ : ∃ d, d = w.heap.size := ⟨_, rfl⟩
  rw [← hdd] at hd1 HB0 ⊢
  have HDD := Lib.hid hdd
  have HD1 := Lib.hid hd1
  have hdl1 : d < w1.heap.size := hd1.lt
  have HY1 : Hid (BytesAt w1 d (.slice a0 n0 c0) n0) := by have := HB0.out.keepB hb1 (by omega); exact this
  have HW1 : Hid (Below d w w1) := by rw [hdd]; exact hb1
  clear hd1 hb1 hdd
  go_wp2_with fail
  refine (w5Graph_any d n0 8 _ w1 HD1.out HY1.out (by omega) (by omega)).mono ?_
  rintro e w2 ⟨L, m2, a2, c2, rfl, hG, hL8, ho2, hd2, ht2⟩
  obtain rfl : m2 = L.length := by
    obtain ⟨a3, c3, e3⟩ := ho2.grid.slice
    simp only [Value.slice.injEq] at e3
    exact e3.2.1
  have hz := hG.1
  have HG := Lib.hid hG
  have hz2 : w1.heap.size ≤ w2.heap.size := ht2.size
  have hbx : Below w2.heap.size w2 (w2.alloc (.cells #[.slice a2 L.length c2] 29)) := (Below.refl _ _).alloc (Nat.le_refl _) _
  have X2 : Hid (BxO d (w2.alloc (.cells #[.slice a2 L.length c2] 29)) w2.heap.size (.slice a2 L.length c2) L) := BxO.new ho2 hdl1 (by omega)
  have HD2 := Lib.hid (hd2.keep hbx)
  have HT2 := Lib.hid (ht2.under hbx hz2)
  have kb2 := X2.out.box.1
  clear ho2 hd2 ht2 hbx hG
  go_wp2_with fail
  generalize (w2.alloc (.cells #[.slice a2 L.length c2] 29)) = w3 at X2 HD2 HT2 kb2 ⊢
  refine (w5Order_any d n0 L.length _ w3 HD2.out (HT2.out.bytes HY1.out (Nat.le_of_lt hdl1)) hz.2).mono ?_
  rintro e w4 ⟨xs, ax, kx, cx, rfl, hpx, hox, hd4, ht4⟩
  obtain rfl : kx = L.length := by
    obtain ⟨a3, c3, e3⟩ := hox.row.slice
    simp only [Value.slice.injEq] at e3
    rw [e3.2.1]; exact hpx.1
  have X4 := Lib.hid (X2.out.touched ht4)
  have HPX := Lib.hid hpx
  have HD4 := Lib.hid hd4
  have HT4 := Lib.hid (HT2.out.trans ht4)
  have hz34 : w3.heap.size ≤ w4.heap.size := ht4.size
  have hdl3 : d < w3.heap.size := HD2.out.lt
  have HOX := Lib.hid hox
  have hmk := run_make_row' (P := Try.prog) 31 2 (.int .i64 0) 8 Try.underlying31 Try.infoI rfl .i64 .i64 L.length (by omega) (by omega)
  have hrm := World.rowIs_made w4 (.int .i64 0) L.length 2
  have HYS : Hid (OwnRow 2 (w4.alloc (.cells (madeCells #[.int .i64 0] L.length) 2)) w4.heap.size (.slice (some ⟨w4.heap.size, 0, none⟩) L.length L.length) (List.replicate L.length 0)) :=
    OwnRow.of_rowIs hrm (Nat.le_refl _) (by simp) (by unfold maxLen; omega) (fun x hx => by rw [List.mem_replicate] at hx; rw [hx.2]; unfold I64; omega) (fun i hi => by rw [nth_eq (by simpa using hi)]; simp)
  clear hpx hd4 ht4 HD2 HT2 X2 kb2 hox hrm
  go_wp2_with fail
  clear hmk
  have HBM : Hid (Below w4.heap.size w4 (w4.alloc (.cells (madeCells #[.int .i64 0] L.length) 2))) := (Below.refl _ _).alloc (Nat.le_refl _) _
  go_loopw [8] (fun i wr => ∃ (k : Nat) (ys : List Int), k ≤ L.length ∧ i = .int .i64 k ∧ BackP xs ys L.length k ∧ OwnRow 2 wr w4.heap.size (.slice (some ⟨w4.heap.size, 0, none⟩) L.length L.length) ys ∧ Below w4.heap.size w4 wr) (fun i _ => L.length - (intOf i).toNat)
  case atStart => exact ⟨0, _, Nat.zero_le _, rfl, ⟨by simp, fun i hi => absurd hi (by omega)⟩, HYS.out, HBM.out⟩
  case round =>
    clear HYS HBM
    obtain ⟨k, ys, hk, rfl, hbk, hoy, hb⟩ := hrel
    have HBK := Lib.hid hbk
    have HB := Lib.hid hb
    have hzr : w4.heap.size ≤ wr.heap.size := hb.size
    clear hbk hb
    by_cases hlt : k < L.length
    · obtain ⟨g, cap, e5, hgB, hgl, hc1, hc2⟩ := HOX.out.posB (by rw [HPX.out.1]; omega)
      rw [HPX.out.1] at e5
      simp only [Value.slice.injEq, true_and] at e5
      obtain ⟨rfl, rfl⟩ := e5
      have hck := ((HOX.out.keep HB.out).cells' k (by rw [HPX.out.1]; exact hlt))
      have hxk := HPX.out.2.1 k hlt
      obtain ⟨x, hxe⟩ : ∃ x : Nat, nth xs k = (x : Int) := ⟨(nth xs k).toNat, by omega⟩
      have HST := Lib.hid (HBK.out.step HPX.out hlt)
      rw [hxe] at hck hxk HST
      rw [Int.toNat_natCast] at HST
      obtain ⟨l1, l2, l3, l4⟩ := hoy.laidAt' HBK.out.1 (k := x) (by omega) (z := (k : Int)) (by unfold I64; omega)
      have HL1 := Lib.hid l1
      have HB2 : Hid (Below w4.heap.size w4 (wr.setCell ⟨w4.heap.size, x, none⟩ (.int .i64 (k : Int)))) := HB.out.setCell (p := ⟨w4.heap.size, x, none⟩) (Nat.le_refl _) _
      clear hoy l1 hxe
      go_wp2
      go_roundw
      case rel => exact ⟨k + 1, _, by omega, by go_num, HST.out, HL1.out, HB2.out⟩
      case measure => simp [intOf]; omega
    · obtain rfl : k = L.length := by omega
      have X5 := Lib.hid (X4.out.keep HB.out)
      have HD5 := Lib.hid (HD4.out.keep HB.out)
      have HT5 := Lib.hid (HT4.out.under HB.out (by have := HT4.out.size; omega))
      have HPY := Lib.hid (HBK.out.perm HPX.out)
      have HOX5 := Lib.hid (HOX.out.keep HB.out)
      have HOY5 := Lib.hid hoy
      have kb5 := X5.out.box.1
      have hdl4 : d < w4.heap.size := HD4.out.lt
      clear hoy X4 HD4 HT4 HB HOX
      go_wp2_with fail
      refine (implRenamed_any _ _ L xs _ X5.out.grid HOX5.out.row).mono ?_
      rintro e w6 ⟨n6, a6, c6, rfl, ho6, hb6⟩
      rw [ord_true HG.out HPX.out] at ho6 ⊢
      obtain ⟨X, hX⟩ : ∃ X, adjL xs.length (pickA L xs) = X := ⟨_, rfl⟩
      have ho6' : OwnGrid 2 31 w6 wr.heap.size (.slice a6 n6 c6) X := by rw [← hX]; exact ho6
      have HXG : Hid (GraphP X ∧ X.length = L.length) := by rw [← hX]; exact ren_graph HG.out HPX.out
      have HXB : Hid (adjL ys.length (pickA X ys) = L) := by rw [← hX]; exact ren_back HG.out HPX.out HBK.out
      have HXA : Hid (alB L X = true) := by rw [← hX]; exact ren_alike HG.out hL8 HPX.out
      have hst6 : Below w6.heap.size w6 (w6.alloc (.cells #[.slice a6 n6 c6] 29)) := (Below.refl _ _).alloc (Nat.le_refl _) _
      have hB6 : Below wr.heap.size wr (w6.alloc (.cells #[.slice a6 n6 c6] 29)) := hb6.trans (hst6.mono hb6.size)
      have XX6 : Hid (BxO d (w6.alloc (.cells #[.slice a6 n6 c6] 29)) w6.heap.size (.slice a6 n6 c6) X) := BxO.new ho6' (by omega) (by have := hb6.size; omega)
      have XG6 := Lib.hid (X5.out.keep hB6)
      have HD6 := Lib.hid (HD5.out.keep hB6)
      have HT6 := Lib.hid (HT5.out.under hB6 (by have := HT5.out.size; omega))
      have HOY6 := Lib.hid (HOY5.out.keep hB6)
      have kx6 := XX6.out.box.1
      clear hb6 hst6 hB6 ho6 ho6' hX X5 HD5 HT5 HOY5 HOX5 kb5
      go_wp2_with fail
      generalize (w6.alloc (.cells #[.slice a6 n6 c6] 29)) = w7 at XX6 XG6 HD6 HT6 HOY6 kx6 ⊢
      refine (implRenamed_any _ _ X ys _ XX6.out.grid HOY6.out.row).mono ?_
      rintro e w8 ⟨n8, a8, c8, rfl, ho8, hb8⟩
      rw [ord_true HXG.out.1 (by rw [HXG.out.2]; exact HPY.out)] at ho8 ⊢
      have ho8' : OwnGrid 2 31 w8 w7.heap.size (.slice a8 n8 c8) L := by rw [← HXB.out]; exact ho8
      have hst8 : Below w8.heap.size w8 (w8.alloc (.cells #[.slice a8 n8 c8] 29)) := (Below.refl _ _).alloc (Nat.le_refl _) _
      have hB8 : Below w7.heap.size w7 (w8.alloc (.cells #[.slice a8 n8 c8] 29)) := hb8.trans (hst8.mono hb8.size)
      have hdl7 : d < w7.heap.size := HD6.out.lt
      have XY8 : Hid (BxO d (w8.alloc (.cells #[.slice a8 n8 c8] 29)) w8.heap.size (.slice a8 n8 c8) L) := BxO.new ho8' hdl7 (by have := hb8.size; omega)
      have XX8 := Lib.hid (XX6.out.keep hB8)
      have XG8 := Lib.hid (XG6.out.keep hB8)
      have HD8 := Lib.hid (HD6.out.keep hB8)
      have HT8 := Lib.hid (HT6.out.under hB8 (by have := HT6.out.size; omega))
      clear hb8 hst8 hB8 ho8 ho8' XX6 XG6 HD6 HT6 HOY6 kx6
      go_wp2_with fail
      generalize (w8.alloc (.cells #[.slice a8 n8 c8] 29)) = w9 at XY8 XX8 XG8 HD8 HT8 ⊢
      refine (w5Set_any d n0 L.length _ w9 HD8.out (HT8.out.bytes HY1.out (Nat.le_of_lt hdl1)) hz.2).mono ?_
      rintro e w10 ⟨zs, az, kz, cz, rfl, hzs, hoz, hd10, ht10⟩
      obtain rfl : kz = zs.length := by
        obtain ⟨a3, c3, e3⟩ := hoz.row.slice
        simp only [Value.slice.injEq] at e3
        exact e3.2.1
      have hzl : zs.length ≤ 16 := by have := hzs.len (by omega); omega
      have XY := Lib.hid (XY8.out.touched ht10)
      have XX := Lib.hid (XX8.out.touched ht10)
      have XG := Lib.hid (XG8.out.touched ht10)
      have HZS := Lib.hid hzs
      have HT10 := Lib.hid (HT8.out.trans ht10)
      have HROZ := Lib.hid hoz.row
      have kg := XG.out.box.1
      have hdl9 : d < w9.heap.size := HD8.out.lt
      have hdl10 : d < w10.heap.size := by have := ht10.size; omega
      clear hzs hoz hd10 ht10 XY8 XX8 XG8 HD8 HT8
      go_wp2_with fail
      refine (implInduced_any _ _ L zs _ XG.out.grid HROZ.out).mono ?_
      rintro e w11 ⟨n11, a11, c11, rfl, ho11, hb11⟩
      rw [ind_is HG.out HZS.out] at ho11 ⊢
      obtain ⟨PP, hPP⟩ : ∃ PP, pickL L zs (decide (0 < zs.length)) = PP := ⟨_, rfl⟩
      rw [hPP] at ho11
      have HED : Hid (∀ i k : Nat, i < zs.length → k < zs.length → edgeB PP (i : Int) (k : Int) = edgeB L (nth zs i) (nth zs k)) := fun i k hi hk => by
        rw [← hPP, decide_eq_true (p := 0 < zs.length) (by omega)]; exact ind_edge HG.out HZS.out hi hk
      have hst11 : Below w11.heap.size w11 (w11.alloc (.cells #[.slice a11 n11 c11] 29)) := (Below.refl _ _).alloc (Nat.le_refl _) _
      have hB11 : Below w10.heap.size w10 (w11.alloc (.cells #[.slice a11 n11 c11] 29)) := hb11.trans (hst11.mono hb11.size)
      have YP : Hid (BxO d (w11.alloc (.cells #[.slice a11 n11 c11] 29)) w11.heap.size (.slice a11 n11 c11) PP) := BxO.new ho11 hdl10 (by have := hb11.size; omega)
      have YY := Lib.hid (XY.out.keep hB11)
      have YX := Lib.hid (XX.out.keep hB11)
      have YG := Lib.hid (XG.out.keep hB11)
      have HROW := Lib.hid (HROZ.out.keep hB11)
      have HT12 := Lib.hid (HT10.out.under hB11 (by have := HT10.out.size; omega))
      have HSB : Hid (sameB L L = true) := by show sameB L L = true; unfold sameB; rw [decide_eq_true HG.out, decide_eq_true rfl]; rfl
      have ky := YY.out.box.1
      have kg2 := YG.out.box.1
      have qz : (decide (0 < zs.length) != decide ((0 : Int) < (zs.length : Int))) = false := by
        rw [bne_eq_false_iff_eq, Bool.eq_iff_iff, decide_eq_true_iff, decide_eq_true_iff]; omega
      clear hb11 hst11 hB11 ho11 hPP XY XX XG HT10 HROZ kg
      go_wp2_with fail
      generalize (w11.alloc (.cells #[.slice a11 n11 c11] 29)) = w12 at YP YY YX YG HROW HT12 ky kg2 ⊢
      refine (implSameGraph_any _ _ L L _ YY.out.grid YG.out.grid).mono ?_
      rintro e w13 ⟨rfl, hb13⟩
      rw [HSB.out]
      have VP := Lib.hid (YP.out.keep hb13)
      have VX := Lib.hid (YX.out.keep hb13)
      have VG := Lib.hid (YG.out.keep hb13)
      have HRV := Lib.hid (HROW.out.keep hb13)
      have HT13 := Lib.hid (HT12.out.under hb13 (by have := HT12.out.size; omega))
      have HFB : Hid (∀ w', Below w13.heap.size w13 w' → Below w.heap.size w w') := fun w' hb => by
        have h1 := (HT13.out.below (Nat.le_of_lt hdl1))
        have h2 : Below d w w13 := HW1.out.trans h1
        rw [← HDD.out]
        exact h2.trans (hb.mono (by have := HT13.out.size; omega))
      clear hb13 YP YY YX YG HROW HT12 ky kg2
      go_wp2_with fail
      go_loopw [16] (fun i wr => ∃ k : Nat, k ≤ zs.length ∧ i = .int .i64 k ∧ Below w13.heap.size w13 wr) (fun i _ => zs.length - (intOf i).toNat)
      case atStart => exact ⟨0, Nat.zero_le _, rfl, Below.refl _ _⟩
      case round =>
        rename World => wa
        obtain ⟨i, hi, rfl, hba⟩ := hrel
        have HBA := Lib.hid hba
        clear hba
        by_cases hil : i < zs.length
        · go_wp2_with fail
          go_loopw [17] (fun iv wr => ∃ k : Nat, k ≤ zs.length ∧ iv = .int .i64 k ∧ Below w13.heap.size w13 wr) (fun iv _ => zs.length - (intOf iv).toNat)
          case atStart => exact ⟨0, Nat.zero_le _, rfl, HBA.out⟩
          case round =>
            rename World => wb
            obtain ⟨k, hk, rfl, hbb⟩ := hrel
            have HBB := Lib.hid hbb
            clear hbb
            by_cases hkl : k < zs.length
            · obtain ⟨bz, oz, cz', ez, l1, l2, hc⟩ := (HRV.out.keep HBB.out).pos (by omega)
              simp only [Value.slice.injEq, true_and] at ez
              obtain ⟨rfl, rfl⟩ := ez
              have hci := hc i hil
              have hckz := hc k hkl
              have kp := (VP.out.keep HBB.out).box.1
              have kg := (VG.out.keep HBB.out).box.1
              have hzi := HZS.out i hil
              have hzk := HZS.out k hkl
              have hi1 := hzi.1
              have hi2 := hzi.2.1
              have hk1 := hzk.1
              have hk2 := hzk.2.1
              obtain ⟨E, hE⟩ : ∃ E, edgeB L (nth zs i) (nth zs k) = E := ⟨_, rfl⟩
              have hcA : Hid (∀ x : Later wb, Calls Try.prog 22 #[.agg #[.slice a11 n11 c11], .int .i64 (i : Int), .int .i64 (k : Int)] x.at fun e w2 => e = .returned (.bool E) ∧ ∃ y : Later wb, w2 = y.at) :=
                fun x => Calls.later ((implEdgeIn_any _ PP (i : Int) (k : Int) _ ((VP.out.keep HBB.out).keep x.bel).grid (by unfold I64; omega) (by unfold I64; omega)).mono fun _ _ ⟨h1, h2⟩ => ⟨by rw [h1, HED.out i k hil hkl, hE], h2⟩)
              have hcB : Hid (∀ x : Later wb, Calls Try.prog 23 #[.agg #[.slice a2 L.length c2], .int .i64 (nth zs i), .int .i64 (nth zs k)] x.at fun e w2 => e = .returned (.bool E) ∧ ∃ y : Later wb, w2 = y.at) :=
                fun x => Calls.later ((specEdgeIn_any _ L (nth zs i) (nth zs k) _ ((VG.out.keep HBB.out).keep x.bel).grid (by unfold I64; omega) (by unfold I64; omega)).mono fun _ _ ⟨h1, h2⟩ => ⟨by rw [h1, hE], h2⟩)
              have qE : (E != E) = false := by simp
              have hiI : (i : Int) < (zs.length : Int) := by omega
              have hkI : (k : Int) < (zs.length : Int) := by omega
              clear hc hzi hzk hE
              go_wp2_with fail
              have kl := fun x : Later wb => x.cell kp
              have kl1 := fun x : Later wb => x.cell kg
              have kl2 := fun x : Later wb => x.cell hci
              have kl3 := fun x : Later wb => x.cell hckz
              clear kp kg hci hckz
              refine wp_region_later (by kernel_rfl) (by kernel_rfl) ?_
              repeat (go_big_quiet_step ((first | (go_at_call 22; with_reducible exact hcA.out _) | (go_at_call 23; with_reducible exact hcB.out _))))
              refine wpQuiet_nil ?_
              rintro _ ⟨z, rfl⟩
              have HBZ : Hid (Below w13.heap.size w13 z.at) := HBB.out.trans (z.bel.mono HBB.out.size)
              clear kl kl1 kl2 kl3 hcA hcB
              go_wp2
              go_roundw
              case rel => exact ⟨k + 1, by omega, by go_num, HBZ.out⟩
              case measure => simp [intOf]; omega
            · obtain rfl : k = zs.length := by omega
              go_wp2
              go_roundw
              case rel => exact ⟨i + 1, by omega, by go_num, HBB.out⟩
              case measure => simp [intOf]; omega
        · obtain rfl : i = zs.length := by omega
          have kg := (VG.out.keep HBA.out).box.1
          have kx := (VX.out.keep HBA.out).box.1
          go_wp2_with fail
          refine (implAlikeIn_any _ _ L X _ (VG.out.keep HBA.out).grid (VX.out.keep HBA.out).grid).mono ?_
          rintro e w14 ⟨m14, a14, c14, rfl, -, hb14⟩
          rw [HXA.out]
          have HFIN := Lib.hid (HFB.out _ (HBA.out.trans (hb14.mono HBA.out.size)))
          clear hb14 kg kx
          go_wp2
          go_ret
          exact ⟨rfl, HFIN.out⟩

end Go.Proofs.Ytnjkhiheapmlmaa
