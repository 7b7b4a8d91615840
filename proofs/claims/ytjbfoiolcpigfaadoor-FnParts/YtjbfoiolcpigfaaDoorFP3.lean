/- The walk of FnParts. -/
import Derived.Test.YtjbfoiolcpigfaaDoorFP2
import Derived.Test.YtjbfoiolcpigfaaDoorZ4
import Derived.Test.YtjbfoiolcpigfaaDoorK4
import Derived.Test.YtjbfoiolcpigfaaDoorQLater
import Derived.Deep.RegionHeld3

namespace Go.Proofs.YtjbfoiolcpigfaaDoor
open Go.RowKit

theorem partsL_of {L : List (List Int)} {k : Nat} (h : k < (partsL L).length) : GraphP L := by
  rcases Classical.em (GraphP L) with hG | hG
  · exact hG
  · unfold partsL at h
    rw [if_neg hG] at h
    simp at h

theorem part_len {L : List (List Int)} (hG : GraphP L) {i : Nat} (hi : i < (partsL L).length) : (nthR (partsL L) i).length ≤ 16 := by
  obtain ⟨v, _, _, h3, _⟩ := partsL_at hG hi
  rw [h3]
  exact listM_len _

set_option maxHeartbeats 8000000 in
set_option maxRecDepth 100000 in
theorem lawParts (a0 : Option Addr) (n0 c0 : Nat) (w : World) (hb : n0 ≤ 4096 → BytesAt w w.heap.size (.slice a0 n0 c0) n0) (hT : TabAt w) :
    Calls Tryd.prog 6 #[.slice a0 n0 c0] w fun e w' => e = .returned (.bool true) ∧ Below w.heap.size w w' := by
  have HBY := Lib.hid hb
  clear hb
  go_enter Tryd.func6, Tryd.ntmps6
  go_wp2_with fail
  refine (big_any _ _ _ _).mono ?_
  rintro e w' ⟨rfl, rfl⟩
  by_cases hbig : (4096 : Int) < (n0 : Int)
  · rw [decide_eq_true hbig]
    go_wp2
    go_ret
    exact ⟨rfl, Below.refl _ _⟩
  rw [decide_eq_false hbig]
  go_wp2_with fail
  refine (drawPartsOf_any n0 _ _ (HBY.out (by omega))).mono ?_
  rintro e w1 ⟨L, m, a, cap, rfl, ho1, hb1⟩
  obtain rfl : m = L.length := by
    obtain ⟨a3, c3, e3⟩ := ho1.grid.slice
    simp only [Value.slice.injEq] at e3
    exact e3.2.1
  have hl := ho1.grid.len
  unfold maxLen at hl
  have hst : Below w1.heap.size w1 (w1.alloc (.cells #[.slice a L.length cap] 29)) := (Below.refl _ _).alloc (Nat.le_refl _) _
  have HG1 := Lib.hid (ho1.grid.keep hst)
  have HB1 := Lib.hid (hb1.alloc hb1.size (.cells #[.slice a L.length cap] 29))
  have hz1 : w.heap.size ≤ w1.heap.size := hb1.size
  clear ho1 hb1 hst
  go_wp2_with fail
  refine (implPartsOf_any _ L _ HG1.out (hT.keep HB1.out)).mono ?_
  rintro e w2 ⟨n2, a2, c2, rfl, ho2, hb2⟩
  obtain rfl : n2 = (partsL L).length := by
    obtain ⟨a3, c3, e3⟩ := ho2.grid.slice
    simp only [Value.slice.injEq] at e3
    exact e3.2.1
  have kb2 : w2.cell? ⟨w1.heap.size, 0, none⟩ = some (.slice a L.length cap) := by rw [hb2.cell (by simp)]; go_simp
  have HG2 : Hid (∀ w', Below w2.heap.size w2 w' → GridAt w' (.slice a L.length cap) L) := fun w' h => (HG1.out.keep hb2).keep h
  have HE2 : Hid (∀ w', Below w2.heap.size w2 w' → GridAt w' (.slice a2 (partsL L).length c2) (partsL L)) := fun w' h => ho2.grid.keep h
  have HB2 : Hid (Below w.heap.size w w2) := HB1.out.trans (hb2.mono HB1.out.size)
  have KB : Hid (∀ w', Below w2.heap.size w2 w' → w'.cell? ⟨w1.heap.size, 0, none⟩ = some (.slice a L.length cap)) := fun w' h => cell_keep h kb2
  have HT2 : Hid (∀ w', Below w2.heap.size w2 w' → TabAt w') := fun w' h => (hT.keep HB2.out).keep h
  have hle : (partsL L).length ≤ 1048576 := (partsL_small L).1
  clear ho2 hb2 HG1 HB1
  go_wp2_with fail
  refine (specPartsOf_any _ L _ (HG2.out _ (Below.refl _ _))).mono ?_
  rintro e w3 ⟨n3, a3, c3, rfl, ho3, hb3⟩
  have HO3 := Lib.hid ho3.grid
  have HB3 := Lib.hid hb3
  clear ho3 hb3 kb2
  go_wp2_with fail
  refine (w5Lists_any _ _ _ _ _ (HE2.out _ HB3.out) HO3.out).mono ?_
  rintro e w4 ⟨rfl, hd4⟩
  rw [decide_eq_true rfl]
  have HB4 : Hid (Below w2.heap.size w2 w4) := HB3.out.trans (hd4.below _)
  clear hd4 HO3 HB3
  go_wp2_with fail
  go_loopw [5, 6] (fun mv i wr => ∃ k : Nat, k ≤ (partsL L).length ∧ i = .int .i64 k ∧ mv = .int .i64 (partsSum L k : Int) ∧ Below w2.heap.size w2 wr) (fun _ i _ => (partsL L).length - (intOf i).toNat)
  case atStart => exact ⟨0, Nat.zero_le _, rfl, rfl, HB4.out⟩
  case round =>
    clear HB4
    obtain ⟨k, hk, rfl, rfl, hb⟩ := hrel
    have HB := Lib.hid hb
    have kb := KB.out _ hb
    clear hb
    by_cases hlt : k < (partsL L).length
    · have hG := partsL_of hlt
      have hzz := hG.1
      obtain ⟨b, o, c, A, C, e2, l1, l2, hc⟩ := (HE2.out _ HB.out).pos (by omega)
      simp only [Value.slice.injEq, true_and] at e2
      obtain ⟨rfl, rfl⟩ := e2
      have hck := (hc k hlt).1
      have hs1 := partsSum_succ hlt
      have hs2 := partsSum_le hG (k + 1) (by omega)
      have hGG := Lib.hid hG
      have HC := Lib.hid hc
      have HS1 := Lib.hid hs1
      have HCN := Lib.hid (part_conn hG hlt)
      have HAP : Hid (∀ q, q < k → connB L (bothL (nthR (partsL L) q) (nthR (partsL L) k)) = false) := fun q hq => parts_apart hG hq hlt
      have HRK := Lib.hid (hc k hlt).2
      obtain ⟨S, hS⟩ : ∃ S, S = partsSum L k := ⟨_, rfl⟩
      obtain ⟨n1, hn1⟩ : ∃ n1, n1 = (nthR (partsL L) k).length := ⟨_, rfl⟩
      rw [← hn1] at hck HRK
      rw [← hS, ← hn1] at hs1
      rw [← hS]
      have hSn : S + n1 ≤ 16 := by omega
      have HSS : Hid (partsSum L (k + 1) = S + n1) := by show _ = _; rw [HS1.out, ← hS, ← hn1]
      clear hs1 hs2 hc hG hS hn1 HS1
      go_wp2_with fail
      have kl := fun x : Later wr => x.cell kb
      have kl1 := fun x : Later wr => x.cell hck
      have hcA : Hid (∀ x : Later wr, Calls Tryd.prog 40 #[.agg #[.slice a L.length cap], .slice (A k) n1 (C k)] x.at fun e w2 => e = .returned (.bool true) ∧ ∃ y : Later wr, w2 = y.at) :=
        fun x => Calls.later ((implConnectedIn_any _ _ L _ _ (HG2.out _ (HB.out.trans (x.bel.mono HB.out.size))) (HRK.out.keep x.bel) (HT2.out _ (HB.out.trans (x.bel.mono HB.out.size)))).mono fun _ _ ⟨h1, h2⟩ => ⟨by rw [h1, HCN.out], h2⟩)
      refine wp_region_later (by kernel_rfl) (by kernel_rfl) ?_
      repeat (go_big_quiet_step ((go_at_call 40; with_reducible exact hcA.out _)))
      refine wpQuiet_nil ?_
      rintro _ ⟨x, rfl⟩
      have HBX : Hid (Below wr.heap.size wr x.at) := x.bel
      generalize x.at = wx at HBX ⊢
      clear kl kl1 hcA
      go_wp2_with fail
      go_loopw [7] (fun i wy => ∃ q : Nat, q ≤ k ∧ i = .int .i64 q ∧ Below wr.heap.size wr wy) (fun i _ => k - (intOf i).toNat)
      case atStart => exact ⟨0, Nat.zero_le _, rfl, HBX.out⟩
      case round =>
        clear HBX
        rename World => wy
        obtain ⟨q, hq, rfl, hby⟩ := hrel
        have HBY2 := Lib.hid hby
        by_cases hql : q < k
        · have HW : Hid (Below w2.heap.size w2 wy) := HB.out.trans (hby.mono HB.out.size)
          have kby := KB.out _ HW.out
          have hcky := cell_keep hby hck
          have hcqy := cell_keep hby (HC.out q (by omega)).1
          have HRQ := Lib.hid ((HC.out q (by omega)).2.keep hby)
          have HRKY := Lib.hid (HRK.out.keep hby)
          have HAQ := Lib.hid (HAP.out q hql)
          have hq16 : (nthR (partsL L) q).length ≤ 1000 := Nat.le_trans (part_len hGG.out (by omega)) (by omega)
          have hk16 : (nthR (partsL L) k).length ≤ 1000 := Nat.le_trans (part_len hGG.out hlt) (by omega)
          have hqL : q < (partsL L).length := by omega
          have hqI : (q : Int) < ((partsL L).length : Int) := by omega
          have hq0 : (0 : Int) ≤ (q : Int) := by omega
          clear hby hck kb
          go_wp2_with fail
          go_region_held3 (fun wx => wx.cell? ⟨w1.heap.size, 0, none⟩ = some (.slice a L.length cap) ∧ wx.cell? ⟨b, o + q, none⟩ = some (.slice (A q) (nthR (partsL L) q).length (C q)) ∧ wx.cell? ⟨b, o + k, none⟩ = some (.slice (A k) n1 (C k))) (first | exact ⟨kby, hcqy, hcky⟩ | exact ⟨kba, hcqa, hcka⟩ | exact ⟨kbb, hcqb, hckb⟩)
            (first
              | (go_at_call 41; refine (w5Both_any _ _ _ _ _ (HRQ.out.keep (Below.refl _ _).drew) (HRKY.out.keep (Below.refl _ _).drew) hq16 hk16).mono ?_; rintro e wa ⟨na, aa, ca, rfl, hoa, hba⟩; have kba := cell_keep hba (cell_keep (Below.refl _ _).drew kby); have hcqa := cell_keep hba (cell_keep (Below.refl _ _).drew hcqy); have hcka := cell_keep hba (cell_keep (Below.refl _ _).drew hcky); have HBA : Hid (Below wy.heap.size wy wa) := (Below.refl _ _).drew.trans hba; have HOA := Lib.hid hoa.row; clear hoa hba)
              | (go_at_call 40; refine (implConnectedIn_any _ _ L _ _ (HG2.out _ (HW.out.trans (HBA.out.mono HW.out.size))) HOA.out (HT2.out _ (HW.out.trans (HBA.out.mono HW.out.size)))).mono ?_; rintro e wb ⟨rfl, hbb⟩; rw [HAQ.out]; have kbb := cell_keep hbb kba; have hcqb := cell_keep hbb hcqa; have hckb := cell_keep hbb hcka; have HBB : Hid (Below wr.heap.size wr wb) := HBY2.out.trans ((HBA.out.trans (hbb.mono HBA.out.size)).mono HBY2.out.size); clear hbb))
          clear kba hcqa hcka kbb hcqb hckb kby hcqy hcky
          go_wp2
          go_roundw
          case rel => exact ⟨q + 1, by omega, by go_num, HBB.out⟩
          case measure => simp [intOf]; omega
        · obtain rfl : q = k := by omega
          clear hby
          go_wp2
          go_roundw
          case rel => exact ⟨q + 1, by omega, by go_num, by rw [HSS.out]; go_num, HB.out.trans (HBY2.out.mono HB.out.size)⟩
          case measure => simp [intOf]; omega
    · obtain rfl : k = (partsL L).length := by omega
      go_wp2_with fail
      refine (specGraphOk_any _ L _ (HG2.out _ HB.out)).mono ?_
      rintro e w6 ⟨rfl, hb6⟩
      have HB6 : Hid (Below w2.heap.size w2 w6) := HB.out.trans (hb6.mono HB.out.size)
      have k6 := KB.out _ HB6.out
      have HFIN : Hid (Below w.heap.size w w6) := HB2.out.trans (HB6.out.mono HB2.out.size)
      clear hb6 kb
      by_cases hG : GraphP L
      · have hs := partsSum_all hG
        rw [decide_eq_true hG, hs]
        clear hG hs
        go_wp2
        go_ret
        exact ⟨rfl, HFIN.out⟩
      · have hs : partsSum L (partsL L).length = 0 := by unfold partsSum partsL; rw [if_neg hG]; rfl
        rw [decide_eq_false hG, hs]
        clear hG hs
        go_wp2
        go_ret
        exact ⟨rfl, HFIN.out⟩

end Go.Proofs.YtjbfoiolcpigfaaDoor
