/- The walk of FnEmbeds. -/
import Derived.Test.YtnjkhiheapmlmaaQDR1
import Derived.Test.YtnjkhiheapmlmaaK4

namespace Go.Proofs.Ytnjkhiheapmlmaa
open Go.RowKit

theorem emb_no {Lp Lg : List (List Int)} (h : embB Lp Lg = false) : embL Lp Lg = [] := by
  unfold embL
  split
  · rename_i hv
    unfold embB at h
    have hs : stands Lp Lg = [] := Classical.not_not.1 fun hn => (of_decide_eq_false h) ⟨hv.1, hv.2, hn⟩
    rw [hs]; rfl
  · rfl
theorem emb_yes {Lp Lg : List (List Int)} (h : embB Lp Lg = true) : (embL Lp Lg).length = Lp.length ∧ Lp.length ≤ 8 ∧ Lg.length ≤ 16 ∧ freeB Lg Lp = false ∧ ∀ i, i < Lp.length → (0 ≤ nth (embL Lp Lg) i ∧ nth (embL Lp Lg) i < (Lg.length : Int)) ∧ ∀ k, k < Lp.length → edgeB Lp (i : Int) (k : Int) = edgeB Lg (nth (embL Lp Lg) i) (nth (embL Lp Lg) k) := by
  unfold embB at h
  obtain ⟨hs, hg, hn⟩ := of_decide_eq_true h
  have hin := firstL_mem hn
  have he : embL Lp Lg = firstL (stands Lp Lg) := by unfold embL; rw [if_pos ⟨hs, hg⟩]
  rw [he]
  obtain ⟨h1, h2⟩ := (fits_mem hg.1.2).1 hin
  refine ⟨h1, hs.2, hg.1.2, ?_, fun i hi => ?_⟩
  · unfold freeB; rw [decide_eq_false (fun h' => hn h'.2.2)]
  obtain ⟨a1, a2, a3, a4⟩ := h2 i hi
  refine ⟨⟨a1, a2⟩, fun k hk => ?_⟩
  obtain ⟨b1, b2, b3, b4⟩ := h2 k hk
  have e1 : nth (firstL (stands Lp Lg)) i = ((nth (firstL (stands Lp Lg)) i).toNat : Int) := by omega
  have e2 : nth (firstL (stands Lp Lg)) k = ((nth (firstL (stands Lp Lg)) k).toNat : Int) := by omega
  rw [edgeB_adj hs.1 hi hk]
  conv => rhs; rw [e1, e2]
  rw [edgeB_adj hg (by omega) (by omega)]
  rcases Nat.lt_trichotomy i k with hlt | rfl | hlt
  · exact b4 i hlt
  · rw [adjB_self hs.1, adjB_self hg]
  · rw [adjB_sym hs.1, adjB_sym hg]; exact a4 k hlt

set_option maxHeartbeats 8000000 in
set_option maxRecDepth 100000 in
theorem lawEmbeds (a0 : Option Addr) (n0 c0 : Nat) (w : World) (hb : n0 ≤ 4096 → BytesAt w w.heap.size (.slice a0 n0 c0) n0) :
    Calls Try.prog 6 #[.slice a0 n0 c0] w fun e w' => e = .returned (.bool true) ∧ Below w.heap.size w w' := by
  have HBY := Lib.hid hb
  clear hb
  go_enter Try.func6, Try.ntmps6
  go_wp2_with fail
  refine (big_any _ _ _ _).mono ?_
  rintro e w' ⟨rfl, rfl⟩
  by_cases hbig : (4096 : Int) < (n0 : Int)
  · rw [decide_eq_true hbig]
    go_wp2
    go_ret
    exact ⟨rfl, Below.refl _ _⟩
  rw [decide_eq_false hbig]
  go_wp2_with fail
  refine (drawEmbedsIn_any n0 _ _ (HBY.out (by omega))).mono ?_
  rintro e w1 ⟨Lp, Lg, ap, np, cp, ag, ng, cg, rfl, g1, g2, rfl, rfl, hb1⟩
  have HT : Hid (TwoG w1 (.slice ap Lp.length cp) (.slice ag Lg.length cg) Lp Lg ((w1.alloc (.cells #[.slice ap Lp.length cp] 29)).alloc (.cells #[.slice ag Lg.length cg] 29))) := TwoG.start g1 g2 29
  have HB1 := Lib.hid hb1
  clear g1 g2 hb1 HBY hbig
  go_wp2_with fail
  generalize ((w1.alloc (.cells #[.slice ap Lp.length cp] 29)).alloc (.cells #[.slice ag Lg.length cg] 29)) = w2 at HT ⊢
  have k3 := HT.out.box0
  have k4 := HT.out.box1
  have HF2 : Hid (Below w.heap.size w w2) := HB1.out.trans (HT.out.bel.mono HB1.out.size)
  refine (implEmbedsIn_any _ _ Lp Lg _ HT.out.g0 HT.out.g1).mono ?_
  rintro e w3 ⟨n3, a3, c3, rfl, ho3, hb3⟩
  have HT3 := Lib.hid (HT.out.keep hb3)
  have HF3 : Hid (Below w.heap.size w w3) := HF2.out.trans (hb3.mono HF2.out.size)
  have HN3 : Hid (n3 = (embL Lp Lg).length) := by
    obtain ⟨a3', c3', e3⟩ := ho3.row.slice
    simp only [Value.slice.injEq] at e3
    exact e3.2.1
  have HR3 : Hid (∀ w', Below w3.heap.size w3 w' → RowAt w' (.slice a3 n3 c3) (embL Lp Lg)) := fun w' h => (ho3.keep h).row
  have k33 := HT3.out.box0
  have k43 := HT3.out.box1
  clear ho3 hb3 k3 k4 HT HF2
  obtain ⟨q, hq⟩ : ∃ q, embB Lp Lg = q := ⟨_, rfl⟩
  have HQ := Lib.hid hq
  rw [hq]
  clear hq
  have qq : (q != q) = false := by simp
  go_wp2_with fail
  refine (specEmbedsIn_any _ _ Lp Lg _ HT3.out.g0 HT3.out.g1).mono ?_
  rintro e w4 ⟨n4, a4, c4, rfl, ho4, hb4⟩
  rw [HQ.out]
  have HT4 := Lib.hid (HT3.out.keep hb4)
  have HB34 := Lib.hid hb4
  have HR4 := Lib.hid ho4.row
  clear ho4 hb4 k33 k43
  go_wp2_with fail
  refine (likeInts_any _ _ _ _ _ (HR3.out _ HB34.out) HR4.out).mono ?_
  rintro e w5 ⟨rfl, hd5⟩
  rw [decide_eq_true rfl]
  have HT5 := Lib.hid (HT4.out.keep (hd5.below _))
  have HB35 : Hid (Below w3.heap.size w3 w5) := HB34.out.trans (hd5.below _)
  have HF5 : Hid (Below w.heap.size w w5) := HF3.out.trans (HB35.out.mono HF3.out.size)
  clear hd5 HT4 HR4 HB34 HT3
  have k3 := HT5.out.box0
  have k4 := HT5.out.box1
  cases q with
  | false =>
    obtain rfl : n3 = 0 := by rw [HN3.out, emb_no HQ.out]; rfl
    obtain ⟨F, hF⟩ : ∃ F, freeB Lg Lp = F := ⟨_, rfl⟩
    have hcA : Hid (∀ x : Later w5, Calls Try.prog 41 #[.agg #[.slice ag Lg.length cg], .agg #[.slice ap Lp.length cp]] x.at fun e w2 => e = .returned (.bool F) ∧ ∃ y : Later w5, w2 = y.at) :=
      fun x => Calls.later ((implFreeOf_any _ _ Lg Lp _ (HT5.out.keep x.bel).g1 (HT5.out.keep x.bel).g0).mono fun _ _ ⟨h1, h2⟩ => ⟨by rw [h1, hF], h2⟩)
    have hcB : Hid (∀ x : Later w5, Calls Try.prog 42 #[.agg #[.slice ag Lg.length cg], .agg #[.slice ap Lp.length cp]] x.at fun e w2 => e = .returned (.bool F) ∧ ∃ y : Later w5, w2 = y.at) :=
      fun x => Calls.later ((specFreeOf_any _ _ Lg Lp _ (HT5.out.keep x.bel).g1 (HT5.out.keep x.bel).g0).mono fun _ _ ⟨h1, h2⟩ => ⟨by rw [h1, hF], h2⟩)
    have qF : (F == F) = true := by simp
    clear hF
    go_wp2_with fail
    have kl := fun x : Later w5 => x.cell k3
    have kl1 := fun x : Later w5 => x.cell k4
    clear k3 k4
    refine wp_region_later (by kernel_rfl) (by kernel_rfl) ?_
    repeat (go_big_quiet_step ((first | (go_at_call 41; with_reducible exact hcA.out _) | (go_at_call 42; with_reducible exact hcB.out _))))
    refine wpQuiet_nil ?_
    rintro _ ⟨z, rfl⟩
    have HFZ : Hid (Below w.heap.size w z.at) := HF5.out.trans (z.bel.mono HF5.out.size)
    clear kl kl1 hcA hcB
    go_wp2
    go_ret
    exact ⟨rfl, HFZ.out⟩
  | true =>
    have hy := emb_yes HQ.out
    obtain rfl : n3 = Lp.length := by rw [HN3.out]; exact hy.1
    have h8 := hy.2.1
    have h16 := hy.2.2.1
    have HFR := Lib.hid hy.2.2.2.1
    have HED := Lib.hid hy.2.2.2.2
    clear hy
    go_wp2_with fail
    go_loopw [9] (fun i wr => ∃ k : Nat, k ≤ Lp.length ∧ i = .int .i64 k ∧ Below w5.heap.size w5 wr) (fun i _ => Lp.length - (intOf i).toNat)
    case atStart => exact ⟨0, Nat.zero_le _, rfl, Below.refl _ _⟩
    case round =>
      rename World => wa
      obtain ⟨i, hi, rfl, hba⟩ := hrel
      have HBA := Lib.hid hba
      clear hba
      by_cases hil : i < Lp.length
      · go_wp2_with fail
        go_loopw [10] (fun iv wr => ∃ k : Nat, k ≤ Lp.length ∧ iv = .int .i64 k ∧ Below w5.heap.size w5 wr) (fun iv _ => Lp.length - (intOf iv).toNat)
        case atStart => exact ⟨0, Nat.zero_le _, rfl, HBA.out⟩
        case round =>
          rename World => wb
          obtain ⟨k, hk, rfl, hbb⟩ := hrel
          have HBB := Lib.hid hbb
          have HT6 := Lib.hid (HT5.out.keep hbb)
          clear hbb
          by_cases hkl : k < Lp.length
          · obtain ⟨bz, oz, cz', ez, l1, l2, hc⟩ := (HR3.out _ (HB35.out.trans (HBB.out.mono HB35.out.size))).pos (by rw [← HN3.out]; omega)
            rw [← HN3.out] at ez
            simp only [Value.slice.injEq, true_and] at ez
            obtain ⟨rfl, rfl⟩ := ez
            have hci := hc i (by rw [← HN3.out]; exact hil)
            have hckz := hc k (by rw [← HN3.out]; exact hkl)
            have kp := HT6.out.box0
            have kg := HT6.out.box1
            have hzi := (HED.out i hil).1
            have hzk := (HED.out k hkl).1
            have hEE := (HED.out i hil).2 k hkl
            obtain ⟨E, hE⟩ : ∃ E, edgeB Lg (nth (embL Lp Lg) i) (nth (embL Lp Lg) k) = E := ⟨_, rfl⟩
            have hcA : Hid (∀ x : Later wb, Calls Try.prog 23 #[.agg #[.slice ap Lp.length cp], .int .i64 (i : Int), .int .i64 (k : Int)] x.at fun e w2 => e = .returned (.bool E) ∧ ∃ y : Later wb, w2 = y.at) :=
              fun x => Calls.later ((specEdgeIn_any _ Lp (i : Int) (k : Int) _ (HT6.out.keep x.bel).g0 (by unfold I64; omega) (by unfold I64; omega)).mono fun _ _ ⟨h1, h2⟩ => ⟨by rw [h1, hEE, hE], h2⟩)
            have hcB : Hid (∀ x : Later wb, Calls Try.prog 23 #[.agg #[.slice ag Lg.length cg], .int .i64 (nth (embL Lp Lg) i), .int .i64 (nth (embL Lp Lg) k)] x.at fun e w2 => e = .returned (.bool E) ∧ ∃ y : Later wb, w2 = y.at) :=
              fun x => Calls.later ((specEdgeIn_any _ Lg (nth (embL Lp Lg) i) (nth (embL Lp Lg) k) _ (HT6.out.keep x.bel).g1 (by unfold I64; omega) (by unfold I64; omega)).mono fun _ _ ⟨h1, h2⟩ => ⟨by rw [h1, hE], h2⟩)
            have qE : (E != E) = false := by simp
            have hiI : (i : Int) < (Lp.length : Int) := by omega
            have hkI : (k : Int) < (Lp.length : Int) := by omega
            clear hc hE hEE
            go_wp2_with fail
            have kl := fun x : Later wb => x.cell kp
            have kl1 := fun x : Later wb => x.cell kg
            have kl2 := fun x : Later wb => x.cell hci
            have kl3 := fun x : Later wb => x.cell hckz
            clear kp kg hci hckz
            refine wp_region_later (by kernel_rfl) (by kernel_rfl) ?_
            repeat (go_big_quiet_step ((first | (go_at_call 23; with_reducible exact hcA.out _) | (go_at_call 23; with_reducible exact hcB.out _))))
            refine wpQuiet_nil ?_
            rintro _ ⟨z, rfl⟩
            have HBZ : Hid (Below w5.heap.size w5 z.at) := HBB.out.trans (z.bel.mono HBB.out.size)
            clear kl kl1 kl2 kl3 hcA hcB
            go_wp2
            go_roundw
            case rel => exact ⟨k + 1, by omega, by go_num, HBZ.out⟩
            case measure => simp [intOf]; omega
          · obtain rfl : k = Lp.length := by omega
            go_wp2
            go_roundw
            case rel => exact ⟨i + 1, by omega, by go_num, HBB.out⟩
            case measure => simp [intOf]; omega
      · obtain rfl : i = Lp.length := by omega
        have HT6 := Lib.hid (HT5.out.keep HBA.out)
        have kp := HT6.out.box0
        have kg := HT6.out.box1
        clear k3 k4
        go_wp2_with fail
        refine (implFreeOf_any _ _ Lg Lp _ HT6.out.g1 HT6.out.g0).mono ?_
        rintro e w7 ⟨rfl, hb7⟩
        rw [HFR.out]
        have HFIN : Hid (Below w.heap.size w w7) := HF5.out.trans ((HBA.out.trans (hb7.mono HBA.out.size)).mono HF5.out.size)
        clear hb7 kp kg
        go_wp2
        go_ret
        exact ⟨rfl, HFIN.out⟩

end Go.Proofs.Ytnjkhiheapmlmaa
