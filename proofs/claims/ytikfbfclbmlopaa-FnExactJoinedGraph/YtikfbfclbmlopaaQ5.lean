/- The texts P4, P5, P6, joined. -/
import Derived.Test.YtikfbfclbmlopaaLater
import Derived.IntWalk
import Derived.Test.YtikfbfclbmlopaaQ4

/- Walks: two graphs beside each other: the two functions. -/
namespace Go.Proofs.Ytikfbfclbmlopaa
open Go.RowKit

set_option maxHeartbeats 3200000 in
set_option maxRecDepth 100000 in
theorem implBeside_any (v1 v2 : Value) (L M : List (List Int)) (w : World) (h1 : GridAt w v1 L) (h2 : GridAt w v2 M) : Calls Try.prog 63 #[.agg #[v1], .agg #[v2]] w (GaveGB w (bsL L M) (bsB L M)) := by
  obtain ⟨i0, hi, hz0, hz1, hz2⟩ := info_parts Try.infoR
  obtain ⟨a1, c1, rfl⟩ := h1.slice
  obtain ⟨a2, c2, rfl⟩ := h2.slice
  have hl1 := h1.len
  have hl2 := h2.len
  unfold maxLen at hl1 hl2
  have T0 := Lib.hid (Three.start w (.slice a1 L.length c1) (.slice a2 M.length c2))
  have HK1 : Hid (∀ w', Below w.heap.size w w' → GridAt w' (.slice a1 L.length c1) L) := fun w' hb => h1.keep hb
  have HK2 : Hid (∀ w', Below w.heap.size w w' → GridAt w' (.slice a2 M.length c2) M) := fun w' hb => h2.keep hb
  clear h1 h2
  go_enter Try.func63, Try.ntmps63
  go_wp2_with fail
  refine (implGraphOk_any _ L _ (HK1.out _ T0.out.bel)).mono ?_
  rintro e w1 ⟨rfl, hb1⟩
  have T1 := Lib.hid (T0.out.keep hb1)
  clear hb1 T0
  by_cases hG1 : GraphP L
  · have HG1 := Lib.hid hG1
    have hzL := hG1.1
    have kb1 := T1.out.two.1
    rw [decide_eq_true hG1]
    clear hG1
    go_wp2_with fail
    refine (implGraphOk_any _ M _ (HK2.out _ T1.out.bel)).mono ?_
    rintro e w2 ⟨rfl, hb2⟩
    have T2 := Lib.hid (T1.out.keep hb2)
    clear hb2 T1 kb1
    by_cases hG2 : GraphP M
    · have HG2 := Lib.hid hG2
      have hzM := hG2.1
      have ka := T2.out.one.1
      have kb := T2.out.two.1
      rw [decide_eq_true hG2]
      clear hG2
      by_cases hs : L.length + M.length ≤ 16
      · have HI : Hid (bsB L M = true) := by show bsB L M = true; unfold bsB; rw [decide_eq_true HG1.out, decide_eq_true HG2.out, decide_eq_true hs]; rfl
        have hd : decide ((16 : Int) < (L.length : Int) + (M.length : Int)) = false := by simp; omega
        go_wp2_with fail
        refine (copied_any _ L _ (HK1.out _ T2.out.bel) (graph_small HG1.out)).mono ?_
        rintro e w3 ⟨n3, ag, cg, rfl, ho3, hb3⟩
        obtain ⟨rfl, g, rfl, hwk⟩ := WorkT.start T2.out hb3 ho3 (by omega)
        have hbo : w.heap.size + 1 + 1 < w3.heap.size := Nat.lt_of_lt_of_le T2.out.lt hb3.size
        have HWK0 : Hid (WorkT w (.slice a1 L.length c1) (.slice a2 M.length c2) w3.heap.size w2.heap.size g (L.length + 0) cg (bsR L M 0) (w3.alloc (.cells #[.slice (some ⟨g, 0, none⟩) L.length cg] 26))) := by
          rw [bsR_zero]; exact hwk
        have ka4 := hwk.three.one.1
        have kb4 := hwk.three.two.1
        obtain ⟨bg, og, cb, A, C, eg, lg1, lg2, hcg⟩ := (HK2.out _ (Below.refl _ _)).pos (by omega)
        simp only [Value.slice.injEq, true_and] at eg
        obtain ⟨rfl, rfl⟩ := eg
        have HKC : Hid (∀ i, i < M.length → ∀ w', Below w.heap.size w w' → w'.cell? ⟨bg, og + i, none⟩ = some (.slice (A i) (nthR M i).length (C i)) ∧ RowAt w' (.slice (A i) (nthR M i).length (C i)) (nthR M i)) := fun i hi w' hb => ⟨cell_keep hb (hcg i hi).1, (hcg i hi).2.keep hb⟩
        clear hb3 ho3 ka kb hwk hcg
        go_wp2_with fail
        clear ka4 kb4
        generalize hw4 : (w3.alloc (.cells #[.slice (some ⟨g, 0, none⟩) L.length cg] 26)) = w4 at HWK0 ⊢
        clear hw4
        go_loopw [37] (fun i wr => ∃ k : Nat, k ≤ M.length ∧ i = .int .i64 k ∧ ∃ g cg, WorkT w (.slice a1 L.length c1) (.slice (some ⟨bg, og, none⟩) M.length c2) w3.heap.size w2.heap.size g (L.length + k) cg (bsR L M k) wr) (fun i _ => M.length - (intOf i).toNat)
        case atStart => exact ⟨0, Nat.zero_le _, rfl, g, cg, HWK0.out⟩
        case round =>
          obtain ⟨k, hk, rfl, g, cg, hw⟩ := hrel
          have HWF := Lib.hid hw
          have k8 := hw.box.box.1
          have ft := hw.box.box.2
          by_cases hlt : k < M.length
          · obtain ⟨R, hR, hRr, hRd⟩ := hw.own.owns
            rw [bsR_len hk] at hR hRr hRd
            have HR := Lib.hid hR
            have HRr := Lib.hid hRr
            have HRd := Lib.hid hRd
            have hcb := (HKC.out k hlt _ hw.three.bel).1
            have HXR := Lib.hid ((HKC.out k hlt _ hw.three.bel).2)
            have hly := row_small HG2.out hlt
            have HRR := Lib.hid (row_range HG2.out hlt)
            have hBs : w2.heap.size ≤ wr.heap.size := by
              rcases hR.2 with ⟨e, _⟩ | ⟨g', cap', cur', e, hgB, hh, _⟩
              · cases e
              · obtain ⟨hlt', _⟩ := Array.getElem?_eq_some_iff.1 hh
                omega
            have HC3 : Hid (L.length + k + 1 ≤ maxLen) := by show _ ≤ _; unfold maxLen; omega
            have HC4 : Hid ((L.length + k + 1) * 24 ≤ 140737488355328) := by show _ ≤ _; omega
            clear hw hR hRr hRd
            go_wp2_with fail
            clear hcb
            go_region_law (first
              | (go_simp; go_at_call 114; refine (rowFrom_any _ (nthR M k) L.length _ (HXR.out.keep (Below.refl _ _).drew) (by omega) (by omega) HRR.out).mono ?_; rintro e wa ⟨na, aa, ca, rfl, hoa, hba⟩; have HBA : Hid (Below wr.heap.size wr wa) := (Below.refl _ _).drew.trans hba; have HOA : Hid (OwnRow 2 wa wr.heap.size (.slice aa na ca) (shR L.length (nthR M k))) := hoa; have k8a := cell_keep HBA.out k8; have k8b : (wa.alloc (.cells #[.slice aa na ca] 34)).cell? ⟨w3.heap.size, 0, none⟩ = some (.slice (some ⟨g, 0, none⟩) (L.length + k) cg) := cell_keep ((Below.refl _ _).alloc (Nat.le_refl _) _) k8a; have HOR2 := Lib.hid (ownsRow_keep HR.out HBA.out); have HZ2 : Hid (w2.heap.size ≤ (wa.alloc (.cells #[.slice aa na ca] 34)).heap.size) := (by show _ ≤ _; rw [size_alloc1]; have := HBA.out.size; omega); clear hoa hba)
              | (refine step_append_lies _ (by rfl) (.tmp 42) (.tmp 46) 24 (by rfl) w2.heap.size 34 i0 (.slice none 0 0) 1 24 Try.underlying24 hi hz0 hz1 hz2 rfl (by omega) (.slice (some ⟨g, 0, none⟩) (L.length + k) cg) (L.length + k) ((List.range (L.length + k)).map R) (by rfl) (HOR2.out.alloc _) ⟨wa.heap.size, 0, none⟩ 1 1 [.slice aa na ca] (by rfl) rfl (World.news_of_block (heap_alloc_new _ _)) (fun u hu => by simp at hu; subst hu; rfl) Nat.one_pos HC3.out HC4.out HZ2.out (wa.heap.size + 1) (size_alloc1 _ _) ?_; intro g7 cap7 w7 hown7 hgrow7 hat7 hlt7; obtain ⟨hbx7, hw7⟩ := HWF.out.grow hbo (bsR_len hk) (by omega) HBA.out HOA.out HR.out HRr.out HRd.out hown7 hgrow7; have k87 := hbx7.box.1; have f87 := hbx7.box.2; have HW7 := Lib.hid hw7; clear hown7 hgrow7 hat7 hlt7 hbx7 hw7))
            all_goals (
              clear k87 f87 k8a k8b k8 ft
              go_wp2
              go_roundw
              case rel => exact ⟨k + 1, by omega, by go_num, g7, cap7, by rw [bsR_succ hlt]; exact HW7.out⟩
              case measure => simp [intOf]; omega)
          · obtain rfl : k = M.length := by omega
            have kr := hw.three.res.1
            have kf := hw.three.res.2
            clear hw
            go_wp2
            refine bodyPost_ret (v := .tuple #[.agg #[.slice (some ⟨g, 0, none⟩) (L.length + M.length) cg], .bool true]) (by simp [results, Try.results63, go_sem, HWF.out.three.q0]) rfl ?_
            rw [bsL, if_pos HI.out]
            exact HWF.out.done HI.out
      · have HI : Hid (bsB L M = false) := by show bsB L M = false; unfold bsB; rw [decide_eq_false hs]; simp
        have hd : decide ((16 : Int) < (L.length : Int) + (M.length : Int)) = true := by simp; omega
        have kr := T2.out.res.1
        have kf := T2.out.res.2
        clear hs
        go_wp2
        exact bodyPost_ret (v := .tuple #[.agg #[.slice none 0 0], .bool false]) (by simp [results, Try.results63, go_sem, T2.out.q0]) rfl (T2.out.no (bsL_no HI.out) HI.out)
    · have HI : Hid (bsB L M = false) := by show bsB L M = false; unfold bsB; rw [decide_eq_false hG2]; simp
      have kr := T2.out.res.1
      have kf := T2.out.res.2
      rw [decide_eq_false hG2]
      clear hG2
      go_wp2
      exact bodyPost_ret (v := .tuple #[.agg #[.slice none 0 0], .bool false]) (by simp [results, Try.results63, go_sem, T2.out.q0]) rfl (T2.out.no (bsL_no HI.out) HI.out)
  · have HI : Hid (bsB L M = false) := by show bsB L M = false; unfold bsB; rw [decide_eq_false hG1]; simp
    have kr := T1.out.res.1
    have kf := T1.out.res.2
    rw [decide_eq_false hG1]
    clear hG1
    go_wp2
    exact bodyPost_ret (v := .tuple #[.agg #[.slice none 0 0], .bool false]) (by simp [results, Try.results63, go_sem, T1.out.q0]) rfl (T1.out.no (bsL_no HI.out) HI.out)

set_option maxHeartbeats 3200000 in
set_option maxRecDepth 100000 in
theorem specBeside_any (v1 v2 : Value) (L M : List (List Int)) (w : World) (h1 : GridAt w v1 L) (h2 : GridAt w v2 M) : Calls Try.prog 62 #[.agg #[v1], .agg #[v2]] w (GaveGB w (bsL L M) (bsB L M)) := by
  obtain ⟨a1, c1, rfl⟩ := h1.slice
  obtain ⟨a2, c2, rfl⟩ := h2.slice
  have hl1 := h1.len
  have hl2 := h2.len
  unfold maxLen at hl1 hl2
  have T0 := Lib.hid (Three.start w (.slice a1 L.length c1) (.slice a2 M.length c2))
  have HK1 : Hid (∀ w', Below w.heap.size w w' → GridAt w' (.slice a1 L.length c1) L) := fun w' hb => h1.keep hb
  have HK2 : Hid (∀ w', Below w.heap.size w w' → GridAt w' (.slice a2 M.length c2) M) := fun w' hb => h2.keep hb
  clear h1 h2
  go_enter Try.func62, Try.ntmps62
  go_wp2_with fail
  generalize hwS : (((w.alloc (.cells #[.slice a1 L.length c1] 26)).alloc (.cells #[.slice a2 M.length c2] 26)).alloc (.cells #[.slice none 0 0] 26)) = wS at T0 ⊢
  clear hwS
  have k1 := T0.out.one.1
  have k2 := T0.out.two.1
  have kl1 := fun x : Later wS => x.cell k1
  have kl2 := fun x : Later wS => x.cell k2
  have TX : Hid (∀ x : Later wS, Three w (.slice a1 L.length c1) (.slice a2 M.length c2) x.at) := fun x => T0.out.keep x.bel
  by_cases hG1 : GraphP L
  · have hcA : Hid (∀ x : Later wS, Calls Try.prog 20 #[.agg #[.slice a1 L.length c1]] x.at fun e w5 => e = .returned (.bool true) ∧ ∃ y : Later wS, w5 = y.at) :=
      fun x => Calls.later ((specGraphOk_any _ L _ (HK1.out _ (TX.out x).bel)).mono fun _ _ ⟨h1, h2⟩ => ⟨by rw [h1, decide_eq_true hG1], h2⟩)
    have HG1 := Lib.hid hG1
    have hzL := hG1.1
    clear hG1
    by_cases hG2 : GraphP M
    · have hcB : Hid (∀ x : Later wS, Calls Try.prog 20 #[.agg #[.slice a2 M.length c2]] x.at fun e w5 => e = .returned (.bool true) ∧ ∃ y : Later wS, w5 = y.at) :=
        fun x => Calls.later ((specGraphOk_any _ M _ (HK2.out _ (TX.out x).bel)).mono fun _ _ ⟨h1, h2⟩ => ⟨by rw [h1, decide_eq_true hG2], h2⟩)
      have hcC : Hid (∀ x : Later wS, Calls Try.prog 72 #[.agg #[.slice a1 L.length c1]] x.at fun e w5 => e = .returned (.int .i64 (L.length : Int)) ∧ ∃ y : Later wS, w5 = y.at) :=
        fun x => Calls.later ((l1Size_any _ L _ (HK1.out _ (TX.out x).bel)).mono fun _ _ ⟨h1, h2⟩ => ⟨h1, h2⟩)
      have hcD : Hid (∀ x : Later wS, Calls Try.prog 72 #[.agg #[.slice a2 M.length c2]] x.at fun e w5 => e = .returned (.int .i64 (M.length : Int)) ∧ ∃ y : Later wS, w5 = y.at) :=
        fun x => Calls.later ((l1Size_any _ M _ (HK2.out _ (TX.out x).bel)).mono fun _ _ ⟨h1, h2⟩ => ⟨h1, h2⟩)
      have HG2 := Lib.hid hG2
      have hzM := hG2.1
      clear hG2
      have hwr : IntKind.i64.wrap ((L.length : Int) + (M.length : Int)) = (L.length : Int) + (M.length : Int) := IntWalk.i64_in _ (by omega)
      by_cases hs : L.length + M.length ≤ 16
      · have HI : Hid (bsB L M = true) := by show bsB L M = true; unfold bsB; rw [decide_eq_true HG1.out, decide_eq_true HG2.out, decide_eq_true hs]; rfl
        have hd : decide ((16 : Int) < (L.length : Int) + (M.length : Int)) = false := by simp; omega
        refine wp_region_later (by kernel_rfl) (by kernel_rfl) ?_
        repeat (go_big_quiet_step ((first | (go_at_call 20; first | with_reducible exact hcA.out _ | with_reducible exact hcB.out _) | (go_at_call 72; first | with_reducible exact hcC.out _ | with_reducible exact hcD.out _))))
        refine wpQuiet_nil ?_
        rintro _ ⟨x, rfl⟩
        have hT := TX.out x
        generalize x.at = w1 at hT ⊢
        have T1 := Lib.hid hT
        have k11 := hT.one.1
        have k12 := hT.two.1
        clear hwr hd kl1 kl2 k1 k2 hT hcA hcB hcC hcD
        go_wp2_with fail
        refine (l2Beside_any _ _ L M _ (HK1.out _ T1.out.bel) (HK2.out _ T1.out.bel) HG1.out HG2.out hs).mono ?_
        rintro e w2 ⟨n2, a3, c3, rfl, ho2, hb2⟩
        have T2 := Lib.hid (T1.out.keep hb2)
        have kr := T2.out.res.1
        have kf := T2.out.res.2
        have HO2 := Lib.hid ho2
        clear ho2 hb2 k11 k12
        go_wp2
        refine bodyPost_ret (v := .tuple #[.agg #[.slice a3 n2 c3], .bool true]) (by simp [results, Try.results62, go_sem, T2.out.q0]) rfl (T2.out.yes (B := w1.heap.size) ?_ T1.out.lt HI.out)
        rw [bsL, if_pos HI.out]
        exact HO2.out
      · have HI : Hid (bsB L M = false) := by show bsB L M = false; unfold bsB; rw [decide_eq_false hs]; simp
        have hd : decide ((16 : Int) < (L.length : Int) + (M.length : Int)) = true := by simp; omega
        refine wp_region_later (by kernel_rfl) (by kernel_rfl) ?_
        repeat (go_big_quiet_step ((first | (go_at_call 20; first | with_reducible exact hcA.out _ | with_reducible exact hcB.out _) | (go_at_call 72; first | with_reducible exact hcC.out _ | with_reducible exact hcD.out _))))
        refine wpQuiet_nil ?_
        rintro _ ⟨x, rfl⟩
        have hT := TX.out x
        generalize x.at = w1 at hT ⊢
        have T1 := Lib.hid hT
        have kr := hT.res.1
        have kf := hT.res.2
        clear hwr hd kl1 kl2 k1 k2 hT hcA hcB hcC hcD hs
        go_wp2
        exact bodyPost_ret (v := .tuple #[.agg #[.slice none 0 0], .bool false]) (by simp [results, Try.results62, go_sem, T1.out.q0]) rfl (T1.out.no (bsL_no HI.out) HI.out)
    · have HI : Hid (bsB L M = false) := by show bsB L M = false; unfold bsB; rw [decide_eq_false hG2]; simp
      have hcB : Hid (∀ x : Later wS, Calls Try.prog 20 #[.agg #[.slice a2 M.length c2]] x.at fun e w5 => e = .returned (.bool false) ∧ ∃ y : Later wS, w5 = y.at) :=
        fun x => Calls.later ((specGraphOk_any _ M _ (HK2.out _ (TX.out x).bel)).mono fun _ _ ⟨h1, h2⟩ => ⟨by rw [h1, decide_eq_false hG2], h2⟩)
      clear hG2
      refine wp_region_later (by kernel_rfl) (by kernel_rfl) ?_
      repeat (go_big_quiet_step ((first | (go_at_call 20; first | with_reducible exact hcA.out _ | with_reducible exact hcB.out _))))
      refine wpQuiet_nil ?_
      rintro _ ⟨x, rfl⟩
      have hT := TX.out x
      generalize x.at = w1 at hT ⊢
      have T1 := Lib.hid hT
      have kr := hT.res.1
      have kf := hT.res.2
      clear kl1 kl2 k1 k2 hT hcA hcB
      go_wp2
      exact bodyPost_ret (v := .tuple #[.agg #[.slice none 0 0], .bool false]) (by simp [results, Try.results62, go_sem, T1.out.q0]) rfl (T1.out.no (bsL_no HI.out) HI.out)
  · have HI : Hid (bsB L M = false) := by show bsB L M = false; unfold bsB; rw [decide_eq_false hG1]; simp
    have hcA : Hid (∀ x : Later wS, Calls Try.prog 20 #[.agg #[.slice a1 L.length c1]] x.at fun e w5 => e = .returned (.bool false) ∧ ∃ y : Later wS, w5 = y.at) :=
      fun x => Calls.later ((specGraphOk_any _ L _ (HK1.out _ (TX.out x).bel)).mono fun _ _ ⟨h1, h2⟩ => ⟨by rw [h1, decide_eq_false hG1], h2⟩)
    clear hG1
    refine wp_region_later (by kernel_rfl) (by kernel_rfl) ?_
    repeat (go_big_quiet_step ((first | (go_at_call 20; with_reducible exact hcA.out _))))
    refine wpQuiet_nil ?_
    rintro _ ⟨x, rfl⟩
    have hT := TX.out x
    generalize x.at = w1 at hT ⊢
    have T1 := Lib.hid hT
    have kr := hT.res.1
    have kf := hT.res.2
    clear kl1 kl2 k1 k2 hT hcA
    go_wp2
    exact bodyPost_ret (v := .tuple #[.agg #[.slice none 0 0], .bool false]) (by simp [results, Try.results62, go_sem, T1.out.q0]) rfl (T1.out.no (bsL_no HI.out) HI.out)

end Go.Proofs.Ytikfbfclbmlopaa

/- Walks: two graphs joined. -/
namespace Go.Proofs.Ytikfbfclbmlopaa
open Go.RowKit

/-- Who is near whom in two graphs beside each other. -/
def bsA (L M : List (List Int)) (i j : Nat) : Bool := if i < L.length then adjB L i j else (decide (L.length ≤ j) && adjB M (i - L.length) (j - L.length))
theorem bsA_range {L M : List (List Int)} (h1 : GraphP L) (h2 : GraphP M) {i j : Nat} (h : bsA L M i j = true) : i < L.length + M.length ∧ j < L.length + M.length := by
  unfold bsA at h
  by_cases hi : i < L.length
  · rw [if_pos hi] at h
    have := (adjB_range h1 h).2
    omega
  · rw [if_neg hi, Bool.and_eq_true, decide_eq_true_iff] at h
    have := adjB_range h2 h.2
    omega
theorem bsA_sym {L M : List (List Int)} (h1 : GraphP L) (h2 : GraphP M) (i j : Nat) : bsA L M i j = bsA L M j i := by
  have key : ∀ i j, bsA L M i j = true → bsA L M j i = true := by
    intro i j h
    unfold bsA at h ⊢
    by_cases hi : i < L.length
    · rw [if_pos hi] at h
      have := (adjB_range h1 h).2
      rw [if_pos this, adjB_sym h1]; exact h
    · rw [if_neg hi, Bool.and_eq_true, decide_eq_true_iff] at h
      rw [if_neg (by omega), Bool.and_eq_true, decide_eq_true_iff, adjB_sym h2]
      exact ⟨by omega, h.2⟩
  rw [Bool.eq_iff_iff]
  exact ⟨key i j, key j i⟩
theorem bsA_self {L M : List (List Int)} (h1 : GraphP L) (h2 : GraphP M) (i : Nat) : bsA L M i i = false := by
  unfold bsA
  split
  · exact adjB_self h1 i
  · rw [adjB_self h2, Bool.and_false]
theorem bsR_adj {L M : List (List Int)} (h1 : GraphP L) (h2 : GraphP M) (hs : L.length + M.length ≤ 16) : bsR L M M.length = adjL (L.length + M.length) (bsA L M) := by
  apply nthR_ext
  · rw [bsR_len (Nat.le_refl _), adjL_len]
  · intro i hi
    rw [bsR_len (Nat.le_refl _)] at hi
    rw [adjL_nth _ hi]
    have hz1 := h1.1
    have hz2 := h2.1
    by_cases h : i < L.length
    · have e1 : nthR (bsR L M M.length) i = nthR L i := by
        unfold bsR nthR
        rw [List.getD_eq_getElem?_getD, List.getD_eq_getElem?_getD, List.getElem?_append_left h]
      rw [e1, ← row_list h1 h, rowM_pm h1]
      congr 1
      refine pm_congr (fun j _ => ?_)
      unfold bsA
      rw [if_pos h]
    · have hi2 : i - L.length < M.length := by omega
      have e1 : nthR (bsR L M M.length) i = shR L.length (nthR M (i - L.length)) := by
        unfold bsR nthR
        rw [List.take_length, List.getD_eq_getElem?_getD, List.getElem?_append_right (by omega), List.getElem?_map, List.getD_eq_getElem?_getD, List.getElem?_eq_getElem hi2]
        rfl
      rw [e1]
      have hs2 := (h2.2.1 _ hi2).1
      refine sets_eq (SetP.mk ?_ ?_) (listM_set _) (fun z => ?_)
      · unfold shR
        rw [List.pairwise_map]
        exact List.Pairwise.imp (fun h => by omega) hs2.pairwise
      · intro z hz
        obtain ⟨y, hy, rfl⟩ := List.mem_map.1 hz
        have := hs2.bounds y hy
        omega
      · rw [listM_mem]
        constructor
        · intro hz
          obtain ⟨y, hy, rfl⟩ := List.mem_map.1 hz
          have hb := hs2.bounds y hy
          obtain ⟨q, rfl⟩ : ∃ q : Nat, y = (q : Int) := ⟨y.toNat, by omega⟩
          refine ⟨q + L.length, by omega, ?_, by omega⟩
          rw [pm_bit]
          unfold bsA
          rw [if_neg h, show q + L.length - L.length = q from by omega, ← adjB_has h2 hi2 (by omega), (hasB_mem _ _).2 hy]
          simp; omega
        · rintro ⟨q, hq, hb, rfl⟩
          rw [pm_bit, Bool.and_eq_true] at hb
          have hb2 := hb.2
          unfold bsA at hb2
          rw [if_neg h, Bool.and_eq_true, decide_eq_true_iff, ← adjB_has h2 hi2 (by omega), hasB_mem] at hb2
          refine List.mem_map.2 ⟨_, hb2.2, ?_⟩
          omega
theorem bs_graph {L M : List (List Int)} (h1 : GraphP L) (h2 : GraphP M) (hs : L.length + M.length ≤ 16) : GraphP (adjL (L.length + M.length) (bsA L M)) :=
  adjL_graph ⟨by have := h1.1; omega, hs⟩ (fun i j h => (bsA_range h1 h2 h).2) (bsA_sym h1 h2) (bsA_self h1 h2)

/-- Which pairs across have been joined: all of those below u, and of u those below v. -/
def acB (n N u v p q : Nat) : Bool := decide (p < n ∧ n ≤ q ∧ q < N ∧ (p < u ∨ (p = u ∧ q < v)))
def joA (L M : List (List Int)) (u v i j : Nat) : Bool := bsA L M i j || acB L.length (L.length + M.length) u v i j || acB L.length (L.length + M.length) u v j i
theorem acB_step {n N u v p q : Nat} (hu : u < n) (hv : n ≤ v) (hN : v < N) : acB n N u (v + 1) p q = (acB n N u v p q || (p == u && q == v)) := by
  unfold acB
  rw [Bool.eq_iff_iff, Bool.or_eq_true, decide_eq_true_iff, decide_eq_true_iff, Bool.and_eq_true, beq_iff_eq, beq_iff_eq]
  omega
theorem joA_link {L M : List (List Int)} {u v : Nat} (hu : u < L.length) (hv : L.length ≤ v) (hN : v < L.length + M.length) (i j : Nat) : joA L M u (v + 1) i j = linkA (joA L M u v) u v i j := by
  unfold linkA joA
  rw [acB_step hu hv hN, acB_step hu hv hN]
  cases bsA L M i j <;> cases acB L.length (L.length + M.length) u v i j <;> cases acB L.length (L.length + M.length) u v j i <;> cases (i == u) <;> cases (j == v) <;> cases (i == v) <;> cases (j == u) <;> rfl
theorem acB_next (n N u p q : Nat) : acB n N u N p q = acB n N (u + 1) n p q := by
  unfold acB
  rw [Bool.eq_iff_iff, decide_eq_true_iff, decide_eq_true_iff]
  omega
theorem joA_next (L M : List (List Int)) (u i j : Nat) : joA L M u (L.length + M.length) i j = joA L M (u + 1) L.length i j := by
  unfold joA
  rw [acB_next, acB_next]
theorem joA_zero (L M : List (List Int)) (i j : Nat) : joA L M 0 L.length i j = bsA L M i j := by
  unfold joA acB
  rw [decide_eq_false (by omega), decide_eq_false (by omega), Bool.or_false, Bool.or_false]
/-- The answer. -/
def joL (L M : List (List Int)) : List (List Int) := if bsB L M = true then adjL (L.length + M.length) (joA L M L.length L.length) else []
theorem joL_no {L M : List (List Int)} (h : bsB L M = false) : joL L M = [] := by rw [joL, h]; rfl
theorem joL_small (L M : List (List Int)) : Small (joL L M) := by
  unfold joL
  split
  · rename_i h
    exact adjL_small _ _ (bsB_yes h).2.2
  · exact ⟨by simp, fun i hi => absurd hi (by simp)⟩

theorem WorkT.linked {w0 : World} {v1 v2 : Value} {bo B g N cg : Nat} {L L' : List (List Int)} {w w' : World} (h : WorkT w0 v1 v2 bo B g N cg L w) (hbo : w0.heap.size + 1 + 1 < bo) (ho : OwnGrid 2 34 w' B (.slice (some ⟨g, 0, none⟩) N cg) L') (hb : Below B w w') (ht : ∀ k, k < w.heap.size → k ≠ g → w'.heap[k]? = w.heap[k]?) :
    BoxT 26 w' bo (.slice (some ⟨g, 0, none⟩) N cg) ∧ WorkT w0 v1 v2 bo B g N cg L' (w'.setCell ⟨bo, 0, none⟩ (.slice (some ⟨g, 0, none⟩) N cg)) := by
  have hbt : BoxT 26 w' bo (.slice (some ⟨g, 0, none⟩) N cg) := by
    unfold BoxT
    rw [ht bo h.box.lt h.ne]
    exact h.box
  exact ⟨hbt, (h.three.keepB hb h.low).setOther hbo _, hbt.set _, ho.setType hbt (by decide) (by decide) 0 _, h.low⟩

set_option maxHeartbeats 3200000 in
set_option maxRecDepth 100000 in
theorem specJoinedGraph_any (v1 v2 : Value) (L M : List (List Int)) (w : World) (h1 : GridAt w v1 L) (h2 : GridAt w v2 M) : Calls Try.prog 64 #[.agg #[v1], .agg #[v2]] w (GaveGB w (joL L M) (bsB L M)) := by
  obtain ⟨a1, c1, rfl⟩ := h1.slice
  obtain ⟨a2, c2, rfl⟩ := h2.slice
  have T0 := Lib.hid (Three.start w (.slice a1 L.length c1) (.slice a2 M.length c2))
  have HK1 : Hid (∀ w', Below w.heap.size w w' → GridAt w' (.slice a1 L.length c1) L) := fun w' hb => h1.keep hb
  have HK2 : Hid (∀ w', Below w.heap.size w w' → GridAt w' (.slice a2 M.length c2) M) := fun w' hb => h2.keep hb
  have hsz0 : Hid ((((w.alloc (.cells #[.slice a1 L.length c1] 26)).alloc (.cells #[.slice a2 M.length c2] 26)).alloc (.cells #[.slice none 0 0] 26)).heap.size = w.heap.size + 1 + 1 + 1) := by show _ = _; rw [size_alloc1, size_alloc1, size_alloc1]
  clear h1 h2
  go_enter Try.func64, Try.ntmps64
  go_wp2_with fail
  refine (specBeside_any _ _ L M _ (HK1.out _ T0.out.bel) (HK2.out _ T0.out.bel)).mono ?_
  rintro e w1 ⟨n1, ag, cg, rfl, ho1, hb1⟩
  by_cases hB : bsB L M = true
  · have HI := Lib.hid hB
    obtain ⟨hG1, hG2, hs⟩ := bsB_yes hB
    have hzL := hG1.1
    have hzM := hG2.1
    have HG1 := Lib.hid hG1
    have HG2 := Lib.hid hG2
    rw [bsL, if_pos hB, bsR_adj hG1 hG2 hs] at ho1
    rw [hB]
    obtain ⟨rfl, g, rfl, hwk⟩ := WorkT.start T0.out hb1 ho1 (by rw [adjL_len]; omega)
    have hbo : w.heap.size + 1 + 1 < w1.heap.size := Nat.lt_of_lt_of_le T0.out.lt hb1.size
    rw [adjL_len, hsz0.out] at hwk
    rw [adjL_len]
    have HWK0 : Hid (WorkT w (.slice a1 L.length c1) (.slice a2 M.length c2) w1.heap.size (w.heap.size + 1 + 1 + 1) g (L.length + M.length) cg (adjL (L.length + M.length) (joA L M 0 L.length)) (w1.alloc (.cells #[.slice (some ⟨g, 0, none⟩) (L.length + M.length) cg] 26))) := by
      rw [adjL_congr (fun i _ j _ => joA_zero L M i j)]; exact hwk
    clear hB hG1 hG2 ho1 hb1 hwk
    go_wp2_with fail
    generalize hw2 : (w1.alloc (.cells #[.slice (some ⟨g, 0, none⟩) (L.length + M.length) cg] 26)) = w2 at HWK0 ⊢
    clear hw2
    go_loopw [8] (fun i wr => ∃ k : Nat, k ≤ L.length ∧ i = .int .i64 k ∧ WorkT w (.slice a1 L.length c1) (.slice a2 M.length c2) w1.heap.size (w.heap.size + 1 + 1 + 1) g (L.length + M.length) cg (adjL (L.length + M.length) (joA L M k L.length)) wr) (fun i _ => L.length - (intOf i).toNat)
    case atStart => exact ⟨0, Nat.zero_le _, rfl, HWK0.out⟩
    case round =>
      obtain ⟨k, hk, rfl, hw⟩ := hrel
      have HW := Lib.hid hw
      have kb := hw.three.one.1
      clear hw
      go_wp2_with fail
      refine (l1Size_any _ L _ (HK1.out _ HW.out.three.bel)).mono ?_
      rintro e w3 ⟨rfl, hb3⟩
      have HW3 := Lib.hid (HW.out.keep hb3)
      have kb3 := HW3.out.three.one.1
      clear hb3 kb
      by_cases hlt : k < L.length
      · go_wp2_with fail
        refine (l1Size_any _ L _ (HK1.out _ HW3.out.three.bel)).mono ?_
        rintro e w4 ⟨rfl, hb4⟩
        have HW4 := Lib.hid (HW3.out.keep hb4)
        clear hb4 kb3
        go_wp2_with fail
        go_loopw [9] (fun i wr => ∃ q : Nat, L.length ≤ q ∧ q ≤ L.length + M.length ∧ i = .int .i64 q ∧ WorkT w (.slice a1 L.length c1) (.slice a2 M.length c2) w1.heap.size (w.heap.size + 1 + 1 + 1) g (L.length + M.length) cg (adjL (L.length + M.length) (joA L M k q)) wr) (fun i _ => L.length + M.length - (intOf i).toNat)
        case atStart => exact ⟨L.length, Nat.le_refl _, by omega, rfl, HW4.out⟩
        case round =>
          rename World => w5
          obtain ⟨q, hq1, hq2, rfl, hw⟩ := hrel
          have HW5 := Lib.hid hw
          have k65 := hw.box.box.1
          have HGG := Lib.hid hw.own.grid
          clear hw
          go_wp2_with fail
          refine (l1Size_any _ (adjL (L.length + M.length) (joA L M k q)) _ HGG.out).mono ?_
          rintro e w6 ⟨rfl, hb6⟩
          have HW6 := Lib.hid (HW5.out.keep hb6)
          have k66 := HW6.out.box.box.1
          rw [adjL_len]
          clear hb6 k65 HGG
          by_cases hql : q < L.length + M.length
          · have hqI : (q : Int) < (L.length : Int) + (M.length : Int) := by omega
            have hqd : decide ((q : Int) < ((L.length + M.length : Nat) : Int)) = true := by simp; omega
            go_wp2_with fail
            refine (l1Link_adj k q g cg (w.heap.size + 1 + 1 + 1) (L.length + M.length) _ _ HW6.out.own (by have := HW6.out.box.lt; omega) (by omega) hql hs (by omega)).mono ?_
            rintro e w7 ⟨rfl, ho7, hb7, ht7⟩
            obtain ⟨hbt7, hw7⟩ := HW6.out.linked hbo ho7 hb7 ht7
            rw [← adjL_congr (fun i _ j _ => joA_link (M := M) hlt hq1 hql i j)] at hw7
            have k67 := hbt7.box.1
            have f67 := hbt7.box.2
            have HW7 := Lib.hid hw7
            clear ho7 hb7 ht7 hbt7 hw7 k66 hqI hqd
            go_wp2
            go_roundw
            case rel => exact ⟨q + 1, by omega, by omega, by go_num, HW7.out⟩
            case measure => simp [intOf]; omega
          · obtain rfl : q = L.length + M.length := by omega
            clear k66
            go_wp2
            go_roundw
            case rel => exact ⟨k + 1, by omega, by go_num, by rw [← adjL_congr (fun i _ j _ => joA_next L M k i j)]; exact HW6.out⟩
            case measure => simp [intOf]; omega
      · obtain rfl : k = L.length := by omega
        have k6 := HW3.out.box.box.1
        have kr := HW3.out.three.res.1
        have kf := HW3.out.three.res.2
        clear kb3
        go_wp2
        refine bodyPost_ret (v := .tuple #[.agg #[.slice (some ⟨g, 0, none⟩) (L.length + M.length) cg], .bool true]) (by simp [results, Try.results64, go_sem, HW3.out.three.q0]) rfl ?_
        rw [joL, if_pos HI.out]
        exact HW3.out.done HI.out
  · have hB' : bsB L M = false := by simpa using hB
    have HI := Lib.hid hB'
    have T1 := Lib.hid (T0.out.keep hb1)
    have T2 := Lib.hid (T1.out.keep ((Below.refl _ _).alloc (Nat.le_refl _) (.cells #[.slice ag n1 cg] 26)))
    have kr := T2.out.res.1
    have kf := T2.out.res.2
    rw [hB']
    clear hB hB' ho1 hb1
    go_wp2
    exact bodyPost_ret (v := .tuple #[.agg #[.slice none 0 0], .bool false]) (by simp [results, Try.results64, go_sem, T2.out.q0]) rfl (T2.out.no (joL_no HI.out) HI.out)

end Go.Proofs.Ytikfbfclbmlopaa

/- Walks: two graphs joined: the program's. -/
namespace Go.Proofs.Ytikfbfclbmlopaa
open Go.RowKit

set_option maxHeartbeats 3200000 in
set_option maxRecDepth 100000 in
theorem implJoinedGraph_any (v1 v2 : Value) (L M : List (List Int)) (w : World) (h1 : GridAt w v1 L) (h2 : GridAt w v2 M) : Calls Try.prog 65 #[.agg #[v1], .agg #[v2]] w (GaveGB w (joL L M) (bsB L M)) := by
  obtain ⟨a1, c1, rfl⟩ := h1.slice
  obtain ⟨a2, c2, rfl⟩ := h2.slice
  have T0 := Lib.hid (Three.start w (.slice a1 L.length c1) (.slice a2 M.length c2))
  have HK1 : Hid (∀ w', Below w.heap.size w w' → GridAt w' (.slice a1 L.length c1) L) := fun w' hb => h1.keep hb
  have HK2 : Hid (∀ w', Below w.heap.size w w' → GridAt w' (.slice a2 M.length c2) M) := fun w' hb => h2.keep hb
  clear h1 h2
  go_enter Try.func65, Try.ntmps65
  go_wp2_with fail
  refine (implBeside_any _ _ L M _ (HK1.out _ T0.out.bel) (HK2.out _ T0.out.bel)).mono ?_
  rintro e w1 ⟨n1, ag, cg, rfl, ho1, hb1⟩
  have T1 := Lib.hid (T0.out.keep hb1)
  have hbel : Below w1.heap.size w1 (w1.alloc (.cells #[.slice ag n1 cg] 26)) := (Below.refl _ _).alloc (Nat.le_refl _) _
  have T2 := Lib.hid (T1.out.keep hbel)
  by_cases hB : bsB L M = true
  · have HI := Lib.hid hB
    obtain ⟨hG1, hG2, hs⟩ := bsB_yes hB
    have hzL := hG1.1
    have hzM := hG2.1
    have hGB := bs_graph hG1 hG2 hs
    rw [bsL, if_pos hB, bsR_adj hG1 hG2 hs] at ho1
    rw [hB]
    have HGR := Lib.hid (ho1.grid.keep hbel)
    have HGB := Lib.hid hGB
    have HBL : Hid ((adjL (L.length + M.length) (bsA L M)).length = L.length + M.length) := adjL_len _ _
    have HRM : Hid (∀ i, rowM (adjL (L.length + M.length) (bsA L M)) i = pm (joA L M 0 L.length i)) := fun i => by
      rw [rowM_pm hGB]
      refine pm_congr (fun j hj => ?_)
      rw [joA_zero]
      by_cases hi : i < L.length + M.length
      · exact adjB_adjL hGB hi hj
      · have e1 : adjB (adjL (L.length + M.length) (bsA L M)) i j = false := by
          cases hb : adjB (adjL (L.length + M.length) (bsA L M)) i j with
          | false => rfl
          | true => exact absurd (adjB_range hGB hb).1 (by rw [adjL_len]; exact hi)
        have e2 : bsA L M i j = false := by
          cases hb : bsA L M i j with
          | false => rfl
          | true => exact absurd (bsA_range hG1 hG2 hb).1 hi
        rw [e1, e2]
    clear hB hG1 hG2 hGB ho1 hb1 hbel
    go_wp2_with fail
    refine (netOf_any _ (adjL (L.length + M.length) (bsA L M)) _ HGR.out).mono ?_
    rintro e w3 ⟨rfl, hb3⟩
    have T3 := Lib.hid (T2.out.keep hb3)
    have hnb := netBlk_new w3 0 (fun _ => 0)
    rw [decide_eq_true HGB.out, netArr_yes HGB.out, HBL.out]
    have k1 := T3.out.one.1
    have hbo : w.heap.size + 1 + 1 < w3.heap.size := T3.out.lt
    clear hb3
    go_wp2_with (first | (refine wpList_store_net rfl 71 (.tmp 8) (.tmp 25) rfl w3.heap.size (L.length + M.length) (rowM (adjL (L.length + M.length) (bsA L M))) rfl rfl Try.sizeNet 0 (fun _ => 0) hnb ?_; intro w4 hp; have HN4 : Hid (NetBlk 71 w4 w3.heap.size (L.length + M.length) (fun i => pm (joA L M 0 L.length i))) := hp.net.congr rfl (fun i _ => HRM.out i); have T4 := Lib.hid (T3.out.put hp); have k14 := T4.out.one.1; clear hp))
    clear k14 k1 hnb
    go_loopw [31] (fun i wr => ∃ k : Nat, k ≤ L.length ∧ i = .int .i64 k ∧ NetBlk 71 wr w3.heap.size (L.length + M.length) (fun i => pm (joA L M k L.length i)) ∧ Three w (.slice a1 L.length c1) (.slice a2 M.length c2) wr) (fun i _ => L.length - (intOf i).toNat)
    case atStart => exact ⟨0, Nat.zero_le _, rfl, HN4.out, T4.out⟩
    case round =>
      obtain ⟨k, hk, rfl, hn, ht⟩ := hrel
      have HN := Lib.hid hn
      have HT := Lib.hid ht
      clear hn ht
      by_cases hlt : k < L.length
      · go_wp2_with fail
        go_loopw [12] (fun i wr => ∃ q : Nat, L.length ≤ q ∧ q ≤ L.length + M.length ∧ i = .int .i64 q ∧ NetBlk 71 wr w3.heap.size (L.length + M.length) (fun i => pm (joA L M k q i)) ∧ Three w (.slice a1 L.length c1) (.slice a2 M.length c2) wr) (fun i _ => L.length + M.length - (intOf i).toNat)
        case atStart => exact ⟨L.length, Nat.le_refl _, by omega, rfl, HN.out, HT.out⟩
        case round =>
          rename World => w5
          obtain ⟨q, hq1, hq2, rfl, hn, ht⟩ := hrel
          have HN5 := Lib.hid hn
          have HT5 := Lib.hid ht
          have kn5 := hn.at.1
          clear hn ht
          by_cases hql : q < L.length + M.length
          · go_wp2_with fail
            refine (link_any w3.heap.size (L.length + M.length) k q _ _ HN5.out (fun i => pm_lt _) (by omega) (by omega) (by omega)).mono ?_
            rintro e w6 ⟨rfl, hp6⟩
            have HN6 : Hid (NetBlk 71 w6 w3.heap.size (L.length + M.length) (fun i => pm (joA L M k (q + 1) i))) := hp6.net.congr rfl (fun i _ => by rw [linkM_pm _ (by omega) (by omega) (by omega)]; exact pm_congr (fun j _ => (joA_link hlt hq1 hql i j).symm))
            have T6 := Lib.hid (HT5.out.putG hp6 hbo)
            clear hp6 kn5
            go_wp2
            go_roundw
            case rel => exact ⟨q + 1, by omega, by omega, by go_num, HN6.out, T6.out⟩
            case measure => simp [intOf]; omega
          · obtain rfl : q = L.length + M.length := by omega
            go_wp2
            go_roundw
            case rel => exact ⟨k + 1, by omega, by go_num, HN5.out.congr rfl (fun i _ => pm_congr (fun j _ => joA_next L M k i j)), HT5.out⟩
            case measure => simp [intOf]; omega
      · obtain rfl : k = L.length := by omega
        go_wp2_with fail
        refine (graph_any w3.heap.size (L.length + M.length) _ _ HN.out (fun i => pm_lt _) (by omega) hs).mono ?_
        rintro e w7 ⟨n7, a7, c7, rfl, ho7, hb7⟩
        have T7 := Lib.hid (HT.out.keep hb7)
        have kr := T7.out.res.1
        have kf := T7.out.res.2
        have HO7 := Lib.hid ho7
        clear ho7 hb7
        go_wp2
        refine bodyPost_ret (v := .tuple #[.agg #[.slice a7 n7 c7], .bool true]) (by simp [results, Try.results65, go_sem, T7.out.q0]) rfl (T7.out.yes (B := wr.heap.size) ?_ HT.out.lt HI.out)
        rw [joL, if_pos HI.out]
        exact HO7.out
  · have hB' : bsB L M = false := by simpa using hB
    have HI := Lib.hid hB'
    have kr := T2.out.res.1
    have kf := T2.out.res.2
    rw [hB']
    clear hB hB' ho1 hb1 hbel
    go_wp2
    exact bodyPost_ret (v := .tuple #[.agg #[.slice none 0 0], .bool false]) (by simp [results, Try.results65, go_sem, T2.out.q0]) rfl (T2.out.no (joL_no HI.out) HI.out)

end Go.Proofs.Ytikfbfclbmlopaa
