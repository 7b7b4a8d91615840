/- The texts EP1, EP2, joined. -/
import Derived.Test.YtgeifbgjfbfcfaaQEM3
import Derived.Test.YtgeifbgjfbfcfaaQLater
import Derived.BigQuiet

/- Walks: EmbedsIn and FreeOf of the program, FreeOf of the model. -/
namespace Go.Proofs.Ytgeifbgjfbfcfaa
open Go.RowKit

/-- Two boxes for two graphs. -/
structure TwoG (w : World) (v v1 : Value) (Lp Lg : List (List Int)) (wr : World) : Prop where
  box0 : wr.cell? ⟨w.heap.size, 0, none⟩ = some v
  box1 : wr.cell? ⟨w.heap.size + 1, 0, none⟩ = some v1
  g0 : GridAt wr v Lp
  g1 : GridAt wr v1 Lg
  bel : Below w.heap.size w wr
  lt : w.heap.size + 2 ≤ wr.heap.size
theorem TwoG.start {w : World} {v v1 : Value} {Lp Lg : List (List Int)} (h : GridAt w v Lp) (h1 : GridAt w v1 Lg) (T : TypeId) : TwoG w v v1 Lp Lg ((w.alloc (.cells #[v] T)).alloc (.cells #[v1] T)) := by
  have ha : Below w.heap.size w ((w.alloc (.cells #[v] T)).alloc (.cells #[v1] T)) := ((Below.refl _ _).alloc (Nat.le_refl _) _).alloc (by simp) _
  exact ⟨by go_simp, by go_simp, h.keep ha, h1.keep ha, ha, by simp⟩
theorem TwoG.keep {w : World} {v v1 : Value} {Lp Lg : List (List Int)} {wr w' : World} (h : TwoG w v v1 Lp Lg wr) (hb : Below wr.heap.size wr w') : TwoG w v v1 Lp Lg w' :=
  ⟨cell_keep hb h.box0, cell_keep hb h.box1, h.g0.keep hb, h.g1.keep hb, h.bel.trans (hb.mono h.bel.size), Nat.le_trans h.lt hb.size⟩

theorem emb_first {Lp Lg : List (List Int)} (hp : SmallP Lp) (hg : GraphP Lg) : firstL (turnsL (rowM Lp) Lp.length Lg.length (rowM Lg)) = embL Lp Lg ∧ decide (turnsL (rowM Lp) Lp.length Lg.length (rowM Lg) ≠ []) = embB Lp Lg := by
  obtain ⟨h1, h2⟩ := fit_first hp.1 hg
  refine ⟨?_, ?_⟩
  · unfold embL; rw [if_pos ⟨hp, hg⟩]; exact h1
  · unfold embB
    rw [Bool.eq_iff_iff, decide_eq_true_iff, decide_eq_true_iff]
    exact ⟨fun h => ⟨hp, hg, fun e => h (h2.2 e)⟩, fun h e => h.2.2 (h2.1 e)⟩
theorem nil_own {w : World} {B : Nat} : OwnRow 2 w B (.slice none 0 0) [] := ⟨by simp, Nat.zero_le _, .inl ⟨rfl, rfl⟩⟩
theorem GaveFB.no {w w' : World} {xs : List Int} {ok : Bool} (hx : xs = []) (hk : ok = false) (hb : Below w.heap.size w w') : GaveFB w xs ok (.returned (.tuple #[.slice none 0 0, .bool false])) w' := by
  rw [hx, hk]; exact ⟨_, _, _, rfl, nil_own, hb⟩

end Go.Proofs.Ytgeifbgjfbfcfaa

/- Walks: AlikeIn. -/
namespace Go.Proofs.Ytgeifbgjfbfcfaa
open Go.RowKit

theorem al_first {La Lb : List (List Int)} (ha : SmallP La) (hb : SmallP Lb) (hl : La.length = Lb.length) : firstL (turnsL (rowM Lb) Lb.length La.length (rowM La)) = alL La Lb ∧ decide (turnsL (rowM Lb) Lb.length La.length (rowM La) ≠ []) = alB La Lb := by
  obtain ⟨h1, h2⟩ := fit_first hb.1 ha.1
  refine ⟨?_, ?_⟩
  · unfold alL; rw [if_pos ⟨ha, hb, hl⟩]; exact h1
  · unfold alB
    rw [Bool.eq_iff_iff, decide_eq_true_iff, decide_eq_true_iff]
    exact ⟨fun h => ⟨ha, hb, hl, fun e => h (h2.2 e)⟩, fun h e => h.2.2.2 (h2.1 e)⟩
theorem al_no {La Lb : List (List Int)} (h : ¬ (SmallP La ∧ SmallP Lb ∧ La.length = Lb.length)) : alL La Lb = [] ∧ alB La Lb = false := by
  refine ⟨?_, ?_⟩
  · unfold alL; rw [if_neg h]
  · unfold alB; rw [decide_eq_false (fun h' => h ⟨h'.1, h'.2.1, h'.2.2.1⟩)]

set_option maxHeartbeats 4000000 in
set_option maxRecDepth 100000 in
theorem specAlikeIn_any (v v1 : Value) (La Lb : List (List Int)) (w : World) (h : GridAt w v La) (h1 : GridAt w v1 Lb) : Calls Try.prog 11 #[.agg #[v], .agg #[v1]] w (GaveFB w (alL La Lb) (alB La Lb)) := by
  have hlA := h.len
  have hlB := h1.len
  unfold maxLen at hlA hlB
  obtain ⟨a0, c0, rfl⟩ := h.slice
  obtain ⟨a1, c1, rfl⟩ := h1.slice
  obtain ⟨w0, hw0⟩ : ∃ w0, (w.alloc (.cells #[.slice a0 La.length c0] 26)).alloc (.cells #[.slice a1 Lb.length c1] 26) = w0 := ⟨_, rfl⟩
  have hT0 : TwoG w (.slice a0 La.length c0) (.slice a1 Lb.length c1) La Lb w0 := by rw [← hw0]; exact TwoG.start h h1 26
  have HW0 := Lib.hid hw0
  have HT0 := Lib.hid hT0
  have k0 := hT0.box0
  have k1 := hT0.box1
  obtain ⟨sa, hsa⟩ : ∃ sa, decide (SmallP La) = sa := ⟨_, rfl⟩
  obtain ⟨sb, hsb⟩ : ∃ sb, decide (SmallP Lb) = sb := ⟨_, rfl⟩
  have HSA := Lib.hid hsa
  have HSB := Lib.hid hsb
  have hcA : Hid (∀ x : Later w0, Calls Try.prog 43 #[.agg #[.slice a0 La.length c0]] x.at fun e w2 => e = .returned (.bool sa) ∧ ∃ y : Later w0, w2 = y.at) :=
    fun x => Calls.later ((l4Small_any _ La _ (HT0.out.keep x.bel).g0).mono fun _ _ ⟨h1, h2⟩ => ⟨by rw [h1, hsa], h2⟩)
  have hcB : Hid (∀ x : Later w0, Calls Try.prog 43 #[.agg #[.slice a1 Lb.length c1]] x.at fun e w2 => e = .returned (.bool sb) ∧ ∃ y : Later w0, w2 = y.at) :=
    fun x => Calls.later ((l4Small_any _ Lb _ (HT0.out.keep x.bel).g1).mono fun _ _ ⟨h1, h2⟩ => ⟨by rw [h1, hsb], h2⟩)
  have hdA : Hid (∀ x : Later w0, Calls Try.prog 44 #[.agg #[.slice a0 La.length c0]] x.at fun e w2 => e = .returned (.int .i64 (La.length : Int)) ∧ ∃ y : Later w0, w2 = y.at) :=
    fun x => Calls.later ((l1Size_any _ La _ (HT0.out.keep x.bel).g0).mono fun _ _ ⟨h1, h2⟩ => ⟨h1, h2⟩)
  have hdB : Hid (∀ x : Later w0, Calls Try.prog 44 #[.agg #[.slice a1 Lb.length c1]] x.at fun e w2 => e = .returned (.int .i64 (Lb.length : Int)) ∧ ∃ y : Later w0, w2 = y.at) :=
    fun x => Calls.later ((l1Size_any _ Lb _ (HT0.out.keep x.bel).g1).mono fun _ _ ⟨h1, h2⟩ => ⟨h1, h2⟩)
  clear h h1 hw0 hT0 hsa hsb
  obtain ⟨t, ht⟩ : ∃ t, ((La.length : Int) != (Lb.length : Int)) = t := ⟨_, rfl⟩
  have HTE := Lib.hid ht
  go_enter Try.func11, Try.ntmps11
  go_wp2_with fail
  rw [HW0.out]
  go_cut [21] (fun b wx => b = .bool (!sa || !sb || t) ∧ Below w0.heap.size w0 wx)
  case first =>
    have kl := fun x : Later w0 => x.cell k0
    have kl1 := fun x : Later w0 => x.cell k1
    clear k0 k1
    cases sa <;> cases sb <;>
      (refine wp_region_later (by kernel_rfl) (by kernel_rfl) ?_
       repeat (go_big_quiet_step ((first | (go_at_call 43; with_reducible exact hcA.out _) | (go_at_call 43; with_reducible exact hcB.out _) | (go_at_call 44; with_reducible exact hdA.out _) | (go_at_call 44; with_reducible exact hdB.out _))))
       refine wpQuiet_nil ?_
       rintro _ ⟨z, rfl⟩
       go_wp2_with fail
       go_meet
       exact ⟨rfl, z.bel⟩)
  case rest =>
    rename World => w1
    obtain ⟨rfl, hb1⟩ := hcut
    have HT1 := Lib.hid (HT0.out.keep hb1)
    have hF1 := Lib.hid HT1.out.bel
    have kk0 := HT1.out.box0
    have kk1 := HT1.out.box1
    clear hb1 k0 k1 ht hcA hcB hdA hdB
    cases hcond : (!sa || !sb || t) with
    | true =>
      have HNO : Hid (alL La Lb = [] ∧ alB La Lb = false) := al_no (fun h => by
        rw [← HSA.out, ← HSB.out, ← HTE.out, decide_eq_true h.1, decide_eq_true h.2.1, h.2.2] at hcond
        simp at hcond)
      clear hcond kk0 kk1
      go_wp2
      refine bodyPost_ret (v := .tuple #[.slice (some ⟨w1.heap.size, 0, none⟩) 0 0, .bool false]) (by simp [results, Try.results11, go_sem]) rfl ?_
      rw [HNO.out.1, HNO.out.2]
      exact ⟨_, _, _, rfl, empty_own w1 _ hF1.out.size, hF1.out.alloc hF1.out.size _⟩
    | false =>
      have hc2 : sa = true ∧ sb = true ∧ t = false := by revert hcond; cases sa <;> cases sb <;> cases t <;> simp
      have HA := Lib.hid (of_decide_eq_true (HSA.out.trans hc2.1))
      have HB := Lib.hid (of_decide_eq_true (HSB.out.trans hc2.2.1))
      have HLE : Hid (La.length = Lb.length) := by
        have := HTE.out.trans hc2.2.2
        rw [bne_eq_false_iff_eq] at this
        show _ = _; omega
      have hz := HB.out.1.1
      clear hcond hc2
      have HF3 : Hid (Below w.heap.size w (w1.alloc (.cells #[] 2))) := hF1.out.alloc hF1.out.size _
      have HT3 := Lib.hid (HT1.out.keep ((Below.refl w1.heap.size w1).alloc (Nat.le_refl _) (.cells #[] 2)))
      have HEM := Lib.hid (l4Embed_any Lb La HB.out.1 HA.out.1 a1 a0 c1 c0 Lb.length [] (.slice (some ⟨w1.heap.size, 0, none⟩) 0 0) w.heap.size (w1.alloc (.cells #[] 2)) HT3.out.g1 HT3.out.g0 (empty_own w1 _ hF1.out.size) HF3.out.size (by simp) (fun i hi => absurd hi (by simp)))
      go_wp2_with fail
      refine HEM.out.mono ?_
      rintro e w4 ⟨m4, a4, c4, rfl, ho4, hb4⟩
      have hm4 : m4 = (firstL (stands Lb La)).length := by
        obtain ⟨a3, c3, e3⟩ := ho4.row.slice
        simp only [Value.slice.injEq] at e3
        exact e3.2.1
      have HO4 : Hid (OwnRow 2 w4 w.heap.size (.slice a4 m4 c4) (alL La Lb)) := by show OwnRow _ _ _ _ _; unfold alL; rw [if_pos ⟨HA.out, HB.out, HLE.out⟩]; exact ho4
      have HF4 : Hid (Below w.heap.size w w4) := HF3.out.trans (hb4.mono HF3.out.size)
      have HPB : Hid (decide ((0 : Int) < (m4 : Int)) = alB La Lb) := by
        show _ = _
        rw [hm4, first_pos hz.1]
        unfold alB
        rw [Bool.eq_iff_iff, decide_eq_true_iff, decide_eq_true_iff]
        exact ⟨fun h => ⟨HA.out, HB.out, HLE.out, h⟩, fun h => h.2.2.2⟩
      clear ho4 hb4 hm4 kk0 kk1
      go_wp2
      refine bodyPost_ret (v := .tuple #[.slice a4 m4 c4, .bool (decide ((0 : Int) < (m4 : Int)))]) (by simp [results, Try.results11, go_sem]) rfl ⟨m4, a4, c4, ?_, HO4.out, HF4.out⟩
      rw [← HPB.out]

set_option maxHeartbeats 2000000 in
set_option maxRecDepth 100000 in
theorem implAlikeIn_any (v v1 : Value) (Lp Lg : List (List Int)) (w : World) (h : GridAt w v Lp) (h1 : GridAt w v1 Lg) : Calls Try.prog 10 #[.agg #[v], .agg #[v1]] w (GaveFB w (alL Lp Lg) (alB Lp Lg)) := by
  have hlA := h.len
  have hlB := h1.len
  unfold maxLen at hlA hlB
  obtain ⟨a0, c0, rfl⟩ := h.slice
  obtain ⟨a1, c1, rfl⟩ := h1.slice
  have HT0 := Lib.hid (TwoG.start h h1 26)
  clear h h1
  go_enter Try.func10, Try.ntmps10
  go_wp2_with fail
  refine (smallNet_any _ _ _ HT0.out.g0).mono ?_
  rintro e w1 ⟨rfl, hb1⟩
  have HT1 := Lib.hid (HT0.out.keep hb1)
  have hnb := netBlk_new w1 0 (fun _ => 0)
  have hz1 := HT1.out.lt
  clear hb1 HT0
  have k1A := (HT1.out.keep ((Below.refl _ _).alloc (Nat.le_refl _) (.cells (netArr 0 (fun _ => 0)) 57))).box1
  obtain ⟨n1, hn1⟩ : ∃ n1, smN Lp = n1 := ⟨_, rfl⟩
  obtain ⟨M1, hM1⟩ : ∃ M1, smM Lp = M1 := ⟨_, rfl⟩
  rw [hn1, hM1]
  have HN1 := Lib.hid hn1
  have HM1 := Lib.hid hM1
  obtain ⟨s, hs⟩ : ∃ s, decide (SmallP Lp) = s := ⟨_, rfl⟩
  rw [hs]
  have HS := Lib.hid hs
  clear hn1 hM1 hs
  go_wp2_with (refine wpList_store_net rfl 57 (.tmp 6) (.tmp 13) rfl w1.heap.size n1 M1 rfl rfl Try.sizeNet 0 (fun _ => 0) hnb ?_; intro w3 hp3; have k13 : w3.cell? ⟨w.heap.size + 1, 0, none⟩ = some (.slice a1 Lg.length c1) := ((hp3.cell (by show w.heap.size + 1 ≠ _; omega)).trans k1A); have HB13 : Hid (Below w1.heap.size w1 w3) := hp3.since; have HN3 := Lib.hid hp3.net; clear hp3)
  have HT3 := Lib.hid (HT1.out.keep HB13.out)
  clear hnb k1A
  refine (smallNet_any _ _ _ HT3.out.g1).mono ?_
  rintro e w4 ⟨rfl, hb4⟩
  have HT4 := Lib.hid (HT3.out.keep hb4)
  have HN4 := Lib.hid (HN3.out.keep hb4)
  have hnb := netBlk_new w4 0 (fun _ => 0)
  have hz4 := HT4.out.lt
  have hz14 : w1.heap.size < w4.heap.size := HN4.out.lt
  have HB4A : Hid (Below w.heap.size w w4) := HT4.out.bel
  obtain ⟨n2, hn2⟩ : ∃ n2, smN Lg = n2 := ⟨_, rfl⟩
  obtain ⟨M2, hM2⟩ : ∃ M2, smM Lg = M2 := ⟨_, rfl⟩
  rw [hn2, hM2]
  have HN2 := Lib.hid hn2
  have HM2 := Lib.hid hM2
  obtain ⟨t, ht⟩ : ∃ t, decide (SmallP Lg) = t := ⟨_, rfl⟩
  rw [ht]
  have HTG := Lib.hid ht
  clear hb4 HT3 HT1 HN3 HB13 k13 hn2 hM2 ht
  have HN4A : Hid (NetBlk 57 (w4.alloc (.cells (netArr 0 (fun _ => 0)) 57)) w1.heap.size n1 M1) := HN4.out.keep ((Below.refl _ _).alloc (Nat.le_refl _) _)
  cases s with
  | false =>
    have HNO := Lib.hid (al_no (La := Lp) (Lb := Lg) (fun h => of_decide_eq_false HS.out h.1))
    go_wp2_with (refine wpList_store_net rfl 57 (.tmp 8) (.tmp 18) rfl w4.heap.size n2 M2 rfl rfl Try.sizeNet 0 (fun _ => 0) hnb ?_; intro w5 hp5; have HF5 : Hid (Below w.heap.size w w5) := HB4A.out.trans (hp5.since.mono HB4A.out.size); clear hp5)
    exact bodyPost_ret (v := .tuple #[.slice none 0 0, .bool false]) (by simp [results, Try.results10, go_sem]) rfl (GaveFB.no HNO.out.1 HNO.out.2 HF5.out)
  | true =>
    cases t with
    | false =>
      have HNO := Lib.hid (al_no (La := Lp) (Lb := Lg) (fun h => of_decide_eq_false HTG.out h.2.1))
      go_wp2_with (refine wpList_store_net rfl 57 (.tmp 8) (.tmp 18) rfl w4.heap.size n2 M2 rfl rfl Try.sizeNet 0 (fun _ => 0) hnb ?_; intro w5 hp5; have HF5 : Hid (Below w.heap.size w w5) := HB4A.out.trans (hp5.since.mono HB4A.out.size); clear hp5)
      exact bodyPost_ret (v := .tuple #[.slice none 0 0, .bool false]) (by simp [results, Try.results10, go_sem]) rfl (GaveFB.no HNO.out.1 HNO.out.2 HF5.out)
    | true =>
      have HSP := Lib.hid (of_decide_eq_true HS.out)
      have HGG := Lib.hid (of_decide_eq_true HTG.out)
      have hzp := HSP.out.1.1
      have hzg := HGG.out.1.1
      obtain rfl : n1 = Lp.length := by rw [← HN1.out]; exact if_pos HSP.out
      obtain rfl : M1 = rowM Lp := by rw [← HM1.out]; funext i; exact if_pos HSP.out
      obtain rfl : n2 = Lg.length := by rw [← HN2.out]; exact if_pos HGG.out
      obtain rfl : M2 = rowM Lg := by rw [← HM2.out]; funext i; exact if_pos HGG.out
      by_cases hlen : Lp.length = Lg.length
      · have HEF := Lib.hid (al_first HSP.out HGG.out hlen)
        have qne : ((Lp.length : Int) != (Lg.length : Int)) = false := by rw [bne_eq_false_iff_eq]; omega
        clear hlen
        go_wp2_with (refine wpList_store_net rfl 57 (.tmp 8) (.tmp 18) rfl w4.heap.size Lg.length (rowM Lg) rfl rfl Try.sizeNet 0 (fun _ => 0) hnb ?_; intro w5 hp5; have HF5 : Hid (Below w.heap.size w w5) := HB4A.out.trans (hp5.since.mono HB4A.out.size); have HP5 := Lib.hid hp5; have kn5 := hp5.net.at.1; have kn15 := (HN4A.out.by hp5 (by omega)).at.1; clear hp5)
        refine (leastFit_any w1.heap.size Lp.length (rowM Lp) w4.heap.size Lg.length (rowM Lg) w5 (HN4A.out.by HP5.out (by omega)).at HP5.out.net.at hzp.2 hzg.1 hzg.2 (fun i => rowM_lt (by omega) (fun v hv => (HSP.out.1.2.1 v hv).1) i) (fun i => rowM_lt (by omega) (fun v hv => (HGG.out.1.2.1 v hv).1) i)).mono ?_
        rintro e w6 ⟨m6, a6, c6, rfl, ho6, hb6⟩
        rw [HEF.out.1] at ho6
        rw [HEF.out.2]
        have HO6 := Lib.hid (ho6.mono HF5.out.size)
        have HF6 : Hid (Below w.heap.size w w6) := HF5.out.trans (hb6.mono HF5.out.size)
        clear ho6 hb6
        go_wp2
        exact bodyPost_ret (v := .tuple #[.slice a6 m6 c6, .bool (alB Lp Lg)]) (by simp [results, Try.results10, go_sem]) rfl ⟨_, _, _, rfl, HO6.out, HF6.out⟩
      · have HNO := Lib.hid (al_no (La := Lp) (Lb := Lg) (fun h => hlen h.2.2))
        have qne : ((Lp.length : Int) != (Lg.length : Int)) = true := by rw [bne_iff_ne]; omega
        clear hlen
        go_wp2_with (refine wpList_store_net rfl 57 (.tmp 8) (.tmp 18) rfl w4.heap.size Lg.length (rowM Lg) rfl rfl Try.sizeNet 0 (fun _ => 0) hnb ?_; intro w5 hp5; have HF5 : Hid (Below w.heap.size w w5) := HB4A.out.trans (hp5.since.mono HB4A.out.size); have kn5 := hp5.net.at.1; have kn15 := (HN4A.out.by hp5 (by omega)).at.1; clear hp5)
        exact bodyPost_ret (v := .tuple #[.slice none 0 0, .bool false]) (by simp [results, Try.results10, go_sem]) rfl (GaveFB.no HNO.out.1 HNO.out.2 HF5.out)

end Go.Proofs.Ytgeifbgjfbfcfaa
