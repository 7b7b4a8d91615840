/- Walks: SidesOf, of the program. -/
import Derived.Test.YtnjkhiheapmlmaaDoorQSO1
import Derived.Test.YtnjkhiheapmlmaaDoorQSO3
import Derived.Test.YtnjkhiheapmlmaaDoorQY1
import Derived.Test.YtnjkhiheapmlmaaDoorQZ3

namespace Go.Proofs.YtnjkhiheapmlmaaDoor
open Go.RowKit Go.Shelf
attribute [local go_sem] Oper.semAt_some

theorem wk_within {A : Nat → Nat → Bool} {S S' : Nat → Bool} (hsub : ∀ u, S' u = true → S u = true) (hcl : ∀ a b, S' a = true → S b = true → A a b = true → S' b = true) {v : Nat} (hv : S' v = true) : ∀ (k u : Nat), Wk A S' v k u ↔ Wk A S v k u := by
  intro k
  induction k with
  | zero => intro u; exact ⟨fun h => ⟨h.1, hsub _ hv⟩, fun h => ⟨h.1, hv⟩⟩
  | succ k ih =>
    intro u
    constructor
    · rintro ⟨hs, w, hw, ha⟩; exact ⟨hsub _ hs, w, (ih w).1 hw, ha⟩
    · rintro ⟨hs, w, hw, ha⟩; have h1 := (ih w).2 hw; exact ⟨hcl w u (wk_in h1) hs ha, w, h1, ha⟩
theorem atD_part {L : List (List Int)} (hG : GraphP L) {x : Nat} (hx : x < L.length) (d u : Nat) : AtD (nearB L) (bitS (compN (nearB L) L.length x)) x d u ↔ AtD (nearB L) (allS L.length) x d u := by
  have hw := wk_within (A := nearB L) (S := allS L.length) (S' := bitS (compN (nearB L) L.length x)) (fun u hu => ((compN_bit hG.1.2 _ _).1 hu).mem)
    (fun a b ha hb hab => by
      have h1 := (compN_bit hG.1.2 _ _).1 ha
      exact (compN_bit hG.1.2 _ _).2 (h1.trans ⟨1, hb, a, ⟨rfl, h1.mem⟩, hab⟩)) (v := x) (compN_self hG.1.2 hx)
  unfold AtD
  rw [hw d u]
  constructor
  · rintro ⟨h1, h2⟩; exact ⟨h1, fun e he h => h2 e he ((hw e u).2 h)⟩
  · rintro ⟨h1, h2⟩; exact ⟨h1, fun e he h => h2 e he ((hw e u).1 h)⟩
theorem side_at {L : List (List Int)} (hG : GraphP L) {x d u : Nat} (_hx : x < L.length) (hh : headN (nearB L) L.length x = x) (h : AtD (nearB L) (allS L.length) x d u) : u < L.length ∧ headN (nearB L) L.length u = x ∧ sideV L u = (d : Int) % 2 := by
  have hr : Reach (nearB L) (allS L.length) x u := reach_at.2 ⟨d, h⟩
  have h1 : headN (nearB L) L.length u = x := by rw [headN_eq (nearB_symm hG) hG.1.2 hr, hh]
  refine ⟨(allS_iff _ _).1 hr.mem, h1, ?_⟩
  unfold sideV
  rw [h1, dOf_at h]

/-- The sides, half done: those of the parts that begin at one of hs. -/
structure Sides (w : World) (L : List (List Int)) (g bn : Nat) (hs : List Nat) (ps : List (Nat × Nat)) (f : Nat → Int) (W : World) : Prop where
  done : ∀ v, v < L.length → headN (nearB L) L.length v ∈ hs → f v = sideV L v
  seen : ∀ p ∈ ps, f p.1 = sideV L p.1
  row : W.rowIs g 2 L.length (fun j => .int .i64 (f j))
  box : W.cell? ⟨g + 1, 0, none⟩ = some (.slice (some ⟨g, 0, none⟩) L.length L.length)
  bel : Below w.heap.size w W
  net : NetAt W bn L.length (rowM L)
  tab : TabAt W
theorem Sides.later {w : World} {L : List (List Int)} {g bn : Nat} {hs : List Nat} {ps : List (Nat × Nat)} {f : Nat → Int} {A B : World} {N : Nat} (h : Sides w L g bn hs ps f A) (hb : Below N A B) (hg : g + 1 < N) (hbn : bn < N) (hw : w.heap.size ≤ N) : Sides w L g bn hs ps f B :=
  ⟨h.done, h.seen, h.row.of_block (hb.block _ (by omega)), (hb.cell (by simp; omega)).trans h.box, h.bel.trans (hb.mono hw), ⟨(hb.cell (by simp; omega)).trans h.net.1, fun i hi => (hb.cell (by simp; omega)).trans (h.net.2 i hi)⟩, fun i hi => (hb.cell (by simp; omega)).trans (h.tab i hi)⟩
theorem Sides.set {w : World} {L : List (List Int)} {g bn : Nat} {hs : List Nat} {ps : List (Nat × Nat)} {f : Nat → Int} {A : World} {u d : Nat} (h : Sides w L g bn hs ps f A) (hbn : bn < g) (h0 : 0 < g) (hw : w.heap.size ≤ g) : Sides w L g bn hs (ps ++ [(u, d)]) (fun j => if j = u then sideV L u else f j) (A.setCell ⟨g, u, none⟩ (.int .i64 (sideV L u))) := by
  refine ⟨fun v hv hm => ?_, fun p hp => ?_, (h.row.set u _).congr (fun j hj => ?_), ?_, h.bel.setCell (p := ⟨g, u, none⟩) hw _, ⟨?_, fun i hi => ?_⟩, fun i hi => ?_⟩
  · by_cases e : v = u
    · subst e; simp
    · simp only [e, if_false]; exact h.done v hv hm
  · by_cases e : p.1 = u
    · simp only [e, if_true]
    · simp only [e, if_false]
      rcases List.mem_append.1 hp with hp | hp
      · exact h.seen p hp
      · simp at hp; rw [hp] at e; exact absurd rfl e
  · by_cases e : j = u
    · subst e; simp
    · simp only [e, if_false]
  · rw [World.cell?_setCell_other _ _ _ _ (by intro e; simp at e)]; exact h.box
  · rw [World.cell?_setCell_other _ _ _ _ (by intro e; simp only [Addr.mk.injEq] at e; omega)]; exact h.net.1
  · rw [World.cell?_setCell_other _ _ _ _ (by intro e; simp only [Addr.mk.injEq] at e; omega)]; exact h.net.2 i hi
  · rw [World.cell?_setCell_other _ _ _ _ (by intro e; simp only [Addr.mk.injEq] at e; omega)]; exact h.tab i hi

open Classical in
theorem apart_yes {L : List (List Int)} (h : ApartP L) : decide (ApartP L) = true := decide_eq_true h
open Classical in
theorem apart_no {L : List (List Int)} (h : ¬ ApartP L) : decide (ApartP L) = false := decide_eq_false h

set_option maxHeartbeats 8000000 in
set_option maxRecDepth 100000 in
theorem implSidesOf_any (v : Value) (L : List (List Int)) (w : World) (h : GridAt w v L) (hT : TabAt w) : Calls Tryd.prog 7 #[.agg #[v]] w (GaveRB w (soL L) (soB L)) := by
  obtain ⟨a0, c0, rfl⟩ := h.slice
  have ha : Below w.heap.size w (w.alloc (.cells #[.slice a0 L.length c0] 26)) := (Below.refl _ _).alloc (Nat.le_refl _) _
  have hk := h.keep ha
  have HA := Lib.hid ha
  have h0w : 0 < w.heap.size := block_lt_of_cell (hT 0 (by decide))
  have HT := Lib.hid hT
  clear ha hT
  refine calls_marks Tryd.func7 rfl ?_
  simp only [Tryd.ntmps7, List.size_toArray, List.length_cons, List.length_nil, Nat.reduceAdd, Nat.reduceSub, Array.replicate_succ, Array.replicate_zero, List.push_toArray, List.append_toArray, List.nil_append, List.cons_append]
  go_wp2_with fail
  refine (netOf_any _ _ _ hk).mono ?_
  rintro e w1 ⟨rfl, hb1⟩
  have HB1 : Hid (Below w.heap.size w w1) := HA.out.trans (hb1.mono (by simp))
  have hz : w.heap.size ≤ w1.heap.size := HB1.out.size
  have hnb := netBlk_new w1 0 (fun _ => 0)
  clear hb1 hk h HA
  by_cases hG : GraphP L
  · have hzz := hG.1
    have HLT : Hid (∀ i, rowM L i < 65536) := fun i => rowM_lt (by omega) (fun v hv => (hG.2.1 v hv).1) i
    have HNE := Lib.hid (nearM_eq hG)
    have HSY : Hid (∀ a b, nearM (rowM L) a b = nearM (rowM L) b a) := by rw [HNE.out]; exact nearB_symm hG
    have HG := Lib.hid hG
    have hmk := run_make_row' (P := Tryd.prog) 28 2 (.int .i64 0) 8 Tryd.underlying28 Tryd.infoI rfl .i64 .i64 L.length (by omega) (by omega)
    rw [decide_eq_true hG, netArr_yes hG]
    clear hG
    go_wp2_with (first | (refine wpList_store_net rfl 47 (.tmp 4) (.tmp 13) rfl w1.heap.size L.length (rowM L) rfl rfl Tryd.sizeNet 0 (fun _ => 0) hnb ?_; intro w3 hp; have hn0 := hp.net.at.1; have HNet := Lib.hid hp.net.at; have HB3 : Hid (Below w.heap.size w w3) := (HB1.out.alloc hz _).trans (hp.below.mono hz); clear hp) | (go_at_call 26; refine (parts_any _ _).mono ?_; rintro e w' ⟨rfl, rfl⟩))
    have hz3 : w.heap.size ≤ w3.heap.size := HB3.out.size
    have hbn : w1.heap.size < w3.heap.size := block_lt_of_cell HNet.out.1
    obtain ⟨w5, hw5⟩ : ∃ w5, ((w3.alloc (.cells (madeCells #[.int .i64 0] L.length) 2)).alloc (.cells #[.slice (some ⟨w3.heap.size, 0, none⟩) L.length L.length] 28)).alloc (.cells #[.pointer (some ⟨w1.heap.size, 0, none⟩)] 80) = w5 := ⟨_, rfl⟩
    have hb5 : Below w3.heap.size w3 w5 := by rw [← hw5]; exact (((Below.refl _ _).alloc (Nat.le_refl _) _).alloc (by simp) _).alloc (by simp; omega) _
    have hs5 : w5.heap.size = w3.heap.size + 3 := by rw [← hw5]; simp
    have HSD : Hid (Sides w L w3.heap.size w1.heap.size [] [] (fun _ => 0) w5) := by
      refine ⟨(fun v _ hm => absurd hm List.not_mem_nil), (fun p hp => absurd hp List.not_mem_nil), ?_, ?_, HB3.out.trans (hb5.mono hz3), HNet.out.keep hb5, (HT.out.keep HB3.out).keep hb5⟩
      · rw [← hw5]
        have hr := World.rowIs_made w3 (.int .i64 0) L.length 2
        exact ((hr.of_block (Below.heap_alloc _ _ _ hr.lt)).of_block (Below.heap_alloc _ _ _ (by simp; omega)))
      · subst hw5; go_simp
    have HPI : Hid (PartIn w5 (w3.heap.size + 2) w1.heap.size L.length (rowM L)) := by
      refine ⟨?_, HNet.out.keep hb5, (HT.out.keep HB3.out).keep hb5⟩
      subst hw5; go_simp
    have HSQ := Lib.hid (parts1_vis (fun k => k = w3.heap.size) 8 (w3.heap.size + 2) w1.heap.size L.length (rowM L) w5 HLT.out hzz.2 HSY.out HPI.out ⟨by omega, by omega, by omega⟩)
    rw [HNE.out] at HSQ
    simp only [Nat.add_assoc, Nat.reduceAdd] at *
    rw [hw5]
    clear hw5 hb5 HPI HNet HB3 HB1 hnb hmk hn0 HSY
    refine (wpIn_wide (n := 9)).1 ?_
    refine wpIn_rangeFunc_visH rfl (by omega) (gf := 60) (lb := #[.pointer (some ⟨w3.heap.size + 2, 0, none⟩)]) rfl trivial (enters_of Tryd.func60 (by kernel_rfl) rfl)
      HSQ.out (fun k hk => by rw [hk]; omega) (fun _ => rfl)
      (fun pre W => ∃ f, Sides w L w3.heap.size w1.heap.size pre [] f W)
      (fun _ _ _ => False)
      (fun s A B hs hb => by obtain ⟨f, hs⟩ := hs; exact ⟨f, hs.later hb (by omega) (by omega) (by omega)⟩)
      (fun _ _ _ _ _ h _ => h)
      ⟨_, HSD.out⟩
      ?a1 ?assign ?body ?done ?stop
    case assign =>
      intro l x W K hK
      simp only [encM]
      gi_wp2
      exact hK
    case body =>
      rintro l pre x W ⟨r, hl⟩ ⟨f, hsd⟩ hsz ⟨hxn, hxh, -⟩
      have hcl := compN_lt (nearB L) L.length x
      have hcn := compN_ne (A := nearB L) hzz.2 hxn
      have hlx : leastM (compN (nearB L) L.length x) = x := hxh
      have HSD := Lib.hid hsd
      have HL := Lib.hid hl
      have HXH := Lib.hid hxh
      clear hsd hl hxh
      gi_wp2_with fail
      refine ⟨trivial, ?_⟩
      refine (CallsIn.inRound l (callsIn_wide.2 (least_any _ _ hcl hcn HSD.out.tab))).mono ?_
      rintro e w7 ⟨rfl, rfl⟩
      rw [hlx]
      gi_wp2_with fail
      refine ⟨trivial, ?_⟩
      refine (CallsIn.inRound l (callsIn_wide.2 (visits_any _ _ _ _))).mono ?_
      rintro e w' ⟨rfl, rfl⟩
      obtain ⟨w8, hw8⟩ : ∃ w8, ((W.alloc (.cells #[.pointer (some ⟨w1.heap.size, 0, none⟩)] 80)).alloc (.cells #[.int .i64 (x : Int)] 2)).alloc (.cells #[.int .u32 ((compN (nearB L) L.length x : Nat) : Int)] 44) = w8 := ⟨_, rfl⟩
      have hb8 : Below W.heap.size W w8 := by rw [← hw8]; exact (((Below.refl _ _).alloc (Nat.le_refl _) _).alloc (by simp) _).alloc (by simp; omega) _
      have hs8 : w8.heap.size = W.heap.size + 3 := by rw [← hw8]; simp
      have HSD8 : Hid (Sides w L w3.heap.size w1.heap.size pre [] f w8) := HSD.out.later hb8 (by omega) (by omega) (by omega)
      have HV : Hid (VisIn w8 (W.heap.size + 1) (W.heap.size + 2) W.heap.size w1.heap.size L.length (rowM L) x (compN (nearB L) L.length x)) := by
        refine ⟨?_, ?_, ?_, HSD8.out.net⟩
        · subst hw8; go_simp
        · subst hw8; go_simp
        · subst hw8; go_simp
      have hl8 : w8.heap[l]? = some (.loop r) := (hb8.block _ (Array.getElem?_eq_some_iff.1 HL.out).1).trans HL.out
      have HL8 := Lib.hid hl8
      have HSQ2 := Lib.hid (visits1_seq (fun k => k = w3.heap.size) 6 (W.heap.size + 1) (W.heap.size + 2) W.heap.size w1.heap.size L.length (rowM L) x (compN (nearB L) L.length x) w8 HLT.out hcl (by omega) (compN_self hzz.2 hxn) HV.out ⟨by omega, by omega, by omega, by omega⟩ (fun k hk => by rw [hk]; omega))
      rw [HNE.out] at HSQ2
      have HKB8 : Hid (KeepsBut (fun k => k = w3.heap.size) W w8) := KeepsBut.below hb8
      have HBS := Lib.hid (bitS_lt hcl)
      rw [hw8]
      clear hw8 hb8 HV HSD HL hl8
      gi_wp2_with fail
      refine wpIn_rangeFunc_visN (l₀ := l) rfl HL8.out (by omega) (gf := 63) (lb := #[.pointer (some ⟨W.heap.size + 1, 0, none⟩), .pointer (some ⟨W.heap.size + 2, 0, none⟩), .pointer (some ⟨W.heap.size, 0, none⟩)]) rfl trivial (enters_of Tryd.func63 (by kernel_rfl) rfl)
        (HSQ2.out.inRound l) (fun k hk => by rw [hk]; omega) (fun _ => rfl)
        (fun ps W' => (∃ f', Sides w L w3.heap.size w1.heap.size pre ps f' W') ∧ KeepsBut (fun k => k = w3.heap.size) W W')
        (fun s A B hs hb => by obtain ⟨⟨f', hs⟩, hk⟩ := hs; exact ⟨⟨f', hs.later hb (by omega) (by omega) (by omega)⟩, ⟨Nat.le_trans hk.1 hb.size, fun k hkW hn => (hb.block k (by omega)).trans (hk.2 k hkW hn)⟩⟩)
        ⟨⟨f, HSD8.out⟩, HKB8.out⟩
        ?a2 ?assign2 ?body2 ?done2
      case assign2 =>
        intro l2 p W' K hK
        simp only [encP]
        gi_wp2
        exact hK
      case body2 =>
        rintro l2 ps ⟨u, d⟩ W' ⟨⟨f', hs'⟩, hk'⟩ hsz' ⟨hat, hd16, -⟩
        dsimp only at hat hd16
        obtain ⟨hun, hhu, hsv⟩ := side_at HG.out hxn HXH.out ((atD_part HG.out hxn d u).1 hat)
        have hcf := hs'.row.frozen u
        have hcc := hs'.row.cell hun
        have hbx := hs'.box
        have HS' := Lib.hid (hs'.set (u := u) (d := d) (by omega) (by omega) hz3)
        have HK' := Lib.hid hk'
        have hsr := sideV_rng L u
        obtain ⟨Sv, hSv⟩ : ∃ Sv, Sv = sideV L u := ⟨_, rfl⟩
        rw [← hSv] at hsv HS'
        have hm2 : ((d : Int) % 2) = Sv := hsv.symm
        have hm1 : Int.tmod (d : Int) 2 = Sv := by rw [Int.tmod_eq_emod_of_nonneg (by omega)]; exact hm2
        obtain ⟨F0, hF0⟩ : ∃ F0, F0 = f' u := ⟨_, rfl⟩
        rw [← hF0] at hcc
        clear hs' hk' hat hSv hF0 hsv
        gi_wp2
        exact ⟨KeepsBut.setCell _ _ _ rfl, ⟨_, HS'.out⟩, HK'.out.trans (KeepsBut.setCell _ _ _ rfl)⟩
      case done2 =>
        rintro qs W' rfl ⟨⟨f', hs'⟩, hk'⟩
        have HF : Hid (Sides w L w3.heap.size w1.heap.size (pre ++ [x]) [] f' W') := by
          refine ⟨fun v hv hm => ?_, (fun p hp => absurd hp List.not_mem_nil), hs'.row, hs'.box, hs'.bel, hs'.net, hs'.tab⟩
          rcases List.mem_append.1 hm with hm | hm
          · exact hs'.done v hv hm
          · rw [List.mem_singleton] at hm
            obtain ⟨_, hr, _, _⟩ := headN_spec (nearB_symm HG.out) hzz.2 hv
            rw [hm] at hr
            obtain ⟨d, hd⟩ := reach_at.1 (hr.symm (nearB_symm HG.out))
            have hd' := (atD_part HG.out hxn d v).2 hd
            exact hs'.seen (v, d) ((visTo_mem HBS.out).2 ⟨by have := atD_lt HBS.out hd'; show d < 17; omega, hd'⟩)
        have HK' := Lib.hid hk'
        clear hs' hk'
        gi_wp2
        exact ⟨HK'.out, _, HF.out⟩
    case done =>
      rintro D ys W rfl ⟨f, hsd⟩ hD hK
      have HOR : Hid (OwnRow 2 W w.heap.size (.slice (some ⟨w3.heap.size, 0, none⟩) L.length L.length) (sideL L)) := by
        refine OwnRow.of_rowIs hsd.row hz3 (sideL_len L) (by unfold maxLen; omega) (fun y hy => ?_) (fun i hi => ?_)
        · unfold sideL at hy
          rw [List.mem_map] at hy
          obtain ⟨u, _, rfl⟩ := hy
          have := sideV_rng L u
          unfold I64; omega
        · rw [sideL_nth hi, hsd.done i hi]
          obtain ⟨j, hj, e⟩ := head_all HG.out hi
          rw [e]
          unfold hdN
          unfold hdM at hj
          rw [List.getD_eq_getElem?_getD, List.getElem?_eq_getElem hj]
          exact List.getElem_mem hj
      have hbx := hsd.box
      have HNT := Lib.hid hsd.net
      have HBL := Lib.hid hsd.bel
      have HK := Lib.hid hK
      clear hsd hK
      go_wp2_with fail
      refine (apart_any w1.heap.size L _ _ HG.out HNT.out HOR.out.row).mono ?_
      rintro e w9 ⟨rfl, hb9⟩
      have hbx9 := cell_keep hb9 hbx
      have HK9 : Hid (w9.heap[D]? = some (.deferred (some []))) := (hb9.block _ (Array.getElem?_eq_some_iff.1 HK.out).1).trans HK.out
      have HO9 := Lib.hid (HOR.out.keep hb9)
      have HB9 : Hid (Below w.heap.size w w9) := HBL.out.trans (hb9.mono HBL.out.size)
      have hD9 : D < w9.heap.size := (Array.getElem?_eq_some_iff.1 HK9.out).1
      clear hb9 hbx HOR HK
      by_cases hap : ApartP L
      · have HE : Hid (soB L = true) := soB_yes HG.out hap
        rw [apart_yes hap]
        clear hap
        go_wp2
        refine ⟨by simp, .inl ⟨_, _, rfl, run_takeDeferred HK9.out, ?_⟩⟩
        refine ⟨.tuple #[.slice (some ⟨w3.heap.size, 0, none⟩) L.length L.length, .bool true], by simp [results, Tryd.results7, go_sem], ?_⟩
        rw [soL_yes HE.out, HE.out]
        have hbp := below_put w9 D (.deferred none) (B := w3.heap.size + 1) (by omega) hD9
        refine ⟨_, _, _, rfl, HO9.out.kept (fun k cs fr h => ?_), HB9.out.trans (hbp.mono (by omega))⟩
        rw [World.putObj_heap_other (fun e => ?_)]
        · exact h
        · subst e; rw [HK9.out] at h; cases h
      · have HE : Hid (soB L = false) := soB_no (fun hh => hap hh.2)
        rw [apart_no hap]
        clear hap
        go_wp2
        refine ⟨by simp, .inl ⟨_, _, rfl, run_takeDeferred HK9.out, ?_⟩⟩
        refine ⟨.tuple #[.slice none 0 0, .bool false], by simp [results, Tryd.results7, go_sem], ?_⟩
        rw [soL_no HE.out, HE.out]
        exact ⟨_, _, _, rfl, ⟨by simp, Nat.zero_le _, .inl ⟨rfl, rfl⟩⟩, HB9.out.trans (below_put w9 D _ (by omega) hD9)⟩
    case stop =>
      rintro D c pre W _ h _ _
      exact h.elim
  · have HE : Hid (soB L = false) := soB_no (fun hh => hG hh.1)
    rw [decide_eq_false hG, netArr_no hG]
    clear hG
    go_wp2_with (refine wpList_store_net rfl 47 (.tmp 4) (.tmp 13) rfl w1.heap.size 0 (fun _ => 0) rfl rfl Tryd.sizeNet 0 (fun _ => 0) hnb ?_; intro w3 hp; have HB3 : Hid (Below w.heap.size w w3) := (HB1.out.alloc hz _).trans (hp.below.mono hz); clear hp)
    refine ⟨.tuple #[.slice none 0 0, .bool false], by simp [results, Tryd.results7, go_sem], ?_⟩
    rw [soL_no HE.out, HE.out]
    exact ⟨_, _, _, rfl, ⟨by simp, Nat.zero_le _, .inl ⟨rfl, rfl⟩⟩, HB3.out⟩

end Go.Proofs.YtnjkhiheapmlmaaDoor
