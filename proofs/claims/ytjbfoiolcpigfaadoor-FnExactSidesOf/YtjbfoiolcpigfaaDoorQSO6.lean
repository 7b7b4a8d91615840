/- The texts SO6, LawSidesOf, joined. -/
import Derived.Test.YtjbfoiolcpigfaaDoorQSO1
import Derived.Test.YtjbfoiolcpigfaaDoorQSO3
import Derived.Test.YtjbfoiolcpigfaaDoorQY1
import Derived.Test.YtjbfoiolcpigfaaDoorZ4
import Derived.Test.YtjbfoiolcpigfaaDoorQMark
import Derived.Deep.RegionHeld3

/- Walks: SidesOf, of the program. -/
namespace Go.Proofs.YtjbfoiolcpigfaaDoor
open Go.RowKit Go.Shelf
attribute [local go_sem] Oper.semAt_some

theorem wk_within {A : Nat → Nat → Bool} {S S' : Nat → Bool} (hsub : ∀ u, S' u = true → S u = true) (hcl : ∀ a b, S' a = true → S b = true → A a b = true → S' b = true) {v : Nat} (hv : S' v = true) : ∀ (k u : Nat), Wk A S' v k u ↔ Wk A S v k u := by
  intro k
  induction k with
  | zero => intro u; exact ⟨fun h => ⟨h.1, hsub _ hv⟩, fun h => ⟨h.1, hv⟩⟩
  | succ k ih =>
    intro u
    constructor
    · rintro ⟨hs, w, hw, ha⟩; exact ⟨hsub _ hs, w, (ih w).1 hw, ha⟩
    · rintro ⟨hs, w, hw, ha⟩; have h1 := (ih w).2 hw; exact ⟨hcl w u (wk_in h1) hs ha, w, h1, ha⟩
theorem atD_part {L : List (List Int)} (hG : GraphP L) {x : Nat} (hx : x < L.length) (d u : Nat) : AtD (nearB L) (bitS (compN (nearB L) L.length x)) x d u ↔ AtD (nearB L) (allS L.length) x d u := by
  have hw := wk_within (A := nearB L) (S := allS L.length) (S' := bitS (compN (nearB L) L.length x)) (fun u hu => ((compN_bit hG.1.2 _ _).1 hu).mem)
    (fun a b ha hb hab => by
      have h1 := (compN_bit hG.1.2 _ _).1 ha
      exact (compN_bit hG.1.2 _ _).2 (h1.trans ⟨1, hb, a, ⟨rfl, h1.mem⟩, hab⟩)) (v := x) (compN_self hG.1.2 hx)
  unfold AtD
  rw [hw d u]
  constructor
  · rintro ⟨h1, h2⟩; exact ⟨h1, fun e he h => h2 e he ((hw e u).2 h)⟩
  · rintro ⟨h1, h2⟩; exact ⟨h1, fun e he h => h2 e he ((hw e u).1 h)⟩
theorem side_at {L : List (List Int)} (hG : GraphP L) {x d u : Nat} (_hx : x < L.length) (hh : headN (nearB L) L.length x = x) (h : AtD (nearB L) (allS L.length) x d u) : u < L.length ∧ headN (nearB L) L.length u = x ∧ sideV L u = (d : Int) % 2 := by
  have hr : Reach (nearB L) (allS L.length) x u := reach_at.2 ⟨d, h⟩
  have h1 : headN (nearB L) L.length u = x := by rw [headN_eq (nearB_symm hG) hG.1.2 hr, hh]
  refine ⟨(allS_iff _ _).1 hr.mem, h1, ?_⟩
  unfold sideV
  rw [h1, dOf_at h]

/-- The sides, half done: those of the parts that begin at one of hs. -/
structure Sides (w : World) (L : List (List Int)) (g bn : Nat) (hs : List Nat) (ps : List (Nat × Nat)) (f : Nat → Int) (W : World) : Prop where
  done : ∀ v, v < L.length → headN (nearB L) L.length v ∈ hs → f v = sideV L v
  seen : ∀ p ∈ ps, f p.1 = sideV L p.1
  row : W.rowIs g 2 L.length (fun j => .int .i64 (f j))
  box : W.cell? ⟨g + 1, 0, none⟩ = some (.slice (some ⟨g, 0, none⟩) L.length L.length)
  bel : Below w.heap.size w W
  net : NetAt W bn L.length (rowM L)
  tab : TabAt W
theorem Sides.later {w : World} {L : List (List Int)} {g bn : Nat} {hs : List Nat} {ps : List (Nat × Nat)} {f : Nat → Int} {A B : World} {N : Nat} (h : Sides w L g bn hs ps f A) (hb : Below N A B) (hg : g + 1 < N) (hbn : bn < N) (hw : w.heap.size ≤ N) : Sides w L g bn hs ps f B :=
  ⟨h.done, h.seen, h.row.of_block (hb.block _ (by omega)), (hb.cell (by simp; omega)).trans h.box, h.bel.trans (hb.mono hw), ⟨(hb.cell (by simp; omega)).trans h.net.1, fun i hi => (hb.cell (by simp; omega)).trans (h.net.2 i hi)⟩, fun i hi => (hb.cell (by simp; omega)).trans (h.tab i hi)⟩
theorem Sides.set {w : World} {L : List (List Int)} {g bn : Nat} {hs : List Nat} {ps : List (Nat × Nat)} {f : Nat → Int} {A : World} {u d : Nat} (h : Sides w L g bn hs ps f A) (hbn : bn < g) (h0 : 0 < g) (hw : w.heap.size ≤ g) : Sides w L g bn hs (ps ++ [(u, d)]) (fun j => if j = u then sideV L u else f j) (A.setCell ⟨g, u, none⟩ (.int .i64 (sideV L u))) := by
  refine ⟨fun v hv hm => ?_, fun p hp => ?_, (h.row.set u _).congr (fun j hj => ?_), ?_, h.bel.setCell (p := ⟨g, u, none⟩) hw _, ⟨?_, fun i hi => ?_⟩, fun i hi => ?_⟩
  · by_cases e : v = u
    · subst e; simp
    · simp only [e, if_false]; exact h.done v hv hm
  · by_cases e : p.1 = u
    · simp only [e, if_true]
    · simp only [e, if_false]
      rcases List.mem_append.1 hp with hp | hp
      · exact h.seen p hp
      · simp at hp; rw [hp] at e; exact absurd rfl e
  · by_cases e : j = u
    · subst e; simp
    · simp only [e, if_false]
  · rw [World.cell?_setCell_other _ _ _ _ (by intro e; simp at e)]; exact h.box
  · rw [World.cell?_setCell_other _ _ _ _ (by intro e; simp only [Addr.mk.injEq] at e; omega)]; exact h.net.1
  · rw [World.cell?_setCell_other _ _ _ _ (by intro e; simp only [Addr.mk.injEq] at e; omega)]; exact h.net.2 i hi
  · rw [World.cell?_setCell_other _ _ _ _ (by intro e; simp only [Addr.mk.injEq] at e; omega)]; exact h.tab i hi

open Classical in
theorem apart_yes {L : List (List Int)} (h : ApartP L) : decide (ApartP L) = true := decide_eq_true h
open Classical in
theorem apart_no {L : List (List Int)} (h : ¬ ApartP L) : decide (ApartP L) = false := decide_eq_false h

set_option maxHeartbeats 8000000 in
set_option maxRecDepth 100000 in
theorem implSidesOf_any (v : Value) (L : List (List Int)) (w : World) (h : GridAt w v L) (hT : TabAt w) : Calls Tryd.prog 44 #[.agg #[v]] w (GaveRB w (soL L) (soB L)) := by
  obtain ⟨a0, c0, rfl⟩ := h.slice
  have ha : Below w.heap.size w (w.alloc (.cells #[.slice a0 L.length c0] 29)) := (Below.refl _ _).alloc (Nat.le_refl _) _
  have hk := h.keep ha
  have HA := Lib.hid ha
  have h0w : 0 < w.heap.size := block_lt_of_cell (hT 0 (by decide))
  have HT := Lib.hid hT
  clear ha hT
  refine calls_marks Tryd.func44 rfl ?_
  simp only [Tryd.ntmps44, List.size_toArray, List.length_cons, List.length_nil, Nat.reduceAdd, Nat.reduceSub, Array.replicate_succ, Array.replicate_zero, List.push_toArray, List.append_toArray, List.nil_append, List.cons_append]
  go_wp2_with fail
  refine (netOf_any _ _ _ hk).mono ?_
  rintro e w1 ⟨rfl, hb1⟩
  have HB1 : Hid (Below w.heap.size w w1) := HA.out.trans (hb1.mono (by simp))
  have hz : w.heap.size ≤ w1.heap.size := HB1.out.size
  have hnb := netBlk_new w1 0 (fun _ => 0)
  clear hb1 hk h HA
  by_cases hG : GraphP L
  · have hzz := hG.1
    have HLT : Hid (∀ i, rowM L i < 65536) := fun i => rowM_lt (by omega) (fun v hv => (hG.2.1 v hv).1) i
    have HNE := Lib.hid (nearM_eq hG)
    have HSY : Hid (∀ a b, nearM (rowM L) a b = nearM (rowM L) b a) := by rw [HNE.out]; exact nearB_symm hG
    have HG := Lib.hid hG
    have hmk := run_make_row' (P := Tryd.prog) 36 2 (.int .i64 0) 8 Tryd.underlying36 Tryd.infoI rfl .i64 .i64 L.length (by omega) (by omega)
    rw [decide_eq_true hG, netArr_yes hG]
    clear hG
    go_wp2_with (first | (refine wpList_store_net rfl 74 (.tmp 4) (.tmp 13) rfl w1.heap.size L.length (rowM L) rfl rfl Tryd.sizeNet 0 (fun _ => 0) hnb ?_; intro w3 hp; have hn0 := hp.net.at.1; have HNet := Lib.hid hp.net.at; have HB3 : Hid (Below w.heap.size w w3) := (HB1.out.alloc hz _).trans (hp.below.mono hz); clear hp) | (go_at_call 78; refine (parts_any _ _).mono ?_; rintro e w' ⟨rfl, rfl⟩))
    have hz3 : w.heap.size ≤ w3.heap.size := HB3.out.size
    have hbn : w1.heap.size < w3.heap.size := block_lt_of_cell HNet.out.1
    obtain ⟨w5, hw5⟩ : ∃ w5, ((w3.alloc (.cells (madeCells #[.int .i64 0] L.length) 2)).alloc (.cells #[.slice (some ⟨w3.heap.size, 0, none⟩) L.length L.length] 36)).alloc (.cells #[.pointer (some ⟨w1.heap.size, 0, none⟩)] 113) = w5 := ⟨_, rfl⟩
    have hb5 : Below w3.heap.size w3 w5 := by rw [← hw5]; exact (((Below.refl _ _).alloc (Nat.le_refl _) _).alloc (by simp) _).alloc (by simp; omega) _
    have hs5 : w5.heap.size = w3.heap.size + 3 := by rw [← hw5]; simp
    have HSD : Hid (Sides w L w3.heap.size w1.heap.size [] [] (fun _ => 0) w5) := by
      refine ⟨(fun v _ hm => absurd hm List.not_mem_nil), (fun p hp => absurd hp List.not_mem_nil), ?_, ?_, HB3.out.trans (hb5.mono hz3), HNet.out.keep hb5, (HT.out.keep HB3.out).keep hb5⟩
      · rw [← hw5]
        have hr := World.rowIs_made w3 (.int .i64 0) L.length 2
        exact ((hr.of_block (Below.heap_alloc _ _ _ hr.lt)).of_block (Below.heap_alloc _ _ _ (by simp; omega)))
      · subst hw5; go_simp
    have HPI : Hid (PartIn w5 (w3.heap.size + 2) w1.heap.size L.length (rowM L)) := by
      refine ⟨?_, HNet.out.keep hb5, (HT.out.keep HB3.out).keep hb5⟩
      subst hw5; go_simp
    have HSQ := Lib.hid (parts1_vis (fun k => k = w3.heap.size) 8 (w3.heap.size + 2) w1.heap.size L.length (rowM L) w5 HLT.out hzz.2 HSY.out HPI.out ⟨by omega, by omega, by omega⟩)
    rw [HNE.out] at HSQ
    simp only [Nat.add_assoc, Nat.reduceAdd] at *
    rw [hw5]
    clear hw5 hb5 HPI HNet HB3 HB1 hnb hmk hn0 HSY
    refine (wpIn_wide (n := 9)).1 ?_
    refine wpIn_rangeFunc_visH rfl (by omega) (gf := 123) (lb := #[.pointer (some ⟨w3.heap.size + 2, 0, none⟩)]) rfl trivial (enters_of Tryd.func123 (by kernel_rfl) rfl)
      HSQ.out (fun k hk => by rw [hk]; omega) (fun _ => rfl)
      (fun pre W => ∃ f, Sides w L w3.heap.size w1.heap.size pre [] f W)
      (fun _ _ _ => False)
      (fun s A B hs hb => by obtain ⟨f, hs⟩ := hs; exact ⟨f, hs.later hb (by omega) (by omega) (by omega)⟩)
      (fun _ _ _ _ _ h _ => h)
      ⟨_, HSD.out⟩
      ?a1 ?assign ?body ?done ?stop
    case assign =>
      intro l x W K hK
      simp only [encM]
      gi_wp2
      exact hK
    case body =>
      rintro l pre x W ⟨r, hl⟩ ⟨f, hsd⟩ hsz ⟨hxn, hxh, -⟩
      have hcl := compN_lt (nearB L) L.length x
      have hcn := compN_ne (A := nearB L) hzz.2 hxn
      have hlx : leastM (compN (nearB L) L.length x) = x := hxh
      have HSD := Lib.hid hsd
      have HL := Lib.hid hl
      have HXH := Lib.hid hxh
      clear hsd hl hxh
      gi_wp2_with fail
      refine ⟨trivial, ?_⟩
      refine (CallsIn.inRound l (callsIn_wide.2 (least_any _ _ hcl hcn HSD.out.tab))).mono ?_
      rintro e w7 ⟨rfl, rfl⟩
      rw [hlx]
      gi_wp2_with fail
      refine ⟨trivial, ?_⟩
      refine (CallsIn.inRound l (callsIn_wide.2 (visits_any _ _ _ _))).mono ?_
      rintro e w' ⟨rfl, rfl⟩
      obtain ⟨w8, hw8⟩ : ∃ w8, ((W.alloc (.cells #[.pointer (some ⟨w1.heap.size, 0, none⟩)] 113)).alloc (.cells #[.int .i64 (x : Int)] 2)).alloc (.cells #[.int .u32 ((compN (nearB L) L.length x : Nat) : Int)] 71) = w8 := ⟨_, rfl⟩
      have hb8 : Below W.heap.size W w8 := by rw [← hw8]; exact (((Below.refl _ _).alloc (Nat.le_refl _) _).alloc (by simp) _).alloc (by simp; omega) _
      have hs8 : w8.heap.size = W.heap.size + 3 := by rw [← hw8]; simp
      have HSD8 : Hid (Sides w L w3.heap.size w1.heap.size pre [] f w8) := HSD.out.later hb8 (by omega) (by omega) (by omega)
      have HV : Hid (VisIn w8 (W.heap.size + 1) (W.heap.size + 2) W.heap.size w1.heap.size L.length (rowM L) x (compN (nearB L) L.length x)) := by
        refine ⟨?_, ?_, ?_, HSD8.out.net⟩
        · subst hw8; go_simp
        · subst hw8; go_simp
        · subst hw8; go_simp
      have hl8 : w8.heap[l]? = some (.loop r) := (hb8.block _ (Array.getElem?_eq_some_iff.1 HL.out).1).trans HL.out
      have HL8 := Lib.hid hl8
      have HSQ2 := Lib.hid (visits1_seq (fun k => k = w3.heap.size) 6 (W.heap.size + 1) (W.heap.size + 2) W.heap.size w1.heap.size L.length (rowM L) x (compN (nearB L) L.length x) w8 HLT.out hcl (by omega) (compN_self hzz.2 hxn) HV.out ⟨by omega, by omega, by omega, by omega⟩ (fun k hk => by rw [hk]; omega))
      rw [HNE.out] at HSQ2
      have HKB8 : Hid (KeepsBut (fun k => k = w3.heap.size) W w8) := KeepsBut.below hb8
      have HBS := Lib.hid (bitS_lt hcl)
      rw [hw8]
      clear hw8 hb8 HV HSD HL hl8
      gi_wp2_with fail
      refine wpIn_rangeFunc_visN (l₀ := l) rfl HL8.out (by omega) (gf := 129) (lb := #[.pointer (some ⟨W.heap.size + 1, 0, none⟩), .pointer (some ⟨W.heap.size + 2, 0, none⟩), .pointer (some ⟨W.heap.size, 0, none⟩)]) rfl trivial (enters_of Tryd.func129 (by kernel_rfl) rfl)
        (HSQ2.out.inRound l) (fun k hk => by rw [hk]; omega) (fun _ => rfl)
        (fun ps W' => (∃ f', Sides w L w3.heap.size w1.heap.size pre ps f' W') ∧ KeepsBut (fun k => k = w3.heap.size) W W')
        (fun s A B hs hb => by obtain ⟨⟨f', hs⟩, hk⟩ := hs; exact ⟨⟨f', hs.later hb (by omega) (by omega) (by omega)⟩, ⟨Nat.le_trans hk.1 hb.size, fun k hkW hn => (hb.block k (by omega)).trans (hk.2 k hkW hn)⟩⟩)
        ⟨⟨f, HSD8.out⟩, HKB8.out⟩
        ?a2 ?assign2 ?body2 ?done2
      case assign2 =>
        intro l2 p W' K hK
        simp only [encP]
        gi_wp2
        exact hK
      case body2 =>
        rintro l2 ps ⟨u, d⟩ W' ⟨⟨f', hs'⟩, hk'⟩ hsz' ⟨hat, hd16, -⟩
        dsimp only at hat hd16
        obtain ⟨hun, hhu, hsv⟩ := side_at HG.out hxn HXH.out ((atD_part HG.out hxn d u).1 hat)
        have hcf := hs'.row.frozen u
        have hcc := hs'.row.cell hun
        have hbx := hs'.box
        have HS' := Lib.hid (hs'.set (u := u) (d := d) (by omega) (by omega) hz3)
        have HK' := Lib.hid hk'
        have hsr := sideV_rng L u
        obtain ⟨Sv, hSv⟩ : ∃ Sv, Sv = sideV L u := ⟨_, rfl⟩
        rw [← hSv] at hsv HS'
        have hm2 : ((d : Int) % 2) = Sv := hsv.symm
        have hm1 : Int.tmod (d : Int) 2 = Sv := by rw [Int.tmod_eq_emod_of_nonneg (by omega)]; exact hm2
        obtain ⟨F0, hF0⟩ : ∃ F0, F0 = f' u := ⟨_, rfl⟩
        rw [← hF0] at hcc
        clear hs' hk' hat hSv hF0 hsv
        gi_wp2
        exact ⟨KeepsBut.setCell _ _ _ rfl, ⟨_, HS'.out⟩, HK'.out.trans (KeepsBut.setCell _ _ _ rfl)⟩
      case done2 =>
        rintro qs W' rfl ⟨⟨f', hs'⟩, hk'⟩
        have HF : Hid (Sides w L w3.heap.size w1.heap.size (pre ++ [x]) [] f' W') := by
          refine ⟨fun v hv hm => ?_, (fun p hp => absurd hp List.not_mem_nil), hs'.row, hs'.box, hs'.bel, hs'.net, hs'.tab⟩
          rcases List.mem_append.1 hm with hm | hm
          · exact hs'.done v hv hm
          · rw [List.mem_singleton] at hm
            obtain ⟨_, hr, _, _⟩ := headN_spec (nearB_symm HG.out) hzz.2 hv
            rw [hm] at hr
            obtain ⟨d, hd⟩ := reach_at.1 (hr.symm (nearB_symm HG.out))
            have hd' := (atD_part HG.out hxn d v).2 hd
            exact hs'.seen (v, d) ((visTo_mem HBS.out).2 ⟨by have := atD_lt HBS.out hd'; show d < 17; omega, hd'⟩)
        have HK' := Lib.hid hk'
        clear hs' hk'
        gi_wp2
        exact ⟨HK'.out, _, HF.out⟩
    case done =>
      rintro D ys W rfl ⟨f, hsd⟩ hD hK
      have HOR : Hid (OwnRow 2 W w.heap.size (.slice (some ⟨w3.heap.size, 0, none⟩) L.length L.length) (sideL L)) := by
        refine OwnRow.of_rowIs hsd.row hz3 (sideL_len L) (by unfold maxLen; omega) (fun y hy => ?_) (fun i hi => ?_)
        · unfold sideL at hy
          rw [List.mem_map] at hy
          obtain ⟨u, _, rfl⟩ := hy
          have := sideV_rng L u
          unfold I64; omega
        · rw [sideL_nth hi, hsd.done i hi]
          obtain ⟨j, hj, e⟩ := head_all HG.out hi
          rw [e]
          unfold hdN
          unfold hdM at hj
          rw [List.getD_eq_getElem?_getD, List.getElem?_eq_getElem hj]
          exact List.getElem_mem hj
      have hbx := hsd.box
      have HNT := Lib.hid hsd.net
      have HBL := Lib.hid hsd.bel
      have HK := Lib.hid hK
      clear hsd hK
      go_wp2_with fail
      refine (apart_any w1.heap.size L _ _ HG.out HNT.out HOR.out.row).mono ?_
      rintro e w9 ⟨rfl, hb9⟩
      have hbx9 := cell_keep hb9 hbx
      have HK9 : Hid (w9.heap[D]? = some (.deferred (some []))) := (hb9.block _ (Array.getElem?_eq_some_iff.1 HK.out).1).trans HK.out
      have HO9 := Lib.hid (HOR.out.keep hb9)
      have HB9 : Hid (Below w.heap.size w w9) := HBL.out.trans (hb9.mono HBL.out.size)
      have hD9 : D < w9.heap.size := (Array.getElem?_eq_some_iff.1 HK9.out).1
      clear hb9 hbx HOR HK
      by_cases hap : ApartP L
      · have HE : Hid (soB L = true) := soB_yes HG.out hap
        rw [apart_yes hap]
        clear hap
        go_wp2
        refine ⟨by simp, .inl ⟨_, _, rfl, run_takeDeferred HK9.out, ?_⟩⟩
        refine ⟨.tuple #[.slice (some ⟨w3.heap.size, 0, none⟩) L.length L.length, .bool true], by simp [results, Tryd.results44, go_sem], ?_⟩
        rw [soL_yes HE.out, HE.out]
        have hbp := below_put w9 D (.deferred none) (B := w3.heap.size + 1) (by omega) hD9
        refine ⟨_, _, _, rfl, HO9.out.kept (fun k cs fr h => ?_), HB9.out.trans (hbp.mono (by omega))⟩
        rw [World.putObj_heap_other (fun e => ?_)]
        · exact h
        · subst e; rw [HK9.out] at h; cases h
      · have HE : Hid (soB L = false) := soB_no (fun hh => hap hh.2)
        rw [apart_no hap]
        clear hap
        go_wp2
        refine ⟨by simp, .inl ⟨_, _, rfl, run_takeDeferred HK9.out, ?_⟩⟩
        refine ⟨.tuple #[.slice none 0 0, .bool false], by simp [results, Tryd.results44, go_sem], ?_⟩
        rw [soL_no HE.out, HE.out]
        exact ⟨_, _, _, rfl, ⟨by simp, Nat.zero_le _, .inl ⟨rfl, rfl⟩⟩, HB9.out.trans (below_put w9 D _ (by omega) hD9)⟩
    case stop =>
      rintro D c pre W _ h _ _
      exact h.elim
  · have HE : Hid (soB L = false) := soB_no (fun hh => hG hh.1)
    rw [decide_eq_false hG, netArr_no hG]
    clear hG
    go_wp2_with (refine wpList_store_net rfl 74 (.tmp 4) (.tmp 13) rfl w1.heap.size 0 (fun _ => 0) rfl rfl Tryd.sizeNet 0 (fun _ => 0) hnb ?_; intro w3 hp; have HB3 : Hid (Below w.heap.size w w3) := (HB1.out.alloc hz _).trans (hp.below.mono hz); clear hp)
    refine ⟨.tuple #[.slice none 0 0, .bool false], by simp [results, Tryd.results44, go_sem], ?_⟩
    rw [soL_no HE.out, HE.out]
    exact ⟨_, _, _, rfl, ⟨by simp, Nat.zero_le _, .inl ⟨rfl, rfl⟩⟩, HB3.out⟩

end Go.Proofs.YtjbfoiolcpigfaaDoor

/- The walk of the law FnExactSidesOf, written by program (tools/lawgen2.py) out of the contracts. -/
namespace Go.Proofs.YtjbfoiolcpigfaaDoor
open Go.RowKit

set_option maxHeartbeats 4000000 in
set_option maxRecDepth 100000 in
theorem lawSidesOf (v0 : Value) (L0 : List (List Int)) (w : World) (h0 : GridAt w v0 L0) (hT : TabAt w) :
    Calls Tryd.prog 12 #[.agg #[v0]] w fun e w' => e = .returned (.bool true) ∧ Below w.heap.size w w' := by
  obtain ⟨a0, c0, rfl⟩ := h0.slice
  have hsr0 := soL_small L0
  obtain ⟨E0, hE0⟩ : ∃ x, x = soL L0 := ⟨_, rfl⟩
  rw [← hE0] at hsr0
  have HEQ0 := Lib.hid hE0
  clear hE0
  obtain ⟨E1, hE1⟩ : ∃ x, x = soB L0 := ⟨_, rfl⟩
  have HEQ1 := Lib.hid hE1
  clear hE1
  go_enter Tryd.func12, Tryd.ntmps12
  have ha1 : Below w.heap.size w (w.alloc (.cells #[.slice a0 L0.length c0] 55)) := ((Below.refl _ _).alloc (Nat.le_refl _) _)
  go_wp2_with fail
  refine (szGraph_any _ _ _ _ (h0.keep ha1) (by omega) (by omega)).mono ?_
  rintro e w1 ⟨rfl, hb1⟩
  have kb0_1 : w1.cell? ⟨w.heap.size, 0, none⟩ = some (.slice a0 L0.length c0) := by rw [hb1.cell (by first | (simp; done) | (simp; omega))]; go_simp
  have hz1 : w.heap.size + 1 ≤ w1.heap.size := by have hq := hb1.size; simpa using hq
  have HB1 : Hid (Below w.heap.size w w1) := ha1.trans (hb1.mono (by first | (simp; done) | (simp; omega)))
  clear ha1 hb1
  by_cases hs0 : szGrid L0 1048576 < 0
  · go_wp2
    go_ret
    exact ⟨rfl, HB1.out⟩
  have hsm0 := (szGrid_small (L := L0) (left := 1048576) (by omega) (by omega)).1
  have hle0 := (szGrid_small (L := L0) (left := 1048576) (by omega) (by omega)).2
  go_wp2_with fail
  refine (toGraph_any _ _ _ (h0.keep HB1.out) hsm0).mono ?_
  rintro e w2 ⟨np0, ap0, cp0, rfl, hop0, hb2⟩
  have kb0_2 := cell_keep hb2 kb0_1
  have Op0_2 : Hid (OwnGridU 2 36 w2 (w1.heap.size) w2.heap.size (.slice ap0 np0 cp0) L0) := (hop0.mono (by first | exact Nat.le_refl _ | simp)).under
  have hz2 : w1.heap.size ≤ w2.heap.size := hb2.size
  have HB2 : Hid (Below w.heap.size w w2) := HB1.out.trans (hb2.mono (by first | omega | (simp; omega)))
  clear kb0_1 HB1 hb2
  go_wp2_with fail
  refine (specSidesOf_any _ _ _ Op0_2.out.read).mono ?_
  rintro e w3 ⟨ns0, as0, cs0, rfl, hos0, hb3⟩
  rw [← HEQ1.out]
  have kb0_3 := cell_keep hb3 kb0_2
  have Op0_3 := Lib.hid (Op0_2.out.keep hb3)
  have Os0_3 : Hid (OwnRowU 2 w3 (w2.heap.size) w3.heap.size (.slice as0 ns0 cs0) E0) := (by have hq := hos0; rw [← HEQ0.out] at hq; exact (hq.mono (by first | exact Nat.le_refl _ | simp)).under)
  have hz3 : w2.heap.size ≤ w3.heap.size := hb3.size
  have HB3 : Hid (Below w.heap.size w w3) := HB2.out.trans (hb3.mono (by first | omega | (simp; omega)))
  clear kb0_2 Op0_2 HB2 hb3
  go_wp2_with fail
  refine (toGraph_any _ _ _ (h0.keep HB3.out) hsm0).mono ?_
  rintro e w4 ⟨nx0, ax0, cx0, rfl, hox0, hb4⟩
  have kb0_4 := cell_keep hb4 kb0_3
  have Os0_4 := Lib.hid (Os0_3.out.keep hb4)
  have Ox0_4 : Hid (OwnGridU 2 36 w4 (w3.heap.size) w4.heap.size (.slice ax0 nx0 cx0) L0) := (hox0.mono (by first | exact Nat.le_refl _ | simp)).under
  have hz4 : w3.heap.size ≤ w4.heap.size := hb4.size
  have HB4 : Hid (Below w.heap.size w w4) := HB3.out.trans (hb4.mono (by first | omega | (simp; omega)))
  clear kb0_3 Os0_3 HB3 hb4
  have ha5 : Below w4.heap.size w4 (w4.alloc (.cells #[.slice ax0 nx0 cx0] 29)) := ((Below.refl _ _).alloc (Nat.le_refl _) _)
  have kb0_4a := cell_keep ha5 kb0_4
  go_wp2_with fail
  clear kb0_4a
  refine (implSidesOf_any _ _ _ (Ox0_4.out.read.keep ha5) (hT.keep (HB4.out.trans (ha5.mono HB4.out.size)))).mono ?_
  rintro e w5 ⟨ng0, ag0, cg0, rfl, hog0, hb5⟩
  rw [← HEQ1.out]
  have kb0_5 := cell_keep hb5 (cell_keep ha5 kb0_4)
  have kx0_5 : w5.cell? ⟨w4.heap.size, 0, none⟩ = some (.slice ax0 nx0 cx0) := by rw [hb5.cell (by first | (simp; done) | (simp; omega))]; go_simp
  have Os0_5 := Lib.hid ((Os0_4.out.keep ha5).keep hb5)
  have Ox0_5 := Lib.hid ((Ox0_4.out.keep ha5).keep hb5)
  have Og0_5 : Hid (OwnRowU 2 w5 (w4.heap.size + 1) w5.heap.size (.slice ag0 ng0 cg0) E0) := (by have hq := hog0; rw [← HEQ0.out] at hq; exact (hq.mono (by first | exact Nat.le_refl _ | simp)).under)
  have hz5 : w4.heap.size + 1 ≤ w5.heap.size := by have hq := hb5.size; simpa using hq
  have HB5 : Hid (Below w.heap.size w w5) := (HB4.out.trans (ha5.mono HB4.out.size)).trans (hb5.mono (by first | omega | (simp; omega)))
  clear kb0_4 Os0_4 Ox0_4 HB4 ha5 hb5
  go_wp2_with fail
  refine (eqInt64S_b _ _ _ _ _ Og0_5.out.read Os0_5.out.read).mono ?_
  rintro e w6 ⟨rfl, hb6⟩
  rw [decide_eq_true rfl]
  have kb0_6 := cell_keep hb6 kb0_5
  have kx0_6 := cell_keep hb6 kx0_5
  have Os0_6 := Lib.hid (Os0_5.out.keep hb6)
  have Ox0_6 := Lib.hid (Ox0_5.out.keep hb6)
  have Og0_6 := Lib.hid (Og0_5.out.keep hb6)
  have hz6 : w5.heap.size ≤ w6.heap.size := hb6.size
  have HB6 : Hid (Below w.heap.size w w6) := HB5.out.trans (hb6.mono (by first | omega | (simp; omega)))
  clear kb0_5 kx0_5 Os0_5 Ox0_5 Og0_5 HB5 hb6
  go_wp2
  go_region_held3 (fun wx => wx.cell? ⟨w.heap.size, 0, none⟩ = some (.slice a0 L0.length c0) ∧ wx.cell? ⟨w4.heap.size, 0, none⟩ = some (.slice ax0 nx0 cx0)) (first | exact ⟨kb0_6, kx0_6⟩ | exact ⟨kb0_7r1, kx0_7r1⟩ | exact ⟨kb0_7r2, kx0_7r2⟩)
    (first | (go_at_call 53; refine (toGraph_any _ _ _ ((h0.keep HB6.out).keep (Below.refl _ _).drew) hsm0).mono ?_; rintro e w7r1 ⟨ny0, ay0, cy0, rfl, hoy0, hb7r1⟩; have kb0_7r1 := cell_keep hb7r1 (cell_keep (Below.refl _ _).drew kb0_6); have kx0_7r1 := cell_keep hb7r1 (cell_keep (Below.refl _ _).drew kx0_6); have Os0_7r1 := Lib.hid ((Os0_6.out.keep (Below.refl _ _).drew).keep hb7r1); have Ox0_7r1 := Lib.hid ((Ox0_6.out.keep (Below.refl _ _).drew).keep hb7r1); have Og0_7r1 := Lib.hid ((Og0_6.out.keep (Below.refl _ _).drew).keep hb7r1); have Oy0_7r1 : Hid (OwnGridU 2 36 w7r1 (w6.heap.size) w7r1.heap.size (.slice ay0 ny0 cy0) L0) := (hoy0.mono (by first | exact Nat.le_refl _ | simp)).under; have hz7r1 : w6.heap.size ≤ w7r1.heap.size := hb7r1.size; have HB7r1 : Hid (Below w.heap.size w w7r1) := HB6.out.drew.trans (hb7r1.mono HB6.out.size); clear hb7r1) | (go_at_call 55; refine (eqGraph_any _ _ _ _ _ Ox0_7r1.out.read Oy0_7r1.out.read).mono ?_; rintro e w7r2 ⟨rfl, hb7r2⟩; have kb0_7r2 := cell_keep hb7r2 kb0_7r1; have kx0_7r2 := cell_keep hb7r2 kx0_7r1; have Os0_7r2 := Lib.hid (Os0_7r1.out.keep hb7r2); have Ox0_7r2 := Lib.hid (Ox0_7r1.out.keep hb7r2); have Og0_7r2 := Lib.hid (Og0_7r1.out.keep hb7r2); have Oy0_7r2 := Lib.hid (Oy0_7r1.out.keep hb7r2); have hz7r2 : w7r1.heap.size ≤ w7r2.heap.size := hb7r2.size; have HB7r2 : Hid (Below w.heap.size w w7r2) := HB7r1.out.trans (hb7r2.mono HB7r1.out.size); clear hb7r2; rw [decide_eq_true rfl]))
  clear kb0_6 kx0_6 Os0_6 Ox0_6 Og0_6 HB6 kb0_7r1 kx0_7r1 Os0_7r1 Ox0_7r1 Og0_7r1 Oy0_7r1 HB7r1
  have hone : (0 : Int) ≤ 1 := by omega
  have htt0 := totTo_le hsm0.2 L0.length (Nat.le_refl _)
  have htu0 : 1048576 * L0.length ≤ 1048576 * 1048576 := by have := hsm0.1; omega
  go_wp2_with fail
  refine (markGraph_any _ _ (w3.heap.size) w4.heap.size _ _ Ox0_7r2.out (by omega) (by omega) hsm0).mono ?_
  rintro e w8 ⟨rfl, hogx0, hb8⟩
  have kb0_8 := cell_apart kb0_7r2 hb8 (by dsimp only; omega)
  have kx0_8 := cell_apart kx0_7r2 hb8 (by dsimp only; omega)
  have Os0_8 := Lib.hid (Os0_7r2.out.apart hb8 (by omega))
  have Og0_8 := Lib.hid (Og0_7r2.out.apart hb8 (by omega))
  have Ox0_8 : Hid (OwnGridU 2 36 w8 (w3.heap.size) w4.heap.size (.slice ax0 nx0 cx0) (marksG L0 (1))) := hogx0
  have hz8 : w7r2.heap.size ≤ w8.heap.size := (hb8.size)
  have HB8 : Hid (Below w.heap.size w w8) := HB7r2.out.trans ((hb8.below (by first | omega | (simp; omega))).mono (by first | omega | (simp; omega)))
  clear kb0_7r2 kx0_7r2 Os0_7r2 Og0_7r2 Ox0_7r2 HB7r2 hb8
  have hkpos : 0 ≤ 1 + (totTo L0 L0.length : Int) := by omega
  go_wp2_with fail
  refine (eqInt64S_b _ _ _ _ _ Og0_8.out.read Os0_8.out.read).mono ?_
  rintro e w9 ⟨rfl, hb9⟩
  rw [decide_eq_true rfl]
  have kb0_9 := cell_keep hb9 kb0_8
  have kx0_9 := cell_keep hb9 kx0_8
  have Os0_9 := Lib.hid (Os0_8.out.keep hb9)
  have Og0_9 := Lib.hid (Og0_8.out.keep hb9)
  have Ox0_9 := Lib.hid (Ox0_8.out.keep hb9)
  have hz9 : w8.heap.size ≤ w9.heap.size := hb9.size
  have HB9 : Hid (Below w.heap.size w w9) := HB8.out.trans (hb9.mono (by first | omega | (simp; omega)))
  clear kb0_8 kx0_8 Os0_8 Og0_8 Ox0_8 HB8 hb9
  go_wp2_with fail
  refine (markInt64S_any _ _ (w4.heap.size + 1) w5.heap.size _ _ Og0_9.out (by omega) (by omega)).mono ?_
  rintro e w10 ⟨rfl, hogg0, hb10, _, _⟩
  have kb0_10 := cell_apart kb0_9 hb10 (by dsimp only; omega)
  have kx0_10 := cell_apart kx0_9 hb10 (by dsimp only; omega)
  have Os0_10 := Lib.hid (Os0_9.out.apart hb10 (by omega))
  have Ox0_10 := Lib.hid (Ox0_9.out.apart hb10 (by omega))
  have Og0_10 : Hid (OwnRowU 2 w10 (w4.heap.size + 1) w5.heap.size (.slice ag0 ng0 cg0) (seqFrom (1) E0.length)) := hogg0
  have hz10 : w9.heap.size ≤ w10.heap.size := (hb10.size)
  have HB10 : Hid (Below w.heap.size w w10) := HB9.out.trans ((hb10.below (by first | omega | (simp; omega))).mono (by first | omega | (simp; omega)))
  clear kb0_9 kx0_9 Os0_9 Ox0_9 Og0_9 HB9 hb10
  have hmpos : 0 ≤ 1 + (E0.length : Int) := by omega
  have hmne : ((1 + (E0.length : Int)) != (1 + (E0.length : Int))) = false := by simp
  go_wp2_with fail
  refine (heldInt64S_b _ E0.length _ _ Og0_10.out.read (by omega) (by omega)).mono ?_
  rintro e w11 ⟨rfl, hb11⟩
  have kb0_11 := cell_keep hb11 kb0_10
  have kx0_11 := cell_keep hb11 kx0_10
  have Os0_11 := Lib.hid (Os0_10.out.keep hb11)
  have Ox0_11 := Lib.hid (Ox0_10.out.keep hb11)
  have Og0_11 := Lib.hid (Og0_10.out.keep hb11)
  have hz11 : w10.heap.size ≤ w11.heap.size := hb11.size
  have HB11 : Hid (Below w.heap.size w w11) := HB10.out.trans (hb11.mono (by first | omega | (simp; omega)))
  clear kb0_10 kx0_10 Os0_10 Ox0_10 Og0_10 HB10 hb11
  go_wp2_with fail
  refine (toGraph_any _ _ _ (h0.keep HB11.out) hsm0).mono ?_
  rintro e w12 ⟨nq0, aq0, cq0, rfl, hoq0, hb12⟩
  have kb0_12 := cell_keep hb12 kb0_11
  have kx0_12 := cell_keep hb12 kx0_11
  have Os0_12 := Lib.hid (Os0_11.out.keep hb12)
  have Ox0_12 := Lib.hid (Ox0_11.out.keep hb12)
  have Og0_12 := Lib.hid (Og0_11.out.keep hb12)
  have Oq0_12 : Hid (OwnGridU 2 36 w12 (w11.heap.size) w12.heap.size (.slice aq0 nq0 cq0) L0) := (hoq0.mono (by first | exact Nat.le_refl _ | simp)).under
  have hz12 : w11.heap.size ≤ w12.heap.size := hb12.size
  have HB12 : Hid (Below w.heap.size w w12) := HB11.out.trans (hb12.mono (by first | omega | (simp; omega)))
  clear kb0_11 kx0_11 Os0_11 Ox0_11 Og0_11 HB11 hb12
  go_wp2_with fail
  refine (implSidesOf_any _ _ _ Oq0_12.out.read (hT.keep HB12.out)).mono ?_
  rintro e w13 ⟨nh0, ah0, ch0, rfl, hoh0, hb13⟩
  rw [← HEQ1.out]
  have kb0_13 := cell_keep hb13 kb0_12
  have kx0_13 := cell_keep hb13 kx0_12
  have Os0_13 := Lib.hid (Os0_12.out.keep hb13)
  have Ox0_13 := Lib.hid (Ox0_12.out.keep hb13)
  have Og0_13 := Lib.hid (Og0_12.out.keep hb13)
  have Oq0_13 := Lib.hid (Oq0_12.out.keep hb13)
  have Oh0_13 : Hid (OwnRowU 2 w13 (w12.heap.size) w13.heap.size (.slice ah0 nh0 ch0) E0) := (by have hq := hoh0; rw [← HEQ0.out] at hq; exact (hq.mono (by first | exact Nat.le_refl _ | simp)).under)
  have hz13 : w12.heap.size ≤ w13.heap.size := hb13.size
  have HB13 : Hid (Below w.heap.size w w13) := HB12.out.trans (hb13.mono (by first | omega | (simp; omega)))
  clear kb0_12 kx0_12 Os0_12 Ox0_12 Og0_12 Oq0_12 HB12 hb13
  go_wp2_with fail
  refine (eqInt64S_b _ _ _ _ _ Oh0_13.out.read Os0_13.out.read).mono ?_
  rintro e w14 ⟨rfl, hb14⟩
  rw [decide_eq_true rfl]
  have kb0_14 := cell_keep hb14 kb0_13
  have kx0_14 := cell_keep hb14 kx0_13
  have Os0_14 := Lib.hid (Os0_13.out.keep hb14)
  have Ox0_14 := Lib.hid (Ox0_13.out.keep hb14)
  have Og0_14 := Lib.hid (Og0_13.out.keep hb14)
  have Oh0_14 := Lib.hid (Oh0_13.out.keep hb14)
  have hz14 : w13.heap.size ≤ w14.heap.size := hb14.size
  have HB14 : Hid (Below w.heap.size w w14) := HB13.out.trans (hb14.mono (by first | omega | (simp; omega)))
  clear kb0_13 kx0_13 Os0_13 Ox0_13 Og0_13 Oh0_13 HB13 hb14
  go_wp2_with fail
  refine (heldInt64S_b _ E0.length _ _ Og0_14.out.read (by omega) (by omega)).mono ?_
  rintro e w15 ⟨rfl, hb15⟩
  have kb0_15 := cell_keep hb15 kb0_14
  have kx0_15 := cell_keep hb15 kx0_14
  have Os0_15 := Lib.hid (Os0_14.out.keep hb15)
  have Ox0_15 := Lib.hid (Ox0_14.out.keep hb15)
  have Og0_15 := Lib.hid (Og0_14.out.keep hb15)
  have Oh0_15 := Lib.hid (Oh0_14.out.keep hb15)
  have hz15 : w14.heap.size ≤ w15.heap.size := hb15.size
  have HB15 : Hid (Below w.heap.size w w15) := HB14.out.trans (hb15.mono (by first | omega | (simp; omega)))
  clear kb0_14 kx0_14 Os0_14 Ox0_14 Og0_14 Oh0_14 HB14 hb15
  go_wp2
  go_ret
  exact ⟨rfl, HB15.out⟩

end Go.Proofs.YtjbfoiolcpigfaaDoor
