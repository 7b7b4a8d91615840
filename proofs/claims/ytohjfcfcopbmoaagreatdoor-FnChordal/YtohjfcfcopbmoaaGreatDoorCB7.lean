/- Walks: ChordlessLoop, of the program. -/
import Derived.Test.YtohjfcfcopbmoaaGreatDoorQCB5
import Derived.Test.YtohjfcfcopbmoaaGreatDoorQCI1
import Derived.Test.YtohjfcfcopbmoaaGreatDoorQCB1

namespace Go.Proofs.YtohjfcfcopbmoaaGreatDoor
open Go.RowKit Go.Shelf
attribute [local go_sem] Oper.semAt_some

/-- The best loop so far, in its box. -/
structure ClI (w : World) (bx bn n : Nat) (M : Nat → Nat) (Z : List (Nat × Nat × Nat)) (W : World) : Prop where
  box : ∃ bv, W.heap[bx]? = some (.cells #[bv] 33 (0, 0)) ∧ OwnRow 2 W w.heap.size bv (bestZ M n Z) ∧ (bestZ M n Z = [] → bv = .slice none 0 0)
  net : NetBlk 83 W bn n M
  bel : Below w.heap.size w W
theorem ClI.keep {w : World} {bx bn n : Nat} {M : Nat → Nat} {Z : List (Nat × Nat × Nat)} {A B : World} (h : ClI w bx bn n M Z A) (hb : Below A.heap.size A B) : ClI w bx bn n M Z B := by
  obtain ⟨bv, h1, h2, h3⟩ := h.box
  exact ⟨⟨bv, by rw [hb.block _ (Array.getElem?_eq_some_iff.1 h1).1]; exact h1, h2.keep hb, h3⟩, h.net.keep hb, h.bel.trans (hb.mono h.bel.size)⟩
theorem ClI.put {w : World} {bx bn n : Nat} {M : Nat → Nat} {Z : List (Nat × Nat × Nat)} {A : World} {c : Nat} {r : Loop} (h : ClI w bx bn n M Z A) (hc : A.heap[c]? = some (.loop r)) (hw : w.heap.size ≤ c) (o : Obj) : ClI w bx bn n M Z (A.putObj c o) := by
  obtain ⟨bv, h1, h2, h3⟩ := h.box
  have hne : ∀ (k : Nat) (cs : Array Value) (U : TypeId) (fr : Nat × Nat), A.heap[k]? = some (Obj.cells cs U fr) → (A.putObj c o).heap[k]? = some (Obj.cells cs U fr) := fun k cs U fr hk => by
    rw [World.putObj_heap_other (fun e => ?_)]
    · exact hk
    · subst e; rw [hc] at hk; cases hk
  exact ⟨⟨bv, hne _ _ _ _ h1, h2.kept (fun k cs fr hk => hne k cs _ fr hk), h3⟩, hne _ _ _ _ h.net, h.bel.trans (below_put A c o hw (Array.getElem?_eq_some_iff.1 hc).1)⟩

theorem undef_ne (b : Bool) : some undef ≠ some (Value.bool b) := fun e => by cases e
theorem betterR_nil {b : List Int} : betterR b [] = b := by unfold betterR; rw [if_neg (fun h => h.1 rfl)]
theorem betterR_one {x : List Int} (h : x ≠ []) : betterR [] x = x := by unfold betterR; rw [if_pos ⟨h, Or.inl rfl⟩]

theorem KpB.set {c b : Nat} {A : World} {cs : Array Value} {fr : Nat × Nat} (h : A.heap[b]? = some (.cells cs 33 fr)) (u : Value) : KpB c A (A.setCell ⟨b, 0, none⟩ u) := ⟨by rw [size_setCell1]; exact Nat.le_refl _, fun k cs' T fr' _ hT hk => by
  rw [heap_setCell_other _ _ _ _ (fun e => ?_)]
  · exact hk
  · subst e; rw [h] at hk; cases hk; exact hT rfl⟩
/-- A better loop has been put into the box. -/
theorem ClI.store {w : World} {bx bn n : Nat} {M : Nat → Nat} {Z Z' : List (Nat × Nat × Nat)} {A : World} {bv : Value} {xs : List Int} (h : ClI w bx bn n M Z A) (hbx : w.heap.size ≤ bx) (hr : OwnRow 2 A w.heap.size bv xs) (he : bestZ M n Z' = xs) (hne : xs ≠ []) : ClI w bx bn n M Z' (A.setCell ⟨bx, 0, none⟩ bv) := by
  obtain ⟨bv0, h1, h2, h3⟩ := h.box
  have hb1 : bv.ownBlock ≠ some bx := fun e => by
    rcases hr.2.2 with ⟨e1, _⟩ | ⟨g, cap, cur, e1, hg, hh, _⟩
    · subst e1; simp [Value.ownBlock] at e
    · subst e1
      simp [Value.ownBlock] at e
      subst e
      rw [h1] at hh
      cases hh
  have hb2 : bn ≠ bx := fun e => by
    subst e
    have := h.net
    unfold NetBlk at this
    rw [h1] at this
    cases this
  refine ⟨⟨bv, ?_, ?_, fun e => absurd (he.symm.trans e) hne⟩, h.net.setOther hb2 _, h.bel.setCell hbx _⟩
  · rw [heap_setCell_same A bx 0 _ _ _ h1]; rfl
  · rw [he]; exact hr.setCell hb1 _
theorem betterR_lt {b x : List Int} (hx : x ≠ []) (h : ltR x b) : betterR b x = x := by
  unfold betterR; rw [if_pos ⟨hx, Or.inr h⟩]
theorem betterR_ge {b x : List Int} (hb : b ≠ []) (h : ¬ ltR x b) : betterR b x = b := by
  unfold betterR; rw [if_neg (fun hh => h (hh.2.resolve_left hb))]

set_option maxHeartbeats 8000000 in
set_option maxRecDepth 100000 in
theorem implChordlessLoop_any (v : Value) (L : List (List Int)) (w : World) (h : GridAt w v L) (hT : TabAt w) : Calls Tryz.prog 26 #[.agg #[v]] w (GaveYes w (clL L) (clB L)) := by
  obtain ⟨a0, c0, rfl⟩ := h.slice
  have ha : Below w.heap.size w (w.alloc (.cells #[.slice a0 L.length c0] 26)) := (Below.refl _ _).alloc (Nat.le_refl _) _
  have hk := h.keep ha
  have HA := Lib.hid ha
  clear ha
  refine calls_marks Tryz.func26 rfl ?_
  simp only [Tryz.ntmps26, List.size_toArray, List.length_cons, List.length_nil, Nat.reduceAdd, Nat.reduceSub, Array.replicate_succ, Array.replicate_zero, List.push_toArray, List.append_toArray, List.nil_append, List.cons_append]
  go_wp2_with fail
  refine (netOf_any _ _ _ hk).mono ?_
  rintro e w1 ⟨rfl, hb1⟩
  have HB1 : Hid (Below w.heap.size w w1) := HA.out.trans (hb1.mono (by simp))
  have hz : w.heap.size ≤ w1.heap.size := HB1.out.size
  have hnb := netBlk_new w1 0 (fun _ => 0)
  clear hb1 hk h HA
  by_cases hG : GraphP L
  · have hzz := hG.1
    have HLT : Hid (∀ i, rowM L i < 65536) := fun i => rowM_lt (by omega) (fun v hv => (hG.2.1 v hv).1) i
    have HSY : Hid (∀ a b, nearM (rowM L) a b = nearM (rowM L) b a) := by rw [nearM_eq hG]; exact nearB_symm hG
    have HREL : Hid (RelP L.length (nearM (rowM L))) := adjB_rel hG
    have HE : Hid (clL L = bestZ (rowM L) L.length (bendZ (rowM L) L.length)) := by
      show _ = _
      rw [bestZ_cls HREL.out HLT.out hzz.2]
      exact if_pos hG
    rw [decide_eq_true hG, netArr_yes hG]
    clear hG
    go_wp2_with (first | (refine wpList_store_net rfl 83 (.tmp 4) (.tmp 12) rfl w1.heap.size L.length (rowM L) rfl rfl Tryz.sizeNet 0 (fun _ => 0) hnb ?_; intro w3 hp; have HNet := Lib.hid hp.net; have HB3 : Hid (Below w.heap.size w w3) := (HB1.out.alloc hz _).trans (hp.below.mono hz); clear hp) | (go_at_call 97; refine (bends_any _ _).mono ?_; rintro e w' ⟨rfl, rfl⟩))
    have hz3 : w.heap.size ≤ w3.heap.size := HB3.out.size
    obtain ⟨w5, hw5⟩ : ∃ w5, (w3.alloc (.cells #[.slice none 0 0] 33)).alloc (.cells #[.pointer (some ⟨w1.heap.size, 0, none⟩)] 191) = w5 := ⟨_, rfl⟩
    have hb5 : Below w3.heap.size w3 w5 := by rw [← hw5]; exact ((Below.refl _ _).alloc (Nat.le_refl _) _).alloc (by simp) _
    have hs5 : w5.heap.size = w3.heap.size + 2 := by rw [← hw5]; simp
    have hbx5 : w5.heap[w3.heap.size]? = some (.cells #[.slice none 0 0] 33 (0, 0)) := by
      rw [← hw5]
      exact (Below.heap_alloc _ _ _ (by simp)).trans (World.alloc_heap_new w3 _)
    have hpt5 : w5.heap[w3.heap.size + 1]? = some (.cells #[.pointer (some ⟨w1.heap.size, 0, none⟩)] 191 (0, 0)) := by
      rw [← hw5]
      have h1 := World.alloc_heap_new (w3.alloc (.cells #[.slice none 0 0] 33)) (.cells #[.pointer (some ⟨w1.heap.size, 0, none⟩)] 191)
      simpa using h1
    have hbn : w1.heap.size < w3.heap.size := HNet.out.lt
    have HBI : Hid (BendIn w5 (w5.heap.size + 1) (w3.heap.size + 1) w1.heap.size L.length (rowM L)) := ⟨hpt5, HNet.out.keep hb5, by omega, by omega⟩
    have HSQ := Lib.hid (bends1_seq 8 (w3.heap.size + 1) w1.heap.size L.length (rowM L) w5 HLT.out hzz.2 HBI.out)
    have H0 : Hid (ClI w w3.heap.size w1.heap.size L.length (rowM L) [] w5) := ⟨⟨_, hbx5, ⟨by simp [bestZ], Nat.zero_le _, .inl ⟨rfl, rfl⟩⟩, fun _ => rfl⟩, HNet.out.keep hb5, HB3.out.trans (hb5.mono hz3)⟩
    rw [hw5]
    clear hw5 hb5 hbx5 hpt5 HBI HNet HB3 HB1 hnb
    refine (wpIn_wide (n := 9)).1 ?_
    refine wpIn_rangeFunc_prL rfl (by omega) (gf := 185) (lb := #[.pointer (some ⟨w3.heap.size + 1, 0, none⟩)]) rfl trivial (enters_of Tryz.func185 (by kernel_rfl) rfl)
      HSQ.out (fun h k => h.trans k) (fun W o => KpB.put _ W o) (fun _ => rfl)
      (fun pre W => ClI w w3.heap.size w1.heap.size L.length (rowM L) pre W)
      (fun _ _ _ => False)
      (fun _ _ _ hs hb => hs.keep hb)
      (fun _ _ _ o hs hl => hs.put hl (by omega) o)
      (fun _ _ _ _ _ h _ => h)
      H0.out
      ?a1 ?W1 ?hb1 (fun h => KpB.below h) ?assign ?body ?done ?stop
    case assign =>
      intro l x W K hK
      simp only [encT]
      gi_wp2
      exact hK
    case hb1 => exact fun x W => (Below.refl _ _).alloc (Nat.le_refl _) _
    case body =>
      rintro l pre ⟨u, v, x⟩ W o hi hsz ⟨oD, hoD⟩ ⟨oL, hoL⟩ hpre
      have hmem : (u, v, x) ∈ bendZ (rowM L) L.length := hpre.subset (List.mem_append_right _ List.mem_cons_self)
      have hbd := (bendZ_mem HREL.out hzz.2 _).1 hmem
      have hr1 := HREL.out.range u v hbd.left
      have hr2 := HREL.out.range u x hbd.right
      have HSN := Lib.hid (bestZ_snoc (rowM L) L.length pre (u, v, x))
      dsimp only at hi hoD hoL HSN ⊢
      have hbxA : ((W.alloc (.cells #[.int .i64 (u : Int), .int .i64 (v : Int), .int .i64 (x : Int)] 108)).putObj (w5.heap.size + 1) o).heap[W.heap.size]? = some (.cells #[.int .i64 (u : Int), .int .i64 (v : Int), .int .i64 (x : Int)] 108 (0, 0)) := by
        rw [World.putObj_heap_other (by omega)]
        exact World.alloc_heap_new W _
      obtain ⟨B, hB⟩ : ∃ B, B = W.heap.size := ⟨_, rfl⟩
      rw [← hB] at hbxA ⊢
      generalize (W.alloc (.cells #[.int .i64 (u : Int), .int .i64 (v : Int), .int .i64 (x : Int)] 108)).putObj (w5.heap.size + 1) o = V at hi hoD hoL hbxA ⊢
      have kx0 : V.cell? ⟨B, 0, none⟩ = some (.int .i64 (u : Int)) := by rw [cell_of_row V _ 0 _ _ _ hbxA]; rfl
      have kx1 : V.cell? ⟨B, 1, none⟩ = some (.int .i64 (v : Int)) := by rw [cell_of_row V _ 1 _ _ _ hbxA]; rfl
      have kx2 : V.cell? ⟨B, 2, none⟩ = some (.int .i64 (x : Int)) := by rw [cell_of_row V _ 2 _ _ _ hbxA]; rfl
      obtain ⟨bv, h1, h2, h3⟩ := hi.box
      have HI := Lib.hid hi
      have HOD := Lib.hid hoD
      have HOL := Lib.hid hoL
      have H1 := Lib.hid h1
      have H2 := Lib.hid h2
      have H3 := Lib.hid h3
      have HKP : Hid (∀ W', Below V.heap.size V W' → Two2 w5.heap.size V W') := fun W' hb => ⟨hb.block _ (Array.getElem?_eq_some_iff.1 HOD.out).1, hb.block _ (Array.getElem?_eq_some_iff.1 HOL.out).1⟩
      have hbz : w3.heap.size < w5.heap.size := by omega
      clear hi hoD hoL h1 h2 h3 hmem hbd hpre hB hbxA hsz
      gi_wp2_with fail
      refine ⟨trivial, ?_⟩
      refine (CallsIn.inRound l (callsIn_wide.2 (chordlessBy_any w1.heap.size L.length u v x (rowM L) V HI.out.net (hT.keep HI.out.bel) HLT.out hzz hr1.1 hr1.2 hr2.2 HSY.out))).mono ?_
      rintro e w7 ⟨⟨n7, a7, c7, rfl, ho7, hb7⟩, hnil⟩
      have HI7 := Lib.hid (HI.out.keep hb7)
      have HB7 := Lib.hid hb7
      obtain ⟨X, hX⟩ : ∃ X, X = chN (rowM L) L.length u v x := ⟨_, rfl⟩
      rw [← hX] at ho7 hnil HSN
      have hX17 : X.length ≤ 17 := by rw [hX]; exact chN_len hzz.2
      clear hX
      have HO7 : Hid (OwnRow 2 w7 w.heap.size (.slice a7 n7 c7) X) := ho7.mono HI.out.bel.size
      have H17 : Hid (w7.heap[w3.heap.size]? = some (.cells #[bv] 33 (0, 0))) := (hb7.block _ (Array.getElem?_eq_some_iff.1 H1.out).1).trans H1.out
      have H27 := Lib.hid (H2.out.keep hb7)
      have kb7 : w7.cell? ⟨w3.heap.size, 0, none⟩ = some bv := by rw [cell_of_row w7 _ 0 _ _ _ H17.out]; rfl
      have kf7 : w7.frozen? ⟨w3.heap.size, 0, none⟩ = false := frozen_of_row w7 _ 0 _ _ H17.out
      clear ho7 hb7 kx0 kx1 kx2
      by_cases hX0 : X = []
      · have he := hnil hX0
        simp only [Ending.returned.injEq, Value.slice.injEq] at he
        obtain ⟨rfl, rfl, rfl⟩ := he
        have HFI : Hid (ClI w w3.heap.size w1.heap.size L.length (rowM L) (pre ++ [(u, v, x)]) w7) := by
          obtain ⟨b, g1, g2, g3⟩ := HI7.out.box
          rw [show bestZ (rowM L) L.length pre = bestZ (rowM L) L.length (pre ++ [(u, v, x)]) by rw [HSN.out, hX0, betterR_nil]] at g2 g3
          exact ⟨⟨b, g1, g2, g3⟩, HI7.out.net, HI7.out.bel⟩
        have hneq := neq_no
        clear hnil hX0 kb7 kf7
        gi_wp2
        case h_1.isFalse => rename_i h5 _; exact absurd h5 (undef_ne _)
        case h_1.isTrue => rename_i h5 _; exact absurd h5 (undef_ne _)
        refine ⟨trivial, ?_⟩
        go_at_K
        gi_wp2
        exact ⟨HKP.out _ HB7.out, KpB.below HB7.out, HFI.out⟩
      · obtain ⟨gw, cw, e8, hgwB, hgwl, hcw1, hcw2⟩ := HO7.out.posB (List.length_pos_iff.2 hX0)
        simp only [Value.slice.injEq] at e8
        obtain ⟨rfl, rfl, rfl⟩ := e8
        have HX0 := Lib.hid hX0
        have hneq := neq_yes
        clear hnil hX0
        by_cases hZ0 : bestZ (rowM L) L.length pre = []
        · have he := H3.out hZ0
          subst he
          have HFI : Hid (ClI w w3.heap.size w1.heap.size L.length (rowM L) (pre ++ [(u, v, x)]) (w7.setCell ⟨w3.heap.size, 0, none⟩ (.slice (some ⟨gw, 0, none⟩) X.length c7))) :=
            HI7.out.store (by omega) HO7.out (by rw [HSN.out, hZ0, betterR_one HX0.out]) HX0.out
          have HKS : Hid (KpB (w5.heap.size + 1) w7 (w7.setCell ⟨w3.heap.size, 0, none⟩ (.slice (some ⟨gw, 0, none⟩) X.length c7))) := KpB.set H17.out _
          have HBS : Hid (Two2 w5.heap.size V (w7.setCell ⟨w3.heap.size, 0, none⟩ (.slice (some ⟨gw, 0, none⟩) X.length c7))) := by
            have h5 := HKP.out _ HB7.out
            exact ⟨(heap_setCell_other _ _ _ _ (by simp; omega)).trans h5.1, (heap_setCell_other _ _ _ _ (by simp; omega)).trans h5.2⟩
          have heq := eql_yes
          clear hZ0
          gi_wp2
          refine ⟨trivial, ?_⟩
          go_at_K
          gi_wp2
          exact ⟨HBS.out, (KpB.below HB7.out).trans HKS.out, HFI.out⟩
        · have HZ0 := Lib.hid hZ0
          have hZ17 := bestZ_len (M := rowM L) hzz.2 pre
          obtain ⟨gz, cz, e9, _, _, _, _⟩ := H27.out.posB (List.length_pos_iff.2 hZ0)
          subst e9
          have heq := eql_no
          clear hZ0
          gi_wp2_with fail
          refine ⟨trivial, ?_⟩
          refine (CallsIn.inRound l (callsIn_wide.2 (precedes_any _ _ X _ w7 HO7.out.row H27.out.row (by omega)))).mono ?_
          rintro e w8 ⟨rfl, hb8⟩
          have HB8 : Hid (Below V.heap.size V w8) := HB7.out.trans (hb8.mono HB7.out.size)
          have H18 : Hid (w8.heap[w3.heap.size]? = _) := (hb8.block _ (Array.getElem?_eq_some_iff.1 H17.out).1).trans H17.out
          have HI8 := Lib.hid (HI7.out.keep hb8)
          have HO8 := Lib.hid (HO7.out.keep hb8)
          have kf8 : w8.frozen? ⟨w3.heap.size, 0, none⟩ = false := frozen_of_row w8 _ 0 _ _ H18.out
          have kb8 : w8.cell? ⟨w3.heap.size, 0, none⟩ = some (.slice (some ⟨gz, 0, none⟩) (bestZ (rowM L) L.length pre).length cz) := by rw [cell_of_row w8 _ 0 _ _ _ H18.out]; rfl
          clear hb8 kb7 kf7
          cases hlt : ltB X (bestZ (rowM L) L.length pre) with
          | true =>
            have HFI : Hid (ClI w w3.heap.size w1.heap.size L.length (rowM L) (pre ++ [(u, v, x)]) (w8.setCell ⟨w3.heap.size, 0, none⟩ (.slice (some ⟨gw, 0, none⟩) X.length c7))) :=
              HI8.out.store (by omega) HO8.out (by rw [HSN.out, betterR_lt HX0.out ((ltB_iff _ _).1 hlt)]) HX0.out
            have HKS : Hid (KpB (w5.heap.size + 1) w8 (w8.setCell ⟨w3.heap.size, 0, none⟩ (.slice (some ⟨gw, 0, none⟩) X.length c7))) := KpB.set H18.out _
            have HBS : Hid (Two2 w5.heap.size V (w8.setCell ⟨w3.heap.size, 0, none⟩ (.slice (some ⟨gw, 0, none⟩) X.length c7))) := by
              have h5 := HKP.out _ HB8.out
              exact ⟨(heap_setCell_other _ _ _ _ (by simp; omega)).trans h5.1, (heap_setCell_other _ _ _ _ (by simp; omega)).trans h5.2⟩
            clear hlt
            gi_wp2
            exact ⟨HBS.out, (KpB.below HB8.out).trans HKS.out, HFI.out⟩
          | false =>
            have HFI : Hid (ClI w w3.heap.size w1.heap.size L.length (rowM L) (pre ++ [(u, v, x)]) w8) := by
              obtain ⟨b, g1, g2, g3⟩ := HI8.out.box
              have hn : ¬ ltR X (bestZ (rowM L) L.length pre) := fun h => by rw [(ltB_iff _ _).2 h] at hlt; cases hlt
              rw [show bestZ (rowM L) L.length pre = bestZ (rowM L) L.length (pre ++ [(u, v, x)]) by rw [HSN.out, betterR_ge HZ0.out hn]] at g2 g3
              exact ⟨⟨b, g1, g2, g3⟩, HI8.out.net, HI8.out.bel⟩
            clear hlt
            gi_wp2
            exact ⟨HKP.out _ HB8.out, KpB.below HB8.out, HFI.out⟩
    case done =>
      rintro D ys W rfl hi hD hK
      obtain ⟨bv, h1, h2, h3⟩ := hi.box
      rw [← HE.out] at h2 h3
      have HBL := Lib.hid hi.bel
      have HK : Hid (W.drew.heap[D]? = some (.deferred (some []))) := hK
      have hDW : D < W.drew.heap.size := (Array.getElem?_eq_some_iff.1 HK.out).1
      have hbb : W.cell? ⟨w3.heap.size, 0, none⟩ = some bv := by rw [cell_of_row W _ 0 _ _ _ h1]; rfl
      have H2 : Hid (OwnRow 2 (W.drew.putObj D (.deferred none)) w.heap.size bv (clL L)) := by
        refine Lib.hid ((h2.keep (Below.refl _ _).drew).kept (fun k cs fr hk => ?_))
        rw [World.putObj_heap_other (fun e => ?_)]
        · exact hk
        · subst e; rw [HK.out] at hk; cases hk
      have HBP : Hid (Below w.heap.size w (W.drew.putObj D (.deferred none))) := HBL.out.drew.trans (below_put W.drew D _ (by omega) hDW)
      by_cases hc0 : clL L = []
      · have he := h3 hc0
        subst he
        have HB : Hid (clB L = false) := by show _ = _; unfold clB; rw [hc0]; rfl
        have hneq := neq_no
        clear h1 h2 h3 hi hK hc0
        go_wp2
        go_region
        all_goals (
          go_wp2
          refine ⟨by simp, .inl ⟨_, _, rfl, run_takeDeferred HK.out, ?_⟩⟩
          refine ⟨.tuple #[.slice none 0 0, .bool false], by simp [results, Tryz.results26, go_sem], ?_⟩
          rw [HB.out]
          exact ⟨_, _, _, rfl, H2.out, HBP.out⟩)
      · obtain ⟨gz, cz, e9, _, _, _, _⟩ := h2.posB (List.length_pos_iff.2 hc0)
        subst e9
        have HB : Hid (clB L = true) := decide_eq_true (List.length_pos_iff.2 hc0)
        have hneq := neq_yes
        clear h1 h2 h3 hi hK hc0
        go_wp2
        go_region
        all_goals (
          go_wp2
          refine ⟨by simp, .inl ⟨_, _, rfl, run_takeDeferred HK.out, ?_⟩⟩
          refine ⟨.tuple #[.slice (some ⟨gz, 0, none⟩) (clL L).length cz, .bool true], by simp [results, Tryz.results26, go_sem], ?_⟩
          rw [HB.out]
          exact ⟨_, _, _, rfl, H2.out, HBP.out⟩)
    case stop =>
      rintro D c pre W h _ _
      exact h.elim
  · have HE : Hid (clL L = [] ∧ clB L = false) := by show _ ∧ _; unfold clB clL; rw [if_neg hG]; exact ⟨rfl, rfl⟩
    rw [decide_eq_false hG, netArr_no hG]
    clear hG
    go_wp2_with (refine wpList_store_net rfl 83 (.tmp 4) (.tmp 12) rfl w1.heap.size 0 (fun _ => 0) rfl rfl Tryz.sizeNet 0 (fun _ => 0) hnb ?_; intro w3 hp; have HB3 : Hid (Below w.heap.size w w3) := (HB1.out.alloc hz _).trans (hp.below.mono hz); clear hp)
    refine ⟨.tuple #[.slice none 0 0, .bool false], by simp [results, Tryz.results26, go_sem], ?_⟩
    rw [HE.out.1, HE.out.2]
    exact ⟨_, _, _, rfl, ⟨by simp, Nat.zero_le _, .inl ⟨rfl, rfl⟩⟩, HB3.out⟩

end Go.Proofs.YtohjfcfcopbmoaaGreatDoor
