/- The texts GT1, GT2, joined. -/
import Derived.Test.YtgeifbgjfbfcfaaDoorQST1
import Derived.Test.YtgeifbgjfbfcfaaDoorQH0
import Derived.Test.YtgeifbgjfbfcfaaDoorQD5
import Derived.Test.YtgeifbgjfbfcfaaDoorQLater
import Derived.BigQuiet

/- Walks: GraphText of the model. -/
namespace Go.Proofs.YtgeifbgjfbfcfaaDoor
open Go.RowKit

/-- The text of an edge. -/
def edT (e : List Int) : List UInt8 := 32 :: (dgs (nth e 0).toNat ++ 45 :: dgs (nth e 1).toNat)
/-- The text of a graph, as far as the first k edges. -/
def gtTo (L : List (List Int)) (k : Nat) : List UInt8 := dgs L.length ++ [58] ++ ((edgesTo L L.length).take k).flatMap edT
/-- The text of a graph. -/
def gtL (L : List (List Int)) : List UInt8 := if GraphP L then gtTo L (edgesTo L L.length).length else []
theorem gtTo_zero (L : List (List Int)) : gtTo L 0 = dgs L.length ++ [58] := by simp [gtTo]
theorem gtTo_step {L : List (List Int)} {k : Nat} (h : k < (edgesTo L L.length).length) : gtTo L (k + 1) = gtTo L k ++ edT (nthR (edgesTo L L.length) k) := by
  unfold gtTo
  rw [List.take_succ_eq_append_getElem h, List.flatMap_append, nthR_eq h]
  simp
/-- An edge by its ends. -/
theorem edge_by {L : List (List Int)} (hG : GraphP L) {k : Nat} (hk : k < (edgesTo L L.length).length) : ∃ u v : Nat, nthR (edgesTo L L.length) k = [(u : Int), (v : Int)] ∧ u < 16 ∧ v < 16 := by
  have hz := hG.1
  have hm : nthR (edgesTo L L.length) k ∈ edgesTo L L.length := by rw [nthR_eq hk]; exact List.getElem_mem _
  obtain ⟨u, hu, x, hx, hlt, e⟩ := (edgesTo_mem _ _).1 hm
  obtain ⟨i, hi, e2⟩ := List.getElem_of_mem hx
  have hs := ((hG.2.1 u hu).1 i hi).2.1
  rw [nth_eq hi, e2] at hs
  exact ⟨u, x.toNat, by rw [e, Int.toNat_of_nonneg (by omega)], by omega, by omega⟩
theorem edT_len {e : List Int} {u v : Nat} (h : e = [(u : Int), (v : Int)]) : edT e = 32 :: (dgs u ++ 45 :: dgs v) := by
  subst h
  simp [edT, nth]
theorem gtTo_len {L : List (List Int)} (hG : GraphP L) : ∀ k, k ≤ (edgesTo L L.length).length → (gtTo L k).length ≤ 3 + 6 * k := by
  intro k
  induction k with
  | zero =>
    intro _
    have hz := hG.1
    rw [gtTo_zero, List.length_append]
    have := dgs_len 2 L.length (by omega) (by omega)
    simp; omega
  | succ k ih =>
    intro hk
    obtain ⟨u, v, e, hu, hv⟩ := edge_by hG (show k < _ by omega)
    have a := dgs16 hu
    have b := dgs16 hv
    have c := ih (by omega)
    rw [gtTo_step (by omega), edT_len e, List.length_append, List.length_cons, List.length_append, List.length_cons]
    omega

set_option maxHeartbeats 4000000 in
set_option maxRecDepth 100000 in
theorem specGraphText_any (v : Value) (L : List (List Int)) (w : World) (h : GridAt w v L) : Calls Tryd.prog 16 #[.agg #[v]] w fun e w' => e = .returned (.string (bsL (gtL L))) ∧ Below w.heap.size w w' := by
  obtain ⟨a0, c0, rfl⟩ := h.slice
  have ha : Below w.heap.size w (w.alloc (.cells #[.slice a0 L.length c0] 36)) := (Below.refl _ _).alloc (Nat.le_refl _) _
  have kg0 : (w.alloc (.cells #[.slice a0 L.length c0] 36)).cell? ⟨w.heap.size, 0, none⟩ = some (.slice a0 L.length c0) := by go_simp
  obtain ⟨w0, hw0⟩ : ∃ w0, w.alloc (.cells #[.slice a0 L.length c0] 36) = w0 := ⟨_, rfl⟩
  rw [hw0] at ha kg0
  have HW0 := Lib.hid hw0
  have HA := Lib.hid ha
  have hzw : w.heap.size ≤ w0.heap.size := ha.size
  have KG : Hid (∀ w', Below w0.heap.size w0 w' → w'.cell? ⟨w.heap.size, 0, none⟩ = some (.slice a0 L.length c0)) := fun w' hb => cell_keep hb kg0
  have GK : Hid (∀ w', Below w0.heap.size w0 w' → GridAt w' (.slice a0 L.length c0) L) := fun w' hb => (h.keep ha).keep hb
  clear h hw0 ha kg0
  go_enter Tryd.func16, Tryd.ntmps16
  go_wp2_with fail
  rw [HW0.out]
  refine (specGraphOk_any _ _ _ (GK.out _ (Below.refl _ _))).mono ?_
  rintro e w1 ⟨rfl, hb1⟩
  have HB1 := Lib.hid hb1
  have kg1 := KG.out _ hb1
  clear hb1
  by_cases hG : GraphP L
  · rw [decide_eq_true hG]
    have HG := Lib.hid hG
    have hz := hG.1
    have HF : Hid (gtL L = gtTo L (edgesTo L L.length).length) := if_pos hG
    have hel := edges_le hG
    have hd2 := dgs_len 2 L.length (by omega) (by omega)
    have hsz0 : (bsL (dgs L.length)).size ≤ 2 := by rw [bsL_size]; exact hd2
    clear hG hd2
    go_wp2_with fail
    refine (l1Size_any _ L _ (GK.out _ HB1.out)).mono ?_
    rintro e w2 ⟨rfl, hb2⟩
    have HB2 : Hid (Below w0.heap.size w0 w2) := HB1.out.trans (hb2.mono HB1.out.size)
    clear hb2 kg1
    go_wp2_with fail
    refine (l1Int_any L.length _ (by omega)).mono ?_
    rintro e w3 ⟨rfl, hb3⟩
    have HB3 : Hid (Below w0.heap.size w0 w3) := HB2.out.trans (hb3.mono HB2.out.size)
    have kg3 := KG.out _ HB3.out
    clear hb3 HB1 HB2
    go_wp2_with fail
    refine (l1Edges_any _ _ _ (GK.out _ HB3.out) HG.out).mono ?_
    rintro e w4 ⟨n4, a4, c4, rfl, ho4, hb4⟩
    have HB4 : Hid (Below w0.heap.size w0 w4) := HB3.out.trans (hb4.mono HB3.out.size)
    have HGE := Lib.hid ho4.grid
    have hz4 : w0.heap.size ≤ w4.heap.size := HB4.out.size
    have HEB : Hid (∀ k, k < (edgesTo L L.length).length → ∃ u v : Nat, nthR (edgesTo L L.length) k = [(u : Int), (v : Int)] ∧ u < 16 ∧ v < 16) := fun k hk => edge_by HG.out hk
    have HST : Hid (∀ k, k < (edgesTo L L.length).length → gtTo L (k + 1) = gtTo L k ++ edT (nthR (edgesTo L L.length) k)) := fun k hk => gtTo_step hk
    have HGL : Hid (∀ k, k ≤ (edgesTo L L.length).length → (gtTo L k).length ≤ 3 + 6 * k) := gtTo_len HG.out
    obtain ⟨E, hE⟩ : ∃ E, edgesTo L L.length = E := ⟨_, rfl⟩
    rw [hE] at HGE HEB HST HGL HF hel
    obtain ⟨a4', c4', e4⟩ := HGE.out.slice
    simp only [Value.slice.injEq] at e4
    obtain ⟨rfl, rfl, rfl⟩ := e4
    have HX0 : Hid (bsL (dgs L.length) ++ { data := #[58] } = bsL (gtTo L 0)) := by show _ = _; rw [gtTo_zero, ← bsL_app]; rfl
    clear ho4 hb4 kg3 HB3 hE
    go_wp2_with fail
    go_loopw [3, 5] (fun sv iv wr => ∃ k : Nat, k ≤ E.length ∧ iv = .int .i64 k ∧ sv = .string (bsL (gtTo L k)) ∧ Below w4.heap.size w4 wr) (fun _ iv _ => E.length - (intOf iv).toNat)
    case atStart => exact ⟨0, Nat.zero_le _, rfl, by rw [HX0.out], Below.refl _ _⟩
    case round =>
      clear HX0
      obtain ⟨k, hk, rfl, rfl, hb⟩ := hrel
      have HB := Lib.hid hb
      have hgl := HGL.out k hk
      obtain ⟨X, hX⟩ : ∃ X, gtTo L k = X := ⟨_, rfl⟩
      have HXE := Lib.hid hX
      rw [hX] at hgl ⊢
      clear hX
      by_cases hlt : k < E.length
      · obtain ⟨b, o, c, A, C, e2, l1, l2, hc⟩ := (HGE.out.keep hb).pos (by omega)
        simp only [Value.slice.injEq, true_and] at e2
        obtain ⟨rfl, rfl⟩ := e2
        obtain ⟨hck, hrk⟩ := hc k hlt
        obtain ⟨u, v, hev, hu, hv⟩ := HEB.out k hlt
        rw [hev] at hck hrk
        have hst := HST.out k hlt
        rw [HXE.out, edT_len hev] at hst
        have HS2 : Hid (bsL X ++ { data := #[32] } ++ bsL (dgs u) ++ { data := #[45] } ++ bsL (dgs v) = bsL (gtTo L (k + 1))) := by
          show bsL X ++ bsL [32] ++ bsL (dgs u) ++ bsL [45] ++ bsL (dgs v) = _
          rw [hst, bsL_app, bsL_app, bsL_app, bsL_app]
          congr 1
          simp
        obtain ⟨b2, o2, c2, e3, _, _, hc2⟩ := hrk.pos (by simp)
        simp only [List.length_cons, List.length_nil, Value.slice.injEq, true_and, Nat.zero_add, Nat.reduceAdd] at e3 hck
        obtain ⟨eA, eC⟩ := e3
        rw [eA, eC] at hck
        have k0 : wr.cell? ⟨b2, o2, none⟩ = some (.int .i64 (u : Int)) := by have := hc2 0 (by simp); simpa [nth] using this
        have k1 : wr.cell? ⟨b2, o2 + 1, none⟩ = some (.int .i64 (v : Int)) := by have := hc2 1 (by simp); simpa [nth] using this
        have hs1 : (bsL X).size ≤ 1000 := by rw [bsL_size]; omega
        have hs2 : (bsL (dgs u)).size ≤ 2 := by rw [bsL_size]; exact dgs16 hu
        have hs3 : (bsL (dgs v)).size ≤ 2 := by rw [bsL_size]; exact dgs16 hv
        have hcA : Hid (∀ x : Later wr, Calls Tryd.prog 32 #[.int .i64 (u : Int)] x.at fun e w2 => e = .returned (.string (bsL (dgs u))) ∧ ∃ y : Later wr, w2 = y.at) :=
          fun x => Calls.later ((l1Int_any u _ (by omega)).mono fun _ _ ⟨h1, h2⟩ => ⟨h1, h2⟩)
        have hcB : Hid (∀ x : Later wr, Calls Tryd.prog 32 #[.int .i64 (v : Int)] x.at fun e w2 => e = .returned (.string (bsL (dgs v))) ∧ ∃ y : Later wr, w2 = y.at) :=
          fun x => Calls.later ((l1Int_any v _ (by omega)).mono fun _ _ ⟨h1, h2⟩ => ⟨h1, h2⟩)
        have hltI : (k : Int) < (E.length : Int) := by omega
        clear hc hrk hev hc2 hst eA eC hgl hb
        go_wp2_with fail
        have kl := fun x : Later wr => x.cell hck
        have kl1 := fun x : Later wr => x.cell k0
        have kl2 := fun x : Later wr => x.cell k1
        clear hck k0 k1
        refine wp_region_later (by kernel_rfl) (by kernel_rfl) ?_
        repeat (go_big_quiet_step ((first | (go_at_call 32; with_reducible exact hcA.out _) | (go_at_call 32; with_reducible exact hcB.out _))))
        refine wpQuiet_nil ?_
        rintro _ ⟨z, rfl⟩
        have HBZ : Hid (Below w4.heap.size w4 z.at) := HB.out.trans (z.bel.mono HB.out.size)
        clear kl kl1 kl2 hcA hcB
        go_wp2
        go_roundw
        case rel => exact ⟨k + 1, by omega, by go_num, by rw [HS2.out], HBZ.out⟩
        case measure => simp [intOf]; omega
      · obtain rfl : k = E.length := by omega
        have HFX : Hid (gtL L = X) := by show _ = _; rw [HF.out, HXE.out]
        clear hb
        go_wp2
        go_ret
        exact ⟨by rw [HFX.out]; rfl, HA.out.trans ((HB4.out.trans (HB.out.mono hz4)).mono hzw)⟩
  · rw [decide_eq_false hG]
    have HF : Hid (gtL L = []) := if_neg hG
    clear hG kg1
    go_wp2
    go_ret
    exact ⟨by rw [HF.out]; rfl, HA.out.trans (HB1.out.mono hzw)⟩

end Go.Proofs.YtgeifbgjfbfcfaaDoor

/- Walks: GraphText of the program. -/
namespace Go.Proofs.YtgeifbgjfbfcfaaDoor
open Go.RowKit

set_option maxHeartbeats 4000000 in
set_option maxRecDepth 100000 in
theorem itoa_small (N : Nat) (w : World) (h : N ≤ 16) : Calls Tryd.prog 45 #[.int .i64 (N : Int)] w fun e w' => e = .returned (.string (bsL (dgs N))) ∧ w = w' := by
  by_cases h10 : N < 10
  · rw [dgs_one h10]
    clear h
    have hc : N = 0 ∨ N = 1 ∨ N = 2 ∨ N = 3 ∨ N = 4 ∨ N = 5 ∨ N = 6 ∨ N = 7 ∨ N = 8 ∨ N = 9 := by omega
    clear h10
    rcases hc with rfl | rfl | rfl | rfl | rfl | rfl | rfl | rfl | rfl | rfl
    all_goals (
      go_enter Tryd.func45, Tryd.ntmps45
      go_wp2
      go_ret
      exact ⟨rfl, rfl⟩)
  · rw [dgs_more h10, dgs_one (show N / 10 < 10 by omega)]
    have hc : N = 10 ∨ N = 11 ∨ N = 12 ∨ N = 13 ∨ N = 14 ∨ N = 15 ∨ N = 16 := by omega
    clear h10 h
    rcases hc with rfl | rfl | rfl | rfl | rfl | rfl | rfl
    all_goals (
      go_enter Tryd.func45, Tryd.ntmps45
      go_wp2
      go_ret
      exact ⟨rfl, rfl⟩)

/-- strings.Join of strings of one's own. -/
theorem join_own (B : Nat) (v : Value) (l : List (List UInt8)) (sep : List UInt8) (w : World) (h : OwnS w B v l) (h0 : 0 < l.length) (hl : l.length ≤ 1000) (hs : sep.length ≤ 10) (hx : ∀ x ∈ l, x.length ≤ 100) :
    Calls Tryd.prog 47 #[v, .string (bsL sep)] w fun e w' => e = .returned (.string (bsL (jn sep l))) ∧ Below w.heap.size w w' := by
  obtain ⟨g, cap, rfl, hg, hcap, hc⟩ := h.pos h0
  have e : (l.map bsL).map (·.data.toList) = l := by rw [List.map_map]; exact (List.map_congr_left (fun x _ => by simp [bsL])).trans (List.map_id _)
  have := Tryd.strings_Join g 0 cap (l.map bsL) (bsL sep) w (fun j x hj => by
      rw [List.getElem?_map] at hj
      obtain ⟨y, hy, rfl⟩ := Option.map_eq_some_iff.1 hj
      obtain ⟨hjl, e⟩ := List.getElem?_eq_some_iff.1 hy
      rw [Nat.zero_add, hc j hjl, e])
    hg (by rw [List.length_map]; omega) (by rw [List.length_map]; exact hcap) (by
      rw [e, show (bsL sep).data.toList = sep by simp [bsL], join_jn]
      have := jn_len hs (l := l) (k := 100) hx
      omega)
  rw [e, show (bsL sep).data.toList = sep by simp [bsL], join_jn, List.length_map] at this
  exact this

/-- The words of a graph, as far as k edges. -/
def gwTo (L : List (List Int)) (k : Nat) : List (List UInt8) := (dgs L.length ++ [58]) :: ((edgesTo L L.length).take k).map (fun e => jn [45] (wordsL e))
theorem gwTo_len {L : List (List Int)} {k : Nat} (h : k ≤ (edgesTo L L.length).length) : (gwTo L k).length = k + 1 := by simp [gwTo, List.length_take]; omega
theorem gwTo_step {L : List (List Int)} {k : Nat} (h : k < (edgesTo L L.length).length) : gwTo L (k + 1) = gwTo L k ++ [jn [45] (wordsL (nthR (edgesTo L L.length) k))] := by
  unfold gwTo
  rw [List.take_succ_eq_append_getElem h, List.map_append, nthR_eq h]
  rfl
theorem edge_word {e : List Int} {u v : Nat} (h : e = [(u : Int), (v : Int)]) : jn [45] (wordsL e) = dgs u ++ 45 :: dgs v := by
  subst h
  simp [wordsL, jn]
theorem gw_text {L : List (List Int)} (hG : GraphP L) : jn [32] (gwTo L (edgesTo L L.length).length) = gtL L := by
  have e1 : gtL L = gtTo L (edgesTo L L.length).length := if_pos hG
  rw [e1]
  unfold gwTo gtTo
  rw [jn, List.take_length, List.flatMap_map]
  congr 1
  rw [List.flatMap_def, List.flatMap_def]
  congr 1
  refine List.map_congr_left (fun e he => ?_)
  obtain ⟨i, hi, rfl⟩ := List.getElem_of_mem he
  obtain ⟨u, v, hev, _, _⟩ := edge_by hG hi
  rw [nthR_eq hi] at hev
  rw [edge_word hev, edT_len hev]
  rfl
theorem gw_short {L : List (List Int)} (hG : GraphP L) (k : Nat) : ∀ x ∈ gwTo L k, x.length ≤ 100 := by
  intro x hx
  have hz := hG.1
  rcases List.mem_cons.1 hx with rfl | hx
  · have := dgs_len 2 L.length (by omega) (by omega)
    rw [List.length_append]; simp; omega
  · rw [List.mem_map] at hx
    obtain ⟨e, he, rfl⟩ := hx
    obtain ⟨i, hi, rfl⟩ := List.getElem_of_mem (List.mem_of_mem_take he)
    obtain ⟨u, v, hev, hu, hv⟩ := edge_by hG hi
    rw [nthR_eq hi] at hev
    rw [edge_word hev, List.length_append, List.length_cons]
    have := dgs16 hu
    have := dgs16 hv
    omega

theorem OwnGrid.grownT {T T1 T2 : TypeId} {w w' : World} {B B' : Nat} {v u : Value} {L : List (List Int)} {n : Nat} {ys : List Value} (h : OwnGrid T T1 w B v L) (hu : w.ownsRow B' T2 1 u n ys) (hT : T ≠ T2) (hT1 : T1 ≠ T2) (hg : w.grownBy w' u.ownBlock) : OwnGrid T T1 w' B v L := by
  obtain ⟨R, h2, h3, h4, h5⟩ := h
  refine ⟨R, h2, ?_, fun i hi => (h4 i hi).grown hu hT hg, h5⟩
  rcases h3 with h3 | ⟨g, cap, cur, e, hgB, hh, r⟩
  · exact Or.inl h3
  · refine Or.inr ⟨g, cap, cur, e, hgB, ?_, r⟩
    obtain ⟨hlt, _⟩ := Array.getElem?_eq_some_iff.1 hh
    rw [hg.block g hlt]
    · exact hh
    · intro e2
      rcases hu.2 with ⟨e3, _⟩ | ⟨g', cap', cur', e3, _, hh', _⟩
      · rw [e3] at e2; simp [Value.ownBlock] at e2
      · rw [e3] at e2
        simp [Value.ownBlock] at e2
        subst e2
        rw [hh] at hh'
        simp at hh'
        exact hT1 hh'.2
theorem own_oneS (w : World) (B : Nat) (x : List UInt8) (hB : B ≤ w.heap.size) : OwnS (w.alloc (.cells #[.string (bsL x)] 9)) B (.slice (some ⟨w.heap.size, 0, none⟩) 1 1) [x] :=
  ⟨rfl, .inr ⟨w.heap.size, 1, #[.string (bsL x)], rfl, hB, heap_alloc_new w _, Nat.le_refl _, by simp [maxLen], rfl, rfl⟩⟩

set_option maxHeartbeats 4000000 in
set_option maxRecDepth 100000 in
theorem implGraphText_any (v : Value) (L : List (List Int)) (w : World) (h : GridAt w v L) : Calls Tryd.prog 18 #[.agg #[v]] w fun e w' => e = .returned (.string (bsL (gtL L))) ∧ Below w.heap.size w w' := by
  obtain ⟨i0, hi, hz0, hz1, hz2⟩ := info_parts Tryd.infoS
  obtain ⟨a0, c0, rfl⟩ := h.slice
  have ha : Below w.heap.size w (w.alloc (.cells #[.slice a0 L.length c0] 36)) := (Below.refl _ _).alloc (Nat.le_refl _) _
  have kg0 : (w.alloc (.cells #[.slice a0 L.length c0] 36)).cell? ⟨w.heap.size, 0, none⟩ = some (.slice a0 L.length c0) := by go_simp
  obtain ⟨w0, hw0⟩ : ∃ w0, w.alloc (.cells #[.slice a0 L.length c0] 36) = w0 := ⟨_, rfl⟩
  rw [hw0] at ha kg0
  have HW0 := Lib.hid hw0
  have HA := Lib.hid ha
  have hzw : w.heap.size ≤ w0.heap.size := ha.size
  have KG : Hid (∀ w', Below w0.heap.size w0 w' → w'.cell? ⟨w.heap.size, 0, none⟩ = some (.slice a0 L.length c0)) := fun w' hb => cell_keep hb kg0
  have GK : Hid (∀ w', Below w0.heap.size w0 w' → GridAt w' (.slice a0 L.length c0) L) := fun w' hb => (h.keep ha).keep hb
  clear h hw0 ha kg0
  go_enter Tryd.func18, Tryd.ntmps18
  go_wp2_with fail
  rw [HW0.out]
  refine (implGraphOk_any _ _ _ (GK.out _ (Below.refl _ _))).mono ?_
  rintro e w1 ⟨rfl, hb1⟩
  have HB1 := Lib.hid hb1
  have kg1 := KG.out _ hb1
  clear hb1
  by_cases hG : GraphP L
  · rw [decide_eq_true hG]
    have HG := Lib.hid hG
    have hz := hG.1
    have hel := edges_le hG
    have hd2 := dgs_len 2 L.length (by omega) (by omega)
    have hsz0 : (bsL (dgs L.length)).size ≤ 2 := by rw [bsL_size]; exact hd2
    have HEL : Hid (edgesL L = edgesTo L L.length) := by show edgesL L = _; simp [edgesL, hG]
    have HTX := Lib.hid (gw_text hG)
    have HSH := Lib.hid (gw_short hG)
    clear hG hd2
    go_wp2_with fail
    refine (itoa_small L.length _ hz.2).mono ?_
    rintro e w' ⟨rfl, rfl⟩
    have HX0 : Hid (bsL (dgs L.length) ++ { data := #[58] } = bsL (dgs L.length ++ [58])) := bsL_app _ [58]
    have hst1 : Below w1.heap.size w1 (w1.alloc (.cells #[.string (bsL (dgs L.length) ++ { data := #[58] })] 9)) := (Below.refl _ _).alloc (Nat.le_refl _) _
    have kg2 := cell_keep hst1 kg1
    have HW1 : Hid (OwnS (w1.alloc (.cells #[.string (bsL (dgs L.length) ++ { data := #[58] })] 9)) w0.heap.size (.slice (some ⟨w1.heap.size, 0, none⟩) 1 1) (gwTo L 0)) := by
      show OwnS _ _ _ _
      rw [HX0.out]
      exact own_oneS w1 w0.heap.size _ HB1.out.size
    obtain ⟨W1, hW1⟩ : ∃ W1, w1.alloc (.cells #[.string (bsL (dgs L.length) ++ { data := #[58] })] 9) = W1 := ⟨_, rfl⟩
    have HWE := Lib.hid hW1
    have HB1W : Hid (Below w0.heap.size w0 W1) := by rw [← hW1]; exact HB1.out.alloc HB1.out.size _
    rw [hW1] at HW1
    clear hst1 hW1 kg1
    go_wp2_with fail
    rw [HWE.out]
    refine (implEdgesOf_any _ _ _ (GK.out _ HB1W.out)).mono ?_
    rintro e w4 ⟨n4, a4, c4, rfl, ho4, hb4⟩
    rw [HEL.out] at ho4
    have HB4 : Hid (Below w0.heap.size w0 w4) := HB1W.out.trans (hb4.mono HB1W.out.size)
    have HW4 := Lib.hid (HW1.out.keep hb4)
    have HBE : Hid (∀ k, k < (edgesTo L L.length).length → ∃ u v : Nat, nthR (edgesTo L L.length) k = [(u : Int), (v : Int)] ∧ u < 16 ∧ v < 16) := fun k hk => edge_by HG.out hk
    have HST : Hid (∀ k, k < (edgesTo L L.length).length → gwTo L (k + 1) = gwTo L k ++ [jn [45] (wordsL (nthR (edgesTo L L.length) k))]) := fun k hk => gwTo_step hk
    have HLN : Hid (∀ k, k ≤ (edgesTo L L.length).length → (gwTo L k).length = k + 1) := fun k hk => gwTo_len hk
    have HGE := Lib.hid (ho4.mono (B' := W1.heap.size) (Nat.le_refl _))
    obtain ⟨E, hE⟩ : ∃ E, edgesTo L L.length = E := ⟨_, rfl⟩
    rw [hE] at HGE HBE HST HTX HLN hel
    obtain ⟨a4', c4', e4⟩ := HGE.out.grid.slice
    simp only [Value.slice.injEq] at e4
    obtain ⟨rfl, rfl, rfl⟩ := e4
    have hzz4 : W1.heap.size ≤ w4.heap.size := hb4.size
    clear ho4 hb4 kg2 hE HW1 HX0
    go_wp2_with fail
    go_loopw [3, 18] (fun ov iv wr => ∃ k : Nat, k ≤ E.length ∧ iv = .int .i64 k ∧ OwnS wr w0.heap.size ov (gwTo L k) ∧ OwnGrid 2 24 wr W1.heap.size (.slice a4 E.length c4) E ∧ Below w0.heap.size w0 wr) (fun _ iv _ => E.length - (intOf iv).toNat)
    case atStart => exact ⟨0, Nat.zero_le _, rfl, HW4.out, HGE.out, HB4.out⟩
    case round =>
      clear HW4 HGE
      obtain ⟨k, hk, rfl, hos, hog, hb⟩ := hrel
      obtain ⟨ao, co, es⟩ := hos.slice
      have hln := HLN.out k hk
      rw [hln] at es
      subst es
      have HOS := Lib.hid hos
      have HOG := Lib.hid hog
      have HB := Lib.hid hb
      have hzr : w0.heap.size ≤ wr.heap.size := hb.size
      clear hos hb
      by_cases hlt : k < E.length
      · obtain ⟨b, o, c, A, C, e2, l1, l2, hc⟩ := hog.grid.pos (by omega)
        simp only [Value.slice.injEq, true_and] at e2
        obtain ⟨rfl, rfl⟩ := e2
        obtain ⟨hck, hrk⟩ := hc k hlt
        obtain ⟨u, v, hev, hu, hv⟩ := HBE.out k hlt
        have HS2 := Lib.hid (HST.out k hlt)
        have HVP : Hid (VtxP (nthR E k)) := by
          rw [hev]
          intro i hi
          match i, hi with
          | 0, _ => simp [nth]; omega
          | 1, _ => simp [nth]; omega
        have hel2 : (nthR E k).length = 2 := by rw [hev]; rfl
        have HJ := Lib.hid (joined_any (.slice (A k) (nthR E k).length (C k)) (nthR E k) [45] wr hrk (by omega) (by omega) HVP.out (by simp))
        have hwl : (jn [45] (wordsL (nthR E k))).length ≤ 100 := by
          have h1 := jn_len (sep := [45]) (by simp) (l := wordsL (nthR E k)) (k := 2) (fun x hx => by
            rw [hev] at hx
            unfold wordsL at hx
            simp at hx
            rcases hx with rfl | rfl
            · exact dgs16 hu
            · exact dgs16 hv)
          rw [wordsL_len, hel2] at h1
          omega
        obtain ⟨Y, hY⟩ : ∃ Y, jn [45] (wordsL (nthR E k)) = Y := ⟨_, rfl⟩
        rw [hY] at HS2 HJ hwl
        obtain ⟨ar, har⟩ : ∃ ar, A k = ar := ⟨_, rfl⟩
        obtain ⟨cr, hcr⟩ : ∃ cr, C k = cr := ⟨_, rfl⟩
        obtain ⟨nr, hnr⟩ : ∃ nr, (nthR E k).length = nr := ⟨_, rfl⟩
        rw [har, hcr, hnr] at hck HJ
        have hltI : (k : Int) < (E.length : Int) := by omega
        have HOW : Hid (wr.ownsRow w0.heap.size 9 1 (.slice ao (k + 1) co) (gwTo L k).length ((gwTo L k).map strV)) := HOS.out
        have hl3 : (gwTo L k).length ≤ 130 := by omega
        have HLNE := Lib.hid hln
        clear hc hrk hev hY har hcr hnr hog hel2 hln
        go_wp2_with fail
        refine HJ.out.mono ?_
        rintro e w5 ⟨rfl, hb5⟩
        have HO5 := Lib.hid (HOS.out.keep hb5)
        have HG5 := Lib.hid (HOG.out.keep hb5)
        have HB5 : Hid (Below w0.heap.size w0 w5) := HB.out.trans (hb5.mono HB.out.size)
        have hz5 : w0.heap.size ≤ w5.heap.size := HB5.out.size
        have HLIT := Lib.hid (str_lit w5 Y 9)
        have hst5 : Below w5.heap.size w5 (w5.alloc (.cells #[.string (bsL Y)] 9)) := (Below.refl _ _).alloc (Nat.le_refl _) _
        have HG6 := Lib.hid (HG5.out.keep hst5)
        clear hb5 hck hst5 HJ
        go_wp2_with (at_builtin; refine wpList_append_own _ rfl (.tmp 22) (.tmp 25) 51 rfl w0.heap.size 9 i0 (.string ⟨#[]⟩) 1 16 Tryd.underlying51 hi hz0 hz1 hz2 rfl (by decide) _ _ _ rfl (HO5.out.alloc _) ⟨w5.heap.size, 0, none⟩ 1 1 [strV Y] rfl rfl HLIT.out (str_one _) (by unfold maxLen; omega) (by omega) (by simp; omega) ?_; intro v6 w6 hown6 hgrow6 _; have HO6 := Lib.hid (OwnS.snoc hown6); have HG7 := Lib.hid (HG6.out.grownT (HO5.out.alloc _) (by decide) (by decide) hgrow6); have HB6 : Hid (Below w0.heap.size w0 w6) := (HB5.out.alloc hz5 _).grown hgrow6 (by simp; omega) (fun j hj => (HO5.out.lt j hj).1); clear hown6 hgrow6)
        go_roundw
        case rel => exact ⟨k + 1, by omega, by go_num, by rw [HS2.out]; exact HO6.out, HG7.out, HB6.out⟩
        case measure => simp [intOf]; omega
      · obtain rfl : k = E.length := by omega
        have HJ := Lib.hid (join_own w0.heap.size _ (gwTo L E.length) [32] wr HOS.out (by omega) (by omega) (by simp) (HSH.out _))
        rw [HTX.out] at HJ
        clear hog hln
        go_wp2_with fail
        refine HJ.out.mono ?_
        rintro e w7 ⟨rfl, hb7⟩
        have HB7 : Hid (Below w0.heap.size w0 w7) := HB.out.trans (hb7.mono HB.out.size)
        clear hb7
        go_wp2
        go_ret
        exact ⟨rfl, HA.out.trans (HB7.out.mono hzw)⟩
  · rw [decide_eq_false hG]
    have HF : Hid (gtL L = []) := if_neg hG
    clear hG kg1
    go_wp2
    go_ret
    exact ⟨by rw [HF.out]; rfl, HA.out.trans (HB1.out.mono hzw)⟩

end Go.Proofs.YtgeifbgjfbfcfaaDoor
