/- Walks: MeetsOf, of the model. -/
import Derived.Test.YtohjfcfcopbmoaaDM8
import Derived.Deep.RegionHeld3

namespace Go.Proofs.Ytohjfcfcopbmoaa
open Go.RowKit Go.Shelf

theorem ownsRowD_keep {w w' : World} {B : Nat} {T : TypeId} {v : Value} {n : Nat} {xs : List Value} (h : w.ownsRow B T 1 v n xs) (hb : Below w.heap.size w w') : w'.ownsRow B T 1 v n xs := by
  refine ⟨h.1, ?_⟩
  rcases h.2 with h1 | ⟨g, cap, cur, e, hgB, hh, r⟩
  · exact Or.inl h1
  · exact Or.inr ⟨g, cap, cur, e, hgB, by rw [hb.block g (Array.getElem?_eq_some_iff.1 hh).1]; exact hh, r⟩
theorem litR (w : World) (x : Value) (T : TypeId) : ∀ j u, ([x] : List Value)[j]? = some u → (w.alloc (.cells #[x] T)).cell? ((⟨w.heap.size, 0, none⟩ : Addr).add j) = some u := World.news_of_block (heap_alloc_new _ _)
theorem own_noneG (w : World) (B : Nat) (hB : B ≤ w.heap.size) : OwnGrid 2 33 (w.alloc (.cells #[] 33)) B (.slice (some ⟨w.heap.size, 0, none⟩) 0 0) [] :=
  ⟨fun _ => .slice none 0 0, Nat.zero_le _, Or.inr ⟨w.heap.size, 0, #[], rfl, hB, heap_alloc_new w _, Nat.le_refl _, Nat.zero_le _, rfl, fun i hi => absurd hi (by simp)⟩, fun i hi => absurd hi (by simp), fun i j k _ hj => absurd hj (by simp)⟩
theorem mapTo_snoc (B K : List (List Int)) {k : Nat} (h : k < K.length) : (K.take (k + 1)).map (meetL B) = (K.take k).map (meetL B) ++ [meetL B (nthR K k)] := by
  rw [List.take_succ_eq_append_getElem h, List.map_append, nthR_eq h]; rfl

set_option maxHeartbeats 8000000 in
set_option maxRecDepth 100000 in
theorem specMeetsOf_any (v u : Value) (B K : List (List Int)) (w : World) (h : GridAt w v B) (h' : GridAt w u K) (hs : ∀ i, i < B.length → (nthR B i).length ≤ 2000000) :
    Calls Try.prog 25 #[.agg #[v, u]] w (GaveGrid w (meetsL B K)) := by
  obtain ⟨i0, hi, hz0, hz1, hz2⟩ := info_parts Try.infoR
  have hl := h.len
  have hl' := h'.len
  unfold maxLen at hl hl'
  obtain ⟨a, c, rfl⟩ := h.slice
  obtain ⟨a', c', rfl⟩ := h'.slice
  obtain ⟨wA, hwA⟩ : ∃ wA, wA = (w.alloc (.cells #[.slice a B.length c, .slice a' K.length c'] 27)).alloc (.cells #[] 33) := ⟨_, rfl⟩
  have hb0 : Below w.heap.size w (w.alloc (.cells #[.slice a B.length c, .slice a' K.length c'] 27)) := (Below.refl _ _).alloc (Nat.le_refl _) _
  have HB : Hid (Below w.heap.size w wA) := by rw [hwA]; exact hb0.alloc (by simp) _
  have X0 : Hid (Box2 27 wA w.heap.size (.slice a B.length c) (.slice a' K.length c')) := by
    rw [hwA]; exact (Box2.new w (.slice a B.length c) (.slice a' K.length c') 27).keep ((Below.refl _ _).alloc (Nat.le_refl _) _)
  have HO0 : Hid (OwnGrid 2 33 wA (w.heap.size + 1) (.slice (some ⟨w.heap.size + 1, 0, none⟩) 0 0) []) := by
    rw [hwA]
    have h1 := own_noneG (w.alloc (.cells #[.slice a B.length c, .slice a' K.length c'] 27)) (w.heap.size + 1) (by simp)
    rw [size_alloc1] at h1
    exact h1
  have hsA : wA.heap.size = w.heap.size + 2 := by rw [hwA]; simp
  have HG := Lib.hid h
  have HK := Lib.hid h'
  have HS := Lib.hid hs
  clear h h' hs hb0
  go_enter Try.func25, Try.ntmps25
  go_wp2
  rw [← hwA]
  clear hwA
  go_loopw [3, 4] (fun s i wr => ∃ k : Nat, k ≤ K.length ∧ i = .int .i64 k ∧ OwnGrid 2 33 wr (w.heap.size + 1) s ((K.take k).map (meetL B)) ∧ (k = 0 ∨ FormP B K) ∧ Below (w.heap.size + 1) wA wr) (fun _ i _ => K.length - (intOf i).toNat)
  case atStart => exact ⟨0, Nat.zero_le _, rfl, HO0.out, Or.inl rfl, Below.refl _ _⟩
  case round =>
    obtain ⟨k, hk, rfl, ho, hkF, hb⟩ := hrel
    have hzr : w.heap.size + 2 ≤ wr.heap.size := by have := hb.size; omega
    have HB1 := Lib.hid hb
    have HBW : Hid (Below w.heap.size w wr) := HB.out.trans (hb.mono (by omega))
    have hx1 : Box2 27 wr w.heap.size (.slice a B.length c) (.slice a' K.length c') := by
      unfold Box2; rw [hb.block _ (by omega)]; exact X0.out
    have X1 := Lib.hid hx1
    obtain ⟨as_, cs, es⟩ := ho.grid.slice
    subst es
    obtain ⟨n, hn⟩ : ∃ n, n = ((K.take k).map (meetL B)).length := ⟨_, rfl⟩
    have hnk : n = k := by rw [hn, List.length_map, List.length_take]; omega
    rw [← hn, hnk] at *
    clear hn
    have HO := Lib.hid ho
    have HKF := Lib.hid hkF
    have kx0 := hx1.c0
    have kx1 := hx1.c1
    clear ho hb hx1 HO0 hnk hkF
    by_cases hlt : k < K.length
    · have hkI : (k : Int) < (K.length : Int) := by omega
      go_wp2_with fail
      refine (l9Form_any _ _ B K wr (HG.out.keep HBW.out) (HK.out.keep HBW.out)).mono ?_
      rintro e w5 ⟨rfl, hb5⟩
      have HB5 : Hid (Below wr.heap.size wr w5) := hb5
      have HO5 := Lib.hid (HO.out.keep hb5)
      have HBW5 : Hid (Below w.heap.size w w5) := HBW.out.trans (hb5.mono HBW.out.size)
      have X5 := Lib.hid (X1.out.keep hb5)
      have hz5 : w.heap.size + 2 ≤ w5.heap.size := by have := hb5.size; omega
      clear hb5 kx0 kx1
      by_cases hF : FormP B K
      · rw [decide_eq_true hF]
        have hk16 := hF.1
        obtain ⟨e1, e2, e3, e4⟩ := hF.2.2.2 k hlt
        have HF := Lib.hid hF
        obtain ⟨x, hx⟩ : ∃ x : Nat, nth (nthR K k) 0 = (x : Int) := ⟨(nth (nthR K k) 0).toNat, by omega⟩
        obtain ⟨y, hy⟩ : ∃ y : Nat, nth (nthR K k) 1 = (y : Int) := ⟨(nth (nthR K k) 1).toNat, by omega⟩
        have HE : Hid (meetL B (nthR K k) = (nthR B x).filter (fun z => hasB (nthR B y) z)) := by
          show _ = _
          unfold meetL
          rw [hx, hy, Int.toNat_natCast, Int.toNat_natCast]
        rw [hx] at e2 e3
        rw [hy] at e3 e4
        have hxB : x < B.length := by omega
        have hyB : y < B.length := by omega
        have hxI : (x : Int) < (B.length : Int) := by omega
        have hyI : (y : Int) < (B.length : Int) := by omega
        obtain ⟨b, o, cb, A, C, eb, l1, l2, hc⟩ := HG.out.pos (by omega)
        simp only [Value.slice.injEq, true_and] at eb
        obtain ⟨rfl, rfl⟩ := eb
        obtain ⟨bk, ok, ck, A2, C2, ek, l3, l4, hc2⟩ := HK.out.pos (by omega)
        simp only [Value.slice.injEq, true_and] at ek
        obtain ⟨rfl, rfl⟩ := ek
        obtain ⟨hck, hrow⟩ := hc2 k hlt
        obtain ⟨bl, ol, cl, er, m1, m2, hcr⟩ := hrow.pos (by omega)
        rw [er, e1] at hck
        have hk0 := hcr 0 (by omega)
        have hk1 := hcr 1 (by omega)
        rw [hx, Nat.add_zero] at hk0
        rw [hy] at hk1
        obtain ⟨hcx, hrx⟩ := hc x hxB
        obtain ⟨hcy, hry⟩ := hc y hyB
        have hlx := HS.out x hxB
        obtain ⟨Xs, hX⟩ : ∃ Xs, Xs = nthR B x := ⟨_, rfl⟩
        obtain ⟨Ys, hY⟩ : ∃ Ys, Ys = nthR B y := ⟨_, rfl⟩
        rw [← hX] at hcx hrx hlx HE
        rw [← hY] at hcy hry HE
        obtain ⟨ax, hax⟩ : ∃ ax, ax = A x := ⟨_, rfl⟩
        obtain ⟨cx, hcxx⟩ : ∃ cx, cx = C x := ⟨_, rfl⟩
        obtain ⟨ay, hay⟩ : ∃ ay, ay = A y := ⟨_, rfl⟩
        obtain ⟨cy, hcyy⟩ : ∃ cy, cy = C y := ⟨_, rfl⟩
        rw [← hax, ← hcxx] at hcx hrx
        rw [← hay, ← hcyy] at hcy hry
        have kb0 := X5.out.c0
        have kb1 := X5.out.c1
        have q1 := block_lt_of_cell hck
        have q2 := block_lt_of_cell hk0
        have q3 := block_lt_of_cell hcx
        dsimp only at q1 q2 q3
        have KS : Hid (∀ W, Below (w.heap.size + 1) w5 W → W.cell? ⟨w.heap.size, 0, none⟩ = some (.slice (some ⟨b, o, none⟩) B.length c) ∧ W.cell? ⟨w.heap.size, 1, none⟩ = some (.slice (some ⟨bk, ok, none⟩) K.length c') ∧ W.cell? ⟨bk, ok + k, none⟩ = some (.slice (some ⟨bl, ol, none⟩) 2 cl) ∧ W.cell? ⟨bl, ol, none⟩ = some (.int .i64 (x : Int)) ∧ W.cell? ⟨bl, ol + 1, none⟩ = some (.int .i64 (y : Int)) ∧ W.cell? ⟨b, o + x, none⟩ = some (.slice ax Xs.length cx) ∧ W.cell? ⟨b, o + y, none⟩ = some (.slice ay Ys.length cy)) :=
          fun W hb => ⟨by rw [hb.cell (by simp)]; exact kb0, by rw [hb.cell (by simp)]; exact kb1, by rw [hb.cell (by simp; omega)]; exact cell_keep HBW5.out hck, by rw [hb.cell (by simp; omega)]; exact cell_keep HBW5.out hk0, by rw [hb.cell (by simp; omega)]; exact cell_keep HBW5.out hk1, by rw [hb.cell (by simp; omega)]; exact cell_keep HBW5.out hcx, by rw [hb.cell (by simp; omega)]; exact cell_keep HBW5.out hcy⟩
        have ks := KS.out w5 (Below.refl _ _)
        have HRX : Hid (∀ W, Below w5.heap.size w5 W → RowAt W (.slice ax Xs.length cx) Xs) := fun W hb => (hrx.keep HBW5.out).keep hb
        have HRY : Hid (∀ W, Below w5.heap.size w5 W → RowAt W (.slice ay Ys.length cy) Ys) := fun W hb => (hry.keep HBW5.out).keep hb
        obtain ⟨R, hR, hRr, hRd⟩ := HO5.out.owns
        have hgl : ((K.take k).map (meetL B)).length = k := by rw [List.length_map, List.length_take]; omega
        have HGL := Lib.hid hgl
        rw [hgl] at hR hRr hRd
        have HR := Lib.hid hR
        have HRr := Lib.hid hRr
        have HRd := Lib.hid hRd
        have HSN := Lib.hid (mapTo_snoc B K hlt)
        have HC3 : Hid (k + 1 ≤ maxLen) := by show _ ≤ _; unfold maxLen; omega
        have HC4 : Hid ((k + 1) * 24 ≤ 140737488355328) := by show _ ≤ _; omega
        clear hc hc2 hrow hcr hck hk0 hk1 hcx hcy hrx hry hX hY hax hcxx hay hcyy hx hy e1 kb0 kb1 hR hRr hRd hgl er hF
        go_wp2_with fail
        go_region_held3 (fun wx => wx.cell? ⟨w.heap.size, 0, none⟩ = some (.slice (some ⟨b, o, none⟩) B.length c) ∧ wx.cell? ⟨w.heap.size, 1, none⟩ = some (.slice (some ⟨bk, ok, none⟩) K.length c') ∧ wx.cell? ⟨bk, ok + k, none⟩ = some (.slice (some ⟨bl, ol, none⟩) 2 cl) ∧ wx.cell? ⟨bl, ol, none⟩ = some (.int .i64 (x : Int)) ∧ wx.cell? ⟨bl, ol + 1, none⟩ = some (.int .i64 (y : Int)) ∧ wx.cell? ⟨b, o + x, none⟩ = some (.slice ax Xs.length cx) ∧ wx.cell? ⟨b, o + y, none⟩ = some (.slice ay Ys.length cy)) (first | exact ks | with_reducible exact KS.out _ (Below.refl _ _).drew | with_reducible exact KS.out _ HM7.out | with_reducible exact KS.out _ (HM7.out.alloc HZ7.out _) | with_reducible exact KS.out _ HB8.out)
          (first
            | (go_at_call 48; refine (l8MeetD_any _ _ Xs Ys _ (HRX.out _ (Below.refl _ _).drew) (HRY.out _ (Below.refl _ _).drew) hlx).mono ?_; rintro e w7 ⟨n7, a7, c7, rfl, ho7, hb7⟩; have HB7 : Hid (Below w5.heap.size w5 w7) := (Below.refl _ _).drew.trans hb7; have HO7 : Hid (OwnRow 2 w7 w5.heap.size (.slice a7 n7 c7) (meetL B (nthR K k))) := (by rw [HE.out]; exact ho7); have HOR7 := Lib.hid (ownsRowD_keep HR.out HB7.out); have HM7 : Hid (Below (w.heap.size + 1) w5 w7) := HB7.out.mono (by omega); have HZ7 : Hid (w.heap.size + 1 ≤ w7.heap.size) := (by have h := HB7.out.size; show _ ≤ _; omega); clear ho7 hb7)
            | (refine step_append_own _ (by rfl) (.tmp 17) (.tmp 41) 22 (by rfl) (w.heap.size + 1) 33 i0 (.slice none 0 0) 1 24 Try.underlying22 hi hz0 hz1 hz2 rfl (by omega) (.slice as_ k cs) _ _ (by rfl) (HOR7.out.alloc _) ⟨w7.heap.size, 0, none⟩ 1 1 [.slice a7 n7 c7] (by rfl) (by rfl) (litR _ _ _) (fun u hu => by rw [List.mem_singleton] at hu; subst hu; rfl) HC3.out HC4.out (by have := HB7.out.size; simp; omega) ?_; intro v8 w8 hown8 hgrow8; have HOW8 := Lib.hid hown8; have HGR8 := Lib.hid hgrow8; have HB8 : Hid (Below (w.heap.size + 1) w5 w8) := (HM7.out.alloc HZ7.out _).grown hgrow8 (by have := HZ7.out; simp; omega) (fun j hj => (HOR7.out.lt j hj).1); clear hown8 hgrow8))
        all_goals (
          have hsn := OwnGrid.snoc (T := 2) (T1 := 33) (w0 := w5) (w := w7.alloc (.cells #[.slice a7 n7 c7] 33)) (L := (K.take k).map (meetL B)) (n := k) (by decide) (HB7.out.alloc HB7.out.size _) (show w.heap.size + 1 ≤ w5.heap.size by omega) (HO7.out.keep ((Below.refl _ _).alloc (Nat.le_refl _) _)) HGL.out.symm (by rw [HGL.out]; exact HC3.out) R (by rw [HGL.out]; exact HR.out) (by rw [HGL.out]; exact HRr.out) (by rw [HGL.out]; exact HRd.out) (by rw [HGL.out]; exact HOW8.out) HGR8.out
          rw [← HSN.out] at hsn
          have HSG := Lib.hid hsn
          have HBE : Hid (Below (w.heap.size + 1) wA w8) := HB1.out.trans ((HB5.out.mono (by omega)).trans HB8.out)
          clear hsn
          go_wp2
          go_roundw
          case rel => exact ⟨k + 1, by omega, by go_num, HSG.out, Or.inr HF.out, HBE.out⟩
          case measure => simp [intOf]; omega)
      · obtain rfl : k = 0 := HKF.out.resolve_right hF
        have HN : Hid (meetsL B K = []) := if_neg hF
        rw [decide_eq_false hF]
        have ho := HO5.out
        rw [List.take_zero, List.map_nil] at ho
        have HOE := Lib.hid (ho.mono (show w.heap.size ≤ w.heap.size + 1 by omega))
        clear ho hF
        go_wp2
        go_ret
        exact ⟨_, _, _, rfl, by rw [HN.out]; exact HOE.out, HBW5.out⟩
    · obtain rfl : k = K.length := by omega
      have HN : Hid ((K.take K.length).map (meetL B) = meetsL B K) := by
        show _ = _
        rw [List.take_length]
        rcases HKF.out with h0 | hF
        · have : K = [] := List.length_eq_zero_iff.1 h0
          subst this
          unfold meetsL
          split <;> rfl
        · unfold meetsL
          rw [if_pos hF]
      have ho := HO.out
      rw [HN.out] at ho
      have hlm : (meetsL B K).length = K.length := by rw [← HN.out]; simp
      try rw [hlm] at ho
      clear hlm
      have HOE := Lib.hid (ho.mono (show w.heap.size ≤ w.heap.size + 1 by omega))
      clear ho
      go_wp2
      go_ret
      exact ⟨_, _, _, rfl, HOE.out, HBW.out⟩

end Go.Proofs.Ytohjfcfcopbmoaa
