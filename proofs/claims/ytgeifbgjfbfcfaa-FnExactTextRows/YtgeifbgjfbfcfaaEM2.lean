/- Walks: the model's search for a list by which a graph stands for a pattern. -/
import Derived.Test.YtgeifbgjfbfcfaaEM1
import Derived.Test.YtgeifbgjfbfcfaaQU2
import Derived.Test.YtgeifbgjfbfcfaaQLater
import Derived.Deep.RegionHeld3

namespace Go.Proofs.Ytgeifbgjfbfcfaa
open Go.RowKit

theorem fitTo_mono {P A : Nat → Nat → Bool} {xs : List Int} {w v j : Nat} (h : fitTo P A xs w v j = false) : ∀ k, j ≤ k → fitTo P A xs w v k = false := by
  intro k hk
  induction k with
  | zero => obtain rfl : j = 0 := by omega
            exact h
  | succ k ih =>
    by_cases e : j = k + 1
    · subst e; exact h
    · rw [fitTo, ih (by omega)]; rfl
theorem next_bit {P A : Nat → Nat → Bool} {n : Nat} {xs : List Int} {v : Nat} (hn : n ≤ 16) : (nextN P n A xs).testBit v = true ↔ v < n ∧ fitTo P A xs xs.length v xs.length = true := by
  unfold nextN
  rw [roomN_bit hn, fitTo_iff]
theorem enum_none {C : List Int → Nat} {r : Nat} {xs : List Int} (h : ∀ u : Nat, u < 16 → (C xs).testBit u = true → enumL C r (xs ++ [(u : Int)]) = []) : enumL C (r + 1) xs = [] := by
  rw [enumL, List.flatMap_eq_nil_iff]
  intro v hv
  obtain ⟨u, hu, hb, rfl⟩ := (listM_mem _ _).1 hv
  exact h u hu hb
theorem enum_first {C : List Int → Nat} {r : Nat} {xs : List Int} {v : Nat} (hv16 : v < 16) (hv : (C xs).testBit v = true) (h : ∀ u : Nat, u < v → (C xs).testBit u = true → enumL C r (xs ++ [(u : Int)]) = []) (hne : enumL C r (xs ++ [(v : Int)]) ≠ []) :
    firstL (enumL C (r + 1) xs) = firstL (enumL C r (xs ++ [(v : Int)])) := by
  have hin := firstL_mem hne
  refine firstL_eq (enum_sorted _ _) ?_ ?_
  · rw [enumL, List.mem_flatMap]
    exact ⟨(v : Int), (listM_mem _ _).2 ⟨v, hv16, hv, rfl⟩, hin⟩
  · intro z hz
    rw [enumL, List.mem_flatMap] at hz
    obtain ⟨x, hx, hz⟩ := hz
    obtain ⟨u, hu, hb, rfl⟩ := (listM_mem _ _).1 hx
    rcases Nat.lt_trichotomy u v with hlt | rfl | hlt
    · rw [h u hlt hb] at hz; simp at hz
    · exact firstL_least (enum_sorted _ _) hz
    · right
      obtain ⟨a1, a2, _⟩ := enum_mem.1 hin
      obtain ⟨b1, b2, _⟩ := enum_mem.1 hz
      rw [List.length_append, List.length_singleton] at a1 a2 b1 b2
      have e1 : ∀ i, i < xs.length + 1 → nth (firstL (enumL C r (xs ++ [(v : Int)]))) i = nth (xs ++ [(v : Int)]) i := fun i hi => by rw [← a1, nth_take hi, a1]
      have e2 : ∀ i, i < xs.length + 1 → nth z i = nth (xs ++ [(u : Int)]) i := fun i hi => by rw [← b1, nth_take hi]
      refine ⟨xs.length, by omega, by omega, fun j hj => ?_, ?_⟩
      · rw [e1 j (by omega), e2 j (by omega), nth_app_lt hj, nth_app_lt hj]
      · rw [e1 _ (by omega), e2 _ (by omega), nth_app_at, nth_app_at]; omega

set_option maxHeartbeats 16000000 in
set_option maxRecDepth 100000 in
theorem l4Embed_any (Lp Lg : List (List Int)) (hGp : GraphP Lp) (hGg : GraphP Lg) (ap ag : Option Addr) (cp cg : Nat) : ∀ (r : Nat) (xs : List Int) (v1 : Value) (B : Nat) (w : World),
    GridAt w (.slice ap Lp.length cp) Lp → GridAt w (.slice ag Lg.length cg) Lg → OwnRow 2 w B v1 xs → B ≤ w.heap.size → xs.length + r = Lp.length → (∀ i, i < xs.length → 0 ≤ nth xs i ∧ nth xs i < (Lg.length : Int)) →
    Calls Try.prog 45 #[.agg #[.slice ap Lp.length cp], .agg #[.slice ag Lg.length cg], v1] w fun e w' => ∃ m a c, e = .returned (.slice a m c) ∧ OwnRow 2 w' B (.slice a m c) (firstL (enumL (nextN (adjB Lp) Lg.length (adjB Lg)) r xs)) ∧ Below w.heap.size w w' := by
  obtain ⟨i0, hi, hz0, hz1, hz2⟩ := info_parts Try.infoI
  intro r
  induction r with
  | zero =>
    intro xs v1 B w hp hg ho hB hlen hxs
    obtain ⟨a1, c1, rfl⟩ := ho.row.slice
    have ha : Below w.heap.size w ((w.alloc (.cells #[.slice ap Lp.length cp] 26)).alloc (.cells #[.slice ag Lg.length cg] 26)) := ((Below.refl _ _).alloc (Nat.le_refl _) _).alloc (by simp) _
    have HP := Lib.hid (hp.keep ha)
    have HO := Lib.hid (ho.keep ha)
    have HA := Lib.hid ha
    have qe : ((xs.length : Int) == (Lp.length : Int)) = true := by rw [beq_iff_eq]; omega
    clear hp hg ho ha hlen
    go_enter Try.func45, Try.ntmps45
    go_wp2_with fail
    refine (l1Size_any _ Lp _ HP.out).mono ?_
    rintro e w1 ⟨rfl, hb1⟩
    have HO1 := Lib.hid (HO.out.keep hb1)
    have HB1 : Hid (Below w.heap.size w w1) := HA.out.trans (hb1.mono HA.out.size)
    clear hb1
    go_wp2
    go_ret
    exact ⟨_, _, _, rfl, HO1.out, HB1.out⟩
  | succ r ih =>
    intro xs v1 B w hp hg ho hB hlen hxs
    obtain ⟨a1, c1, rfl⟩ := ho.row.slice
    have hzp := hGp.1
    have hzg := hGg.1
    have k30 : ((w.alloc (.cells #[.slice ap Lp.length cp] 26)).alloc (.cells #[.slice ag Lg.length cg] 26)).cell? ⟨w.heap.size, 0, none⟩ = some (.slice ap Lp.length cp) := by go_simp
    have k40 : ((w.alloc (.cells #[.slice ap Lp.length cp] 26)).alloc (.cells #[.slice ag Lg.length cg] 26)).cell? ⟨w.heap.size + 1, 0, none⟩ = some (.slice ag Lg.length cg) := by go_simp
    obtain ⟨w0, hw0⟩ : ∃ w0, (w.alloc (.cells #[.slice ap Lp.length cp] 26)).alloc (.cells #[.slice ag Lg.length cg] 26) = w0 := ⟨_, rfl⟩
    have ha : Below w.heap.size w w0 := by rw [← hw0]; exact ((Below.refl _ _).alloc (Nat.le_refl _) _).alloc (by simp) _
    have HW0 := Lib.hid hw0
    rw [hw0] at k30 k40
    clear hw0
    have K3 : Hid (∀ w', Below w0.heap.size w0 w' → w'.cell? ⟨w.heap.size, 0, none⟩ = some (.slice ap Lp.length cp)) := fun w' hb => cell_keep hb k30
    have K4 : Hid (∀ w', Below w0.heap.size w0 w' → w'.cell? ⟨w.heap.size + 1, 0, none⟩ = some (.slice ag Lg.length cg)) := fun w' hb => cell_keep hb k40
    have GP : Hid (∀ w', Below w0.heap.size w0 w' → GridAt w' (.slice ap Lp.length cp) Lp) := fun w' hb => (hp.keep ha).keep hb
    have GG : Hid (∀ w', Below w0.heap.size w0 w' → GridAt w' (.slice ag Lg.length cg) Lg) := fun w' hb => (hg.keep ha).keep hb
    have OX : Hid (∀ w', Below w0.heap.size w0 w' → OwnRow 2 w' B (.slice a1 xs.length c1) xs) := fun w' hb => (ho.keep ha).keep hb
    have HA := Lib.hid ha
    have HXS := Lib.hid hxs
    have HGP := Lib.hid hGp
    have HGG := Lib.hid hGg
    have hB0 : B ≤ w0.heap.size := Nat.le_trans hB HA.out.size
    have qe : ((xs.length : Int) == (Lp.length : Int)) = false := by rw [beq_eq_false_iff_ne]; omega
    have hx16 : xs.length < 16 := by omega
    obtain ⟨C, hC⟩ : ∃ C, C = nextN (adjB Lp) Lg.length (adjB Lg) := ⟨_, rfl⟩
    have HCB : Hid (∀ v, (C xs).testBit v = true ↔ v < Lg.length ∧ fitTo (adjB Lp) (adjB Lg) xs xs.length v xs.length = true) := fun v => by rw [hC]; exact next_bit hzg.2
    rw [← hC] at ih ⊢
    have IH := Lib.hid ih
    clear hp hg ho ha hxs ih k40 hC hGp hGg
    go_enter Try.func45, Try.ntmps45
    go_wp2_with fail
    rw [HW0.out]
    refine (l1Size_any _ Lp _ (GP.out _ (Below.refl _ _))).mono ?_
    rintro e w1 ⟨rfl, hb1⟩
    have HB1 := Lib.hid hb1
    clear hb1 k30
    go_wp2_with fail
    go_loopw [8] (fun i wr => ∃ q : Nat, q ≤ Lg.length ∧ i = .int .i64 q ∧ (∀ u : Nat, u < q → (C xs).testBit u = true → enumL C r (xs ++ [(u : Int)]) = []) ∧ Below w0.heap.size w0 wr) (fun i _ => Lg.length - (intOf i).toNat)
    case atStart => exact ⟨0, Nat.zero_le _, rfl, fun u hu => absurd hu (by omega), HB1.out⟩
    case round =>
      clear HB1
      obtain ⟨q, hq, rfl, hno, hb⟩ := hrel
      have HNO := Lib.hid hno
      have HB := Lib.hid hb
      have k4 := K4.out _ hb
      clear hno hb
      go_wp2_with fail
      refine (l1Size_any _ Lg _ (GG.out _ HB.out)).mono ?_
      rintro e w2 ⟨rfl, hb2⟩
      have HB2 : Hid (Below w0.heap.size w0 w2) := HB.out.trans (hb2.mono HB.out.size)
      clear hb2 k4 HB
      by_cases hlt : q < Lg.length
      · go_wp2_with fail
        refine (l1Has_any _ xs (q : Int) _ (OX.out _ HB2.out).row).mono ?_
        rintro e w' ⟨rfl, rfl⟩
        go_wp2_with fail
        go_loopw [9, 10] (fun f i wx => ∃ j : Nat, j ≤ xs.length ∧ i = .int .i64 j ∧ f = .bool (fitTo (adjB Lp) (adjB Lg) xs xs.length q j) ∧ Below w0.heap.size w0 wx) (fun _ i _ => xs.length - (intOf i).toNat)
        case atStart => exact ⟨0, Nat.zero_le _, rfl, rfl, HB2.out⟩
        case round =>
          clear HB2
          rename World => wx
          obtain ⟨j, hj, rfl, rfl, hb⟩ := hrel
          have HBX := Lib.hid hb
          have hzx := hb.size
          have k3 := K3.out _ hb
          have k4 := K4.out _ hb
          clear hb
          cases hf : fitTo (adjB Lp) (adjB Lg) xs xs.length q j with
          | false =>
            have HF : Hid (¬ (C xs).testBit q = true) := fun h => by
              have := ((HCB.out q).1 h).2
              rw [fitTo_mono hf xs.length hj] at this
              cases this
            clear hf k3 k4
            by_cases hjl : (j : Int) < (xs.length : Int)
            · go_wp2
              go_roundw
              case rel =>
                refine ⟨q + 1, by omega, by go_num, fun u hu hbu => ?_, HBX.out⟩
                rcases Nat.lt_succ_iff_lt_or_eq.1 hu with h | rfl
                · exact HNO.out u h hbu
                · exact absurd hbu HF.out
              case measure => simp [intOf]; omega
            · go_wp2
              go_roundw
              case rel =>
                refine ⟨q + 1, by omega, by go_num, fun u hu hbu => ?_, HBX.out⟩
                rcases Nat.lt_succ_iff_lt_or_eq.1 hu with h | rfl
                · exact HNO.out u h hbu
                · exact absurd hbu HF.out
              case measure => simp [intOf]; omega
          | true =>
            by_cases hjl : j < xs.length
            · obtain ⟨b, o, c, e1, l1, l2, hc⟩ := (OX.out _ HBX.out).row.pos (by omega)
              simp only [Value.slice.injEq, true_and] at e1
              obtain ⟨rfl, rfl⟩ := e1
              have hcj := hc j hjl
              have hxj := HXS.out j hjl
              obtain ⟨u, hu⟩ : ∃ u : Nat, nth xs j = (u : Int) := ⟨(nth xs j).toNat, by omega⟩
              rw [hu] at hcj hxj
              have HS : Hid (fitTo (adjB Lp) (adjB Lg) xs xs.length q (j + 1) = (adjB Lp j xs.length == adjB Lg u q)) := by show _ = _; rw [fitTo, hf, hu, Int.toNat_natCast]; simp
              have hcA : Hid (∀ x : Later wx, Calls Try.prog 61 #[.agg #[.slice ap Lp.length cp], .int .i64 (j : Int), .int .i64 (xs.length : Int)] x.at fun e w2 => e = .returned (.bool (adjB Lp j xs.length)) ∧ ∃ y : Later wx, w2 = y.at) :=
                fun x => Calls.later ((l1Edge_any _ Lp (j : Int) (xs.length : Int) _ (GP.out _ (HBX.out.trans (x.bel.mono hzx))) (by omega) (by omega)).mono fun _ _ ⟨h1, h2⟩ => ⟨by rw [h1, Int.toNat_natCast, adjB_has HGP.out (by omega) (by omega)], h2⟩)
              have hcB : Hid (∀ x : Later wx, Calls Try.prog 61 #[.agg #[.slice ag Lg.length cg], .int .i64 (u : Int), .int .i64 (q : Int)] x.at fun e w2 => e = .returned (.bool (adjB Lg u q)) ∧ ∃ y : Later wx, w2 = y.at) :=
                fun x => Calls.later ((l1Edge_any _ Lg (u : Int) (q : Int) _ (GG.out _ (HBX.out.trans (x.bel.mono hzx))) (by omega) (by omega)).mono fun _ _ ⟨h1, h2⟩ => ⟨by rw [h1, Int.toNat_natCast, adjB_has HGG.out (by omega) (by omega)], h2⟩)
              clear hf hc hu
              have hjI : (j : Int) < (xs.length : Int) := by omega
              go_wp2_with fail
              have kl := fun x : Later wx => x.cell k3
              have kl1 := fun x : Later wx => x.cell k4
              have kl2 := fun x : Later wx => x.cell hcj
              clear k3 k4 hcj
              refine wp_region_later (by kernel_rfl) (by kernel_rfl) ?_
              repeat (go_big_quiet_step ((first | (go_at_call 61; with_reducible exact hcA.out _) | (go_at_call 61; with_reducible exact hcB.out _))))
              refine wpQuiet_nil ?_
              rintro _ ⟨z, rfl⟩
              have HBZ : Hid (Below w0.heap.size w0 z.at) := HBX.out.trans (z.bel.mono hzx)
              clear kl kl1 kl2 hcA hcB
              go_wp2
              go_roundw
              case rel => exact ⟨j + 1, by omega, by go_num, by rw [HS.out], HBZ.out⟩
              case measure => simp [intOf]; omega
            · obtain rfl : j = xs.length := by omega
              have HBT : Hid ((C xs).testBit q = true) := (HCB.out q).2 ⟨hlt, hf⟩
              have KS : Hid (∀ w', Below wx.heap.size wx w' → w'.cell? ⟨w.heap.size, 0, none⟩ = some (.slice ap Lp.length cp) ∧ w'.cell? ⟨w.heap.size + 1, 0, none⟩ = some (.slice ag Lg.length cg)) := fun w' hb => ⟨cell_keep hb k3, cell_keep hb k4⟩
              have RK : Hid (∀ w', Below wx.heap.size wx w' → RowAt w' (.slice a1 xs.length c1) xs) := fun w' hb => (OX.out _ (HBX.out.trans (hb.mono hzx))).row
              have GPX : Hid (∀ w', Below wx.heap.size wx w' → GridAt w' (.slice ap Lp.length cp) Lp) := fun w' hb => GP.out _ (HBX.out.trans (hb.mono hzx))
              have GGX : Hid (∀ w', Below wx.heap.size wx w' → GridAt w' (.slice ag Lg.length cg) Lg) := fun w' hb => GG.out _ (HBX.out.trans (hb.mono hzx))
              have IHX : Hid (∀ (v6 : Value) (w6 : World), Below wx.heap.size wx w6 → OwnRow 2 w6 wx.heap.size v6 (xs ++ [(q : Int)]) → Calls Try.prog 45 #[.agg #[.slice ap Lp.length cp], .agg #[.slice ag Lg.length cg], v6] w6 fun e w' => ∃ m a c, e = .returned (.slice a m c) ∧ OwnRow 2 w' wx.heap.size (.slice a m c) (firstL (enumL C r (xs ++ [(q : Int)]))) ∧ Below w6.heap.size w6 w') := fun v6 w6 hb ho => by
                refine IH.out (xs ++ [(q : Int)]) v6 wx.heap.size w6 (GPX.out _ hb) (GGX.out _ hb) ho hb.size (by rw [List.length_append, List.length_singleton]; omega) (fun i hi => ?_)
                rw [List.length_append, List.length_singleton] at hi
                by_cases e : i < xs.length
                · rw [nth_app_lt e]; exact HXS.out i e
                · obtain rfl : i = xs.length := by omega
                  rw [nth_app_at]; omega
              have HLIT : Hid (∀ w', Below (wx.alloc (.cells #[.int .i64 (q : Int)] 2)).heap.size (wx.alloc (.cells #[.int .i64 (q : Int)] 2)) w' → ∀ j u, ([Value.int .i64 (q : Int)] : List Value)[j]? = some u → w'.cell? ((⟨wx.heap.size, 0, none⟩ : Addr).add j) = some u) := fun w' hb j u hj => cell_keep hb (lit1 wx _ _ j u hj)
              have HX1 : Hid (Below wx.heap.size wx (wx.alloc (.cells #[.int .i64 (q : Int)] 2))) := (Below.refl _ _).alloc (Nat.le_refl _) _
              have HI64 : Hid (∀ x ∈ xs ++ [(q : Int)], I64 x) := fun x hx => by
                rcases List.mem_append.1 hx with h | h
                · obtain ⟨i, hi, rfl⟩ := List.getElem_of_mem h
                  have := HXS.out i hi
                  rw [nth_eq hi] at this
                  unfold I64; omega
                · simp at h; subst h; unfold I64; omega
              have hq16 : q ≤ 16 := by omega
              clear hf
              have ks := KS.out _ (Below.refl _ _)
              go_wp2_with fail
              go_cut [11] (fun rv wy => ∃ m a c, rv = .slice a m c ∧ OwnRow 2 wy wx.heap.size (.slice a m c) (firstL (enumL C r (xs ++ [(q : Int)]))) ∧ Below wx.heap.size wx wy)
              case first =>
                go_region_held3 (fun wy => wy.cell? ⟨w.heap.size, 0, none⟩ = some (.slice ap Lp.length cp) ∧ wy.cell? ⟨w.heap.size + 1, 0, none⟩ = some (.slice ag Lg.length cg)) (first | exact ks | with_reducible exact KS.out _ (Below.refl _ _).drew | with_reducible exact KS.out _ ((Below.refl _ _).alloc (Nat.le_refl _) _).drew | with_reducible exact KS.out _ HB5.out | with_reducible exact KS.out _ (HB5.out.alloc HB5.out.size _) | with_reducible exact KS.out _ HB6.out | with_reducible exact KS.out _ HB7.out)
                  (first
                    | (go_at_call 71; refine (l1Copy_any _ xs _ (RK.out _ (by first | with_reducible exact (Below.refl _ _).drew | with_reducible exact ((Below.refl _ _).alloc (Nat.le_refl _) _).drew)) (by omega)).mono ?_; rintro e w5 ⟨n5, a5, c5, rfl, ho5, hb5⟩; have HB5 : Hid (Below wx.heap.size wx w5) := (by first | exact (Below.refl _ _).drew.trans hb5 | exact ((Below.refl _ _).alloc (Nat.le_refl _) _).drew.trans (hb5.mono (by show _ ≤ (wx.alloc _).heap.size; rw [size_alloc1]; exact Nat.le_succ _))); have HO5 : Hid (OwnRow 2 w5 wx.heap.size (.slice a5 n5 c5) xs) := (by first | exact ho5 | exact ho5.mono (by show _ ≤ (wx.alloc _).heap.size; rw [size_alloc1]; exact Nat.le_succ _)); (first | (have HL5 := Lib.hid (HLIT.out _ (Below.trans (Below.refl _ _).drew hb5))) | skip); clear ho5 hb5)
                    | (refine step_append_own _ (by rfl) (.tmp 53) (.tmp 55) 29 (by rfl) wx.heap.size 2 i0 (.int .i64 0) 1 8 Try.underlying29 hi hz0 hz1 hz2 rfl (by omega) (.slice a5 n5 c5) _ _ (by rfl) (HO5.out.owns.alloc _) ⟨w5.heap.size, 0, none⟩ 1 1 [.int .i64 (q : Int)] (by rfl) (by rfl) (lit1 _ _ _) (one1 _) (by unfold maxLen; omega) (by omega) (by have := HB5.out.size; simp; omega) ?_; intro v6 w6 hown6 hgrow6; have HB6 : Hid (Below wx.heap.size wx w6) := (HB5.out.alloc HB5.out.size _).grown hgrow6 (by have := HB5.out.size; simp; omega) (fun j hj => (HO5.out.lt j hj).1); have HO6 : Hid (OwnRow 2 w6 wx.heap.size v6 (xs ++ [(q : Int)])) := OwnRow.of_ownsRow (n := xs.length + 1) (by simpa using hown6) (by simp; unfold maxLen; omega) HI64.out; clear hown6 hgrow6)
                    | (refine step_append_own _ (by rfl) (.tmp 53) (.tmp 55) 29 (by rfl) wx.heap.size 2 i0 (.int .i64 0) 1 8 Try.underlying29 hi hz0 hz1 hz2 rfl (by omega) (.slice a5 n5 c5) _ _ (by rfl) HO5.out.owns ⟨wx.heap.size, 0, none⟩ 1 1 [.int .i64 (q : Int)] (by rfl) (by rfl) HL5.out (one1 _) (by unfold maxLen; omega) (by omega) HB5.out.size ?_; intro v6 w6 hown6 hgrow6; have HB6 : Hid (Below wx.heap.size wx w6) := HB5.out.grown hgrow6 HB5.out.size (fun j hj => (HO5.out.lt j hj).1); have HO6 : Hid (OwnRow 2 w6 wx.heap.size v6 (xs ++ [(q : Int)])) := OwnRow.of_ownsRow (n := xs.length + 1) (by simpa using hown6) (by simp; unfold maxLen; omega) HI64.out; clear hown6 hgrow6)
                    | (go_at_call 45; refine (IHX.out _ _ HB6.out HO6.out).mono ?_; rintro e w7 ⟨n7, a7, c7, rfl, ho7, hb7⟩; have HB7 : Hid (Below wx.heap.size wx w7) := HB6.out.trans (hb7.mono HB6.out.size); have HO7 := Lib.hid ho7; clear ho7 hb7))
                all_goals (
                  go_wp2_with fail
                  go_meet
                  exact ⟨_, _, _, rfl, HO7.out, HB7.out⟩)
              case rest =>
                rename World => wy
                obtain ⟨m7, a7, c7, rfl, ho7, hb7⟩ := hcut
                have HBY : Hid (Below w0.heap.size w0 wy) := HBX.out.trans (hb7.mono hzx)
                have hm7 : m7 = (firstL (enumL C r (xs ++ [(q : Int)]))).length := by
                  obtain ⟨a3, c3, e3⟩ := ho7.row.slice
                  simp only [Value.slice.injEq] at e3
                  exact e3.2.1
                have HO7 := Lib.hid ho7
                have HLN : Hid (∀ y, y ∈ enumL C r (xs ++ [(q : Int)]) → 0 < y.length) := fun y hy => by
                  have := enum_len hy
                  rw [List.length_append, List.length_singleton] at this
                  omega
                clear hb7 ho7 k3 k4
                by_cases h0 : enumL C r (xs ++ [(q : Int)]) = []
                · obtain rfl : m7 = 0 := by rw [hm7, h0]; rfl
                  have HE0 := Lib.hid h0
                  clear hm7 h0
                  go_wp2
                  go_roundw
                  case rel =>
                    refine ⟨q + 1, by omega, by go_num, fun u hu hbu => ?_, HBY.out⟩
                    rcases Nat.lt_succ_iff_lt_or_eq.1 hu with h | rfl
                    · exact HNO.out u h hbu
                    · exact HE0.out
                  case measure => simp [intOf]; omega
                · have hpos : 0 < m7 := by rw [hm7]; exact HLN.out _ (firstL_mem h0)
                  have HF := Lib.hid (enum_first (C := C) (r := r) (xs := xs) (by omega) HBT.out (fun u hu hbu => HNO.out u hu hbu) h0)
                  have q7 : decide ((0 : Int) < (m7 : Int)) = true := by rw [decide_eq_true_iff]; omega
                  clear hm7 h0
                  go_wp2
                  go_ret
                  refine ⟨_, _, _, rfl, ?_, HA.out.trans (HBY.out.mono HA.out.size)⟩
                  rw [HF.out]
                  exact HO7.out.mono (Nat.le_trans hB0 HBX.out.size)
      · obtain rfl : q = Lg.length := by omega
        have HE : Hid (enumL C (r + 1) xs = []) := enum_none (fun u hu hbu => HNO.out u ((HCB.out u).1 hbu).1 hbu)
        go_wp2
        go_ret
        rw [HE.out]
        refine ⟨_, _, _, rfl, ⟨by simp [firstL], by simp [firstL], .inr ⟨w2.heap.size, 0, #[], rfl, ?_, heap_alloc_new w2 _, by simp [firstL], Nat.zero_le _, rfl, fun i hi => absurd hi (by simp [firstL])⟩⟩, ?_⟩
        · exact Nat.le_trans hB0 HB2.out.size
        · exact HA.out.trans ((HB2.out.alloc HB2.out.size _).mono HA.out.size)

end Go.Proofs.Ytgeifbgjfbfcfaa
