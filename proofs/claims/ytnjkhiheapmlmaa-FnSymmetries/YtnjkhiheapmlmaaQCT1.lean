/- The texts CT1, CT2, joined. -/
import Derived.Test.YtnjkhiheapmlmaaEM2
import Derived.Test.YtnjkhiheapmlmaaQEM3
import Derived.Test.YtnjkhiheapmlmaaQEP1

/- Walks: the model's count of the lists by which a graph stands for itself. -/
namespace Go.Proofs.Ytnjkhiheapmlmaa
open Go.RowKit

theorem flat_len {f : Int → List (List Int)} {k : Nat} : ∀ (l : List Int), (∀ v ∈ l, (f v).length ≤ k) → (l.flatMap f).length ≤ l.length * k := by
  intro l
  induction l with
  | nil => intro _; simp
  | cons a t ih =>
    intro h
    rw [List.flatMap_cons, List.length_append, List.length_cons, Nat.succ_mul]
    have h1 := h a (by simp)
    have h2 := ih (fun v hv => h v (by simp [hv]))
    omega
theorem enum_many {C : List Int → Nat} : ∀ (r : Nat) (xs : List Int), (enumL C r xs).length ≤ 16 ^ r := by
  intro r
  induction r with
  | zero => intro xs; simp [enumL]
  | succ r ih =>
    intro xs
    rw [enumL]
    refine Nat.le_trans (flat_len _ (fun v _ => ih (xs ++ [v]))) ?_
    rw [Nat.pow_succ, Nat.mul_comm (16 ^ r) 16]
    exact Nat.mul_le_mul_right _ (listM_len _)
theorem enum_eight {C : List Int → Nat} {r : Nat} (hr : r ≤ 8) (xs : List Int) : (enumL C r xs).length ≤ 4294967296 := by
  refine Nat.le_trans (enum_many r xs) (Nat.le_trans (Nat.pow_le_pow_right (by omega) hr) ?_)
  decide
/-- How many lists go on with a vertex below q. -/
def cntN (C : List Int → Nat) (r : Nat) (xs : List Int) : Nat → Nat
  | 0 => 0
  | q + 1 => cntN C r xs q + if (C xs).testBit q = true then (enumL C r (xs ++ [(q : Int)])).length else 0
theorem cntN_flat {C : List Int → Nat} {r : Nat} {xs : List Int} (q : Nat) : ((((List.range q).filter (fun i => (C xs).testBit i)).map (fun i : Nat => (i : Int))).flatMap (fun v => enumL C r (xs ++ [v]))).length = cntN C r xs q := by
  induction q with
  | zero => rfl
  | succ q ih =>
    rw [List.range_succ, List.filter_append, List.map_append, List.flatMap_append, List.length_append, ih, cntN]
    by_cases h : (C xs).testBit q = true
    · rw [if_pos h, List.filter_cons_of_pos h]; simp
    · rw [if_neg h, List.filter_cons_of_neg h]; simp
theorem cntN_16 {C : List Int → Nat} {r : Nat} {xs : List Int} : cntN C r xs 16 = (enumL C (r + 1) xs).length := by rw [← cntN_flat]; rfl
theorem cntN_from {C : List Int → Nat} {r : Nat} {xs : List Int} {n : Nat} (h : ∀ v, (C xs).testBit v = true → v < n) : ∀ k, cntN C r xs (n + k) = cntN C r xs n := by
  intro k
  induction k with
  | zero => rfl
  | succ k ih => rw [← Nat.add_assoc, cntN, ih, if_neg (fun hb => by have := h _ hb; omega)]; rfl
theorem cntN_all {C : List Int → Nat} {r : Nat} {xs : List Int} {n : Nat} (hn : n ≤ 16) (h : ∀ v, (C xs).testBit v = true → v < n) : cntN C r xs n = (enumL C (r + 1) xs).length := by
  rw [← cntN_16, ← cntN_from h (16 - n), show n + (16 - n) = 16 from by omega]
theorem cntN_le {C : List Int → Nat} {r : Nat} {xs : List Int} (hr : r ≤ 8) (q : Nat) : cntN C r xs q ≤ q * 4294967296 := by
  induction q with
  | zero => simp [cntN]
  | succ q ih =>
    rw [cntN, Nat.succ_mul]
    have := enum_eight (C := C) hr (xs ++ [(q : Int)])
    split
    · exact Nat.add_le_add ih this
    · exact Nat.add_le_add ih (Nat.zero_le _)

set_option maxHeartbeats 16000000 in
set_option maxRecDepth 100000 in
theorem l4Count_any (L : List (List Int)) (hG : GraphP L) (h8 : L.length ≤ 8) (ap : Option Addr) (cp : Nat) : ∀ (r : Nat) (xs : List Int) (v1 : Value) (B : Nat) (w : World),
    GridAt w (.slice ap L.length cp) L → OwnRow 2 w B v1 xs → B ≤ w.heap.size → xs.length + r = L.length → (∀ i, i < xs.length → 0 ≤ nth xs i ∧ nth xs i < (L.length : Int)) →
    Calls Try.prog 84 #[.agg #[.slice ap L.length cp], v1] w fun e w' => e = .returned (.int .i64 ((enumL (nextN (adjB L) L.length (adjB L)) r xs).length : Int)) ∧ Below w.heap.size w w' := by
  obtain ⟨i0, hi, hz0, hz1, hz2⟩ := info_parts Try.infoI
  intro r
  induction r with
  | zero =>
    intro xs v1 B w hp ho hB hlen hxs
    obtain ⟨a1, c1, rfl⟩ := ho.row.slice
    have ha : Below w.heap.size w (w.alloc (.cells #[.slice ap L.length cp] 29)) := (Below.refl _ _).alloc (Nat.le_refl _) _
    have HP := Lib.hid (hp.keep ha)
    have HA := Lib.hid ha
    have qe : ((xs.length : Int) == (L.length : Int)) = true := by rw [beq_iff_eq]; omega
    clear hp ho ha hlen
    go_enter Try.func84, Try.ntmps84
    go_wp2_with fail
    refine (l1Size_any _ L _ HP.out).mono ?_
    rintro e w1 ⟨rfl, hb1⟩
    have HB1 : Hid (Below w.heap.size w w1) := HA.out.trans (hb1.mono HA.out.size)
    clear hb1
    go_wp2
    go_ret
    exact ⟨rfl, HB1.out⟩
  | succ r ih =>
    intro xs v1 B w hp ho hB hlen hxs
    obtain ⟨a1, c1, rfl⟩ := ho.row.slice
    have hzp := hG.1
    have k30 : (w.alloc (.cells #[.slice ap L.length cp] 29)).cell? ⟨w.heap.size, 0, none⟩ = some (.slice ap L.length cp) := by go_simp
    obtain ⟨w0, hw0⟩ : ∃ w0, w.alloc (.cells #[.slice ap L.length cp] 29) = w0 := ⟨_, rfl⟩
    have ha : Below w.heap.size w w0 := by rw [← hw0]; exact (Below.refl _ _).alloc (Nat.le_refl _) _
    have HW0 := Lib.hid hw0
    rw [hw0] at k30
    clear hw0
    have K3 : Hid (∀ w', Below w0.heap.size w0 w' → w'.cell? ⟨w.heap.size, 0, none⟩ = some (.slice ap L.length cp)) := fun w' hb => cell_keep hb k30
    have GP : Hid (∀ w', Below w0.heap.size w0 w' → GridAt w' (.slice ap L.length cp) L) := fun w' hb => (hp.keep ha).keep hb
    have OX : Hid (∀ w', Below w0.heap.size w0 w' → OwnRow 2 w' B (.slice a1 xs.length c1) xs) := fun w' hb => (ho.keep ha).keep hb
    have HA := Lib.hid ha
    have HXS := Lib.hid hxs
    have HGP := Lib.hid hG
    have hB0 : B ≤ w0.heap.size := Nat.le_trans hB HA.out.size
    have qe : ((xs.length : Int) == (L.length : Int)) = false := by rw [beq_eq_false_iff_ne]; omega
    have hx16 : xs.length < 16 := by omega
    have hr8 : r ≤ 8 := by omega
    obtain ⟨C, hC⟩ : ∃ C, C = nextN (adjB L) L.length (adjB L) := ⟨_, rfl⟩
    have HCB : Hid (∀ v, (C xs).testBit v = true ↔ v < L.length ∧ fitTo (adjB L) (adjB L) xs xs.length v xs.length = true) := fun v => by rw [hC]; exact next_bit hzp.2
    rw [← hC] at ih ⊢
    have IH := Lib.hid ih
    clear hp ho ha hxs ih hC
    go_enter Try.func84, Try.ntmps84
    go_wp2_with fail
    rw [HW0.out]
    refine (l1Size_any _ L _ (GP.out _ (Below.refl _ _))).mono ?_
    rintro e w1 ⟨rfl, hb1⟩
    have HB1 := Lib.hid hb1
    clear hb1 k30
    go_wp2_with fail
    go_loopw [6, 7] (fun mv i wr => ∃ q : Nat, q ≤ L.length ∧ i = .int .i64 q ∧ mv = .int .i64 (cntN C r xs q : Int) ∧ Below w0.heap.size w0 wr) (fun _ i _ => L.length - (intOf i).toNat)
    case atStart => exact ⟨0, Nat.zero_le _, rfl, rfl, HB1.out⟩
    case round =>
      clear HB1
      obtain ⟨q, hq, rfl, rfl, hb⟩ := hrel
      have HB := Lib.hid hb
      have k3 := K3.out _ hb
      have hcq := cntN_le (C := C) (xs := xs) hr8 q
      clear hb
      go_wp2_with fail
      refine (l1Size_any _ L _ (GP.out _ HB.out)).mono ?_
      rintro e w2 ⟨rfl, hb2⟩
      have HB2 : Hid (Below w0.heap.size w0 w2) := HB.out.trans (hb2.mono HB.out.size)
      clear hb2 k3 HB
      by_cases hlt : q < L.length
      · go_wp2_with fail
        refine (l1Has_any _ xs (q : Int) _ (OX.out _ HB2.out).row).mono ?_
        rintro e w' ⟨rfl, rfl⟩
        go_wp2_with fail
        go_loopw [8, 9] (fun f i wx => ∃ j : Nat, j ≤ xs.length ∧ i = .int .i64 j ∧ f = .bool (fitTo (adjB L) (adjB L) xs xs.length q j) ∧ Below w0.heap.size w0 wx) (fun _ i _ => xs.length - (intOf i).toNat)
        case atStart => exact ⟨0, Nat.zero_le _, rfl, rfl, HB2.out⟩
        case round =>
          clear HB2
          rename World => wx
          obtain ⟨j, hj, rfl, rfl, hb⟩ := hrel
          have HBX := Lib.hid hb
          have hzx := hb.size
          have k3 := K3.out _ hb
          clear hb
          cases hf : fitTo (adjB L) (adjB L) xs xs.length q j with
          | false =>
            have HF : Hid (¬ (C xs).testBit q = true) := fun h => by
              have := ((HCB.out q).1 h).2
              rw [fitTo_mono hf xs.length hj] at this
              cases this
            have HCN : Hid (cntN C r xs (q + 1) = cntN C r xs q) := by show _ = _; rw [cntN, if_neg HF.out]; rfl
            clear hf k3
            by_cases hjl : (j : Int) < (xs.length : Int)
            · go_wp2
              go_roundw
              case rel => exact ⟨q + 1, by omega, by go_num, by rw [HCN.out], HBX.out⟩
              case measure => simp [intOf]; omega
            · go_wp2
              go_roundw
              case rel => exact ⟨q + 1, by omega, by go_num, by rw [HCN.out], HBX.out⟩
              case measure => simp [intOf]; omega
          | true =>
            by_cases hjl : j < xs.length
            · obtain ⟨b, o, c, e1, l1, l2, hc⟩ := (OX.out _ HBX.out).row.pos (by omega)
              simp only [Value.slice.injEq, true_and] at e1
              obtain ⟨rfl, rfl⟩ := e1
              have hcj := hc j hjl
              have hxj := HXS.out j hjl
              obtain ⟨u, hu⟩ : ∃ u : Nat, nth xs j = (u : Int) := ⟨(nth xs j).toNat, by omega⟩
              rw [hu] at hcj hxj
              have HS : Hid (fitTo (adjB L) (adjB L) xs xs.length q (j + 1) = (adjB L j xs.length == adjB L u q)) := by show _ = _; rw [fitTo, hf, hu, Int.toNat_natCast]; simp
              have hcA : Hid (∀ x : Later wx, Calls Try.prog 62 #[.agg #[.slice ap L.length cp], .int .i64 (j : Int), .int .i64 (xs.length : Int)] x.at fun e w2 => e = .returned (.bool (adjB L j xs.length)) ∧ ∃ y : Later wx, w2 = y.at) :=
                fun x => Calls.later ((l1Edge_any _ L (j : Int) (xs.length : Int) _ (GP.out _ (HBX.out.trans (x.bel.mono hzx))) (by omega) (by omega)).mono fun _ _ ⟨h1, h2⟩ => ⟨by rw [h1, Int.toNat_natCast, adjB_has HGP.out (by omega) (by omega)], h2⟩)
              have hcB : Hid (∀ x : Later wx, Calls Try.prog 62 #[.agg #[.slice ap L.length cp], .int .i64 (u : Int), .int .i64 (q : Int)] x.at fun e w2 => e = .returned (.bool (adjB L u q)) ∧ ∃ y : Later wx, w2 = y.at) :=
                fun x => Calls.later ((l1Edge_any _ L (u : Int) (q : Int) _ (GP.out _ (HBX.out.trans (x.bel.mono hzx))) (by omega) (by omega)).mono fun _ _ ⟨h1, h2⟩ => ⟨by rw [h1, Int.toNat_natCast, adjB_has HGP.out (by omega) (by omega)], h2⟩)
              clear hf hc hu
              have hjI : (j : Int) < (xs.length : Int) := by omega
              go_wp2_with fail
              have kl := fun x : Later wx => x.cell k3
              have kl2 := fun x : Later wx => x.cell hcj
              clear k3 hcj
              refine wp_region_later (by kernel_rfl) (by kernel_rfl) ?_
              repeat (go_big_quiet_step ((first | (go_at_call 62; with_reducible exact hcA.out _) | (go_at_call 62; with_reducible exact hcB.out _))))
              refine wpQuiet_nil ?_
              rintro _ ⟨z, rfl⟩
              have HBZ : Hid (Below w0.heap.size w0 z.at) := HBX.out.trans (z.bel.mono hzx)
              clear kl kl2 hcA hcB
              go_wp2
              go_roundw
              case rel => exact ⟨j + 1, by omega, by go_num, by rw [HS.out], HBZ.out⟩
              case measure => simp [intOf]; omega
            · obtain rfl : j = xs.length := by omega
              have HBT : Hid ((C xs).testBit q = true) := (HCB.out q).2 ⟨hlt, hf⟩
              have KS : Hid (∀ w', Below wx.heap.size wx w' → w'.cell? ⟨w.heap.size, 0, none⟩ = some (.slice ap L.length cp)) := fun w' hb => cell_keep hb k3
              have RK : Hid (∀ w', Below wx.heap.size wx w' → RowAt w' (.slice a1 xs.length c1) xs) := fun w' hb => (OX.out _ (HBX.out.trans (hb.mono hzx))).row
              have GPX : Hid (∀ w', Below wx.heap.size wx w' → GridAt w' (.slice ap L.length cp) L) := fun w' hb => GP.out _ (HBX.out.trans (hb.mono hzx))
              obtain ⟨N, hN⟩ : ∃ N, (enumL C r (xs ++ [(q : Int)])).length = N := ⟨_, rfl⟩
              have hN8 : N ≤ 4294967296 := by rw [← hN]; exact enum_eight hr8 _
              have HCN : Hid (cntN C r xs (q + 1) = cntN C r xs q + N) := by show _ = _; rw [cntN, if_pos HBT.out, hN]
              have IHX : Hid (∀ (v6 : Value) (w6 : World), Below wx.heap.size wx w6 → OwnRow 2 w6 wx.heap.size v6 (xs ++ [(q : Int)]) → Calls Try.prog 84 #[.agg #[.slice ap L.length cp], v6] w6 fun e w' => e = .returned (.int .i64 (N : Int)) ∧ Below w6.heap.size w6 w') := fun v6 w6 hb ho => by
                rw [← hN]
                refine IH.out (xs ++ [(q : Int)]) v6 wx.heap.size w6 (GPX.out _ hb) ho hb.size (by rw [List.length_append, List.length_singleton]; omega) (fun i hi => ?_)
                rw [List.length_append, List.length_singleton] at hi
                by_cases e : i < xs.length
                · rw [nth_app_lt e]; exact HXS.out i e
                · obtain rfl : i = xs.length := by omega
                  rw [nth_app_at]; omega
              have HLIT : Hid (∀ w', Below (wx.alloc (.cells #[.int .i64 (q : Int)] 2)).heap.size (wx.alloc (.cells #[.int .i64 (q : Int)] 2)) w' → ∀ j u, ([Value.int .i64 (q : Int)] : List Value)[j]? = some u → w'.cell? ((⟨wx.heap.size, 0, none⟩ : Addr).add j) = some u) := fun w' hb j u hj => cell_keep hb (lit1 wx _ _ j u hj)
              have HI64 : Hid (∀ x ∈ xs ++ [(q : Int)], I64 x) := fun x hx => by
                rcases List.mem_append.1 hx with h | h
                · obtain ⟨i, hi, rfl⟩ := List.getElem_of_mem h
                  have := HXS.out i hi
                  rw [nth_eq hi] at this
                  unfold I64; omega
                · simp at h; subst h; unfold I64; omega
              have hq16 : q ≤ 16 := by omega
              obtain ⟨K, hK⟩ : ∃ K, cntN C r xs q = K := ⟨_, rfl⟩
              rw [hK] at HCN hcq ⊢
              have hwK : IntKind.i64.wrap ((K : Int) + (N : Int)) = (K : Int) + (N : Int) := IntWalk.i64_in _ (by omega)
              clear hf hN hK
              have ks := KS.out _ (Below.refl _ _)
              go_wp2_with fail
              go_region_held3 (fun wy => wy.cell? ⟨w.heap.size, 0, none⟩ = some (.slice ap L.length cp)) (first | exact ks | with_reducible exact KS.out _ (Below.refl _ _).drew | with_reducible exact KS.out _ ((Below.refl _ _).alloc (Nat.le_refl _) _).drew | with_reducible exact KS.out _ HB5.out | with_reducible exact KS.out _ (HB5.out.alloc HB5.out.size _) | with_reducible exact KS.out _ HB6.out | with_reducible exact KS.out _ HB7.out)
                  (first
                    | (go_at_call 110; refine (l1Copy_any _ xs _ (RK.out _ (by first | with_reducible exact (Below.refl _ _).drew | with_reducible exact ((Below.refl _ _).alloc (Nat.le_refl _) _).drew)) (by omega)).mono ?_; rintro e w5 ⟨n5, a5, c5, rfl, ho5, hb5⟩; have HB5 : Hid (Below wx.heap.size wx w5) := (by first | exact (Below.refl _ _).drew.trans hb5 | exact ((Below.refl _ _).alloc (Nat.le_refl _) _).drew.trans (hb5.mono (by show _ ≤ (wx.alloc _).heap.size; rw [size_alloc1]; exact Nat.le_succ _))); have HO5 : Hid (OwnRow 2 w5 wx.heap.size (.slice a5 n5 c5) xs) := (by first | exact ho5 | exact ho5.mono (by show _ ≤ (wx.alloc _).heap.size; rw [size_alloc1]; exact Nat.le_succ _)); (first | (have HL5 := Lib.hid (HLIT.out _ (Below.trans (Below.refl _ _).drew hb5))) | skip); clear ho5 hb5)
                    | (refine step_append_own _ (by rfl) (.tmp 50) (.tmp 52) 31 (by rfl) wx.heap.size 2 i0 (.int .i64 0) 1 8 Try.underlying31 hi hz0 hz1 hz2 rfl (by omega) (.slice a5 n5 c5) _ _ (by rfl) (HO5.out.owns.alloc _) ⟨w5.heap.size, 0, none⟩ 1 1 [.int .i64 (q : Int)] (by rfl) (by rfl) (lit1 _ _ _) (one1 _) (by unfold maxLen; omega) (by omega) (by have := HB5.out.size; simp; omega) ?_; intro v6 w6 hown6 hgrow6; have HB6 : Hid (Below wx.heap.size wx w6) := (HB5.out.alloc HB5.out.size _).grown hgrow6 (by have := HB5.out.size; simp; omega) (fun j hj => (HO5.out.lt j hj).1); have HO6 : Hid (OwnRow 2 w6 wx.heap.size v6 (xs ++ [(q : Int)])) := OwnRow.of_ownsRow (n := xs.length + 1) (by simpa using hown6) (by simp; unfold maxLen; omega) HI64.out; clear hown6 hgrow6)
                    | (refine step_append_own _ (by rfl) (.tmp 50) (.tmp 52) 31 (by rfl) wx.heap.size 2 i0 (.int .i64 0) 1 8 Try.underlying31 hi hz0 hz1 hz2 rfl (by omega) (.slice a5 n5 c5) _ _ (by rfl) HO5.out.owns ⟨wx.heap.size, 0, none⟩ 1 1 [.int .i64 (q : Int)] (by rfl) (by rfl) HL5.out (one1 _) (by unfold maxLen; omega) (by omega) HB5.out.size ?_; intro v6 w6 hown6 hgrow6; have HB6 : Hid (Below wx.heap.size wx w6) := HB5.out.grown hgrow6 HB5.out.size (fun j hj => (HO5.out.lt j hj).1); have HO6 : Hid (OwnRow 2 w6 wx.heap.size v6 (xs ++ [(q : Int)])) := OwnRow.of_ownsRow (n := xs.length + 1) (by simpa using hown6) (by simp; unfold maxLen; omega) HI64.out; clear hown6 hgrow6)
                    | (go_at_call 84; refine (IHX.out _ _ HB6.out HO6.out).mono ?_; rintro e w7 ⟨rfl, hb7⟩; have HB7 : Hid (Below wx.heap.size wx w7) := HB6.out.trans (hb7.mono HB6.out.size); clear hb7))
              all_goals (
                have HBY : Hid (Below w0.heap.size w0 w7) := HBX.out.trans (HB7.out.mono hzx)
                go_wp2
                go_roundw
                case rel => exact ⟨q + 1, by omega, by go_num, by rw [HCN.out]; simp, HBY.out⟩
                case measure => simp [intOf]; omega)
      · obtain rfl : q = L.length := by omega
        have HE : Hid (cntN C r xs L.length = (enumL C (r + 1) xs).length) := cntN_all hzp.2 (fun v hv => ((HCB.out v).1 hv).1)
        have HFF : Hid (Below w.heap.size w w2) := HA.out.trans (HB2.out.mono HA.out.size)
        go_wp2
        go_ret
        exact ⟨by rw [← HE.out]; rfl, HFF.out⟩

/-- How many symmetries. -/
def symN (L : List (List Int)) : Int := if SmallP L then ((stands L L).length : Int) else 0
set_option maxHeartbeats 1000000 in
theorem specSymmetries_any (v : Value) (L : List (List Int)) (w : World) (h : GridAt w v L) : Calls Try.prog 35 #[.agg #[v]] w fun e w' => e = .returned (.int .i64 (symN L)) ∧ Below w.heap.size w w' := by
  obtain ⟨a0, c0, rfl⟩ := h.slice
  have ha : Below w.heap.size w (w.alloc (.cells #[.slice a0 L.length c0] 29)) := (Below.refl _ _).alloc (Nat.le_refl _) _
  have HG := Lib.hid (h.keep ha)
  have HA := Lib.hid ha
  have KG : Hid ((w.alloc (.cells #[.slice a0 L.length c0] 29)).cell? ⟨w.heap.size, 0, none⟩ = some (.slice a0 L.length c0)) := by show _ = _; go_simp
  clear ha h
  go_enter Try.func35, Try.ntmps35
  go_wp2_with fail
  refine (l4Small_any _ L _ HG.out).mono ?_
  rintro e w1 ⟨rfl, hb1⟩
  have HB1 : Hid (Below w.heap.size w w1) := HA.out.trans (hb1.mono HA.out.size)
  have kg1 := cell_keep hb1 KG.out
  have HG1 := Lib.hid (HG.out.keep hb1)
  clear hb1
  by_cases hS : SmallP L
  · rw [decide_eq_true hS]
    have HS := Lib.hid hS
    clear hS
    have HB2 : Hid (Below w.heap.size w (w1.alloc (.cells #[] 2))) := HB1.out.alloc HB1.out.size _
    have HC := Lib.hid (l4Count_any L HS.out.1 HS.out.2 a0 c0 L.length [] (.slice (some ⟨w1.heap.size, 0, none⟩) 0 0) w1.heap.size (w1.alloc (.cells #[] 2)) (HG1.out.keep ((Below.refl _ _).alloc (Nat.le_refl _) _)) (empty_own w1 _ (Nat.le_refl _)) (by simp) (by simp) (fun i hi => absurd hi (by simp)))
    go_wp2_with fail
    refine HC.out.mono ?_
    rintro e w3 ⟨rfl, hb3⟩
    have HB3 : Hid (Below w.heap.size w w3) := HB2.out.trans (hb3.mono HB2.out.size)
    clear hb3 kg1
    go_wp2
    go_ret
    exact ⟨by unfold symN; rw [if_pos HS.out]; rfl, HB3.out⟩
  · rw [decide_eq_false hS]
    have HS := Lib.hid hS
    clear hS kg1
    go_wp2
    go_ret
    exact ⟨by unfold symN; rw [if_neg HS.out]; rfl, HB1.out⟩

end Go.Proofs.Ytnjkhiheapmlmaa

/- Walks: Symmetries of the program. -/
namespace Go.Proofs.Ytnjkhiheapmlmaa
open Go.RowKit Go.Shelf
attribute [local go_sem] Oper.semAt_some

/-- What symmetries lays and hands back. -/
def GaveSyms (w : World) (bn n : Nat) (e : Ending) (w' : World) : Prop :=
  e = .returned (.func (.func 112) #[] #[.pointer (some ⟨w.heap.size + 2, 0, none⟩), .pointer (some ⟨w.heap.size + 3, 0, none⟩)]) ∧
    w'.cell? ⟨w.heap.size, 0, none⟩ = some (.pointer (some ⟨bn, 0, none⟩)) ∧ w'.cell? ⟨w.heap.size + 1, 0, none⟩ = some (.pointer (some ⟨bn, 0, none⟩)) ∧
    w'.cell? ⟨w.heap.size + 2, 0, none⟩ = some (.int .i64 (n : Int)) ∧ w'.cell? ⟨w.heap.size + 3, 0, none⟩ = some (.func (.func 131) #[] #[.pointer (some ⟨w.heap.size + 1, 0, none⟩), .pointer (some ⟨w.heap.size, 0, none⟩)]) ∧ Below w.heap.size w w'

set_option maxHeartbeats 2000000 in
set_option maxRecDepth 100000 in
theorem symmetries_any (bn n : Nat) (M : Nat → Nat) (w : World) (h : NetAt w bn n M) : Calls Try.prog 83 #[.pointer (some ⟨bn, 0, none⟩)] w (GaveSyms w bn n) := by
  have kn := h.1
  have KN : Hid (∀ w', Below w.heap.size w w' → w'.cell? ⟨bn, 0, none⟩ = some (.int .i64 (n : Int))) := fun w' hb => cell_keep hb kn
  clear h
  go_enter Try.func83, Try.ntmps83
  go_wp2_with fail
  go_region_held3 (fun wx => wx.cell? ⟨bn, 0, none⟩ = some (.int .i64 (n : Int))) (first | exact kn | with_reducible exact KN.out _ (Below.refl _ _).drew | exact ka | exact kc)
    (first
      | (go_at_call 105; refine (fitting_any _ _ _).mono ?_; rintro e wa ⟨rfl, hwa⟩; have HWA := Lib.hid hwa; have HBA : Hid (Below w.heap.size w wa) := (by rw [hwa]; exact ((Below.refl _ _).drew.alloc (Nat.le_refl _) _).alloc (by simp) _); have ka := KN.out _ HBA.out; clear hwa)
      | (go_at_call 69; refine (lists_any n _ _ _ _).mono ?_; rintro e wc ⟨rfl, hwc⟩; have HWC := Lib.hid hwc; have HBC : Hid (Below w.heap.size w wc) := (by rw [hwc]; exact (HBA.out.alloc HBA.out.size _).alloc (by rw [size_alloc1]; exact Nat.le_succ_of_le HBA.out.size) _); have kc := KN.out _ HBC.out; clear hwc))
  have hsa : wa.heap.size = w.heap.size + 2 := by rw [HWA.out]; simp
  have k0 : wa.cell? ⟨w.heap.size, 0, none⟩ = some (.pointer (some ⟨bn, 0, none⟩)) := by rw [HWA.out]; go_simp
  have k1 : wa.cell? ⟨w.heap.size + 1, 0, none⟩ = some (.pointer (some ⟨bn, 0, none⟩)) := by rw [HWA.out]; go_simp
  have hbac : Below wa.heap.size wa wc := by rw [HWC.out]; exact ((Below.refl _ _).alloc (Nat.le_refl _) _).alloc (by simp) _
  have k2 : wc.cell? ⟨wa.heap.size, 0, none⟩ = some (.int .i64 (n : Int)) := by rw [HWC.out]; go_simp
  have k3 : wc.cell? ⟨wa.heap.size + 1, 0, none⟩ = some (.func (.func 131) #[] #[.pointer (some ⟨w.heap.size + 1, 0, none⟩), .pointer (some ⟨w.heap.size, 0, none⟩)]) := by rw [HWC.out]; go_simp
  have HF : Hid (GaveSyms w bn n (.returned (.func (.func 112) #[] #[.pointer (some ⟨wa.heap.size, 0, none⟩), .pointer (some ⟨wa.heap.size + 1, 0, none⟩)])) wc) := by
    rw [hsa] at k2 k3
    rw [hsa]
    exact ⟨rfl, cell_keep hbac k0, cell_keep hbac k1, k2, k3, HBC.out⟩
  clear k0 k1 k2 k3 hsa hbac
  go_wp2
  go_ret
  exact HF.out

/-- So many so far. -/
def SymI (w : World) (bm : Nat) (pre : List (List Int)) (W : World) : Prop := BoxAt W bm (.int .i64 (pre.length : Int)) ∧ Below w.heap.size w W

theorem wise_stands {L : List (List Int)} (hG : GraphP L) : enumL (wiseN (patM (rowM L)) L.length L.length (hostM (rowM L))) L.length [] = stands L L := by
  rw [wise_enum hG.1.2, pat_row hG, host_row]; rfl

set_option maxHeartbeats 4000000 in
set_option maxRecDepth 100000 in
theorem implSymmetries_any (v : Value) (L : List (List Int)) (w : World) (h : GridAt w v L) : Calls Try.prog 33 #[.agg #[v]] w fun e w' => e = .returned (.int .i64 (symN L)) ∧ Below w.heap.size w w' := by
  obtain ⟨a0, c0, rfl⟩ := h.slice
  have ha : Below w.heap.size w (w.alloc (.cells #[.slice a0 L.length c0] 29)) := (Below.refl _ _).alloc (Nat.le_refl _) _
  have HG := Lib.hid (h.keep ha)
  have HA := Lib.hid ha
  clear h ha
  refine calls_marks Try.func33 rfl ?_
  simp only [Try.ntmps33, List.size_toArray, List.length_cons, List.length_nil, Nat.reduceAdd, Nat.reduceSub, Array.replicate_succ, Array.replicate_zero, List.push_toArray, List.append_toArray, List.nil_append, List.cons_append]
  go_wp2_with fail
  refine (smallNet_any _ _ _ HG.out).mono ?_
  rintro e w1 ⟨rfl, hb1⟩
  have HB1 : Hid (Below w.heap.size w w1) := HA.out.trans (hb1.mono HA.out.size)
  have hz1 : w.heap.size ≤ w1.heap.size := HB1.out.size
  have hnb := netBlk_new w1 0 (fun _ => 0)
  clear hb1 HG HA
  by_cases hS : SmallP L
  · rw [decide_eq_true hS, smArr_yes hS]
    have HS := Lib.hid hS
    have hzz := hS.1.1
    have HLT : Hid (∀ i, rowM L i < 65536) := fun i => rowM_lt (by omega) (fun v hv => (hS.1.2.1 v hv).1) i
    clear hS
    go_wp2_with (refine wpList_store_net rfl 64 (.tmp 3) (.tmp 9) rfl w1.heap.size L.length (rowM L) rfl rfl Try.sizeNet 0 (fun _ => 0) hnb ?_; intro w3 hp3; have HN3 := Lib.hid hp3.net.at; have HB3 : Hid (Below w.heap.size w w3) := (HB1.out.alloc hz1 _).trans (hp3.below.mono hz1); have hz3 : w1.heap.size < w3.heap.size := hp3.net.lt; clear hp3)
    have HBX4 := Lib.hid (BoxAt.new w3 (.int .i64 0) 2)
    have HB4 : Hid (Below w3.heap.size w3 (w3.alloc (.cells #[.int .i64 0] 2))) := (Below.refl _ _).alloc (Nat.le_refl _) _
    refine (symmetries_any w1.heap.size L.length (rowM L) _ (HN3.out.keep HB4.out)).mono ?_
    rintro e w5 ⟨rfl, k0, k1, k2, k3, hb5⟩
    simp only [size_alloc1] at k0 k1 k2 k3
    have hs5 : w3.heap.size + 1 < w5.heap.size := block_lt_of_cell k0
    have HB35 : Hid (Below w3.heap.size w3 w5) := HB4.out.trans (hb5.mono (by simp))
    have HBX5 : Hid (BoxAt w5 w3.heap.size (.int .i64 (0 : Int))) := HBX4.out.keep hb5
    have HN5 := Lib.hid (HN3.out.keep HB35.out)
    have HF5 : Hid (Below w.heap.size w w5) := HB3.out.trans (HB35.out.mono HB3.out.size)
    have HSQ := Lib.hid (lists1_seq 8 (fun k => k = w3.heap.size) w5 (w3.heap.size + 1 + 2) (w3.heap.size + 1 + 3) L.length 131 _ _ (enters_of Try.func131 (by kernel_rfl) rfl)
      (fitting1_choice (fun k => k = w3.heap.size) w5 (w3.heap.size + 1 + 1) (w3.heap.size + 1) w1.heap.size L.length (rowM L) w1.heap.size L.length (rowM L) k1 k0 HN5.out HN5.out hzz.2 hzz.2 HLT.out HLT.out (by omega) (by omega) (by omega) (by omega))
      (fun xs => wiseN_lt _ _ _ _ _) hzz.2 (fun k hk => by rw [hk]; omega) k2 k3 (by omega) (by omega))
    rw [wise_stands HS.out.1] at HSQ
    have HZ8 : Hid ((stands L L).length ≤ 4294967296) := enum_eight HS.out.2 _
    have hz5 : w.heap.size ≤ w3.heap.size := HB3.out.size
    obtain ⟨Z, hZ⟩ : ∃ Z, stands L L = Z := ⟨_, rfl⟩
    rw [hZ] at HSQ HZ8
    have HZE := Lib.hid hZ
    simp only [size_alloc1, Nat.add_assoc, Nat.reduceAdd] at HSQ ⊢
    clear k0 k1 k2 k3 hb5 HBX4 HB4 HN3 HN5 HB35 hZ hnb HLT
    go_wp2_with fail
    refine (wpIn_wide (n := 9)).1 ?_
    refine wpIn_rangeFunc_row rfl (by omega) (gf := 112) (lb := #[.pointer (some ⟨w3.heap.size + 3, 0, none⟩), .pointer (some ⟨w3.heap.size + 4, 0, none⟩)]) rfl trivial (enters_of Try.func112 (by kernel_rfl) rfl)
      HSQ.out (fun k hk => by rw [hk]; omega) rfl
      (fun pre W => SymI w w3.heap.size pre W)
      (fun _ _ _ => False)
      (fun s A B hs hb => ⟨hs.1.keepB hb (by omega), hs.2.trans (hb.mono (by omega))⟩)
      (fun _ _ _ _ _ h _ => h)
      ⟨HBX5.out, HF5.out⟩
      ?a1 ?assign ?body ?done ?stop
    case assign =>
      intro l b W K hK
      gi_wp2
      exact hK
    case body =>
      intro l pre x b W hI hsz hbl hpx hrow
      obtain ⟨hbx, hb⟩ := hI
      have hle : pre.length + 1 ≤ Z.length := by have := hpx.length_le; simpa using this
      have h8 := HZ8.out
      have hcc := hbx.1
      have hcf := hbx.2
      have hw1 : IntKind.i64.wrap ((pre.length : Int) + 1) = (pre.length : Int) + 1 := IntWalk.i64_in _ (by omega)
      have HBX := Lib.hid hbx
      have HB := Lib.hid hb
      have HL1 : Hid ((((pre ++ [x]).length : Nat) : Int) = (pre.length : Int) + 1) := by show _ = _; simp
      clear hbx hb hpx hrow h8 hle
      gi_wp2
      refine ⟨KeepsBut.setCell (T := fun k => k = w3.heap.size) _ _ _ rfl, ?_, HB.out.setCell (p := ⟨w3.heap.size, 0, none⟩) hz5 _⟩
      show BoxAt _ _ _
      rw [HL1.out]
      exact HBX.out.set _
    case done =>
      intro D W hI hD hK
      obtain ⟨hbx, hb⟩ := hI
      have hcc := hbx.1
      have HB := Lib.hid hb
      have HK := Lib.hid hK
      have hDW : D < W.heap.size := (Array.getElem?_eq_some_iff.1 hK).1
      clear hbx hb hK
      go_wp2
      refine ⟨by simp, .inl ⟨_, _, rfl, run_takeDeferred HK.out, ?_⟩⟩
      refine ⟨_, results_tmp rfl _ _ _, ?_, HB.out.trans (below_put W D _ (by omega) hDW)⟩
      unfold symN
      rw [if_pos HS.out, HZE.out]
      rfl
    case stop =>
      intro D c pre W _ _ h _ _
      exact h.elim
  · rw [decide_eq_false hS, smArr_no hS]
    have HS := Lib.hid hS
    clear hS
    go_wp2_with (refine wpList_store_net rfl 64 (.tmp 3) (.tmp 9) rfl w1.heap.size 0 (fun _ => 0) rfl rfl Try.sizeNet 0 (fun _ => 0) hnb ?_; intro w3 hp3; have HB3 : Hid (Below w.heap.size w w3) := (HB1.out.alloc hz1 _).trans (hp3.below.mono hz1); clear hp3)
    refine ⟨_, results_tmp rfl _ _ _, ?_, HB3.out⟩
    unfold symN
    rw [if_neg HS.out]
    rfl

end Go.Proofs.Ytnjkhiheapmlmaa
