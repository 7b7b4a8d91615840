/- Walks: the search for a loop without a chord, of the model. -/
import Derived.Test.YtohjfcfcopbmoaaDoorQCO1
import Derived.Test.YtohjfcfcopbmoaaDoorQU2
import Derived.Deep.RegionHeld3

namespace Go.Proofs.YtohjfcfcopbmoaaDoor
open Go.RowKit

/-- .. a row of its own make, in memory from B on. -/
def GaveSr (w : World) (B : Nat) (xs : List Int) (e : Ending) (w' : World) : Prop :=
  ∃ n a c, e = .returned (.slice a n c) ∧ OwnRow 2 w' B (.slice a n c) xs ∧ Below w.heap.size w w'
/-- What has been found behind the first k neighbours. -/
noncomputable def srK (A : Nat → Nat → Bool) (R : Nat → List Int) (f : Nat) (path best : List Int) (k : Nat) : List Int := ((R (vtxN path (path.length - 1))).take k).foldl (srS A R f path) best
theorem srK_succ (A : Nat → Nat → Bool) (R : Nat → List Int) (f : Nat) (path best : List Int) {k : Nat} (h : k < (R (vtxN path (path.length - 1))).length) : srK A R f path best (k + 1) = srS A R f path (srK A R f path best k) (nth (R (vtxN path (path.length - 1))) k) := by
  unfold srK
  rw [take_snoc h, List.foldl_append]
  rfl
theorem srK_full (A : Nat → Nat → Bool) (R : Nat → List Int) (f : Nat) (path best : List Int) (h : ¬ (best ≠ [] ∧ best.length ≤ path.length)) : srF A R (f + 1) path best = srK A R f path best (R (vtxN path (path.length - 1))).length := by
  rw [srF_succ, if_neg h]
  unfold srK
  rw [List.take_length]

set_option maxHeartbeats 8000000 in
set_option maxRecDepth 100000 in
theorem l8Search_any (a0 : Option Addr) (c0 : Nat) (L : List (List Int)) (hG : GraphP L) :
    ∀ (f : Nat) (path best : List Int) (vp vb : Value) (w : World) (B : Nat), GridAt w (.slice a0 L.length c0) L → RowAt w vp path → OwnRow 2 w B vb best → B ≤ w.heap.size → PathC (adjB L) path → (∀ i, i < path.length → vtxN path i < L.length) → 17 ≤ path.length + f →
      Calls Tryd.prog 22 #[.agg #[.slice a0 L.length c0], vp, vb] w (GaveSr w B (srF (adjB L) (nthR L) f path best)) := by
  obtain ⟨i0, hi, hz0, hz1, hz2⟩ := info_parts Tryd.infoI
  have hz := hG.1
  have HGP := Lib.hid hG
  clear hG
  intro f
  induction f with
  | zero =>
    intro path best vp vb w B _ _ _ _ hp _ hf
    have := hp.le
    omega
  | succ f ih =>
    intro path best vp vb w B hg hs hob hB hp hpl hf
    have IH := Lib.hid ih
    clear ih
    have hp16 := hp.le
    have hpos := hp.pos
    obtain ⟨ap, cp, rfl⟩ := hs.slice
    obtain ⟨ab, cb, rfl⟩ := hob.row.slice
    obtain ⟨wA, hwA⟩ : ∃ wA, wA = w.alloc (.cells #[.slice a0 L.length c0] 29) := ⟨_, rfl⟩
    have HB0 : Hid (Below w.heap.size w wA) := by rw [hwA]; exact (Below.refl _ _).alloc (Nat.le_refl _) _
    have HX0 : Hid (BoxAt wA w.heap.size (.slice a0 L.length c0)) := by rw [hwA]; exact BoxAt.new _ _ _
    have HSZ : Hid (wA.heap.size = w.heap.size + 1) := by rw [hwA]; exact size_alloc1 _ _
    have HBW : Hid (∀ W, Below wA.heap.size wA W → Below w.heap.size w W) := fun W hb => HB0.out.trans (hb.mono HB0.out.size)
    have HKB : Hid (∀ W, Below wA.heap.size wA W → W.cell? ⟨w.heap.size, 0, none⟩ = some (.slice a0 L.length c0)) := fun W hb => (HX0.out.keep hb).1
    have HGK : Hid (∀ W, Below w.heap.size w W → GridAt W (.slice a0 L.length c0) L) := fun W hb => hg.keep hb
    have HSK : Hid (∀ W, Below w.heap.size w W → RowAt W (.slice ap path.length cp) path) := fun W hb => hs.keep hb
    have HOB : Hid (OwnRow 2 w B (.slice ab best.length cb) best) := hob
    have HOA : Hid (OwnRow 2 wA B (.slice ab best.length cb) best) := hob.keep HB0.out
    have HP := Lib.hid hp
    have HPL := Lib.hid hpl
    clear hg hs hob hp hpl
    go_enter Tryd.func22, Tryd.ntmps22
    by_cases hc : best ≠ [] ∧ best.length ≤ path.length
    · have HF : Hid (srF (adjB L) (nthR L) (f + 1) path best = best) := by show _ = _; rw [srF_succ, if_pos hc]
      have h0 : 0 < best.length := List.length_pos_iff.2 hc.1
      have h1 := hc.2
      have h2 : (best.length : Int) > 0 := by omega
      have h3 : (path.length : Int) ≥ (best.length : Int) := by omega
      go_wp2_with fail
      rw [← hwA]
      go_ret
      rw [HF.out]
      exact ⟨_, _, _, rfl, HOA.out, HBW.out _ (Below.refl _ _)⟩
    · have HF := Lib.hid (srK_full (adjB L) (nthR L) f path best hc)
      have hq : (best.length = 0) ∨ (0 < best.length ∧ path.length < best.length) := by
        rcases Nat.eq_zero_or_pos best.length with e | e
        · exact Or.inl e
        · refine Or.inr ⟨e, ?_⟩
          rcases Nat.lt_or_ge path.length best.length with g | g
          · exact g
          · exact absurd ⟨List.length_pos_iff.1 e, g⟩ hc
      obtain ⟨p, hpp⟩ : ∃ p : Nat, p + 1 = path.length := ⟨path.length - 1, by omega⟩
      obtain ⟨l, hl⟩ : ∃ l : Nat, l = vtxN path (path.length - 1) := ⟨_, rfl⟩
      have hpe : path.length - 1 = p := by omega
      have hln : l < L.length := by rw [hl]; exact HPL.out _ (by omega)
      have hlp : nth path p = (l : Int) := by rw [HP.out.at_ p (by omega), hl, hpe]
      obtain ⟨s, hse⟩ : ∃ s : Nat, s = vtxN path 0 := ⟨_, rfl⟩
      have hs0 : nth path 0 = (s : Int) := by rw [HP.out.at_ 0 hpos, hse]
      have hsn : s < L.length := by rw [hse]; exact HPL.out 0 hpos
      have HPC : Hid (∀ W, Below w.heap.size w W → ∃ bp op, ap = some ⟨bp, op, none⟩ ∧ W.cell? ⟨bp, op + p, none⟩ = some (.int .i64 (l : Int)) ∧ W.cell? ⟨bp, op, none⟩ = some (.int .i64 (s : Int))) := fun W hb => by
        obtain ⟨bp, op, cp', ep, lp1, lp2, hcp⟩ := (HSK.out W hb).pos (by omega)
        simp only [Value.slice.injEq, true_and] at ep
        refine ⟨bp, op, ep.1, ?_, ?_⟩
        · have := hcp p (by omega)
          rwa [hlp] at this
        · have := hcp 0 (by omega)
          rwa [hs0] at this
      obtain ⟨row, hrow⟩ : ∃ row, row = nthR L l := ⟨_, rfl⟩
      have HRW : Hid (∀ W, Below w.heap.size w W → ∃ bg og an cn, a0 = some ⟨bg, og, none⟩ ∧ W.cell? ⟨bg, og + l, none⟩ = some (.slice an row.length cn) ∧ RowAt W (.slice an row.length cn) row) := fun W hb => by
        obtain ⟨bg, og, cg, AG, CG, eg, lg1, lg2, hcg⟩ := (HGK.out W hb).pos (by omega)
        simp only [Value.slice.injEq, true_and] at eg
        obtain ⟨k1, k2⟩ := hcg l hln
        rw [← hrow] at k1 k2
        exact ⟨bg, og, _, _, eg.1, k1, k2⟩
      have HSU : Hid (∀ k, k < row.length → srK (adjB L) (nthR L) f path best (k + 1) = srS (adjB L) (nthR L) f path (srK (adjB L) (nthR L) f path best k) (nth row k)) := fun k hk => by
        have := srK_succ (adjB L) (nthR L) f path best (k := k)
        rw [← hl, ← hrow] at this
        exact this hk
      have HF2 : Hid (srF (adjB L) (nthR L) (f + 1) path best = srK (adjB L) (nthR L) f path best row.length) := by
        show _ = _
        rw [HF.out, ← hl, ← hrow]
      have hset := (HGP.out.2.1 l hln).1
      have HRV : Hid (∀ k, k < row.length → ∃ v : Nat, v < L.length ∧ nth row k = (v : Int) ∧ adjB L l v = true) := fun k hk => by
        rw [hrow] at hk ⊢
        have hst := hset k hk
        have hst1 := hst.1
        have hst2 := hst.2.1
        refine ⟨(nth (nthR L l) k).toNat, by omega, by omega, ?_⟩
        rw [← adjB_has HGP.out hln (by omega), hasB_mem, show (((nth (nthR L l) k).toNat : Nat) : Int) = nth (nthR L l) k by omega]
        exact nth_mem hk
      have hrl : row.length ≤ 16 := by
        rw [hrow]
        have := hset.len (by omega)
        omega
      have hwp : IntKind.i64.wrap ((path.length : Int) - 1) = (p : Int) := by rw [IntKind.wrap_i64]; omega
      have hpI : (p : Int) < (path.length : Int) := by omega
      have hlI : (l : Int) < (L.length : Int) := by omega
      have hK0 : srK (adjB L) (nthR L) f path best 0 = best := rfl
      have HK0 : Hid (OwnRow 2 wA B (.slice ab best.length cb) (srK (adjB L) (nthR L) f path best 0)) := HOA.out
      have HVL := Lib.hid hl
      have HSE := Lib.hid hse
      have HLP := Lib.hid hlp
      have HPE := Lib.hid hpe
      have HS0 := Lib.hid hs0
      have HROW := Lib.hid hrow
      clear hset hK0 hlp hs0 hl hse hpe hrow hpp
      obtain ⟨bp, op, e1, kp, k0⟩ := HPC.out _ HB0.out
      subst e1
      obtain ⟨bg, og, an, cn, e2, kg, hrr⟩ := HRW.out _ HB0.out
      subst e2
      have kbx := HKB.out _ (Below.refl _ _)
      have HKC : Hid (∀ W, Below wA.heap.size wA W → W.cell? ⟨w.heap.size, 0, none⟩ = some (.slice (some ⟨bg, og, none⟩) L.length c0) ∧ W.cell? ⟨bp, op, none⟩ = some (.int .i64 (s : Int)) ∧ W.cell? ⟨bg, og + l, none⟩ = some (.slice an row.length cn) ∧ RowAt W (.slice an row.length cn) row) := fun W hb => ⟨cell_keep hb kbx, cell_keep hb k0, cell_keep hb kg, hrr.keep hb⟩
      clear HPC HRW hrr
      rw [hwA] at kp k0 kg kbx
      have hq : (¬ 0 < best.length) ∨ (0 < best.length ∧ ¬ best.length ≤ path.length) := by omega
      clear hc
      rcases hq with q | ⟨q, q'⟩
      all_goals (
        go_wp2_with fail
        rw [← hwA]
        have HBA : Hid (B ≤ wA.heap.size) := Nat.le_trans hB HB0.out.size
        clear kp k0 kg kbx hwA
        clear q
        try clear q'
        go_loopw [2, 8] (fun bv iv wr => ∃ k : Nat, k ≤ row.length ∧ iv = .int .i64 k ∧ ∃ m a c, bv = .slice a m c ∧ OwnRow 2 wr B (.slice a m c) (srK (adjB L) (nthR L) f path best k) ∧ Below wA.heap.size wA wr) (fun _ iv _ => row.length - (intOf iv).toNat)
        case atStart => exact ⟨0, Nat.zero_le _, rfl, _, _, _, rfl, HK0.out, Below.refl _ _⟩
        case round =>
          obtain ⟨k, hk, rfl, m, a, c, rfl, ho, hb⟩ := hrel
          have HO := Lib.hid ho
          have HB := Lib.hid hb
          obtain ⟨kbx, k0, kg, hrr⟩ := HKC.out _ hb
          clear ho
          by_cases hlt : k < row.length
          · obtain ⟨br, orr, cr, er, lr1, lr2, hcr⟩ := hrr.pos (by omega)
            simp only [Value.slice.injEq, true_and] at er
            obtain ⟨rfl, rfl⟩ := er
            obtain ⟨v, hvn, hve, hvA⟩ := HRV.out k hlt
            have hkv := hcr k hlt
            rw [hve] at hkv
            have hkI : (k : Int) < (row.length : Int) := by omega
            have HS := Lib.hid (HSU.out k hlt)
            rw [hve] at HS
            clear hb hcr hrr
            obtain ⟨Z, hZ⟩ : ∃ Z, Z = srK (adjB L) (nthR L) f path best k := ⟨_, rfl⟩
            rw [← hZ] at HO HS
            obtain rfl : m = Z.length := by
              obtain ⟨a3, c3, e3⟩ := HO.out.row.slice
              simp only [Value.slice.injEq] at e3
              exact e3.2.1
            clear hZ
            go_wp2_with fail
            refine (l8Near_any _ _ L path v _ HGP.out (HGK.out _ (HBW.out _ HB.out)) (HSK.out _ (HBW.out _ HB.out)) hp16 (by omega) (fun i hi => ⟨vtxN path i, HPL.out i hi, HP.out.at_ i hi⟩)).mono ?_
            rintro e w1 ⟨rfl, hb1⟩
            have HB1 : Hid (Below wA.heap.size wA w1) := HB.out.trans (hb1.mono HB.out.size)
            have HO1 := Lib.hid (HO.out.keep hb1)
            obtain ⟨kbx1, k01, kg1, hrr1⟩ := HKC.out _ HB1.out
            clear hb1 HO kbx k0 kg hkv hrr1
            have HSAME : Hid (srS (adjB L) (nthR L) f path Z (v : Int) = Z → OwnRow 2 w1 B (.slice a Z.length c) (srK (adjB L) (nthR L) f path best (k + 1))) := fun e => by rw [HS.out, e]; exact HO1.out
            have HHB := Lib.hid (l1Has_any (.slice (some ⟨bp, op, none⟩) path.length cp) path (v : Int) w1 (HSK.out _ (HBW.out _ HB1.out)))
            by_cases cA : v ≤ s
            · have HE := Lib.hid (HSAME.out (by unfold srS; rw [if_pos (Or.inl (by rw [HS0.out]; omega))]))
              go_wp2
              go_roundw
              case rel => exact ⟨k + 1, by omega, by go_num, _, _, _, rfl, HE.out, HB1.out⟩
              case measure => simp [intOf]; omega
            · obtain ⟨t, ht⟩ : ∃ t, t = hasB path (v : Int) := ⟨_, rfl⟩
              rw [← ht] at HHB
              go_wp2_with fail
              refine HHB.out.mono ?_
              rintro e w' ⟨rfl, rfl⟩
              cases t with
              | true =>
                have HE := Lib.hid (HSAME.out (by unfold srS; rw [if_pos (Or.inr ht.symm)]))
                clear ht
                go_wp2
                go_roundw
                case rel => exact ⟨k + 1, by omega, by go_num, _, _, _, rfl, HE.out, HB1.out⟩
                case measure => simp [intOf]; omega
              | false =>
                have hn0 : ¬ ((v : Int) ≤ nth path 0 ∨ hasB path (v : Int) = true) := by
                  rw [HS0.out, ← ht]
                  simp; omega
                have HNO : Hid (∀ i, i < path.length → vtxN path i ≠ v) := fun i hi e => hn0 (Or.inr (by rw [hasB_mem, ← e, ← HP.out.at_ i hi]; exact nth_mem hi))
                have HSR : Hid (srS (adjB L) (nthR L) f path Z (v : Int) = if nearC (adjB L) path v = 1 then srF (adjB L) (nthR L) f (path ++ [(v : Int)]) Z
                    else if nearC (adjB L) path v = 2 ∧ 3 ≤ path.length ∧ adjB L (vtxN path 0) v = true then betterR Z (path ++ [(v : Int)]) else Z) := by
                  show _ = _
                  unfold srS
                  rw [if_neg hn0, Int.toNat_natCast]
                have HNE := Lib.hid (rfl : nearC (adjB L) path v = nearC (adjB L) path v)
                obtain ⟨N, hN⟩ : ∃ N, N = nearC (adjB L) path v := ⟨_, rfl⟩
                rw [← hN] at HSR ⊢
                have HN := Lib.hid hN
                clear hN hn0 ht HNE
                by_cases c1 : N = 1
                · have q1 : ((N : Int) == 1) = true := by rw [beq_iff_eq]; omega
                  rw [if_pos c1] at HSR
                  have hn1 : nearC (adjB L) path v = 1 := by rw [← HN.out]; exact c1
                  have hvl : adjB L (vtxN path (path.length - 1)) v = true := by rw [← HVL.out]; exact hvA
                  have HPS := Lib.hid (HP.out.snoc hvl (by omega) hn1 (by rw [← HSE.out]; omega) HNO.out)
                  have HPI : Hid (∀ i, i < (path ++ [(v : Int)]).length → vtxN (path ++ [(v : Int)]) i < L.length) := fun i hi => by
                    rw [List.length_append, List.length_singleton] at hi
                    rw [vtx_snoc v]
                    by_cases e : i < path.length
                    · rw [if_pos e]; exact HPL.out i e
                    · rw [if_neg e, if_pos (by omega)]; exact hvn
                  have HI64 : Hid (∀ y ∈ path ++ [(v : Int)], I64 y) := fun y hy => by
                    rcases List.mem_append.1 hy with h | h
                    · obtain ⟨i, hi, rfl⟩ := List.getElem_of_mem h
                      have h1 := HP.out.lt i hi
                      have h2 := HP.out.at_ i hi
                      rw [nth_eq hi] at h2
                      unfold I64; omega
                    · rw [List.mem_singleton] at h; subst h; unfold I64; omega
                  have HSC : Hid (∀ W, Below w1.heap.size w1 W → Calls Tryd.prog 41 #[.slice (some ⟨bp, op, none⟩) path.length cp] W (GaveRow W path)) := fun W hb => l1Copy_any _ path W (HSK.out _ (HBW.out _ (HB1.out.trans (hb.mono HB1.out.size)))) (by omega)
                  have HLIT : Hid (∀ w', Below (w1.alloc (.cells #[.int .i64 (v : Int)] 2)).heap.size (w1.alloc (.cells #[.int .i64 (v : Int)] 2)) w' → ∀ j u, ([Value.int .i64 (v : Int)] : List Value)[j]? = some u → w'.cell? ((⟨w1.heap.size, 0, none⟩ : Addr).add j) = some u) := fun w' hb j u hj => cell_keep hb (lit1 w1 _ _ j u hj)
                  have HIX : Hid (∀ W v6, Below w1.heap.size w1 W → OwnRow 2 W w1.heap.size v6 (path ++ [(v : Int)]) → Calls Tryd.prog 22 #[.agg #[.slice (some ⟨bg, og, none⟩) L.length c0], v6, .slice a Z.length c] W (GaveSr W B (srF (adjB L) (nthR L) f (path ++ [(v : Int)]) Z))) := fun W v6 hb h6 =>
                    IH.out (path ++ [(v : Int)]) Z v6 _ W B (HGK.out _ (HBW.out _ (HB1.out.trans (hb.mono HB1.out.size)))) h6.row (HO1.out.keep hb) (Nat.le_trans HBA.out (Nat.le_trans HB1.out.size hb.size)) HPS.out HPI.out (by rw [List.length_append, List.length_singleton]; omega)
                  have KS : Hid (∀ W, Below w1.heap.size w1 W → W.cell? ⟨w.heap.size, 0, none⟩ = some (.slice (some ⟨bg, og, none⟩) L.length c0)) := fun W hb => cell_keep hb kbx1
                  clear c1 hn1 hvl kbx1 k01 kg1 hvA
                  have ks := KS.out _ (Below.refl _ _)
                  go_wp2_with fail
                  go_region_held3 (fun wy => wy.cell? ⟨w.heap.size, 0, none⟩ = some (.slice (some ⟨bg, og, none⟩) L.length c0)) (first | exact ks | with_reducible exact KS.out _ (Below.refl _ _).drew | with_reducible exact KS.out _ ((Below.refl _ _).alloc (Nat.le_refl _) _).drew | with_reducible exact KS.out _ HB5.out | with_reducible exact KS.out _ (HB5.out.alloc HB5.out.size _) | with_reducible exact KS.out _ HB6.out | with_reducible exact KS.out _ HB7.out)
                  (first
                    | (go_at_call 41; (with_reducible refine (HSC.out _ (by first | with_reducible exact (Below.refl _ _).drew | with_reducible exact ((Below.refl _ _).alloc (Nat.le_refl _) _).drew)).mono ?_); rintro e w5 ⟨n5, a5, c5, rfl, ho5, hb5⟩; have HB5 : Hid (Below w1.heap.size w1 w5) := (by first | exact (Below.refl _ _).drew.trans hb5 | exact ((Below.refl _ _).alloc (Nat.le_refl _) _).drew.trans (hb5.mono (by show _ ≤ (w1.alloc _).heap.size; rw [size_alloc1]; exact Nat.le_succ _))); have HO5 : Hid (OwnRow 2 w5 w1.heap.size (.slice a5 n5 c5) path) := (by first | exact ho5 | exact ho5.mono (by show _ ≤ (w1.alloc _).heap.size; rw [size_alloc1]; exact Nat.le_succ _)); (first | (have HL5 := Lib.hid (HLIT.out _ (Below.trans (Below.refl _ _).drew hb5))) | skip); clear ho5 hb5)
                    | (refine step_append_own _ (by rfl) (.tmp 67) (.tmp 69) 26 (by rfl) w1.heap.size 2 i0 (.int .i64 0) 1 8 Tryd.underlying26 hi hz0 hz1 hz2 rfl (by omega) (.slice a5 n5 c5) _ _ (by rfl) (HO5.out.owns.alloc _) ⟨w5.heap.size, 0, none⟩ 1 1 [.int .i64 (v : Int)] (by rfl) (by rfl) (lit1 _ _ _) (one1 _) (by unfold maxLen; omega) (by omega) (by have := HB5.out.size; simp; omega) ?_; intro v6 w6 hown6 hgrow6; have HB6 : Hid (Below w1.heap.size w1 w6) := (HB5.out.alloc HB5.out.size _).grown hgrow6 (by have := HB5.out.size; simp; omega) (fun j hj => (HO5.out.lt j hj).1); have HO6 : Hid (OwnRow 2 w6 w1.heap.size v6 (path ++ [(v : Int)])) := OwnRow.of_ownsRow (n := path.length + 1) (by simpa using hown6) (by simp; unfold maxLen; omega) HI64.out; clear hown6 hgrow6)
                    | (refine step_append_own _ (by rfl) (.tmp 67) (.tmp 69) 26 (by rfl) w1.heap.size 2 i0 (.int .i64 0) 1 8 Tryd.underlying26 hi hz0 hz1 hz2 rfl (by omega) (.slice a5 n5 c5) _ _ (by rfl) HO5.out.owns ⟨w1.heap.size, 0, none⟩ 1 1 [.int .i64 (v : Int)] (by rfl) (by rfl) HL5.out (one1 _) (by unfold maxLen; omega) (by omega) HB5.out.size ?_; intro v6 w6 hown6 hgrow6; have HB6 : Hid (Below w1.heap.size w1 w6) := HB5.out.grown hgrow6 HB5.out.size (fun j hj => (HO5.out.lt j hj).1); have HO6 : Hid (OwnRow 2 w6 w1.heap.size v6 (path ++ [(v : Int)])) := OwnRow.of_ownsRow (n := path.length + 1) (by simpa using hown6) (by simp; unfold maxLen; omega) HI64.out; clear hown6 hgrow6)
                    | (go_at_call 22; (with_reducible refine (HIX.out _ _ HB6.out HO6.out).mono ?_); rintro e w7 ⟨n7, a7, c7, rfl, ho7, hb7⟩; have HB7 : Hid (Below w1.heap.size w1 w7) := HB6.out.trans (hb7.mono HB6.out.size); have HO7 : Hid (OwnRow 2 w7 B (.slice a7 n7 c7) (srK (adjB L) (nthR L) f path best (k + 1))) := (by show OwnRow _ _ _ _ _; rw [HS.out, HSR.out]; exact ho7); clear ho7 hb7))
                  all_goals (
                    have HB8 : Hid (Below wA.heap.size wA w7) := HB1.out.trans (HB7.out.mono HB1.out.size)
                    go_wp2
                    go_roundw
                    case rel => exact ⟨k + 1, by omega, by go_num, _, _, _, rfl, HO7.out, HB8.out⟩
                    case measure => simp [intOf]; omega)
                · have q1 : ((N : Int) == 1) = false := by rw [beq_eq_false_iff_ne]; omega
                  rw [if_neg c1] at HSR
                  have C1 := Lib.hid c1
                  clear c1
                  by_cases c2 : N = 2
                  · have q2 : ((N : Int) == 2) = true := by rw [beq_iff_eq]; omega
                    have C2 := Lib.hid c2
                    clear c2
                    by_cases c3 : 3 ≤ path.length
                    · have q3 : (path.length : Int) ≥ 3 := by omega
                      obtain ⟨t, ht⟩ : ∃ t, t = adjB L s v := ⟨_, rfl⟩
                      have hcall : Hid (∀ z : Later w1, Calls Tryd.prog 42 #[.agg #[.slice (some ⟨bg, og, none⟩) L.length c0], .int .i64 (s : Int), .int .i64 (v : Int)] z.at fun e w5 => e = .returned (.bool t) ∧ ∃ t : Later w1, w5 = t.at) :=
                        fun z => Calls.later ((l1Edge_any _ L (s : Int) (v : Int) _ (HGK.out _ (HBW.out _ (HB1.out.trans (z.bel.mono HB1.out.size)))) (by omega) (by omega)).mono fun _ _ ⟨h1, h2⟩ => ⟨by rw [h1, Int.toNat_natCast, ht, adjB_has HGP.out hsn (by omega)], h2⟩)
                      have kl := fun z : Later w1 => z.cell kbx1
                      have kl0 := fun z : Later w1 => z.cell k01
                      have HT := Lib.hid ht
                      have hpos' : (0 : Int) < (path.length : Int) := by omega
                      clear ht kg1
                      cases t with
                      | false =>
                        have HE := Lib.hid (HSAME.out (by rw [HSR.out, if_neg (fun h => by rw [← HSE.out, ← HT.out] at h; exact Bool.false_ne_true h.2.2)]))
                        go_wp2_with fail
                        refine wp_region_later (by kernel_rfl) (by kernel_rfl) ?_
                        repeat (go_big_quiet_step ((go_at_call 42; exact hcall.out _)))
                        refine wpQuiet_nil ?_
                        rintro _ ⟨z, rfl⟩
                        have hb5 : Below wA.heap.size wA z.at := HB1.out.trans (z.bel.mono HB1.out.size)
                        have ho5 := HE.out.keep z.bel
                        generalize z.at = w5 at hb5 ho5 ⊢
                        have HB5 := Lib.hid hb5
                        have HO5 := Lib.hid ho5
                        clear hb5 ho5 kl kl0 hcall
                        go_wp2
                        go_roundw
                        case rel => exact ⟨k + 1, by omega, by go_num, _, _, _, rfl, HO5.out, HB5.out⟩
                        case measure => simp [intOf]; omega
                      | true =>
                        have HTR : Hid (srS (adjB L) (nthR L) f path Z (v : Int) = betterR Z (path ++ [(v : Int)])) := by
                          show _ = _
                          rw [HSR.out, if_pos ⟨C2.out, c3, by rw [← HSE.out, ← HT.out]⟩]
                        go_wp2_with fail
                        refine wp_region_later (by kernel_rfl) (by kernel_rfl) ?_
                        repeat (go_big_quiet_step ((go_at_call 42; exact hcall.out _)))
                        refine wpQuiet_nil ?_
                        rintro _ ⟨z, rfl⟩
                        have hb5 : Below wA.heap.size wA z.at := HB1.out.trans (z.bel.mono HB1.out.size)
                        have ho5 := HO1.out.keep z.bel
                        generalize z.at = w5 at hb5 ho5 ⊢
                        have HB5 := Lib.hid hb5
                        have HO5 := Lib.hid ho5
                        have HI64 : Hid (∀ y ∈ path ++ [(v : Int)], I64 y) := fun y hy => by
                          rcases List.mem_append.1 hy with h | h
                          · obtain ⟨i, hi, rfl⟩ := List.getElem_of_mem h
                            have h1 := HP.out.lt i hi
                            have h2 := HP.out.at_ i hi
                            rw [nth_eq hi] at h2
                            unfold I64; omega
                          · rw [List.mem_singleton] at h; subst h; unfold I64; omega
                        have HL1 : Hid (Calls Tryd.prog 41 #[.slice (some ⟨bp, op, none⟩) path.length cp] w5 (GaveRow w5 path)) := l1Copy_any _ path w5 (HSK.out _ (HBW.out _ hb5)) (by omega)
                        clear hb5 ho5 kl kl0 hcall
                        go_wp2_with fail
                        refine HL1.out.mono ?_
                        rintro e w6 ⟨n6, a6, c6, rfl, ho6, hb6⟩
                        have HB6 : Hid (Below wA.heap.size wA w6) := HB5.out.trans (hb6.mono HB5.out.size)
                        have HO6 := Lib.hid ho6
                        have hz56 := hb6.size
                        have HB56 : Hid (Below w5.heap.size w5 w6) := hb6
                        clear ho6 hb6
                        go_wp2_with (at_builtin; refine wpList_append_own _ rfl (.tmp 90) (.tmp 92) 26 rfl w5.heap.size 2 i0 (.int .i64 0) 1 8 Tryd.underlying26 hi hz0 hz1 hz2 rfl (by decide) _ _ _ rfl (HO6.out.owns.alloc _) ⟨w6.heap.size, 0, none⟩ 1 1 [.int .i64 (v : Int)] rfl rfl (lit1 _ _ _) (one1 _) (by unfold maxLen; omega) (by omega) (by simp; omega) ?_)
                        intro v7 w7 hown7 hgrow7 _
                        have HB57 : Hid (Below w5.heap.size w5 w7) := (HB56.out.alloc hz56 _).grown hgrow7 (by simp; omega) (fun j hj => (HO6.out.lt j hj).1)
                        have HB7 : Hid (Below wA.heap.size wA w7) := HB5.out.trans (HB57.out.mono HB5.out.size)
                        have HO7 : Hid (OwnRow 2 w7 w5.heap.size v7 (path ++ [(v : Int)])) := OwnRow.of_ownsRow (n := path.length + 1) (by simpa using hown7) (by simp; unfold maxLen; omega) HI64.out
                        have HZ7 := Lib.hid (HO5.out.keep HB57.out)
                        have HBW7 : Hid (B ≤ w5.heap.size) := Nat.le_trans HBA.out HB5.out.size
                        clear hown7 hgrow7 HO5 HO6 HB56 hz56 HL1
                        obtain ⟨a7, c7, e7⟩ := HO7.out.row.slice
                        obtain ⟨X, hX⟩ : ∃ X, X = path ++ [(v : Int)] := ⟨_, rfl⟩
                        have hXn : X ≠ [] := by rw [hX]; simp
                        rw [← hX] at HO7 HTR e7
                        clear hX
                        subst e7
                        have HXN := Lib.hid hXn
                        clear hXn
                        have HLS := Lib.hid (l1LessR_any _ _ X Z w7 HO7.out.row HZ7.out.row)
                        by_cases c4 : Z.length = 0
                        · have q4 : ((Z.length : Int) == 0) = true := by rw [beq_iff_eq]; omega
                          have HE : Hid (OwnRow 2 w7 B (.slice a7 X.length c7) (srK (adjB L) (nthR L) f path best (k + 1))) := by
                            show OwnRow _ _ _ _ _
                            rw [HS.out, HTR.out]
                            unfold betterR
                            rw [if_pos ⟨HXN.out, Or.inl (List.length_eq_zero_iff.1 c4)⟩]
                            exact HO7.out.mono HBW7.out
                          clear c4 HLS
                          go_wp2
                          go_roundw
                          case rel => exact ⟨k + 1, by omega, by go_num, _, _, _, rfl, HE.out, HB7.out⟩
                          case measure => simp [intOf]; omega
                        · have q4 : ((Z.length : Int) == 0) = false := by rw [beq_eq_false_iff_ne]; omega
                          have hZn : Z ≠ [] := fun e => c4 (by rw [e]; rfl)
                          have HZN := Lib.hid hZn
                          clear c4 hZn
                          obtain ⟨t, ht⟩ : ∃ t, t = ltB X Z := ⟨_, rfl⟩
                          rw [← ht] at HLS
                          have HT2 := Lib.hid ht
                          clear ht
                          go_wp2_with fail
                          refine HLS.out.mono ?_
                          rintro e w8 ⟨rfl, hd8⟩
                          have HB8 : Hid (Below wA.heap.size wA w8) := HB7.out.trans (hd8.below _)
                          cases t with
                          | true =>
                            have HE : Hid (OwnRow 2 w8 B (.slice a7 X.length c7) (srK (adjB L) (nthR L) f path best (k + 1))) := by
                              show OwnRow _ _ _ _ _
                              rw [HS.out, HTR.out]
                              unfold betterR
                              rw [if_pos ⟨HXN.out, Or.inr ((ltB_iff _ _).1 HT2.out.symm)⟩]
                              exact (HO7.out.mono HBW7.out).keep (hd8.below _)
                            clear hd8
                            go_wp2
                            go_roundw
                            case rel => exact ⟨k + 1, by omega, by go_num, _, _, _, rfl, HE.out, HB8.out⟩
                            case measure => simp [intOf]; omega
                          | false =>
                            have HE : Hid (OwnRow 2 w8 B (.slice a Z.length c) (srK (adjB L) (nthR L) f path best (k + 1))) := by
                              show OwnRow _ _ _ _ _
                              rw [HS.out, HTR.out]
                              unfold betterR
                              rw [if_neg (fun h => by
                                rcases h.2 with e | e
                                · exact HZN.out e
                                · have := (ltB_iff _ _).2 e
                                  rw [← HT2.out] at this; cases this)]
                              exact HZ7.out.keep (hd8.below _)
                            clear hd8
                            go_wp2
                            go_roundw
                            case rel => exact ⟨k + 1, by omega, by go_num, _, _, _, rfl, HE.out, HB8.out⟩
                            case measure => simp [intOf]; omega
                    · have q3 : decide ((path.length : Int) ≥ 3) = false := decide_eq_false (by omega)
                      have q4 : ¬ ((path.length : Int) ≥ 3) := by omega
                      have q5 : decide (3 ≤ path.length) = false := decide_eq_false c3
                      have HE := Lib.hid (HSAME.out (by rw [HSR.out, if_neg (fun h => c3 h.2.1)]))
                      go_wp2
                      go_quiet (fail)
                      go_wp2
                      go_roundw
                      case rel => exact ⟨k + 1, by omega, by go_num, _, _, _, rfl, HE.out, below_drewN HB1.out _⟩
                      case measure => simp [intOf]; omega
                  · have q2 : ((N : Int) == 2) = false := by rw [beq_eq_false_iff_ne]; omega
                    have HE := Lib.hid (HSAME.out (by rw [HSR.out, if_neg (fun h => c2 h.1)]))
                    go_wp2
                    go_quiet (fail)
                    go_wp2
                    go_roundw
                    case rel => exact ⟨k + 1, by omega, by go_num, _, _, _, rfl, HE.out, below_drewN HB1.out _⟩
                    case measure => simp [intOf]; omega
          · obtain rfl : k = row.length := by omega
            clear hb
            go_wp2
            go_ret
            exact ⟨_, _, _, rfl, by rw [HF2.out]; exact HO.out, HBW.out _ HB.out⟩)

end Go.Proofs.YtohjfcfcopbmoaaDoor
