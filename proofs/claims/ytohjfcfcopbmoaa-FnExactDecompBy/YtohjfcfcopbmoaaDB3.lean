/- Walks: DecompBy, of the model. -/
import Derived.Test.YtohjfcfcopbmoaaDB2
import Derived.Test.YtohjfcfcopbmoaaEL4
import Derived.Test.YtohjfcfcopbmoaaM6
import Derived.Test.YtohjfcfcopbmoaaE3
import Derived.Deep.RegionHeld3
import Derived.Deep.AppendLies

namespace Go.Proofs.Ytohjfcfcopbmoaa
open Go.RowKit

theorem OwnGrid.apart {T T1 : TypeId} {w w' : World} {B B' : Nat} {v u : Value} {L : List (List Int)} {n : Nat} {ys : List Value} (h : OwnGrid T T1 w B v L) (hu : w.ownsRow B' T1 1 u n ys) (hT : T ≠ T1) (hne : ∀ z, v.ownBlock = some z → u.ownBlock ≠ some z) (hg : w.grownBy w' u.ownBlock) : OwnGrid T T1 w' B v L := by
  obtain ⟨R, h2, h3, h4, h5⟩ := h
  refine ⟨R, h2, ?_, fun i hi => (h4 i hi).grown hu hT hg, h5⟩
  rcases h3 with h3 | ⟨g, cap, cur, e, hgB, hh, r⟩
  · exact Or.inl h3
  · refine Or.inr ⟨g, cap, cur, e, hgB, ?_, r⟩
    obtain ⟨hlt, _⟩ := Array.getElem?_eq_some_iff.1 hh
    rw [hg.block g hlt (Ne.symm (hne g (by rw [e]; rfl)))]
    exact hh
theorem OwnGrid.headLt {T T1 : TypeId} {w : World} {B : Nat} {v : Value} {L : List (List Int)} (h : OwnGrid T T1 w B v L) {z : Nat} (hz : v.ownBlock = some z) : B ≤ z ∧ z < w.heap.size := by
  obtain ⟨R, h2, h3, h4, h5⟩ := h
  rcases h3 with ⟨e, _⟩ | ⟨g, cap, cur, e, hgB, hh, r⟩
  · rw [e] at hz; simp [Value.ownBlock] at hz
  · rw [e] at hz
    simp [Value.ownBlock] at hz
    subst hz
    exact ⟨hgB, (Array.getElem?_eq_some_iff.1 hh).1⟩
theorem dbHas (L : List (List Int)) (xs : List Int) (i : Nat) {u : Nat} (hu : u < 16) : hasB (listM (pm (dbS L xs i))) (u : Int) = dbS L xs i u := by
  have h : hasB (listM (pm (dbS L xs i))) (u : Int) = (pm (dbS L xs i)).testBit u := by
    rw [Bool.eq_iff_iff, hasB_mem, listM_mem]
    constructor
    · rintro ⟨j, hj, h, e⟩
      have : j = u := by omega
      rw [← this]; exact h
    · intro h
      exact ⟨u, hu, h, rfl⟩
  rw [h, pm_bit, decide_eq_true hu, Bool.true_and]

/-- What DecompBy answers. -/
def decBL (L : List (List Int)) (xs : List Int) : List (List Int) := if orderB L xs = true then dbB L xs xs.length else []
def decKL (L : List (List Int)) (xs : List Int) : List (List Int) := if orderB L xs = true then dbK L xs xs.length else []
/-- A decomposition and a yes or no. -/
def GaveDS (w : World) (B K : List (List Int)) (ok : Bool) (e : Ending) (w' : World) : Prop :=
  ∃ (m : Nat) (a : Option Addr) (c m' : Nat) (a' : Option Addr) (c' : Nat), e = .returned (.tuple #[.agg #[.slice a m c, .slice a' m' c'], .bool ok]) ∧ OwnGrid 2 33 w' w.heap.size (.slice a m c) B ∧ OwnGrid 2 33 w' w.heap.size (.slice a' m' c') K ∧ Below w.heap.size w w'

/-- The model's decomposition, half done: its box lies at q. -/
structure DbS (w2 : World) (q : Nat) (L : List (List Int)) (xs : List Int) (k j : Nat) (W : World) : Prop where
  box : ∃ bv kv, Box2 27 W q bv kv ∧ OwnGrid 2 33 W (q + 1) bv (dbB L xs k) ∧ OwnGrid 2 33 W (q + 1) kv (dbK L xs j) ∧ ∀ z, kv.ownBlock = some z → bv.ownBlock ≠ some z
  bel : Below q w2 W

set_option maxHeartbeats 8000000 in
set_option maxRecDepth 100000 in
theorem specDecompBy_any (v v1 : Value) (L : List (List Int)) (xs : List Int) (w : World) (h : GridAt w v L) (h1 : RowAt w v1 xs) : Calls Try.prog 13 #[.agg #[v], v1] w (GaveDS w (decBL L xs) (decKL L xs) (orderB L xs)) := by
  obtain ⟨i0, hi, hz0, hz1, hz2⟩ := info_parts Try.infoR
  obtain ⟨a0, c0, rfl⟩ := h.slice
  obtain ⟨a1, c1, rfl⟩ := h1.slice
  have HGK : Hid (∀ w', Below w.heap.size w w' → GridAt w' (.slice a0 L.length c0) L) := fun w' hb => h.keep hb
  have HRK : Hid (∀ w', Below w.heap.size w w' → RowAt w' (.slice a1 xs.length c1) xs) := fun w' hb => h1.keep hb
  obtain ⟨wA, hwA⟩ : ∃ wA, wA = (w.alloc (.cells #[.slice a0 L.length c0] 37)).alloc (.cells #[.slice none 0 0, .slice none 0 0] 27) := ⟨_, rfl⟩
  have hb0 : Below w.heap.size w wA := by rw [hwA]; exact ((Below.refl _ _).alloc (Nat.le_refl _) _).alloc (by simp) _
  have hsA : wA.heap.size = w.heap.size + 2 := by rw [hwA]; simp
  have hX : BoxAt wA w.heap.size (.slice a0 L.length c0) := by
    rw [hwA]; exact (BoxAt.new w (.slice a0 L.length c0) 37).keep ((Below.refl _ _).alloc (Nat.le_refl _) _)
  have hY : Box2 27 wA (w.heap.size + 1) (.slice none 0 0) (.slice none 0 0) := by
    rw [hwA]
    have h5 := Box2.new (w.alloc (.cells #[.slice a0 L.length c0] 37)) (.slice none 0 0) (.slice none 0 0) 27
    rw [size_alloc1] at h5
    exact h5
  have HB0 := Lib.hid hb0
  have HX0 := Lib.hid hX
  have HY0 := Lib.hid hY
  have HSA := Lib.hid hsA
  clear h h1 hb0 hX hY hsA
  go_enter Try.func13, Try.ntmps13
  go_wp2_with fail
  rw [← hwA]
  refine (specOrderOk_any _ _ L xs _ (HGK.out _ HB0.out) (HRK.out _ HB0.out)).mono ?_
  rintro e w1 ⟨rfl, hb1⟩
  have HB1 : Hid (Below w.heap.size w w1) := HB0.out.trans (hb1.mono HB0.out.size)
  have HX1 := Lib.hid (HX0.out.keep hb1)
  have HY1 := Lib.hid (HY0.out.keep hb1)
  have hz1' : w.heap.size + 2 ≤ w1.heap.size := by have := hb1.size; have := HSA.out; omega
  clear hb1 HX0 HY0 HB0 hwA
  by_cases hok : orderB L xs = true
  · obtain ⟨hG, hO, hx0, hx16⟩ := orderB_yes hok
    have HI := Lib.hid hok
    have HG := Lib.hid hG
    have HO := Lib.hid hO
    have hzL := hG.1
    have HXL : Hid (xs.length = L.length) := hO.1
    have kx := HX1.out.1
    rw [hok]
    clear hok hG hO
    go_wp2_with fail
    refine (l7Later_any _ _ L xs _ (HGK.out _ HB1.out) (HRK.out _ HB1.out) HG.out HO.out).mono ?_
    rintro e w2 ⟨n2, a2, c2, rfl, ho2, hb2⟩
    have HB2 : Hid (Below w.heap.size w w2) := HB1.out.trans (hb2.mono HB1.out.size)
    have HY2 := Lib.hid (HY1.out.keep hb2)
    have hz2' : w.heap.size + 2 ≤ w2.heap.size := by have := hb2.size; omega
    have HLG := Lib.hid ho2.grid
    obtain ⟨w3, hw3⟩ : ∃ w3, w3 = w2.alloc (.cells #[.slice none 0 0, .slice none 0 0] 27) := ⟨_, rfl⟩
    have HS0 : Hid (DbS w2 w2.heap.size L xs 0 0 w3) := by
      rw [hw3]
      exact ⟨⟨_, _, Box2.new w2 (.slice none 0 0) (.slice none 0 0) 27, by rw [dbB_zero]; exact own_nil _ _, by rw [dbK_zero]; exact own_nil _ _, fun z hz => absurd hz (by simp [Value.ownBlock])⟩, (Below.refl _ _).alloc (Nat.le_refl _) _⟩
    have hs3 : w3.heap.size = w2.heap.size + 1 := by rw [hw3]; simp
    clear hb2 ho2 kx HX1 HY1
    go_wp2
    rw [← hw3]
    clear hw3
    obtain ⟨gl, ol, cl, A, C, el, l1, l2, hcl⟩ := HLG.out.pos (by rw [adjL_len]; omega)
    simp only [adjL_len, Value.slice.injEq] at el
    obtain ⟨rfl, rfl, rfl⟩ := el
    have HCL : Hid (∀ v, v < L.length → w2.cell? ⟨gl, ol + v, none⟩ = some (.slice (A v) (listM (pm (laterA (adjB L) xs v))).length (C v)) ∧ RowAt w2 (.slice (A v) (listM (pm (laterA (adjB L) xs v))).length (C v)) (listM (pm (laterA (adjB L) xs v)))) := fun v hv => by
      have h9 := hcl v (by rw [adjL_len]; exact hv)
      rw [adjL_nth _ hv] at h9
      exact h9
    obtain ⟨bx, ox, cx, ex, lx1, lx2, hcx⟩ := (HRK.out w (Below.refl _ _)).pos (by have := HXL.out; omega)
    simp only [Value.slice.injEq, true_and] at ex
    obtain ⟨rfl, rfl⟩ := ex
    have HCX := Lib.hid hcx
    clear hcl hcx l1 l2 HLG
    go_loopw [9] (fun i wr => ∃ k : Nat, k ≤ xs.length ∧ i = .int .i64 k ∧ DbS w2 w2.heap.size L xs k k wr) (fun i _ => xs.length - (intOf i).toNat)
    case atStart => exact ⟨0, Nat.zero_le _, rfl, HS0.out⟩
    case round =>
      obtain ⟨k, hk, rfl, hs⟩ := hrel
      have HS := Lib.hid hs
      obtain ⟨⟨bv, kv, hbx, hbg, hkg, hsep⟩, hbel⟩ := hs
      have HBX := Lib.hid hbx
      have HBG := Lib.hid hbg
      have HKG := Lib.hid hkg
      have HBL := Lib.hid hbel
      have HSP := Lib.hid hsep
      have HBW : Hid (Below w.heap.size w wr) := HB2.out.trans (hbel.mono (by omega))
      have HYR : Hid (Box2 27 wr (w.heap.size + 1) (.slice none 0 0) (.slice none 0 0)) := by
        show _ = _
        rw [hbel.block _ (by omega)]; exact HY2.out
      have hzr : w2.heap.size + 1 ≤ wr.heap.size := hbx.lt
      clear hbx hbg hkg hbel HS0 hsep
      by_cases hlt : k < xs.length
      · have hxl := HXL.out
        have hkI : (k : Int) < (xs.length : Int) := by omega
        obtain ⟨v, hv, hvx⟩ := ordP_at HO.out hlt
        have HV : Hid (vtxN xs k = v) := by show _ = _; unfold vtxN; rw [hvx, Int.toNat_natCast]
        have hv0 : (v : Int) < (L.length : Int) := by omega
        have kx := cell_keep HBW.out (HCX.out k hlt)
        rw [hvx] at kx
        obtain ⟨kl, hrl⟩ := HCL.out v hv
        have HM : Hid (laterA (adjB L) xs v = dbS L xs k) := by show _ = _; unfold dbS; rw [HV.out]
        obtain ⟨M, hM⟩ : ∃ M, M = pm (dbS L xs k) := ⟨_, rfl⟩
        rw [HM.out, ← hM] at kl hrl
        have hll := listM_len M
        obtain ⟨ln, hln⟩ : ∃ ln, ln = (listM M).length := ⟨_, rfl⟩
        obtain ⟨al, hal⟩ : ∃ al, al = A v := ⟨_, rfl⟩
        obtain ⟨cl', hcl'⟩ : ∃ cl', cl' = C v := ⟨_, rfl⟩
        rw [← hln, ← hal, ← hcl'] at kl hrl
        rw [← hln] at hll
        have klr := cell_keep (HBL.out.mono (by omega)) kl
        have HRL : Hid (∀ W, Below w2.heap.size wr W → RowAt W (.slice al ln cl') (listM M)) := fun W hb => hrl.keep (HBL.out.trans hb)
        have HMM := Lib.hid hM
        have HLN := Lib.hid hln
        obtain ⟨ab, cb, eb⟩ := HBG.out.grid.slice
        rw [dbB_len] at eb
        subst eb
        obtain ⟨R, hR, hRr, hRd⟩ := HBG.out.owns
        rw [dbB_len] at hR hRr hRd
        have HR := Lib.hid hR
        have HRr := Lib.hid hRr
        have HRd := Lib.hid hRd
        have kb := HBX.out.c0
        have hqb : bx < w2.heap.size + 1 := by have h9 := block_lt_of_cell (HCX.out k hlt); dsimp only at h9; omega
        have KS : Hid (∀ W, Below (w2.heap.size + 1) wr W → W.cell? ⟨w2.heap.size, 0, none⟩ = some (.slice ab k cb) ∧ W.cell? ⟨bx, ox + k, none⟩ = some (.int .i64 (v : Int))) := fun W hb =>
          ⟨by rw [hb.cell (by simp)]; exact kb, by rw [hb.cell (by exact hqb)]; exact kx⟩
        have ks := KS.out wr (Below.refl _ _)
        have HC3 : Hid (k + 1 ≤ maxLen) := by show _ ≤ _; unfold maxLen; omega
        have HC4 : Hid ((k + 1) * 24 ≤ 140737488355328) := by show _ ≤ _; omega
        have HFB := Lib.hid (HBX.out.frozen 0)
        clear hR hRr hRd hM hln hal hcl' hrl kl hvx hxl
        go_wp2_with fail
        clear klr
        go_cut [] (fun wx => ∃ bv9, Box2 27 wx w2.heap.size bv9 kv ∧ OwnGrid 2 33 wx (w2.heap.size + 1) bv9 (dbB L xs (k + 1)) ∧ OwnGrid 2 33 wx (w2.heap.size + 1) kv (dbK L xs k) ∧ (∀ z, kv.ownBlock = some z → bv9.ownBlock ≠ some z) ∧ Below w2.heap.size wr wx)
        case first =>
          go_region_law
            (first
              | (go_simp; go_at_call 36; refine (l1Copy_any _ (listM M) _ (HRL.out _ (Below.refl _ _).drew) (by have := listM_len M; omega)).mono ?_; rintro e w7 ⟨n7, a7, c7, rfl, ho7, hb7⟩; have HB7 : Hid (Below wr.heap.size wr w7) := (Below.refl _ _).drew.trans hb7; have HO7 : Hid (OwnRow 2 w7 wr.heap.size (.slice a7 n7 c7) (listM M)) := ho7; have HM7 : Hid (Below (w2.heap.size + 1) wr w7) := HB7.out.mono (by omega); have ks7 := KS.out _ HM7.out; clear ho7 hb7)
              | (go_simp; go_at_call 35; refine (l1Into_own _ M v wr.heap.size _ HO7.out HB7.out.size (by omega)).mono ?_; rintro e w8 ⟨n8, a8, c8, rfl, ho8, hk8, hb8⟩; have HB8 : Hid (Below wr.heap.size wr w8) := HB7.out.trans (hb8.mono HB7.out.size); have HO8 : Hid (OwnRow 2 w8 wr.heap.size (.slice a8 n8 c8) (listM (M ||| 2 ^ v))) := ho8; have HM8 : Hid (Below (w2.heap.size + 1) wr w8) := HB8.out.mono (by omega); have HZ8 : Hid (w2.heap.size + 1 ≤ w8.heap.size) := (by have h := HB8.out.size; show _ ≤ _; omega); have HOR8 := Lib.hid (ownsRowB_keep HR.out HB8.out); have HKG8 := Lib.hid (HKG.out.keep (HB8.out.alloc HB8.out.size (.cells #[.slice a8 n8 c8] 33))); have ks8 := KS.out _ HM8.out; have ks8b := KS.out _ (HM8.out.alloc HZ8.out (.cells #[.slice a8 n8 c8] 33)); clear ho8 hk8 hb8)
              | (refine step_append_lies _ (by rfl) (.tmp 36) (.tmp 44) 22 (by rfl) (w2.heap.size + 1) 33 i0 (.slice none 0 0) 1 24 Try.underlying22 hi hz0 hz1 hz2 rfl (by omega) (.slice ab k cb) k ((List.range k).map R) (by rfl) (HOR8.out.alloc _) ⟨w8.heap.size, 0, none⟩ 1 1 [.slice a8 n8 c8] (by rfl) rfl (litB _ _ _) (fun u hu => by rw [List.mem_singleton] at hu; subst hu; rfl) Nat.one_pos HC3.out HC4.out (by have := HZ8.out; simp; omega) (w8.heap.size + 1) (size_alloc1 _ _) ?_; intro g9 cap9 w9 hown9 hgrow9 hat9 hlt9; have HM9 : Hid (Below (w2.heap.size + 1) wr w9) := (HM8.out.alloc HZ8.out _).grown hgrow9 (by have := HZ8.out; simp; omega) (fun j hj => (HOR8.out.lt j hj).1); have HOW9 := Lib.hid hown9; have HGR9 := Lib.hid hgrow9; have HAT9 := Lib.hid hat9; have HX9 : Hid (Box2 27 w9 w2.heap.size (.slice ab k cb) kv) := (by show _ = _; rw [HM9.out.block _ (by omega)]; exact HBX.out); have kb9 := HX9.out.c0; have kf9 := HX9.out.frozen 0; have ks9 := KS.out _ HM9.out; clear hown9 hgrow9 hat9 hlt9))
          all_goals (
            go_wp2_with fail
            go_meet
            have hsn := OwnGrid.snoc (T := 2) (T1 := 33) (w0 := wr) (w := w8.alloc (.cells #[.slice a8 n8 c8] 33)) (L := dbB L xs k) (n := k) (by decide) (HB8.out.alloc HB8.out.size _) (show w2.heap.size + 1 ≤ wr.heap.size by omega) (HO8.out.keep ((Below.refl _ _).alloc (Nat.le_refl _) _)) (dbB_len L xs k).symm (by rw [dbB_len]; exact HC3.out) R (by rw [dbB_len]; exact HR.out) (by rw [dbB_len]; exact HRr.out) (by rw [dbB_len]; exact HRd.out) (by rw [dbB_len]; exact HOW9.out) HGR9.out
            have e9 : dbB L xs k ++ [listM (M ||| 2 ^ v)] = dbB L xs (k + 1) := by rw [dbB_succ, HMM.out, HV.out]
            rw [e9] at hsn
            have hkg9 := HKG8.out.apart (HOR8.out.alloc _) (by decide) HSP.out HGR9.out
            exact ⟨_, HX9.out.set0 _, hsn.setBelow (by simp) _, hkg9.setBelow (by simp) _, fun z hz e => by
              rcases HAT9.out with h9 | h9
              · simp [Value.ownBlock] at e
                subst e
                exact HSP.out _ hz h9
              · simp [Value.ownBlock] at e
                have := (HKG.out.headLt hz).2
                have := HB8.out.size
                omega, (HM9.out.mono (by omega)).setCell (by simp) _⟩)
        case rest =>
          obtain ⟨bv9, hx9, hg9, hk9, hs9, hb9⟩ := hcut
          have hl16 := HXL.out
          have hn16 : xs.length ≤ 16 := by omega
          have HX9 := Lib.hid hx9
          have HG9 := Lib.hid hg9
          have HK9 := Lib.hid hk9
          have HS9 := Lib.hid hs9
          have HBC : Hid (Below w2.heap.size w2 wc) := HBL.out.trans hb9
          have HBV : Hid (Below w.heap.size w wc) := HB2.out.trans (HBC.out.mono (by omega))
          have HRC : Hid (RowAt wc (.slice al ln cl') (listM M)) := HRL.out _ hb9
          have hzz : (ln = 0 ∧ pm (dbS L xs k) = 0) ∨ (0 < ln ∧ ∃ u, dbS L xs k u = true) := by
            by_cases h0 : pm (dbS L xs k) = 0
            · left
              refine ⟨?_, h0⟩
              rw [HLN.out, HMM.out, h0, listM_zero]; rfl
            · right
              have hx : ∃ u, dbS L xs k u = true := Classical.byContradiction fun hn => h0 ((pm_zero_iff (fun u h => by have := dbS_lt HG.out xs k h; omega)).2 (fun u => by
                cases hu : dbS L xs k u with
                | false => rfl
                | true => exact absurd ⟨u, hu⟩ hn))
              refine ⟨?_, hx⟩
              obtain ⟨u, hu⟩ := hx
              have hu16 : u < 16 := by have := dbS_lt HG.out xs k hu; omega
              have hmem : (u : Int) ∈ listM M := by
                rw [listM_mem]
                refine ⟨u, hu16, ?_, rfl⟩
                rw [HMM.out, pm_bit, decide_eq_true hu16, hu]; rfl
              rw [HLN.out]
              exact List.length_pos_of_mem hmem
          have HZZ := Lib.hid hzz
          have kc1 := HX9.out.c1
          have kf1 := HX9.out.frozen 1
          clear hx9 hg9 hk9 hs9 hb9 hl16 hzz ks kb KS kx
          go_wp2_with fail
          go_loopw [11] (fun t wr2 => ∃ t0 : Nat, k + 1 ≤ t0 ∧ t0 ≤ xs.length ∧ t = .int .i64 t0 ∧ wr2 = wc ∧ (t0 = k + 1 ∨ 0 < ln) ∧ ∀ j, k < j → j < t0 → dbS L xs k (vtxN xs j) = false) (fun t _ => xs.length - (intOf t).toNat)
          case atStart => exact ⟨k + 1, Nat.le_refl _, by omega, by go_num, rfl, Or.inl rfl, fun j h1 h2 => absurd h2 (by omega)⟩
          case round =>
            obtain ⟨t0, ht1, ht2, rfl, hwr, ht3, ht4⟩ := hrel
            subst wr
            have HT4 := Lib.hid ht4
            clear ht4
            by_cases ht : t0 < xs.length
            · have htI : (t0 : Int) < (xs.length : Int) := by omega
              obtain ⟨vt, hvt, hvx⟩ := ordP_at HO.out ht
              have hvn : vtxN xs t0 = vt := by unfold vtxN; rw [hvx, Int.toNat_natCast]
              have kxt := cell_keep HBV.out (HCX.out t0 ht)
              rw [hvx] at kxt
              have hvt16 : vt < 16 := by omega
              rcases HZZ.out with ⟨h0, hp0⟩ | ⟨h0, u0, hu0⟩
              · obtain rfl : t0 = k + 1 := by omega
                have htoE : dbTo L xs k = k + 1 := dbTo_none hp0
                subst h0
                clear hp0
                have HKE : Hid (dbK L xs k ++ [[(k : Int), ((k + 1 : Nat) : Int)]] = dbK L xs (k + 1)) := by show _ = _; rw [dbK_succ L (by omega), htoE]
                clear htoE
                go_wp2_with fail
                refine (l9LinkE_any kv (dbK L xs k) (k : Int) ((k + 1 : Nat) : Int) (w2.heap.size + 1) wc HK9.out (by have := HX9.out.lt; omega) (by omega) (by unfold I64; omega) (by unfold I64; omega) (by rw [dbK_len]; omega) (dbK_first L xs k)).mono ?_
                rintro e w5 ⟨m5, a5, c5, rfl, ho5, hn5, hb5⟩
                rw [HKE.out] at ho5
                have HX5 := Lib.hid (HX9.out.keep hb5)
                have HG5 := Lib.hid (HG9.out.keep hb5)
                have HO5 := Lib.hid ho5
                have HN5 := Lib.hid hn5
                have HB5 : Hid (Below w2.heap.size w2 (w5.setCell ⟨w2.heap.size, 1, none⟩ (.slice a5 m5 c5))) := (HBC.out.trans (hb5.mono (by have := HX9.out.lt; omega))).setCell (by simp) _
                have k51 := HX5.out.c1
                have f51 := HX5.out.frozen 1
                clear ho5 hn5 hb5 kc1 kf1 kxt
                go_wp2
                go_roundw
                case rel => exact ⟨k + 1, by omega, by go_num, ⟨⟨bv9, _, HX5.out.set1 _, HG5.out.setBelow (by simp) _, HO5.out.setBelow (by simp) _, fun z hz e => by have h1 := (HN5.out z hz).1; have h2 := (HG9.out.headLt e).2; omega⟩, HB5.out⟩⟩
                case measure => simp [intOf]; omega
              · have hlI : (0 : Int) < (ln : Int) := by omega
                go_wp2_with fail
                refine (l1Has_any _ (listM M) _ _ HRC.out).mono ?_
                rintro e w' ⟨rfl, rfl⟩
                rw [show hasB (listM M) (vt : Int) = dbS L xs k vt by rw [HMM.out]; exact dbHas L xs k hvt16]
                cases hd : dbS L xs k vt with
                | false =>
                  go_wp2
                  go_roundw
                  case rel => exact ⟨t0 + 1, by omega, by omega, by go_num, by trivial, Or.inr h0, fun j h1 h2 => by
                    by_cases hj : j < t0
                    · exact HT4.out j h1 hj
                    · obtain rfl : j = t0 := by omega
                      rw [hvn]; exact hd⟩
                  case measure => simp [intOf]; omega
                | true =>
                  have htoE : dbTo L xs k = t0 := dbTo_at HG.out hu0 (by omega) ht (by rw [hvn]; exact hd) HT4.out
                  clear hd hu0
                  have HKE : Hid (dbK L xs k ++ [[(k : Int), (t0 : Int)]] = dbK L xs (k + 1)) := by show _ = _; rw [dbK_succ L (by omega), htoE]
                  clear htoE
                  go_wp2_with fail
                  refine (l9LinkE_any kv (dbK L xs k) (k : Int) (t0 : Int) (w2.heap.size + 1) wc HK9.out (by have := HX9.out.lt; omega) (by omega) (by unfold I64; omega) (by unfold I64; omega) (by rw [dbK_len]; omega) (dbK_first L xs k)).mono ?_
                  rintro e w5 ⟨m5, a5, c5, rfl, ho5, hn5, hb5⟩
                  rw [HKE.out] at ho5
                  have HX5 := Lib.hid (HX9.out.keep hb5)
                  have HG5 := Lib.hid (HG9.out.keep hb5)
                  have HO5 := Lib.hid ho5
                  have HN5 := Lib.hid hn5
                  have HB5 : Hid (Below w2.heap.size w2 (w5.setCell ⟨w2.heap.size, 1, none⟩ (.slice a5 m5 c5))) := (HBC.out.trans (hb5.mono (by have := HX9.out.lt; omega))).setCell (by simp) _
                  have k51 := HX5.out.c1
                  have f51 := HX5.out.frozen 1
                  clear ho5 hn5 hb5 kc1 kf1 kxt
                  go_wp2
                  go_roundw
                  case rel => exact ⟨k + 1, by omega, by go_num, ⟨⟨bv9, _, HX5.out.set1 _, HG5.out.setBelow (by simp) _, HO5.out.setBelow (by simp) _, fun z hz e => by have h1 := (HN5.out z hz).1; have h2 := (HG9.out.headLt e).2; omega⟩, HB5.out⟩⟩
                  case measure => simp [intOf]; omega
            · obtain rfl : t0 = xs.length := by omega
              have hkl : k + 1 = xs.length := by
                rcases HZZ.out with ⟨h0, _⟩ | ⟨h0, u0, hu0⟩
                · omega
                · obtain ⟨t, h1, h2, h3⟩ := dbS_behind HG.out HO.out hlt hu0
                  have h4 := HT4.out t h1 h2
                  have h5 : vtxN xs t = u0 := by unfold vtxN; rw [h3, Int.toNat_natCast]
                  rw [h5, hu0] at h4
                  cases h4
              have hKE : dbK L xs (k + 1) = dbK L xs k := dbK_last L (by omega)
              have HKL := Lib.hid hkl
              have HKE := Lib.hid hKE
              clear hkl hKE
              go_wp2
              go_roundw
              case rel => exact ⟨k + 1, by have := HKL.out; omega, by go_num, ⟨⟨bv9, kv, HX9.out, HG9.out, by rw [HKE.out]; exact HK9.out, HS9.out⟩, HBC.out⟩⟩
              case measure => have := HKL.out; simp [intOf]; omega
      · obtain rfl : k = xs.length := by omega
        have kb0 := HBX.out.c0
        have kb1 := HBX.out.c1
        have y0 := HYR.out.c0
        have y1 := HYR.out.c1
        have y2 := HYR.out.frozen 0
        have y3 := HYR.out.frozen 1
        obtain ⟨ab, cb, eb⟩ := HBG.out.grid.slice
        obtain ⟨ak, ck, ek⟩ := HKG.out.grid.slice
        subst eb ek
        have HE : Hid (decBL L xs = dbB L xs xs.length ∧ decKL L xs = dbK L xs xs.length) := ⟨if_pos HI.out, if_pos HI.out⟩
        go_wp2
        have HF : Hid (Box2 27 ((wr.setCell ⟨w.heap.size + 1, 0, none⟩ (.slice ab (dbB L xs xs.length).length cb)).setCell ⟨w.heap.size + 1, 1, none⟩ (.slice ak (dbK L xs xs.length).length ck)) (w.heap.size + 1) (.slice ab (dbB L xs xs.length).length cb) (.slice ak (dbK L xs xs.length).length ck)) := (HYR.out.set0 _).set1 _
        have q0 := HF.out.c0
        have q1 := HF.out.c1
        refine bodyPost_ret (v := .tuple #[.agg #[.slice ab (dbB L xs xs.length).length cb, .slice ak (dbK L xs xs.length).length ck], .bool true]) (by simp [results, Try.results13, go_sem, q0, q1]) rfl ?_
        rw [HE.out.1, HE.out.2, HI.out]
        exact ⟨_, _, _, _, _, _, rfl, ((HBG.out.setBelow (by simp; omega) _).setBelow (by simp; omega) _).mono (by omega), ((HKG.out.setBelow (by simp; omega) _).setBelow (by simp; omega) _).mono (by omega), (HBW.out.setCell (by simp) _).setCell (by simp) _⟩
  · have hok' : orderB L xs = false := by simpa using hok
    have HE : Hid (decBL L xs = [] ∧ decKL L xs = []) := ⟨if_neg hok, if_neg hok⟩
    have HOK := Lib.hid hok'
    have y0 := HY1.out.c0
    have y1 := HY1.out.c1
    have y2 := HY1.out.frozen 0
    have y3 := HY1.out.frozen 1
    rw [hok']
    clear hok hok'
    go_wp2
    have HF : Hid (Box2 27 ((w1.setCell ⟨w.heap.size + 1, 0, none⟩ (.slice none 0 0)).setCell ⟨w.heap.size + 1, 1, none⟩ (.slice none 0 0)) (w.heap.size + 1) (.slice none 0 0) (.slice none 0 0)) := (HY1.out.set0 _).set1 _
    have q0 := HF.out.c0
    have q1 := HF.out.c1
    refine bodyPost_ret (v := .tuple #[.agg #[.slice none 0 0, .slice none 0 0], .bool false]) (by simp [results, Try.results13, go_sem, q0, q1]) rfl ?_
    rw [HE.out.1, HE.out.2, HOK.out]
    exact ⟨0, none, 0, 0, none, 0, rfl, own_nil _ _, own_nil _ _, (HB1.out.setCell (by simp) _).setCell (by simp) _⟩

end Go.Proofs.Ytohjfcfcopbmoaa
