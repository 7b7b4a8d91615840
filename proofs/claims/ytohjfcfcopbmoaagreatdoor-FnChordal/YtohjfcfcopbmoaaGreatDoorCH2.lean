/- Walks: ChordlessOk. -/
import Derived.Test.YtohjfcfcopbmoaaGreatDoorQEC3
import Derived.Test.YtohjfcfcopbmoaaGreatDoorQV1
import Derived.Test.YtohjfcfcopbmoaaGreatDoorQM1
import Derived.Test.YtohjfcfcopbmoaaGreatDoorQLater
import Derived.BigQuiet

namespace Go.Proofs.YtohjfcfcopbmoaaGreatDoor
open Go.RowKit

set_option maxHeartbeats 4000000 in
set_option maxRecDepth 100000 in
theorem l8Chordless_any (v v1 : Value) (L : List (List Int)) (xs : List Int) (w : World) (h : GridAt w v L) (h1 : RowAt w v1 xs) (hlen : 4 ≤ xs.length ∧ xs.length ≤ 16)
    (hx : ∀ i, i < xs.length → vtxN xs i < L.length ∧ nth xs i = (vtxN xs i : Int)) (hG : GraphP L) :
    Calls Tryz.prog 112 #[.agg #[v], v1] w fun e w' => e = .returned (.bool (noCh (adjB L) xs)) ∧ Below w.heap.size w w' := by
  obtain ⟨a0, c0, rfl⟩ := h.slice
  obtain ⟨bx, ox, cx, rfl, lx1, lx2, hcx⟩ := h1.pos (by omega)
  have HGK : Hid (∀ W, Below w.heap.size w W → GridAt W (.slice a0 L.length c0) L) := fun W hb => h.keep hb
  have HCX : Hid (∀ W, Below w.heap.size w W → ∀ i, i < xs.length → W.cell? ⟨bx, ox + i, none⟩ = some (.int .i64 (vtxN xs i : Int))) := fun W hb i hi => by
    have := cell_keep hb (hcx i hi)
    rw [(hx i hi).2] at this; exact this
  have HB0 : Hid (Below w.heap.size w (w.alloc (.cells #[.slice a0 L.length c0] 26))) := (Below.refl _ _).alloc (Nat.le_refl _) _
  have HX0 : Hid (BoxAt (w.alloc (.cells #[.slice a0 L.length c0] 26)) w.heap.size (.slice a0 L.length c0)) := BoxAt.new _ _ _
  have HKB : Hid (∀ W, Below (w.heap.size + 1) (w.alloc (.cells #[.slice a0 L.length c0] 26)) W → W.cell? ⟨w.heap.size, 0, none⟩ = some (.slice a0 L.length c0)) := fun W hb => by
    have hs := size_alloc1 w (.cells #[.slice a0 L.length c0] 26)
    rw [← hs] at hb
    exact (HX0.out.keep hb).1
  have HBW : Hid (∀ W, Below (w.heap.size + 1) (w.alloc (.cells #[.slice a0 L.length c0] 26)) W → Below w.heap.size w W) := fun W hb => HB0.out.trans (hb.mono (by omega))
  have HLT : Hid (∀ i, i < xs.length → vtxN xs i < L.length) := fun i hi => (hx i hi).1
  have HED : Hid (∀ i k, i < xs.length → k < xs.length → hasB (nthR L (vtxN xs k)) ((vtxN xs i : Nat) : Int) = adjB L (vtxN xs k) (vtxN xs i)) := fun i k hi hk => adjB_has hG (hx k hk).1 (by have := (hx i hi).1; have := hG.1; omega)
  have hz := hG.1
  have HNO : Hid (noCh (adjB L) xs = true ↔ ∀ i k, i < xs.length → k + 1 < i → ¬ (k = 0 ∧ i + 1 = xs.length) → adjB L (vtxN xs k) (vtxN xs i) = false) := by
    show _ ↔ _
    classical
    unfold noCh
    exact decide_eq_true_iff
  obtain ⟨wA, hwA⟩ : ∃ wA, wA = w.alloc (.cells #[.slice a0 L.length c0] 26) := ⟨_, rfl⟩
  rw [← hwA] at HB0 HX0 HKB HBW
  have hsA : wA.heap.size = w.heap.size + 1 := by rw [hwA]; exact size_alloc1 _ _
  have HSA := Lib.hid hsA
  clear h h1 hcx hx hG hsA
  go_enter Tryz.func112, Tryz.ntmps112
  go_wp2_with fail
  rw [← hwA]
  clear hwA
  go_loopw [6] (fun iv wr => ∃ i : Nat, i ≤ xs.length ∧ iv = .int .i64 i ∧ (∀ i', i' < i → ∀ k, k + 1 < i' → ¬ (k = 0 ∧ i' + 1 = xs.length) → adjB L (vtxN xs k) (vtxN xs i') = false) ∧ Below (w.heap.size + 1) wA wr) (fun iv _ => xs.length - (intOf iv).toNat)
  case atStart => exact ⟨0, Nat.zero_le _, rfl, fun i hi => absurd hi (by omega), Below.refl _ _⟩
  case round =>
    obtain ⟨i, hi, rfl, hall, hb⟩ := hrel
    have HALL := Lib.hid hall
    have HB := Lib.hid hb
    clear hall hb
    by_cases hlt : i < xs.length
    · go_wp2_with fail
      go_loopw [7] (fun kv wr => ∃ k : Nat, k ≤ i ∧ kv = .int .i64 k ∧ (∀ k', k' < k → k' + 1 < i → ¬ (k' = 0 ∧ i + 1 = xs.length) → adjB L (vtxN xs k') (vtxN xs i) = false) ∧ Below (w.heap.size + 1) wA wr) (fun kv _ => i - (intOf kv).toNat)
      case atStart => exact ⟨0, Nat.zero_le _, rfl, fun k hk => absurd hk (by omega), HB.out⟩
      case round =>
        rename World => w4
        obtain ⟨k, hk, rfl, hrow, hb⟩ := hrel
        have HROW := Lib.hid hrow
        have HB4 := Lib.hid hb
        clear hrow
        by_cases hki : k + 1 < i
        · have hki' : (k : Int) + 1 < (i : Int) := by omega
          have kb := HKB.out _ hb
          have kk := HCX.out _ (HBW.out _ hb) k (by omega)
          have ki := HCX.out _ (HBW.out _ hb) i hlt
          have hkI : (k : Int) < (xs.length : Int) := by omega
          have hiI : (i : Int) < (xs.length : Int) := by omega
          have hvk := HLT.out k (by omega)
          have hvi := HLT.out i hlt
          have hcall : Hid (∀ z : Later w4, Calls Tryz.prog 83 #[.agg #[.slice a0 L.length c0], .int .i64 (vtxN xs k : Int), .int .i64 (vtxN xs i : Int)] z.at fun e w5 => e = .returned (.bool (adjB L (vtxN xs k) (vtxN xs i))) ∧ ∃ t : Later w4, w5 = t.at) :=
            fun z => Calls.later ((l1Edge_any _ L (vtxN xs k : Int) (vtxN xs i : Int) _ (HGK.out _ (HBW.out _ (HB4.out.trans (z.bel.mono (by have := HB4.out.size; have := HSA.out; omega))))) (by omega) (by omega)).mono fun _ _ ⟨h1, h2⟩ => ⟨by rw [h1, Int.toNat_natCast, HED.out i k hlt (by omega)], h2⟩)
          obtain ⟨t, ht⟩ : ∃ t, t = adjB L (vtxN xs k) (vtxN xs i) := ⟨_, rfl⟩
          rw [← ht] at hcall
          have HT : Hid (adjB L (vtxN xs k) (vtxN xs i) = t) := ht.symm
          have kl := fun z : Later w4 => z.cell kb
          have kl1 := fun z : Later w4 => z.cell kk
          have kl2 := fun z : Later w4 => z.cell ki
          have hz4 : wA.heap.size ≤ w4.heap.size := by have := hb.size; exact this
          clear ht hb kb kk ki
          have HSTEP : Hid ((¬ (k = 0 ∧ i + 1 = xs.length) → t = false) → ∀ W, Below w4.heap.size w4 W → ∃ k1 : Nat, k1 ≤ i ∧ Value.int .i64 ((k : Int) + 1) = .int .i64 (k1 : Int) ∧ (∀ k', k' < k1 → k' + 1 < i → ¬ (k' = 0 ∧ i + 1 = xs.length) → adjB L (vtxN xs k') (vtxN xs i) = false) ∧ Below (w.heap.size + 1) wA W) := fun hc W hbW =>
            ⟨k + 1, by omega, by go_num, fun k' hk' h1 h2 => by
              rcases Nat.lt_succ_iff_lt_or_eq.1 hk' with h | h
              · exact HROW.out k' h h1 h2
              · subst h; rw [HT.out]; exact hc h2, HB4.out.trans (hbW.mono (by have := HSA.out; omega))⟩
          by_cases hcl : k = 0 ∧ i + 1 = xs.length
          · have q1 : ((k : Int) == 0) = true := by rw [beq_iff_eq]; omega
            have q2 : ((i : Int) == (xs.length : Int) - 1) = true := by rw [beq_iff_eq]; omega
            have HCL := Lib.hid hcl
            clear hcl
            go_wp2_with fail
            refine wp_region_later (by kernel_rfl) (by kernel_rfl) ?_
            repeat (go_big_quiet_step ((go_at_call 83; exact hcall.out _)))
            refine wpQuiet_nil ?_
            rintro _ ⟨z, rfl⟩
            have HZZ := Lib.hid z.bel
            generalize z.at = w5 at HZZ ⊢
            clear kl kl1 kl2 hcall
            go_wp2
            go_roundw
            case rel => exact HSTEP.out (fun h => absurd HCL.out h) _ HZZ.out
            case measure => simp [intOf]; omega
          · have HCL := Lib.hid hcl
            have hq : (((k : Int) == 0) = true ∧ ((i : Int) == (xs.length : Int) - 1) = false) ∨ ((k : Int) == 0) = false := by
              by_cases h0 : k = 0
              · left
                refine ⟨by rw [beq_iff_eq]; omega, ?_⟩
                rw [beq_eq_false_iff_ne]; omega
              · right
                rw [beq_eq_false_iff_ne]; omega
            have HNX : Hid (t = true → noCh (adjB L) xs = false) := by
              show _ → _
              intro ht
              cases hn : noCh (adjB L) xs with
              | false => rfl
              | true =>
                have := HNO.out.1 hn i k hlt hki HCL.out
                rw [HT.out, ht] at this; cases this
            clear hcl
            rcases hq with ⟨q1, q2⟩ | q1
            all_goals (
              go_wp2_with fail
              cases t)
            all_goals (
              refine wp_region_later (by kernel_rfl) (by kernel_rfl) ?_
              repeat (go_big_quiet_step ((go_at_call 83; exact hcall.out _)))
              refine wpQuiet_nil ?_
              rintro _ ⟨z, rfl⟩
              have HZZ := Lib.hid z.bel
              generalize z.at = w5 at HZZ ⊢
              clear kl kl1 kl2 hcall
              first
                | (
                  go_wp2
                  go_roundw
                  case rel => exact HSTEP.out (fun _ => rfl) _ HZZ.out
                  case measure => simp [intOf]; omega)
                | (
                  go_wp2
                  go_ret
                  exact ⟨ret_bool (HNX.out (by trivial)).symm, (HBW.out _ HB4.out).trans (HZZ.out.mono (by have := HSA.out; omega))⟩))
        · have HEND : Hid (∃ i1 : Nat, i1 ≤ xs.length ∧ Value.int .i64 ((i : Int) + 1) = .int .i64 (i1 : Int) ∧ (∀ i', i' < i1 → ∀ k, k + 1 < i' → ¬ (k = 0 ∧ i' + 1 = xs.length) → adjB L (vtxN xs k) (vtxN xs i') = false) ∧ Below (w.heap.size + 1) wA w4) :=
            ⟨i + 1, by omega, by go_num, fun i' hi' k' h1 h2 => by
              rcases Nat.lt_succ_iff_lt_or_eq.1 hi' with h | h
              · exact HALL.out i' h k' h1 h2
              · subst h; exact HROW.out k' (by omega) h1 h2, HB4.out⟩
          have hki' : ¬ (k : Int) + 1 < (i : Int) := by omega
          clear hb
          go_wp2
          go_roundw
          case rel => exact HEND.out
          case measure => simp [intOf]; omega
    · obtain rfl : i = xs.length := by omega
      go_wp2
      go_ret
      exact ⟨ret_bool (HNO.out.2 (fun i k hi h1 h2 => HALL.out i hi k h1 h2)).symm, HBW.out _ HB.out⟩

set_option maxHeartbeats 1600000 in
theorem specChordlessOk_any (v v1 : Value) (L : List (List Int)) (xs : List Int) (w : World) (h : GridAt w v L) (h1 : RowAt w v1 xs) :
    Calls Tryz.prog 34 #[.agg #[v], v1] w fun e w' => e = .returned (.bool (chlB L xs)) ∧ Below w.heap.size w w' := by
  obtain ⟨a0, c0, rfl⟩ := h.slice
  obtain ⟨a1, c1, rfl⟩ := h1.slice
  have hl1 := h1.len
  unfold maxLen at hl1
  have HGK : Hid (∀ W, Below w.heap.size w W → GridAt W (.slice a0 L.length c0) L) := fun W hb => h.keep hb
  have HRK : Hid (∀ W, Below w.heap.size w W → RowAt W (.slice a1 xs.length c1) xs) := fun W hb => h1.keep hb
  have HB0 : Hid (Below w.heap.size w (w.alloc (.cells #[.slice a0 L.length c0] 26))) := (Below.refl _ _).alloc (Nat.le_refl _) _
  have HX0 : Hid (BoxAt (w.alloc (.cells #[.slice a0 L.length c0] 26)) w.heap.size (.slice a0 L.length c0)) := BoxAt.new _ _ _
  clear h h1
  go_enter Tryz.func34, Tryz.ntmps34
  go_wp2_with fail
  refine (specLoopOk_any _ _ L xs _ (HGK.out _ HB0.out) (HRK.out _ HB0.out)).mono ?_
  rintro e w1 ⟨rfl, hb1⟩
  have HB1 : Hid (Below w.heap.size w w1) := HB0.out.trans (hb1.mono HB0.out.size)
  have k1 := (HX0.out.keep hb1).1
  clear hb1
  by_cases hok : loopB L xs = true
  · obtain ⟨hG, hF, hle, hlt⟩ := loop_facts hok
    have hz := hG.1
    rw [hok]
    by_cases h4 : 4 ≤ xs.length
    · have HE : Hid (chlB L xs = noCh (adjB L) xs) := by show _ = _; unfold chlB; rw [hok, decide_eq_true h4]; rfl
      have HCA := Lib.hid (l8Chordless_any _ _ L xs w1 (HGK.out _ HB1.out) (HRK.out _ HB1.out) ⟨h4, by omega⟩ (fun i hi => ⟨hlt i hi, hF.at_ i hi⟩) hG)
      have h4I : (4 : Int) ≤ (xs.length : Int) := by omega
      clear hG hF hlt hok
      go_wp2_with fail
      refine HCA.out.mono ?_
      rintro e w2 ⟨rfl, hb2⟩
      have HB2 : Hid (Below w.heap.size w w2) := HB1.out.trans (hb2.mono HB1.out.size)
      rw [← HE.out]
      clear hb2 k1 HCA
      go_wp2
      go_ret
      exact ⟨rfl, HB2.out⟩
    · have HE : Hid (chlB L xs = false) := by show _ = _; unfold chlB; rw [decide_eq_false h4, Bool.and_false]; rfl
      have h4I : ¬ (4 : Int) ≤ (xs.length : Int) := by omega
      clear hG hF hlt hok
      go_wp2
      go_ret
      exact ⟨ret_bool HE.out.symm, HB1.out⟩
  · have hno : loopB L xs = false := by simpa using hok
    have HE : Hid (chlB L xs = false) := by show _ = _; unfold chlB; rw [hno]; rfl
    rw [hno]
    clear hno hok
    go_wp2
    go_ret
    exact ⟨ret_bool HE.out.symm, HB1.out⟩

theorem maskTo_pm {xs : List Int} (h : ∀ j, j < xs.length → 0 ≤ nth xs j ∧ nth xs j < 16) : maskTo xs xs.length = pm (fun u => hasB xs (u : Int)) := by
  apply Nat.eq_of_testBit_eq
  intro j
  rw [pm_bit, Bool.eq_iff_iff, maskTo_bit xs xs.length j (fun j hj => (h j hj).1), Bool.and_eq_true, decide_eq_true_iff, hasB_mem]
  constructor
  · rintro ⟨i, hi, e⟩
    have := h i hi
    have hm : (j : Int) ∈ xs := by rw [← e]; exact nth_mem hi
    exact ⟨by omega, hm⟩
  · rintro ⟨_, hm⟩
    obtain ⟨i, hi, e⟩ := List.getElem_of_mem hm
    exact ⟨i, hi, by rw [nth_eq hi, e]⟩
theorem pm_and (p q : Nat → Bool) : pm p &&& pm q = pm (fun u => p u && q u) := by
  apply Nat.eq_of_testBit_eq
  intro j
  rw [Nat.testBit_and, pm_bit, pm_bit, pm_bit]
  cases decide (j < 16) <;> simp

set_option maxHeartbeats 4000000 in
set_option maxRecDepth 100000 in
theorem implChordlessOk_any (v v1 : Value) (L : List (List Int)) (xs : List Int) (w : World) (h : GridAt w v L) (h1 : RowAt w v1 xs) :
    Calls Tryz.prog 33 #[.agg #[v], v1] w fun e w' => e = .returned (.bool (chlB L xs)) ∧ Below w.heap.size w w' := by
  obtain ⟨a0, c0, rfl⟩ := h.slice
  obtain ⟨a1, c1, rfl⟩ := h1.slice
  have hl1 := h1.len
  unfold maxLen at hl1
  have HGK : Hid (∀ W, Below w.heap.size w W → GridAt W (.slice a0 L.length c0) L) := fun W hb => h.keep hb
  have HRK : Hid (∀ W, Below w.heap.size w W → RowAt W (.slice a1 xs.length c1) xs) := fun W hb => h1.keep hb
  have HB0 : Hid (Below w.heap.size w (w.alloc (.cells #[.slice a0 L.length c0] 26))) := (Below.refl _ _).alloc (Nat.le_refl _) _
  have HX0 : Hid (BoxAt (w.alloc (.cells #[.slice a0 L.length c0] 26)) w.heap.size (.slice a0 L.length c0)) := BoxAt.new _ _ _
  have k0 := HX0.out.1
  clear h h1
  go_enter Tryz.func33, Tryz.ntmps33
  by_cases h4 : 4 ≤ xs.length
  · have h4I : ¬ (xs.length : Int) < 4 := by omega
    go_wp2_with fail
    refine (implLoopOk_any _ _ L xs _ (HGK.out _ HB0.out) (HRK.out _ HB0.out)).mono ?_
    rintro e w1 ⟨rfl, hb1⟩
    have HB1 : Hid (Below w.heap.size w w1) := HB0.out.trans (hb1.mono HB0.out.size)
    have k1 := (HX0.out.keep hb1).1
    clear hb1 k0
    by_cases hok : loopB L xs = true
    · obtain ⟨hG, hF, hle, hlt⟩ := loop_facts hok
      have hz := hG.1
      have HREL := Lib.hid (adjB_rel hG)
      have HRM : Hid (∀ i, i < 16 → rowM L i = pm (adjB L i)) := fun i _ => by rw [rowM_pm hG]
      have HE : Hid (chlB L xs = noCh (adjB L) xs) := by show _ = _; unfold chlB; rw [hok, decide_eq_true h4]; rfl
      have HDG := Lib.hid (noCh_deg HREL.out.sym HREL.out.self hF h4)
      have HAT : Hid (∀ i, i < xs.length → nth xs i = (vtxN xs i : Int) ∧ vtxN xs i < 16) := fun i hi => ⟨hF.at_ i hi, hF.lt i hi⟩
      have HGP := Lib.hid hG
      rw [hok]
      clear hG hF hlt hok
      go_wp2_with fail
      refine (netOf_any _ _ _ (HGK.out _ HB1.out)).mono ?_
      rintro e w2 ⟨rfl, hb2⟩
      have HB2 : Hid (Below w.heap.size w w2) := HB1.out.trans (hb2.mono HB1.out.size)
      have hnb := netBlk_new w2 0 (fun _ => 0)
      have hzz : w.heap.size ≤ w2.heap.size := HB2.out.size
      rw [decide_eq_true HGP.out, netArr_yes HGP.out]
      clear hb2 k1
      go_wp2_with (refine wpList_store_net rfl 83 (.tmp 5) (.tmp 24) rfl w2.heap.size L.length (rowM L) rfl rfl Tryz.sizeNet 0 (fun _ => 0) hnb ?_; intro w3 hp; have HN3 := Lib.hid (hp.net.congr rfl HRM.out); have HB3 : Hid (Below w.heap.size w w3) := (HB2.out.alloc hzz _).trans (hp.below.mono hzz); clear hp)
      have HR4 : Hid ((w3.alloc (.cells #[.int .u32 0] 80)).rowIs w3.heap.size 80 1 (fun _ => .int .u32 (maskTo xs 0 : Int))) := World.rowIs_alloc _ _ _ _ (fun i hi => by simp at hi; subst hi; rfl)
      have HZ4 : Hid (Below w3.heap.size w3 (w3.alloc (.cells #[.int .u32 0] 80))) := (Below.refl _ _).alloc (Nat.le_refl _) _
      go_loopw [28] (fun i wr => ∃ k : Nat, k ≤ xs.length ∧ i = .int .i64 k ∧ wr.rowIs w3.heap.size 80 1 (fun _ => .int .u32 (maskTo xs k : Int)) ∧ Below w3.heap.size w3 wr) (fun i _ => xs.length - (intOf i).toNat)
      case atStart => exact ⟨0, Nat.zero_le _, rfl, HR4.out, HZ4.out⟩
      case round =>
        obtain ⟨k, hk, rfl, hr, hb⟩ := hrel
        have HR := Lib.hid hr
        have HB := Lib.hid hb
        have hml : maskTo xs k < 65536 := maskTo_small (n := 16) (by omega) (fun j hj => by have := HAT.out j (by omega); rw [this.1]; simp [inB]; omega)
        have hmc := hr.cell (i := 0) (by omega)
        have hmf := hr.frozen 0
        by_cases hlt : k < xs.length
        · obtain ⟨bx, ox, cx, ex, lx1, lx2, hcx⟩ := (HRK.out _ (HB3.out.trans (hb.mono HB3.out.size))).pos (by omega)
          simp only [Value.slice.injEq, true_and] at ex
          obtain ⟨rfl, rfl⟩ := ex
          have hck := hcx k hlt
          obtain ⟨ha1, ha2⟩ := HAT.out k hlt
          have HTK : Hid (maskTo xs (k + 1) = maskTo xs k ||| 2 ^ vtxN xs k) := rfl
          rw [ha1] at hck
          have hkI : (k : Int) < (xs.length : Int) := by omega
          clear hr hb hcx ha1
          go_wp2_with fail
          refine (add_any _ _ _ _ _ hmc hmf hml (by omega) (by omega)).mono ?_
          rintro e w4 ⟨rfl, hd4⟩
          have HEND : Hid (w4.rowIs w3.heap.size 80 1 (fun _ => .int .u32 (maskTo xs (k + 1) : Int)) ∧ Below w3.heap.size w3 w4) := by
            refine ⟨(rowIs_drawn (HR.out.set 0 _) hd4).congr (fun j hj => by simp [show j = 0 from by omega, HTK.out]), (HB.out.setCell (p := ⟨w3.heap.size, 0, none⟩) (Nat.le_refl _) _).trans (hd4.below _)⟩
          clear hd4 hmc hmf hck hml
          go_wp2
          go_roundw
          case rel => exact ⟨k + 1, by omega, by go_num, HEND.out.1, HEND.out.2⟩
          case measure => simp [intOf]; omega
        · obtain rfl : k = xs.length := by omega
          have HMP : Hid (maskTo xs xs.length = pm (fun u => hasB xs (u : Int))) := maskTo_pm (fun j hj => by have := HAT.out j hj; rw [this.1]; omega)
          rw [HMP.out] at HR hmc
          clear hr hb hmf hml
          go_wp2_with fail
          go_loopw [37] (fun i w5 => ∃ k : Nat, k ≤ xs.length ∧ i = .int .i64 k ∧ (∀ j, j < k → szB (fun u => adjB L (vtxN xs j) u && hasB xs (u : Int)) = 2) ∧ Below wr.heap.size wr w5) (fun i _ => xs.length - (intOf i).toNat)
          case atStart => exact ⟨0, Nat.zero_le _, rfl, fun j hj => absurd hj (by omega), Below.refl _ _⟩
          case round =>
            rename World => w5
            obtain ⟨k, hk, rfl, hall, hb⟩ := hrel
            have HALL := Lib.hid hall
            have HB5 := Lib.hid hb
            have HBR : Hid (Below w3.heap.size w3 w5) := HB.out.trans (hb.mono HB.out.size)
            clear hall
            by_cases hlt : k < xs.length
            · obtain ⟨bx, ox, cx, ex, lx1, lx2, hcx⟩ := (HRK.out _ (HB3.out.trans (HBR.out.mono HB3.out.size))).pos (by omega)
              simp only [Value.slice.injEq, true_and] at ex
              obtain ⟨rfl, rfl⟩ := ex
              have hck := hcx k hlt
              obtain ⟨ha1, ha2⟩ := HAT.out k hlt
              rw [ha1] at hck
              have hkI : (k : Int) < (xs.length : Int) := by omega
              have hvI : (vtxN xs k : Int) < 16 := by omega
              have kr := (HN3.out.keep HBR.out).at.2 (vtxN xs k) ha2
              have km := cell_keep hb hmc
              have hbits : bits BinOp.and IntKind.u32 ((pm (adjB L (vtxN xs k)) : Nat) : Int) ((pm (fun u => hasB xs (u : Int)) : Nat) : Int) = ((pm (fun u => adjB L (vtxN xs k) u && hasB xs (u : Int)) : Nat) : Int) := by
                have q1 := pm_lt (adjB L (vtxN xs k))
                have q2 := pm_lt (fun u => hasB xs (u : Int))
                rw [u32_and_nat _ _ (by omega) (by omega), pm_and]
              obtain ⟨q, hq⟩ : ∃ q, q = pm (fun u => adjB L (vtxN xs k) u && hasB xs (u : Int)) := ⟨_, rfl⟩
              have hq16 : q < 65536 := by rw [hq]; exact pm_lt _
              rw [← hq] at hbits
              have HSZ : Hid (szB (fun u => adjB L (vtxN xs k) u && hasB xs (u : Int)) = bitsTo q 16) := by show _ = _; rw [hq]; rfl
              have hcs : Hid (∀ z : Later w5, Calls Tryz.prog 110 #[.int .u32 (q : Int)] z.at fun e w6 => e = .returned (.int .i64 (bitsTo q 16 : Int)) ∧ ∃ t : Later w5, w6 = t.at) :=
                fun z => Calls.later ((size_any q _ hq16).mono fun _ _ ⟨h1, h2⟩ => ⟨h1, h2.below _⟩)
              have hs16 := bitsTo_le q 16
              obtain ⟨r, hr⟩ : ∃ r, r = bitsTo q 16 := ⟨_, rfl⟩
              rw [← hr] at hcs HSZ hs16
              have kl := fun z : Later w5 => z.cell kr
              have kl1 := fun z : Later w5 => z.cell km
              clear hcx hb hq hr ha1 hmc kr km
              by_cases hr2 : r = 2
              · subst hr2
                go_wp2_with fail
                refine wp_region_later (by kernel_rfl) (by kernel_rfl) ?_
                repeat (go_big_quiet_step ((go_at_call 110; exact hcs.out _)))
                refine wpQuiet_nil ?_
                rintro _ ⟨z, rfl⟩
                have HZZ := Lib.hid z.bel
                generalize z.at = w6 at HZZ ⊢
                clear kl kl1 hcs hck
                go_wp2
                go_roundw
                case rel => exact ⟨k + 1, by omega, by go_num, fun j hj => by rcases Nat.lt_succ_iff_lt_or_eq.1 hj with h | h; exact HALL.out j h; subst h; exact HSZ.out, HB5.out.trans (HZZ.out.mono HB5.out.size)⟩
                case measure => simp [intOf]; omega
              · have hrb : ((r : Int) == 2) = false := by rw [beq_eq_false_iff_ne]; omega
                have HNO : Hid (noCh (adjB L) xs = false) := by
                  show _ = _
                  cases hn : noCh (adjB L) xs with
                  | false => rfl
                  | true =>
                    have := HDG.out.1 hn k hlt
                    rw [HSZ.out] at this
                    exact absurd this hr2
                go_wp2_with fail
                refine wp_region_later (by kernel_rfl) (by kernel_rfl) ?_
                repeat (go_big_quiet_step ((go_at_call 110; exact hcs.out _)))
                refine wpQuiet_nil ?_
                rintro _ ⟨z, rfl⟩
                have HZZ := Lib.hid z.bel
                generalize z.at = w6 at HZZ ⊢
                clear kl kl1 hcs hck
                go_wp2
                go_ret
                exact ⟨ret_bool (by rw [HE.out, HNO.out]), (HB3.out.trans (HBR.out.mono HB3.out.size)).trans (HZZ.out.mono (HB3.out.trans (HBR.out.mono HB3.out.size)).size)⟩
            · obtain rfl : k = xs.length := by omega
              have HYS : Hid (noCh (adjB L) xs = true) := HDG.out.2 HALL.out
              clear hb
              go_wp2
              go_ret
              exact ⟨ret_bool (by rw [HE.out, HYS.out]), HB3.out.trans (HBR.out.mono HB3.out.size)⟩
    · have hno : loopB L xs = false := by simpa using hok
      have HE : Hid (chlB L xs = false) := by show _ = _; unfold chlB; rw [hno]; rfl
      rw [hno]
      clear hno hok k1
      go_wp2
      go_ret
      exact ⟨ret_bool HE.out.symm, HB1.out⟩
  · have h4I : (xs.length : Int) < 4 := by omega
    have HE : Hid (chlB L xs = false) := by show _ = _; unfold chlB; rw [decide_eq_false h4, Bool.and_false]; rfl
    clear k0
    go_wp2
    go_ret
    exact ⟨ret_bool HE.out.symm, HB0.out⟩

end Go.Proofs.YtohjfcfcopbmoaaGreatDoor
