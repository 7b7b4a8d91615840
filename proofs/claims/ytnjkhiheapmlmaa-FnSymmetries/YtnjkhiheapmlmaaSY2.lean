/- The walk of FnSymmetries. -/
import Derived.Test.YtnjkhiheapmlmaaSY1
import Derived.Test.YtnjkhiheapmlmaaOB4
import Derived.Test.YtnjkhiheapmlmaaQDR1
import Derived.Test.YtnjkhiheapmlmaaK4

namespace Go.Proofs.Ytnjkhiheapmlmaa
open Go.RowKit

theorem row_len_at {w : World} {b o : Nat} {L : List (List Int)} {i : Nat} {u : Value} (h : w.cell? ⟨b, o + i, none⟩ = some u) (hr : RowAt w u (nthR L i)) : ∃ a c, w.cell? ⟨b, o + i, none⟩ = some (.slice a (nthR L i).length c) := by
  obtain ⟨a, c, rfl⟩ := hr.slice
  exact ⟨a, c, h⟩

set_option maxHeartbeats 8000000 in
set_option maxRecDepth 100000 in
theorem lawSymmetries2 (a0 : Option Addr) (n0 c0 : Nat) (w : World) (hb : n0 ≤ 4096 → BytesAt w w.heap.size (.slice a0 n0 c0) n0) :
    Calls Try.prog 5 #[.slice a0 n0 c0] w fun e w' => e = .returned (.bool true) ∧ Below w.heap.size w w' := by
  have HBY := Lib.hid hb
  clear hb
  go_enter Try.func5, Try.ntmps5
  go_wp2_with fail
  refine (big_any _ _ _ _).mono ?_
  rintro e w' ⟨rfl, rfl⟩
  by_cases hbig : (4096 : Int) < (n0 : Int)
  · rw [decide_eq_true hbig]
    go_wp2
    go_ret
    exact ⟨rfl, Below.refl _ _⟩
  rw [decide_eq_false hbig]
  go_wp2_with fail
  refine (drawSymmetries_any n0 _ _ (HBY.out (by omega))).mono ?_
  rintro e w1 ⟨L, n1, a1, c1, rfl, hog, hb1⟩
  have hg1 := hog.grid
  obtain ⟨a1', c1', e1⟩ := hg1.slice
  obtain ⟨rfl, rfl, rfl⟩ : a1 = a1' ∧ n1 = L.length ∧ c1 = c1' := by simpa using e1
  have HG1 := Lib.hid hg1
  have HB1 := Lib.hid hb1
  have HBA : Hid (Below w1.heap.size w1 (w1.alloc (.cells #[.slice a1 L.length c1] 29))) := (Below.refl _ _).alloc (Nat.le_refl _) _
  have HKA := Lib.hid (BoxAt.new w1 (.slice a1 L.length c1) 29).1
  clear e1 hg1 hog hb1 HBY hbig
  go_wp2_with fail
  generalize w1.alloc (.cells #[.slice a1 L.length c1] 29) = w2 at HBA HKA ⊢
  have HF2 : Hid (Below w.heap.size w w2) := HB1.out.trans (HBA.out.mono HB1.out.size)
  have GK : Hid (∀ w', Below w2.heap.size w2 w' → GridAt w' (.slice a1 L.length c1) L) := fun w' h => (HG1.out.keep HBA.out).keep h
  have KG : Hid (∀ w', Below w2.heap.size w2 w' → w'.cell? ⟨w1.heap.size, 0, none⟩ = some (.slice a1 L.length c1)) := fun w' h => cell_keep h HKA.out
  have k2 := KG.out _ (Below.refl _ _)
  clear HB1 HBA HKA HG1
  obtain ⟨m, hm⟩ : ∃ m, symN L = m := ⟨_, rfl⟩
  have HM := Lib.hid hm
  clear hm
  refine (implSymmetries_any _ L _ (GK.out _ (Below.refl _ _))).mono ?_
  rintro e w3 ⟨rfl, hb3⟩
  rw [HM.out]
  have HB3 := Lib.hid hb3
  have k3 := KG.out _ hb3
  clear hb3 k2
  go_wp2_with fail
  refine (implOrbitsOf_any _ L _ (GK.out _ HB3.out)).mono ?_
  rintro e w4 ⟨n4, a4, c4, rfl, ho4, hb4⟩
  have HB4 : Hid (Below w2.heap.size w2 w4) := HB3.out.trans (hb4.mono HB3.out.size)
  have HN4 : Hid (n4 = (orbL L).length) := by
    obtain ⟨a3', c3', e3⟩ := ho4.row.slice
    simp only [Value.slice.injEq] at e3
    exact e3.2.1
  have HR4 : Hid (∀ w', Below w4.heap.size w4 w' → RowAt w' (.slice a4 n4 c4) (orbL L)) := fun w' h => (ho4.keep h).row
  have k4 := KG.out _ HB4.out
  have qm : (m != m) = false := by simp
  clear ho4 hb4 k3 HB3
  go_wp2_with fail
  refine (specSymmetries_any _ L _ (GK.out _ HB4.out)).mono ?_
  rintro e w5 ⟨rfl, hb5⟩
  rw [HM.out]
  have HB45 := Lib.hid hb5
  have HB5 : Hid (Below w2.heap.size w2 w5) := HB4.out.trans (hb5.mono HB4.out.size)
  have k5 := KG.out _ HB5.out
  clear hb5 k4
  go_wp2_with fail
  refine (specOrbitsOf_any _ L _ (GK.out _ HB5.out)).mono ?_
  rintro e w6 ⟨n6, a6, c6, rfl, ho6, hb6⟩
  have HB46 : Hid (Below w4.heap.size w4 w6) := HB45.out.trans (hb6.mono HB45.out.size)
  have HR6 := Lib.hid ho6.row
  clear ho6 hb6 k5 HB45 HB5
  go_wp2_with fail
  refine (likeInts_any _ _ _ _ _ (HR4.out _ HB46.out) HR6.out).mono ?_
  rintro e w7 ⟨rfl, hd7⟩
  rw [decide_eq_true rfl]
  have HB47 : Hid (Below w4.heap.size w4 w7) := HB46.out.trans (hd7.below _)
  have HB7 : Hid (Below w2.heap.size w2 w7) := HB4.out.trans (HB47.out.mono HB4.out.size)
  have hs7 := HB7.out.size
  clear hd7 HB46 HR6
  by_cases hS : SmallP L
  · have hmp := symN_pos hS
    rw [HM.out] at hmp
    have qz : (m == 0) = false := by rw [beq_eq_false_iff_ne]; omega
    obtain rfl : n4 = L.length := by rw [HN4.out]; exact orbL_len hS
    have HS := Lib.hid hS
    have hzz := hS.1.1
    have h8 := hS.2
    have HGR := Lib.hid hS.1
    have k7 := KG.out _ HB7.out
    clear hS hmp
    go_wp2_with fail
    refine (specComplement_any _ L _ (GK.out _ HB7.out)).mono ?_
    rintro e w8 ⟨n8, a8, c8, rfl, ho8, hb8⟩
    have hg8 := ho8.grid
    obtain ⟨a8', c8', e8⟩ := hg8.slice
    obtain ⟨rfl, rfl, rfl⟩ : a8 = a8' ∧ n8 = (compL L).length ∧ c8 = c8' := by simpa using e8
    have HB8 : Hid (Below w2.heap.size w2 w8) := HB7.out.trans (hb8.mono hs7)
    have HB48 : Hid (Below w4.heap.size w4 w8) := HB47.out.trans (hb8.mono HB47.out.size)
    have HG8 := Lib.hid hg8
    have HBA : Hid (Below w8.heap.size w8 (w8.alloc (.cells #[.slice a8 (compL L).length c8] 29))) := (Below.refl _ _).alloc (Nat.le_refl _) _
    have HKA := Lib.hid (BoxAt.new w8 (.slice a8 (compL L).length c8) 29).1
    clear e8 hg8 ho8 hb8 k7 HB7 HB47
    go_wp2_with fail
    generalize w8.alloc (.cells #[.slice a8 (compL L).length c8] 29) = w9 at HBA HKA ⊢
    have HB9 : Hid (Below w2.heap.size w2 w9) := HB8.out.trans (HBA.out.mono HB8.out.size)
    have HB49 : Hid (Below w4.heap.size w4 w9) := HB48.out.trans (HBA.out.mono HB48.out.size)
    have CK : Hid (∀ w', Below w9.heap.size w9 w' → GridAt w' (.slice a8 (compL L).length c8) (compL L)) := fun w' h => (HG8.out.keep HBA.out).keep h
    have KC : Hid (∀ w', Below w9.heap.size w9 w' → w'.cell? ⟨w8.heap.size, 0, none⟩ = some (.slice a8 (compL L).length c8)) := fun w' h => cell_keep h HKA.out
    have hs9 := HB9.out.size
    clear HBA HKA HG8 HB8 HB48
    go_loopw [8] (fun i wr => ∃ k : Nat, k ≤ L.length ∧ i = .int .i64 k ∧ Below w9.heap.size w9 wr) (fun i _ => L.length - (intOf i).toNat)
    case atStart => exact ⟨0, Nat.zero_le _, rfl, Below.refl _ _⟩
    case round =>
      rename World => wr
      obtain ⟨k, hk, rfl, hbr⟩ := hrel
      have HBR := Lib.hid hbr
      have HB2R : Hid (Below w2.heap.size w2 wr) := HB9.out.trans (hbr.mono hs9)
      clear hbr
      by_cases hlt : k < L.length
      · obtain ⟨bz, oz, cz', ez, l1, l2, hc⟩ := (HR4.out _ (HB49.out.trans (HBR.out.mono HB49.out.size))).pos (by rw [orbL_len HS.out]; omega)
        rw [orbL_len HS.out] at ez
        simp only [Value.slice.injEq, true_and] at ez
        obtain ⟨rfl, rfl⟩ := ez
        have hok := orbN_le L k
        have hck := hc k (by rw [orbL_len HS.out]; exact hlt)
        have hco := hc (orbN L k) (by rw [orbL_len HS.out]; omega)
        rw [orbL_nth HS.out hlt] at hck
        rw [orbL_nth HS.out (by omega), orb_idem HGR.out hlt] at hco
        have hdg := orb_deg HGR.out hlt
        have kg := KG.out _ HB2R.out
        obtain ⟨bg, og, cg, A, C, eg, l3, l4, hcg⟩ := (GK.out _ HB2R.out).pos (by omega)
        simp only [Value.slice.injEq, true_and] at eg
        obtain ⟨rfl, rfl⟩ := eg
        have hgk := (hcg k hlt).1
        have hgo := (hcg (orbN L k) (by omega)).1
        rw [← hdg] at hgo
        obtain ⟨u, hu⟩ : ∃ u, orbN L k = u := ⟨_, rfl⟩
        obtain ⟨d, hd⟩ : ∃ d, (nthR L k).length = d := ⟨_, rfl⟩
        rw [hu] at hok hck hco hgo
        rw [hd] at hgk hgo
        have hkI : (k : Int) < (L.length : Int) := by omega
        have huI : (u : Int) < (L.length : Int) := by omega
        have du0 : decide ((u : Int) < 0) = false := decide_eq_false (by omega)
        have duk : decide ((k : Int) < (u : Int)) = false := decide_eq_false (by omega)
        have dukn : decide (k < u) = false := decide_eq_false (by omega)
        have qu : ((u : Int) != (u : Int)) = false := by simp
        have qd : ((d : Int) != (d : Int)) = false := by simp
        clear hc hcg hdg hu hd qm qz
        go_wp2_with fail
        have kl := fun x : Later wr => x.cell kg
        have kl1 := fun x : Later wr => x.cell hck
        have kl2 := fun x : Later wr => x.cell hco
        have kl3 := fun x : Later wr => x.cell hgk
        have kl4 := fun x : Later wr => x.cell hgo
        clear kg hck hco hgk hgo
        refine wp_region_later (by kernel_rfl) (by kernel_rfl) ?_
        repeat (go_big_quiet_step (fail))
        refine wpQuiet_nil ?_
        rintro _ ⟨z, rfl⟩
        have HBZ : Hid (Below w9.heap.size w9 z.at) := HBR.out.trans (z.bel.mono HBR.out.size)
        clear kl kl1 kl2 kl3 kl4
        go_wp2
        go_roundw
        case rel => exact ⟨k + 1, by omega, by go_num, HBZ.out⟩
        case measure => simp [intOf]; omega
      · obtain rfl : k = L.length := by omega
        have kc := KC.out _ HBR.out
        clear qm qz
        go_wp2_with fail
        refine (implSymmetries_any _ (compL L) _ (CK.out _ HBR.out)).mono ?_
        rintro e wz ⟨rfl, hbz⟩
        rw [symN_comp HS.out, HM.out]
        have HFIN : Hid (Below w.heap.size w wz) := HF2.out.trans ((HB2R.out.trans (hbz.mono HB2R.out.size)).mono HF2.out.size)
        have qe : (m == m) = true := by simp
        clear hbz kc
        go_wp2
        go_ret
        exact ⟨rfl, HFIN.out⟩
  · have hm0 : m = 0 := by rw [← HM.out]; exact if_neg hS
    obtain rfl : n4 = 0 := by rw [HN4.out, show orbL L = [] from if_neg hS]; rfl
    subst hm0
    have HFIN : Hid (Below w.heap.size w w7) := HF2.out.trans (HB7.out.mono HF2.out.size)
    clear hS
    go_wp2
    go_ret
    exact ⟨rfl, HFIN.out⟩

end Go.Proofs.Ytnjkhiheapmlmaa
