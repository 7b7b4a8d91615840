/- The texts K6, Frame, FrameB, joined. -/
import Derived.Deep.RegionHeld3
import Derived.Test.YtikfbfclbmlopaaRows
import Derived.ProofKit
import Derived.OpenShut
import Derived.ShutString
import Derived.ChangeOld
import Derived.Deep.Matrix
import Derived.Test.YtikfbfclbmlopaaQ8

/- The walk of the law FnEdges. -/
namespace Go.Proofs.Ytikfbfclbmlopaa
open Go.RowKit

set_option maxHeartbeats 8000000 in
set_option maxRecDepth 100000 in
theorem lawEdges (a0 : Option Addr) (n0 c0 : Nat) (w : World) (hb : n0 ≤ 4096 → BytesAt w w.heap.size (.slice a0 n0 c0) n0) :
    Calls Try.prog 3 #[.slice a0 n0 c0] w fun e w' => e = .returned (.bool true) ∧ Below w.heap.size w w' := by
  have HBY := Lib.hid hb
  clear hb
  go_enter Try.func3, Try.ntmps3
  go_wp2_with fail
  refine (big_any _ _ _ _).mono ?_
  rintro e w' ⟨rfl, rfl⟩
  by_cases hbig : (4096 : Int) < (n0 : Int)
  · rw [decide_eq_true hbig]
    go_wp2
    go_ret
    exact ⟨rfl, Below.refl _ _⟩
  rw [decide_eq_false hbig]
  go_wp2_with fail
  refine (drawEdgesOf_any n0 _ _ (HBY.out (by omega))).mono ?_
  rintro e w1 ⟨L, m, a, cap, rfl, ho1, hb1⟩
  obtain rfl : m = L.length := by
    obtain ⟨a3, c3, e3⟩ := ho1.grid.slice
    simp only [Value.slice.injEq] at e3
    exact e3.2.1
  have hl := ho1.grid.len
  unfold maxLen at hl
  have hst : Below w1.heap.size w1 (w1.alloc (.cells #[.slice a L.length cap] 26)) := (Below.refl _ _).alloc (Nat.le_refl _) _
  have HG1 := Lib.hid (ho1.grid.keep hst)
  have HB1 := Lib.hid (hb1.alloc hb1.size (.cells #[.slice a L.length cap] 26))
  have hz1 : w.heap.size ≤ w1.heap.size := hb1.size
  clear ho1 hb1 hst
  go_wp2_with fail
  refine (implEdgesOf_any _ L _ HG1.out).mono ?_
  rintro e w2 ⟨n2, a2, c2, rfl, ho2, hb2⟩
  obtain rfl : n2 = (edgesL L).length := by
    obtain ⟨a3, c3, e3⟩ := ho2.grid.slice
    simp only [Value.slice.injEq] at e3
    exact e3.2.1
  have kb2 : w2.cell? ⟨w1.heap.size, 0, none⟩ = some (.slice a L.length cap) := by rw [hb2.cell (by simp)]; go_simp
  have HG2 : Hid (∀ w', Below w2.heap.size w2 w' → GridAt w' (.slice a L.length cap) L) := fun w' h => (HG1.out.keep hb2).keep h
  have HE2 : Hid (∀ w', Below w2.heap.size w2 w' → GridAt w' (.slice a2 (edgesL L).length c2) (edgesL L)) := fun w' h => ho2.grid.keep h
  have HB2 : Hid (Below w.heap.size w w2) := HB1.out.trans (hb2.mono HB1.out.size)
  have KB : Hid (∀ w', Below w2.heap.size w2 w' → w'.cell? ⟨w1.heap.size, 0, none⟩ = some (.slice a L.length cap)) := fun w' h => cell_keep h kb2
  have hle : (edgesL L).length ≤ 1048576 := (edgesL_small L).1
  obtain ⟨G, hG⟩ : ∃ G, G = decide (GraphP L) := ⟨_, rfl⟩
  have HGd := Lib.hid hG
  have q1 : (G != G) = false := by simp
  obtain ⟨EN, hEN⟩ : ∃ EN : Nat, EN = (edgesL L).length := ⟨_, rfl⟩
  have q2 : (((edgesL L).length : Int) != ((edgesL L).length : Int)) = false := by simp
  clear ho2 hb2 HG1 HB1 hG hEN
  go_wp2_with fail
  go_region_held3 (fun wx => wx.cell? ⟨w1.heap.size, 0, none⟩ = some (.slice a L.length cap)) (first | exact kb2 | exact kba | exact kbb | exact kbc | exact kbd | exact kbe)
    (first
      | (go_at_call 19; refine (implGraphOk_any _ L _ (HG2.out _ HBa.out)).mono ?_; rintro e wb ⟨rfl, hbb⟩; rw [← HGd.out]; have HBb := Lib.hid (HBa.out.trans (hbb.mono HBa.out.size)); have kbb := KB.out _ HBb.out; clear hbb)
      | (go_at_call 19; refine (implGraphOk_any _ L _ (HG2.out _ (Below.refl _ _).drew)).mono ?_; rintro e wa ⟨rfl, hba⟩; rw [← HGd.out]; have HBa : Hid (Below w2.heap.size w2 wa) := (Below.refl _ _).drew.trans hba; have kba := KB.out _ HBa.out; clear hba)
      | (go_at_call 20; refine (specGraphOk_any _ L _ (HG2.out _ HBa.out)).mono ?_; rintro e wb ⟨rfl, hbb⟩; rw [← HGd.out]; have HBb := Lib.hid (HBa.out.trans (hbb.mono HBa.out.size)); have kbb := KB.out _ HBb.out; clear hbb)
      | (go_at_call 20; refine (specGraphOk_any _ L _ (HG2.out _ (Below.refl _ _).drew)).mono ?_; rintro e wa ⟨rfl, hba⟩; rw [← HGd.out]; have HBa : Hid (Below w2.heap.size w2 wa) := (Below.refl _ _).drew.trans hba; have kba := KB.out _ HBa.out; clear hba)
      | (go_at_call 21; refine (implManyEdges_any _ L _ (HG2.out _ HBb.out)).mono ?_; rintro e wc ⟨rfl, hbc⟩; unfold manyN; have HBc := Lib.hid (HBb.out.trans (hbc.mono HBb.out.size)); have kbc := KB.out _ HBc.out; clear hbc)
      | (go_at_call 23; refine (specEdgesOf_any _ L _ (HG2.out _ HBc.out)).mono ?_; rintro e wd ⟨nd, ad, cd, rfl, hod, hbd⟩; have HBd := Lib.hid (HBc.out.trans (hbd.mono HBc.out.size)); have kbd := KB.out _ HBd.out; have HOD := Lib.hid hod.grid; clear hod hbd)
      | (go_at_call 22; refine (w5Lists_any _ _ _ _ _ (HE2.out _ HBd.out) HOD.out).mono ?_; rintro e we ⟨rfl, hde⟩; rw [decide_eq_true rfl]; have HBe := Lib.hid (HBd.out.trans (hde.below _)); have kbe := KB.out _ HBe.out; clear hde))
  clear kb2 kba kbb kbc kbd HOD
  go_wp2_with fail
  refine (implGraphOf_any _ (L.length : Int) (edgesL L) we (HE2.out _ HBe.out)).mono ?_
  rintro e w5 ⟨m5, a5, cap5, rfl, ho5, hb5⟩
  obtain ⟨is5, his⟩ : ∃ is5, is5 = decide (OfP (L.length : Int) (edgesL L)) := ⟨_, rfl⟩
  rw [← his]
  have HIS := Lib.hid his
  have hst5 : Below w5.heap.size w5 (w5.alloc (.cells #[.slice a5 m5 cap5] 26)) := (Below.refl _ _).alloc (Nat.le_refl _) _
  have HB5 : Hid (Below w2.heap.size w2 w5) := HBe.out.trans (hb5.mono HBe.out.size)
  have HB5a : Hid (Below w2.heap.size w2 (w5.alloc (.cells #[.slice a5 m5 cap5] 26))) := HB5.out.trans (hst5.mono HB5.out.size)
  have k5a := KB.out _ HB5a.out
  have K5X : Hid (∀ w', Below (w5.heap.size + 1) (w5.alloc (.cells #[.slice a5 m5 cap5] 26)) w' → w'.cell? ⟨w5.heap.size, 0, none⟩ = some (.slice a5 m5 cap5) ∧ GridAt w' (.slice a5 m5 cap5) (ofL L.length (edgesL L))) := fun w' h => ⟨by rw [h.cell (by simp)]; go_simp, (ho5.grid.keep hst5).keep (by rw [size_alloc1]; exact h)⟩
  have hz5 : w2.heap.size ≤ w5.heap.size := HB5.out.size
  clear ho5 hb5 hst5 his kbe
  go_wp2_with fail
  refine (specGraphOk_any _ L _ (HG2.out _ HB5a.out)).mono ?_
  rintro e w6 ⟨rfl, hb6⟩
  rw [size_alloc1] at hb6
  have HB6 : Hid (Below w2.heap.size w2 w6) := HB5a.out.trans (hb6.mono (by omega))
  have HX6 := Lib.hid hb6
  have k6 := KB.out _ HB6.out
  clear hb6 k5a
  by_cases hGr : GraphP L
  · rw [decide_eq_true hGr]
    have hzz := hGr.1
    have HGr := Lib.hid hGr
    have HD : Hid (degL L = degTo L L.length) := by show _ = _; simp [degL, hGr]
    have HEE : Hid (edgesL L = edgesTo L L.length) := by show _ = _; simp [edgesL, hGr]
    obtain rfl : is5 = true := by rw [HIS.out, HEE.out]; exact decide_eq_true (of_edges hGr)
    clear hGr HIS
    go_wp2_with fail
    refine (implDegreesOf_any _ L _ (HG2.out _ HB6.out)).mono ?_
    rintro e w7 ⟨n7, a7, c7, rfl, ho7, hb7⟩
    obtain ⟨D, hD⟩ : ∃ D, D = degTo L L.length := ⟨_, rfl⟩
    rw [HD.out, ← hD] at ho7
    have hDl : D.length = L.length := by rw [hD]; exact deg_len HGr.out
    have hDs : D.sum = 2 * ((edgesL L).length : Int) := by rw [hD, HEE.out]; exact deg_sum HGr.out
    have hDb : ∀ x ∈ D, 0 ≤ x ∧ x < 16 := fun x hx => by rw [hD] at hx; have := degTo_lt _ _ x hx; omega
    obtain ⟨b7, o7, c7', e7, l71, l72, hc7⟩ := ho7.row.pos (by omega)
    rw [hDl] at e7 l71
    simp only [Value.slice.injEq] at e7
    obtain ⟨rfl, rfl, rfl⟩ := e7
    have HC7 := Lib.hid hc7
    have HDL := Lib.hid hDl
    have HDS := Lib.hid hDs
    have HDB := Lib.hid hDb
    have HB7 : Hid (Below w2.heap.size w2 w7) := HB6.out.trans (hb7.mono HB6.out.size)
    have HX7 : Hid (Below (w5.heap.size + 1) (w5.alloc (.cells #[.slice a5 m5 cap5] 26)) w7) := HX6.out.trans (hb7.mono (by have := HX6.out.size; rw [size_alloc1] at this; omega))
    clear ho7 hb7 hDl hDs hDb hc7 hD k6
    go_wp2_with fail
    go_loop [7, 9] (fun s i => ∃ k : Nat, k ≤ L.length ∧ i = .int .i64 k ∧ s = .int .i64 (D.take k).sum ∧ 0 ≤ (D.take k).sum ∧ (D.take k).sum ≤ 16 * k) (fun _ i => L.length - (intOf i).toNat)
    case atStart => exact ⟨0, Nat.zero_le _, rfl, rfl, by simp, by simp⟩
    case round =>
      obtain ⟨k, hk, rfl, rfl, hs0, hs1⟩ := hrel
      by_cases hlt : k < L.length
      · have hck := HC7.out k (by rw [HDL.out]; exact hlt)
        have hdk := HDB.out _ (nth_mem (xs := D) (i := k) (by rw [HDL.out]; exact hlt))
        have HTK : Hid ((D.take (k + 1)).sum = (D.take k).sum + nth D k) := by show _ = _; rw [take_snoc (by rw [HDL.out]; exact hlt), List.sum_append, List.sum_singleton]
        obtain ⟨S, hS⟩ : ∃ S, S = (D.take k).sum := ⟨_, rfl⟩
        obtain ⟨d, hd⟩ : ∃ d, d = nth D k := ⟨_, rfl⟩
        rw [← hS] at hs0 hs1 HTK ⊢
        rw [← hd] at hck hdk HTK
        clear hS hd
        go_wp2
        go_round
        case rel => exact ⟨k + 1, by omega, by go_num, by rw [HTK.out], by rw [HTK.out]; omega, by rw [HTK.out]; omega⟩
        case measure => simp [intOf]; omega
      · obtain rfl : k = L.length := by omega
        have HSUM : Hid ((D.take L.length).sum = 2 * ((edgesL L).length : Int)) := by rw [← HDL.out, List.take_length]; exact HDS.out
        rw [HSUM.out]
        clear hs0 hs1
        go_wp2_with fail
        go_loopw [10] (fun i wr => ∃ k : Nat, k ≤ (edgesL L).length ∧ i = .int .i64 k ∧ Below w7.heap.size w7 wr) (fun i _ => (edgesL L).length - (intOf i).toNat)
        case atStart => exact ⟨0, Nat.zero_le _, rfl, Below.refl _ _⟩
        case round =>
          obtain ⟨k, hk, rfl, hb⟩ := hrel
          have HBr : Hid (Below w2.heap.size w2 wr) := HB7.out.trans (hb.mono HB7.out.size)
          have HB := Lib.hid hb
          have kb := KB.out _ HBr.out
          clear hb
          by_cases hlt : k < (edgesL L).length
          · obtain ⟨b, o, c, A, C, e2, l1, l2, hc⟩ := (HE2.out _ HBr.out).pos (by omega)
            simp only [Value.slice.injEq, true_and] at e2
            obtain ⟨rfl, rfl⟩ := e2
            have hck := (hc k hlt).1
            have hrk := (hc k hlt).2
            obtain ⟨u, hu, x, hx, hux, he⟩ := (edgesTo_mem L.length (nthR (edgesL L) k)).1 (by rw [← HEE.out]; exact nthR_mem hlt)
            have hxr := graph_range HGr.out hu hx
            obtain ⟨y, rfl⟩ : ∃ y : Nat, x = (y : Int) := ⟨x.toNat, by omega⟩
            have hyl : y < L.length := by omega
            rw [he] at hck hrk
            obtain ⟨b2, o2, c2', e3, l3, l4, hc2⟩ := hrk.pos (by simp)
            rw [e3] at hck
            have k0 : wr.cell? ⟨b2, o2, none⟩ = some (.int .i64 (u : Int)) := hc2 0 (by simp)
            have k1 : wr.cell? ⟨b2, o2 + 1, none⟩ = some (.int .i64 (y : Int)) := hc2 1 (by simp)
            have eb1 : edgeB L (u : Int) (y : Int) = true := by
              unfold edgeB
              rw [decide_eq_true HGr.out, Int.toNat_natCast, (hasB_mem _ _).2 hx]
              simp [inB]; omega
            have eb2 : edgeB L (y : Int) (u : Int) = true := by
              unfold edgeB
              rw [decide_eq_true HGr.out, Int.toNat_natCast, (hasB_mem _ _).2 (graph_back HGr.out hu hx)]
              simp [inB]; omega
            have EB1 := Lib.hid eb1
            have EB2 := Lib.hid eb2
            have hl2 : ([(u : Int), (y : Int)] : List Int).length = 2 := rfl
            rw [hl2] at hck l3
            clear hc hrk he hx e3 hc2 eb1 eb2 hl2
            go_wp2_with fail
            have kl := fun x : Later wr => x.cell kb
            have kl1 := fun x : Later wr => x.cell hck
            have kl2 := fun x : Later wr => x.cell k0
            have kl3 := fun x : Later wr => x.cell k1
            have hcA : Hid (∀ x : Later wr, Calls Try.prog 26 #[.agg #[.slice a L.length cap], .int .i64 (u : Int), .int .i64 (y : Int)] x.at fun e w2 => e = .returned (.bool true) ∧ ∃ y : Later wr, w2 = y.at) :=
              fun x => Calls.later ((implEdgeIn_any _ L (u : Int) (y : Int) _ (HG2.out _ (HBr.out.trans (x.bel.mono HBr.out.size))) (by unfold I64; omega) (by unfold I64; omega)).mono fun _ _ ⟨h1, h2⟩ => ⟨by rw [h1, EB1.out], h2⟩)
            have hcB : Hid (∀ x : Later wr, Calls Try.prog 26 #[.agg #[.slice a L.length cap], .int .i64 (y : Int), .int .i64 (u : Int)] x.at fun e w2 => e = .returned (.bool true) ∧ ∃ y : Later wr, w2 = y.at) :=
              fun x => Calls.later ((implEdgeIn_any _ L (y : Int) (u : Int) _ (HG2.out _ (HBr.out.trans (x.bel.mono HBr.out.size))) (by unfold I64; omega) (by unfold I64; omega)).mono fun _ _ ⟨h1, h2⟩ => ⟨by rw [h1, EB2.out], h2⟩)
            clear kb hck k0 k1
            refine wp_region_later (by kernel_rfl) (by kernel_rfl) ?_
            repeat (go_big_quiet_step ((go_at_call 26; first | with_reducible exact hcA.out _ | with_reducible exact hcB.out _)))
            refine wpQuiet_nil ?_
            rintro _ ⟨x, rfl⟩
            have HBb : Hid (Below w7.heap.size w7 x.at) := HB.out.trans (x.bel.mono HB.out.size)
            clear kl kl1 kl2 kl3
            go_wp2
            go_roundw
            case rel => exact ⟨k + 1, by omega, by go_num, HBb.out⟩
            case measure => simp [intOf]; omega
          · obtain rfl : k = (edgesL L).length := by omega
            have HXr : Hid (Below (w5.heap.size + 1) (w5.alloc (.cells #[.slice a5 m5 cap5] 26)) wr) := HX7.out.trans (HB.out.mono (by have := HX7.out.size; rw [size_alloc1] at this; omega))
            obtain ⟨kx, hgx⟩ := K5X.out _ HXr.out
            have hof : ofL L.length (edgesL L) = L := by rw [HEE.out]; exact of_graph HGr.out
            rw [hof] at hgx
            have sb : sameB L L = true := by unfold sameB; rw [decide_eq_true HGr.out, decide_eq_true rfl]; rfl
            have HSB := Lib.hid sb
            have HGX := Lib.hid hgx
            clear hof hgx sb
            go_wp2_with fail
            refine (implSameGraph_any _ _ L L _ HGX.out (HG2.out _ HBr.out)).mono ?_
            rintro e w8 ⟨rfl, hb8⟩
            rw [HSB.out]
            have HB8 : Hid (Below w2.heap.size w2 w8) := HBr.out.trans (hb8.mono HBr.out.size)
            have k8 := KB.out _ HB8.out
            clear hb8 kx kb
            go_wp2_with fail
            refine (implManyEdges_any _ L _ (HG2.out _ HB8.out)).mono ?_
            rintro e w9 ⟨rfl, hb9⟩
            unfold manyN
            have HB9 : Hid (Below w2.heap.size w2 w9) := HB8.out.trans (hb9.mono HB8.out.size)
            have k9 := KB.out _ HB9.out
            have HP : Hid (Below w.heap.size w w9) := HB2.out.trans (HB9.out.mono HB2.out.size)
            have qs : ((2 * ((edgesL L).length : Int)) == (2 * ((edgesL L).length : Int))) = true := by simp
            clear hb9 k8
            go_wp2
            go_ret
            exact ⟨rfl, HP.out⟩
  · rw [decide_eq_false hGr]
    have e0 : edgesL L = [] := by simp [edgesL, hGr]
    have e1 : degL L = [] := by simp [degL, hGr]
    have q3 : (((edgesL L).length : Int) == 0) = true := by rw [e0]; rfl
    have HE1 := Lib.hid e1
    clear e0 e1 hGr
    go_wp2_with fail
    refine (implDegreesOf_any _ L _ (HG2.out _ HB6.out)).mono ?_
    rintro e w7 ⟨n7, a7, c7, rfl, ho7, hb7⟩
    rw [HE1.out] at ho7
    obtain rfl : n7 = 0 := by
      obtain ⟨a3, c3, e3⟩ := ho7.row.slice
      simp only [Value.slice.injEq] at e3
      simpa using e3.2.1
    have HB7 : Hid (Below w.heap.size w w7) := HB2.out.trans ((HB6.out.trans (hb7.mono HB6.out.size)).mono HB2.out.size)
    clear ho7 hb7
    go_wp2
    go_ret
    exact ⟨rfl, HB7.out⟩

end Go.Proofs.Ytikfbfclbmlopaa

/- From what a row's form reads as data to our words: a slice of int64, a slice of such slices, a graph. -/
namespace Go.Proofs.Ytikfbfclbmlopaa
open Go.ChangeShapes Go.WideShapes Go.ChangeAt Go.RowKit Go.Deep

theorem own : ownKnob Try.prog.godebug = none := by kernel_rfl
theorem laidOut : laidOutB Try.prog = true := by kernel_rfl

theorem i64_wf {n : Int} (h : (Lit.int .i64 n).wf = true) : I64 n := by
  have := bounds_i64 h
  unfold I64
  omega

section
variable {H : Type} {enc : TypeId × Value → H} {P : Program} {w : World} {base : Nat} {held : Bool}

theorem addr_none {a : Addr} {i : Nat} {v : Value} (h : w.cell? (a.add i) = some v) (hp : i = 0) : a.spot = none := by
  subst hp
  simpa [Addr.add] using World.cell?_spot h

theorem addr_form {a : Addr} (h : a.spot = none) (i : Nat) : a.add i = ⟨a.block, a.off + i, none⟩ := by
  obtain ⟨b, o, s⟩ := a
  simp at h
  subst h
  unfold Addr.add
  split
  · rename_i e; subst e; rfl
  · rfl

theorem rowAt_of {A : Option Addr} {n c : Nat} {zs : List Int} (hlen : zs.length = n) (hm : n ≤ maxLen) (hc : n ≤ c) (hcm : c ≤ maxLen) (hi : ∀ z ∈ zs, I64 z) (h0 : A = none → c = 0) (hcell : ∀ a, A = some a → ∀ i, i < n → w.cell? (a.add i) = some (.int .i64 (nth zs i))) : RowAt w (.slice A n c) zs := by
  refine ⟨hi, by omega, ?_⟩
  by_cases hz : n = 0
  · subst hz
    exact Or.inl ⟨List.length_eq_zero_iff.1 hlen, A, c, rfl, h0⟩
  · cases A with
    | none => exact absurd (h0 rfl) (by omega)
    | some a =>
      have hs := addr_none (hcell a rfl 0 (by omega)) rfl
      refine Or.inr ⟨a.block, a.off, c, ?_, by omega, hcm, fun i hi' => ?_⟩
      · obtain ⟨b, o, s⟩ := a
        simp at hs
        subst hs
        rw [hlen]
      · rw [← addr_form hs]
        exact hcell a rfl i (by omega)

theorem row_of_trod {t e : TypeId} {fuel : Nat} {v : Value} {x : DataW H × List MemPlace} (ht : P.underlying t = some (.slice e)) (he : P.underlying e = some (.int .i64)) (ce : P.cellsOf e = 1)
    (h : DataW.trod enc P w base (fun _ => true) held fuel t [v] = some x) : ∃ xs, RowAt w v xs := by
  rcases open_ints ht he ce h with ⟨hcs, _⟩ | ⟨a, l, c, zs, hcs, _, hl, hm, hz, _, hcell, hwz⟩
  · simp at hcs
    subst hcs
    exact ⟨[], by simp, by simp, Or.inl ⟨rfl, none, 0, rfl, fun _ => rfl⟩⟩
  · simp at hcs
    subst hcs
    simp only [if_true] at hz
    refine ⟨zs.take l, rowAt_of (by simp; omega) (by omega) hl hm (fun z hzz => i64_wf (hwz z (List.mem_of_mem_take hzz))) (by simp) (fun a' e i hi => ?_)⟩
    cases e
    rw [hcell i (by omega)]
    simp [nth, hi]

theorem grid_of_trod {t e q : TypeId} {fuel : Nat} {v : Value} {x : DataW H × List MemPlace} (ht : P.underlying t = some (.slice e)) (he : P.underlying e = some (.slice q)) (hq : P.underlying q = some (.int .i64)) (ce : P.cellsOf e = 1) (cq : P.cellsOf q = 1)
    (h : DataW.trod enc P w base (fun _ => true) held fuel t [v] = some x) : ∃ L, GridAt w v L := by
  rcases open_int_rows ht he hq ce cq h with ⟨hcs, _⟩ | ⟨a, len, cap, A, Ln, C, Z, hcs, _, hl, hm, _, hr⟩
  · simp at hcs
    subst hcs
    exact ⟨[], by simp, Or.inl ⟨rfl, none, 0, rfl, fun _ => rfl⟩⟩
  · simp at hcs
    subst hcs
    refine ⟨(List.range len).map (fun r => (Z r).take (Ln r)), by simp; omega, ?_⟩
    by_cases h0 : len = 0
    · subst h0
      exact Or.inl ⟨by simp, _, cap, rfl, fun h => by cases h⟩
    · have hs := addr_none (hr 0 (by omega)).1 rfl
      refine Or.inr ⟨a.block, a.off, cap, ?_, by simp; exact hl, hm, fun i hi => ?_⟩
      · obtain ⟨b, o, s⟩ := a
        simp at hs
        subst hs
        simp
      · have hi' : i < len := by simpa using hi
        obtain ⟨r1, r2, r3, r4, r5, r6, r7⟩ := hr i (by omega)
        refine ⟨.slice (A i) (Ln i) (C i), by rw [← addr_form hs]; exact r1, ?_⟩
        have e1 : nthR ((List.range len).map (fun r => (Z r).take (Ln r))) i = (Z i).take (Ln i) := by simp [nthR, hi']
        rw [e1]
        refine rowAt_of (by simp; omega) (by omega) r2 r3 (fun z hzz => i64_wf (r5 z (List.mem_of_mem_take hzz))) (fun e => r6 e) (fun a' e j hj => ?_)
        rw [(r7 a' e).2 j (by omega)]
        simp [nth, hj]

/-- A struct of one field of one cell, by value. -/
theorem open_agg1 {spare : Nat → Bool} {r : Reach} {b0 : Nat} {t : TypeId} {f0 : Field} {v : Value} {d : DataW H} {p : List MemPlace} (hs : P.underlying t = some (.struct #[f0])) (h0 : f0.offset = 0) (h1 : P.cellsOf f0.type = 1) (hC : P.cellsOf t = 1)
    (hv : Value.okWide P w r b0 t v) (h : DataW.Trod enc P w base spare held t v d p) :
    ∃ (v0 : Value) (y0 : DataW H × List MemPlace) (n : Nat), v = .agg #[v0] ∧ DataW.trod enc P w base spare held n f0.type [v0] = some y0 := by
  obtain ⟨cs, rfl, hsz⟩ := okWide_struct hs hv
  have h2 : cs.size = 1 := hsz.trans hC
  obtain ⟨c0, rfl⟩ : ∃ c, cs = #[c] := by
    obtain ⟨l⟩ := cs
    match l, h2 with
    | [c], _ => exact ⟨c, rfl⟩
  obtain ⟨fuel, hf⟩ := h
  obtain ⟨y0, n, _, _, h3⟩ := trod_struct1 hs hf
  exact ⟨c0, y0, n, rfl, by simpa [Value.cells, h0, h1] using h3⟩

end

theorem Try.cells24 : Try.prog.cellsOf 24 = 1 := by kernel_rfl
theorem Try.cells34 : Try.prog.cellsOf 34 = 1 := by kernel_rfl
theorem Try.cells2 : Try.prog.cellsOf 2 = 1 := by kernel_rfl
theorem Try.cells38 : Try.prog.cellsOf 51 = 1 := by kernel_rfl

set_option maxRecDepth 100000 in
/-- An argument of type laws.Graph, opened. -/
theorem open_graph {H : Type} {enc : TypeId × Value → H} {W : World} {b0 : Nat} {v : Value} {d : DataW H} {p : List MemPlace} (hv : Value.okWide Try.prog W .any b0 51 v) (h : DataW.Trod enc Try.prog W 0 (fun _ => true) true 51 v d p) :
    ∃ g L, v = .agg #[g] ∧ GridAt W g L := by
  obtain ⟨g, y0, n, rfl, h0⟩ := open_agg1 Try.underlying51 rfl Try.cells24 Try.cells38 hv h
  obtain ⟨L, hL⟩ := grid_of_trod Try.underlying24 Try.underlying34 Try.underlying2 Try.cells34 Try.cells2 h0
  exact ⟨g, L, rfl, hL⟩

set_option maxRecDepth 100000 in
/-- An argument of type []int64, opened. -/
theorem open_row {H : Type} {enc : TypeId × Value → H} {W : World} {b0 : Nat} {v : Value} {d : DataW H} {p : List MemPlace} (hv : Value.okWide Try.prog W .any b0 34 v) (h : DataW.Trod enc Try.prog W 0 (fun _ => true) true 34 v d p) :
    ∃ L, RowAt W v L := by
  obtain ⟨a0, len, cap, rfl⟩ := okWide_slice Try.underlying34 hv
  obtain ⟨fuel, hf⟩ := h
  obtain ⟨L, hL⟩ := row_of_trod Try.underlying34 Try.underlying2 Try.cells2 hf
  exact ⟨L, hL⟩

set_option maxRecDepth 100000 in
/-- An argument of type [][]int64, opened. -/
theorem open_grid {H : Type} {enc : TypeId × Value → H} {W : World} {b0 : Nat} {v : Value} {d : DataW H} {p : List MemPlace} (hv : Value.okWide Try.prog W .any b0 24 v) (h : DataW.Trod enc Try.prog W 0 (fun _ => true) true 24 v d p) :
    ∃ L, GridAt W v L := by
  obtain ⟨a0, len, cap, rfl⟩ := okWide_slice Try.underlying24 hv
  obtain ⟨fuel, hf⟩ := h
  obtain ⟨L, hL⟩ := grid_of_trod Try.underlying24 Try.underlying34 Try.underlying2 Try.cells34 Try.cells2 hf
  exact ⟨L, hL⟩

end Go.Proofs.Ytikfbfclbmlopaa

/- From what a row's form reads as data to our words: a slice of bytes. -/
namespace Go.Proofs.Ytikfbfclbmlopaa
open Go.ChangeShapes Go.WideShapes Go.ChangeAt Go.RowKit Go.Deep

section
variable {H : Type} {enc : TypeId × Value → H} {P : Program} {w : World} {base : Nat} {held : Bool}

theorem u8_wf {n : Int} (h : (Lit.int .u8 n).wf = true) : 0 ≤ n ∧ n < 256 := by
  have h2 := bounds_u8 h
  omega

theorem bytes_of_trod {t e : TypeId} {fuel : Nat} {v : Value} {x : DataW H × List MemPlace} (ht : P.underlying t = some (.slice e)) (he : P.underlying e = some (.int .u8)) (ce : P.cellsOf e = 1)
    (h : DataW.trod enc P w base (fun _ => true) held fuel t [v] = some x) : ∃ a n c, v = .slice a n c ∧ (n ≤ 4096 → BytesAt w w.heap.size (.slice a n c) n) := by
  rcases open_ints ht he ce h with ⟨hcs, _⟩ | ⟨a, l, c, zs, hcs, _, hl, hm, hz, _, hcell, hwz⟩
  · simp at hcs
    exact ⟨none, 0, 0, hcs, fun _ => ⟨by omega, none, 0, rfl, fun h => absurd h (by omega)⟩⟩
  · simp at hcs
    refine ⟨some a, l, c, hcs, fun hl4 => ⟨hl4, some a, c, rfl, fun h0 => ?_⟩⟩
    simp only [if_true] at hz
    have hs := addr_none (hcell 0 (by omega)) rfl
    refine ⟨a.block, a.off, ?_, ?_, fun i hi => ?_⟩
    · obtain ⟨b, o, s⟩ := a
      simp at hs
      subst hs
      rfl
    · have h1 := hcell 0 (by omega)
      rw [addr_form hs] at h1
      exact block_lt_of_cell (a := ⟨a.block, a.off + 0, none⟩) h1
    · have h1 := hcell i (by omega)
      rw [addr_form hs] at h1
      have hmem : zs.getD i 0 ∈ zs := by
        have hi2 : i < zs.length := by omega
        rw [List.getD_eq_getElem?_getD, List.getElem?_eq_getElem hi2]
        exact List.getElem_mem hi2
      have h2 := u8_wf (hwz _ hmem)
      refine ⟨(zs.getD i 0).toNat, by omega, ?_⟩
      rw [h1, Int.toNat_of_nonneg h2.1]

end

theorem Try.cellsU8 : Try.prog.cellsOf 5 = 1 := by kernel_rfl

set_option maxRecDepth 100000 in
/-- An argument of type []byte, opened. -/
theorem open_bytes {H : Type} {enc : TypeId × Value → H} {W : World} {b0 : Nat} {v : Value} {d : DataW H} {p : List MemPlace} (hv : Value.okWide Try.prog W .any b0 22 v) (h : DataW.Trod enc Try.prog W 0 (fun _ => true) true 22 v d p) :
    ∃ a n c, v = .slice a n c ∧ (n ≤ 4096 → BytesAt W W.heap.size (.slice a n c) n) := by
  obtain ⟨a0, len, cap, rfl⟩ := okWide_slice Try.underlying22 hv
  obtain ⟨fuel, hf⟩ := h
  exact bytes_of_trod Try.underlying22 Try.underlying5 Try.cellsU8 hf

end Go.Proofs.Ytikfbfclbmlopaa
