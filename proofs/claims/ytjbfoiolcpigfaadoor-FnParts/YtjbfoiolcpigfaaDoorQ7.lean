/- The texts FP3, Frame, FrameD, FrameB, joined. -/
import Derived.Test.YtjbfoiolcpigfaaDoorQ6
import Derived.Test.YtjbfoiolcpigfaaDoorLater
import Derived.Deep.RegionHeld3
import Derived.Test.YtjbfoiolcpigfaaDoorRows
import Derived.Test.YtjbfoiolcpigfaaDoorBase
import Derived.ProofKit
import Derived.OpenShut
import Derived.ShutString
import Derived.ChangeOld
import Derived.Deep.Matrix
import Derived.Test.YtjbfoiolcpigfaaDoorTie
import Derived.Test.YtjbfoiolcpigfaaDoorCards
import Derived.Test.YtjbfoiolcpigfaaDoorQ2
import Derived.LaidMore
import Derived.Stop.Joined
import Derived.Lib.LaidTab
import Derived.SevenTiedAt
import Derived.Test.YtjbfoiolcpigfaaDoorQ4

/- The walk of FnParts. -/
namespace Go.Proofs.YtjbfoiolcpigfaaDoor
open Go.RowKit

theorem partsL_of {L : List (List Int)} {k : Nat} (h : k < (partsL L).length) : GraphP L := by
  rcases Classical.em (GraphP L) with hG | hG
  · exact hG
  · unfold partsL at h
    rw [if_neg hG] at h
    simp at h

theorem part_len {L : List (List Int)} (hG : GraphP L) {i : Nat} (hi : i < (partsL L).length) : (nthR (partsL L) i).length ≤ 16 := by
  obtain ⟨v, _, _, h3, _⟩ := partsL_at hG hi
  rw [h3]
  exact listM_len _

set_option maxHeartbeats 8000000 in
set_option maxRecDepth 100000 in
theorem lawParts (a0 : Option Addr) (n0 c0 : Nat) (w : World) (hb : n0 ≤ 4096 → BytesAt w w.heap.size (.slice a0 n0 c0) n0) (hT : TabAt w) :
    Calls Tryd.prog 6 #[.slice a0 n0 c0] w fun e w' => e = .returned (.bool true) ∧ Below w.heap.size w w' := by
  have HBY := Lib.hid hb
  clear hb
  go_enter Tryd.func6, Tryd.ntmps6
  go_wp2_with fail
  refine (big_any _ _ _ _).mono ?_
  rintro e w' ⟨rfl, rfl⟩
  by_cases hbig : (4096 : Int) < (n0 : Int)
  · rw [decide_eq_true hbig]
    go_wp2
    go_ret
    exact ⟨rfl, Below.refl _ _⟩
  rw [decide_eq_false hbig]
  go_wp2_with fail
  refine (drawPartsOf_any n0 _ _ (HBY.out (by omega))).mono ?_
  rintro e w1 ⟨L, m, a, cap, rfl, ho1, hb1⟩
  obtain rfl : m = L.length := by
    obtain ⟨a3, c3, e3⟩ := ho1.grid.slice
    simp only [Value.slice.injEq] at e3
    exact e3.2.1
  have hl := ho1.grid.len
  unfold maxLen at hl
  have hst : Below w1.heap.size w1 (w1.alloc (.cells #[.slice a L.length cap] 29)) := (Below.refl _ _).alloc (Nat.le_refl _) _
  have HG1 := Lib.hid (ho1.grid.keep hst)
  have HB1 := Lib.hid (hb1.alloc hb1.size (.cells #[.slice a L.length cap] 29))
  have hz1 : w.heap.size ≤ w1.heap.size := hb1.size
  clear ho1 hb1 hst
  go_wp2_with fail
  refine (implPartsOf_any _ L _ HG1.out (hT.keep HB1.out)).mono ?_
  rintro e w2 ⟨n2, a2, c2, rfl, ho2, hb2⟩
  obtain rfl : n2 = (partsL L).length := by
    obtain ⟨a3, c3, e3⟩ := ho2.grid.slice
    simp only [Value.slice.injEq] at e3
    exact e3.2.1
  have kb2 : w2.cell? ⟨w1.heap.size, 0, none⟩ = some (.slice a L.length cap) := by rw [hb2.cell (by simp)]; go_simp
  have HG2 : Hid (∀ w', Below w2.heap.size w2 w' → GridAt w' (.slice a L.length cap) L) := fun w' h => (HG1.out.keep hb2).keep h
  have HE2 : Hid (∀ w', Below w2.heap.size w2 w' → GridAt w' (.slice a2 (partsL L).length c2) (partsL L)) := fun w' h => ho2.grid.keep h
  have HB2 : Hid (Below w.heap.size w w2) := HB1.out.trans (hb2.mono HB1.out.size)
  have KB : Hid (∀ w', Below w2.heap.size w2 w' → w'.cell? ⟨w1.heap.size, 0, none⟩ = some (.slice a L.length cap)) := fun w' h => cell_keep h kb2
  have HT2 : Hid (∀ w', Below w2.heap.size w2 w' → TabAt w') := fun w' h => (hT.keep HB2.out).keep h
  have hle : (partsL L).length ≤ 1048576 := (partsL_small L).1
  clear ho2 hb2 HG1 HB1
  go_wp2_with fail
  refine (specPartsOf_any _ L _ (HG2.out _ (Below.refl _ _))).mono ?_
  rintro e w3 ⟨n3, a3, c3, rfl, ho3, hb3⟩
  have HO3 := Lib.hid ho3.grid
  have HB3 := Lib.hid hb3
  clear ho3 hb3 kb2
  go_wp2_with fail
  refine (w5Lists_any _ _ _ _ _ (HE2.out _ HB3.out) HO3.out).mono ?_
  rintro e w4 ⟨rfl, hd4⟩
  rw [decide_eq_true rfl]
  have HB4 : Hid (Below w2.heap.size w2 w4) := HB3.out.trans (hd4.below _)
  clear hd4 HO3 HB3
  go_wp2_with fail
  go_loopw [5, 6] (fun mv i wr => ∃ k : Nat, k ≤ (partsL L).length ∧ i = .int .i64 k ∧ mv = .int .i64 (partsSum L k : Int) ∧ Below w2.heap.size w2 wr) (fun _ i _ => (partsL L).length - (intOf i).toNat)
  case atStart => exact ⟨0, Nat.zero_le _, rfl, rfl, HB4.out⟩
  case round =>
    clear HB4
    obtain ⟨k, hk, rfl, rfl, hb⟩ := hrel
    have HB := Lib.hid hb
    have kb := KB.out _ hb
    clear hb
    by_cases hlt : k < (partsL L).length
    · have hG := partsL_of hlt
      have hzz := hG.1
      obtain ⟨b, o, c, A, C, e2, l1, l2, hc⟩ := (HE2.out _ HB.out).pos (by omega)
      simp only [Value.slice.injEq, true_and] at e2
      obtain ⟨rfl, rfl⟩ := e2
      have hck := (hc k hlt).1
      have hs1 := partsSum_succ hlt
      have hs2 := partsSum_le hG (k + 1) (by omega)
      have hGG := Lib.hid hG
      have HC := Lib.hid hc
      have HS1 := Lib.hid hs1
      have HCN := Lib.hid (part_conn hG hlt)
      have HAP : Hid (∀ q, q < k → connB L (bothL (nthR (partsL L) q) (nthR (partsL L) k)) = false) := fun q hq => parts_apart hG hq hlt
      have HRK := Lib.hid (hc k hlt).2
      obtain ⟨S, hS⟩ : ∃ S, S = partsSum L k := ⟨_, rfl⟩
      obtain ⟨n1, hn1⟩ : ∃ n1, n1 = (nthR (partsL L) k).length := ⟨_, rfl⟩
      rw [← hn1] at hck HRK
      rw [← hS, ← hn1] at hs1
      rw [← hS]
      have hSn : S + n1 ≤ 16 := by omega
      have HSS : Hid (partsSum L (k + 1) = S + n1) := by show _ = _; rw [HS1.out, ← hS, ← hn1]
      clear hs1 hs2 hc hG hS hn1 HS1
      go_wp2_with fail
      have kl := fun x : Later wr => x.cell kb
      have kl1 := fun x : Later wr => x.cell hck
      have hcA : Hid (∀ x : Later wr, Calls Tryd.prog 40 #[.agg #[.slice a L.length cap], .slice (A k) n1 (C k)] x.at fun e w2 => e = .returned (.bool true) ∧ ∃ y : Later wr, w2 = y.at) :=
        fun x => Calls.later ((implConnectedIn_any _ _ L _ _ (HG2.out _ (HB.out.trans (x.bel.mono HB.out.size))) (HRK.out.keep x.bel) (HT2.out _ (HB.out.trans (x.bel.mono HB.out.size)))).mono fun _ _ ⟨h1, h2⟩ => ⟨by rw [h1, HCN.out], h2⟩)
      refine wp_region_later (by kernel_rfl) (by kernel_rfl) ?_
      repeat (go_big_quiet_step ((go_at_call 40; with_reducible exact hcA.out _)))
      refine wpQuiet_nil ?_
      rintro _ ⟨x, rfl⟩
      have HBX : Hid (Below wr.heap.size wr x.at) := x.bel
      generalize x.at = wx at HBX ⊢
      clear kl kl1 hcA
      go_wp2_with fail
      go_loopw [7] (fun i wy => ∃ q : Nat, q ≤ k ∧ i = .int .i64 q ∧ Below wr.heap.size wr wy) (fun i _ => k - (intOf i).toNat)
      case atStart => exact ⟨0, Nat.zero_le _, rfl, HBX.out⟩
      case round =>
        clear HBX
        rename World => wy
        obtain ⟨q, hq, rfl, hby⟩ := hrel
        have HBY2 := Lib.hid hby
        by_cases hql : q < k
        · have HW : Hid (Below w2.heap.size w2 wy) := HB.out.trans (hby.mono HB.out.size)
          have kby := KB.out _ HW.out
          have hcky := cell_keep hby hck
          have hcqy := cell_keep hby (HC.out q (by omega)).1
          have HRQ := Lib.hid ((HC.out q (by omega)).2.keep hby)
          have HRKY := Lib.hid (HRK.out.keep hby)
          have HAQ := Lib.hid (HAP.out q hql)
          have hq16 : (nthR (partsL L) q).length ≤ 1000 := Nat.le_trans (part_len hGG.out (by omega)) (by omega)
          have hk16 : (nthR (partsL L) k).length ≤ 1000 := Nat.le_trans (part_len hGG.out hlt) (by omega)
          clear hby hck kb
          go_wp2_with fail
          go_region_held3 (fun wx => wx.cell? ⟨w1.heap.size, 0, none⟩ = some (.slice a L.length cap) ∧ wx.cell? ⟨b, o + q, none⟩ = some (.slice (A q) (nthR (partsL L) q).length (C q)) ∧ wx.cell? ⟨b, o + k, none⟩ = some (.slice (A k) n1 (C k))) (first | exact ⟨kby, hcqy, hcky⟩ | exact ⟨kba, hcqa, hcka⟩ | exact ⟨kbb, hcqb, hckb⟩)
            (first
              | (go_at_call 41; refine (w5Both_any _ _ _ _ _ (HRQ.out.keep (Below.refl _ _).drew) (HRKY.out.keep (Below.refl _ _).drew) hq16 hk16).mono ?_; rintro e wa ⟨na, aa, ca, rfl, hoa, hba⟩; have kba := cell_keep hba (cell_keep (Below.refl _ _).drew kby); have hcqa := cell_keep hba (cell_keep (Below.refl _ _).drew hcqy); have hcka := cell_keep hba (cell_keep (Below.refl _ _).drew hcky); have HBA : Hid (Below wy.heap.size wy wa) := (Below.refl _ _).drew.trans hba; have HOA := Lib.hid hoa.row; clear hoa hba)
              | (go_at_call 40; refine (implConnectedIn_any _ _ L _ _ (HG2.out _ (HW.out.trans (HBA.out.mono HW.out.size))) HOA.out (HT2.out _ (HW.out.trans (HBA.out.mono HW.out.size)))).mono ?_; rintro e wb ⟨rfl, hbb⟩; rw [HAQ.out]; have kbb := cell_keep hbb kba; have hcqb := cell_keep hbb hcqa; have hckb := cell_keep hbb hcka; have HBB : Hid (Below wr.heap.size wr wb) := HBY2.out.trans ((HBA.out.trans (hbb.mono HBA.out.size)).mono HBY2.out.size); clear hbb))
          clear kba hcqa hcka kbb hcqb hckb kby hcqy hcky
          go_wp2
          go_roundw
          case rel => exact ⟨q + 1, by omega, by go_num, HBB.out⟩
          case measure => simp [intOf]; omega
        · obtain rfl : q = k := by omega
          clear hby
          go_wp2
          go_roundw
          case rel => exact ⟨q + 1, by omega, by go_num, by rw [HSS.out]; go_num, HB.out.trans (HBY2.out.mono HB.out.size)⟩
          case measure => simp [intOf]; omega
    · obtain rfl : k = (partsL L).length := by omega
      go_wp2_with fail
      refine (specGraphOk_any _ L _ (HG2.out _ HB.out)).mono ?_
      rintro e w6 ⟨rfl, hb6⟩
      have HB6 : Hid (Below w2.heap.size w2 w6) := HB.out.trans (hb6.mono HB.out.size)
      have k6 := KB.out _ HB6.out
      have HFIN : Hid (Below w.heap.size w w6) := HB2.out.trans (HB6.out.mono HB2.out.size)
      clear hb6 kb
      by_cases hG : GraphP L
      · have hs := partsSum_all hG
        rw [decide_eq_true hG, hs]
        clear hG hs
        go_wp2
        go_ret
        exact ⟨rfl, HFIN.out⟩
      · have hs : partsSum L (partsL L).length = 0 := by unfold partsSum partsL; rw [if_neg hG]; rfl
        rw [decide_eq_false hG, hs]
        clear hG hs
        go_wp2
        go_ret
        exact ⟨rfl, HFIN.out⟩

end Go.Proofs.YtjbfoiolcpigfaaDoor

/- From what a row's form reads as data to our words: a slice of int64, a slice of such slices, a graph. -/
namespace Go.Proofs.YtjbfoiolcpigfaaDoor
open Go.ChangeShapes Go.WideShapes Go.ChangeAt Go.RowKit Go.Deep

theorem own : ownKnob Tryd.prog.godebug = none := by kernel_rfl
theorem laidOut : laidOutB Tryd.prog = true := by kernel_rfl

theorem i64_wf {n : Int} (h : (Lit.int .i64 n).wf = true) : I64 n := by
  have := bounds_i64 h
  unfold I64
  omega

section
variable {H : Type} {enc : TypeId × Value → H} {P : Program} {w : World} {base : Nat} {held : Bool}

theorem addr_none {a : Addr} {i : Nat} {v : Value} (h : w.cell? (a.add i) = some v) (hp : i = 0) : a.spot = none := by
  subst hp
  simpa [Addr.add] using World.cell?_spot h

theorem addr_form {a : Addr} (h : a.spot = none) (i : Nat) : a.add i = ⟨a.block, a.off + i, none⟩ := by
  obtain ⟨b, o, s⟩ := a
  simp at h
  subst h
  unfold Addr.add
  split
  · rename_i e; subst e; rfl
  · rfl

theorem rowAt_of {A : Option Addr} {n c : Nat} {zs : List Int} (hlen : zs.length = n) (hm : n ≤ maxLen) (hc : n ≤ c) (hcm : c ≤ maxLen) (hi : ∀ z ∈ zs, I64 z) (h0 : A = none → c = 0) (hcell : ∀ a, A = some a → ∀ i, i < n → w.cell? (a.add i) = some (.int .i64 (nth zs i))) : RowAt w (.slice A n c) zs := by
  refine ⟨hi, by omega, ?_⟩
  by_cases hz : n = 0
  · subst hz
    exact Or.inl ⟨List.length_eq_zero_iff.1 hlen, A, c, rfl, h0⟩
  · cases A with
    | none => exact absurd (h0 rfl) (by omega)
    | some a =>
      have hs := addr_none (hcell a rfl 0 (by omega)) rfl
      refine Or.inr ⟨a.block, a.off, c, ?_, by omega, hcm, fun i hi' => ?_⟩
      · obtain ⟨b, o, s⟩ := a
        simp at hs
        subst hs
        rw [hlen]
      · rw [← addr_form hs]
        exact hcell a rfl i (by omega)

theorem row_of_trod {t e : TypeId} {fuel : Nat} {v : Value} {x : DataW H × List MemPlace} (ht : P.underlying t = some (.slice e)) (he : P.underlying e = some (.int .i64)) (ce : P.cellsOf e = 1)
    (h : DataW.trod enc P w base (fun _ => true) held fuel t [v] = some x) : ∃ xs, RowAt w v xs := by
  rcases open_ints ht he ce h with ⟨hcs, _⟩ | ⟨a, l, c, zs, hcs, _, hl, hm, hz, _, hcell, hwz⟩
  · simp at hcs
    subst hcs
    exact ⟨[], by simp, by simp, Or.inl ⟨rfl, none, 0, rfl, fun _ => rfl⟩⟩
  · simp at hcs
    subst hcs
    simp only [if_true] at hz
    refine ⟨zs.take l, rowAt_of (by simp; omega) (by omega) hl hm (fun z hzz => i64_wf (hwz z (List.mem_of_mem_take hzz))) (by simp) (fun a' e i hi => ?_)⟩
    cases e
    rw [hcell i (by omega)]
    simp [nth, hi]

theorem grid_of_trod {t e q : TypeId} {fuel : Nat} {v : Value} {x : DataW H × List MemPlace} (ht : P.underlying t = some (.slice e)) (he : P.underlying e = some (.slice q)) (hq : P.underlying q = some (.int .i64)) (ce : P.cellsOf e = 1) (cq : P.cellsOf q = 1)
    (h : DataW.trod enc P w base (fun _ => true) held fuel t [v] = some x) : ∃ L, GridAt w v L := by
  rcases open_int_rows ht he hq ce cq h with ⟨hcs, _⟩ | ⟨a, len, cap, A, Ln, C, Z, hcs, _, hl, hm, _, hr⟩
  · simp at hcs
    subst hcs
    exact ⟨[], by simp, Or.inl ⟨rfl, none, 0, rfl, fun _ => rfl⟩⟩
  · simp at hcs
    subst hcs
    refine ⟨(List.range len).map (fun r => (Z r).take (Ln r)), by simp; omega, ?_⟩
    by_cases h0 : len = 0
    · subst h0
      exact Or.inl ⟨by simp, _, cap, rfl, fun h => by cases h⟩
    · have hs := addr_none (hr 0 (by omega)).1 rfl
      refine Or.inr ⟨a.block, a.off, cap, ?_, by simp; exact hl, hm, fun i hi => ?_⟩
      · obtain ⟨b, o, s⟩ := a
        simp at hs
        subst hs
        simp
      · have hi' : i < len := by simpa using hi
        obtain ⟨r1, r2, r3, r4, r5, r6, r7⟩ := hr i (by omega)
        refine ⟨.slice (A i) (Ln i) (C i), by rw [← addr_form hs]; exact r1, ?_⟩
        have e1 : nthR ((List.range len).map (fun r => (Z r).take (Ln r))) i = (Z i).take (Ln i) := by simp [nthR, hi']
        rw [e1]
        refine rowAt_of (by simp; omega) (by omega) r2 r3 (fun z hzz => i64_wf (r5 z (List.mem_of_mem_take hzz))) (fun e => r6 e) (fun a' e j hj => ?_)
        rw [(r7 a' e).2 j (by omega)]
        simp [nth, hj]

/-- A struct of one field of one cell, by value. -/
theorem open_agg1 {spare : Nat → Bool} {r : Reach} {b0 : Nat} {t : TypeId} {f0 : Field} {v : Value} {d : DataW H} {p : List MemPlace} (hs : P.underlying t = some (.struct #[f0])) (h0 : f0.offset = 0) (h1 : P.cellsOf f0.type = 1) (hC : P.cellsOf t = 1)
    (hv : Value.okWide P w r b0 t v) (h : DataW.Trod enc P w base spare held t v d p) :
    ∃ (v0 : Value) (y0 : DataW H × List MemPlace) (n : Nat), v = .agg #[v0] ∧ DataW.trod enc P w base spare held n f0.type [v0] = some y0 := by
  obtain ⟨cs, rfl, hsz⟩ := okWide_struct hs hv
  have h2 : cs.size = 1 := hsz.trans hC
  obtain ⟨c0, rfl⟩ : ∃ c, cs = #[c] := by
    obtain ⟨l⟩ := cs
    match l, h2 with
    | [c], _ => exact ⟨c, rfl⟩
  obtain ⟨fuel, hf⟩ := h
  obtain ⟨y0, n, _, _, h3⟩ := trod_struct1 hs hf
  exact ⟨c0, y0, n, rfl, by simpa [Value.cells, h0, h1] using h3⟩

end

theorem Tryd.cells24 : Tryd.prog.cellsOf 27 = 1 := by kernel_rfl
theorem Tryd.cells34 : Tryd.prog.cellsOf 36 = 1 := by kernel_rfl
theorem Tryd.cells2 : Tryd.prog.cellsOf 2 = 1 := by kernel_rfl
theorem Tryd.cells38 : Tryd.prog.cellsOf 55 = 1 := by kernel_rfl

set_option maxRecDepth 100000 in
/-- An argument of type laws.Graph, opened. -/
theorem open_graph {H : Type} {enc : TypeId × Value → H} {W : World} {b0 : Nat} {v : Value} {d : DataW H} {p : List MemPlace} (hv : Value.okWide Tryd.prog W .any b0 55 v) (h : DataW.Trod enc Tryd.prog W 0 (fun _ => true) true 55 v d p) :
    ∃ g L, v = .agg #[g] ∧ GridAt W g L := by
  obtain ⟨g, y0, n, rfl, h0⟩ := open_agg1 Tryd.underlying55 rfl Tryd.cells24 Tryd.cells38 hv h
  obtain ⟨L, hL⟩ := grid_of_trod Tryd.underlying27 Tryd.underlying36 Tryd.underlying2 Tryd.cells34 Tryd.cells2 h0
  exact ⟨g, L, rfl, hL⟩

set_option maxRecDepth 100000 in
/-- An argument of type []int64, opened. -/
theorem open_row {H : Type} {enc : TypeId × Value → H} {W : World} {b0 : Nat} {v : Value} {d : DataW H} {p : List MemPlace} (hv : Value.okWide Tryd.prog W .any b0 36 v) (h : DataW.Trod enc Tryd.prog W 0 (fun _ => true) true 36 v d p) :
    ∃ L, RowAt W v L := by
  obtain ⟨a0, len, cap, rfl⟩ := okWide_slice Tryd.underlying36 hv
  obtain ⟨fuel, hf⟩ := h
  obtain ⟨L, hL⟩ := row_of_trod Tryd.underlying36 Tryd.underlying2 Tryd.cells2 hf
  exact ⟨L, hL⟩

set_option maxRecDepth 100000 in
/-- An argument of type [][]int64, opened. -/
theorem open_grid {H : Type} {enc : TypeId × Value → H} {W : World} {b0 : Nat} {v : Value} {d : DataW H} {p : List MemPlace} (hv : Value.okWide Tryd.prog W .any b0 27 v) (h : DataW.Trod enc Tryd.prog W 0 (fun _ => true) true 27 v d p) :
    ∃ L, GridAt W v L := by
  obtain ⟨a0, len, cap, rfl⟩ := okWide_slice Tryd.underlying27 hv
  obtain ⟨fuel, hf⟩ := h
  obtain ⟨L, hL⟩ := grid_of_trod Tryd.underlying27 Tryd.underlying36 Tryd.underlying2 Tryd.cells34 Tryd.cells2 hf
  exact ⟨L, hL⟩

end Go.Proofs.YtjbfoiolcpigfaaDoor

/- What the row's condition on the library's table gives; the witness. -/
namespace Go.Proofs.YtjbfoiolcpigfaaDoor
open Go.ChangeShapes Go.WideShapes Go.ChangeAt Go.RowKit

/-- The list of the rows. -/
abbrev laidL : List (String × DataW Unit) := [("math/bits.deBruijn32tab", Rows.laid_math_bits_deBruijn32tab)]
theorem gTab : Tryd.prog.globalNamed "math/bits.deBruijn32tab" = some 0 := by kernel_rfl
theorem gTabT : (Tryd.prog.globals[0]?).map (·.type) = some 133 := by kernel_rfl
theorem tabA : Tryd.prog.underlying 133 = some (.array 32 5) := by kernel_rfl
theorem tabE : Tryd.prog.underlying 5 = some (.int .u8) := by kernel_rfl
theorem tabC : Tryd.prog.cellsOf 5 = 1 := by kernel_rfl
theorem tabN : Tryd.prog.cellsOf 133 = 32 := by kernel_rfl

theorem door_met (os : Os) (args : Array Value) : laidMetH Tryd.prog laidL ((World.doorLaid Tryd.prog 400 os).forCall (fun _ _ => 0) ⟨#[], args, []⟩).memory :=
  laidMetH_of_parts3 (fuel := 8) (laidMet_of_run' 8 (by kernel_rfl) (by kernel_rfl)) (by kernel_rfl) (by kernel_rfl)

theorem tab_of_laid {W : World} (h : laidMetH Tryd.prog laidL W) : TabAt W := by
  rw [MakeChecks.laidMetH_plain _ _ _ (by kernel_rfl)] at h
  have h2 : laidMet Tryd.prog [("math/bits.deBruijn32tab", Lib.tabData .u8 (Lib.deBruijn32tab.map (fun z : Nat => (z : Int))))] W := h
  have hT := Lib.tabIs_of_head gTab gTabT tabA tabE tabC tabN h2
  intro i hi
  have := hT.cell gTab i (by rw [List.length_map]; exact hi)
  rw [this]
  congr 2
  simp [List.getD_eq_getElem?_getD, hi]

end Go.Proofs.YtjbfoiolcpigfaaDoor

/- From what a row's form reads as data to our words: a slice of bytes. -/
namespace Go.Proofs.YtjbfoiolcpigfaaDoor
open Go.ChangeShapes Go.WideShapes Go.ChangeAt Go.RowKit Go.Deep

section
variable {H : Type} {enc : TypeId × Value → H} {P : Program} {w : World} {base : Nat} {held : Bool}

theorem u8_wf {n : Int} (h : (Lit.int .u8 n).wf = true) : 0 ≤ n ∧ n < 256 := by
  have h2 := bounds_u8 h
  omega

theorem bytes_of_trod {t e : TypeId} {fuel : Nat} {v : Value} {x : DataW H × List MemPlace} (ht : P.underlying t = some (.slice e)) (he : P.underlying e = some (.int .u8)) (ce : P.cellsOf e = 1)
    (h : DataW.trod enc P w base (fun _ => true) held fuel t [v] = some x) : ∃ a n c, v = .slice a n c ∧ (n ≤ 4096 → BytesAt w w.heap.size (.slice a n c) n) := by
  rcases open_ints ht he ce h with ⟨hcs, _⟩ | ⟨a, l, c, zs, hcs, _, hl, hm, hz, _, hcell, hwz⟩
  · simp at hcs
    exact ⟨none, 0, 0, hcs, fun _ => ⟨by omega, none, 0, rfl, fun h => absurd h (by omega)⟩⟩
  · simp at hcs
    refine ⟨some a, l, c, hcs, fun hl4 => ⟨hl4, some a, c, rfl, fun h0 => ?_⟩⟩
    simp only [if_true] at hz
    have hs := addr_none (hcell 0 (by omega)) rfl
    refine ⟨a.block, a.off, ?_, ?_, fun i hi => ?_⟩
    · obtain ⟨b, o, s⟩ := a
      simp at hs
      subst hs
      rfl
    · have h1 := hcell 0 (by omega)
      rw [addr_form hs] at h1
      exact block_lt_of_cell (a := ⟨a.block, a.off + 0, none⟩) h1
    · have h1 := hcell i (by omega)
      rw [addr_form hs] at h1
      have hmem : zs.getD i 0 ∈ zs := by
        have hi2 : i < zs.length := by omega
        rw [List.getD_eq_getElem?_getD, List.getElem?_eq_getElem hi2]
        exact List.getElem_mem hi2
      have h2 := u8_wf (hwz _ hmem)
      refine ⟨(zs.getD i 0).toNat, by omega, ?_⟩
      rw [h1, Int.toNat_of_nonneg h2.1]

end

theorem Tryd.cellsU8 : Tryd.prog.cellsOf 5 = 1 := by kernel_rfl

set_option maxRecDepth 100000 in
/-- An argument of type []byte, opened. -/
theorem open_bytes {H : Type} {enc : TypeId × Value → H} {W : World} {b0 : Nat} {v : Value} {d : DataW H} {p : List MemPlace} (hv : Value.okWide Tryd.prog W .any b0 22 v) (h : DataW.Trod enc Tryd.prog W 0 (fun _ => true) true 22 v d p) :
    ∃ a n c, v = .slice a n c ∧ (n ≤ 4096 → BytesAt W W.heap.size (.slice a n c) n) := by
  obtain ⟨a0, len, cap, rfl⟩ := okWide_slice Tryd.underlying22 hv
  obtain ⟨fuel, hf⟩ := h
  exact bytes_of_trod Tryd.underlying22 Tryd.underlying5 Tryd.cellsU8 hf

end Go.Proofs.YtjbfoiolcpigfaaDoor
