/- The texts CI1, CS4, FH1, Frame, FrameB, FrameD, K4, FH2, joined. -/
import Derived.Test.YtohjfcfcopbmoaaGreatDoorQEC3
import Derived.Test.YtohjfcfcopbmoaaGreatDoorER16
import Derived.Test.YtohjfcfcopbmoaaGreatDoorQER6
import Derived.Test.YtohjfcfcopbmoaaGreatDoorQCO1
import Derived.Test.YtohjfcfcopbmoaaGreatDoorQU2
import Derived.Deep.RegionHeld3
import Derived.Test.YtohjfcfcopbmoaaGreatDoorEC2
import Derived.Test.YtohjfcfcopbmoaaGreatDoorQLL3
import Derived.Test.YtohjfcfcopbmoaaGreatDoorQCX2
import Derived.Test.YtohjfcfcopbmoaaGreatDoorRows
import Derived.Test.YtohjfcfcopbmoaaGreatDoorQBase
import Derived.ProofKit
import Derived.OpenShut
import Derived.ShutString
import Derived.ChangeOld
import Derived.Deep.Matrix
import Derived.Test.YtohjfcfcopbmoaaGreatDoorQJ1
import Derived.Test.YtohjfcfcopbmoaaGreatDoorTie
import Derived.Test.YtohjfcfcopbmoaaGreatDoorCards
import Derived.Test.YtohjfcfcopbmoaaGreatDoorQY1
import Derived.LaidMore
import Derived.Stop.Joined
import Derived.Lib.LaidTab
import Derived.SevenTiedAt
import Derived.Test.YtohjfcfcopbmoaaGreatDoorCD1

/- Walks: PerfectOrder and ChordalIn of the program. -/
namespace Go.Proofs.YtohjfcfcopbmoaaGreatDoor
open Go.RowKit

/-- The greedy order, kept if it adds no edge, is the order of the model. -/
theorem pf_by (L : List (List Int)) : (perfB L (byFillL L) = true → pfL L = byFillL L ∧ poV L = true) ∧ (perfB L (byFillL L) = false → pfL L = [] ∧ poV L = false) := by
  by_cases hG : GraphP L
  · obtain ⟨p1, p2⟩ := perf_po hG
    have p1 : pfB (adjB L) L.length = true → perfB L (byFillL L) = true ∧ byFillL L = poS (adjB L) L.length L.length := p1
    have p2 : pfB (adjB L) L.length = false → perfB L (byFillL L) = false := p2
    cases hp : pfB (adjB L) L.length with
    | true =>
      obtain ⟨q1, q2⟩ := p1 hp
      obtain ⟨r1, r2⟩ := pf_yes hG hp
      exact ⟨fun _ => ⟨by rw [r1, q2], r2⟩, (fun h => by rw [q1] at h; cases h)⟩
    | false =>
      have hn := pf_no (L := L) (fun h => by rw [hp] at h; exact absurd h.2 (by simp))
      exact ⟨(fun h => by rw [p2 hp] at h; cases h), fun _ => hn⟩
  · have ho : orderB L (byFillL L) = false := by unfold orderB; rw [decide_eq_false hG]; rfl
    have hp : perfB L (byFillL L) = false := by unfold perfB moreI; rw [ho]; rfl
    have hn := pf_no (L := L) (fun h => hG h.1)
    exact ⟨(fun h => by rw [hp] at h; cases h), fun _ => hn⟩

set_option maxHeartbeats 1600000 in
theorem implPerfectOrder_any (v : Value) (L : List (List Int)) (w : World) (h : GridAt w v L) : Calls Tryz.prog 25 #[.agg #[v]] w (GaveYes w (pfL L) (poV L)) := by
  obtain ⟨a0, c0, rfl⟩ := h.slice
  have HGK : Hid (∀ W, Below w.heap.size w W → GridAt W (.slice a0 L.length c0) L) := fun W hb => h.keep hb
  have HB0 : Hid (Below w.heap.size w (w.alloc (.cells #[.slice a0 L.length c0] 26))) := (Below.refl _ _).alloc (Nat.le_refl _) _
  have HX0 : Hid (BoxAt (w.alloc (.cells #[.slice a0 L.length c0] 26)) w.heap.size (.slice a0 L.length c0)) := BoxAt.new _ _ _
  obtain ⟨q1, q2⟩ := pf_by L
  have HQ1 := Lib.hid q1
  have HQ2 := Lib.hid q2
  clear h q1 q2
  go_enter Tryz.func25, Tryz.ntmps25
  go_wp2_with fail
  refine (implByFill_any _ L _ (HGK.out _ HB0.out)).mono ?_
  rintro e w1 ⟨m1, a1, c1, rfl, ho1, hb1⟩
  have HB1 : Hid (Below w.heap.size w w1) := HB0.out.trans (hb1.mono HB0.out.size)
  have HO1 : Hid (OwnRow 2 w1 w.heap.size (.slice a1 m1 c1) (byFillL L)) := ho1.mono HB0.out.size
  have k1 := (HX0.out.keep hb1).1
  clear hb1 ho1
  go_wp2_with fail
  refine (implPerfectIn_any _ _ L (byFillL L) _ (HGK.out _ HB1.out) HO1.out.row).mono ?_
  rintro e w2 ⟨rfl, hb2⟩
  have HB2 : Hid (Below w.heap.size w w2) := HB1.out.trans (hb2.mono HB1.out.size)
  have HO2 := Lib.hid (HO1.out.keep hb2)
  clear hb2 k1
  obtain ⟨t, ht⟩ : ∃ t, t = perfB L (byFillL L) := ⟨_, rfl⟩
  rw [← ht] at HQ1 HQ2 ⊢
  clear ht
  cases t with
  | true =>
    obtain ⟨e1, e2⟩ := HQ1.out rfl
    go_wp2
    go_ret2
    rw [e2]
    exact ⟨_, _, _, rfl, by rw [e1]; exact HO2.out, HB2.out⟩
  | false =>
    obtain ⟨e1, e2⟩ := HQ2.out rfl
    go_wp2
    go_ret2
    rw [e1, e2]
    exact ⟨0, none, 0, rfl, ⟨by simp, by simp, Or.inl ⟨rfl, rfl⟩⟩, HB2.out⟩

theorem implChordalIn_any (v : Value) (L : List (List Int)) (w : World) (h : GridAt w v L) : Calls Tryz.prog 28 #[.agg #[v]] w fun e w' => e = .returned (.bool (poV L)) ∧ Below w.heap.size w w' := by
  obtain ⟨a0, c0, rfl⟩ := h.slice
  have HB0 : Hid (Below w.heap.size w (w.alloc (.cells #[.slice a0 L.length c0] 26))) := (Below.refl _ _).alloc (Nat.le_refl _) _
  have hg := h.keep HB0.out
  clear h
  go_enter Tryz.func28, Tryz.ntmps28
  go_wp2_with fail
  refine (implPerfectOrder_any _ L _ hg).mono ?_
  rintro e w1 ⟨m, a, c, rfl, _, hb1⟩
  have HB1 : Hid (Below w.heap.size w w1) := HB0.out.trans (hb1.mono HB0.out.size)
  clear hb1 hg
  go_wp2
  go_ret
  exact ⟨rfl, HB1.out⟩
end Go.Proofs.YtohjfcfcopbmoaaGreatDoor

/- Walks: the least loop without a chord, of the model. -/
namespace Go.Proofs.YtohjfcfcopbmoaaGreatDoor
open Go.RowKit

/-- What ChordlessLoop answers. -/
noncomputable def clL (L : List (List Int)) : List Int := if GraphP L then clsL (adjB L) else []
noncomputable def clB (L : List (List Int)) : Bool := decide (0 < (clL L).length)

end Go.Proofs.YtohjfcfcopbmoaaGreatDoor

/- Plain facts: what the law FnChordal asks of a graph. -/
namespace Go.Proofs.YtohjfcfcopbmoaaGreatDoor
open Go.RowKit

theorem cls_seen {L : List (List Int)} (hG : GraphP L) : SeenR (ChlP (adjB L)) (ChlP (adjB L)) (clL L) := by
  have hzz := hG.1
  have hM : ∀ i, rowM L i < 65536 := fun i => rowM_lt (by omega) (fun v hv => (hG.2.1 v hv).1) i
  have hN : nearM (rowM L) = adjB L := rfl
  have hA : RelP L.length (nearM (rowM L)) := by rw [hN]; exact adjB_rel hG
  have h1 := bestZ_seen hA hM hzz.2
  have h2 := bestZ_cls hA hM hzz.2
  rw [h2, hN] at h1
  unfold clL
  rw [if_pos hG]
  exact h1

/-- A valid graph has an order of perfect elimination, or a chordless loop, never both. -/
theorem chordal_facts {L : List (List Int)} (hG : GraphP L) : (poV L = true ∧ clB L = false ∧ perfB L (pfL L) = true ∧ 0 < (simpL L).length) ∨ (poV L = false ∧ clB L = true ∧ chlB L (clL L) = true) := by
  have hs := cls_seen hG
  have hchl : ∀ xs, ChlP (adjB L) xs → chlB L xs = true := fun xs h => by
    unfold chlB; rw [loop_back hG h.loop, decide_eq_true h.four, h.none_]; rfl
  have hback : ∀ xs, chlB L xs = true → ChlP (adjB L) xs := fun xs hc => by
    unfold chlB at hc
    rw [Bool.and_eq_true, Bool.and_eq_true, decide_eq_true_iff] at hc
    obtain ⟨_, hL, _, _⟩ := loop_facts hc.1.1
    exact ⟨hL, hc.1.2, hc.2⟩
  by_cases hp : pfB (adjB L) L.length = true
  · left
    have hy := pf_yes hG hp
    have hno := (chordal_iff hG).1 hp
    have e : clL L = [] := by
      rcases hs.1 with e | e
      · exact e
      · have h2 := hchl _ e
        rw [hno] at h2
        cases h2
    refine ⟨hy.2, by unfold clB; rw [e]; rfl, ?_, ?_⟩
    · have hb := pf_by L
      cases hq : perfB L (byFillL L) with
      | true => rw [(hb.1 hq).1]; exact hq
      | false =>
        have h2 := hy.2
        rw [(hb.2 hq).2] at h2
        cases h2
    · exact List.length_pos_iff.2 (simpL_some hG hp)
  · right
    have hn := pf_no (L := L) (fun h => hp h.2)
    have hne : clL L ≠ [] := fun e => by
      apply hp
      refine (chordal_iff hG).2 (fun xs => ?_)
      cases hc : chlB L xs with
      | false => rfl
      | true => exact absurd e (hs.2 xs (hback xs hc)).1
    refine ⟨hn.2, by unfold clB; exact decide_eq_true (List.length_pos_iff.2 hne), ?_⟩
    rcases hs.1 with e | e
    · exact absurd e hne
    · exact hchl _ e
theorem chordal_off {L : List (List Int)} (hG : ¬ GraphP L) : poV L = false ∧ clB L = false :=
  ⟨(pf_no (fun h => hG h.1)).2, by unfold clB clL; rw [if_neg hG]; rfl⟩

end Go.Proofs.YtohjfcfcopbmoaaGreatDoor

/- From what a row's form reads as data to our words: a slice of int64, a slice of such slices, a graph. -/
namespace Go.Proofs.YtohjfcfcopbmoaaGreatDoor
open Go.ChangeShapes Go.WideShapes Go.ChangeAt Go.RowKit Go.Deep

theorem own : ownKnob Tryz.prog.godebug = none := by kernel_rfl
theorem laidOut : laidOutB Tryz.prog = true := by kernel_rfl

section
variable {H : Type} {enc : TypeId × Value → H} {P : Program} {w : World} {base : Nat} {held : Bool}

theorem addr_none {a : Addr} {i : Nat} {v : Value} (h : w.cell? (a.add i) = some v) (hp : i = 0) : a.spot = none := by
  subst hp
  simpa [Addr.add] using World.cell?_spot h

theorem addr_form {a : Addr} (h : a.spot = none) (i : Nat) : a.add i = ⟨a.block, a.off + i, none⟩ := by
  obtain ⟨b, o, s⟩ := a
  simp at h
  subst h
  unfold Addr.add
  split
  · rename_i e; subst e; rfl
  · rfl

end

end Go.Proofs.YtohjfcfcopbmoaaGreatDoor

/- From what a row's form reads as data to our words: a slice of bytes. -/
namespace Go.Proofs.YtohjfcfcopbmoaaGreatDoor
open Go.ChangeShapes Go.WideShapes Go.ChangeAt Go.RowKit Go.Deep

section
variable {H : Type} {enc : TypeId × Value → H} {P : Program} {w : World} {base : Nat} {held : Bool}

theorem u8_wf {n : Int} (h : (Lit.int .u8 n).wf = true) : 0 ≤ n ∧ n < 256 := by
  have h2 := bounds_u8 h
  omega

theorem bytes_of_trod {t e : TypeId} {fuel : Nat} {v : Value} {x : DataW H × List MemPlace} (ht : P.underlying t = some (.slice e)) (he : P.underlying e = some (.int .u8)) (ce : P.cellsOf e = 1)
    (h : DataW.trod enc P w base (fun _ => true) held fuel t [v] = some x) : ∃ a n c, v = .slice a n c ∧ (n ≤ 4096 → BytesAt w w.heap.size (.slice a n c) n) := by
  rcases open_ints ht he ce h with ⟨hcs, _⟩ | ⟨a, l, c, zs, hcs, _, hl, hm, hz, _, hcell, hwz⟩
  · simp at hcs
    exact ⟨none, 0, 0, hcs, fun _ => ⟨by omega, none, 0, rfl, fun h => absurd h (by omega)⟩⟩
  · simp at hcs
    refine ⟨some a, l, c, hcs, fun hl4 => ⟨hl4, some a, c, rfl, fun h0 => ?_⟩⟩
    simp only [if_true] at hz
    have hs := addr_none (hcell 0 (by omega)) rfl
    refine ⟨a.block, a.off, ?_, ?_, fun i hi => ?_⟩
    · obtain ⟨b, o, s⟩ := a
      simp at hs
      subst hs
      rfl
    · have h1 := hcell 0 (by omega)
      rw [addr_form hs] at h1
      exact block_lt_of_cell (a := ⟨a.block, a.off + 0, none⟩) h1
    · have h1 := hcell i (by omega)
      rw [addr_form hs] at h1
      have hmem : zs.getD i 0 ∈ zs := by
        have hi2 : i < zs.length := by omega
        rw [List.getD_eq_getElem?_getD, List.getElem?_eq_getElem hi2]
        exact List.getElem_mem hi2
      have h2 := u8_wf (hwz _ hmem)
      refine ⟨(zs.getD i 0).toNat, by omega, ?_⟩
      rw [h1, Int.toNat_of_nonneg h2.1]

end

theorem Tryz.cellsU8 : Tryz.prog.cellsOf 5 = 1 := by kernel_rfl

set_option maxRecDepth 100000 in
/-- An argument of type []byte, opened. -/
theorem open_bytes {H : Type} {enc : TypeId × Value → H} {W : World} {b0 : Nat} {v : Value} {d : DataW H} {p : List MemPlace} (hv : Value.okWide Tryz.prog W .any b0 22 v) (h : DataW.Trod enc Tryz.prog W 0 (fun _ => true) true 22 v d p) :
    ∃ a n c, v = .slice a n c ∧ (n ≤ 4096 → BytesAt W W.heap.size (.slice a n c) n) := by
  obtain ⟨a0, len, cap, rfl⟩ := okWide_slice Tryz.underlying22 hv
  obtain ⟨fuel, hf⟩ := h
  exact bytes_of_trod Tryz.underlying22 Tryz.underlying5 Tryz.cellsU8 hf

end Go.Proofs.YtohjfcfcopbmoaaGreatDoor

/- What the row's condition on the library's table gives; the witness. -/
namespace Go.Proofs.YtohjfcfcopbmoaaGreatDoor
open Go.ChangeShapes Go.WideShapes Go.ChangeAt Go.RowKit

/-- The list of the rows. -/
abbrev laidL : List (String × DataW Unit) := [("math/bits.deBruijn32tab", Rows.laid_math_bits_deBruijn32tab)]
theorem gTab : Tryz.prog.globalNamed "math/bits.deBruijn32tab" = some 4 := by kernel_rfl
theorem gTabT : (Tryz.prog.globals[4]?).map (·.type) = some 293 := by kernel_rfl
theorem tabA : Tryz.prog.underlying 293 = some (.array 32 5) := by kernel_rfl
theorem tabE : Tryz.prog.underlying 5 = some (.int .u8) := by kernel_rfl
theorem tabC : Tryz.prog.cellsOf 5 = 1 := by kernel_rfl
theorem tabN : Tryz.prog.cellsOf 293 = 32 := by kernel_rfl

theorem door_met (os : Os) (args : Array Value) : laidMetH Tryz.prog laidL ((World.doorLaid Tryz.prog 400 os).forCall (fun _ _ => 0) ⟨#[], args, []⟩).memory :=
  laidMetH_of_parts3 (fuel := 8) (laidMet_of_run' 8 (by kernel_rfl) (by kernel_rfl)) (by kernel_rfl) (by kernel_rfl)

theorem tab_of_laid {W : World} (h : laidMetH Tryz.prog laidL W) : TabAt W := by
  rw [MakeChecks.laidMetH_plain _ _ _ (by kernel_rfl)] at h
  have h2 : laidMet Tryz.prog [("math/bits.deBruijn32tab", Lib.tabData .u8 (Lib.deBruijn32tab.map (fun z : Nat => (z : Int))))] W := h
  have hT := Lib.tabIs_of_head gTab gTabT tabA tabE tabC tabN h2
  intro i hi
  have := hT.cell gTab i (by rw [List.length_map]; exact hi)
  rw [this]
  congr 2
  simp [List.getD_eq_getElem?_getD, hi]

end Go.Proofs.YtohjfcfcopbmoaaGreatDoor

/- Walks: the laws' tests of lists, written by program out of A4's (the same code under other names). -/
namespace Go.Proofs.YtohjfcfcopbmoaaGreatDoor
open Go.RowKit

set_option maxHeartbeats 400000 in
theorem likeInts_any (v v' : Value) (xs ys : List Int) (w : World) (h : RowAt w v xs) (h' : RowAt w v' ys) :
    Calls Tryz.prog 101 #[v, v'] w fun e w' => e = .returned (.bool (decide (xs = ys))) ∧ Drawn w w' := by
  have hl := h.len
  have hl' := h'.len
  unfold maxLen at hl hl'
  by_cases hn : xs.length = ys.length
  · have hne : ((xs.length : Int) != (ys.length : Int)) = false := by rw [hn]; simp
    by_cases h0 : xs.length = 0
    · have hd : decide (xs = ys) = true := by rw [decide_eq_true_iff, List.length_eq_zero_iff.1 h0, List.length_eq_zero_iff.1 (by omega : ys.length = 0)]
      rw [hd]
      obtain ⟨a, c, rfl⟩ := h.zero h0
      obtain ⟨a', c', rfl⟩ := h'.zero (by omega)
      clear hn hne h h' h0 hl hl' hd
      go_enter Tryz.func101, Tryz.ntmps101
      go_wp2
      refine wp_loop_rounds 1 ?_
      rw [rounds_succ]
      go_wp2
      go_ret
      exact ⟨rfl, Drawn.refl _⟩
    · obtain ⟨b, o, c, rfl, l1, l2, hc⟩ := h.pos (by omega)
      obtain ⟨b', o', c', rfl, l1', l2', hc'⟩ := h'.pos (by omega)
      have HC := Lib.hid hc
      have HC' := Lib.hid hc'
      have HN := Lib.hid hn
      have hle : xs.length ≤ ys.length := by omega
      clear hc hc' hn h0
      go_enter Tryz.func101, Tryz.ntmps101
      go_wp2
      go_loopw [5] (fun i wr => ∃ k : Nat, k ≤ xs.length ∧ i = .int .i64 k ∧ (∀ j, j < k → nth xs j = nth ys j) ∧ Drawn w wr) (fun i _ => xs.length - (intOf i).toNat)
      case atStart => exact ⟨0, Nat.zero_le _, rfl, (fun j hj => absurd hj (by omega)), Drawn.refl _⟩
      case round =>
        obtain ⟨k, hk, rfl, he, hd⟩ := hrel
        have HE := Lib.hid he
        clear he
        by_cases hlt : k < xs.length
        · have hlt' : k < ys.length := by omega
          have hck := cell_drawn hd (HC.out k hlt)
          have hck' := cell_drawn hd (HC'.out k hlt')
          by_cases hx : nth xs k = nth ys k
          · have hxb : (nth xs k != nth ys k) = false := by rw [hx]; simp
            have HX := Lib.hid hx
            clear hx
            go_wp2
            go_quiet (fail)
            go_wp2
            go_roundw
            case rel => exact ⟨k + 1, by omega, by go_num, (fun j hj => by rcases Nat.lt_succ_iff_lt_or_eq.1 hj with h | h; exact HE.out j h; rw [h]; exact HX.out), hd.more _⟩
            case measure => simp [intOf]; omega
          · have hxb : (nth xs k != nth ys k) = true := by rw [bne_iff_ne]; exact hx
            have HX := Lib.hid hx
            clear hx
            go_wp2
            go_quiet (fail)
            go_wp2
            go_ret
            exact ⟨ret_bool (by symm; rw [decide_eq_false_iff_not]; intro e; exact HX.out (by rw [e])), hd.more _⟩
        · obtain rfl : k = xs.length := by omega
          go_wp2
          go_ret
          exact ⟨ret_bool (by symm; rw [decide_eq_true_iff]; exact nth_ext HN.out HE.out), hd⟩
  · have hne : ((xs.length : Int) != (ys.length : Int)) = true := by rw [bne_iff_ne]; omega
    have hd : decide (xs = ys) = false := by simp; intro e; exact hn (by rw [e])
    rw [hd]
    obtain ⟨a, c, rfl⟩ := h.slice
    obtain ⟨a', c', rfl⟩ := h'.slice
    go_enter Tryz.func101, Tryz.ntmps101
    go_wp2
    go_ret
    exact ⟨rfl, Drawn.refl _⟩

end Go.Proofs.YtohjfcfcopbmoaaGreatDoor

/- Walks: the draw of the law FnChordal; whether an order is the one asked for. -/
namespace Go.Proofs.YtohjfcfcopbmoaaGreatDoor
open Go.RowKit

set_option maxHeartbeats 1600000 in
theorem drawChordalIn_any (n : Nat) (bv : Value) (w : World) (hb : BytesAt w w.heap.size bv n) : Calls Tryz.prog 24 #[bv] w (GaveC w) := by
  have hb0 : Below w.heap.size w (w.alloc (.cells #[.slice none 0 0] 26)) := (Below.refl _ _).alloc (Nat.le_refl _) _
  have hbx0 : BoxAt (w.alloc (.cells #[.slice none 0 0] 26)) w.heap.size (.slice none 0 0) := BoxAt.new _ _ _
  have hby0 : BytesAt (w.alloc (.cells #[.slice none 0 0] 26)) (w.alloc (.cells #[.slice none 0 0] 26)).heap.size bv n := (hb.keepB hb0 (Nat.le_refl _)).wide (by simp)
  have HB0 := Lib.hid hb0
  have HBX0 := Lib.hid hbx0
  have HBY0 := Lib.hid hby0
  clear hb hb0 hbx0 hby0
  go_enter Tryz.func24, Tryz.ntmps24
  go_wp2_with fail
  refine (l1New_any n bv _ HBY0.out).mono ?_
  rintro e w1 ⟨rfl, hc1, hb1⟩
  have HB1 : Hid (Below w.heap.size w w1) := HB0.out.trans (hb1.mono HB0.out.size)
  have HX1 : Hid (BoxAt w1 w.heap.size (.slice none 0 0)) := HBX0.out.keep hb1
  have HY1 := Lib.hid (HBY0.out.keepB hb1 (Nat.le_refl _))
  rw [size_alloc1] at hc1 HY1
  have HC1 := Lib.hid hc1
  have hs1 := hc1.lt
  clear hc1 hb1 HBY0
  go_wp2_with fail
  refine (l8Draw_any (w.heap.size + 1) n bv w1 HC1.out HY1.out).mono ?_
  rintro e w2 ⟨L, m, a, cap, rfl, hm17, hg2, ht2⟩
  have hx2 := HX1.out.touched ht2 (by omega) (by omega)
  have HX2 := Lib.hid hx2
  have HG2 := Lib.hid hg2
  have HB2 : Hid (Below w.heap.size w w2) := HB1.out.trans ((ht2.below (by omega)).mono (by omega))
  have kx := hx2.1
  have fx := hx2.2
  have HQ := Lib.hid (cell_set_same (.slice a m cap) hx2.1)
  clear hx2 hg2 ht2
  go_wp2
  refine bodyPost_ret (v := .agg #[.slice a m cap]) (by simp [results, Tryz.results24, go_sem, HQ.out]) rfl ⟨L, m, a, cap, rfl, hm17, (HG2.out.setBelow (by simp; omega) _).grid, HB2.out.setCell (Nat.le_refl _) _⟩


set_option maxHeartbeats 1600000 in
theorem w5OrderIs_any (v v1 : Value) (L : List (List Int)) (xs : List Int) (w : World) (h : GridAt w v L) (h1 : RowAt w v1 xs) :
    Calls Tryz.prog 27 #[.agg #[v], v1] w fun e w' => e = .returned (.bool (decide (xs = pfL L))) ∧ Below w.heap.size w w' := by
  obtain ⟨a0, c0, rfl⟩ := h.slice
  obtain ⟨a1, c1, rfl⟩ := h1.slice
  have ha : Below w.heap.size w (w.alloc (.cells #[.slice a0 L.length c0] 26)) := (Below.refl _ _).alloc (Nat.le_refl _) _
  have hk := h.keep ha
  have HR := Lib.hid (h1.keep ha)
  have HA := Lib.hid ha
  clear ha h h1
  go_enter Tryz.func27, Tryz.ntmps27
  go_wp2_with fail
  refine (specPerfectOrder_any _ L _ hk).mono ?_
  rintro e w1 ⟨m1, a2, c2, rfl, ho1, hb1⟩
  have HR1 := Lib.hid (HR.out.keep hb1)
  have HB1 : Hid (Below w.heap.size w w1) := HA.out.trans (hb1.mono HA.out.size)
  have HO1 := Lib.hid ho1.row
  clear hb1 ho1 hk
  go_wp2_with fail
  refine (likeInts_any _ _ xs (pfL L) _ HR1.out HO1.out).mono ?_
  rintro e w2 ⟨rfl, hd2⟩
  have HB2 : Hid (Below w.heap.size w w2) := HB1.out.trans (hd2.below _)
  clear hd2
  go_wp2
  go_ret
  exact ⟨rfl, HB2.out⟩

end Go.Proofs.YtohjfcfcopbmoaaGreatDoor
