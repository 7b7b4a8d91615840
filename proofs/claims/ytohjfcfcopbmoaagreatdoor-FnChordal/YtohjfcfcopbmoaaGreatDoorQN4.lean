/- The texts N4, N5, N8, N9, P1, EL4, EL5, joined. -/
import Derived.Test.YtohjfcfcopbmoaaGreatDoorQM9
import Derived.StillTailTactics
import Derived.Test.YtohjfcfcopbmoaaGreatDoorQM1
import Derived.Laws.CopyOwn
import Derived.Deep.DeepCutAuto
import Derived.ArgAppend
import Derived.Deep.AppendLies
import Derived.Test.YtohjfcfcopbmoaaGreatDoorQEL1
import Derived.Test.YtohjfcfcopbmoaaGreatDoorQF6
import Derived.Test.YtohjfcfcopbmoaaGreatDoorQLater
import Derived.Test.YtohjfcfcopbmoaaGreatDoorQK2
import Derived.Deep.RegionHeld3

/- Walks: an edge cut. -/
namespace Go.Proofs.YtohjfcfcopbmoaaGreatDoor
open Go.RowKit

/-- The boxes of a function at work on a copy: its graph's, its result's, that of the copy, and the copy. -/
structure WorkL (w0 : World) (v : Value) (bo B g n cg : Nat) (L : List (List Int)) (w : World) : Prop where
  two : Two w0 v w
  box : BoxT 26 w bo (.slice (some ⟨g, 0, none⟩) n cg)
  own : OwnGrid 2 33 w B (.slice (some ⟨g, 0, none⟩) n cg) L
  low : w0.heap.size + 1 < B
theorem WorkL.keep {w0 : World} {v : Value} {bo B g n cg : Nat} {L : List (List Int)} {w w' : World} (h : WorkL w0 v bo B g n cg L w) (hb : Below w.heap.size w w') : WorkL w0 v bo B g n cg L w' :=
  ⟨h.two.keep hb, h.box.keep hb, h.own.keep hb, h.low⟩
theorem WorkL.ne {w0 : World} {v : Value} {bo B g n cg : Nat} {L : List (List Int)} {w : World} (h : WorkL w0 v bo B g n cg L w) : bo ≠ g := by
  obtain ⟨cur, hcur⟩ := h.own.blkT
  intro e
  rw [← e] at hcur
  have hbb : w.heap[bo]? = _ := h.box
  rw [hcur] at hbb
  simp at hbb
theorem WorkL.at {w0 : World} {v : Value} {bo B g n cg : Nat} {L : List (List Int)} {w : World} (h : WorkL w0 v bo B g n cg L w) {i : Nat} (hi : i < L.length) :
    B ≤ g ∧ g < w.heap.size ∧ ∃ a m c, w.cell? ⟨g, i, none⟩ = some (.slice a m c) ∧ w.frozen? ⟨g, i, none⟩ = false ∧ OwnRow 2 w B (.slice a m c) (nthR L i) := by
  obtain ⟨g', cap', eg, hB, hgs, hcell⟩ := h.own.place (by omega)
  simp only [Value.slice.injEq, Option.some.injEq, Addr.mk.injEq, and_true] at eg
  obtain ⟨rfl, _, _⟩ := eg
  exact ⟨hB, hgs, hcell i hi⟩
theorem WorkL.set {w0 : World} {v : Value} {bo B g n cg : Nat} {L : List (List Int)} {w w' : World} (h : WorkL w0 v bo B g n cg L w) (hb : Below w.heap.size w w') {rv : Value} {xs : List Int} (hr : OwnRow 2 w' w.heap.size rv xs) {i : Nat} (hi : i < L.length) :
    WorkL w0 v bo B g n cg (L.set i xs) (w'.setCell ⟨g, i, none⟩ rv) := by
  obtain ⟨hB, hgs, _⟩ := h.at hi
  have hlow := h.low
  have h1 := h.keep hb
  exact ⟨⟨h1.two.arg.setOther (by simp; omega) _, h1.two.res.setOther (by simp; omega) _, h1.two.bel.setCell (by simp; omega) _⟩, h1.box.setOther h.ne _, h.own.setRow (by decide) hb hi (hr.mono (by omega)) (fun k hk => Or.inl (hr.lt k hk).1), hlow⟩

end Go.Proofs.YtohjfcfcopbmoaaGreatDoor

/- Walks: an edge cut: the model's and the program's. -/
namespace Go.Proofs.YtohjfcfcopbmoaaGreatDoor
open Go.RowKit

/-- A copy laid and boxed. -/
theorem WorkL.start {w0 w w2 : World} {v : Value} {a2 : Option Addr} {n2 c2 : Nat} {L : List (List Int)} (ht : Two w0 v w) (hb : Below w.heap.size w w2) (ho : OwnGrid 2 33 w2 w.heap.size (.slice a2 n2 c2) L) (hl : 0 < L.length) :
    n2 = L.length ∧ ∃ g, a2 = some ⟨g, 0, none⟩ ∧ WorkL w0 v w2.heap.size w.heap.size g L.length c2 L (w2.alloc (.cells #[.slice (some ⟨g, 0, none⟩) L.length c2] 26)) := by
  obtain ⟨g, cap, eg, hB, hgs, _⟩ := ho.place hl
  simp only [Value.slice.injEq] at eg
  obtain ⟨rfl, rfl, rfl⟩ := eg
  have hbw : Below w2.heap.size w2 (w2.alloc (.cells #[.slice (some ⟨g, 0, none⟩) L.length c2] 26)) := (Below.refl _ _).alloc (Nat.le_refl _) _
  exact ⟨rfl, g, rfl, (ht.keep hb).keep hbw, BoxT.new _ _ _, ho.keep hbw, ht.lt⟩
theorem WorkL.done {w0 : World} {v : Value} {bo B g n cg : Nat} {L : List (List Int)} {w : World} (h : WorkL w0 v bo B g n cg L w) {ok : Bool} (hok : ok = true) : GaveGB w0 L ok (.returned (.tuple #[.agg #[.slice (some ⟨g, 0, none⟩) n cg], .bool true])) (w.setCell ⟨w0.heap.size + 1, 0, none⟩ (.slice (some ⟨g, 0, none⟩) n cg)) :=
  h.two.yes h.own h.low hok

end Go.Proofs.YtohjfcfcopbmoaaGreatDoor

/- Walks: an edge added. -/
namespace Go.Proofs.YtohjfcfcopbmoaaGreatDoor
open Go.RowKit

theorem listM_rise (M : Nat) : ∀ i j, i < j → j < (listM M).length → nth (listM M) i < nth (listM M) j := by
  intro i j hij hj
  have := List.pairwise_iff_getElem.1 (listM_set M).pairwise i j (by omega) hj hij
  rwa [nth_eq (by omega), nth_eq hj]
theorem Two.keepB {w0 : World} {v : Value} {w w' : World} {B : Nat} (h : Two w0 v w) (hb : Below B w w') (hB : w0.heap.size + 1 < B) : Two w0 v w' :=
  ⟨h.arg.keepB hb (by omega), h.res.keepB hb hB, h.bel.trans (hb.mono (by omega))⟩

end Go.Proofs.YtohjfcfcopbmoaaGreatDoor

/- Walks: a vertex added: the model's. -/
namespace Go.Proofs.YtohjfcfcopbmoaaGreatDoor
open Go.RowKit

theorem hasB_nil (z : Int) : hasB [] z = false := by cases h : hasB [] z with | false => rfl | true => (rw [hasB_iff] at h; obtain ⟨q, hq, _⟩ := h; simp at hq)
end Go.Proofs.YtohjfcfcopbmoaaGreatDoor

/- Walks: a vertex added: the program's. -/
namespace Go.Proofs.YtohjfcfcopbmoaaGreatDoor
open Go.RowKit

/-- A row laid, its box laid, the copy grown by it, put back: the copy has one row more. -/
theorem WorkL.grow {w0 w w2 w7 : World} {v : Value} {bo B g n cg g7 cap7 : Nat} {L : List (List Int)} {xs : List Int} {rv : Value} {R : Nat → Value} (h : WorkL w0 v bo B g n cg L w) (hbo2 : w0.heap.size + 1 < bo) (hn : L.length = n) (hl : n ≤ 1000) (hb : Below w.heap.size w w2) (hr : OwnRow 2 w2 w.heap.size rv xs)
    (hR : w.ownsRow B 33 1 (.slice (some ⟨g, 0, none⟩) n cg) n ((List.range n).map R)) (hRr : ∀ i, i < n → OwnRow 2 w B (R i) (nthR L i)) (hRd : ∀ i j q, i < j → j < n → (R i).ownBlock = some q → (R j).ownBlock ≠ some q)
    (hown : w7.ownsRow B 33 1 (.slice (some ⟨g7, 0, none⟩) (n + 1) cap7) (n + 1) ((List.range n).map R ++ [rv])) (hgrow : (w2.alloc (.cells #[rv] 33)).grownBy w7 (Value.slice (some ⟨g, 0, none⟩) n cg).ownBlock) :
    BoxT 26 w7 bo (.slice (some ⟨g, 0, none⟩) n cg) ∧ WorkL w0 v bo B g7 (n + 1) cap7 (L ++ [xs]) (w7.setCell ⟨bo, 0, none⟩ (.slice (some ⟨g7, 0, none⟩) (n + 1) cap7)) := by
  subst hn
  have hBs : B ≤ w.heap.size := by
    rcases hR.2 with ⟨e, _⟩ | ⟨g', cap', cur', e, hg, hh, _⟩
    · cases e
    · obtain ⟨hlt, _⟩ := Array.getElem?_eq_some_iff.1 hh
      omega
  have hlow := h.low
  have hW : Below w.heap.size w (w2.alloc (.cells #[rv] 33)) := hb.alloc hb.size _
  have hbw : Below B w w7 := (hW.mono hBs).grown hgrow (by rw [size_alloc1]; have := hb.size; omega) (fun j hj => (hR.lt j hj).1)
  have hog : OwnGrid 2 33 w7 B (.slice (some ⟨g7, 0, none⟩) (L.length + 1) cap7) (L ++ [xs]) := by
    refine OwnGrid.snoc (w0 := w) (w := w2.alloc (.cells #[rv] 33)) (rv := rv) (n := L.length) (v := .slice (some ⟨g, 0, none⟩) L.length cg) (by decide) hW hBs ?_ rfl (by unfold maxLen; omega) R hR hRr hRd hown hgrow
    exact hr.keep ((Below.refl _ _).alloc (Nat.le_refl _) _)
  have hbt : BoxT 26 w7 bo (.slice (some ⟨g, 0, none⟩) L.length cg) := by
    unfold BoxT
    have hlt := h.box.lt
    rw [hgrow.block bo (by rw [size_alloc1]; have := hb.size; omega) (fun e => h.ne (by simpa [Value.ownBlock] using e)), hW.block bo hlt]
    exact h.box
  have t7 := h.two.keepB hbw hlow
  exact ⟨hbt, ⟨t7.arg.setOther (by simp; omega) _, t7.res.setOther (by simp; omega) _, t7.bel.setCell (by simp; omega) _⟩, hbt.set _, hog.setType hbt (by decide) (by decide) 0 _, hlow⟩

end Go.Proofs.YtohjfcfcopbmoaaGreatDoor

/- Walks: of each vertex its later neighbours, of the model. -/
namespace Go.Proofs.YtohjfcfcopbmoaaGreatDoor
open Go.RowKit

/-- At work: the filled graph is done, who has gone, the rows so far. -/
structure LaterW (wF : World) (gb gr n : Nat) (R : Nat → Nat → Bool) (p : Nat → Bool) (w : World) : Prop where
  gone : w.rowIs gb 4 n (fun i => .bool (p i))
  rows : OwnGrid 2 33 w gr (.slice (some ⟨gr, 0, none⟩) n n) (adjL n R)
  bel : Below wF.heap.size wF w
theorem LaterW.keep {wF : World} {gb gr n : Nat} {R : Nat → Nat → Bool} {p : Nat → Bool} {w w' : World} (h : LaterW wF gb gr n R p w) (hb : Below w.heap.size w w') : LaterW wF gb gr n R p w' :=
  ⟨rowIs_below h.gone hb, h.rows.keep hb, h.bel.trans (hb.mono h.bel.size)⟩
theorem LaterW.flag {wF : World} {gb gr n : Nat} {R : Nat → Nat → Bool} {p : Nat → Bool} {w : World} (h : LaterW wF gb gr n R p w) (v : Nat) (hg : gb < gr) (hF : wF.heap.size ≤ gb) : LaterW wF gb gr n R (fun i => if i = v then true else p i) (w.setCell ⟨gb, v, none⟩ (.bool true)) := by
  refine ⟨(h.gone.set v (.bool true)).congr (fun i _ => ?_), h.rows.setBelow hg _, h.bel.setCell hF _⟩
  by_cases e : i = v
  · rw [if_pos e, if_pos e]
  · rw [if_neg e, if_neg e]
theorem LaterW.congr {wF : World} {gb gr n : Nat} {R R' : Nat → Nat → Bool} {p p' : Nat → Bool} {w : World} (h : LaterW wF gb gr n R p w) (e : adjL n R = adjL n R') (e2 : ∀ i, i < n → p i = p' i) : LaterW wF gb gr n R' p' w :=
  ⟨h.gone.congr (fun i hi => by rw [e2 i hi]), by rw [← e]; exact h.rows, h.bel⟩

end Go.Proofs.YtohjfcfcopbmoaaGreatDoor

/- Walks: FillOf, LaterOf, OrderWidth, FillMany, PerfectIn of the model. -/
namespace Go.Proofs.YtohjfcfcopbmoaaGreatDoor
open Go.RowKit

/-- What they answer. -/
def fillL (L : List (List Int)) (xs : List Int) : List (List Int) := if orderB L xs = true then adjL L.length (fillX (adjB L) xs) else []
def moreI (L : List (List Int)) (xs : List Int) : Int := if orderB L xs = true then manyN (adjL L.length (fillX (adjB L) xs)) - manyN L else -1
def perfB (L : List (List Int)) (xs : List Int) : Bool := moreI L xs == 0
theorem fillL_no {L : List (List Int)} {xs : List Int} (h : orderB L xs = false) : fillL L xs = [] := by unfold fillL; rw [h]; rfl
theorem fillL_small (L : List (List Int)) (xs : List Int) : Small (fillL L xs) := by
  unfold fillL
  split
  · rename_i h; exact adjL_small _ _ (orderB_yes h).1.1.2
  · exact ⟨by simp, fun i hi => absurd hi (by simp)⟩
theorem many_le {L : List (List Int)} : 0 ≤ manyN L ∧ manyN L ≤ 1048576 := by
  have := (edgesL_small L).1
  unfold manyN
  omega

set_option maxHeartbeats 1600000 in
theorem specFillOf_any (v v1 : Value) (L : List (List Int)) (xs : List Int) (w : World) (h : GridAt w v L) (h1 : RowAt w v1 xs) : Calls Tryz.prog 182 #[.agg #[v], v1] w (GaveGB w (fillL L xs) (orderB L xs)) := by
  obtain ⟨a0, c0, rfl⟩ := h.slice
  have T0 := Lib.hid (Two.start w (.slice a0 L.length c0))
  have HGK : Hid (∀ w', Below w.heap.size w w' → GridAt w' (.slice a0 L.length c0) L) := fun w' hb => h.keep hb
  have HRK : Hid (∀ w', Below w.heap.size w w' → RowAt w' v1 xs) := fun w' hb => h1.keep hb
  clear h h1
  go_enter Tryz.func182, Tryz.ntmps182
  go_wp2_with fail
  refine (specOrderOk_any _ _ L xs _ (HGK.out _ T0.out.bel) (HRK.out _ T0.out.bel)).mono ?_
  rintro e w1 ⟨rfl, hb1⟩
  have T1 := Lib.hid (T0.out.keep hb1)
  clear hb1 T0
  by_cases hok : orderB L xs = true
  · obtain ⟨hG, hO, _, _⟩ := orderB_yes hok
    have HI := Lib.hid hok
    have HF : Hid (fillL L xs = adjL L.length (fillX (adjB L) xs)) := by show _ = _; unfold fillL; rw [hok]; rfl
    have HG := Lib.hid hG
    have HO := Lib.hid hO
    have kb1 := T1.out.arg.1
    rw [hok]
    clear hok hG hO
    go_wp2_with fail
    refine (l7Fill_any _ _ L xs _ (HGK.out _ T1.out.bel) (HRK.out _ T1.out.bel) HG.out HO.out).mono ?_
    rintro e w2 ⟨n2, a2, c2, rfl, ho2, hb2⟩
    have T2 := Lib.hid (T1.out.keep hb2)
    have HO2 := Lib.hid ho2
    have kr := T2.out.res.1
    have kf := T2.out.res.2
    clear ho2 hb2 kb1
    go_wp2
    refine bodyPost_ret (v := .tuple #[.agg #[.slice a2 n2 c2], .bool true]) (by simp [results, Tryz.results182, go_sem, T2.out.q0]) rfl (T2.out.yes (B := w1.heap.size) ?_ T1.out.lt HI.out)
    rw [HF.out]; exact HO2.out
  · have hok' : orderB L xs = false := by simpa using hok
    have HI := Lib.hid hok'
    have kr := T1.out.res.1
    have kf := T1.out.res.2
    rw [hok']
    clear hok hok'
    go_wp2
    exact bodyPost_ret (v := .tuple #[.agg #[.slice none 0 0], .bool false]) (by simp [results, Tryz.results182, go_sem, T1.out.q0]) rfl (T1.out.no (fillL_no HI.out) HI.out)

set_option maxHeartbeats 1600000 in
set_option maxRecDepth 100000 in
theorem specFillMany_any (v v1 : Value) (L : List (List Int)) (xs : List Int) (w : World) (h : GridAt w v L) (h1 : RowAt w v1 xs) : Calls Tryz.prog 105 #[.agg #[v], v1] w fun e w' => e = .returned (.int .i64 (moreI L xs)) ∧ Below w.heap.size w w' := by
  obtain ⟨a0, c0, rfl⟩ := h.slice
  have hb0 : Below w.heap.size w (w.alloc (.cells #[.slice a0 L.length c0] 26)) := (Below.refl _ _).alloc (Nat.le_refl _) _
  have hx0 : BoxAt (w.alloc (.cells #[.slice a0 L.length c0] 26)) w.heap.size (.slice a0 L.length c0) := BoxAt.new _ _ _
  have HGK : Hid (∀ w', Below w.heap.size w w' → GridAt w' (.slice a0 L.length c0) L) := fun w' hb => h.keep hb
  have HRK : Hid (∀ w', Below w.heap.size w w' → RowAt w' v1 xs) := fun w' hb => h1.keep hb
  have HB0 := Lib.hid hb0
  have HX0 := Lib.hid hx0
  clear h h1 hb0 hx0
  go_enter Tryz.func105, Tryz.ntmps105
  go_wp2_with fail
  refine (specOrderOk_any _ _ L xs _ (HGK.out _ HB0.out) (HRK.out _ HB0.out)).mono ?_
  rintro e w1 ⟨rfl, hb1⟩
  have HB1 : Hid (Below w.heap.size w w1) := HB0.out.trans (hb1.mono HB0.out.size)
  have HX1 := Lib.hid (HX0.out.keep hb1)
  clear hb1
  by_cases hok : orderB L xs = true
  · obtain ⟨hG, hO, _, _⟩ := orderB_yes hok
    have hz := hG.1
    have HF : Hid (moreI L xs = manyN (adjL L.length (fillX (adjB L) xs)) - manyN L) := by show _ = _; unfold moreI; rw [hok]; rfl
    have HG := Lib.hid hG
    have HO := Lib.hid hO
    have m1 := many_le (L := L)
    have m2 := many_le (L := adjL L.length (fillX (adjB L) xs))
    obtain ⟨q1, hq1⟩ : ∃ q1, q1 = manyN L := ⟨_, rfl⟩
    obtain ⟨q2, hq2⟩ : ∃ q2, q2 = manyN (adjL L.length (fillX (adjB L) xs)) := ⟨_, rfl⟩
    rw [← hq1] at m1 HF
    rw [← hq2] at m2 HF
    have HQ1 := Lib.hid hq1
    have HQ2 := Lib.hid hq2
    have kb1 := HX1.out.1
    have HKB : Hid (∀ W, Below w1.heap.size w1 W → W.cell? ⟨w.heap.size, 0, none⟩ = some (.slice a0 L.length c0)) := fun W hb => (HX1.out.keep hb).1
    have HW : Hid (∀ W, Below w1.heap.size w1 W → Below w.heap.size w W) := fun W hb => HB1.out.trans (hb.mono HB1.out.size)
    have HC : Hid (Below w1.heap.size w1 w1.drew) := (Below.refl _ _).drew
    have kc := HKB.out _ HC.out
    rw [hok]
    clear hok hG hO hq1 hq2
    go_wp2_with fail
    go_region_law (first
      | (go_simp; go_at_call 193; refine (l7Fill_any _ _ L xs _ (HGK.out _ (HW.out _ HC.out)) (HRK.out _ (HW.out _ HC.out)) HG.out HO.out).mono ?_; rintro e w2 ⟨n2, a2, c2, rfl, ho2, hb2⟩; have HD : Hid (Below w1.heap.size w1 w2) := HC.out.trans (hb2.mono HC.out.size); clear HC kc; have HC := Lib.hid HD.out; clear HD; have kc := HKB.out _ HC.out; have HF2 := Lib.hid ho2.grid; clear ho2 hb2)
      | (go_simp; go_at_call 192; (with_reducible refine (specManyEdges_any _ (adjL L.length (fillX (adjB L) xs)) _ HF2.out).mono ?_); rintro e w3 ⟨rfl, hb3⟩; rw [← HQ2.out]; have HD : Hid (Below w1.heap.size w1 w3) := HC.out.trans (hb3.mono HC.out.size); clear HC kc HF2; have HC := Lib.hid HD.out; clear HD; have kc := HKB.out _ HC.out; clear hb3)
      | (go_simp; go_at_call 192; (with_reducible refine (specManyEdges_any _ L _ (HGK.out _ (HW.out _ HC.out))).mono ?_); rintro e w4 ⟨rfl, hb4⟩; rw [← HQ1.out]; have HD : Hid (Below w1.heap.size w1 w4) := HC.out.trans (hb4.mono HC.out.size); clear HC kc; have HC := Lib.hid HD.out; clear HD; have kc := HKB.out _ HC.out; try (have HF3 := Lib.hid (HF2.out.keep hb4); clear HF2; have HF2 := Lib.hid HF3.out; clear HF3); clear hb4))
    all_goals (
      clear kc
      go_wp2
      go_ret
      exact ⟨ret_int (by rw [HF.out]; exact IntWalk.i64_in _ (by omega)), HW.out _ HC.out⟩)
  · have hok' : orderB L xs = false := by simpa using hok
    have HI : Hid (moreI L xs = -1) := by show _ = _; unfold moreI; rw [hok']; rfl
    rw [hok']
    clear hok hok'
    go_wp2
    go_ret
    exact ⟨ret_int HI.out.symm, HB1.out⟩

theorem specPerfectIn_any (v v1 : Value) (L : List (List Int)) (xs : List Int) (w : World) (h : GridAt w v L) (h1 : RowAt w v1 xs) : Calls Tryz.prog 30 #[.agg #[v], v1] w fun e w' => e = .returned (.bool (perfB L xs)) ∧ Below w.heap.size w w' := by
  obtain ⟨a0, c0, rfl⟩ := h.slice
  have HB0 : Hid (Below w.heap.size w (w.alloc (.cells #[.slice a0 L.length c0] 26))) := (Below.refl _ _).alloc (Nat.le_refl _) _
  have hg := h.keep HB0.out
  have hr := h1.keep HB0.out
  clear h h1
  go_enter Tryz.func30, Tryz.ntmps30
  go_wp2_with fail
  refine (specFillMany_any _ _ L xs _ hg hr).mono ?_
  rintro e w1 ⟨rfl, hb1⟩
  have HB1 : Hid (Below w.heap.size w w1) := HB0.out.trans (hb1.mono HB0.out.size)
  have HP : Hid (perfB L xs = (moreI L xs == 0)) := rfl
  clear hb1 hg hr
  go_wp2
  go_ret
  exact ⟨ret_bool HP.out.symm, HB1.out⟩

end Go.Proofs.YtohjfcfcopbmoaaGreatDoor
