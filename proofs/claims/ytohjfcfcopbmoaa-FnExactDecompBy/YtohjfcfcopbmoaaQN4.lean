/- The texts N4, N5, N8, N9, joined. -/
import Derived.Test.YtohjfcfcopbmoaaQM9
import Derived.StillTailTactics
import Derived.Test.YtohjfcfcopbmoaaM6
import Derived.Laws.CopyOwn
import Derived.Deep.DeepCutAuto
import Derived.ArgAppend

/- Walks: an edge cut. -/
namespace Go.Proofs.Ytohjfcfcopbmoaa
open Go.RowKit

/-- The boxes of a function at work on a copy: its graph's, its result's, that of the copy, and the copy. -/
structure WorkL (w0 : World) (v : Value) (bo B g n cg : Nat) (L : List (List Int)) (w : World) : Prop where
  two : Two w0 v w
  box : BoxT 37 w bo (.slice (some ⟨g, 0, none⟩) n cg)
  own : OwnGrid 2 33 w B (.slice (some ⟨g, 0, none⟩) n cg) L
  low : w0.heap.size + 1 < B
theorem WorkL.keep {w0 : World} {v : Value} {bo B g n cg : Nat} {L : List (List Int)} {w w' : World} (h : WorkL w0 v bo B g n cg L w) (hb : Below w.heap.size w w') : WorkL w0 v bo B g n cg L w' :=
  ⟨h.two.keep hb, h.box.keep hb, h.own.keep hb, h.low⟩
theorem WorkL.ne {w0 : World} {v : Value} {bo B g n cg : Nat} {L : List (List Int)} {w : World} (h : WorkL w0 v bo B g n cg L w) : bo ≠ g := by
  obtain ⟨cur, hcur⟩ := h.own.blkT
  intro e
  rw [← e] at hcur
  have hbb : w.heap[bo]? = _ := h.box
  rw [hcur] at hbb
  simp at hbb
theorem WorkL.at {w0 : World} {v : Value} {bo B g n cg : Nat} {L : List (List Int)} {w : World} (h : WorkL w0 v bo B g n cg L w) {i : Nat} (hi : i < L.length) :
    B ≤ g ∧ g < w.heap.size ∧ ∃ a m c, w.cell? ⟨g, i, none⟩ = some (.slice a m c) ∧ w.frozen? ⟨g, i, none⟩ = false ∧ OwnRow 2 w B (.slice a m c) (nthR L i) := by
  obtain ⟨g', cap', eg, hB, hgs, hcell⟩ := h.own.place (by omega)
  simp only [Value.slice.injEq, Option.some.injEq, Addr.mk.injEq, and_true] at eg
  obtain ⟨rfl, _, _⟩ := eg
  exact ⟨hB, hgs, hcell i hi⟩
theorem WorkL.set {w0 : World} {v : Value} {bo B g n cg : Nat} {L : List (List Int)} {w w' : World} (h : WorkL w0 v bo B g n cg L w) (hb : Below w.heap.size w w') {rv : Value} {xs : List Int} (hr : OwnRow 2 w' w.heap.size rv xs) {i : Nat} (hi : i < L.length) :
    WorkL w0 v bo B g n cg (L.set i xs) (w'.setCell ⟨g, i, none⟩ rv) := by
  obtain ⟨hB, hgs, _⟩ := h.at hi
  have hlow := h.low
  have h1 := h.keep hb
  exact ⟨⟨h1.two.arg.setOther (by simp; omega) _, h1.two.res.setOther (by simp; omega) _, h1.two.bel.setCell (by simp; omega) _⟩, h1.box.setOther h.ne _, h.own.setRow (by decide) hb hi (hr.mono (by omega)) (fun k hk => Or.inl (hr.lt k hk).1), hlow⟩

end Go.Proofs.Ytohjfcfcopbmoaa

/- Walks: an edge cut: the model's and the program's. -/
namespace Go.Proofs.Ytohjfcfcopbmoaa
open Go.RowKit

theorem nthR_set_ne {L : List (List Int)} {i j : Nat} (xs : List Int) (h : i ≠ j) : nthR (L.set i xs) j = nthR L j := by
  unfold nthR
  rw [List.getD_eq_getElem?_getD, List.getD_eq_getElem?_getD, List.getElem?_set_ne h]
theorem WorkL.done {w0 : World} {v : Value} {bo B g n cg : Nat} {L : List (List Int)} {w : World} (h : WorkL w0 v bo B g n cg L w) {ok : Bool} (hok : ok = true) : GaveGB w0 L ok (.returned (.tuple #[.agg #[.slice (some ⟨g, 0, none⟩) n cg], .bool true])) (w.setCell ⟨w0.heap.size + 1, 0, none⟩ (.slice (some ⟨g, 0, none⟩) n cg)) :=
  h.two.yes h.own h.low hok

end Go.Proofs.Ytohjfcfcopbmoaa

/- Walks: an edge added. -/
namespace Go.Proofs.Ytohjfcfcopbmoaa
open Go.RowKit

theorem listM_rise (M : Nat) : ∀ i j, i < j → j < (listM M).length → nth (listM M) i < nth (listM M) j := by
  intro i j hij hj
  have := List.pairwise_iff_getElem.1 (listM_set M).pairwise i j (by omega) hj hij
  rwa [nth_eq (by omega), nth_eq hj]
theorem Two.keepB {w0 : World} {v : Value} {w w' : World} {B : Nat} (h : Two w0 v w) (hb : Below B w w') (hB : w0.heap.size + 1 < B) : Two w0 v w' :=
  ⟨h.arg.keepB hb (by omega), h.res.keepB hb hB, h.bel.trans (hb.mono (by omega))⟩

end Go.Proofs.Ytohjfcfcopbmoaa

/- Walks: a vertex added: the model's. -/
namespace Go.Proofs.Ytohjfcfcopbmoaa
open Go.RowKit

theorem hasB_nil (z : Int) : hasB [] z = false := by cases h : hasB [] z with | false => rfl | true => (rw [hasB_iff] at h; obtain ⟨q, hq, _⟩ := h; simp at hq)
end Go.Proofs.Ytohjfcfcopbmoaa
