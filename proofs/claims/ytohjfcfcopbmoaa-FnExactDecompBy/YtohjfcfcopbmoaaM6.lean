/- Walks: the subgraph of a set, the graph under other names. -/
import Derived.Test.YtohjfcfcopbmoaaQM1
import Derived.Test.YtohjfcfcopbmoaaQLater
import Derived.Test.YtohjfcfcopbmoaaQC1

namespace Go.Proofs.Ytohjfcfcopbmoaa
open Go.RowKit

/-- The boxes of a function of one graph: its graph's and its result's. -/
structure Two (w0 : World) (v : Value) (w : World) : Prop where
  arg : BoxAt w w0.heap.size v
  res : BoxAt w (w0.heap.size + 1) (.slice none 0 0)
  bel : Below w0.heap.size w0 w
theorem Two.keep {w0 : World} {v : Value} {w w' : World} (h : Two w0 v w) (hb : Below w.heap.size w w') : Two w0 v w' :=
  ⟨h.arg.keep hb, h.res.keep hb, h.bel.trans (hb.mono h.bel.size)⟩
theorem Two.put {T : TypeId} {w0 : World} {v : Value} {w w' : World} {o : Obj} {n : Nat} {M : Nat → Nat} (h : Two w0 v w) (hp : NetPut T (w.alloc o) w' w.heap.size n M) : Two w0 v w' := h.keep hp.since
theorem Two.lt {w0 : World} {v : Value} {w : World} (h : Two w0 v w) : w0.heap.size + 1 < w.heap.size := h.res.lt
theorem Two.q0 {w0 : World} {v : Value} {w : World} (h : Two w0 v w) (u : Value) : (w.setCell ⟨w0.heap.size + 1, 0, none⟩ u).cell? ⟨w0.heap.size + 1, 0, none⟩ = some u := cell_set_same _ h.res.1
theorem Two.yes {w0 : World} {v : Value} {w : World} (h : Two w0 v w) {R : List (List Int)} {B m c : Nat} {a : Option Addr} {ok : Bool} (ho : OwnGrid 2 33 w B (.slice a m c) R) (hB : w0.heap.size + 1 < B) (hok : ok = true) :
    GaveGB w0 R ok (.returned (.tuple #[.agg #[.slice a m c], .bool true])) (w.setCell ⟨w0.heap.size + 1, 0, none⟩ (.slice a m c)) :=
  ⟨m, a, c, by rw [hok], (ho.setBelow hB _).mono (by omega), h.bel.setCell (by simp) _⟩
theorem Two.no {w0 : World} {v : Value} {w : World} (h : Two w0 v w) {R : List (List Int)} {ok : Bool} (hR : R = []) (hok : ok = false) :
    GaveGB w0 R ok (.returned (.tuple #[.agg #[.slice none 0 0], .bool false])) (w.setCell ⟨w0.heap.size + 1, 0, none⟩ (.slice none 0 0)) := by
  rw [hR, hok]
  exact GaveGB.no (h.bel.setCell (by exact Nat.le_succ _) _)

theorem orderB_yes {L : List (List Int)} {xs : List Int} (h : orderB L xs = true) : GraphP L ∧ OrdP xs L.length ∧ 0 < xs.length ∧ xs.length ≤ 16 := by
  unfold orderB at h
  simp at h
  have := h.1.1
  have := h.2.1
  exact ⟨h.1, h.2, by omega, by omega⟩
end Go.Proofs.Ytohjfcfcopbmoaa
