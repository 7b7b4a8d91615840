/- Walks: the model's graph of a list of edges. -/
import Derived.Test.YtohjfcfcopbmoaaQF6
import Derived.StillTailTactics

namespace Go.Proofs.Ytohjfcfcopbmoaa
open Go.RowKit

/-- A box of type T. -/
def BoxT (T : TypeId) (w : World) (b : Nat) (v : Value) : Prop := w.heap[b]? = some (.cells #[v] T (0, 0))
theorem BoxT.lt {T : TypeId} {w : World} {b : Nat} {v : Value} (h : BoxT T w b v) : b < w.heap.size := (Array.getElem?_eq_some_iff.1 h).1
theorem BoxT.box {T : TypeId} {w : World} {b : Nat} {v : Value} (h : BoxT T w b v) : BoxAt w b v := ⟨by rw [cell_of_row w b 0 _ _ _ h]; rfl, frozen_of_row w b 0 _ T h⟩
theorem BoxT.keepB {T : TypeId} {w w' : World} {B b : Nat} {v : Value} (h : BoxT T w b v) (hb : Below B w w') (hlt : b < B) : BoxT T w' b v := by unfold BoxT; rw [hb.block b hlt]; exact h
theorem BoxT.keep {T : TypeId} {w w' : World} {b : Nat} {v : Value} (h : BoxT T w b v) (hb : Below w.heap.size w w') : BoxT T w' b v := h.keepB hb h.lt
theorem BoxT.set {T : TypeId} {w : World} {b : Nat} {v : Value} (h : BoxT T w b v) (u : Value) : BoxT T (w.setCell ⟨b, 0, none⟩ u) b u := by
  have := heap_setCell_same w b 0 #[v] T u h
  exact this
theorem BoxT.setOther {T : TypeId} {w : World} {b : Nat} {v : Value} (h : BoxT T w b v) {a : Addr} (ha : b ≠ a.block) (u : Value) : BoxT T (w.setCell a u) b v := by unfold BoxT; rw [heap_setCell_other _ _ _ _ ha]; exact h
theorem BoxT.new (w : World) (v : Value) (t : TypeId) : BoxT t (w.alloc (.cells #[v] t)) w.heap.size v := heap_alloc_new _ _

theorem OwnGrid.blkT {T T1 : TypeId} {w : World} {B g n cap : Nat} {L : List (List Int)} (h : OwnGrid T T1 w B (.slice (some ⟨g, 0, none⟩) n cap) L) : ∃ cur, w.heap[g]? = some (.cells cur T1 (0, 0)) := by
  obtain ⟨R, k2, k3, k4, k5⟩ := h
  rcases k3 with ⟨e, _⟩ | ⟨g', cap', cur', e, hg, hh, _⟩
  · cases e
  · simp only [Value.slice.injEq, Option.some.injEq, Addr.mk.injEq, and_true] at e
    obtain ⟨rfl, _, _⟩ := e
    exact ⟨cur', hh⟩

theorem maskL_link (m : Nat) (M : Nat → Nat) (p q : Nat) (hpq : p ≠ q) : ((maskL m M).set p (listM (M p ||| 2 ^ q))).set q (listM (M q ||| 2 ^ p)) = maskL m (linkM M p q) := by
  apply nthR_ext
  · simp [maskL_len]
  · intro i hi
    rw [List.length_set, List.length_set, maskL_len] at hi
    rw [maskL_nth _ hi]
    have h0 := maskL_nth M hi
    unfold nthR at h0 ⊢
    rw [List.getD_eq_getElem?_getD] at h0 ⊢
    unfold linkM
    by_cases e1 : q = i
    · subst e1
      rw [List.getElem?_set_self (by rw [List.length_set, maskL_len]; exact hi)]
      simp
    · rw [List.getElem?_set_ne e1]
      by_cases e2 : p = i
      · subst e2
        rw [List.getElem?_set_self (by rw [maskL_len]; exact hi), if_neg hpq, if_pos rfl]
        rfl
      · rw [List.getElem?_set_ne e2, h0, if_neg (fun h => e1 h.symm), if_neg (fun h => e2 h.symm)]

end Go.Proofs.Ytohjfcfcopbmoaa
