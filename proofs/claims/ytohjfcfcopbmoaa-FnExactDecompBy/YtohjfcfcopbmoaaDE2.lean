/- Walks of the laws' own helpers: a decomposition's copy, equality; boxes of two cells. -/
import Derived.Test.YtohjfcfcopbmoaaQMark

namespace Go.Proofs.Ytohjfcfcopbmoaa
open Go.RowKit

/-- Block b is a box of two cells. -/
def Box2 (T : TypeId) (w : World) (b : Nat) (x y : Value) : Prop := w.heap[b]? = some (.cells #[x, y] T (0, 0))
theorem Box2.new (w : World) (x y : Value) (T : TypeId) : Box2 T (w.alloc (.cells #[x, y] T)) w.heap.size x y := heap_alloc_new _ _
theorem Box2.lt {T : TypeId} {w : World} {b : Nat} {x y : Value} (h : Box2 T w b x y) : b < w.heap.size := (Array.getElem?_eq_some_iff.1 h).1
theorem Box2.keep {T : TypeId} {w w' : World} {b : Nat} {x y : Value} (h : Box2 T w b x y) (hb : Below w.heap.size w w') : Box2 T w' b x y := by
  unfold Box2; rw [hb.block b h.lt]; exact h
theorem Box2.c0 {T : TypeId} {w : World} {b : Nat} {x y : Value} (h : Box2 T w b x y) : w.cell? ⟨b, 0, none⟩ = some x := by rw [cell_of_row w b 0 _ _ _ h]; rfl
theorem Box2.c1 {T : TypeId} {w : World} {b : Nat} {x y : Value} (h : Box2 T w b x y) : w.cell? ⟨b, 1, none⟩ = some y := by rw [cell_of_row w b 1 _ _ _ h]; rfl
theorem Box2.frozen {T : TypeId} {w : World} {b : Nat} {x y : Value} (h : Box2 T w b x y) (i : Nat) : w.frozen? ⟨b, i, none⟩ = false := frozen_of_row w b i _ T h
theorem Box2.set0 {T : TypeId} {w : World} {b : Nat} {x y : Value} (h : Box2 T w b x y) (u : Value) : Box2 T (w.setCell ⟨b, 0, none⟩ u) b u y := by unfold Box2; rw [heap_setCell_same w b 0 _ _ _ h]; rfl
theorem Box2.set1 {T : TypeId} {w : World} {b : Nat} {x y : Value} (h : Box2 T w b x y) (u : Value) : Box2 T (w.setCell ⟨b, 1, none⟩ u) b x u := by unfold Box2; rw [heap_setCell_same w b 1 _ _ _ h]; rfl
theorem Box2.other {T : TypeId} {w : World} {b : Nat} {x y : Value} (h : Box2 T w b x y) {a : Addr} (ha : b ≠ a.block) (u : Value) : Box2 T (w.setCell a u) b x y := by unfold Box2; rw [heap_setCell_other _ _ _ _ ha]; exact h

set_option maxHeartbeats 1000000 in
theorem eqDecomp_any (v u v' u' : Value) (B K B' K' : List (List Int)) (w : World) (h : GridAt w v B) (k : GridAt w u K) (h' : GridAt w v' B') (k' : GridAt w u' K') :
    Calls Try.prog 11 #[.agg #[v, u], .agg #[v', u']] w fun e w' => e = .returned (.bool (decide (B = B' ∧ K = K'))) ∧ Below w.heap.size w w' := by
  obtain ⟨a, c, rfl⟩ := h.slice
  obtain ⟨a', c', rfl⟩ := h'.slice
  obtain ⟨ak, ck, rfl⟩ := k.slice
  obtain ⟨ak', ck', rfl⟩ := k'.slice
  have hbel : Below w.heap.size w ((w.alloc (.cells #[.slice a B.length c, .slice ak K.length ck] 27)).alloc (.cells #[.slice a' B'.length c', .slice ak' K'.length ck'] 27)) :=
    ((Below.refl _ _).alloc (Nat.le_refl _) _).alloc (by rw [size_alloc1]; omega) _
  have x0 := (Box2.new w (.slice a B.length c) (.slice ak K.length ck) 27).keep ((Below.refl _ _).alloc (Nat.le_refl _) (.cells #[.slice a' B'.length c', .slice ak' K'.length ck'] 27))
  have x1 := Box2.new (w.alloc (.cells #[.slice a B.length c, .slice ak K.length ck] 27)) (.slice a' B'.length c') (.slice ak' K'.length ck') 27
  rw [size_alloc1] at x1
  have H1 := Lib.hid (h.keep hbel)
  have H2 := Lib.hid (h'.keep hbel)
  have K1 := Lib.hid (k.keep hbel)
  have K2 := Lib.hid (k'.keep hbel)
  have HB := Lib.hid hbel
  have X0 := Lib.hid x0
  have X1 := Lib.hid x1
  clear hbel h k h' k' x0 x1
  go_enter Try.func11, Try.ntmps11
  go_wp2_with fail
  refine (eqInt64SS_any _ _ _ _ _ H1.out H2.out).mono ?_
  rintro e w1 ⟨rfl, hd1⟩
  have b1 := X0.out.keep (hd1.below _)
  have b2 := X1.out.keep (hd1.below _)
  have c1 := b1.c1
  have c2 := b2.c1
  have K3 := Lib.hid (K1.out.drawn hd1)
  have K4 := Lib.hid (K2.out.drawn hd1)
  have HB1 : Hid (Below w.heap.size w w1) := HB.out.trans (hd1.below _)
  clear b1 b2 hd1
  by_cases hx : B = B'
  · have HX := Lib.hid hx
    rw [decide_eq_true hx]
    clear hx
    go_wp2_with fail
    refine (eqInt64SS_any _ _ _ _ _ K3.out K4.out).mono ?_
    rintro e w2 ⟨rfl, hd2⟩
    have HB2 : Hid (Below w.heap.size w w2) := HB1.out.trans (hd2.below _)
    clear hd2 c1 c2
    by_cases hy : K = K'
    · have HY := Lib.hid hy
      rw [decide_eq_true hy]
      clear hy
      go_wp2
      go_ret
      exact ⟨ret_bool (by rw [decide_eq_true (And.intro HX.out HY.out)]), HB2.out⟩
    · have HY := Lib.hid hy
      rw [decide_eq_false hy]
      clear hy
      go_wp2
      go_ret
      exact ⟨ret_bool (by rw [decide_eq_false (fun h => HY.out h.2)]), HB2.out⟩
  · have HX := Lib.hid hx
    rw [decide_eq_false hx]
    clear hx c1 c2
    go_wp2
    go_ret
    exact ⟨ret_bool (by rw [decide_eq_false (fun h => HX.out h.1)]), HB1.out⟩

end Go.Proofs.Ytohjfcfcopbmoaa
