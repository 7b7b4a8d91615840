/- The texts DE1, DE2, joined. -/
import Derived.Test.YtohjfcfcopbmoaaQMark

/- Walks of the laws' own helpers: tree decompositions (bags and links, two slices of slices). -/
namespace Go.Proofs.Ytohjfcfcopbmoaa
open Go.RowKit

/-- What is left after both. -/
def szTwo (B K : List (List Int)) (left : Int) : Int := if szGrid B left < 0 then -1 else szGrid K (szGrid B left)
theorem szTwo_small {B K : List (List Int)} {left : Int} (h1 : left ≤ 1048576) (h : ¬ szTwo B K left < 0) : Small B ∧ Small K ∧ szTwo B K left ≤ left := by
  unfold szTwo at h ⊢
  by_cases hs : szGrid B left < 0
  · rw [if_pos hs] at h; omega
  · rw [if_neg hs] at h ⊢
    have k1 := szGrid_small (L := B) (left := left) h1 (by omega)
    have k2 := szGrid_small (L := K) (left := szGrid B left) (by omega) (by omega)
    exact ⟨k1.1, k2.1, by omega⟩

set_option maxHeartbeats 1000000 in
theorem szDecomp_any (v u : Value) (B K : List (List Int)) (left : Int) (w : World) (h : GridAt w v B) (h' : GridAt w u K) (h0 : 0 ≤ left) (h1 : left ≤ 1048576) :
    Calls Try.prog 7 #[.agg #[v, u], .int .i64 left] w fun e w' => e = .returned (.int .i64 (szTwo B K left)) ∧ Below w.heap.size w w' := by
  obtain ⟨a, c, rfl⟩ := h.slice
  obtain ⟨a', c', rfl⟩ := h'.slice
  have ha : Below w.heap.size w (w.alloc (.cells #[.slice a B.length c, .slice a' K.length c'] 24)) := (Below.refl _ _).alloc (Nat.le_refl _) _
  have hk := h.keep ha
  have hk' := h'.keep ha
  have HA := Lib.hid ha
  clear ha h h'
  have HE : Hid (szTwo B K left = if szGrid B left < 0 then -1 else szGrid K (szGrid B left)) := rfl
  go_enter Try.func7, Try.ntmps7
  go_wp2_with fail
  refine (szInt64SS_any _ _ _ _ hk h0 h1).mono ?_
  rintro e w' ⟨rfl, rfl⟩
  by_cases hs : szGrid B left < 0
  · have HE2 : Hid (szTwo B K left = -1) := by show _ = _; rw [HE.out, if_pos hs]
    go_wp2
    go_ret
    exact ⟨ret_int HE2.out.symm, HA.out⟩
  · have k1 := szGrid_small (L := B) (left := left) h1 (by omega)
    have HE2 : Hid (szTwo B K left = szGrid K (szGrid B left)) := by show _ = _; rw [HE.out, if_neg hs]
    go_wp2_with fail
    refine (szInt64SS_any _ _ _ _ hk' (by omega) (by omega)).mono ?_
    rintro e w' ⟨rfl, rfl⟩
    by_cases hs2 : szGrid K (szGrid B left) < 0
    · have e3 := szGrid_neg hs2
      have HE3 : Hid (szTwo B K left = -1) := by show _ = _; rw [HE2.out, e3]
      clear e3
      go_wp2
      go_ret
      exact ⟨ret_int HE3.out.symm, HA.out⟩
    · go_wp2
      go_ret
      exact ⟨ret_int HE2.out.symm, HA.out⟩

/-- A call has handed back a decomposition of its own make: the bags' blocks lie below the links'. -/
def GaveDec (w : World) (B K : List (List Int)) (e : Ending) (w' : World) : Prop :=
  ∃ (U n : Nat) (a : Option Addr) (c n' : Nat) (a' : Option Addr) (c' : Nat), e = .returned (.agg #[.slice a n c, .slice a' n' c']) ∧ OwnGridU 2 33 w' w.heap.size U (.slice a n c) B ∧ OwnGrid 2 33 w' U (.slice a' n' c') K ∧ (w.heap.size ≤ U ∧ U ≤ w'.heap.size) ∧ Below w.heap.size w w'

end Go.Proofs.Ytohjfcfcopbmoaa

/- Walks of the laws' own helpers: a decomposition's copy, equality; boxes of two cells. -/
namespace Go.Proofs.Ytohjfcfcopbmoaa
open Go.RowKit

/-- Block b is a box of two cells. -/
def Box2 (T : TypeId) (w : World) (b : Nat) (x y : Value) : Prop := w.heap[b]? = some (.cells #[x, y] T (0, 0))
theorem Box2.new (w : World) (x y : Value) (T : TypeId) : Box2 T (w.alloc (.cells #[x, y] T)) w.heap.size x y := heap_alloc_new _ _
theorem Box2.lt {T : TypeId} {w : World} {b : Nat} {x y : Value} (h : Box2 T w b x y) : b < w.heap.size := (Array.getElem?_eq_some_iff.1 h).1
theorem Box2.keep {T : TypeId} {w w' : World} {b : Nat} {x y : Value} (h : Box2 T w b x y) (hb : Below w.heap.size w w') : Box2 T w' b x y := by
  unfold Box2; rw [hb.block b h.lt]; exact h
theorem Box2.c0 {T : TypeId} {w : World} {b : Nat} {x y : Value} (h : Box2 T w b x y) : w.cell? ⟨b, 0, none⟩ = some x := by rw [cell_of_row w b 0 _ _ _ h]; rfl
theorem Box2.c1 {T : TypeId} {w : World} {b : Nat} {x y : Value} (h : Box2 T w b x y) : w.cell? ⟨b, 1, none⟩ = some y := by rw [cell_of_row w b 1 _ _ _ h]; rfl
theorem Box2.frozen {T : TypeId} {w : World} {b : Nat} {x y : Value} (h : Box2 T w b x y) (i : Nat) : w.frozen? ⟨b, i, none⟩ = false := frozen_of_row w b i _ T h
theorem Box2.set0 {T : TypeId} {w : World} {b : Nat} {x y : Value} (h : Box2 T w b x y) (u : Value) : Box2 T (w.setCell ⟨b, 0, none⟩ u) b u y := by unfold Box2; rw [heap_setCell_same w b 0 _ _ _ h]; rfl
theorem Box2.set1 {T : TypeId} {w : World} {b : Nat} {x y : Value} (h : Box2 T w b x y) (u : Value) : Box2 T (w.setCell ⟨b, 1, none⟩ u) b x u := by unfold Box2; rw [heap_setCell_same w b 1 _ _ _ h]; rfl
theorem Box2.other {T : TypeId} {w : World} {b : Nat} {x y : Value} (h : Box2 T w b x y) {a : Addr} (ha : b ≠ a.block) (u : Value) : Box2 T (w.setCell a u) b x y := by unfold Box2; rw [heap_setCell_other _ _ _ _ ha]; exact h

theorem OwnGridU.monoB {T T1 : TypeId} {w : World} {B B' U : Nat} {v : Value} {L : List (List Int)} (h : OwnGridU T T1 w B U v L) (hb : B' ≤ B) : OwnGridU T T1 w B' U v L := by
  obtain ⟨R, h2, h3, h4, h5⟩ := h
  refine ⟨R, h2, ?_, fun i hi => ⟨(h4 i hi).1.mono hb, (h4 i hi).2⟩, h5⟩
  rcases h3 with h3 | ⟨g, cap, cur, e, hg, hu, r⟩
  · exact Or.inl h3
  · exact Or.inr ⟨g, cap, cur, e, Nat.le_trans hb hg, hu, r⟩
theorem touched_cell (W : World) (b i : Nat) (v : Value) : Touched b (b + 1) W (W.setCell ⟨b, i, none⟩ v) := ⟨rfl, rfl, rfl, by rw [size_setCell1]; exact Nat.le_refl _, fun j _ h => heap_setCell_other _ _ _ _ (by show j ≠ b; omega)⟩

set_option maxHeartbeats 1000000 in
theorem toDecomp_any (v u : Value) (B K : List (List Int)) (w : World) (h : GridAt w v B) (h' : GridAt w u K) (hs : Small B) (hs' : Small K) :
    Calls Try.prog 9 #[.agg #[v, u]] w (GaveDec w B K) := by
  obtain ⟨a, c, rfl⟩ := h.slice
  obtain ⟨a', c', rfl⟩ := h'.slice
  have hb0 : Below w.heap.size w (w.alloc (.cells #[.slice a B.length c, .slice a' K.length c'] 24)) := (Below.refl _ _).alloc (Nat.le_refl _) _
  have x0 := Box2.new w (.slice a B.length c) (.slice a' K.length c') 24
  have hbel : Below w.heap.size w (((w.alloc (.cells #[.slice a B.length c, .slice a' K.length c'] 24)).alloc (.cells #[.slice none 0 0, .slice none 0 0] 27)).alloc (.cells #[.slice none 0 0, .slice none 0 0] 27)) :=
    (hb0.alloc (by rw [size_alloc1]; omega) _).alloc (by rw [size_alloc1, size_alloc1]; omega) _
  have x1 := (Box2.new (w.alloc (.cells #[.slice a B.length c, .slice a' K.length c'] 24)) (.slice none 0 0) (.slice none 0 0) 27).keep ((Below.refl _ _).alloc (Nat.le_refl _) (.cells #[.slice none 0 0, .slice none 0 0] 27))
  have x2 := Box2.new ((w.alloc (.cells #[.slice a B.length c, .slice a' K.length c'] 24)).alloc (.cells #[.slice none 0 0, .slice none 0 0] 27)) (.slice none 0 0) (.slice none 0 0) 27
  have x0' := x0.keep (((Below.refl _ _).alloc (Nat.le_refl _) (.cells #[.slice none 0 0, .slice none 0 0] 27)).alloc (by simp) (.cells #[.slice none 0 0, .slice none 0 0] 27))
  rw [size_alloc1] at x1
  rw [size_alloc1, size_alloc1] at x2
  have HB := Lib.hid hbel
  have HK := Lib.hid (h.keep hbel)
  have HG' : Hid (∀ W, Below w.heap.size w W → GridAt W (.slice a' K.length c') K) := fun W hb => h'.keep hb
  have X0 := Lib.hid x0'
  have X1 := Lib.hid x1
  have X2 := Lib.hid x2
  clear hbel h h' hb0 x0 x1 x2 x0'
  go_enter Try.func9, Try.ntmps9
  go_wp2_with fail
  refine (toInt64SS_gave _ _ _ HK.out hs).mono ?_
  rintro e w1 ⟨n1, a1, c1, rfl, ho, hb⟩
  have z1 : w.heap.size + 1 + 1 + 1 ≤ w1.heap.size := by have := hb.size; simpa [size_alloc1] using this
  have y0 := X0.out.keep hb
  have y1 := X1.out.keep hb
  have y2 := X2.out.keep hb
  have y2' := y2.set0 (.slice a1 n1 c1)
  have c0 := (y0.other (a := ⟨w.heap.size + 1 + 1, 0, none⟩) (by simp; omega) (.slice a1 n1 c1)).c1
  have HW2 : Hid (Below w.heap.size w (w1.setCell ⟨w.heap.size + 1 + 1, 0, none⟩ (.slice a1 n1 c1))) := (HB.out.trans (hb.mono HB.out.size)).setCell (by simp; omega) _
  have hz2 : w1.heap.size = (w1.setCell ⟨w.heap.size + 1 + 1, 0, none⟩ (.slice a1 n1 c1)).heap.size := (size_setCell1 _ _ _).symm
  have HO2 : Hid (OwnGrid 2 33 (w1.setCell ⟨w.heap.size + 1 + 1, 0, none⟩ (.slice a1 n1 c1)) (w.heap.size + 3) (.slice a1 n1 c1) B) := (ho.setBelow (by simp) _).mono (by simp)
  have HX1 : Hid (Box2 27 (w1.setCell ⟨w.heap.size + 1 + 1, 0, none⟩ (.slice a1 n1 c1)) (w.heap.size + 1) (.slice none 0 0) (.slice none 0 0)) := y1.other (by simp) _
  have HX2 := Lib.hid y2'
  have f2 := y2.frozen 0
  have k2 := y2.c0
  clear y0 y1 y2 y2' ho hb
  go_wp2_with fail
  generalize (w1.setCell ⟨w.heap.size + 1 + 1, 0, none⟩ (.slice a1 n1 c1)) = w2 at HW2 hz2 HO2 HX1 HX2 c0 ⊢
  clear f2 k2
  refine (toInt64SS_gave _ _ _ (HG'.out _ HW2.out) hs').mono ?_
  rintro e w3 ⟨n3, a3, c3, rfl, ho3, hb3⟩
  have z3 : w2.heap.size ≤ w3.heap.size := hb3.size
  have y1 := HX1.out.keep hb3
  have y2 := HX2.out.keep hb3
  have HO3 : Hid (OwnGridU 2 33 w3 (w.heap.size + 3) w2.heap.size (.slice a1 n1 c1) B) := HO2.out.under.keep hb3
  have HB3 : Hid (Below w.heap.size w w3) := HW2.out.trans (hb3.mono (by omega))
  have HO4 := Lib.hid ho3
  have k1 := y2.c0
  have k2 := y2.c1
  have f2 := y2.frozen 1
  have k3 := y1.c0
  have k4 := y1.c1
  have f3 := y1.frozen 0
  have f4 := y1.frozen 1
  have HQ : Hid (Box2 27 (((w3.setCell ⟨w.heap.size + 1 + 1, 1, none⟩ (.slice a3 n3 c3)).setCell ⟨w.heap.size + 1, 0, none⟩ (.slice a1 n1 c1)).setCell ⟨w.heap.size + 1, 1, none⟩ (.slice a3 n3 c3)) (w.heap.size + 1) (.slice a1 n1 c1) (.slice a3 n3 c3)) :=
    ((y1.other (by simp) _).set0 _).set1 _
  have HT : Hid (Touched (w.heap.size + 1) (w.heap.size + 3) w3 (((w3.setCell ⟨w.heap.size + 1 + 1, 1, none⟩ (.slice a3 n3 c3)).setCell ⟨w.heap.size + 1, 0, none⟩ (.slice a1 n1 c1)).setCell ⟨w.heap.size + 1, 1, none⟩ (.slice a3 n3 c3))) :=
    (((touched_cell w3 _ 1 _).wide (by omega) (by omega)).trans ((touched_cell _ _ 0 _).wide (by omega) (by omega))).trans ((touched_cell _ _ 1 _).wide (by omega) (by omega))
  clear ho3 hb3 y1 y2 c0
  go_wp2
  have q0 := HQ.out.c0
  have q1 := HQ.out.c1
  refine bodyPost_ret (v := .agg #[.slice a1 n1 c1, .slice a3 n3 c3]) (by simp [results, Try.results9, go_sem, q0, q1]) rfl ⟨w2.heap.size, n1, a1, c1, n3, a3, c3, rfl, ?_, ?_, ?_, ?_⟩
  · exact (HO3.out.apart HT.out (by omega)).monoB (by omega)
  · exact HO4.out.touched HT.out (by omega)
  · exact ⟨by omega, by have := HT.out.size; omega⟩
  · exact HB3.out.trans (HT.out.below (by omega) |>.mono (by omega))

set_option maxHeartbeats 1000000 in
theorem eqDecomp_any (v u v' u' : Value) (B K B' K' : List (List Int)) (w : World) (h : GridAt w v B) (k : GridAt w u K) (h' : GridAt w v' B') (k' : GridAt w u' K') :
    Calls Try.prog 11 #[.agg #[v, u], .agg #[v', u']] w fun e w' => e = .returned (.bool (decide (B = B' ∧ K = K'))) ∧ Below w.heap.size w w' := by
  obtain ⟨a, c, rfl⟩ := h.slice
  obtain ⟨a', c', rfl⟩ := h'.slice
  obtain ⟨ak, ck, rfl⟩ := k.slice
  obtain ⟨ak', ck', rfl⟩ := k'.slice
  have hbel : Below w.heap.size w ((w.alloc (.cells #[.slice a B.length c, .slice ak K.length ck] 27)).alloc (.cells #[.slice a' B'.length c', .slice ak' K'.length ck'] 27)) :=
    ((Below.refl _ _).alloc (Nat.le_refl _) _).alloc (by rw [size_alloc1]; omega) _
  have x0 := (Box2.new w (.slice a B.length c) (.slice ak K.length ck) 27).keep ((Below.refl _ _).alloc (Nat.le_refl _) (.cells #[.slice a' B'.length c', .slice ak' K'.length ck'] 27))
  have x1 := Box2.new (w.alloc (.cells #[.slice a B.length c, .slice ak K.length ck] 27)) (.slice a' B'.length c') (.slice ak' K'.length ck') 27
  rw [size_alloc1] at x1
  have H1 := Lib.hid (h.keep hbel)
  have H2 := Lib.hid (h'.keep hbel)
  have K1 := Lib.hid (k.keep hbel)
  have K2 := Lib.hid (k'.keep hbel)
  have HB := Lib.hid hbel
  have X0 := Lib.hid x0
  have X1 := Lib.hid x1
  clear hbel h k h' k' x0 x1
  go_enter Try.func11, Try.ntmps11
  go_wp2_with fail
  refine (eqInt64SS_any _ _ _ _ _ H1.out H2.out).mono ?_
  rintro e w1 ⟨rfl, hd1⟩
  have b1 := X0.out.keep (hd1.below _)
  have b2 := X1.out.keep (hd1.below _)
  have c1 := b1.c1
  have c2 := b2.c1
  have K3 := Lib.hid (K1.out.drawn hd1)
  have K4 := Lib.hid (K2.out.drawn hd1)
  have HB1 : Hid (Below w.heap.size w w1) := HB.out.trans (hd1.below _)
  clear b1 b2 hd1
  by_cases hx : B = B'
  · have HX := Lib.hid hx
    rw [decide_eq_true hx]
    clear hx
    go_wp2_with fail
    refine (eqInt64SS_any _ _ _ _ _ K3.out K4.out).mono ?_
    rintro e w2 ⟨rfl, hd2⟩
    have HB2 : Hid (Below w.heap.size w w2) := HB1.out.trans (hd2.below _)
    clear hd2 c1 c2
    by_cases hy : K = K'
    · have HY := Lib.hid hy
      rw [decide_eq_true hy]
      clear hy
      go_wp2
      go_ret
      exact ⟨ret_bool (by rw [decide_eq_true (And.intro HX.out HY.out)]), HB2.out⟩
    · have HY := Lib.hid hy
      rw [decide_eq_false hy]
      clear hy
      go_wp2
      go_ret
      exact ⟨ret_bool (by rw [decide_eq_false (fun h => HY.out h.2)]), HB2.out⟩
  · have HX := Lib.hid hx
    rw [decide_eq_false hx]
    clear hx c1 c2
    go_wp2
    go_ret
    exact ⟨ret_bool (by rw [decide_eq_false (fun h => HX.out h.1)]), HB1.out⟩

end Go.Proofs.Ytohjfcfcopbmoaa
