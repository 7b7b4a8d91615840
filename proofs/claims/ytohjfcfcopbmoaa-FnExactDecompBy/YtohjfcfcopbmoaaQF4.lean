/- The texts F4, F5, joined. -/
import Derived.Test.YtohjfcfcopbmoaaQF1
import Derived.Test.YtohjfcfcopbmoaaQGrid
import Derived.Test.YtohjfcfcopbmoaaQMark
import Derived.Deep.RegionLaw
import Derived.Deep.RegionWith
import Derived.Deep.DeepCutAuto

/- Plain facts: a mask's list; a row of one's own grid put anew. -/
namespace Go.Proofs.Ytohjfcfcopbmoaa
open Go.RowKit

/-- The vertices of a mask, rising. -/
def listM (M : Nat) : List Int := ((List.range 16).filter (fun i => M.testBit i)).map (fun i : Nat => (i : Int))
theorem listM_mem (M : Nat) (x : Int) : x ∈ listM M ↔ ∃ i : Nat, i < 16 ∧ M.testBit i = true ∧ (i : Int) = x := by
  unfold listM
  simp only [List.mem_map, List.mem_filter, List.mem_range]
  constructor
  · rintro ⟨i, ⟨h1, h2⟩, h3⟩; exact ⟨i, h1, h2, h3⟩
  · rintro ⟨i, h1, h2, h3⟩; exact ⟨i, ⟨h1, h2⟩, h3⟩
theorem listM_set (M : Nat) : SetP (listM M) 16 := by
  refine SetP.mk ?_ ?_
  · unfold listM
    rw [List.pairwise_map]
    refine List.Pairwise.imp ?_ (List.Pairwise.filter _ List.pairwise_lt_range)
    intro a b hab
    omega
  · intro x hx
    obtain ⟨i, h1, _, rfl⟩ := (listM_mem M x).1 hx
    omega
theorem listM_len (M : Nat) : (listM M).length ≤ 16 := by
  unfold listM
  rw [List.length_map]
  have := List.length_filter_le (fun i => M.testBit i) (List.range 16)
  rw [List.length_range] at this
  exact this
theorem listM_zero : listM 0 = [] := by simp [listM]
theorem listM_i64 (M : Nat) : ∀ x ∈ listM M, I64 x := by
  intro x hx
  obtain ⟨i, h1, _, rfl⟩ := (listM_mem M x).1 hx
  unfold I64; omega

theorem sets_eq {xs ys : List Int} (hx : SetP xs 16) (hy : SetP ys 16) (h : ∀ z, z ∈ xs ↔ z ∈ ys) : xs = ys :=
  set_ext (n := 16) (Nat.le_refl _) hx hy (fun u _ => by rw [Bool.eq_iff_iff, hasB_mem, hasB_mem]; exact h u)

theorem mem_or (M x : Nat) (hx : x < 16) (z : Int) : z ∈ listM (M ||| 2 ^ x) ↔ z ∈ listM M ∨ z = (x : Int) := by
  rw [listM_mem, listM_mem]
  constructor
  · rintro ⟨i, h1, h2, h3⟩
    rw [Nat.testBit_or, Bool.or_eq_true, Nat.testBit_two_pow, decide_eq_true_iff] at h2
    rcases h2 with h2 | h2
    · exact Or.inl ⟨i, h1, h2, h3⟩
    · right; omega
  · rintro (⟨i, h1, h2, h3⟩ | rfl)
    · exact ⟨i, h1, by rw [Nat.testBit_or, h2, Bool.true_or], h3⟩
    · exact ⟨x, hx, by rw [Nat.testBit_or, Nat.testBit_two_pow, decide_eq_true rfl, Bool.or_true], rfl⟩

/-- What stands in a rising list where x was put in. -/
theorem into_list {M x k : Nat} (hx : x < 16) (hk : k ≤ (listM M).length) (hlo : ∀ j, j < k → nth (listM M) j < (x : Int)) (hhi : k = (listM M).length ∨ (x : Int) < nth (listM M) k) :
    (listM M).take k ++ (x : Int) :: (listM M).drop k = listM (M ||| 2 ^ x) := by
  have hp := (listM_set M).pairwise
  have hb := (listM_set M).bounds
  refine sets_eq (SetP.mk ?_ ?_) (listM_set _) ?_
  · rw [List.pairwise_append]
    refine ⟨hp.sublist (List.take_sublist _ _), ?_, ?_⟩
    · rw [List.pairwise_cons]
      refine ⟨?_, hp.sublist (List.drop_sublist _ _)⟩
      intro z hz
      obtain ⟨i, hi, rfl⟩ := List.mem_iff_getElem.1 hz
      rw [List.length_drop] at hi
      rw [List.getElem_drop]
      rcases hhi with e | hlt
      · omega
      · rw [nth_eq (by omega)] at hlt
        by_cases e : i = 0
        · subst e; simpa using hlt
        · have := List.pairwise_iff_getElem.1 hp k (k + i) (by omega) (by omega) (by omega)
          omega
    · intro a ha b hb'
      obtain ⟨i, hi, rfl⟩ := List.mem_iff_getElem.1 ha
      rw [List.length_take] at hi
      rw [List.getElem_take]
      have h1 := hlo i (by omega)
      rw [nth_eq (by omega)] at h1
      rcases List.mem_cons.1 hb' with rfl | hb'
      · exact h1
      · obtain ⟨j, hj, rfl⟩ := List.mem_iff_getElem.1 hb'
        rw [List.length_drop] at hj
        rw [List.getElem_drop]
        exact List.pairwise_iff_getElem.1 hp i (k + j) (by omega) (by omega) (by omega)
  · intro z hz
    rcases List.mem_append.1 hz with hz | hz
    · exact hb z (List.mem_of_mem_take hz)
    · rcases List.mem_cons.1 hz with rfl | hz
      · omega
      · exact hb z (List.mem_of_mem_drop hz)
  · intro z
    rw [mem_or M x hx, List.mem_append, List.mem_cons]
    constructor
    · rintro (h | h | h)
      · exact Or.inl (List.mem_of_mem_take h)
      · exact Or.inr h
      · exact Or.inl (List.mem_of_mem_drop h)
    · rintro (h | h)
      · rw [← List.take_append_drop k (listM M), List.mem_append] at h
        rcases h with h | h
        · exact Or.inl h
        · exact Or.inr (Or.inr h)
      · exact Or.inr (Or.inl h)
theorem into_same {M x k : Nat} (hx : x < 16) (hk : k < (listM M).length) (he : nth (listM M) k = (x : Int)) : listM M = listM (M ||| 2 ^ x) := by
  refine sets_eq (listM_set _) (listM_set _) (fun z => ?_)
  rw [mem_or M x hx]
  constructor
  · exact Or.inl
  · rintro (h | rfl)
    · exact h
    · rw [← he]; exact nth_mem hk

/-- A number put into a row of one's own that lists a mask. -/
def IntoOwn (w : World) (B : Nat) (v : Value) (M x : Nat) (e : Ending) (w' : World) : Prop :=
  ∃ n a c, e = .returned (.slice a n c) ∧ OwnRow 2 w' B (.slice a n c) (listM (M ||| 2 ^ x)) ∧ ((Value.slice a n c).ownBlock = v.ownBlock ∨ ∀ k, (Value.slice a n c).ownBlock = some k → w.heap.size ≤ k) ∧ Below w.heap.size w w'

theorem l1Into_own (v : Value) (M x B : Nat) (w : World) (h : OwnRow 2 w B v (listM M)) (hB : B ≤ w.heap.size) (hx : x < 16) : Calls Try.prog 35 #[v, .int .i64 (x : Int)] w (IntoOwn w B v M x) := by
  refine (l1Into_any v (listM M) x w h.row (by unfold I64; omega) (by have := listM_len M; omega)).mono ?_
  rintro e w' ⟨k, hk, hlo, (⟨hlt, he, rfl, hb⟩ | ⟨hhi, n, a, c, rfl, ho, hb⟩)⟩
  · obtain ⟨a, c, e2⟩ := h.row.slice
    refine ⟨_, a, c, by rw [e2], ?_, Or.inl (by rw [e2]), hb⟩
    rw [← e2, ← into_same hx hlt he]
    exact h.keep hb
  · refine ⟨n, a, c, rfl, ?_, Or.inr (fun k hk => (ho.lt k hk).1), hb⟩
    rw [into_list hx hk hlo hhi] at ho
    exact ho.mono hB

/-- A row of one's own grid put anew. -/
theorem OwnGrid.setRow {T T1 : TypeId} {w w' : World} {B g n cap i : Nat} {L : List (List Int)} {rv : Value} {xs : List Int} (hT : T ≠ T1) (h : OwnGrid T T1 w B (.slice (some ⟨g, 0, none⟩) n cap) L) (hb : Below w.heap.size w w') (hi : i < L.length) (hr : OwnRow T w' B rv xs)
    (hblk : ∀ k, rv.ownBlock = some k → w.heap.size ≤ k ∨ w.cell? ⟨g, i, none⟩ = none ∨ ∃ u, w.cell? ⟨g, i, none⟩ = some u ∧ u.ownBlock = some k) :
    OwnGrid T T1 (w'.setCell ⟨g, i, none⟩ rv) B (.slice (some ⟨g, 0, none⟩) n cap) (L.set i xs) := by
  obtain ⟨R, h2, h3, h4, h5⟩ := h
  rcases h3 with ⟨e, _⟩ | ⟨g', cap', cur, e, hg, hh, l1, l2, hs, hc⟩
  · cases e
  · simp only [Value.slice.injEq, Option.some.injEq, Addr.mk.injEq, and_true] at e
    obtain ⟨rfl, rfl, rfl⟩ := e
    obtain ⟨hlt, _⟩ := Array.getElem?_eq_some_iff.1 hh
    have hh' : w'.heap[g]? = some (.cells cur T1 (0, 0)) := by rw [hb.block g hlt]; exact hh
    have hci : w.cell? ⟨g, i, none⟩ = some (R i) := by rw [cell_of_row w g i cur _ _ hh]; exact hc i hi
    have hne : ∀ u ys, OwnRow T w' B u ys → u.ownBlock ≠ some g := by
      intro u ys hu hub
      obtain ⟨c2, hc2⟩ := hu.blk hub
      rw [hh'] at hc2
      simp at hc2
      exact hT hc2.2.symm
    have hlen : (L.set i xs).length = L.length := by simp
    have hnth : ∀ j, nthR (L.set i xs) j = if j = i then xs else nthR L j := by
      intro j
      unfold nthR
      by_cases e : j = i
      · subst e; simp [hi]
      · simp only [e, if_false]
        rw [List.getD_eq_getElem?_getD, List.getD_eq_getElem?_getD, List.getElem?_set_ne (by omega)]
    refine ⟨fun j => if j = i then rv else R j, by rw [hlen]; exact h2, Or.inr ⟨g, cap, cur.setIfInBounds i rv, by rw [hlen], hg, heap_setCell_same w' g i cur T1 rv hh', by rw [hlen]; exact l1, l2, by rw [Array.size_setIfInBounds]; exact hs, fun j hj => ?_⟩, fun j hj => ?_, fun p q k hpq hq hk => ?_⟩
    · rw [hlen] at hj
      rw [Array.getElem?_setIfInBounds]
      by_cases e : i = j
      · subst e
        rw [if_pos rfl, if_pos (by omega)]
        simp
      · rw [if_neg e, hc j hj]
        simp [show ¬ j = i from fun h => e h.symm]
    · rw [hlen] at hj
      rw [hnth j]
      by_cases e : j = i
      · simp only [e, if_true]
        exact hr.setCell (hne rv xs hr) _
      · simp only [e, if_false]
        have := (h4 j hj).keep hb
        exact this.setCell (hne _ _ this) _
    · rw [hlen] at hq
      have fresh : ∀ j, j ≠ i → j < L.length → ∀ k, rv.ownBlock = some k → (R j).ownBlock ≠ some k := by
        intro j hji hjl k hk2 hj2
        rcases hblk k hk2 with h6 | h6 | ⟨u, hu, hub⟩
        · have := ((h4 j hjl).lt k hj2).2; omega
        · rw [hci] at h6; cases h6
        · rw [hci] at hu
          cases hu
          rcases Nat.lt_or_gt_of_ne hji with h7 | h7
          · exact h5 j i k h7 hi hj2 hub
          · exact h5 i j k h7 hjl hub hj2
      simp only at hk ⊢
      by_cases e1 : p = i
      · have e2 : ¬ q = i := by omega
        simp only [e1, if_true] at hk
        simp only [e2, if_false]
        exact fresh q e2 hq k hk
      · simp only [e1, if_false] at hk
        by_cases e2 : q = i
        · simp only [e2, if_true]
          intro h8
          exact fresh p e1 (by omega) k h8 hk
        · simp only [e2, if_false]
          exact h5 p q k hpq hq hk

end Go.Proofs.Ytohjfcfcopbmoaa

/- Walks: two vertices joined in the model's graph. -/
namespace Go.Proofs.Ytohjfcfcopbmoaa
open Go.RowKit

theorem OwnGrid.place {T T1 : TypeId} {w : World} {B : Nat} {v : Value} {L : List (List Int)} (h : OwnGrid T T1 w B v L) (hl : 0 < L.length) :
    ∃ g cap, v = .slice (some ⟨g, 0, none⟩) L.length cap ∧ B ≤ g ∧ g < w.heap.size ∧ ∀ i, i < L.length → ∃ a n c, w.cell? ⟨g, i, none⟩ = some (.slice a n c) ∧ w.frozen? ⟨g, i, none⟩ = false ∧ OwnRow T w B (.slice a n c) (nthR L i) := by
  obtain ⟨R, h2, h3, h4, h5⟩ := h
  rcases h3 with ⟨e, e'⟩ | ⟨g, cap, cur, e, hg, hh, l1, l2, hs, hc⟩
  · rw [e'] at hl; simp at hl
  · refine ⟨g, cap, e, hg, (Array.getElem?_eq_some_iff.1 hh).1, fun i hi => ?_⟩
    obtain ⟨a, c, e2⟩ := (h4 i hi).row.slice
    refine ⟨a, _, c, by rw [cell_of_row w g i cur _ _ hh, hc i hi, e2], ?_, by rw [← e2]; exact h4 i hi⟩
    simp only [World.frozen?, hh]
    simp

/-- A block of another type than a grid's is none of its blocks. -/
theorem OwnGrid.setType {T T1 T2 : TypeId} {w : World} {B b : Nat} {v : Value} {L : List (List Int)} {cur : Array Value} {z : Nat × Nat} (h : OwnGrid T T1 w B v L) (hb : w.heap[b]? = some (.cells cur T2 z)) (h1 : T2 ≠ T) (h2 : T2 ≠ T1) (i : Nat) (u : Value) : OwnGrid T T1 (w.setCell ⟨b, i, none⟩ u) B v L := by
  obtain ⟨R, k2, k3, k4, k5⟩ := h
  refine ⟨R, k2, ?_, fun j hj => ?_, k5⟩
  · rcases k3 with h | ⟨g, cap, cur', e, hg, hh, l1, l2, hs, hc⟩
    · exact Or.inl h
    · refine Or.inr ⟨g, cap, cur', e, hg, ?_, l1, l2, hs, hc⟩
      rw [heap_setCell_other w ⟨b, i, none⟩ g u (fun e => ?_)]
      · exact hh
      · have e : g = b := e
        subst e
        rw [hh] at hb
        simp at hb
        exact h2 hb.2.1.symm
  · refine (k4 j hj).setCell (fun e => ?_) u
    obtain ⟨c2, hc2⟩ := (k4 j hj).blk e
    have hc2 : w.heap[b]? = _ := hc2
    rw [hb] at hc2
    simp at hc2
    exact h1 hc2.2.1

set_option maxHeartbeats 1600000 in
theorem l1Link_own (x y g cap B : Nat) (L : List (List Int)) (w : World) (h : OwnGrid 2 33 w B (.slice (some ⟨g, 0, none⟩) L.length cap) L) (hB : B ≤ w.heap.size) (hx : x < L.length) (hy : y < L.length) (hl : L.length ≤ 16) (hxy : x ≠ y) (Mx My : Nat) (ex : nthR L x = listM Mx) (ey : nthR L y = listM My) :
    Calls Try.prog 87 #[.agg #[.slice (some ⟨g, 0, none⟩) L.length cap], .int .i64 (x : Int), .int .i64 (y : Int)] w
      (fun e w' => e = .returned (.agg #[.slice (some ⟨g, 0, none⟩) L.length cap]) ∧ OwnGrid 2 33 w' B (.slice (some ⟨g, 0, none⟩) L.length cap) ((L.set x (listM (Mx ||| 2 ^ y))).set y (listM (My ||| 2 ^ x))) ∧ Below B w w' ∧ ∀ k, k < w.heap.size → k ≠ g → w'.heap[k]? = w.heap[k]?) := by
  have hbel0 : Below w.heap.size w ((w.alloc (.cells #[.slice (some ⟨g, 0, none⟩) L.length cap] 37)).alloc (.cells #[.slice none 0 0] 37)) := ((Below.refl _ _).alloc (Nat.le_refl _) _).alloc (by simp) _
  have b1 : BoxAt ((w.alloc (.cells #[.slice (some ⟨g, 0, none⟩) L.length cap] 37)).alloc (.cells #[.slice none 0 0] 37)) w.heap.size (.slice (some ⟨g, 0, none⟩) L.length cap) := ⟨by go_simp, by go_simp⟩
  have b2 : BoxAt ((w.alloc (.cells #[.slice (some ⟨g, 0, none⟩) L.length cap] 37)).alloc (.cells #[.slice none 0 0] 37)) (w.heap.size + 1) (.slice none 0 0) := ⟨by go_simp, by go_simp⟩
  have hog := h.keep hbel0
  have bt : ((w.alloc (.cells #[.slice (some ⟨g, 0, none⟩) L.length cap] 37)).alloc (.cells #[.slice none 0 0] 37)).heap[w.heap.size + 1]? = some (.cells #[.slice none 0 0] 37 (0, 0)) := by
    rw [← size_alloc1 w (.cells #[.slice (some ⟨g, 0, none⟩) L.length cap] 37)]
    exact heap_alloc_new _ _
  generalize hw0 : (w.alloc (.cells #[.slice (some ⟨g, 0, none⟩) L.length cap] 37)).alloc (.cells #[.slice none 0 0] 37) = w0 at hbel0 b1 b2 hog bt
  have HW0 := Lib.hid hw0
  clear hw0
  go_enter Try.func87, Try.ntmps87
  go_wp2
  rw [HW0.out]
  obtain ⟨g', cap', eg, hBg, hgs, hcell⟩ := hog.place (by omega)
  simp only [Value.slice.injEq, Option.some.injEq, Addr.mk.injEq, and_true, true_and] at eg
  obtain ⟨rfl, rfl⟩ := eg
  have hgw : g < w.heap.size := by
    obtain ⟨g2, cap2, eg2, _, hgs2, _⟩ := h.place (by omega)
    simp only [Value.slice.injEq, Option.some.injEq, Addr.mk.injEq, and_true, true_and] at eg2
    obtain ⟨rfl, rfl⟩ := eg2
    exact hgs2
  obtain ⟨ax, nx, cx, kx, fx, hox⟩ := hcell x hx
  rw [ex] at hox
  have kb := b1.1
  have HOX := Lib.hid hox
  have HOG := Lib.hid hog
  have HB1 := Lib.hid b1
  have HB2 := Lib.hid b2
  have HBL := Lib.hid hbel0
  have HFX := Lib.hid fx
  have HBT := Lib.hid bt
  have EX := Lib.hid ex
  have EY := Lib.hid ey
  have hz0 : w.heap.size ≤ w0.heap.size := hbel0.size
  have hlx : (x : Int) < L.length := by omega
  have hly : (y : Int) < L.length := by omega
  clear hox hog b1 b2 hbel0 fx h hcell ex ey bt
  go_cut [] from 7 (fun wx => OwnGrid 2 33 wx B (.slice (some ⟨g, 0, none⟩) L.length cap) (L.set x (listM (Mx ||| 2 ^ y))) ∧ BoxAt wx w.heap.size (.slice (some ⟨g, 0, none⟩) L.length cap) ∧ BoxAt wx (w.heap.size + 1) (.slice none 0 0) ∧ Below B w wx ∧ w0.heap.size ≤ wx.heap.size ∧ wx.heap[w.heap.size + 1]? = some (.cells #[.slice none 0 0] 37 (0, 0)) ∧ ∀ k, k < w.heap.size → k ≠ g → wx.heap[k]? = w.heap[k]?)
  case first =>
    go_region_law (first | (go_simp; go_at_call 35; refine (l1Into_own _ Mx y B _ (HOX.out.keep (Below.refl _ _).drew) (by show B ≤ w0.heap.size; omega) (by omega)).mono ?_; rintro e w2 ⟨n2, a2, c2, rfl, ho2, hblk2, hb2⟩; have kb2 := cell_keep hb2 (cell_keep (Below.refl _ _).drew kb); have kx2 := cell_keep hb2 (cell_keep (Below.refl _ _).drew kx); have HB2' : Hid (Below w0.heap.size w0 w2) := (Below.refl w0.heap.size w0).drew.trans hb2; have fx2 : w2.frozen? ⟨g, x, none⟩ = false := (by rw [HB2'.out.frozen hgs]; exact HFX.out); have HO2 := Lib.hid ho2; have HK2 := Lib.hid hblk2; clear ho2 hblk2 hb2))
    all_goals (
      go_wp2_with fail
      go_meet
      exact ⟨HOG.out.setRow (by decide) HB2'.out hx HO2.out (fun k hk => HK2.out.elim (fun e => Or.inr (Or.inr ⟨_, kx, e ▸ hk⟩)) (fun f => Or.inl (f k hk))), (HB1.out.keep HB2'.out).setOther (fun e => by simp at e; omega) _, (HB2.out.keep HB2'.out).setOther (fun e => by simp at e; omega) _, ((HBL.out.mono hB).trans (HB2'.out.mono (Nat.le_trans hB hz0))).setCell hBg _, by rw [size_setCell1]; exact HB2'.out.size, by rw [heap_setCell_other _ _ _ _ (fun e => by simp at e; omega), HB2'.out.block _ HB2.out.lt]; exact HBT.out, fun k hk hkg => by rw [heap_setCell_other _ _ _ _ hkg, HB2'.out.block _ (by omega)]; exact HBL.out.block k hk⟩)
  case rest =>
    obtain ⟨hog1, b11, b12, hbl1, hz1, bt1, hot1⟩ := hcut
    have hl1 : (L.set x (listM (Mx ||| 2 ^ y))).length = L.length := by simp
    have ey1 : nthR (L.set x (listM (Mx ||| 2 ^ y))) y = listM My := by
      rw [← EY.out]; unfold nthR
      rw [List.getD_eq_getElem?_getD, List.getD_eq_getElem?_getD, List.getElem?_set_ne hxy]
    generalize hL1 : L.set x (listM (Mx ||| 2 ^ y)) = L1 at hog1 hl1 ey1
    have EL1 := Lib.hid hL1
    clear hL1
    obtain ⟨g', cap', eg, hBg1, hgs1, hcell1⟩ := hog1.place (by omega)
    simp only [Value.slice.injEq, Option.some.injEq, Addr.mk.injEq, and_true] at eg
    obtain ⟨rfl, e9, rfl⟩ := eg
    clear e9
    obtain ⟨ay, ny, cy, ky, fy, hoy⟩ := hcell1 y (by omega)
    rw [ey1] at hoy
    have kb1 := b11.1
    have HOY := Lib.hid hoy
    have HOG1 := Lib.hid hog1
    have HB11 := Lib.hid b11
    have HB12 := Lib.hid b12
    have HBL1 := Lib.hid hbl1
    have HFY := Lib.hid fy
    have HL1 := Lib.hid hl1
    have HBT1 := Lib.hid bt1
    have HOT1 := Lib.hid hot1
    clear hoy hog1 b11 b12 hbl1 fy hcell1 ey1 hl1 bt1 hot1 kb kx
    go_wp2_with fail
    go_region_law (first | (go_simp; go_at_call 35; refine (l1Into_own _ My x B _ (HOY.out.keep (Below.refl _ _).drew) (by show B ≤ wc.heap.size; omega) (by omega)).mono ?_; rintro e w2 ⟨n2, a2, c2, rfl, ho2, hblk2, hb2⟩; have kb2 := cell_keep hb2 (cell_keep (Below.refl _ _).drew kb1); have ky2 := cell_keep hb2 (cell_keep (Below.refl _ _).drew ky); have HB2' : Hid (Below wc.heap.size wc w2) := (Below.refl wc.heap.size wc).drew.trans hb2; have fy2 : w2.frozen? ⟨g, y, none⟩ = false := (by rw [HB2'.out.frozen hgs1]; exact HFY.out); have HO2 := Lib.hid ho2; have HK2 := Lib.hid hblk2; clear ho2 hblk2 hb2))
    all_goals (
      have hog2 := HOG1.out.setRow (by decide) HB2'.out (by rw [HL1.out]; exact hy) HO2.out (fun k hk => HK2.out.elim (fun e => Or.inr (Or.inr ⟨_, ky, e ▸ hk⟩)) (fun f => Or.inl (f k hk)))
      have q1 := (HB11.out.keep HB2'.out).setOther (a := ⟨g, y, none⟩) (fun e => by simp at e; omega) (.slice a2 n2 c2)
      have q2 := (HB12.out.keep HB2'.out).setOther (a := ⟨g, y, none⟩) (fun e => by simp at e; omega) (.slice a2 n2 c2)
      have hbl2 : Below B w (w2.setCell ⟨g, y, none⟩ (.slice a2 n2 c2)) := (HBL1.out.trans (HB2'.out.mono (by omega))).setCell hBg _
      have hz2 : w0.heap.size ≤ (w2.setCell ⟨g, y, none⟩ (.slice a2 n2 c2)).heap.size := by rw [size_setCell1]; exact Nat.le_trans hz1 HB2'.out.size
      have bt2 : (w2.setCell ⟨g, y, none⟩ (.slice a2 n2 c2)).heap[w.heap.size + 1]? = some (.cells #[.slice none 0 0] 37 (0, 0)) := by rw [heap_setCell_other _ _ _ _ (fun e => by simp at e; omega), HB2'.out.block _ HB12.out.lt]; exact HBT1.out
      have hot2 : ∀ k, k < w.heap.size → k ≠ g → (w2.setCell ⟨g, y, none⟩ (.slice a2 n2 c2)).heap[k]? = w.heap[k]? := fun k hk hkg => by rw [heap_setCell_other _ _ _ _ hkg, HB2'.out.block _ (by omega)]; exact HOT1.out k hk hkg
      generalize w2.setCell ⟨g, y, none⟩ (.slice a2 n2 c2) = w3 at hog2 q1 q2 hbl2 hz2 bt2 hot2 ⊢
      have HOT3 := Lib.hid hot2
      have HBT3 := Lib.hid bt2
      have HO3 := Lib.hid hog2
      have Q1 := q1.1
      have Q2 := q2.1
      have Q3 := q2.2
      have HQ2 := Lib.hid q2
      have HBL3 := Lib.hid hbl2
      clear hog2 hbl2 q1 q2 bt2 hot2 kb2 ky2 fy2 kb1 ky
      go_wp2_with fail
      have q0 : (w3.setCell ⟨w.heap.size + 1, 0, none⟩ (.slice (some ⟨g, 0, none⟩) L.length cap)).cell? ⟨w.heap.size + 1, 0, none⟩ = some (.slice (some ⟨g, 0, none⟩) L.length cap) := cell_set_same _ HQ2.out.1
      refine bodyPost_ret (v := .agg #[.slice (some ⟨g, 0, none⟩) L.length cap]) (by simp [results, Try.results87, go_sem, q0]) rfl ⟨rfl, ?_, ?_, ?_⟩
      · rw [EL1.out]; exact HO3.out.setType HBT3.out (by decide) (by decide) 0 _
      · exact HBL3.out.setCell (by simp; omega) _
      · intro k hk hkg
        rw [heap_setCell_other _ _ _ _ (fun e => by simp at e; omega)]
        exact HOT3.out k hk hkg)

end Go.Proofs.Ytohjfcfcopbmoaa
