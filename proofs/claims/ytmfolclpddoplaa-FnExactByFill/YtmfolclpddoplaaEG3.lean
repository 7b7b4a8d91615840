/- Walks: all of a list become neighbours, and every row of the graph lies in the block of an old row or in a fresh one. (Written by tools/gen/cliqkeep.py.) -/
import Derived.Test.YtmfolclpddoplaaQEL1

namespace Go.Proofs.Ytmfolclpddoplaa
open Go.RowKit

/-- Every row of the grid in block g that lies in an old block lies where the same row lay. -/
def RowsOld (w w' : World) (g : Nat) : Prop := ∀ i v b, w'.cell? ⟨g, i, none⟩ = some v → v.ownBlock = some b → b < w.heap.size → ∃ v0, w.cell? ⟨g, i, none⟩ = some v0 ∧ v0.ownBlock = some b
theorem RowsOld.refl (w : World) (g : Nat) : RowsOld w w g := fun _ v _ h hb _ => ⟨v, h, hb⟩
theorem RowsOld.trans {w w1 w2 : World} {g : Nat} (h1 : RowsOld w w1 g) (h2 : RowsOld w1 w2 g) (hs : w.heap.size ≤ w1.heap.size) : RowsOld w w2 g := fun i v b h hb hlt => by
  obtain ⟨v1, e1, b1⟩ := h2 i v b h hb (by omega)
  exact h1 i v1 b e1 b1 hlt
theorem RowsOld.blk {w w' : World} {g : Nat} (h : w'.heap[g]? = w.heap[g]?) : RowsOld w w' g := fun i v b hc hb _ => ⟨v, by
  have e : w'.cell? ⟨g, i, none⟩ = w.cell? ⟨g, i, none⟩ := by simp only [World.cell?, h]
  rw [← e]; exact hc, hb⟩
theorem RowsOld.below {w w' : World} {g B : Nat} (hb : Below B w w') (hg : g < B) : RowsOld w w' g := RowsOld.blk (hb.block g hg)
theorem RowsOld.set {w w2 : World} {g x : Nat} {u0 v : Value} (h : RowsOld w w2 g) (hx : w2.cell? ⟨g, x, none⟩ = some u0) (hv : ∀ b, v.ownBlock = some b → b < w.heap.size → ∃ v0, w.cell? ⟨g, x, none⟩ = some v0 ∧ v0.ownBlock = some b) : RowsOld w (w2.setCell ⟨g, x, none⟩ v) g := fun i u b hc hb hlt => by
  by_cases e : i = x
  · subst e
    rw [cell_set_same v hx] at hc
    obtain rfl := Option.some.inj hc
    exact hv b hb hlt
  · rw [cell_set_other v (by simp only [ne_eq, Addr.mk.injEq]; omega)] at hc
    exact h i u b hc hb hlt
theorem RowsOld.other {w w2 : World} {g : Nat} {a : Addr} {v : Value} (h : RowsOld w w2 g) (ha : g ≠ a.block) : RowsOld w (w2.setCell a v) g := fun i u b hc hb hlt => by
  have e := heap_setCell_other w2 a g v ha
  have e2 : (w2.setCell a v).cell? ⟨g, i, none⟩ = w2.cell? ⟨g, i, none⟩ := by simp only [World.cell?, e]
  rw [e2] at hc
  exact h i u b hc hb hlt

set_option maxHeartbeats 1600000 in
theorem l1Link_keep (x y g cap B : Nat) (L : List (List Int)) (w : World) (h : OwnGrid 2 31 w B (.slice (some ⟨g, 0, none⟩) L.length cap) L) (hB : B ≤ w.heap.size) (hx : x < L.length) (hy : y < L.length) (hl : L.length ≤ 16) (hxy : x ≠ y) (Mx My : Nat) (ex : nthR L x = listM Mx) (ey : nthR L y = listM My) :
    Calls Try.prog 95 #[.agg #[.slice (some ⟨g, 0, none⟩) L.length cap], .int .i64 (x : Int), .int .i64 (y : Int)] w
      (fun e w' => e = .returned (.agg #[.slice (some ⟨g, 0, none⟩) L.length cap]) ∧ OwnGrid 2 31 w' B (.slice (some ⟨g, 0, none⟩) L.length cap) ((L.set x (listM (Mx ||| 2 ^ y))).set y (listM (My ||| 2 ^ x))) ∧ Below B w w' ∧ (∀ k, k < w.heap.size → k ≠ g → w'.heap[k]? = w.heap[k]?) ∧ RowsOld w w' g) := by
  have hbel0 : Below w.heap.size w ((w.alloc (.cells #[.slice (some ⟨g, 0, none⟩) L.length cap] 29)).alloc (.cells #[.slice none 0 0] 29)) := ((Below.refl _ _).alloc (Nat.le_refl _) _).alloc (by simp) _
  have b1 : BoxAt ((w.alloc (.cells #[.slice (some ⟨g, 0, none⟩) L.length cap] 29)).alloc (.cells #[.slice none 0 0] 29)) w.heap.size (.slice (some ⟨g, 0, none⟩) L.length cap) := ⟨by go_simp, by go_simp⟩
  have b2 : BoxAt ((w.alloc (.cells #[.slice (some ⟨g, 0, none⟩) L.length cap] 29)).alloc (.cells #[.slice none 0 0] 29)) (w.heap.size + 1) (.slice none 0 0) := ⟨by go_simp, by go_simp⟩
  have hog := h.keep hbel0
  have bt : ((w.alloc (.cells #[.slice (some ⟨g, 0, none⟩) L.length cap] 29)).alloc (.cells #[.slice none 0 0] 29)).heap[w.heap.size + 1]? = some (.cells #[.slice none 0 0] 29 (0, 0)) := by
    rw [← size_alloc1 w (.cells #[.slice (some ⟨g, 0, none⟩) L.length cap] 29)]
    exact heap_alloc_new _ _
  generalize hw0 : (w.alloc (.cells #[.slice (some ⟨g, 0, none⟩) L.length cap] 29)).alloc (.cells #[.slice none 0 0] 29) = w0 at hbel0 b1 b2 hog bt
  have HW0 := Lib.hid hw0
  clear hw0
  go_enter Try.func95, Try.ntmps95
  go_wp2
  rw [HW0.out]
  obtain ⟨g', cap', eg, hBg, hgs, hcell⟩ := hog.place (by omega)
  simp only [Value.slice.injEq, Option.some.injEq, Addr.mk.injEq, and_true, true_and] at eg
  obtain ⟨rfl, rfl⟩ := eg
  have hgw : g < w.heap.size := by
    obtain ⟨g2, cap2, eg2, _, hgs2, _⟩ := h.place (by omega)
    simp only [Value.slice.injEq, Option.some.injEq, Addr.mk.injEq, and_true, true_and] at eg2
    obtain ⟨rfl, rfl⟩ := eg2
    exact hgs2
  obtain ⟨ax, nx, cx, kx, fx, hox⟩ := hcell x hx
  rw [ex] at hox
  have kb := b1.1
  have HOX := Lib.hid hox
  have HOG := Lib.hid hog
  have HB1 := Lib.hid b1
  have HB2 := Lib.hid b2
  have HBL := Lib.hid hbel0
  have HFX := Lib.hid fx
  have HBT := Lib.hid bt
  have EX := Lib.hid ex
  have EY := Lib.hid ey
  have hz0 : w.heap.size ≤ w0.heap.size := hbel0.size
  have hlx : (x : Int) < L.length := by omega
  have hly : (y : Int) < L.length := by omega
  clear hox hog b1 b2 hbel0 fx h hcell ex ey bt
  go_cut [] from 7 (fun wx => OwnGrid 2 31 wx B (.slice (some ⟨g, 0, none⟩) L.length cap) (L.set x (listM (Mx ||| 2 ^ y))) ∧ BoxAt wx w.heap.size (.slice (some ⟨g, 0, none⟩) L.length cap) ∧ BoxAt wx (w.heap.size + 1) (.slice none 0 0) ∧ Below B w wx ∧ w0.heap.size ≤ wx.heap.size ∧ wx.heap[w.heap.size + 1]? = some (.cells #[.slice none 0 0] 29 (0, 0)) ∧ (∀ k, k < w.heap.size → k ≠ g → wx.heap[k]? = w.heap[k]?) ∧ RowsOld w wx g)
  case first =>
    go_region_law (first | (go_simp; go_at_call 127; refine (l1Into_own _ Mx y B _ (HOX.out.keep (Below.refl _ _).drew) (by show B ≤ w0.heap.size; omega) (by omega)).mono ?_; rintro e w2 ⟨n2, a2, c2, rfl, ho2, hblk2, hb2⟩; have kb2 := cell_keep hb2 (cell_keep (Below.refl _ _).drew kb); have kx2 := cell_keep hb2 (cell_keep (Below.refl _ _).drew kx); have HB2' : Hid (Below w0.heap.size w0 w2) := (Below.refl w0.heap.size w0).drew.trans hb2; have fx2 : w2.frozen? ⟨g, x, none⟩ = false := (by rw [HB2'.out.frozen hgs]; exact HFX.out); have HO2 := Lib.hid ho2; have HK2 := Lib.hid hblk2; clear ho2 hblk2 hb2))
    all_goals (
      go_wp2_with fail
      go_meet
      exact ⟨HOG.out.setRow (by decide) HB2'.out hx HO2.out (fun k hk => HK2.out.elim (fun e => Or.inr (Or.inr ⟨_, kx, e ▸ hk⟩)) (fun f => Or.inl (f k hk))), (HB1.out.keep HB2'.out).setOther (fun e => by simp at e; omega) _, (HB2.out.keep HB2'.out).setOther (fun e => by simp at e; omega) _, ((HBL.out.mono hB).trans (HB2'.out.mono (Nat.le_trans hB hz0))).setCell hBg _, by rw [size_setCell1]; exact HB2'.out.size, by rw [heap_setCell_other _ _ _ _ (fun e => by simp at e; omega), HB2'.out.block _ HB2.out.lt]; exact HBT.out, fun k hk hkg => by rw [heap_setCell_other _ _ _ _ hkg, HB2'.out.block _ (by omega)]; exact HBL.out.block k hk, (RowsOld.below HBL.out hgw).trans ((RowsOld.below HB2'.out (by omega)).set kx2 (fun b hb hlt => HK2.out.elim (fun e => ⟨_, kx, e ▸ hb⟩) (fun f => absurd (f b hb) (by show ¬ (w0.heap.size ≤ b); omega)))) hz0⟩)
  case rest =>
    obtain ⟨hog1, b11, b12, hbl1, hz1, bt1, hot1, hro1⟩ := hcut
    have HRO1 := Lib.hid hro1
    clear hro1
    have hl1 : (L.set x (listM (Mx ||| 2 ^ y))).length = L.length := by simp
    have ey1 : nthR (L.set x (listM (Mx ||| 2 ^ y))) y = listM My := by
      rw [← EY.out]; unfold nthR
      rw [List.getD_eq_getElem?_getD, List.getD_eq_getElem?_getD, List.getElem?_set_ne hxy]
    generalize hL1 : L.set x (listM (Mx ||| 2 ^ y)) = L1 at hog1 hl1 ey1
    have EL1 := Lib.hid hL1
    clear hL1
    obtain ⟨g', cap', eg, hBg1, hgs1, hcell1⟩ := hog1.place (by omega)
    simp only [Value.slice.injEq, Option.some.injEq, Addr.mk.injEq, and_true] at eg
    obtain ⟨rfl, e9, rfl⟩ := eg
    clear e9
    obtain ⟨ay, ny, cy, ky, fy, hoy⟩ := hcell1 y (by omega)
    rw [ey1] at hoy
    have kb1 := b11.1
    have HOY := Lib.hid hoy
    have HOG1 := Lib.hid hog1
    have HB11 := Lib.hid b11
    have HB12 := Lib.hid b12
    have HBL1 := Lib.hid hbl1
    have HFY := Lib.hid fy
    have HL1 := Lib.hid hl1
    have HBT1 := Lib.hid bt1
    have HOT1 := Lib.hid hot1
    clear hoy hog1 b11 b12 hbl1 fy hcell1 ey1 hl1 bt1 hot1 kb kx
    go_wp2_with fail
    go_region_law (first | (go_simp; go_at_call 127; refine (l1Into_own _ My x B _ (HOY.out.keep (Below.refl _ _).drew) (by show B ≤ wc.heap.size; omega) (by omega)).mono ?_; rintro e w2 ⟨n2, a2, c2, rfl, ho2, hblk2, hb2⟩; have kb2 := cell_keep hb2 (cell_keep (Below.refl _ _).drew kb1); have ky2 := cell_keep hb2 (cell_keep (Below.refl _ _).drew ky); have HB2' : Hid (Below wc.heap.size wc w2) := (Below.refl wc.heap.size wc).drew.trans hb2; have fy2 : w2.frozen? ⟨g, y, none⟩ = false := (by rw [HB2'.out.frozen hgs1]; exact HFY.out); have HO2 := Lib.hid ho2; have HK2 := Lib.hid hblk2; clear ho2 hblk2 hb2))
    all_goals (
      have hog2 := HOG1.out.setRow (by decide) HB2'.out (by rw [HL1.out]; exact hy) HO2.out (fun k hk => HK2.out.elim (fun e => Or.inr (Or.inr ⟨_, ky, e ▸ hk⟩)) (fun f => Or.inl (f k hk)))
      have q1 := (HB11.out.keep HB2'.out).setOther (a := ⟨g, y, none⟩) (fun e => by simp at e; omega) (.slice a2 n2 c2)
      have q2 := (HB12.out.keep HB2'.out).setOther (a := ⟨g, y, none⟩) (fun e => by simp at e; omega) (.slice a2 n2 c2)
      have hbl2 : Below B w (w2.setCell ⟨g, y, none⟩ (.slice a2 n2 c2)) := (HBL1.out.trans (HB2'.out.mono (by omega))).setCell hBg _
      have hz2 : w0.heap.size ≤ (w2.setCell ⟨g, y, none⟩ (.slice a2 n2 c2)).heap.size := by rw [size_setCell1]; exact Nat.le_trans hz1 HB2'.out.size
      have bt2 : (w2.setCell ⟨g, y, none⟩ (.slice a2 n2 c2)).heap[w.heap.size + 1]? = some (.cells #[.slice none 0 0] 29 (0, 0)) := by rw [heap_setCell_other _ _ _ _ (fun e => by simp at e; omega), HB2'.out.block _ HB12.out.lt]; exact HBT1.out
      have hot2 : ∀ k, k < w.heap.size → k ≠ g → (w2.setCell ⟨g, y, none⟩ (.slice a2 n2 c2)).heap[k]? = w.heap[k]? := fun k hk hkg => by rw [heap_setCell_other _ _ _ _ hkg, HB2'.out.block _ (by omega)]; exact HOT1.out k hk hkg
      have hro2 : RowsOld w (w2.setCell ⟨g, y, none⟩ (.slice a2 n2 c2)) g := HRO1.out.trans ((RowsOld.below HB2'.out hgs1).set ky2 (fun b hb hlt => HK2.out.elim (fun e => ⟨_, ky, e ▸ hb⟩) (fun f => absurd (f b hb) (by show ¬ (wc.heap.size ≤ b); omega)))) (by omega)
      generalize w2.setCell ⟨g, y, none⟩ (.slice a2 n2 c2) = w3 at hog2 q1 q2 hbl2 hz2 bt2 hot2 hro2 ⊢
      have HRO3 := Lib.hid hro2
      have HOT3 := Lib.hid hot2
      have HBT3 := Lib.hid bt2
      have HO3 := Lib.hid hog2
      have Q1 := q1.1
      have Q2 := q2.1
      have Q3 := q2.2
      have HQ2 := Lib.hid q2
      have HBL3 := Lib.hid hbl2
      clear hog2 hbl2 q1 q2 bt2 hot2 hro2 kb2 ky2 fy2 kb1 ky
      go_wp2_with fail
      have q0 : (w3.setCell ⟨w.heap.size + 1, 0, none⟩ (.slice (some ⟨g, 0, none⟩) L.length cap)).cell? ⟨w.heap.size + 1, 0, none⟩ = some (.slice (some ⟨g, 0, none⟩) L.length cap) := cell_set_same _ HQ2.out.1
      refine bodyPost_ret (v := .agg #[.slice (some ⟨g, 0, none⟩) L.length cap]) (by simp [results, Try.results95, go_sem, q0]) rfl ⟨rfl, ?_, ?_, ?_, HRO3.out.other (by simp; omega)⟩
      · rw [EL1.out]; exact HO3.out.setType HBT3.out (by decide) (by decide) 0 _
      · exact HBL3.out.setCell (by simp; omega) _
      · intro k hk hkg
        rw [heap_setCell_other _ _ _ _ (fun e => by simp at e; omega)]
        exact HOT3.out k hk hkg)


/-- Two vertices joined in the model's graph, as a graph by who is near whom. -/
theorem l1Link_adjK (x y g cap B n : Nat) (A : Nat → Nat → Bool) (w : World) (h : OwnGrid 2 31 w B (.slice (some ⟨g, 0, none⟩) n cap) (adjL n A)) (hB : B ≤ w.heap.size) (hx : x < n) (hy : y < n) (hl : n ≤ 16) (hxy : x ≠ y) :
    Calls Try.prog 95 #[.agg #[.slice (some ⟨g, 0, none⟩) n cap], .int .i64 (x : Int), .int .i64 (y : Int)] w
      (fun e w' => e = .returned (.agg #[.slice (some ⟨g, 0, none⟩) n cap]) ∧ OwnGrid 2 31 w' B (.slice (some ⟨g, 0, none⟩) n cap) (adjL n (linkA A x y)) ∧ Below B w w' ∧ (∀ k, k < w.heap.size → k ≠ g → w'.heap[k]? = w.heap[k]?) ∧ RowsOld w w' g) := by
  have hlen := adjL_len n A
  have := l1Link_keep x y g cap B (adjL n A) w (by rw [hlen]; exact h) hB (by rw [hlen]; exact hx) (by rw [hlen]; exact hy) (by rw [hlen]; exact hl) hxy (pm (A x)) (pm (A y)) (adjL_nth _ hx) (adjL_nth _ hy)
  rw [hlen] at this
  have e : ((adjL n A).set x (listM (pm (A x) ||| 2 ^ y))).set y (listM (pm (A y) ||| 2 ^ x)) = adjL n (linkA A x y) := by
    have := maskL_link n (fun i => pm (A i)) x y hxy
    rw [adjL, this, adjL]
    apply nthR_ext
    · rw [maskL_len, maskL_len]
    · intro i hi
      rw [maskL_len] at hi
      rw [maskL_nth _ hi, maskL_nth _ hi, linkM_pm A (by omega) (by omega) hxy]
  rw [e] at this
  exact this

/-- At work: the boxes of the argument and the result, the graph, the rest of the heap. -/
structure CliqK (w0 : World) (B g n cap : Nat) (R : Nat → Nat → Bool) (w : World) : Prop where
  arg : BoxT 29 w w0.heap.size (.slice (some ⟨g, 0, none⟩) n cap)
  res : BoxT 29 w (w0.heap.size + 1) (.slice none 0 0)
  gr : OwnGrid 2 31 w B (.slice (some ⟨g, 0, none⟩) n cap) (adjL n R)
  bel : Below B w0 w
  oth : ∀ k, k < w0.heap.size → k ≠ g → w.heap[k]? = w0.heap[k]?
  sz : w0.heap.size + 1 + 1 ≤ w.heap.size
  old : RowsOld w0 w g
  glt : g < w0.heap.size
theorem CliqK.keep {w0 : World} {B g n cap : Nat} {R : Nat → Nat → Bool} {w w' : World} (h : CliqK w0 B g n cap R w) (hb : Below w.heap.size w w') (hB : B ≤ w0.heap.size) : CliqK w0 B g n cap R w' := by
  have hs := h.sz
  exact ⟨h.arg.keep hb, h.res.keep hb, h.gr.keep hb, h.bel.trans (hb.mono (by omega)), fun k hk hkg => by rw [hb.block k (by omega)]; exact h.oth k hk hkg, Nat.le_trans hs hb.size, h.old.trans (RowsOld.below hb (by have := h.glt; omega)) (by omega), h.glt⟩

set_option maxHeartbeats 4000000 in
set_option maxRecDepth 100000 in
theorem l7Clique_keep (g n cap B B2 : Nat) (lv : Value) (A : Nat → Nat → Bool) (S : Nat → Bool) (w : World) (h : OwnGrid 2 31 w B (.slice (some ⟨g, 0, none⟩) n cap) (adjL n A)) (hB : B ≤ w.heap.size) (hgs : g < w.heap.size) (hn : 1 ≤ n ∧ n ≤ 16)
    (hl : OwnRow 2 w B2 lv (listM (pm S))) (hg2 : g < B2) (hS : ∀ u, S u = true → u < n) :
    Calls Try.prog 110 #[.agg #[.slice (some ⟨g, 0, none⟩) n cap], lv] w
      (fun e w' => e = .returned (.agg #[.slice (some ⟨g, 0, none⟩) n cap]) ∧ OwnGrid 2 31 w' B (.slice (some ⟨g, 0, none⟩) n cap) (adjL n (cliqueA A S)) ∧ Below B w w' ∧ w.heap.size ≤ w'.heap.size ∧ (∀ k, k < w.heap.size → k ≠ g → w'.heap[k]? = w.heap[k]?) ∧ RowsOld w w' g) := by
  obtain ⟨a1, c1, rfl⟩ := hl.row.slice
  obtain ⟨xs, hxs⟩ : ∃ xs, xs = listM (pm S) := ⟨_, rfl⟩
  have hlen := listM_len (pm S)
  have HV : Hid (∀ k, k < xs.length → ∃ u : Nat, nth xs k = (u : Int) ∧ u = vtxN xs k ∧ u < n) := fun k hk => by
    subst hxs
    obtain ⟨h1, h2, h3⟩ := vtx_listM hk
    exact ⟨_, h3, rfl, hS _ h1⟩
  have HI : Hid (∀ i k, i < xs.length → k < xs.length → vtxN xs i = vtxN xs k → i = k) := fun i k hi hk e => by subst hxs; exact vtx_inj hi hk e
  have HALL : Hid (clA A xs xs.length 0 = cliqueA A S) := by subst hxs; exact clA_all (fun u hu => by have := hS u hu; omega)
  rw [← hxs] at hl hlen ⊢
  have HL := Lib.hid hl
  have HW0 : Hid (CliqK w B g n cap (clA A xs 0 0) ((w.alloc (.cells #[.slice (some ⟨g, 0, none⟩) n cap] 29)).alloc (.cells #[.slice none 0 0] 29))) := by
    have hb1 : Below w.heap.size w (w.alloc (.cells #[.slice (some ⟨g, 0, none⟩) n cap] 29)) := (Below.refl _ _).alloc (Nat.le_refl _) _
    have hb2 : Below w.heap.size w ((w.alloc (.cells #[.slice (some ⟨g, 0, none⟩) n cap] 29)).alloc (.cells #[.slice none 0 0] 29)) := hb1.alloc hb1.size _
    refine ⟨heap_alloc2_old w _ _, ?_, ?_, hb2.mono hB, fun k hk _ => hb2.block k hk, by simp, RowsOld.below hb2 hgs, hgs⟩
    · have := BoxT.new (w.alloc (.cells #[.slice (some ⟨g, 0, none⟩) n cap] 29)) (.slice none 0 0) 29
      rwa [size_alloc1] at this
    · rw [clA_zero]; exact h.keep hb2
  clear h hl hxs hS
  go_enter Try.func110, Try.ntmps110
  go_wp2_with fail
  go_loopw [5] (fun i wr => ∃ k : Nat, k ≤ xs.length ∧ i = .int .i64 k ∧ CliqK w B g n cap (clA A xs k 0) wr) (fun i _ => xs.length - (intOf i).toNat)
  case atStart => exact ⟨0, Nat.zero_le _, rfl, HW0.out⟩
  case round =>
    obtain ⟨i, hi, rfl, hw⟩ := hrel
    have HW := Lib.hid hw
    clear hw
    by_cases hlt : i < xs.length
    · go_wp2_with fail
      go_loopw [6] (fun q wr => ∃ k : Nat, k ≤ i ∧ q = .int .i64 k ∧ CliqK w B g n cap (clA A xs i k) wr) (fun q _ => i - (intOf q).toNat)
      case atStart => exact ⟨0, Nat.zero_le _, rfl, HW.out⟩
      case round =>
        rename World => w4
        obtain ⟨k, hk, rfl, hw⟩ := hrel
        have HW4 := Lib.hid hw
        by_cases hql : k < i
        · obtain ⟨x, hx, hxv, hxn⟩ := HV.out k (by omega)
          obtain ⟨y, hy, hyv, hyn⟩ := HV.out i hlt
          have hxy : x ≠ y := fun e => by
            have := HI.out k i (by omega) hlt (by rw [← hxv, ← hyv, e])
            omega
          have HS : Hid (clA A xs i (k + 1) = linkA (clA A xs i k) x y) := by show _ = _; rw [clA_link A xs hql, ← hxv, ← hyv]
          have kb := hw.arg.box.1
          have hrow : OwnRow 2 w4 B2 (.slice a1 xs.length c1) xs := by
            obtain ⟨p1, p2, p3⟩ := HL.out
            refine ⟨p1, p2, ?_⟩
            rcases p3 with p3 | ⟨g3, cap3, cur3, e3, hg3, hh3, r3⟩
            · exact Or.inl p3
            · refine Or.inr ⟨g3, cap3, cur3, e3, hg3, ?_, r3⟩
              rw [hw.oth g3 (Array.getElem?_eq_some_iff.1 hh3).1 (by omega)]
              exact hh3
          obtain ⟨bx, ox, cx, ex, lx1, lx2, hcx⟩ := hrow.row.pos (by omega)
          simp only [Value.slice.injEq, true_and] at ex
          obtain ⟨rfl, rfl⟩ := ex
          have kk := hcx k (by omega)
          have ki := hcx i hlt
          rw [hx] at kk
          rw [hy] at ki
          have hkI : (k : Int) < (xs.length : Int) := by omega
          have hiI : (i : Int) < (xs.length : Int) := by omega
          clear hw hcx hrow hx hy hxv hyv
          go_wp2_with fail
          go_still_tail 9, (by kernel_rfl)
          change wpList _ _ _ _ _ w4.drew
          have HW5 := Lib.hid (HW4.out.keep (Below.refl _ _).drew hB)
          clear HW4 kb kk ki
          generalize w4.drew = w5 at HW5 ⊢
          go_wp2_with fail
          refine (l1Link_adjK x y g cap B n _ _ HW5.out.gr (by have := HW5.out.sz; omega) hxn hyn hn.2 hxy).mono ?_
          rintro e w6 ⟨rfl, ho6, hb6, ht6, hro6⟩
          rw [← HS.out] at ho6
          have hsz5 := HW5.out.sz
          have hne : w.heap.size ≠ g := by omega
          have bt6 : BoxT 29 w6 w.heap.size (.slice (some ⟨g, 0, none⟩) n cap) := by
            unfold BoxT
            rw [ht6 _ HW5.out.arg.lt hne]
            exact HW5.out.arg
          have kb6 := bt6.box.1
          have kf6 := bt6.box.2
          have HW6 : Hid (CliqK w B g n cap (clA A xs i (k + 1)) (w6.setCell ⟨w.heap.size, 0, none⟩ (.slice (some ⟨g, 0, none⟩) n cap))) := by
            refine ⟨bt6.set _, ?_, ho6.setType bt6 (by decide) (by decide) 0 _, (HW5.out.bel.trans hb6).setCell (by simp; omega) _, fun j hj hjg => ?_, by rw [size_setCell1]; have := hb6.size; omega, (HW5.out.old.trans hro6 (by omega)).other (by simp; omega), HW5.out.glt⟩
            · have hr : BoxT 29 w6 (w.heap.size + 1) (.slice none 0 0) := by
                unfold BoxT
                rw [ht6 _ HW5.out.res.lt (by omega)]
                exact HW5.out.res
              exact hr.setOther (by simp) _
            · rw [heap_setCell_other _ _ _ _ (by simp; omega), ht6 j (by omega) hjg]
              exact HW5.out.oth j hj hjg
          clear bt6 ho6 hb6 ht6 hro6 HW5
          go_wp2
          go_roundw
          case rel => exact ⟨k + 1, by omega, by go_num, HW6.out⟩
          case measure => simp [intOf]; omega
        · obtain rfl : k = i := by omega
          clear hw
          go_wp2
          go_roundw
          case rel => exact ⟨k + 1, by omega, by go_num, by rw [← clA_next]; exact HW4.out⟩
          case measure => simp [intOf]; omega
    · obtain rfl : i = xs.length := by omega
      have kb := HW.out.arg.box.1
      have kr := HW.out.res.box.1
      have kf := HW.out.res.box.2
      go_wp2
      have q0 : (wr.setCell ⟨w.heap.size + 1, 0, none⟩ (.slice (some ⟨g, 0, none⟩) n cap)).cell? ⟨w.heap.size + 1, 0, none⟩ = some (.slice (some ⟨g, 0, none⟩) n cap) := cell_set_same _ HW.out.res.box.1
      have hsz := HW.out.sz
      refine bodyPost_ret (v := .agg #[.slice (some ⟨g, 0, none⟩) n cap]) (by simp [results, Try.results110, go_sem, q0]) rfl ⟨rfl, ?_, HW.out.bel.setCell (by simp; omega) _, by rw [size_setCell1]; omega, fun k hk hkg => ?_, HW.out.old.other (by have := HW.out.glt; simp; omega)⟩
      · have ho := HW.out.gr
        rw [HALL.out] at ho
        exact ho.setType HW.out.res (by decide) (by decide) 0 _
      · rw [heap_setCell_other _ _ _ _ (by simp; omega)]
        exact HW.out.oth k hk hkg

end Go.Proofs.Ytmfolclpddoplaa
