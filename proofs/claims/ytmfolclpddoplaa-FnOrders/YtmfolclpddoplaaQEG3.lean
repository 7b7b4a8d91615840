/- The texts EG3, EG4, joined. -/
import Derived.Test.YtmfolclpddoplaaQEL1
import Derived.Test.YtmfolclpddoplaaQEG1
import Derived.Test.YtmfolclpddoplaaQER6
import Derived.Test.YtmfolclpddoplaaQEC2
import Derived.Test.YtmfolclpddoplaaQJ5
import Derived.Deep.AppendLies
import Derived.BigQuiet

/- Walks: all of a list become neighbours, and every row of the graph lies in the block of an old row or in a fresh one. (Written by tools/gen/cliqkeep.py.) -/
namespace Go.Proofs.Ytmfolclpddoplaa
open Go.RowKit

/-- Every row of the grid in block g that lies in an old block lies where the same row lay. -/
def RowsOld (w w' : World) (g : Nat) : Prop := ∀ i v b, w'.cell? ⟨g, i, none⟩ = some v → v.ownBlock = some b → b < w.heap.size → ∃ v0, w.cell? ⟨g, i, none⟩ = some v0 ∧ v0.ownBlock = some b
theorem RowsOld.refl (w : World) (g : Nat) : RowsOld w w g := fun _ v _ h hb _ => ⟨v, h, hb⟩
theorem RowsOld.trans {w w1 w2 : World} {g : Nat} (h1 : RowsOld w w1 g) (h2 : RowsOld w1 w2 g) (hs : w.heap.size ≤ w1.heap.size) : RowsOld w w2 g := fun i v b h hb hlt => by
  obtain ⟨v1, e1, b1⟩ := h2 i v b h hb (by omega)
  exact h1 i v1 b e1 b1 hlt
theorem RowsOld.blk {w w' : World} {g : Nat} (h : w'.heap[g]? = w.heap[g]?) : RowsOld w w' g := fun i v b hc hb _ => ⟨v, by
  have e : w'.cell? ⟨g, i, none⟩ = w.cell? ⟨g, i, none⟩ := by simp only [World.cell?, h]
  rw [← e]; exact hc, hb⟩
theorem RowsOld.below {w w' : World} {g B : Nat} (hb : Below B w w') (hg : g < B) : RowsOld w w' g := RowsOld.blk (hb.block g hg)
theorem RowsOld.set {w w2 : World} {g x : Nat} {u0 v : Value} (h : RowsOld w w2 g) (hx : w2.cell? ⟨g, x, none⟩ = some u0) (hv : ∀ b, v.ownBlock = some b → b < w.heap.size → ∃ v0, w.cell? ⟨g, x, none⟩ = some v0 ∧ v0.ownBlock = some b) : RowsOld w (w2.setCell ⟨g, x, none⟩ v) g := fun i u b hc hb hlt => by
  by_cases e : i = x
  · subst e
    rw [cell_set_same v hx] at hc
    obtain rfl := Option.some.inj hc
    exact hv b hb hlt
  · rw [cell_set_other v (by simp only [ne_eq, Addr.mk.injEq]; omega)] at hc
    exact h i u b hc hb hlt
theorem RowsOld.other {w w2 : World} {g : Nat} {a : Addr} {v : Value} (h : RowsOld w w2 g) (ha : g ≠ a.block) : RowsOld w (w2.setCell a v) g := fun i u b hc hb hlt => by
  have e := heap_setCell_other w2 a g v ha
  have e2 : (w2.setCell a v).cell? ⟨g, i, none⟩ = w2.cell? ⟨g, i, none⟩ := by simp only [World.cell?, e]
  rw [e2] at hc
  exact h i u b hc hb hlt

set_option maxHeartbeats 1600000 in
theorem l1Link_keep (x y g cap B : Nat) (L : List (List Int)) (w : World) (h : OwnGrid 2 31 w B (.slice (some ⟨g, 0, none⟩) L.length cap) L) (hB : B ≤ w.heap.size) (hx : x < L.length) (hy : y < L.length) (hl : L.length ≤ 16) (hxy : x ≠ y) (Mx My : Nat) (ex : nthR L x = listM Mx) (ey : nthR L y = listM My) :
    Calls Try.prog 95 #[.agg #[.slice (some ⟨g, 0, none⟩) L.length cap], .int .i64 (x : Int), .int .i64 (y : Int)] w
      (fun e w' => e = .returned (.agg #[.slice (some ⟨g, 0, none⟩) L.length cap]) ∧ OwnGrid 2 31 w' B (.slice (some ⟨g, 0, none⟩) L.length cap) ((L.set x (listM (Mx ||| 2 ^ y))).set y (listM (My ||| 2 ^ x))) ∧ Below B w w' ∧ (∀ k, k < w.heap.size → k ≠ g → w'.heap[k]? = w.heap[k]?) ∧ RowsOld w w' g) := by
  have hbel0 : Below w.heap.size w ((w.alloc (.cells #[.slice (some ⟨g, 0, none⟩) L.length cap] 29)).alloc (.cells #[.slice none 0 0] 29)) := ((Below.refl _ _).alloc (Nat.le_refl _) _).alloc (by simp) _
  have b1 : BoxAt ((w.alloc (.cells #[.slice (some ⟨g, 0, none⟩) L.length cap] 29)).alloc (.cells #[.slice none 0 0] 29)) w.heap.size (.slice (some ⟨g, 0, none⟩) L.length cap) := ⟨by go_simp, by go_simp⟩
  have b2 : BoxAt ((w.alloc (.cells #[.slice (some ⟨g, 0, none⟩) L.length cap] 29)).alloc (.cells #[.slice none 0 0] 29)) (w.heap.size + 1) (.slice none 0 0) := ⟨by go_simp, by go_simp⟩
  have hog := h.keep hbel0
  have bt : ((w.alloc (.cells #[.slice (some ⟨g, 0, none⟩) L.length cap] 29)).alloc (.cells #[.slice none 0 0] 29)).heap[w.heap.size + 1]? = some (.cells #[.slice none 0 0] 29 (0, 0)) := by
    rw [← size_alloc1 w (.cells #[.slice (some ⟨g, 0, none⟩) L.length cap] 29)]
    exact heap_alloc_new _ _
  generalize hw0 : (w.alloc (.cells #[.slice (some ⟨g, 0, none⟩) L.length cap] 29)).alloc (.cells #[.slice none 0 0] 29) = w0 at hbel0 b1 b2 hog bt
  have HW0 := Lib.hid hw0
  clear hw0
  go_enter Try.func95, Try.ntmps95
  go_wp2
  rw [HW0.out]
  obtain ⟨g', cap', eg, hBg, hgs, hcell⟩ := hog.place (by omega)
  simp only [Value.slice.injEq, Option.some.injEq, Addr.mk.injEq, and_true, true_and] at eg
  obtain ⟨rfl, rfl⟩ := eg
  have hgw : g < w.heap.size := by
    obtain ⟨g2, cap2, eg2, _, hgs2, _⟩ := h.place (by omega)
    simp only [Value.slice.injEq, Option.some.injEq, Addr.mk.injEq, and_true, true_and] at eg2
    obtain ⟨rfl, rfl⟩ := eg2
    exact hgs2
  obtain ⟨ax, nx, cx, kx, fx, hox⟩ := hcell x hx
  rw [ex] at hox
  have kb := b1.1
  have HOX := Lib.hid hox
  have HOG := Lib.hid hog
  have HB1 := Lib.hid b1
  have HB2 := Lib.hid b2
  have HBL := Lib.hid hbel0
  have HFX := Lib.hid fx
  have HBT := Lib.hid bt
  have EX := Lib.hid ex
  have EY := Lib.hid ey
  have hz0 : w.heap.size ≤ w0.heap.size := hbel0.size
  have hlx : (x : Int) < L.length := by omega
  have hly : (y : Int) < L.length := by omega
  clear hox hog b1 b2 hbel0 fx h hcell ex ey bt
  go_cut [] from 7 (fun wx => OwnGrid 2 31 wx B (.slice (some ⟨g, 0, none⟩) L.length cap) (L.set x (listM (Mx ||| 2 ^ y))) ∧ BoxAt wx w.heap.size (.slice (some ⟨g, 0, none⟩) L.length cap) ∧ BoxAt wx (w.heap.size + 1) (.slice none 0 0) ∧ Below B w wx ∧ w0.heap.size ≤ wx.heap.size ∧ wx.heap[w.heap.size + 1]? = some (.cells #[.slice none 0 0] 29 (0, 0)) ∧ (∀ k, k < w.heap.size → k ≠ g → wx.heap[k]? = w.heap[k]?) ∧ RowsOld w wx g)
  case first =>
    go_region_law (first | (go_simp; go_at_call 127; refine (l1Into_own _ Mx y B _ (HOX.out.keep (Below.refl _ _).drew) (by show B ≤ w0.heap.size; omega) (by omega)).mono ?_; rintro e w2 ⟨n2, a2, c2, rfl, ho2, hblk2, hb2⟩; have kb2 := cell_keep hb2 (cell_keep (Below.refl _ _).drew kb); have kx2 := cell_keep hb2 (cell_keep (Below.refl _ _).drew kx); have HB2' : Hid (Below w0.heap.size w0 w2) := (Below.refl w0.heap.size w0).drew.trans hb2; have fx2 : w2.frozen? ⟨g, x, none⟩ = false := (by rw [HB2'.out.frozen hgs]; exact HFX.out); have HO2 := Lib.hid ho2; have HK2 := Lib.hid hblk2; clear ho2 hblk2 hb2))
    all_goals (
      go_wp2_with fail
      go_meet
      exact ⟨HOG.out.setRow (by decide) HB2'.out hx HO2.out (fun k hk => HK2.out.elim (fun e => Or.inr (Or.inr ⟨_, kx, e ▸ hk⟩)) (fun f => Or.inl (f k hk))), (HB1.out.keep HB2'.out).setOther (fun e => by simp at e; omega) _, (HB2.out.keep HB2'.out).setOther (fun e => by simp at e; omega) _, ((HBL.out.mono hB).trans (HB2'.out.mono (Nat.le_trans hB hz0))).setCell hBg _, by rw [size_setCell1]; exact HB2'.out.size, by rw [heap_setCell_other _ _ _ _ (fun e => by simp at e; omega), HB2'.out.block _ HB2.out.lt]; exact HBT.out, fun k hk hkg => by rw [heap_setCell_other _ _ _ _ hkg, HB2'.out.block _ (by omega)]; exact HBL.out.block k hk, (RowsOld.below HBL.out hgw).trans ((RowsOld.below HB2'.out (by omega)).set kx2 (fun b hb hlt => HK2.out.elim (fun e => ⟨_, kx, e ▸ hb⟩) (fun f => absurd (f b hb) (by show ¬ (w0.heap.size ≤ b); omega)))) hz0⟩)
  case rest =>
    obtain ⟨hog1, b11, b12, hbl1, hz1, bt1, hot1, hro1⟩ := hcut
    have HRO1 := Lib.hid hro1
    clear hro1
    have hl1 : (L.set x (listM (Mx ||| 2 ^ y))).length = L.length := by simp
    have ey1 : nthR (L.set x (listM (Mx ||| 2 ^ y))) y = listM My := by
      rw [← EY.out]; unfold nthR
      rw [List.getD_eq_getElem?_getD, List.getD_eq_getElem?_getD, List.getElem?_set_ne hxy]
    generalize hL1 : L.set x (listM (Mx ||| 2 ^ y)) = L1 at hog1 hl1 ey1
    have EL1 := Lib.hid hL1
    clear hL1
    obtain ⟨g', cap', eg, hBg1, hgs1, hcell1⟩ := hog1.place (by omega)
    simp only [Value.slice.injEq, Option.some.injEq, Addr.mk.injEq, and_true] at eg
    obtain ⟨rfl, e9, rfl⟩ := eg
    clear e9
    obtain ⟨ay, ny, cy, ky, fy, hoy⟩ := hcell1 y (by omega)
    rw [ey1] at hoy
    have kb1 := b11.1
    have HOY := Lib.hid hoy
    have HOG1 := Lib.hid hog1
    have HB11 := Lib.hid b11
    have HB12 := Lib.hid b12
    have HBL1 := Lib.hid hbl1
    have HFY := Lib.hid fy
    have HL1 := Lib.hid hl1
    have HBT1 := Lib.hid bt1
    have HOT1 := Lib.hid hot1
    clear hoy hog1 b11 b12 hbl1 fy hcell1 ey1 hl1 bt1 hot1 kb kx
    go_wp2_with fail
    go_region_law (first | (go_simp; go_at_call 127; refine (l1Into_own _ My x B _ (HOY.out.keep (Below.refl _ _).drew) (by show B ≤ wc.heap.size; omega) (by omega)).mono ?_; rintro e w2 ⟨n2, a2, c2, rfl, ho2, hblk2, hb2⟩; have kb2 := cell_keep hb2 (cell_keep (Below.refl _ _).drew kb1); have ky2 := cell_keep hb2 (cell_keep (Below.refl _ _).drew ky); have HB2' : Hid (Below wc.heap.size wc w2) := (Below.refl wc.heap.size wc).drew.trans hb2; have fy2 : w2.frozen? ⟨g, y, none⟩ = false := (by rw [HB2'.out.frozen hgs1]; exact HFY.out); have HO2 := Lib.hid ho2; have HK2 := Lib.hid hblk2; clear ho2 hblk2 hb2))
    all_goals (
      have hog2 := HOG1.out.setRow (by decide) HB2'.out (by rw [HL1.out]; exact hy) HO2.out (fun k hk => HK2.out.elim (fun e => Or.inr (Or.inr ⟨_, ky, e ▸ hk⟩)) (fun f => Or.inl (f k hk)))
      have q1 := (HB11.out.keep HB2'.out).setOther (a := ⟨g, y, none⟩) (fun e => by simp at e; omega) (.slice a2 n2 c2)
      have q2 := (HB12.out.keep HB2'.out).setOther (a := ⟨g, y, none⟩) (fun e => by simp at e; omega) (.slice a2 n2 c2)
      have hbl2 : Below B w (w2.setCell ⟨g, y, none⟩ (.slice a2 n2 c2)) := (HBL1.out.trans (HB2'.out.mono (by omega))).setCell hBg _
      have hz2 : w0.heap.size ≤ (w2.setCell ⟨g, y, none⟩ (.slice a2 n2 c2)).heap.size := by rw [size_setCell1]; exact Nat.le_trans hz1 HB2'.out.size
      have bt2 : (w2.setCell ⟨g, y, none⟩ (.slice a2 n2 c2)).heap[w.heap.size + 1]? = some (.cells #[.slice none 0 0] 29 (0, 0)) := by rw [heap_setCell_other _ _ _ _ (fun e => by simp at e; omega), HB2'.out.block _ HB12.out.lt]; exact HBT1.out
      have hot2 : ∀ k, k < w.heap.size → k ≠ g → (w2.setCell ⟨g, y, none⟩ (.slice a2 n2 c2)).heap[k]? = w.heap[k]? := fun k hk hkg => by rw [heap_setCell_other _ _ _ _ hkg, HB2'.out.block _ (by omega)]; exact HOT1.out k hk hkg
      have hro2 : RowsOld w (w2.setCell ⟨g, y, none⟩ (.slice a2 n2 c2)) g := HRO1.out.trans ((RowsOld.below HB2'.out hgs1).set ky2 (fun b hb hlt => HK2.out.elim (fun e => ⟨_, ky, e ▸ hb⟩) (fun f => absurd (f b hb) (by show ¬ (wc.heap.size ≤ b); omega)))) (by omega)
      generalize w2.setCell ⟨g, y, none⟩ (.slice a2 n2 c2) = w3 at hog2 q1 q2 hbl2 hz2 bt2 hot2 hro2 ⊢
      have HRO3 := Lib.hid hro2
      have HOT3 := Lib.hid hot2
      have HBT3 := Lib.hid bt2
      have HO3 := Lib.hid hog2
      have Q1 := q1.1
      have Q2 := q2.1
      have Q3 := q2.2
      have HQ2 := Lib.hid q2
      have HBL3 := Lib.hid hbl2
      clear hog2 hbl2 q1 q2 bt2 hot2 hro2 kb2 ky2 fy2 kb1 ky
      go_wp2_with fail
      have q0 : (w3.setCell ⟨w.heap.size + 1, 0, none⟩ (.slice (some ⟨g, 0, none⟩) L.length cap)).cell? ⟨w.heap.size + 1, 0, none⟩ = some (.slice (some ⟨g, 0, none⟩) L.length cap) := cell_set_same _ HQ2.out.1
      refine bodyPost_ret (v := .agg #[.slice (some ⟨g, 0, none⟩) L.length cap]) (by simp [results, Try.results95, go_sem, q0]) rfl ⟨rfl, ?_, ?_, ?_, HRO3.out.other (by simp; omega)⟩
      · rw [EL1.out]; exact HO3.out.setType HBT3.out (by decide) (by decide) 0 _
      · exact HBL3.out.setCell (by simp; omega) _
      · intro k hk hkg
        rw [heap_setCell_other _ _ _ _ (fun e => by simp at e; omega)]
        exact HOT3.out k hk hkg)


/-- Two vertices joined in the model's graph, as a graph by who is near whom. -/
theorem l1Link_adjK (x y g cap B n : Nat) (A : Nat → Nat → Bool) (w : World) (h : OwnGrid 2 31 w B (.slice (some ⟨g, 0, none⟩) n cap) (adjL n A)) (hB : B ≤ w.heap.size) (hx : x < n) (hy : y < n) (hl : n ≤ 16) (hxy : x ≠ y) :
    Calls Try.prog 95 #[.agg #[.slice (some ⟨g, 0, none⟩) n cap], .int .i64 (x : Int), .int .i64 (y : Int)] w
      (fun e w' => e = .returned (.agg #[.slice (some ⟨g, 0, none⟩) n cap]) ∧ OwnGrid 2 31 w' B (.slice (some ⟨g, 0, none⟩) n cap) (adjL n (linkA A x y)) ∧ Below B w w' ∧ (∀ k, k < w.heap.size → k ≠ g → w'.heap[k]? = w.heap[k]?) ∧ RowsOld w w' g) := by
  have hlen := adjL_len n A
  have := l1Link_keep x y g cap B (adjL n A) w (by rw [hlen]; exact h) hB (by rw [hlen]; exact hx) (by rw [hlen]; exact hy) (by rw [hlen]; exact hl) hxy (pm (A x)) (pm (A y)) (adjL_nth _ hx) (adjL_nth _ hy)
  rw [hlen] at this
  have e : ((adjL n A).set x (listM (pm (A x) ||| 2 ^ y))).set y (listM (pm (A y) ||| 2 ^ x)) = adjL n (linkA A x y) := by
    have := maskL_link n (fun i => pm (A i)) x y hxy
    rw [adjL, this, adjL]
    apply nthR_ext
    · rw [maskL_len, maskL_len]
    · intro i hi
      rw [maskL_len] at hi
      rw [maskL_nth _ hi, maskL_nth _ hi, linkM_pm A (by omega) (by omega) hxy]
  rw [e] at this
  exact this

/-- At work: the boxes of the argument and the result, the graph, the rest of the heap. -/
structure CliqK (w0 : World) (B g n cap : Nat) (R : Nat → Nat → Bool) (w : World) : Prop where
  arg : BoxT 29 w w0.heap.size (.slice (some ⟨g, 0, none⟩) n cap)
  res : BoxT 29 w (w0.heap.size + 1) (.slice none 0 0)
  gr : OwnGrid 2 31 w B (.slice (some ⟨g, 0, none⟩) n cap) (adjL n R)
  bel : Below B w0 w
  oth : ∀ k, k < w0.heap.size → k ≠ g → w.heap[k]? = w0.heap[k]?
  sz : w0.heap.size + 1 + 1 ≤ w.heap.size
  old : RowsOld w0 w g
  glt : g < w0.heap.size
theorem CliqK.keep {w0 : World} {B g n cap : Nat} {R : Nat → Nat → Bool} {w w' : World} (h : CliqK w0 B g n cap R w) (hb : Below w.heap.size w w') (hB : B ≤ w0.heap.size) : CliqK w0 B g n cap R w' := by
  have hs := h.sz
  exact ⟨h.arg.keep hb, h.res.keep hb, h.gr.keep hb, h.bel.trans (hb.mono (by omega)), fun k hk hkg => by rw [hb.block k (by omega)]; exact h.oth k hk hkg, Nat.le_trans hs hb.size, h.old.trans (RowsOld.below hb (by have := h.glt; omega)) (by omega), h.glt⟩

set_option maxHeartbeats 4000000 in
set_option maxRecDepth 100000 in
theorem l7Clique_keep (g n cap B B2 : Nat) (lv : Value) (A : Nat → Nat → Bool) (S : Nat → Bool) (w : World) (h : OwnGrid 2 31 w B (.slice (some ⟨g, 0, none⟩) n cap) (adjL n A)) (hB : B ≤ w.heap.size) (hgs : g < w.heap.size) (hn : 1 ≤ n ∧ n ≤ 16)
    (hl : OwnRow 2 w B2 lv (listM (pm S))) (hg2 : g < B2) (hS : ∀ u, S u = true → u < n) :
    Calls Try.prog 110 #[.agg #[.slice (some ⟨g, 0, none⟩) n cap], lv] w
      (fun e w' => e = .returned (.agg #[.slice (some ⟨g, 0, none⟩) n cap]) ∧ OwnGrid 2 31 w' B (.slice (some ⟨g, 0, none⟩) n cap) (adjL n (cliqueA A S)) ∧ Below B w w' ∧ w.heap.size ≤ w'.heap.size ∧ (∀ k, k < w.heap.size → k ≠ g → w'.heap[k]? = w.heap[k]?) ∧ RowsOld w w' g) := by
  obtain ⟨a1, c1, rfl⟩ := hl.row.slice
  obtain ⟨xs, hxs⟩ : ∃ xs, xs = listM (pm S) := ⟨_, rfl⟩
  have hlen := listM_len (pm S)
  have HV : Hid (∀ k, k < xs.length → ∃ u : Nat, nth xs k = (u : Int) ∧ u = vtxN xs k ∧ u < n) := fun k hk => by
    subst hxs
    obtain ⟨h1, h2, h3⟩ := vtx_listM hk
    exact ⟨_, h3, rfl, hS _ h1⟩
  have HI : Hid (∀ i k, i < xs.length → k < xs.length → vtxN xs i = vtxN xs k → i = k) := fun i k hi hk e => by subst hxs; exact vtx_inj hi hk e
  have HALL : Hid (clA A xs xs.length 0 = cliqueA A S) := by subst hxs; exact clA_all (fun u hu => by have := hS u hu; omega)
  rw [← hxs] at hl hlen ⊢
  have HL := Lib.hid hl
  have HW0 : Hid (CliqK w B g n cap (clA A xs 0 0) ((w.alloc (.cells #[.slice (some ⟨g, 0, none⟩) n cap] 29)).alloc (.cells #[.slice none 0 0] 29))) := by
    have hb1 : Below w.heap.size w (w.alloc (.cells #[.slice (some ⟨g, 0, none⟩) n cap] 29)) := (Below.refl _ _).alloc (Nat.le_refl _) _
    have hb2 : Below w.heap.size w ((w.alloc (.cells #[.slice (some ⟨g, 0, none⟩) n cap] 29)).alloc (.cells #[.slice none 0 0] 29)) := hb1.alloc hb1.size _
    refine ⟨heap_alloc2_old w _ _, ?_, ?_, hb2.mono hB, fun k hk _ => hb2.block k hk, by simp, RowsOld.below hb2 hgs, hgs⟩
    · have := BoxT.new (w.alloc (.cells #[.slice (some ⟨g, 0, none⟩) n cap] 29)) (.slice none 0 0) 29
      rwa [size_alloc1] at this
    · rw [clA_zero]; exact h.keep hb2
  clear h hl hxs hS
  go_enter Try.func110, Try.ntmps110
  go_wp2_with fail
  go_loopw [5] (fun i wr => ∃ k : Nat, k ≤ xs.length ∧ i = .int .i64 k ∧ CliqK w B g n cap (clA A xs k 0) wr) (fun i _ => xs.length - (intOf i).toNat)
  case atStart => exact ⟨0, Nat.zero_le _, rfl, HW0.out⟩
  case round =>
    obtain ⟨i, hi, rfl, hw⟩ := hrel
    have HW := Lib.hid hw
    clear hw
    by_cases hlt : i < xs.length
    · go_wp2_with fail
      go_loopw [6] (fun q wr => ∃ k : Nat, k ≤ i ∧ q = .int .i64 k ∧ CliqK w B g n cap (clA A xs i k) wr) (fun q _ => i - (intOf q).toNat)
      case atStart => exact ⟨0, Nat.zero_le _, rfl, HW.out⟩
      case round =>
        rename World => w4
        obtain ⟨k, hk, rfl, hw⟩ := hrel
        have HW4 := Lib.hid hw
        by_cases hql : k < i
        · obtain ⟨x, hx, hxv, hxn⟩ := HV.out k (by omega)
          obtain ⟨y, hy, hyv, hyn⟩ := HV.out i hlt
          have hxy : x ≠ y := fun e => by
            have := HI.out k i (by omega) hlt (by rw [← hxv, ← hyv, e])
            omega
          have HS : Hid (clA A xs i (k + 1) = linkA (clA A xs i k) x y) := by show _ = _; rw [clA_link A xs hql, ← hxv, ← hyv]
          have kb := hw.arg.box.1
          have hrow : OwnRow 2 w4 B2 (.slice a1 xs.length c1) xs := by
            obtain ⟨p1, p2, p3⟩ := HL.out
            refine ⟨p1, p2, ?_⟩
            rcases p3 with p3 | ⟨g3, cap3, cur3, e3, hg3, hh3, r3⟩
            · exact Or.inl p3
            · refine Or.inr ⟨g3, cap3, cur3, e3, hg3, ?_, r3⟩
              rw [hw.oth g3 (Array.getElem?_eq_some_iff.1 hh3).1 (by omega)]
              exact hh3
          obtain ⟨bx, ox, cx, ex, lx1, lx2, hcx⟩ := hrow.row.pos (by omega)
          simp only [Value.slice.injEq, true_and] at ex
          obtain ⟨rfl, rfl⟩ := ex
          have kk := hcx k (by omega)
          have ki := hcx i hlt
          rw [hx] at kk
          rw [hy] at ki
          have hkI : (k : Int) < (xs.length : Int) := by omega
          have hiI : (i : Int) < (xs.length : Int) := by omega
          clear hw hcx hrow hx hy hxv hyv
          go_wp2_with fail
          go_still_tail 9, (by kernel_rfl)
          change wpList _ _ _ _ _ w4.drew
          have HW5 := Lib.hid (HW4.out.keep (Below.refl _ _).drew hB)
          clear HW4 kb kk ki
          generalize w4.drew = w5 at HW5 ⊢
          go_wp2_with fail
          refine (l1Link_adjK x y g cap B n _ _ HW5.out.gr (by have := HW5.out.sz; omega) hxn hyn hn.2 hxy).mono ?_
          rintro e w6 ⟨rfl, ho6, hb6, ht6, hro6⟩
          rw [← HS.out] at ho6
          have hsz5 := HW5.out.sz
          have hne : w.heap.size ≠ g := by omega
          have bt6 : BoxT 29 w6 w.heap.size (.slice (some ⟨g, 0, none⟩) n cap) := by
            unfold BoxT
            rw [ht6 _ HW5.out.arg.lt hne]
            exact HW5.out.arg
          have kb6 := bt6.box.1
          have kf6 := bt6.box.2
          have HW6 : Hid (CliqK w B g n cap (clA A xs i (k + 1)) (w6.setCell ⟨w.heap.size, 0, none⟩ (.slice (some ⟨g, 0, none⟩) n cap))) := by
            refine ⟨bt6.set _, ?_, ho6.setType bt6 (by decide) (by decide) 0 _, (HW5.out.bel.trans hb6).setCell (by simp; omega) _, fun j hj hjg => ?_, by rw [size_setCell1]; have := hb6.size; omega, (HW5.out.old.trans hro6 (by omega)).other (by simp; omega), HW5.out.glt⟩
            · have hr : BoxT 29 w6 (w.heap.size + 1) (.slice none 0 0) := by
                unfold BoxT
                rw [ht6 _ HW5.out.res.lt (by omega)]
                exact HW5.out.res
              exact hr.setOther (by simp) _
            · rw [heap_setCell_other _ _ _ _ (by simp; omega), ht6 j (by omega) hjg]
              exact HW5.out.oth j hj hjg
          clear bt6 ho6 hb6 ht6 hro6 HW5
          go_wp2
          go_roundw
          case rel => exact ⟨k + 1, by omega, by go_num, HW6.out⟩
          case measure => simp [intOf]; omega
        · obtain rfl : k = i := by omega
          clear hw
          go_wp2
          go_roundw
          case rel => exact ⟨k + 1, by omega, by go_num, by rw [← clA_next]; exact HW4.out⟩
          case measure => simp [intOf]; omega
    · obtain rfl : i = xs.length := by omega
      have kb := HW.out.arg.box.1
      have kr := HW.out.res.box.1
      have kf := HW.out.res.box.2
      go_wp2
      have q0 : (wr.setCell ⟨w.heap.size + 1, 0, none⟩ (.slice (some ⟨g, 0, none⟩) n cap)).cell? ⟨w.heap.size + 1, 0, none⟩ = some (.slice (some ⟨g, 0, none⟩) n cap) := cell_set_same _ HW.out.res.box.1
      have hsz := HW.out.sz
      refine bodyPost_ret (v := .agg #[.slice (some ⟨g, 0, none⟩) n cap]) (by simp [results, Try.results110, go_sem, q0]) rfl ⟨rfl, ?_, HW.out.bel.setCell (by simp; omega) _, by rw [size_setCell1]; omega, fun k hk hkg => ?_, HW.out.old.other (by have := HW.out.glt; simp; omega)⟩
      · have ho := HW.out.gr
        rw [HALL.out] at ho
        exact ho.setType HW.out.res (by decide) (by decide) 0 _
      · rw [heap_setCell_other _ _ _ _ (by simp; omega)]
        exact HW.out.oth k hk hkg

end Go.Proofs.Ytmfolclpddoplaa

/- Walks: the greedy orders of the model. -/
namespace Go.Proofs.Ytmfolclpddoplaa
open Go.RowKit

/-- The number by which the model chooses. -/
def specC (A : Nat → Nat → Bool) (fill : Bool) (ys : List Int) (v : Nat) : Nat :=
  if fill then missN (fillX A ys) (listM (pm (leftB (fillX A ys) ys v))) else szB (leftB (fillX A ys) ys v)
theorem specC_le (A : Nat → Nat → Bool) (fill : Bool) (ys : List Int) (v : Nat) : specC A fill ys v ≤ 256 := by
  unfold specC
  split
  · exact missTo_le _ _ (listM_len _)
  · have := szB_le (leftB (fillX A ys) ys v); omega
/-- The model's best number among the first v. -/
def leastTo (c : Nat → Nat) (g : Nat → Bool) (v : Nat) : Nat := if 0 ≤ bstTo c g v then c (bstTo c g v).toNat else 0
/-- No row of the graph lies in the list's block. -/
def ApartR (w : World) (g n : Nat) (ov : Value) : Prop := ∀ i v b, i < n → w.cell? ⟨g, i, none⟩ = some v → v.ownBlock = some b → ov.ownBlock ≠ some b
theorem ApartR.old {w w' : World} {g n : Nat} {ov : Value} (h : ApartR w g n ov) (ho : RowsOld w w' g) (hl : ∀ b, ov.ownBlock = some b → b < w.heap.size) : ApartR w' g n ov := fun i v b hi hc hb e => by
  obtain ⟨v0, h1, h2⟩ := ho i v b hc hb (hl b e)
  exact h i v0 b hi h1 h2 e
theorem OwnRow.sameB {T : TypeId} {w w' : World} {B : Nat} {v : Value} {xs : List Int} (h : OwnRow T w B v xs) (hb : ∀ k, v.ownBlock = some k → w'.heap[k]? = w.heap[k]?) : OwnRow T w' B v xs := by
  obtain ⟨h1, h2, h3⟩ := h
  refine ⟨h1, h2, ?_⟩
  rcases h3 with h3 | ⟨g, cap, cur, e, hgB, hh, rest⟩
  · exact Or.inl h3
  · exact Or.inr ⟨g, cap, cur, e, hgB, by rw [hb g (by rw [e]; rfl)]; exact hh, rest⟩
/-- A grid none of whose blocks is the grown one stays as it was. -/
theorem OwnGrid.farR {T T1 : TypeId} {w w' : World} {B g n cap : Nat} {L : List (List Int)} {r : Option Nat} (h : OwnGrid T T1 w B (.slice (some ⟨g, 0, none⟩) n cap) L) (hg : w.grownBy w' r) (hne : r ≠ some g)
    (hrow : ∀ i v b, i < L.length → w.cell? ⟨g, i, none⟩ = some v → v.ownBlock = some b → r ≠ some b) : OwnGrid T T1 w' B (.slice (some ⟨g, 0, none⟩) n cap) L := by
  obtain ⟨R, h2, h3, h4, h5⟩ := h
  rcases h3 with ⟨e, _⟩ | ⟨g', cap', cur, e, hgB, hh, l1, l2, hs, hc⟩
  · simp at e
  · have e0 := e
    simp only [Value.slice.injEq, Option.some.injEq, Addr.mk.injEq, and_true] at e
    obtain rfl := e.1
    refine ⟨R, h2, Or.inr ⟨g, cap', cur, e0, hgB, ?_, l1, l2, hs, hc⟩, fun i hi => ?_, h5⟩
    · rw [hg.block g (Array.getElem?_eq_some_iff.1 hh).1 (fun e => hne e.symm)]
      exact hh
    · have hcell : w.cell? ⟨g, i, none⟩ = some (R i) := by rw [cell_of_row w g i cur _ _ hh]; exact hc i hi
      exact (h4 i hi).far hg (fun k hk e => hrow i (R i) k hi hcell hk e.symm)

/-- The greedy state: the graph at work, who has gone, the list so far. -/
structure GreedM (wA : World) (b5 g gb n cap : Nat) (F : Nat → Nat → Bool) (p : Nat → Bool) (ys : List Int) (ov : Value) (w : World) : Prop where
  fill : FillW wA wA.heap.size b5 g gb n cap F p w
  out : OwnRow 2 w (gb + 1) ov ys
  apart : ApartR w g n ov
  gl : g < b5 ∧ b5 < gb ∧ wA.heap.size ≤ g
theorem GreedM.lt {wA : World} {b5 g gb n cap : Nat} {F : Nat → Nat → Bool} {p : Nat → Bool} {ys : List Int} {ov : Value} {w : World} (h : GreedM wA b5 g gb n cap F p ys ov w) : gb < w.heap.size := h.fill.gone.lt
theorem GreedM.keep {wA : World} {b5 g gb n cap : Nat} {F : Nat → Nat → Bool} {p : Nat → Bool} {ys : List Int} {ov : Value} {w w' : World} (h : GreedM wA b5 g gb n cap F p ys ov w) (hb : Below w.heap.size w w') : GreedM wA b5 g gb n cap F p ys ov w' :=
  ⟨h.fill.keep hb h.fill.bel.size, h.out.keep hb, h.apart.old (RowsOld.below hb (by have := h.lt; have := h.gl; omega)) (fun b e => (h.out.lt b e).2), h.gl⟩
theorem GreedM.flag {wA : World} {b5 g gb n cap : Nat} {F : Nat → Nat → Bool} {ys zs : List Int} {ov : Value} {w : World} (h : GreedM wA b5 g gb n cap F (fun i => hasB zs (i : Int)) ys ov w) (v : Nat) : GreedM wA b5 g gb n cap F (fun i => hasB (zs ++ [(v : Int)]) (i : Int)) ys ov (w.setCell ⟨gb, v, none⟩ (.bool true)) := by
  have hg := h.gl
  refine ⟨(h.fill.flag v (by omega) (by omega)).congr rfl (fun i _ => hasB_more), h.out.setBelow (by simp) _, h.apart.old ((RowsOld.refl w g).other (by simp; omega)) (fun b e => (h.out.lt b e).2), hg⟩
/-- The graph has turned, nothing else that was there; it is put back into its box. -/
theorem GreedM.turned {wA : World} {b5 g gb n cap : Nat} {F F' : Nat → Nat → Bool} {p : Nat → Bool} {ys : List Int} {ov : Value} {w w' : World} (h : GreedM wA b5 g gb n cap F p ys ov w) (ho : OwnGrid 2 31 w' wA.heap.size (.slice (some ⟨g, 0, none⟩) n cap) (adjL n F')) (hb : Below wA.heap.size w w')
    (ht : ∀ k, k < w.heap.size → k ≠ g → w'.heap[k]? = w.heap[k]?) (hr : RowsOld w w' g) : BoxT 29 w' b5 (.slice (some ⟨g, 0, none⟩) n cap) ∧ GreedM wA b5 g gb n cap F' p ys ov (w'.setCell ⟨b5, 0, none⟩ (.slice (some ⟨g, 0, none⟩) n cap)) := by
  have hg := h.gl
  obtain ⟨p1, p2⟩ := h.fill.turned ho hb ht (by omega) (by omega) (by omega) (by omega)
  have ho' : OwnRow 2 w' (gb + 1) ov ys := h.out.sameB (fun k hk => ht k (h.out.lt k hk).2 (by have := (h.out.lt k hk).1; omega))
  refine ⟨p1, p2, ho'.setBelow (by simp; omega) _, (h.apart.old hr (fun b e => (h.out.lt b e).2)).old ((RowsOld.refl w' g).other (by simp; omega)) (fun b e => (ho'.lt b e).2), hg⟩
/-- The list has grown by one. -/
theorem GreedM.grown {wA : World} {b5 g gb n cap : Nat} {F : Nat → Nat → Bool} {p : Nat → Bool} {ys zs : List Int} {ov : Value} {w w' : World} {g2 m c2 : Nat} (h : GreedM wA b5 g gb n cap F p ys ov w) (hg : w.grownBy w' ov.ownBlock)
    (hat : ov.ownBlock = some g2 ∨ g2 = w.heap.size) (ho : OwnRow 2 w' (gb + 1) (.slice (some ⟨g2, 0, none⟩) m c2) zs) (hn : 0 < n) : GreedM wA b5 g gb n cap F p zs (.slice (some ⟨g2, 0, none⟩) m c2) w' := by
  have hgl := h.gl
  have hlt := h.lt
  have hk : ∀ k, k ≤ gb → w'.heap[k]? = w.heap[k]? := fun k hk => hg.block k (by omega) (fun e => by have := (h.out.lt k e.symm).1; omega)
  have hne : ov.ownBlock ≠ some g := fun e => by have := (h.out.lt g e).1; omega
  have hB : ∀ k, ov.ownBlock = some k → wA.heap.size ≤ k := fun k e => by have := (h.out.lt k e).1; omega
  refine ⟨⟨?_, ?_, h.fill.gone.of_block (hk gb (Nat.le_refl _)), h.fill.bel.grown hg h.fill.bel.size hB⟩, ho, ?_, hgl⟩
  · have hx := h.fill.out
    unfold BoxT at hx ⊢
    rw [hk b5 (by omega)]; exact hx
  · exact h.fill.gr.farR hg hne (fun i v b hi hc hb => h.apart i v b (by rw [adjL_len] at hi; exact hi) hc hb)
  · intro i v b hi hc hb e
    have e2 : g2 = b := by simpa [Value.ownBlock] using e
    subst e2
    have hcw : w.cell? ⟨g, i, none⟩ = some v := by
      have e3 : w'.cell? ⟨g, i, none⟩ = w.cell? ⟨g, i, none⟩ := by simp only [World.cell?, hk g (by omega)]
      rw [← e3]; exact hc
    rcases hat with hat | hat
    · exact h.apart i v g2 hi hcw hb hat
    · obtain ⟨g', cap', eg, _, _, hcell⟩ := h.fill.gr.place (by rw [adjL_len]; exact hn)
      simp only [Value.slice.injEq, Option.some.injEq, Addr.mk.injEq, and_true] at eg
      obtain rfl := eg.1
      obtain ⟨a7, n7, c7, q1, _, q2⟩ := hcell i (by rw [adjL_len]; exact hi)
      rw [hcw] at q1
      obtain rfl := Option.some.inj q1
      have := (q2.lt g2 hb).2
      omega

set_option maxHeartbeats 8000000 in
set_option maxRecDepth 100000 in
theorem l7Greedy_any (v : Value) (L : List (List Int)) (fill : Bool) (w : World) (h : GridAt w v L) (hG : GraphP L) :
    Calls Try.prog 69 #[.agg #[v], .bool fill] w (GaveRow w (grL (specC (adjB L) fill) L.length L.length)) := by
  obtain ⟨i0, hi, hz0, hz1, hz2⟩ := info_parts Try.infoI
  have hz := hG.1
  have hs : Small L := ⟨by omega, fun i hi => by have := (hG.2.1 i hi).1.len (by omega); omega⟩
  obtain ⟨a0, c0, rfl⟩ := h.slice
  have hrel0 := adjB_rel hG
  have HREL : Hid (∀ ys, RelP L.length (fillX (adjB L) ys)) := fun ys => fillX_rel hrel0 ys
  have HADJ := Lib.hid (graph_adjL hG)
  have HS := Lib.hid hs
  have HG : Hid (∀ W, Below w.heap.size w W → GridAt W (.slice a0 L.length c0) L) := fun W hb => h.keep hb
  obtain ⟨wA, hwA⟩ : ∃ wA, wA = w.alloc (.cells #[.slice a0 L.length c0] 29) := ⟨_, rfl⟩
  have hb2 : Below w.heap.size w wA := by rw [hwA]; exact (Below.refl _ _).alloc (Nat.le_refl _) _
  have harg : BoxT 29 wA w.heap.size (.slice a0 L.length c0) := by rw [hwA]; exact BoxT.new _ _ _
  have hszA : wA.heap.size = w.heap.size + 1 := by rw [hwA, size_alloc1]
  have hargc := harg.box.1
  have HB2 := Lib.hid hb2
  have HARG := Lib.hid harg
  have HSZA := Lib.hid hszA
  clear h hG hrel0 hs hb2 hszA harg
  go_enter Try.func69, Try.ntmps69
  go_wp2_with fail
  rw [← hwA]
  clear hwA
  refine (l1CopyGraph_any _ _ _ (HG.out _ HB2.out) HS.out).mono ?_
  rintro e w3 ⟨n3, a3, c3, rfl, ho3, hb3⟩
  rw [← HADJ.out] at ho3
  obtain ⟨g, cap, eg, hBg, hgs, _⟩ := ho3.place (by rw [adjL_len]; omega)
  simp only [adjL_len, Value.slice.injEq] at eg
  obtain ⟨rfl, rfl, rfl⟩ := eg
  have HO3 := Lib.hid ho3
  have hz3 : wA.heap.size ≤ w3.heap.size := hb3.size
  have HB3 := Lib.hid hb3
  have hb4 : Below w3.heap.size w3 (w3.alloc (.cells #[.slice (some ⟨g, 0, none⟩) L.length c3] 29)) := (Below.refl _ _).alloc (Nat.le_refl _) _
  have k4 : (w3.alloc (.cells #[.slice (some ⟨g, 0, none⟩) L.length c3] 29)).cell? ⟨w.heap.size, 0, none⟩ = some (.slice a0 L.length c0) := ((HARG.out.keep HB3.out).keep hb4).box.1
  have HB4 : Hid (Below wA.heap.size wA (w3.alloc (.cells #[.slice (some ⟨g, 0, none⟩) L.length c3] 29))) := HB3.out.trans (hb4.mono hz3)
  have HO4 := Lib.hid (HO3.out.keep hb4)
  have HBT4 : Hid (BoxT 29 (w3.alloc (.cells #[.slice (some ⟨g, 0, none⟩) L.length c3] 29)) w3.heap.size (.slice (some ⟨g, 0, none⟩) L.length c3)) := BoxT.new _ _ _
  have HBW : Hid (∀ W, Below wA.heap.size wA W → Below w.heap.size w W) := fun W hb => HB2.out.trans (hb.mono (by have := HSZA.out; omega))
  have HKB : Hid (∀ W, Below wA.heap.size wA W → W.cell? ⟨w.heap.size, 0, none⟩ = some (.slice a0 L.length c0)) := fun W hb => (HARG.out.keepB hb (by have := HSZA.out; omega)).box.1
  clear ho3 hb3 hargc hb4 HO3
  go_wp2_with fail
  refine (l1Size_any _ L _ (HG.out _ (HBW.out _ HB4.out))).mono ?_
  rintro e w5 ⟨rfl, hb5⟩
  have HB5 : Hid (Below wA.heap.size wA w5) := HB4.out.trans (hb5.mono (by rw [size_alloc1]; omega))
  have HO5 := Lib.hid (HO4.out.keep hb5)
  have HBT5 := Lib.hid (HBT4.out.keep hb5)
  have hz5 : w3.heap.size + 1 ≤ w5.heap.size := by have := hb5.size; rw [size_alloc1] at this; exact this
  have hmk := run_make_row' (P := Try.prog) 75 4 (.bool false) 1 Try.underlying75 Try.infoBo rfl .i64 .i64 L.length (by omega) (by omega)
  have hrm := World.rowIs_made w5 (.bool false) L.length 4
  have hb6 : Below w5.heap.size w5 ((w5.alloc (.cells (madeCells #[.bool false] L.length) 4)).alloc (.cells #[] 2)) := ((Below.refl _ _).alloc (Nat.le_refl _) _).alloc (by simp) _
  have hg3 : g < w3.heap.size := hgs
  have hgA : wA.heap.size ≤ g := hBg
  have HW0 : Hid (GreedM wA w3.heap.size g w5.heap.size L.length c3 (fillX (adjB L) (grL (specC (adjB L) fill) L.length 0)) (fun i => hasB (grL (specC (adjB L) fill) L.length 0) (i : Int)) (grL (specC (adjB L) fill) L.length 0) (.slice (some ⟨w5.heap.size + 1, 0, none⟩) 0 0) ((w5.alloc (.cells (madeCells #[.bool false] L.length) 4)).alloc (.cells #[] 2))) := by
    have ho6 := HO5.out.keep hb6
    refine ⟨⟨HBT5.out.keep hb6, ho6, (hrm.alloc _).congr (fun i _ => ?_), HB5.out.trans (hb6.mono (by omega))⟩, ?_, ?_, ⟨by omega, by omega, hgA⟩⟩
    · have : hasB (grL (specC (adjB L) fill) L.length 0) (i : Int) = false := hasB_false.2 (by simp [grL])
      rw [this]
    · have h := own_none2 (w5.alloc (.cells (madeCells #[.bool false] L.length) 4)) (w5.heap.size + 1) (by rw [size_alloc1]; exact Nat.le_refl _)
      rw [size_alloc1] at h
      exact h
    · intro i v b hi hc hb e
      have e2 : w5.heap.size + 1 = b := by simpa [Value.ownBlock] using e
      subst e2
      obtain ⟨g', cap', eg, _, _, hcell⟩ := HO5.out.place (by rw [adjL_len]; omega)
      simp only [Value.slice.injEq, Option.some.injEq, Addr.mk.injEq, and_true] at eg
      obtain rfl := eg.1
      obtain ⟨a7, n7, c7, q1, _, q2⟩ := hcell i (by rw [adjL_len]; exact hi)
      have hcw := cell_keep hb6 q1
      rw [hc] at hcw
      obtain rfl := Option.some.inj hcw
      have := (q2.lt _ hb).2
      omega
  clear hb5 hrm hb6 HO4 HBT4 HB4 HO5 HBT5 k4 HB3
  go_wp2_with fail
  go_loopw [7] (fun ov wr => ∃ k : Nat, k ≤ L.length ∧ GreedM wA w3.heap.size g w5.heap.size L.length c3 (fillX (adjB L) (grL (specC (adjB L) fill) L.length k)) (fun i => hasB (grL (specC (adjB L) fill) L.length k) (i : Int)) (grL (specC (adjB L) fill) L.length k) ov wr) (fun ov _ => L.length - lenO ov)
  case atStart => exact ⟨0, Nat.zero_le _, HW0.out⟩
  case round =>
    obtain ⟨k, hk, hw⟩ := hrel
    obtain ⟨ys, hys⟩ : ∃ ys, ys = grL (specC (adjB L) fill) L.length k := ⟨_, rfl⟩
    rw [← hys] at hw
    have HYS := Lib.hid hys
    have HYL : Hid (ys.length = k) := by show _ = _; rw [hys]; exact grL_len _ _ _
    obtain ⟨a5, c5, e5⟩ := hw.out.row.slice
    rw [HYL.out] at e5
    subst e5
    have HW := Lib.hid hw
    have kb := HKB.out _ hw.fill.bel
    clear hw hys
    go_wp2_with fail
    refine (l1Size_any _ L _ (HG.out _ (HBW.out _ HW.out.fill.bel))).mono ?_
    rintro e w6 ⟨rfl, hb6⟩
    have HW6 := Lib.hid (HW.out.keep hb6)
    clear hb6 kb HW
    by_cases hlt : k < L.length
    · have hltI : (k : Int) < (L.length : Int) := by omega
      obtain ⟨c, hc⟩ : ∃ c, c = specC (adjB L) fill ys := ⟨_, rfl⟩
      have HCE := Lib.hid hc
      have HCLE : Hid (∀ v, c v ≤ 256) := fun v => by rw [HCE.out]; exact specC_le _ _ _ _
      obtain ⟨p, hp⟩ : ∃ p, p = bstTo c (fun v => hasB ys (v : Int)) := ⟨_, rfl⟩
      have HPE := Lib.hid hp
      obtain ⟨m, hm⟩ : ∃ m, m = leastTo c (fun v => hasB ys (v : Int)) := ⟨_, rfl⟩
      have HME : Hid (∀ q, m q = if 0 ≤ p q then c (p q).toNat else 0) := fun q => by rw [hm, HPE.out]; rfl
      clear hp hm hc
      have HP0 : Hid (p 0 = -1) := by show _ = _; rw [HPE.out]; rfl
      have HM0 : Hid (m 0 = 0) := by show _ = _; rw [HME.out, HP0.out]; rfl
      go_wp2_with fail
      go_loopw [8, 9, 10] (fun b l i wr => ∃ q : Nat, q ≤ L.length ∧ i = .int .i64 q ∧ b = .int .i64 (p q) ∧ l = .int .i64 (m q : Int) ∧ GreedM wA w3.heap.size g w5.heap.size L.length c3 (fillX (adjB L) ys) (fun i => hasB ys (i : Int)) ys (.slice a5 k c5) wr) (fun _ _ i _ => L.length - (intOf i).toNat)
      case atStart => exact ⟨0, Nat.zero_le _, rfl, by rw [HP0.out], by rw [HM0.out]; rfl, HW6.out⟩
      case round =>
        rename World => w7
        obtain ⟨q, hq, rfl, rfl, rfl, hw⟩ := hrel
        have HW7 := Lib.hid hw
        have kb := HKB.out _ hw.fill.bel
        clear hw
        go_wp2_with fail
        refine (l1Size_any _ L _ (HG.out _ (HBW.out _ HW7.out.fill.bel))).mono ?_
        rintro e w8 ⟨rfl, hb8⟩
        have HW8 := Lib.hid (HW7.out.keep hb8)
        clear hb8 kb HW7
        by_cases hql : q < L.length
        · have hqI : (q : Int) < (L.length : Int) := by omega
          have kg := HW8.out.fill.gone.cell hql
          have HPQ : Hid (p (q + 1) = if hasB ys (q : Int) = true then p q else if p q < 0 ∨ c q < c (p q).toNat then (q : Int) else p q) := by show _ = _; rw [HPE.out]; rfl
          have HPG : Hid (-1 ≤ p q ∧ p q < (q : Int)) := by show _ ∧ _; rw [HPE.out]; exact bstTo_ge _ _ _
          have HMQ := HME.out q
          have HMN := Lib.hid (HME.out (q + 1))
          have hmle : m q ≤ 256 := by
            rw [HMQ]; split
            · exact HCLE.out _
            · omega
          obtain ⟨r, hr⟩ : ∃ r, r = p q := ⟨_, rfl⟩
          obtain ⟨s, hs⟩ : ∃ s, s = m q := ⟨_, rfl⟩
          rw [← hr] at HPQ HPG HMQ ⊢
          rw [← hs] at HMQ hmle ⊢
          clear hr hs
          by_cases hg : hasB ys (q : Int) = true
          · have HPF : Hid (p (q + 1) = r) := by show _ = _; rw [HPQ.out, if_pos hg]
            have HMF : Hid (m (q + 1) = s) := by show _ = _; rw [HMN.out, HPF.out, HMQ]
            rw [hg] at kg
            clear hg HMQ
            go_wp2
            go_roundw
            case rel => exact ⟨q + 1, by omega, by go_num, by rw [HPF.out], by rw [HMF.out], HW8.out⟩
            case measure => simp [intOf]; omega
          · have hg' : hasB ys (q : Int) = false := by simpa using hg
            have HPN : Hid (p (q + 1) = if r < 0 ∨ c q < c r.toNat then (q : Int) else r) := by show _ = _; rw [HPQ.out, if_neg hg]
            have HCQ := HCLE.out q
            have HCV : Hid (c q = if fill = true then missN (fillX (adjB L) ys) (listM (pm (leftB (fillX (adjB L) ys) ys q))) else szB (leftB (fillX (adjB L) ys) ys q)) := by show _ = _; rw [HCE.out]; rfl
            have HLF := Lib.hid (l7Left_work HW8.out.fill (HREL.out ys) hz hql)
            have HSR : Hid (∀ u, leftB (fillX (adjB L) ys) ys q u = true → u < L.length) := leftB_range (HREL.out ys) ys q
            have HGRF : Hid (GraphP (adjL L.length (fillX (adjB L) ys))) := (HREL.out ys).graph hz
            have kx := HW8.out.fill.out.box.1
            rw [hg'] at kg
            obtain ⟨z, hzq⟩ : ∃ z, z = c q := ⟨_, rfl⟩
            rw [← hzq] at HPN HCQ HCV
            have HZQ := Lib.hid hzq
            have HFIN : Hid (∀ (t : Bool), (t = true ↔ r < 0 ∨ z < c r.toNat) → (p (q + 1) = if t = true then (q : Int) else r) ∧ (m (q + 1) = if t = true then z else s)) := fun t ht => by
              have h1 : p (q + 1) = if t = true then (q : Int) else r := by
                rw [HPN.out]
                by_cases hc : r < 0 ∨ z < c r.toNat
                · rw [if_pos hc, if_pos (ht.2 hc)]
                · rw [if_neg hc, if_neg (fun e => hc (ht.1 e))]
              refine ⟨h1, ?_⟩
              rw [HMN.out, h1]
              by_cases e : t = true
              · rw [if_pos e, if_pos e, if_pos (by omega), Int.toNat_natCast, HZQ.out]
              · rw [if_neg e, if_neg e, HMQ]
            have HSM : Hid (r < 0 ∨ s = c r.toNat) := by
              show _ ∨ _
              by_cases h : r < 0
              · exact Or.inl h
              · right; rw [HMQ, if_pos (by omega)]
            clear hg hg' hzq HMQ
            go_wp2_with fail
            refine HLF.out.mono ?_
            rintro e w9 ⟨n9, a9, c9, rfl, ho9, hb9⟩
            have ho9 : OwnRow 2 w9 w8.heap.size (.slice a9 n9 c9) (listM (pm (leftB (fillX (adjB L) ys) ys q))) := ho9
            obtain ⟨a10, c10, e10⟩ := ho9.row.slice
            rw [listM_szB] at e10
            simp only [Value.slice.injEq] at e10
            obtain ⟨rfl, rfl, rfl⟩ := e10
            have HW9 := Lib.hid (HW8.out.keep hb9)
            have HR9 := Lib.hid ho9.row
            have hsz16 := szB_le (leftB (fillX (adjB L) ys) ys q)
            have kx9 := HW9.out.fill.out.box.1
            clear hb9 ho9 kx kg HLF
            cases fill with
            | false =>
              have HZE : Hid (szB (leftB (fillX (adjB L) ys) ys q) = z) := by show _ = _; rw [HCV.out]; rfl
              rw [HZE.out] at hsz16 ⊢
              clear kx9
              by_cases hr0 : r < 0
              · have hrd : decide (r < 0) = true := decide_eq_true hr0
                obtain ⟨f1, f2⟩ := HFIN.out true ⟨fun _ => Or.inl hr0, fun _ => rfl⟩
                rw [if_pos rfl] at f1 f2
                have F1 := Lib.hid f1
                have F2 := Lib.hid f2
                clear f1 f2
                go_wp2
                go_roundw
                case rel => exact ⟨q + 1, by omega, by go_num, by rw [F1.out], by rw [F2.out], HW9.out⟩
                case measure => simp [intOf]; omega
              · have hrd : decide (r < 0) = false := decide_eq_false hr0
                have hse := HSM.out.resolve_left hr0
                by_cases hzs : z < s
                · have hzd : decide ((z : Int) < (s : Int)) = true := decide_eq_true (by omega)
                  obtain ⟨f1, f2⟩ := HFIN.out true ⟨fun _ => Or.inr (by omega), fun _ => rfl⟩
                  rw [if_pos rfl] at f1 f2
                  have F1 := Lib.hid f1
                  have F2 := Lib.hid f2
                  clear f1 f2 hse
                  go_wp2
                  go_roundw
                  case rel => exact ⟨q + 1, by omega, by go_num, by rw [F1.out], by rw [F2.out], HW9.out⟩
                  case measure => simp [intOf]; omega
                · have hzd : decide ((z : Int) < (s : Int)) = false := decide_eq_false (by omega)
                  obtain ⟨f1, f2⟩ := HFIN.out false ⟨(fun h => by cases h), (fun h => by omega)⟩
                  rw [if_neg (by simp)] at f1 f2
                  have F1 := Lib.hid f1
                  have F2 := Lib.hid f2
                  clear f1 f2 hse
                  go_wp2
                  go_roundw
                  case rel => exact ⟨q + 1, by omega, by go_num, by rw [F1.out], by rw [F2.out], HW9.out⟩
                  case measure => simp [intOf]; omega
            | true =>
              have HZE : Hid (missN (fillX (adjB L) ys) (listM (pm (leftB (fillX (adjB L) ys) ys q))) = z) := by show _ = _; rw [HCV.out]; rfl
              have hadj : ∀ k i, k < (listM (pm (leftB (fillX (adjB L) ys) ys q))).length → i < (listM (pm (leftB (fillX (adjB L) ys) ys q))).length → hasB (nthR (adjL L.length (fillX (adjB L) ys)) (vtxN (listM (pm (leftB (fillX (adjB L) ys) ys q))) k)) (nth (listM (pm (leftB (fillX (adjB L) ys) ys q))) i) = fillX (adjB L) ys (vtxN (listM (pm (leftB (fillX (adjB L) ys) ys q))) k) (vtxN (listM (pm (leftB (fillX (adjB L) ys) ys q))) i) := fun k i hk hi => by
                have h := left_adj (L := adjL L.length (fillX (adjB L) ys)) HGRF.out (S := leftB (fillX (adjB L) ys) ys q) (fun u hu => by rw [adjL_len]; exact HSR.out u hu) k i hk hi
                rw [h]
                obtain ⟨h1, _, _⟩ := vtx_listM (S := leftB (fillX (adjB L) ys) ys q) hk
                obtain ⟨h2, _, _⟩ := vtx_listM (S := leftB (fillX (adjB L) ys) ys q) hi
                exact adjB_adjL HGRF.out (HSR.out _ h1) (by have := HSR.out _ h2; omega)
              have hvt : ∀ i, i < (listM (pm (leftB (fillX (adjB L) ys) ys q))).length → ∃ u : Nat, u < (adjL L.length (fillX (adjB L) ys)).length ∧ nth (listM (pm (leftB (fillX (adjB L) ys) ys q))) i = (u : Int) := by
                rw [adjL_len]
                exact left_vtx HSR.out
              have hms := l7Missing_any (.slice (some ⟨g, 0, none⟩) L.length c3) _ (adjL L.length (fillX (adjB L) ys)) _ (fillX (adjB L) ys) w9 HW9.out.fill.gr.grid HR9.out (listM_len _) hvt hadj
              rw [HZE.out] at hms
              have HMS := Lib.hid hms
              clear hadj hvt hms
              go_wp2_with fail
              refine HMS.out.mono ?_
              rintro e w10 ⟨rfl, hb10⟩
              have HW10 := Lib.hid (HW9.out.keep hb10)
              clear hb10 kx9 HMS HR9 HW9
              by_cases hr0 : r < 0
              · have hrd : decide (r < 0) = true := decide_eq_true hr0
                obtain ⟨f1, f2⟩ := HFIN.out true ⟨fun _ => Or.inl hr0, fun _ => rfl⟩
                rw [if_pos rfl] at f1 f2
                have F1 := Lib.hid f1
                have F2 := Lib.hid f2
                clear f1 f2
                go_wp2
                go_roundw
                case rel => exact ⟨q + 1, by omega, by go_num, by rw [F1.out], by rw [F2.out], HW10.out⟩
                case measure => simp [intOf]; omega
              · have hrd : decide (r < 0) = false := decide_eq_false hr0
                have hse := HSM.out.resolve_left hr0
                by_cases hzs : z < s
                · have hzd : decide ((z : Int) < (s : Int)) = true := decide_eq_true (by omega)
                  obtain ⟨f1, f2⟩ := HFIN.out true ⟨fun _ => Or.inr (by omega), fun _ => rfl⟩
                  rw [if_pos rfl] at f1 f2
                  have F1 := Lib.hid f1
                  have F2 := Lib.hid f2
                  clear f1 f2 hse
                  go_wp2
                  go_roundw
                  case rel => exact ⟨q + 1, by omega, by go_num, by rw [F1.out], by rw [F2.out], HW10.out⟩
                  case measure => simp [intOf]; omega
                · have hzd : decide ((z : Int) < (s : Int)) = false := decide_eq_false (by omega)
                  obtain ⟨f1, f2⟩ := HFIN.out false ⟨(fun h => by cases h), (fun h => by omega)⟩
                  rw [if_neg (by simp)] at f1 f2
                  have F1 := Lib.hid f1
                  have F2 := Lib.hid f2
                  clear f1 f2 hse
                  go_wp2
                  go_roundw
                  case rel => exact ⟨q + 1, by omega, by go_num, by rw [F1.out], by rw [F2.out], HW10.out⟩
                  case measure => simp [intOf]; omega
        · obtain rfl : q = L.length := by omega
          obtain ⟨v, hv, ev, hnew⟩ := grL_best (c := specC (adjB L) fill) (n := L.length) hlt
          have HNX : Hid (grL (specC (adjB L) fill) L.length (k + 1) = ys ++ [(v : Int)]) := by show _ = _; rw [grL, ev, HYS.out]
          rw [← HYS.out, ← HCE.out] at ev
          have hpv : p L.length = (v : Int) := by rw [HPE.out]; exact ev
          have hvI : (v : Int) < (L.length : Int) := by omega
          have kg := HW8.out.fill.gone.cell hv
          have kf := HW8.out.fill.gone.frozen v
          have HWF := Lib.hid (HW8.out.flag v)
          rw [hpv]
          clear hpv ev hnew HW8
          go_wp2_with fail
          generalize w8.setCell ⟨w5.heap.size, v, none⟩ (.bool true) = w9 at HWF ⊢
          clear kg kf
          have k6 := HWF.out.fill.out.box.1
          have f6 := HWF.out.fill.out.box.2
          have HWD := Lib.hid (HWF.out.keep (Below.refl _ _).drew)
          have HLE9 : Hid (w9.heap.size = w9.drew.heap.size) := rfl
          go_region_law (first
            | (go_simp; go_at_call 66; refine (l7Left_work HWD.out.fill (HREL.out _) hz hv).mono ?_; rintro e w10 ⟨n10, a10, c10, rfl, ho10, hb10⟩; have HW10 := Lib.hid (HWD.out.keep hb10); have k10 := HW10.out.fill.out.box.1; have f10 := HW10.out.fill.out.box.2; have HO10 : Hid (OwnRow 2 w10 w9.heap.size (.slice a10 n10 c10) (listM (pm (leftB (fillX (adjB L) ys) (ys ++ [(v : Int)]) v)))) := ho10; have HZ10 : Hid (w9.heap.size ≤ w10.heap.size) := hb10.size; clear ho10 hb10)
            | (go_simp; go_at_call 110; refine (l7Clique_keep g L.length c3 wA.heap.size w9.heap.size _ _ _ w10 HW10.out.fill.gr (by have := HW10.out.lt; omega) (by have := HW10.out.lt; omega) hz HO10.out (by have := HWF.out.lt; omega) (leftB_range (HREL.out _) _ _)).mono ?_; rintro e w11 ⟨rfl, ho11, hb11, hz11, ht11, hr11⟩; obtain ⟨bt11, hw11⟩ := HW10.out.turned ho11 hb11 ht11 hr11; have k11 := bt11.box.1; have f11 := bt11.box.2; have HW11 := Lib.hid hw11; clear bt11 hw11 ho11 hb11 hz11 ht11 hr11))
          all_goals (
            clear k10 f10 k6 f6
            obtain ⟨w12, hw12⟩ : ∃ w12, w12 = w11.setCell ⟨w3.heap.size, 0, none⟩ (.slice (some ⟨g, 0, none⟩) L.length c3) := ⟨_, rfl⟩
            have hs12 : w12.heap.size = w11.heap.size := by rw [hw12]; exact size_setCell1 _ _ _
            rw [← hw12] at HW11
            have HNEW : Hid ((w12.alloc (.cells #[.int .i64 (v : Int)] 2)).heap[w11.heap.size]? = some (.cells #[.int .i64 (v : Int)] 2 (0, 0))) := by rw [← hs12]; exact heap_alloc_new _ _
            have HS12 : Hid ((w12.alloc (.cells #[.int .i64 (v : Int)] 2)).heap.size = w11.heap.size + 1) := by rw [← hs12]; exact size_alloc1 _ _
            have hown := HW11.out.out.owns
            rw [HYL.out] at hown
            have HWO := Lib.hid hown
            clear hown
            have HSZ12 : Hid (w5.heap.size + 1 ≤ w11.heap.size) := by rw [← hs12]; exact HW11.out.lt
            have HWL : Hid (OwnRow 2 w12 (w5.heap.size + 1) (.slice a5 k c5) ys) := HW11.out.out
            have HWA := Lib.hid (HWO.out.alloc (.cells #[.int .i64 (v : Int)] 2))
            have HW12 : Hid (∀ w13 g2 m2 c2, (w12.alloc (.cells #[.int .i64 (v : Int)] 2)).grownBy w13 (Value.slice a5 k c5).ownBlock → ((Value.slice a5 k c5).ownBlock = some g2 ∨ g2 = w11.heap.size + 1) → OwnRow 2 w13 (w5.heap.size + 1) (.slice (some ⟨g2, 0, none⟩) m2 c2) (ys ++ [(v : Int)]) → GreedM wA w3.heap.size g w5.heap.size L.length c3 (fillX (adjB L) (grL (specC (adjB L) fill) L.length (k + 1))) (fun i => hasB (grL (specC (adjB L) fill) L.length (k + 1)) (i : Int)) (grL (specC (adjB L) fill) L.length (k + 1)) (.slice (some ⟨g2, 0, none⟩) m2 c2) w13) := fun w13 g2 m2 c2 h1 h2 h3 => by
              rw [HNX.out, fillX_snoc, Int.toNat_natCast]
              refine (HW11.out.keep ((Below.refl _ _).alloc (Nat.le_refl _) (.cells #[.int .i64 (v : Int)] 2))).grown h1 ?_ h3 (by omega)
              rcases h2 with h | h
              · exact Or.inl h
              · exact Or.inr (by rw [h, HS12.out])
            clear HWO HW11
            rw [hw12] at HNEW HS12 HWL HWA HW12
            clear hw12 hs12 w12
            go_wp2_with (at_builtin; refine wpList_append_lies _ rfl (.tmp 62) (.tmp 64) 31 rfl (w5.heap.size + 1) 2 i0 (.int .i64 0) 1 8 Try.underlying31 hi hz0 hz1 hz2 rfl (by decide) _ _ _ rfl HWA.out ⟨w11.heap.size, 0, none⟩ 1 1 [.int .i64 (v : Int)] rfl rfl (World.news_of_block HNEW.out) (ints_one [(v : Int)]) Nat.one_pos ?d3 ?d4 ?d5 (w11.heap.size + 1) HS12.out ?_)
            case d3 => unfold maxLen; omega
            case d4 => omega
            case d5 => have := HSZ12.out; simp; omega
            intro g13 cap13 w13 hown13 hgrow13 hat13 _
            have HEND : Hid (GreedM wA w3.heap.size g w5.heap.size L.length c3 (fillX (adjB L) (grL (specC (adjB L) fill) L.length (k + 1))) (fun i => hasB (grL (specC (adjB L) fill) L.length (k + 1)) (i : Int)) (grL (specC (adjB L) fill) L.length (k + 1)) (.slice (some ⟨g13, 0, none⟩) (k + 1) cap13) w13) :=
              HW12.out _ _ _ _ hgrow13 hat13 (OwnRow.of_ownsRow (xs := ys ++ [(v : Int)]) (n := k + 1) (by simpa using hown13) (by rw [List.length_append, HYL.out, List.length_singleton]; unfold maxLen; omega) (fun z hz => by
                  rcases List.mem_append.1 hz with hz | hz
                  · exact HWL.out.1 z hz
                  · rw [List.mem_singleton] at hz; subst hz; unfold I64; omega))
            clear hown13 hgrow13 hat13
            go_wp2
            go_roundw
            case rel => exact ⟨k + 1, by omega, HEND.out⟩
            case measure => simp [lenO]; omega)
    · obtain rfl : k = L.length := by omega
      go_wp2
      go_ret
      exact ⟨_, _, _, rfl, by rw [← HYS.out]; exact HW6.out.out.mono (by have := HSZA.out; omega), HBW.out _ HW6.out.fill.bel⟩

end Go.Proofs.Ytmfolclpddoplaa
