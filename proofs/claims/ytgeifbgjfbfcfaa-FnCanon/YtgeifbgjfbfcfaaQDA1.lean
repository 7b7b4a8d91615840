/- The texts DA1, DA2, joined. -/
import Derived.Test.YtgeifbgjfbfcfaaQU2
import Derived.Test.YtgeifbgjfbfcfaaQK2
import Derived.Test.YtgeifbgjfbfcfaaQM4
import Derived.Deep.RegionHeld3

/- Walks: the draws of chapter 4, whose cursor is the caller's. -/
namespace Go.Proofs.Ytgeifbgjfbfcfaa
open Go.RowKit

/-- In the midst of a draw: the cursor and the bytes; nothing else that lay has turned. -/
structure MidC (w : World) (c nb : Nat) (bv : Value) (wr : World) : Prop where
  cur : CurAt wr c bv nb
  byt : BytesAt wr c bv nb
  bel : Touched c (c + 1) w wr
theorem MidC.keep {w : World} {c nb : Nat} {bv : Value} {wr w' : World} (h : MidC w c nb bv wr) (hb : Below wr.heap.size wr w') : MidC w c nb bv w' :=
  ⟨h.cur.keepB hb h.cur.lt, h.byt.keepB hb (Nat.le_of_lt h.cur.lt), h.bel.under hb h.bel.size⟩
theorem MidC.turn {w : World} {c nb : Nat} {bv : Value} {wr w' : World} (h : MidC w c nb bv wr) (ht : Touched c (c + 1) wr w') (hc : CurAt w' c bv nb) : MidC w c nb bv w' :=
  ⟨hc, ht.bytes h.byt (Nat.le_of_lt h.cur.lt), h.bel.trans ht⟩
theorem MidC.put {w : World} {c nb : Nat} {bv : Value} {wr : World} (h : MidC w c nb bv wr) {b : Nat} (hb : w.heap.size ≤ b) (hcw : c < w.heap.size) (v : Value) : MidC w c nb bv (wr.setCell ⟨b, 0, none⟩ v) :=
  have hs : Below w.heap.size wr (wr.setCell ⟨b, 0, none⟩ v) := (Below.refl _ _).setCell (p := ⟨b, 0, none⟩) hb v
  ⟨h.cur.keepB hs hcw, h.byt.keepB hs (Nat.le_of_lt hcw), h.bel.under hs (Nat.le_refl _)⟩
theorem OnlyBlk.at {c : Nat} {w w' : World} (h : OnlyBlk c w w') : Touched c (c + 1) w w' := h.touched (Nat.le_refl _) (by omega)

set_option maxHeartbeats 2000000 in
set_option maxRecDepth 100000 in
theorem l4Draw_any (c nb : Nat) (bv : Value) (w : World) (hc : CurAt w c bv nb) (hb : BytesAt w c bv nb) : Calls Try.prog 31 #[.pointer (some ⟨c, 0, none⟩)] w (DrewG w c bv nb) := by
  have hcw := hc.lt
  have hb0 : Below w.heap.size w (w.alloc (.cells #[.slice none 0 0] 26)) := (Below.refl _ _).alloc (Nat.le_refl _) _
  have HX0 := Lib.hid (BoxAt.new w (.slice none 0 0) 26)
  have HM0 : Hid (MidC w c nb bv (w.alloc (.cells #[.slice none 0 0] 26))) := ⟨hc.keepB hb0 hcw, hb.keepB hb0 (Nat.le_of_lt hcw), Touched.ofBelow hb0⟩
  clear hc hb hb0
  go_enter Try.func31, Try.ntmps31
  go_wp2_with fail
  refine (l1DrawAny_any c nb bv _ HM0.out.cur HM0.out.byt).mono ?_
  rintro e w1 ⟨L, m, a, cap, rfl, ho1, hc1, ht1, hm17⟩
  rw [size_alloc1] at ho1
  have HM1 := Lib.hid (HM0.out.turn ht1 hc1)
  have HX1 := Lib.hid (HX0.out.touched ht1 (by omega) HX0.out.lt)
  have hst : Below w1.heap.size w1 (w1.alloc (.cells #[.slice a m cap] 26)) := (Below.refl _ _).alloc (Nat.le_refl _) _
  have HBG := Lib.hid (BoxAt.new w1 (.slice a m cap) 26)
  have HO1 := Lib.hid (ho1.keep hst)
  have HM2 := Lib.hid (HM1.out.keep hst)
  have HX2 := Lib.hid (HX1.out.keep hst)
  have hlt1 : w.heap.size < w1.heap.size := HX1.out.lt
  clear ho1 hc1 ht1 hst HM0 HX0 HM1 HX1
  go_wp2_with fail
  generalize (w1.alloc (.cells #[.slice a m cap] 26)) = w2 at HBG HO1 HM2 HX2 ⊢
  refine (l1Once_any c nb bv 15 _ HM2.out.cur HM2.out.byt (by unfold I64; omega)).mono ?_
  rintro e w3 ⟨q, rfl, hc3, ho3⟩
  have HM3 := Lib.hid (HM2.out.turn ho3.at hc3)
  have HX3 := Lib.hid (HX2.out.touched ho3.at (by omega) HX2.out.lt)
  have HBG3 := Lib.hid (HBG.out.touched ho3.at (by omega) HBG.out.lt)
  have HO3 := Lib.hid (HO1.out.touched ho3.at (by omega))
  have hz3 : w.heap.size + 1 ≤ w3.heap.size := HX3.out.lt
  clear hc3 ho3 HM2 HX2 HBG HO1
  cases q with
  | true =>
    go_wp2_with fail
    refine (l1DrawOf_any c nb 9 bv _ HM3.out.cur HM3.out.byt (by omega) (by omega)).mono ?_
    rintro e w4 ⟨n4, M4, a4, cap4, hn1, hn2, rfl, ho4, hc4, ht4⟩
    have HM4 := Lib.hid (HM3.out.turn ht4 hc4)
    have hx4 := HX3.out.touched ht4 (by omega) HX3.out.lt
    have kx := hx4.1
    have fx := hx4.2
    have HQ := Lib.hid (cell_set_same (.slice a4 n4 cap4) hx4.1)
    have HF : Hid (DrewG w c bv nb (.returned (.agg #[.slice a4 n4 cap4])) (w4.setCell ⟨w.heap.size, 0, none⟩ (.slice a4 n4 cap4))) := by
      have hmp := HM4.out.put (b := w.heap.size) (Nat.le_refl _) hcw (.slice a4 n4 cap4)
      exact ⟨_, _, _, _, rfl, (ho4.setBelow (a := ⟨w.heap.size, 0, none⟩) (by show w.heap.size < _; omega) _).mono (by omega), hmp.cur, hmp.bel, by omega⟩
    clear hx4 ho4 hc4 ht4
    go_wp2
    exact bodyPost_ret (v := .agg #[.slice a4 n4 cap4]) (by simp [results, Try.results31, go_sem, HQ.out]) rfl HF.out
  | false =>
    have kg := HBG3.out.1
    have kx := HX3.out.1
    have fx := HX3.out.2
    have HQ := Lib.hid (cell_set_same (.slice a m cap) HX3.out.1)
    have HF : Hid (DrewG w c bv nb (.returned (.agg #[.slice a m cap])) (w3.setCell ⟨w.heap.size, 0, none⟩ (.slice a m cap))) := by
      have hmp := HM3.out.put (b := w.heap.size) (Nat.le_refl _) hcw (.slice a m cap)
      exact ⟨_, _, _, _, rfl, (HO3.out.setBelow (a := ⟨w.heap.size, 0, none⟩) (by show w.heap.size < _; omega) _).mono (by omega), hmp.cur, hmp.bel, hm17⟩
    go_wp2
    exact bodyPost_ret (v := .agg #[.slice a m cap]) (by simp [results, Try.results31, go_sem, HQ.out]) rfl HF.out

/-- A box of a graph, by its block. -/
def BxT (w : World) (b : Nat) (v : Value) : Prop := w.heap[b]? = some (.cells #[v] 26 (0, 0))
theorem BxT.at {w : World} {b : Nat} {v : Value} (h : BxT w b v) : BoxAt w b v := ⟨by rw [cell_of_row w b 0 _ _ _ h]; rfl, frozen_of_row w b 0 _ _ h⟩
theorem BxT.lt {w : World} {b : Nat} {v : Value} (h : BxT w b v) : b < w.heap.size := (Array.getElem?_eq_some_iff.1 h).1
theorem BxT.new (w : World) (v : Value) : BxT (w.alloc (.cells #[v] 26)) w.heap.size v := heap_alloc_new w _
theorem BxT.keep {w w' : World} {b : Nat} {v : Value} (h : BxT w b v) (hb : Below w.heap.size w w') : BxT w' b v := by unfold BxT; rw [hb.block b h.lt]; exact h
theorem BxT.touched {c : Nat} {w w' : World} {b : Nat} {v : Value} (h : BxT w b v) (ht : Touched c (c + 1) w w') (hb : c < b) : BxT w' b v := by unfold BxT; rw [ht.other b h.lt (by omega)]; exact h
theorem BxT.set {w : World} {b : Nat} {v : Value} (h : BxT w b v) (u : Value) : BxT (w.setCell ⟨b, 0, none⟩ u) b u := by unfold BxT; rw [heap_setCell_same w b 0 _ _ _ h]; rfl
theorem BxT.other {w : World} {b b' : Nat} {v : Value} (h : BxT w b v) (hne : b ≠ b') (u : Value) : BxT (w.setCell ⟨b', 0, none⟩ u) b v := by unfold BxT; rw [heap_setCell_other _ _ _ _ hne]; exact h
/-- A box above lo, and in it a graph of one's own above lo. -/
structure GxO (lo : Nat) (w : World) (b : Nat) (v : Value) (L : List (List Int)) : Prop where
  box : BxT w b v
  own : ∃ B, lo < B ∧ OwnGrid 2 29 w B v L
  ne : lo < b
namespace GxO
variable {lo : Nat} {w w' : World} {b : Nat} {v : Value} {L : List (List Int)}
theorem keep (h : GxO lo w b v L) (hb : Below w.heap.size w w') : GxO lo w' b v L := by
  obtain ⟨B, h1, h2⟩ := h.own
  exact ⟨h.box.keep hb, ⟨B, h1, h2.keep hb⟩, h.ne⟩
theorem touched {c : Nat} (h : GxO lo w b v L) (ht : Touched c (c + 1) w w') (hc : c < lo) : GxO lo w' b v L := by
  obtain ⟨B, h1, h2⟩ := h.own
  exact ⟨h.box.touched ht (by have := h.ne; omega), ⟨B, h1, h2.touched ht (by omega)⟩, h.ne⟩
theorem other {b' : Nat} {u' : Value} (h : GxO lo w b v L) (hb : BxT w b' u') (hne : b ≠ b') (u : Value) : GxO lo (w.setCell ⟨b', 0, none⟩ u) b v L := by
  obtain ⟨B, h1, h2⟩ := h.own
  exact ⟨h.box.other hne u, ⟨B, h1, h2.setType hb (by decide) (by decide) 0 u⟩, h.ne⟩
theorem grid (h : GxO lo w b v L) : GridAt w v L := by
  obtain ⟨B, _, h2⟩ := h.own
  exact h2.grid
theorem new {B : Nat} (h : OwnGrid 2 29 w B v L) (hB : lo < B) (hd : lo < w.heap.size) : GxO lo (w.alloc (.cells #[v] 26)) w.heap.size v L :=
  ⟨BxT.new w v, ⟨B, hB, h.keep ((Below.refl _ _).alloc (Nat.le_refl _) _)⟩, hd⟩
/-- Another graph is put into the box. -/
theorem put {v' : Value} {L' : List (List Int)} {B : Nat} (h : BxT w b v) (hlo : lo < b) (ho : OwnGrid 2 29 w B v' L') (hB : lo < B) : GxO lo (w.setCell ⟨b, 0, none⟩ v') b v' L' :=
  ⟨h.set v', ⟨B, hB, ho.setType h (by decide) (by decide) 0 v'⟩, hlo⟩
end GxO

/-- .. and lie in the world. -/
def GaveTwo (w : World) (e : Ending) (w' : World) : Prop :=
  ∃ Lp Lg ap np cp ag ng cg, e = .returned (.tuple #[.agg #[.slice ap np cp], .agg #[.slice ag ng cg]]) ∧ GridAt w' (.slice ap np cp) Lp ∧ GridAt w' (.slice ag ng cg) Lg ∧ np = Lp.length ∧ ng = Lg.length ∧ Below w.heap.size w w'
theorem grid_len {w : World} {a : Option Addr} {n c : Nat} {L : List (List Int)} (h : GridAt w (.slice a n c) L) : n = L.length := by
  obtain ⟨a3, c3, e3⟩ := h.slice
  simp only [Value.slice.injEq] at e3
  exact e3.2.1
end Go.Proofs.Ytgeifbgjfbfcfaa

/- Walks: two graphs drawn, the second alike to the first or drawn anew. -/
namespace Go.Proofs.Ytgeifbgjfbfcfaa
open Go.RowKit

theorem cell_set_blkA {w : World} {a b : Addr} {u : Value} (v : Value) (hne : a.block ≠ b.block) (h : w.cell? b = some u) : (w.setCell a v).cell? b = some u := (cell_set_other v (fun e => hne (congrArg Addr.block e))).trans h
theorem BxT.low {c : Nat} {w w' : World} {b : Nat} {v : Value} (h : BxT w b v) (ht : Touched c (c + 1) w w') (hb : b < c) : BxT w' b v := by unfold BxT; rw [ht.other b h.lt (by omega)]; exact h
theorem GxO.touchedAt {c : Nat} {w w' : World} {b : Nat} {v : Value} {L : List (List Int)} (h : GxO c w b v L) (ht : Touched c (c + 1) w w') : GxO c w' b v L := by
  obtain ⟨B, h1, h2⟩ := h.own
  exact ⟨h.box.touched ht h.ne, ⟨B, h1, h2.touched ht (by omega)⟩, h.ne⟩
/-- The first graph is drawn. -/
structure AlA (w : World) (c nb : Nat) (bv : Value) (r b4 : Nat) (vg : Value) (L : List (List Int)) (wy : World) : Prop where
  mid : MidC w c nb bv wy
  g : GxO c wy b4 vg L
  r0 : BxT wy r (.slice none 0 0)
  r1 : BxT wy (r + 1) (.slice none 0 0)
variable {w : World} {c nb r b4 : Nat} {bv vg : Value} {L : List (List Int)}
theorem AlA.keep {wy w' : World} (h : AlA w c nb bv r b4 vg L wy) (hb : Below wy.heap.size wy w') : AlA w c nb bv r b4 vg L w' :=
  ⟨h.mid.keep hb, h.g.keep hb, h.r0.keep hb, h.r1.keep hb⟩
theorem AlA.turn {wy w' : World} (h : AlA w c nb bv r b4 vg L wy) (hr : r + 1 < c) (ht : Touched c (c + 1) wy w') (hc : CurAt w' c bv nb) : AlA w c nb bv r b4 vg L w' :=
  ⟨h.mid.turn ht hc, h.g.touchedAt ht, h.r0.low ht (by omega), h.r1.low ht hr⟩
/-- Both are drawn. -/
structure AlS (w : World) (c nb : Nat) (bv : Value) (r b4 : Nat) (vg : Value) (L : List (List Int)) (bo : Nat) (wy : World) : Prop where
  mid : MidC w c nb bv wy
  g : GxO c wy b4 vg L
  p : ∃ LP a n cp, GxO c wy bo (.slice a n cp) LP
  r0 : BxT wy r (.slice none 0 0)
  r1 : BxT wy (r + 1) (.slice none 0 0)
  ne : b4 ≠ bo
  wb : w.heap.size ≤ bo
theorem AlS.turn {bo : Nat} {wy w' : World} (h : AlS w c nb bv r b4 vg L bo wy) (hr : r + 1 < c) (ht : Touched c (c + 1) wy w') (hc : CurAt w' c bv nb) : AlS w c nb bv r b4 vg L bo w' := by
  obtain ⟨LP, a, n, cp, hp⟩ := h.p
  exact ⟨h.mid.turn ht hc, h.g.touchedAt ht, ⟨LP, a, n, cp, hp.touchedAt ht⟩, h.r0.low ht (by omega), h.r1.low ht hr, h.ne, h.wb⟩
theorem AlS.put {bo : Nat} {wy w' : World} (h : AlS w c nb bv r b4 vg L bo wy) (hcw : c < w.heap.size) (hr : r + 1 < c) (ht : Touched c (c + 1) wy w') (hc : CurAt w' c bv nb) {a : Option Addr} {n cp : Nat} {LP : List (List Int)} (ho : OwnGrid 2 29 w' wy.heap.size (.slice a n cp) LP) :
    AlS w c nb bv r b4 vg L bo (w'.setCell ⟨bo, 0, none⟩ (.slice a n cp)) := by
  have h' := h.turn hr ht hc
  obtain ⟨_, _, _, _, hp⟩ := h'.p
  have hne := hp.ne
  have hcl := h.mid.cur.lt
  exact ⟨h'.mid.put h.wb hcw _, h'.g.other hp.box h.ne _, ⟨LP, a, n, cp, GxO.put hp.box hp.ne ho hcl⟩, h'.r0.other (by omega) _, h'.r1.other (by omega) _, h.ne, h.wb⟩
/-- Behind the renaming. -/
def CutAl (w : World) (c nb : Nat) (bv : Value) (r b4 : Nat) (vg : Value) (L : List (List Int)) (p b : Value) (wx : World) : Prop :=
  ∃ bo ok, p = .pointer (some ⟨bo, 0, none⟩) ∧ b = .bool ok ∧ AlS w c nb bv r b4 vg L bo wx
theorem CutAl.last {w3 : World} {a : Option Addr} {n cp B : Nat} {LP : List (List Int)} {ok : Bool} (h : AlA w c nb bv r b4 vg L w3) (ho : OwnGrid 2 29 w3 B (.slice a n cp) LP) (hB : c < B) :
    CutAl w c nb bv r b4 vg L (.pointer (some ⟨w3.heap.size, 0, none⟩)) (.bool ok) (w3.alloc (.cells #[.slice a n cp] 26)) := by
  have h' := h.keep ((Below.refl w3.heap.size w3).alloc (Nat.le_refl _) (.cells #[.slice a n cp] 26))
  have h2 := h.g.box.lt
  have h3 := h.mid.bel.size
  exact ⟨w3.heap.size, ok, rfl, rfl, h'.mid, h'.g, ⟨LP, a, n, cp, GxO.new ho hB h.mid.cur.lt⟩, h'.r0, h'.r1, by omega, h3⟩
theorem CutAl.first {w3 : World} {a : Option Addr} {n cp B bo : Nat} {LP : List (List Int)} {ok : Bool} (hcw : c < w.heap.size) (hr : r + 1 < c) (h : AlA w c nb bv r b4 vg L w3) (ho : OwnGrid 2 29 w3 B (.slice a n cp) LP) (hB : c < B) (hbx : BxT w3 bo (.slice none 0 0)) (hbo : w.heap.size ≤ bo) (hne : b4 ≠ bo) :
    CutAl w c nb bv r b4 vg L (.pointer (some ⟨bo, 0, none⟩)) (.bool ok) (w3.setCell ⟨bo, 0, none⟩ (.slice a n cp)) :=
  ⟨bo, ok, rfl, rfl, h.mid.put hbo hcw _, h.g.other hbx hne _, ⟨LP, a, n, cp, GxO.put hbx (by omega) ho hB⟩, h.r0.other (by omega) _, h.r1.other (by omega) _, hne, hbo⟩

theorem al_end {w0 : World} {ag : Option Addr} {ng cg bo : Nat} {wy : World} {LP : List (List Int)} {a : Option Addr} {n cp : Nat} (hr : r + 1 < c) (hrw : r = w0.heap.size) (hb0 : Below w0.heap.size w0 w) (hcw : c < w.heap.size) (h : AlS w c nb bv r b4 (.slice ag ng cg) L bo wy) (hp : GxO c wy bo (.slice a n cp) LP) :
    (wy.setCell ⟨r, 0, none⟩ (.slice ag ng cg)).cell? ⟨r, 0, none⟩ = some (.slice ag ng cg) ∧ ((wy.setCell ⟨r, 0, none⟩ (.slice ag ng cg)).setCell ⟨r + 1, 0, none⟩ (.slice a n cp)).cell? ⟨r + 1, 0, none⟩ = some (.slice a n cp) ∧
      GaveTwo w0 (.returned (.tuple #[.agg #[.slice ag ng cg], .agg #[.slice a n cp]])) ((wy.setCell ⟨r, 0, none⟩ (.slice ag ng cg)).setCell ⟨r + 1, 0, none⟩ (.slice a n cp)).drew := by
  have r0 := h.r0
  have r1 := h.r1
  obtain ⟨B1, hB1, o1⟩ := hp.own
  obtain ⟨B2, hB2, o2⟩ := h.g.own
  have hbl : Below w0.heap.size w0 wy := hb0.trans ((h.mid.bel.below (by omega)).mono (by omega))
  refine ⟨(r0.set _).at.1, ((r1.other (by omega) _).set _).at.1, L, LP, ag, ng, cg, a, n, cp, rfl, ?_, ?_, grid_len h.g.grid, grid_len hp.grid, ((hbl.setCell (p := ⟨r, 0, none⟩) (by show _ ≤ r; omega) _).setCell (p := ⟨r + 1, 0, none⟩) (by show _ ≤ r + 1; omega) _).drew⟩
  · refine GridAt.keep ?_ (Below.refl _ _).drew
    exact ((o2.setBelow (a := ⟨r, 0, none⟩) (by show r < _; omega) _).setBelow (a := ⟨r + 1, 0, none⟩) (by show r + 1 < _; omega) _).grid
  · refine GridAt.keep ?_ (Below.refl _ _).drew
    exact ((o1.setBelow (a := ⟨r, 0, none⟩) (by show r < _; omega) _).setBelow (a := ⟨r + 1, 0, none⟩) (by show r + 1 < _; omega) _).grid
theorem al_end2 {w0 : World} {ag : Option Addr} {ng cg bo : Nat} {wy : World} {LP : List (List Int)} {a : Option Addr} {n cp : Nat} (hr : r + 1 < c) (hrw : r = w0.heap.size) (hb0 : Below w0.heap.size w0 w) (hcw : c < w.heap.size) (h : AlS w c nb bv r b4 (.slice ag ng cg) L bo wy) (hp : GxO c wy bo (.slice a n cp) LP) :
    ((wy.setCell ⟨r + 1, 0, none⟩ (.slice a n cp)).setCell ⟨r, 0, none⟩ (.slice ag ng cg)).cell? ⟨r, 0, none⟩ = some (.slice ag ng cg) ∧ (wy.setCell ⟨r + 1, 0, none⟩ (.slice a n cp)).cell? ⟨r + 1, 0, none⟩ = some (.slice a n cp) ∧
      GaveTwo w0 (.returned (.tuple #[.agg #[.slice ag ng cg], .agg #[.slice a n cp]])) ((wy.setCell ⟨r + 1, 0, none⟩ (.slice a n cp)).setCell ⟨r, 0, none⟩ (.slice ag ng cg)).drew := by
  have r0 := h.r0
  have r1 := h.r1
  obtain ⟨B1, hB1, o1⟩ := hp.own
  obtain ⟨B2, hB2, o2⟩ := h.g.own
  have hbl : Below w0.heap.size w0 wy := hb0.trans ((h.mid.bel.below (by omega)).mono (by omega))
  refine ⟨((r0.other (by omega) _).set _).at.1, (r1.set _).at.1, L, LP, ag, ng, cg, a, n, cp, rfl, ?_, ?_, grid_len h.g.grid, grid_len hp.grid, ((hbl.setCell (p := ⟨r + 1, 0, none⟩) (by show _ ≤ r + 1; omega) _).setCell (p := ⟨r, 0, none⟩) (by show _ ≤ r; omega) _).drew⟩
  · refine GridAt.keep ?_ (Below.refl _ _).drew
    exact ((o2.setBelow (a := ⟨r + 1, 0, none⟩) (by show r + 1 < _; omega) _).setBelow (a := ⟨r, 0, none⟩) (by show r < _; omega) _).grid
  · refine GridAt.keep ?_ (Below.refl _ _).drew
    exact ((o1.setBelow (a := ⟨r + 1, 0, none⟩) (by show r + 1 < _; omega) _).setBelow (a := ⟨r, 0, none⟩) (by show r < _; omega) _).grid

set_option maxHeartbeats 4000000 in
set_option maxRecDepth 100000 in
theorem drawAlikeIn_any (n : Nat) (bv : Value) (w : World) (hb : BytesAt w w.heap.size bv n) : Calls Try.prog 8 #[bv] w (GaveTwo w) := by
  obtain ⟨w0, hw0⟩ : ∃ w0, (w.alloc (.cells #[.slice none 0 0] 26)).alloc (.cells #[.slice none 0 0] 26) = w0 := ⟨_, rfl⟩
  have hb0 : Below w.heap.size w w0 := by rw [← hw0]; exact ((Below.refl _ _).alloc (Nat.le_refl _) _).alloc (by simp) _
  have hs0 : w0.heap.size = w.heap.size + 2 := by rw [← hw0]; simp
  have hr0 : BxT w0 w.heap.size (.slice none 0 0) := by rw [← hw0]; exact (BxT.new w _).keep ((Below.refl _ _).alloc (Nat.le_refl _) _)
  have hr1 : BxT w0 (w.heap.size + 1) (.slice none 0 0) := by
    rw [← hw0]
    have := BxT.new (w.alloc (.cells #[.slice none 0 0] 26)) (.slice none 0 0)
    rwa [size_alloc1] at this
  have HY0 : Hid (BytesAt w0 w0.heap.size bv n) := (hb.keepB hb0 (Nat.le_refl _)).wide (by omega)
  have HR0 := Lib.hid hr0
  have HR1 := Lib.hid hr1
  have HB0 := Lib.hid hb0
  have HS0 := Lib.hid hs0
  have HW0 := Lib.hid hw0
  clear hb hb0 hr0 hr1 hs0 hw0
  go_enter Try.func8, Try.ntmps8
  go_wp2_with fail
  rw [HW0.out]
  refine (l1New_any n bv _ HY0.out).mono ?_
  rintro e w1 ⟨rfl, hc1, hb1⟩
  rw [HS0.out] at hc1 ⊢
  have HC1 := Lib.hid hc1
  have HY1 := Lib.hid (HY0.out.keepB hb1 (Nat.le_refl _))
  rw [HS0.out] at HY1
  have HR01 := Lib.hid (HR0.out.keep hb1)
  have HR11 := Lib.hid (HR1.out.keep hb1)
  have HB1 : Hid (Below w.heap.size w w1) := HB0.out.trans (hb1.mono HB0.out.size)
  have hcw : w.heap.size + 2 < w1.heap.size := hc1.lt
  have hcr : w.heap.size + 1 < w.heap.size + 2 := by omega
  clear hc1 hb1 HY0 HR0 HR1 HW0
  go_wp2_with fail
  refine (l4Draw_any (w.heap.size + 2) n bv w1 HC1.out HY1.out).mono ?_
  rintro e w2 ⟨L, m, a, cap, rfl, ho1, hc1, ht1, hm17⟩
  obtain rfl : m = L.length := by
    obtain ⟨a3, c3, e3⟩ := ho1.grid.slice
    simp only [Value.slice.injEq] at e3
    exact e3.2.1
  have hz1 : w1.heap.size ≤ w2.heap.size := ht1.size
  have hst : Below w2.heap.size w2 (w2.alloc (.cells #[.slice a L.length cap] 26)) := (Below.refl _ _).alloc (Nat.le_refl _) _
  have HA : Hid (AlA w1 (w.heap.size + 2) n bv w.heap.size w2.heap.size (.slice a L.length cap) L (w2.alloc (.cells #[.slice a L.length cap] 26))) :=
    ⟨(MidC.turn ⟨HC1.out, HY1.out, Touched.refl _ _ _⟩ ht1 hc1).keep hst, GxO.new ho1 hcw (by omega), (HR01.out.low ht1 (by omega)).keep hst, (HR11.out.low ht1 (by omega)).keep hst⟩
  clear ho1 hc1 ht1 hst HC1 HY1 HR01 HR11 HS0
  go_wp2_with fail
  generalize (w2.alloc (.cells #[.slice a L.length cap] 26)) = W at HA ⊢
  have kb := HA.out.g.box.at.1
  have hb4 : w2.heap.size < W.heap.size := HA.out.g.box.lt
  have HZ : Hid (Below W.heap.size W W.drew) := (Below.refl _ _).drew
  have HY : Hid (∀ o, Below W.heap.size W (W.alloc o).drew) := fun o => ((Below.refl _ _).alloc (Nat.le_refl _) _).drew
  have HS : Hid (∀ w', Below W.heap.size W w' → w'.cell? ⟨w2.heap.size, 0, none⟩ = some (.slice a L.length cap)) := fun w' h => (HA.out.keep h).g.box.at.1
  go_cut [6, 7] (fun p b wx => CutAl w1 (w.heap.size + 2) n bv w.heap.size w2.heap.size (.slice a L.length cap) L p b wx)
  case first =>
    go_region_held3 (fun wx => wx.cell? ⟨w2.heap.size, 0, none⟩ = some (.slice a L.length cap)) (first | exact kb | with_reducible exact HS.out _ HZ.out | with_reducible exact HS.out _ (HY.out _) | with_reducible exact HSA.out _ (Below.refl _ _) | with_reducible exact HSA.out _ ((Below.refl _ _).alloc (Nat.le_refl _) _) | with_reducible exact HSA.out _ HB14.out | with_reducible exact HSA.out _ (HB14.out.alloc HB14.out.size _) | exact cell_set_blkA _ (by simp; omega) (HSA.out _ HB14.out))
      (first
        | (go_at_call 32; refine (l1DrawOrder_any (w.heap.size + 2) n bv a L.length cap _ (HA.out.keep (by first | with_reducible exact HZ.out | with_reducible exact HY.out _)).mid.cur (HA.out.keep (by first | with_reducible exact HZ.out | with_reducible exact HY.out _)).mid.byt hm17).mono ?_; rintro e wA ⟨xs, ax, nx, cx, rfl, hxs, hox, hdA, htA⟩; have HTA : Hid (AlA w1 (w.heap.size + 2) n bv w.heap.size w2.heap.size (.slice a L.length cap) L wA) := (by first | exact (HA.out.keep HZ.out).turn hcr htA hdA | exact (HA.out.keep (HY.out _)).turn hcr htA hdA); have HOX : Hid (∀ w', Below wA.heap.size wA w' → RowAt w' (.slice ax nx cx) xs) := (fun w' h => (hox.keep h).row); have HSA : Hid (∀ w', Below wA.heap.size wA w' → w'.cell? ⟨w2.heap.size, 0, none⟩ = some (.slice a L.length cap)) := (fun w' h => (HTA.out.keep h).g.box.at.1); have hWA : W.heap.size ≤ wA.heap.size := (by first | exact htA.size | exact Nat.le_trans (HY.out (.cells #[.slice none 0 0] 26)).size htA.size); (first | (have bxA := ((BxT.new W (.slice none 0 0)).keep (Below.refl _ _).drew).touched htA (by omega); have hbo : W.heap.size ≤ W.heap.size := Nat.le_refl _) | skip); clear hxs hox hdA htA)
        | (go_at_call 13; refine (specRenamed_any _ _ L xs _ (HTA.out.keep (by first | with_reducible exact Below.refl _ _ | with_reducible exact (Below.refl _ _).alloc (Nat.le_refl _) _)).g.grid (HOX.out _ (by first | with_reducible exact Below.refl _ _ | with_reducible exact (Below.refl _ _).alloc (Nat.le_refl _) _))).mono ?_; rintro e wB ⟨nB, aB, cB, rfl, hoB, hbB⟩; have HB14 : Hid (Below wA.heap.size wA wB) := (by first | exact hbB | exact ((Below.refl _ _).alloc (Nat.le_refl _) _).trans (hbB.mono (by rw [size_alloc1]; exact Nat.le_succ _))); have OB := Lib.hid (hoB.mono (show wA.heap.size ≤ _ by first | exact Nat.le_refl _ | (rw [size_alloc1]; exact Nat.le_succ _))); (first | (have bxB := bxA.keep hbB) | (have bxB := (BxT.new wA (.slice none 0 0)).keep hbB; have hbo : W.heap.size ≤ wA.heap.size := hWA) | skip); (first | (have kx := bxB.at.1; have fx := bxB.at.2) | skip); clear hoB hbB))
    all_goals (
      go_wp2_with fail
      go_meet
      first | exact CutAl.first hcw hcr (HTA.out.keep HB14.out) OB.out (by omega) bxB (by omega) (by omega) | exact CutAl.last (HTA.out.keep HB14.out) OB.out (by omega))
  case rest =>
    rename World => w5
    obtain ⟨bo, ok, rfl, rfl, hs2⟩ := hcut
    have HS2 := Lib.hid hs2
    clear hs2 kb HA HZ HY HS
    cases ok with
    | false =>
      go_wp2_with fail
      refine (l4Draw_any (w.heap.size + 2) n bv _ HS2.out.mid.cur HS2.out.mid.byt).mono ?_
      rintro e w8a ⟨L8, n8, a8, cap8, rfl, ho8, hc8, ht8, -⟩
      have HS8a := Lib.hid (HS2.out.put hcw hcr ht8 hc8 ho8)
      obtain ⟨_, _, _, _, hp8⟩ := (HS2.out.turn hcr ht8 hc8).p
      have kx := hp8.box.at.1
      have fx := hp8.box.at.2
      clear hp8 ho8 hc8 ht8
      go_wp2_with fail
      clear kx fx
      generalize hw8 : (w8a.setCell ⟨bo, 0, none⟩ (.slice a8 n8 cap8)) = w8xa at HS8a ⊢
      clear hw8
      obtain ⟨LP, a9, n9, c9, hp9⟩ := HS8a.out.p
      have k5 := hp9.box.at.1
      have k4 := HS8a.out.g.box.at.1
      have k2 := HS8a.out.r0.at.1
      have f2 := HS8a.out.r0.at.2
      have k3 := HS8a.out.r1.at.1
      have f3 := HS8a.out.r1.at.2
      have HE1 := Lib.hid (al_end hcr rfl HB1.out hcw HS8a.out hp9)
      have HE2 := Lib.hid (al_end2 hcr rfl HB1.out hcw HS8a.out hp9)
      have hn5 := hp9.ne
      have hn4 := HS8a.out.g.ne
      clear hp9
      go_wp2_with fail
      go_region
      all_goals (
        go_wp2
        first | exact bodyPost_ret (v := .tuple #[.agg #[.slice a L.length cap], .agg #[.slice a9 n9 c9]]) (by simp [results, Try.results8, go_sem, HE1.out.1, HE1.out.2.1]) rfl HE1.out.2.2 | exact bodyPost_ret (v := .tuple #[.agg #[.slice a L.length cap], .agg #[.slice a9 n9 c9]]) (by simp [results, Try.results8, go_sem, HE2.out.1, HE2.out.2.1]) rfl HE2.out.2.2)
    | true =>
      go_wp2_with fail
      refine (l1Once_any (w.heap.size + 2) n bv 3 _ HS2.out.mid.cur HS2.out.mid.byt (by unfold I64; omega)).mono ?_
      rintro e w3 ⟨q, rfl, hc3, ho3⟩
      have HS3 := Lib.hid (HS2.out.turn hcr ho3.at hc3)
      clear hc3 ho3 HS2
      cases q with
      | false =>
        obtain ⟨LP, a9, n9, c9, hp9⟩ := HS3.out.p
        have k5 := hp9.box.at.1
        have k4 := HS3.out.g.box.at.1
        have k2 := HS3.out.r0.at.1
        have f2 := HS3.out.r0.at.2
        have k3 := HS3.out.r1.at.1
        have f3 := HS3.out.r1.at.2
        have HE1 := Lib.hid (al_end hcr rfl HB1.out hcw HS3.out hp9)
        have HE2 := Lib.hid (al_end2 hcr rfl HB1.out hcw HS3.out hp9)
        have hn5 := hp9.ne
        have hn4 := HS3.out.g.ne
        clear hp9
        go_wp2_with fail
        go_region
        all_goals (
          go_wp2
          first | exact bodyPost_ret (v := .tuple #[.agg #[.slice a L.length cap], .agg #[.slice a9 n9 c9]]) (by simp [results, Try.results8, go_sem, HE1.out.1, HE1.out.2.1]) rfl HE1.out.2.2 | exact bodyPost_ret (v := .tuple #[.agg #[.slice a L.length cap], .agg #[.slice a9 n9 c9]]) (by simp [results, Try.results8, go_sem, HE2.out.1, HE2.out.2.1]) rfl HE2.out.2.2)
      | true =>
        go_wp2_with fail
        refine (l4Draw_any (w.heap.size + 2) n bv _ HS3.out.mid.cur HS3.out.mid.byt).mono ?_
        rintro e w8c ⟨L8, n8, a8, cap8, rfl, ho8, hc8, ht8, -⟩
        have HS8c := Lib.hid (HS3.out.put hcw hcr ht8 hc8 ho8)
        obtain ⟨_, _, _, _, hp8⟩ := (HS3.out.turn hcr ht8 hc8).p
        have kx := hp8.box.at.1
        have fx := hp8.box.at.2
        clear hp8 ho8 hc8 ht8
        go_wp2_with fail
        clear kx fx
        generalize hw8 : (w8c.setCell ⟨bo, 0, none⟩ (.slice a8 n8 cap8)) = w8xc at HS8c ⊢
        clear hw8
        obtain ⟨LP, a9, n9, c9, hp9⟩ := HS8c.out.p
        have k5 := hp9.box.at.1
        have k4 := HS8c.out.g.box.at.1
        have k2 := HS8c.out.r0.at.1
        have f2 := HS8c.out.r0.at.2
        have k3 := HS8c.out.r1.at.1
        have f3 := HS8c.out.r1.at.2
        have HE1 := Lib.hid (al_end hcr rfl HB1.out hcw HS8c.out hp9)
        have HE2 := Lib.hid (al_end2 hcr rfl HB1.out hcw HS8c.out hp9)
        have hn5 := hp9.ne
        have hn4 := HS8c.out.g.ne
        clear hp9
        go_wp2_with fail
        go_region
        all_goals (
          go_wp2
          first | exact bodyPost_ret (v := .tuple #[.agg #[.slice a L.length cap], .agg #[.slice a9 n9 c9]]) (by simp [results, Try.results8, go_sem, HE1.out.1, HE1.out.2.1]) rfl HE1.out.2.2 | exact bodyPost_ret (v := .tuple #[.agg #[.slice a L.length cap], .agg #[.slice a9 n9 c9]]) (by simp [results, Try.results8, go_sem, HE2.out.1, HE2.out.2.1]) rfl HE2.out.2.2)

end Go.Proofs.Ytgeifbgjfbfcfaa
