/- Walks: the draws of chapter 4, whose cursor is the caller's. -/
import Derived.Test.YtojbaepcflkgeaaQU2
import Derived.Test.YtojbaepcflkgeaaQK2
import Derived.Test.YtojbaepcflkgeaaQM4
import Derived.Deep.RegionHeld3

namespace Go.Proofs.Ytojbaepcflkgeaa
open Go.RowKit

/-- In the midst of a draw: the cursor and the bytes; nothing else that lay has turned. -/
structure MidC (w : World) (c nb : Nat) (bv : Value) (wr : World) : Prop where
  cur : CurAt wr c bv nb
  byt : BytesAt wr c bv nb
  bel : Touched c (c + 1) w wr
theorem MidC.keep {w : World} {c nb : Nat} {bv : Value} {wr w' : World} (h : MidC w c nb bv wr) (hb : Below wr.heap.size wr w') : MidC w c nb bv w' :=
  ⟨h.cur.keepB hb h.cur.lt, h.byt.keepB hb (Nat.le_of_lt h.cur.lt), h.bel.under hb h.bel.size⟩
theorem MidC.turn {w : World} {c nb : Nat} {bv : Value} {wr w' : World} (h : MidC w c nb bv wr) (ht : Touched c (c + 1) wr w') (hc : CurAt w' c bv nb) : MidC w c nb bv w' :=
  ⟨hc, ht.bytes h.byt (Nat.le_of_lt h.cur.lt), h.bel.trans ht⟩
theorem MidC.put {w : World} {c nb : Nat} {bv : Value} {wr : World} (h : MidC w c nb bv wr) {b : Nat} (hb : w.heap.size ≤ b) (hcw : c < w.heap.size) (v : Value) : MidC w c nb bv (wr.setCell ⟨b, 0, none⟩ v) :=
  have hs : Below w.heap.size wr (wr.setCell ⟨b, 0, none⟩ v) := (Below.refl _ _).setCell (p := ⟨b, 0, none⟩) hb v
  ⟨h.cur.keepB hs hcw, h.byt.keepB hs (Nat.le_of_lt hcw), h.bel.under hs (Nat.le_refl _)⟩
theorem OnlyBlk.at {c : Nat} {w w' : World} (h : OnlyBlk c w w') : Touched c (c + 1) w w' := h.touched (Nat.le_refl _) (by omega)

/-- A box of a graph, by its block. -/
def BxT (w : World) (b : Nat) (v : Value) : Prop := w.heap[b]? = some (.cells #[v] 30 (0, 0))
theorem BxT.at {w : World} {b : Nat} {v : Value} (h : BxT w b v) : BoxAt w b v := ⟨by rw [cell_of_row w b 0 _ _ _ h]; rfl, frozen_of_row w b 0 _ _ h⟩
theorem BxT.lt {w : World} {b : Nat} {v : Value} (h : BxT w b v) : b < w.heap.size := (Array.getElem?_eq_some_iff.1 h).1
theorem BxT.new (w : World) (v : Value) : BxT (w.alloc (.cells #[v] 30)) w.heap.size v := heap_alloc_new w _
theorem BxT.keep {w w' : World} {b : Nat} {v : Value} (h : BxT w b v) (hb : Below w.heap.size w w') : BxT w' b v := by unfold BxT; rw [hb.block b h.lt]; exact h
theorem BxT.touched {c : Nat} {w w' : World} {b : Nat} {v : Value} (h : BxT w b v) (ht : Touched c (c + 1) w w') (hb : c < b) : BxT w' b v := by unfold BxT; rw [ht.other b h.lt (by omega)]; exact h
theorem BxT.set {w : World} {b : Nat} {v : Value} (h : BxT w b v) (u : Value) : BxT (w.setCell ⟨b, 0, none⟩ u) b u := by unfold BxT; rw [heap_setCell_same w b 0 _ _ _ h]; rfl
theorem BxT.other {w : World} {b b' : Nat} {v : Value} (h : BxT w b v) (hne : b ≠ b') (u : Value) : BxT (w.setCell ⟨b', 0, none⟩ u) b v := by unfold BxT; rw [heap_setCell_other _ _ _ _ hne]; exact h
/-- A box above lo, and in it a graph of one's own above lo. -/
structure GxO (lo : Nat) (w : World) (b : Nat) (v : Value) (L : List (List Int)) : Prop where
  box : BxT w b v
  own : ∃ B, lo < B ∧ OwnGrid 2 35 w B v L
  ne : lo < b
namespace GxO
variable {lo : Nat} {w w' : World} {b : Nat} {v : Value} {L : List (List Int)}
theorem keep (h : GxO lo w b v L) (hb : Below w.heap.size w w') : GxO lo w' b v L := by
  obtain ⟨B, h1, h2⟩ := h.own
  exact ⟨h.box.keep hb, ⟨B, h1, h2.keep hb⟩, h.ne⟩
theorem touched {c : Nat} (h : GxO lo w b v L) (ht : Touched c (c + 1) w w') (hc : c < lo) : GxO lo w' b v L := by
  obtain ⟨B, h1, h2⟩ := h.own
  exact ⟨h.box.touched ht (by have := h.ne; omega), ⟨B, h1, h2.touched ht (by omega)⟩, h.ne⟩
theorem other {b' : Nat} {u' : Value} (h : GxO lo w b v L) (hb : BxT w b' u') (hne : b ≠ b') (u : Value) : GxO lo (w.setCell ⟨b', 0, none⟩ u) b v L := by
  obtain ⟨B, h1, h2⟩ := h.own
  exact ⟨h.box.other hne u, ⟨B, h1, h2.setType hb (by decide) (by decide) 0 u⟩, h.ne⟩
theorem grid (h : GxO lo w b v L) : GridAt w v L := by
  obtain ⟨B, _, h2⟩ := h.own
  exact h2.grid
theorem new {B : Nat} (h : OwnGrid 2 35 w B v L) (hB : lo < B) (hd : lo < w.heap.size) : GxO lo (w.alloc (.cells #[v] 30)) w.heap.size v L :=
  ⟨BxT.new w v, ⟨B, hB, h.keep ((Below.refl _ _).alloc (Nat.le_refl _) _)⟩, hd⟩
/-- Another graph is put into the box. -/
theorem put {v' : Value} {L' : List (List Int)} {B : Nat} (h : BxT w b v) (hlo : lo < b) (ho : OwnGrid 2 35 w B v' L') (hB : lo < B) : GxO lo (w.setCell ⟨b, 0, none⟩ v') b v' L' :=
  ⟨h.set v', ⟨B, hB, ho.setType h (by decide) (by decide) 0 v'⟩, hlo⟩
end GxO

/-- .. and lie in the world. -/
def GaveTwo (w : World) (e : Ending) (w' : World) : Prop :=
  ∃ Lp Lg ap np cp ag ng cg, e = .returned (.tuple #[.agg #[.slice ap np cp], .agg #[.slice ag ng cg]]) ∧ GridAt w' (.slice ap np cp) Lp ∧ GridAt w' (.slice ag ng cg) Lg ∧ np = Lp.length ∧ ng = Lg.length ∧ Below w.heap.size w w'
theorem grid_len {w : World} {a : Option Addr} {n c : Nat} {L : List (List Int)} (h : GridAt w (.slice a n c) L) : n = L.length := by
  obtain ⟨a3, c3, e3⟩ := h.slice
  simp only [Value.slice.injEq] at e3
  exact e3.2.1
end Go.Proofs.Ytojbaepcflkgeaa
