/- The texts CO1, CO2, CS2, EM1, EN1, EN2, EN3, EN4, EN5, joined. -/
import Derived.Test.YtohjfcfcopbmoaaGreatDoorQM1
import Derived.Test.YtohjfcfcopbmoaaGreatDoorQC1
import Derived.Test.YtohjfcfcopbmoaaGreatDoorQF6
import Derived.Test.YtohjfcfcopbmoaaGreatDoorQCX3
import Derived.Test.YtohjfcfcopbmoaaGreatDoorQN4
import Derived.Test.YtohjfcfcopbmoaaGreatDoorQLater
import Derived.BigQuiet
import Derived.Test.YtohjfcfcopbmoaaGreatDoorQW2
import Derived.RangeFuncNested
import Derived.RangeFuncBound
import Derived.RangeFuncCalls
import Derived.RangeFuncLeaves
import Derived.Shelf.Abstract
import Derived.Shelf.RegionOpen
import Derived.OwnWalkIn
import Derived.TacticsInMore
import Derived.LoopNIn
import Derived.LoopIn
import Derived.Deep.RegionLaw
import Derived.Laws.EntriesVeiled
import Derived.Test.YtohjfcfcopbmoaaGreatDoorQX2
import Derived.Test.YtohjfcfcopbmoaaGreatDoorQF1
import Derived.Test.YtohjfcfcopbmoaaGreatDoorQK2

/- Walks: the adjacency code, of the model. -/
namespace Go.Proofs.YtohjfcfcopbmoaaGreatDoor
open Go.RowKit

theorem lit1 (w : World) (x : Int) (T : TypeId) : ∀ j u, ([Value.int .i64 x] : List Value)[j]? = some u → (w.alloc (.cells #[.int .i64 x] T)).cell? ((⟨w.heap.size, 0, none⟩ : Addr).add j) = some u := by
  intro j u hj
  match j, hj with
  | 0, hj => simp at hj; subst hj; simp [Addr.add]
theorem one1 (x : Int) : ∀ u ∈ ([Value.int .i64 x] : List Value), u.oneCell' = true := by
  intro u hu; simp at hu; subst hu; rfl

end Go.Proofs.YtohjfcfcopbmoaaGreatDoor

/- Walks: the adjacency code, of the program. -/
namespace Go.Proofs.YtohjfcfcopbmoaaGreatDoor
open Go.RowKit

/-- Who is near whom, by masks. -/
def mA (M : Nat → Nat) (a b : Nat) : Bool := (M a).testBit b

end Go.Proofs.YtohjfcfcopbmoaaGreatDoor

/- Walks: which of two lists is less, of the model. -/
namespace Go.Proofs.YtohjfcfcopbmoaaGreatDoor
open Go.RowKit

open Classical in
/-- Is one less? -/
noncomputable def ltB (xs ys : List Int) : Bool := decide (ltR xs ys)
theorem ltB_iff (xs ys : List Int) : ltB xs ys = true ↔ ltR xs ys := by
  classical
  unfold ltB
  exact decide_eq_true_iff
theorem ltB_of {xs ys : List Int} {b : Bool} (h : ltR xs ys ↔ b = true) : ltB xs ys = b := by
  cases b with
  | true => exact (ltB_iff _ _).2 (h.2 rfl)
  | false =>
    cases hq : ltB xs ys with
    | false => rfl
    | true => exact absurd (h.1 ((ltB_iff _ _).1 hq)) (by simp)
theorem ltB_len {xs ys : List Int} (hl : xs.length ≠ ys.length) : ltB xs ys = decide (xs.length < ys.length) := by
  refine ltB_of ?_
  rw [decide_eq_true_iff]
  constructor
  · rintro (g | ⟨g, _⟩)
    · exact g
    · exact absurd g hl
  · exact Or.inl

end Go.Proofs.YtohjfcfcopbmoaaGreatDoor

/- Plain facts: all lists, one vertex after another. -/
namespace Go.Proofs.YtohjfcfcopbmoaaGreatDoor

theorem nth_app_lt {xs : List Int} {x : Int} {i : Nat} (h : i < xs.length) : nth (xs ++ [x]) i = nth xs i := by simp [nth, List.getElem?_append_left h]
theorem nth_app_at (xs : List Int) (x : Int) : nth (xs ++ [x]) xs.length = x := by simp [nth]
/-- ys comes ahead of zs. -/
def LexLt (ys zs : List Int) : Prop := ∃ k, k < ys.length ∧ k < zs.length ∧ (∀ j, j < k → nth ys j = nth zs j) ∧ nth ys k < nth zs k
theorem lex_asymm {ys zs : List Int} (h : LexLt ys zs) (h' : LexLt zs ys) : False := by
  obtain ⟨k, _, _, h1, h2⟩ := h
  obtain ⟨k', _, _, h1', h2'⟩ := h'
  rcases Nat.lt_trichotomy k k' with hlt | rfl | hlt
  · have := h1' k hlt; omega
  · omega
  · have := h1 k' hlt; omega
end Go.Proofs.YtohjfcfcopbmoaaGreatDoor

/- A law of loops over an iterator that hands out one and the same memory, filled anew for each round. No statement of the program. -/
namespace Go.Proofs.YtohjfcfcopbmoaaGreatDoor
open Go.RowKit

theorem RowAt.but {T : Nat → Prop} {w w' : World} {b n c : Nat} {x : List Int} (h : RowAt w (.slice (some ⟨b, 0, none⟩) n c) x) (hk : KeepsBut T w w') (hb : ¬ T b) : RowAt w' (.slice (some ⟨b, 0, none⟩) n c) x := by
  obtain ⟨h1, h2, h3⟩ := h
  refine ⟨h1, h2, ?_⟩
  rcases h3 with h3 | ⟨b', o, c', e, l1, l2, hc⟩
  · exact Or.inl h3
  · refine Or.inr ⟨b', o, c', e, l1, l2, fun i hi => ?_⟩
    simp only [Value.slice.injEq, Option.some.injEq, Addr.mk.injEq] at e
    exact hk.cell (by show ¬ T b'; rw [← e.1.1]; exact hb) (hc i hi)

variable {F : Fence} {n : Nat} {P : Program}

end Go.Proofs.YtohjfcfcopbmoaaGreatDoor

/- Walks: all lists, one after another, by a closure that calls itself. -/
namespace Go.Proofs.YtohjfcfcopbmoaaGreatDoor
open Go.RowKit Go.Shelf
attribute [local go_sem] Oper.semAt_some

/-- All elements are below 16. -/
def InL (xs : List Int) : Prop := ∀ i, i < xs.length → 0 ≤ nth xs i ∧ nth xs i < 16
theorem InL.nil : InL [] := fun i hi => absurd hi (by simp)
theorem InL.snoc {xs : List Int} {v : Int} (h : InL xs) (h0 : 0 ≤ v) (h1 : v < 16) : InL (xs ++ [v]) := fun i hi => by
  rw [List.length_append, List.length_singleton] at hi
  by_cases e : i < xs.length
  · rw [nth_app_lt e]; exact h i e
  · obtain rfl : i = xs.length := by omega
    rw [nth_app_at]; exact ⟨h0, h1⟩
theorem InL.i64 {xs : List Int} (h : InL xs) : ∀ x ∈ xs, I64 x := fun x hx => by
  obtain ⟨i, hi, e⟩ := List.getElem_of_mem hx
  have := h i hi
  rw [nth_eq hi, e] at this
  unfold I64; omega

/-- What is asked of a choice: whatever has come since w but to the blocks of T, it tells C of the list. -/
def ChoiceAt (T : Nat → Prop) (w : World) (cf : Nat) (lb : Array Value) (sz : Nat) (C : List Int → Nat) : Prop :=
  ∀ (W : World) (v : Value) (xs : List Int), KeepsBut T w W → RowAt W v xs → InL xs → xs.length < sz →
    Calls Tryz.prog cf (#[v] ++ lb) W fun e W' => e = .returned (.int .u32 (C xs : Int)) ∧ Below W.heap.size W W'

/-- One more at the end, where there is room. -/
theorem OwnRow.room {T : TypeId} {w : World} {B b sz : Nat} {xs : List Int} (h : OwnRow T w B (.slice (some ⟨b, 0, none⟩) xs.length sz) xs) (hlt : xs.length < sz) {x : Int} (hx : I64 x) :
    OwnRow T (w.setCell ⟨b, xs.length, none⟩ (.int .i64 x)) B (.slice (some ⟨b, 0, none⟩) (xs.length + 1) sz) (xs ++ [x]) ∧ OwnRow T (w.setCell ⟨b, xs.length, none⟩ (.int .i64 x)) B (.slice (some ⟨b, 0, none⟩) xs.length sz) xs ∧
      (w.cell? ⟨b, xs.length, none⟩).isSome = true ∧ w.frozen? ⟨b, xs.length, none⟩ = false ∧ b < w.heap.size := by
  obtain ⟨h1, h2, h3⟩ := h
  rcases h3 with ⟨e, _⟩ | ⟨g, cap, cur, e, hgB, hh, l1, l2, hs, hc⟩
  · simp at e
  · simp only [Value.slice.injEq, Option.some.injEq, Addr.mk.injEq, and_true, true_and] at e
    obtain ⟨rfl, rfl⟩ := e
    have hm : xs.length + 1 ≤ maxLen := by omega
    refine ⟨⟨fun y hy => ?_, by simpa using hm, Or.inr ⟨b, sz, cur.set! xs.length (.int .i64 x), by simp, hgB, heap_setCell_same w b _ _ _ _ hh, by simp; omega, l2, by simp [hs], fun i hi => ?_⟩⟩,
      ⟨h1, h2, Or.inr ⟨b, sz, cur.set! xs.length (.int .i64 x), rfl, hgB, heap_setCell_same w b _ _ _ _ hh, l1, l2, by simp [hs], fun i hi => ?_⟩⟩, ?_, frozen_of_row w b _ cur T hh, (Array.getElem?_eq_some_iff.1 hh).1⟩
    · rcases List.mem_append.1 hy with hy | hy
      · exact h1 y hy
      · simp at hy; subst hy; exact hx
    · rw [List.length_append, List.length_singleton] at hi
      by_cases e : i < xs.length
      · rw [nth_app_lt e, ← hc i e]; simp [show xs.length ≠ i from by omega]
      · obtain rfl : i = xs.length := by omega
        rw [nth_app_at]
        have : xs.length < cur.size := by omega
        simp [this]
    · rw [← hc i hi]; simp [show xs.length ≠ i from by omega]
    · rw [cell_of_row w b _ cur T _ hh]
      have : xs.length < cur.size := by omega
      simp [this]

theorem OwnRow.less {T : TypeId} {w : World} {B b n sz : Nat} {xs : List Int} {x : Int} (h : OwnRow T w B (.slice (some ⟨b, 0, none⟩) n sz) (xs ++ [x])) : OwnRow T w B (.slice (some ⟨b, 0, none⟩) xs.length sz) xs := by
  obtain ⟨h1, h2, h3⟩ := h
  refine ⟨fun y hy => h1 y (List.mem_append_left _ hy), by simp at h2; omega, ?_⟩
  rcases h3 with ⟨e, _⟩ | ⟨g, cap, cur, e, hgB, hh, l1, l2, hs, hc⟩
  · simp at e
  · simp only [Value.slice.injEq, Option.some.injEq, Addr.mk.injEq, and_true, true_and] at e
    obtain ⟨rfl, e2, rfl⟩ := e
    simp at l1
    refine Or.inr ⟨b, sz, cur, rfl, hgB, hh, by omega, l2, hs, fun i hi => ?_⟩
    rw [hc i (by simp; omega), nth_app_lt hi]

end Go.Proofs.YtohjfcfcopbmoaaGreatDoor

/- Walks: the iterator over all lists. -/
namespace Go.Proofs.YtohjfcfcopbmoaaGreatDoor
open Go.RowKit Go.Shelf

theorem made_row (w : World) (B sz : Nat) (hB : B ≤ w.heap.size) (hm : sz ≤ maxLen) : OwnRow 2 (w.alloc (.cells (madeCells #[.int .i64 0] sz) 2)) B (.slice (some ⟨w.heap.size, 0, none⟩) 0 sz) [] :=
  ⟨by simp, by simp, Or.inr ⟨w.heap.size, sz, madeCells #[.int .i64 0] sz, rfl, hB, World.alloc_heap_new w _, Nat.zero_le _, hm, by simp [size_madeCells], fun i hi => absurd hi (by simp)⟩⟩

end Go.Proofs.YtohjfcfcopbmoaaGreatDoor

/- Walks: who is not in a list, who has room behind it; the choice by which a graph stands for a pattern. -/
namespace Go.Proofs.YtohjfcfcopbmoaaGreatDoor
open Go.RowKit Go.Shelf

theorem NetAt.but {T : Nat → Prop} {w w' : World} {b n : Nat} {M : Nat → Nat} (h : NetAt w b n M) (hb : KeepsBut T w w') (hT : ¬ T b) : NetAt w' b n M := ⟨hb.cell hT h.1, fun i hi => hb.cell hT (h.2 i hi)⟩

end Go.Proofs.YtohjfcfcopbmoaaGreatDoor

/- Walks: twins, and a choice narrowed by them. -/
namespace Go.Proofs.YtohjfcfcopbmoaaGreatDoor
open Go.RowKit Go.Shelf

/-- Sixteen masks, as cells. -/
def tabArr (M : Nat → Nat) : Array Value :=
  #[.int .u32 (M 0 : Int), .int .u32 (M 1 : Int), .int .u32 (M 2 : Int), .int .u32 (M 3 : Int), .int .u32 (M 4 : Int), .int .u32 (M 5 : Int), .int .u32 (M 6 : Int), .int .u32 (M 7 : Int), .int .u32 (M 8 : Int),
    .int .u32 (M 9 : Int), .int .u32 (M 10 : Int), .int .u32 (M 11 : Int), .int .u32 (M 12 : Int), .int .u32 (M 13 : Int), .int .u32 (M 14 : Int), .int .u32 (M 15 : Int)]
theorem tabArr_size (M : Nat → Nat) : (tabArr M).size = 16 := rfl
theorem tabArr_get (M : Nat → Nat) (i : Nat) (hi : i < 16) : (tabArr M)[i]? = some (.int .u32 (M i : Int)) := by
  have h : i = 0 ∨ i = 1 ∨ i = 2 ∨ i = 3 ∨ i = 4 ∨ i = 5 ∨ i = 6 ∨ i = 7 ∨ i = 8 ∨ i = 9 ∨ i = 10 ∨ i = 11 ∨ i = 12 ∨ i = 13 ∨ i = 14 ∨ i = 15 := by omega
  rcases h with rfl | rfl | rfl | rfl | rfl | rfl | rfl | rfl | rfl | rfl | rfl | rfl | rfl | rfl | rfl | rfl <;> rfl
theorem tabArr_eq {cs : Array Value} {M : Nat → Nat} (hs : cs.size = 16) (h : ∀ i, i < 16 → cs[i]? = some (.int .u32 (M i : Int))) : cs = tabArr M := by
  apply Array.ext_getElem?
  intro j
  by_cases hj : j < 16
  · rw [h j hj, tabArr_get M j hj]
  · rw [Array.getElem?_eq_none (by omega), Array.getElem?_eq_none (by rw [tabArr_size]; omega)]
theorem tabArr_congr {M M' : Nat → Nat} (h : ∀ i, i < 16 → M i = M' i) : tabArr M = tabArr M' := tabArr_eq (tabArr_size M) (fun i hi => by rw [tabArr_get M i hi, h i hi])
theorem tabArr_set (M : Nat → Nat) (i m : Nat) (hi : i < 16) : (tabArr M).setIfInBounds i (.int .u32 (m : Int)) = tabArr (fun j => if j = i then m else M j) := by
  refine tabArr_eq (by rw [Array.size_setIfInBounds, tabArr_size]) (fun j hj => ?_)
  rw [Array.getElem?_setIfInBounds]
  by_cases e : j = i
  · subst e
    rw [if_pos rfl, if_pos (by rw [tabArr_size]; omega)]
    simp
  · rw [if_neg (by omega), tabArr_get M j hj]
    simp [e]
/-- Block g holds sixteen masks; it is not frozen. -/
def TabBlk (w : World) (g : Nat) (M : Nat → Nat) : Prop := w.heap[g]? = some (.cells (tabArr M) 81 (0, 0))
namespace TabBlk
variable {w w' : World} {g : Nat} {M : Nat → Nat}
theorem cell (h : TabBlk w g M) {i : Nat} (hi : i < 16) : w.cell? ⟨g, i, none⟩ = some (.int .u32 (M i : Int)) := by rw [cell_of_row w g i _ _ _ h, tabArr_get M i hi]
theorem frozen (h : TabBlk w g M) (i : Nat) : w.frozen? ⟨g, i, none⟩ = false := frozen_of_row w g i _ _ h
theorem lt (h : TabBlk w g M) : g < w.heap.size := (Array.getElem?_eq_some_iff.1 h).1
theorem keep (h : TabBlk w g M) (hb : Below w.heap.size w w') : TabBlk w' g M := by unfold TabBlk; rw [hb.block g h.lt]; exact h
theorem set (h : TabBlk w g M) (i m : Nat) (hi : i < 16) : TabBlk (w.setCell ⟨g, i, none⟩ (.int .u32 (m : Int))) g (fun j => if j = i then m else M j) := by
  unfold TabBlk
  rw [heap_setCell_same w g i _ _ _ h, tabArr_set M i m hi]
theorem setOther (h : TabBlk w g M) {a : Addr} (ha : g ≠ a.block) (u : Value) : TabBlk (w.setCell a u) g M := by
  unfold TabBlk
  rw [heap_setCell_other _ _ _ _ ha]; exact h
theorem congr {M' : Nat → Nat} (h : TabBlk w g M) (hM : ∀ i, i < 16 → M i = M' i) : TabBlk w g M' := by unfold TabBlk; rw [← tabArr_congr hM]; exact h
theorem but {T : Nat → Prop} (h : TabBlk w g M) (hb : KeepsBut T w w') (hT : ¬ T g) : TabBlk w' g M := by unfold TabBlk; rw [hb.2 g h.lt hT]; exact h
end TabBlk

/-- u and v can change places. -/
def twinB (M : Nat → Nat) (u v : Nat) : Bool := clrM (clrM (M u ^^^ M v) (2 ^ u)) (2 ^ v) == 0
/-- The twins of v below k. -/
def twRow (M : Nat → Nat) (v k : Nat) : Nat := pm (fun u => decide (u < k) && twinB M u v)
/-- The table, half filled. -/
def twTab (M : Nat → Nat) (v k i : Nat) : Nat := if i < v then twRow M i i else if i = v then twRow M v k else 0
/-- What lies in the midst of the search for twins. -/
structure TwIn (w : World) (bn n : Nat) (M : Nat → Nat) (v k : Nat) (wr : World) : Prop where
  out : TabBlk wr (w.heap.size + 1) (twTab M v k)
  res : TabBlk wr w.heap.size (fun _ => 0)
  bel : Below w.heap.size w wr
theorem TwIn.later {w : World} {bn n : Nat} {M : Nat → Nat} {v k : Nat} {wr w' : World} (h : TwIn w bn n M v k wr) (hb : Below wr.heap.size wr w') : TwIn w bn n M v k w' := ⟨h.out.keep hb, h.res.keep hb, h.bel.trans (hb.mono h.bel.size)⟩

end Go.Proofs.YtohjfcfcopbmoaaGreatDoor
