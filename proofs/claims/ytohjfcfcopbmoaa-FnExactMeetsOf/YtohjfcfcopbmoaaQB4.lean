/- The texts B4, B5, joined. -/
import Derived.Test.YtohjfcfcopbmoaaQB1
import Derived.Laws.ResultCell

/- Plain facts: the net of a valid graph. -/
namespace Go.Proofs.Ytohjfcfcopbmoaa
open Go.RowKit

theorem hasB_iff (xs : List Int) (n : Int) : hasB xs n = true ↔ ∃ i, i < xs.length ∧ nth xs i = n := by simp [hasB]

/-- The cells of a net. -/
def netArr (n : Nat) (M : Nat → Nat) : Array Value :=
  #[.int .i64 n, .int .u32 (M 0 : Int), .int .u32 (M 1 : Int), .int .u32 (M 2 : Int), .int .u32 (M 3 : Int), .int .u32 (M 4 : Int), .int .u32 (M 5 : Int), .int .u32 (M 6 : Int), .int .u32 (M 7 : Int), .int .u32 (M 8 : Int),
    .int .u32 (M 9 : Int), .int .u32 (M 10 : Int), .int .u32 (M 11 : Int), .int .u32 (M 12 : Int), .int .u32 (M 13 : Int), .int .u32 (M 14 : Int), .int .u32 (M 15 : Int)]
theorem netArr_size (n : Nat) (M : Nat → Nat) : (netArr n M).size = 17 := rfl
theorem netArr_one (n : Nat) (M : Nat → Nat) : (netArr n M).all (·.oneCell') = true := by simp [netArr, Value.oneCell']
theorem netArr_zero (n : Nat) (M : Nat → Nat) : (netArr n M)[0]? = some (.int .i64 n) := rfl
theorem netArr_get (n : Nat) (M : Nat → Nat) (i : Nat) (hi : i < 16) : (netArr n M)[1 + i]? = some (.int .u32 (M i : Int)) := by
  have h : i = 0 ∨ i = 1 ∨ i = 2 ∨ i = 3 ∨ i = 4 ∨ i = 5 ∨ i = 6 ∨ i = 7 ∨ i = 8 ∨ i = 9 ∨ i = 10 ∨ i = 11 ∨ i = 12 ∨ i = 13 ∨ i = 14 ∨ i = 15 := by omega
  rcases h with rfl | rfl | rfl | rfl | rfl | rfl | rfl | rfl | rfl | rfl | rfl | rfl | rfl | rfl | rfl | rfl <;> rfl
theorem netArr_eq {cs : Array Value} {n : Nat} {M : Nat → Nat} (hs : cs.size = 17) (h0 : cs[0]? = some (.int .i64 n)) (h : ∀ i, i < 16 → cs[1 + i]? = some (.int .u32 (M i : Int))) : cs = netArr n M := by
  apply Array.ext_getElem?
  intro j
  match j with
  | 0 => rw [h0, netArr_zero]
  | j + 1 =>
    by_cases hj : j < 16
    · rw [Nat.add_comm, h j hj, netArr_get n M j hj]
    · rw [Array.getElem?_eq_none (by omega), Array.getElem?_eq_none (by rw [netArr_size]; omega)]
theorem netArr_congr {n n' : Nat} {M M' : Nat → Nat} (hn : n = n') (h : ∀ i, i < 16 → M i = M' i) : netArr n M = netArr n' M' :=
  netArr_eq (by rw [netArr_size]) (by rw [netArr_zero, hn]) (fun i hi => by rw [netArr_get n M i hi, h i hi])

theorem netArr_set (n : Nat) (M : Nat → Nat) (i m : Nat) (hi : i < 16) : (netArr n M).setIfInBounds (1 + i) (.int .u32 (m : Int)) = netArr n (fun j => if j = i then m else M j) := by
  refine netArr_eq (by rw [Array.size_setIfInBounds, netArr_size]) ?_ (fun j hj => ?_)
  · rw [Array.getElem?_setIfInBounds, if_neg (by omega), netArr_zero]
  · rw [Array.getElem?_setIfInBounds]
    by_cases e : j = i
    · subst e
      rw [if_pos rfl, if_pos (by rw [netArr_size]; omega)]
      simp
    · rw [if_neg (by omega), netArr_get n M j hj]
      simp [e]

/-- Block g is a net's: n vertices, masks M; it is not frozen. T: the net type's number. -/
def NetBlk (T : TypeId) (w : World) (g n : Nat) (M : Nat → Nat) : Prop := w.heap[g]? = some (.cells (netArr n M) T (0, 0))
theorem NetBlk.at {T : TypeId} {w : World} {g n : Nat} {M : Nat → Nat} (h : NetBlk T w g n M) : NetAt w g n M :=
  ⟨by rw [cell_of_row w g 0 _ _ _ h, netArr_zero], fun i hi => by rw [cell_of_row w g _ _ _ _ h, netArr_get n M i hi]⟩
theorem NetBlk.frozen {T : TypeId} {w : World} {g n : Nat} {M : Nat → Nat} (h : NetBlk T w g n M) (i : Nat) : w.frozen? ⟨g, i, none⟩ = false := frozen_of_row w g i _ T h
theorem NetBlk.lt {T : TypeId} {w : World} {g n : Nat} {M : Nat → Nat} (h : NetBlk T w g n M) : g < w.heap.size := by
  obtain ⟨hlt, _⟩ := Array.getElem?_eq_some_iff.1 h
  exact hlt
theorem NetBlk.keep {T : TypeId} {w w' : World} {g n : Nat} {M : Nat → Nat} (h : NetBlk T w g n M) (hb : Below w.heap.size w w') : NetBlk T w' g n M := by
  unfold NetBlk
  rw [hb.block g h.lt]; exact h
theorem NetBlk.keepB {T : TypeId} {w w' : World} {B g n : Nat} {M : Nat → Nat} (h : NetBlk T w g n M) (hb : Below B w w') (hg : g < B) : NetBlk T w' g n M := by
  unfold NetBlk
  rw [hb.block g hg]; exact h
theorem NetBlk.drawn {T : TypeId} {w w' : World} {g n : Nat} {M : Nat → Nat} (h : NetBlk T w g n M) (hb : Drawn w w') : NetBlk T w' g n M := h.keep (hb.below _)
theorem NetBlk.set {T : TypeId} {w : World} {g n : Nat} {M : Nat → Nat} (h : NetBlk T w g n M) (i m : Nat) (hi : i < 16) : NetBlk T (w.setCell ⟨g, 1 + i, none⟩ (.int .u32 (m : Int))) g n (fun j => if j = i then m else M j) := by
  unfold NetBlk
  rw [heap_setCell_same w g (1 + i) _ T _ h, netArr_set n M i m hi]
theorem NetBlk.setOther {T : TypeId} {w : World} {g n : Nat} {M : Nat → Nat} (h : NetBlk T w g n M) {a : Addr} (ha : g ≠ a.block) (u : Value) : NetBlk T (w.setCell a u) g n M := by
  unfold NetBlk
  rw [heap_setCell_other _ _ _ _ ha]; exact h
theorem NetBlk.congr {T : TypeId} {w : World} {g n n' : Nat} {M M' : Nat → Nat} (h : NetBlk T w g n M) (hn : n = n') (hM : ∀ i, i < 16 → M i = M' i) : NetBlk T w g n' M' := by
  unfold NetBlk
  rw [← netArr_congr hn hM]; exact h

/-- A store of a whole net into block g: what lies elsewhere stays. -/
structure NetPut (T : TypeId) (w w' : World) (g n : Nat) (M : Nat → Nat) : Prop where
  os : w'.os = w.os
  tape : w'.tape = w.tape
  output : w'.output = w.output
  size : w'.heap.size = w.heap.size
  net : NetBlk T w' g n M
  other : ∀ k, k ≠ g → w'.heap[k]? = w.heap[k]?
theorem NetPut.below {T : TypeId} {w w' : World} {g n : Nat} {M : Nat → Nat} (h : NetPut T w w' g n M) : Below g w w' :=
  ⟨h.os, h.tape, h.output, Nat.le_of_eq h.size.symm, fun k hk => h.other k (by omega)⟩
theorem NetPut.cell {T : TypeId} {w w' : World} {g n : Nat} {M : Nat → Nat} (h : NetPut T w w' g n M) {a : Addr} (ha : a.block ≠ g) : w'.cell? a = w.cell? a := World.cell?_of_block (w := w) (h.other _ ha)

theorem wpList_store_net {P : Program} {ops : Array Oper} {rest : List Oper} {o : Oper} {a : Act} {w : World} {Q : Exit → Act → World → Prop} (hgd : o.guard = none) (ty : TypeId) (x y : Operand) (ho : o.op = .store ty x y)
    (g n : Nat) (M : Nat → Nat) (hx : a.eval x = .pointer (some ⟨g, 0, none⟩)) (hy : a.eval y = .agg (netArr n M)) (hi : (P.info? ty).map (·.size) = some 17)
    (n0 : Nat) (M0 : Nat → Nat) (hg : NetBlk ty w g n0 M0)
    (h : ∀ w', NetPut ty w w' g n M → wpList P ops Q rest (a.put o.dst undef) w') : wpList P ops Q (o :: rest) a w := by
  refine wpList_store_row hgd ty x y ho g (netArr n M) hx hy ty (netArr n0 M0) hg (by rw [hi, netArr_size]) (by rw [netArr_size, netArr_size]) (netArr_one _ _) (h _ ?_)
  exact ⟨rfl, rfl, rfl, size_setRow _ _ _, setRow_heap w g _ _ ty _ hg, fun k hk => setRow_other w g k _ hk⟩

end Go.Proofs.Ytohjfcfcopbmoaa

/- Walks: the net of a graph. -/
namespace Go.Proofs.Ytohjfcfcopbmoaa
open Go.RowKit

theorem Try.sizeNet : (Try.prog.info? 61).map (·.size) = some 17 := by kernel_rfl

end Go.Proofs.Ytohjfcfcopbmoaa
