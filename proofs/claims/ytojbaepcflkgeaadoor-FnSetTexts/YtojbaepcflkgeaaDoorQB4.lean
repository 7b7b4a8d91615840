/- The texts B4, B5, joined. -/
import Derived.Test.YtojbaepcflkgeaaDoorQB1
import Derived.Laws.ResultCell

/- Plain facts: the net of a valid graph. -/
namespace Go.Proofs.YtojbaepcflkgeaaDoor
open Go.RowKit

theorem hasB_iff (xs : List Int) (n : Int) : hasB xs n = true ↔ ∃ i, i < xs.length ∧ nth xs i = n := by simp [hasB]

theorem hasM_mask {xs : List Int} {n : Int} (h : SetP xs n) (u : Nat) (hu : u < 16) : hasM (maskTo xs xs.length) u = hasB xs u := by
  have hb := maskTo_bit xs xs.length u (fun j hj => (h j hj).1)
  rw [Bool.eq_iff_iff, hasB_iff]
  unfold hasM
  rw [Bool.and_eq_true, decide_eq_true_iff, Int.toNat_natCast, hb]
  constructor
  · rintro ⟨_, h⟩; exact h
  · intro h; exact ⟨by omega, h⟩

/-- The masks of a graph's rows. -/
def rowM (L : List (List Int)) (i : Nat) : Nat := if i < L.length then maskTo (nthR L i) (nthR L i).length else 0

theorem rowM_lt {L : List (List Int)} (hn : L.length ≤ 16) (h : ∀ v, v < L.length → SetP (nthR L v) L.length) (i : Nat) : rowM L i < 65536 := by
  unfold rowM
  split
  · rename_i hi
    exact maskTo_lt (n := L.length) (fun j hj => ⟨(h i hi j hj).1, (h i hi j hj).2.1⟩) (by omega) _ (Nat.le_refl _)
  · omega

theorem rowM_has {L : List (List Int)} (h : ∀ v, v < L.length → SetP (nthR L v) L.length) {v u : Nat} (hv : v < L.length) (hu : u < 16) : hasM (rowM L v) u = hasB (nthR L v) u := by
  rw [rowM, if_pos hv]
  exact hasM_mask (h v hv) u hu

theorem simple_iff {L : List (List Int)} (hn : 1 ≤ L.length ∧ L.length ≤ 16) (h : ∀ v, v < L.length → SetP (nthR L v) L.length) : SimpleP L.length (rowM L) ↔ GraphP L := by
  have key : ∀ v u, v < L.length → u < L.length → hasM (rowM L v) (u : Nat) = hasB (nthR L v) u := fun v u hv hu => rowM_has h hv (by omega)
  constructor
  · intro hs
    refine ⟨hn, fun v hv => ⟨h v hv, ?_⟩, fun v hv i hi => ?_⟩
    · rw [← key v v hv hv]; exact (hs v hv).1
    · have hst := h v hv i hi
      obtain ⟨h1, h2, -⟩ := hst
      generalize hx : nth (nthR L v) i = x at *
      have hmem : hasB (nthR L v) x = true := (hasB_iff _ _).2 ⟨i, hi, hx⟩
      obtain ⟨u, rfl⟩ := Int.eq_ofNat_of_zero_le h1
      rw [Int.toNat_natCast]
      have hu : u < L.length := by omega
      rcases Nat.lt_trichotomy u v with hlt | heq | hgt
      · have := (hs v hv).2 u hlt
        rw [key u v hu hv, key v u hv hu] at this
        rw [this]; exact hmem
      · subst heq
        have := (hs u hu).1
        rw [key u u hu hu, hmem] at this
        exact absurd this (by simp)
      · have := (hs u hu).2 v hgt
        rw [key u v hu hv, key v u hv hu] at this
        rw [← this]; exact hmem
  · rintro ⟨_, h1, h2⟩ v hv
    refine ⟨?_, fun u hlt => ?_⟩
    · rw [key v v hv hv]; exact (h1 v hv).2
    · have hu : u < L.length := by omega
      rw [key u v hu hv, key v u hv hu, Bool.eq_iff_iff]
      constructor
      · intro hh
        obtain ⟨i, hi, e⟩ := (hasB_iff _ _).1 hh
        have := h2 u hu i hi
        rw [e, Int.toNat_natCast] at this
        exact this
      · intro hh
        obtain ⟨i, hi, e⟩ := (hasB_iff _ _).1 hh
        have := h2 v hv i hi
        rw [e, Int.toNat_natCast] at this
        exact this

/-- The cells of a net. -/
def netArr (n : Nat) (M : Nat → Nat) : Array Value :=
  #[.int .i64 n, .int .u32 (M 0 : Int), .int .u32 (M 1 : Int), .int .u32 (M 2 : Int), .int .u32 (M 3 : Int), .int .u32 (M 4 : Int), .int .u32 (M 5 : Int), .int .u32 (M 6 : Int), .int .u32 (M 7 : Int), .int .u32 (M 8 : Int),
    .int .u32 (M 9 : Int), .int .u32 (M 10 : Int), .int .u32 (M 11 : Int), .int .u32 (M 12 : Int), .int .u32 (M 13 : Int), .int .u32 (M 14 : Int), .int .u32 (M 15 : Int)]
theorem netArr_size (n : Nat) (M : Nat → Nat) : (netArr n M).size = 17 := rfl
theorem netArr_one (n : Nat) (M : Nat → Nat) : (netArr n M).all (·.oneCell') = true := by simp [netArr, Value.oneCell']
theorem netArr_zero (n : Nat) (M : Nat → Nat) : (netArr n M)[0]? = some (.int .i64 n) := rfl
theorem netArr_get (n : Nat) (M : Nat → Nat) (i : Nat) (hi : i < 16) : (netArr n M)[1 + i]? = some (.int .u32 (M i : Int)) := by
  have h : i = 0 ∨ i = 1 ∨ i = 2 ∨ i = 3 ∨ i = 4 ∨ i = 5 ∨ i = 6 ∨ i = 7 ∨ i = 8 ∨ i = 9 ∨ i = 10 ∨ i = 11 ∨ i = 12 ∨ i = 13 ∨ i = 14 ∨ i = 15 := by omega
  rcases h with rfl | rfl | rfl | rfl | rfl | rfl | rfl | rfl | rfl | rfl | rfl | rfl | rfl | rfl | rfl | rfl <;> rfl
theorem netArr_eq {cs : Array Value} {n : Nat} {M : Nat → Nat} (hs : cs.size = 17) (h0 : cs[0]? = some (.int .i64 n)) (h : ∀ i, i < 16 → cs[1 + i]? = some (.int .u32 (M i : Int))) : cs = netArr n M := by
  apply Array.ext_getElem?
  intro j
  match j with
  | 0 => rw [h0, netArr_zero]
  | j + 1 =>
    by_cases hj : j < 16
    · rw [Nat.add_comm, h j hj, netArr_get n M j hj]
    · rw [Array.getElem?_eq_none (by omega), Array.getElem?_eq_none (by rw [netArr_size]; omega)]
theorem netArr_congr {n n' : Nat} {M M' : Nat → Nat} (hn : n = n') (h : ∀ i, i < 16 → M i = M' i) : netArr n M = netArr n' M' :=
  netArr_eq (by rw [netArr_size]) (by rw [netArr_zero, hn]) (fun i hi => by rw [netArr_get n M i hi, h i hi])

theorem netArr_set (n : Nat) (M : Nat → Nat) (i m : Nat) (hi : i < 16) : (netArr n M).setIfInBounds (1 + i) (.int .u32 (m : Int)) = netArr n (fun j => if j = i then m else M j) := by
  refine netArr_eq (by rw [Array.size_setIfInBounds, netArr_size]) ?_ (fun j hj => ?_)
  · rw [Array.getElem?_setIfInBounds, if_neg (by omega), netArr_zero]
  · rw [Array.getElem?_setIfInBounds]
    by_cases e : j = i
    · subst e
      rw [if_pos rfl, if_pos (by rw [netArr_size]; omega)]
      simp
    · rw [if_neg (by omega), netArr_get n M j hj]
      simp [e]

/-- Block g is a net's: n vertices, masks M; it is not frozen. T: the net type's number. -/
def NetBlk (T : TypeId) (w : World) (g n : Nat) (M : Nat → Nat) : Prop := w.heap[g]? = some (.cells (netArr n M) T (0, 0))
theorem NetBlk.at {T : TypeId} {w : World} {g n : Nat} {M : Nat → Nat} (h : NetBlk T w g n M) : NetAt w g n M :=
  ⟨by rw [cell_of_row w g 0 _ _ _ h, netArr_zero], fun i hi => by rw [cell_of_row w g _ _ _ _ h, netArr_get n M i hi]⟩
theorem NetBlk.frozen {T : TypeId} {w : World} {g n : Nat} {M : Nat → Nat} (h : NetBlk T w g n M) (i : Nat) : w.frozen? ⟨g, i, none⟩ = false := frozen_of_row w g i _ T h
theorem NetBlk.lt {T : TypeId} {w : World} {g n : Nat} {M : Nat → Nat} (h : NetBlk T w g n M) : g < w.heap.size := by
  obtain ⟨hlt, _⟩ := Array.getElem?_eq_some_iff.1 h
  exact hlt
theorem NetBlk.keep {T : TypeId} {w w' : World} {g n : Nat} {M : Nat → Nat} (h : NetBlk T w g n M) (hb : Below w.heap.size w w') : NetBlk T w' g n M := by
  unfold NetBlk
  rw [hb.block g h.lt]; exact h
theorem NetBlk.keepB {T : TypeId} {w w' : World} {B g n : Nat} {M : Nat → Nat} (h : NetBlk T w g n M) (hb : Below B w w') (hg : g < B) : NetBlk T w' g n M := by
  unfold NetBlk
  rw [hb.block g hg]; exact h
theorem NetBlk.drawn {T : TypeId} {w w' : World} {g n : Nat} {M : Nat → Nat} (h : NetBlk T w g n M) (hb : Drawn w w') : NetBlk T w' g n M := h.keep (hb.below _)
theorem NetBlk.set {T : TypeId} {w : World} {g n : Nat} {M : Nat → Nat} (h : NetBlk T w g n M) (i m : Nat) (hi : i < 16) : NetBlk T (w.setCell ⟨g, 1 + i, none⟩ (.int .u32 (m : Int))) g n (fun j => if j = i then m else M j) := by
  unfold NetBlk
  rw [heap_setCell_same w g (1 + i) _ T _ h, netArr_set n M i m hi]
theorem NetBlk.setOther {T : TypeId} {w : World} {g n : Nat} {M : Nat → Nat} (h : NetBlk T w g n M) {a : Addr} (ha : g ≠ a.block) (u : Value) : NetBlk T (w.setCell a u) g n M := by
  unfold NetBlk
  rw [heap_setCell_other _ _ _ _ ha]; exact h
theorem NetBlk.congr {T : TypeId} {w : World} {g n n' : Nat} {M M' : Nat → Nat} (h : NetBlk T w g n M) (hn : n = n') (hM : ∀ i, i < 16 → M i = M' i) : NetBlk T w g n' M' := by
  unfold NetBlk
  rw [← netArr_congr hn hM]; exact h

/-- A store of a whole net into block g: what lies elsewhere stays. -/
structure NetPut (T : TypeId) (w w' : World) (g n : Nat) (M : Nat → Nat) : Prop where
  os : w'.os = w.os
  tape : w'.tape = w.tape
  output : w'.output = w.output
  size : w'.heap.size = w.heap.size
  net : NetBlk T w' g n M
  other : ∀ k, k ≠ g → w'.heap[k]? = w.heap[k]?
theorem NetPut.below {T : TypeId} {w w' : World} {g n : Nat} {M : Nat → Nat} (h : NetPut T w w' g n M) : Below g w w' :=
  ⟨h.os, h.tape, h.output, Nat.le_of_eq h.size.symm, fun k hk => h.other k (by omega)⟩
theorem NetPut.cell {T : TypeId} {w w' : World} {g n : Nat} {M : Nat → Nat} (h : NetPut T w w' g n M) {a : Addr} (ha : a.block ≠ g) : w'.cell? a = w.cell? a := World.cell?_of_block (w := w) (h.other _ ha)

theorem wpList_store_net {P : Program} {ops : Array Oper} {rest : List Oper} {o : Oper} {a : Act} {w : World} {Q : Exit → Act → World → Prop} (hgd : o.guard = none) (ty : TypeId) (x y : Operand) (ho : o.op = .store ty x y)
    (g n : Nat) (M : Nat → Nat) (hx : a.eval x = .pointer (some ⟨g, 0, none⟩)) (hy : a.eval y = .agg (netArr n M)) (hi : (P.info? ty).map (·.size) = some 17)
    (n0 : Nat) (M0 : Nat → Nat) (hg : NetBlk ty w g n0 M0)
    (h : ∀ w', NetPut ty w w' g n M → wpList P ops Q rest (a.put o.dst undef) w') : wpList P ops Q (o :: rest) a w := by
  refine wpList_store_row hgd ty x y ho g (netArr n M) hx hy ty (netArr n0 M0) hg (by rw [hi, netArr_size]) (by rw [netArr_size, netArr_size]) (netArr_one _ _) (h _ ?_)
  exact ⟨rfl, rfl, rfl, size_setRow _ _ _, setRow_heap w g _ _ ty _ hg, fun k hk => setRow_other w g k _ hk⟩

theorem wpList_load_net {P : Program} {ops : Array Oper} {rest : List Oper} {o : Oper} {a : Act} {w : World} {Q : Exit → Act → World → Prop} (hgd : o.guard = none) (ty : TypeId) (x : Operand) (ho : o.op = .load ty x)
    (g n : Nat) (M : Nat → Nat) (hx : a.eval x = .pointer (some ⟨g, 0, none⟩)) (hi : (P.info? ty).map (·.size) = some 17) (d : TypeDesc) (hu : P.underlying ty = some d) (hd : (match d with | .struct _ | .array _ _ => true | _ => false) = true)
    (hg : NetBlk ty w g n M)
    (h : wpList P ops Q rest (a.put o.dst (.agg (netArr n M))) w) : wpList P ops Q (o :: rest) a w :=
  wpList_load_row hgd ty x ho g hx ty (netArr n M) (0, 0) d hg hu hd (by rw [hi, netArr_size]) h

/-- .. a guarded load, where the guard says yes. -/
theorem wpList_load_net_g {P : Program} {ops : Array Oper} {rest : List Oper} {o : Oper} {a : Act} {w : World} {Q : Exit → Act → World → Prop} (hw : Region.wanted o (yielded ops a.tmps) = true) (ty : TypeId) (x : Operand) (ho : o.op = .load ty x)
    (g n : Nat) (M : Nat → Nat) (hx : a.eval x = .pointer (some ⟨g, 0, none⟩)) (hi : (P.info? ty).map (·.size) = some 17) (d : TypeDesc) (hu : P.underlying ty = some d) (hd : (match d with | .struct _ | .array _ _ => true | _ => false) = true)
    (hg : NetBlk ty w g n M)
    (h : wpList P ops Q rest (a.put o.dst (.agg (netArr n M))) w) : wpList P ops Q (o :: rest) a w := by
  simp only [wpList, hw, if_true]
  exact Or.inl (wp_load_row ty x ho g hx ty (netArr n M) (0, 0) d hg hu hd (by rw [hi, netArr_size]) h)

theorem results_net {P : Program} {fn : Func} {p u : Tmp} {ty : TypeId} (h : fn.results = #[.cell p ty, .tmp u]) (tmps : Array Value) (w : World) (g n : Nat) (M : Nat → Nat) (d : TypeDesc)
    (hp : tmps.getD p undef = .pointer (some ⟨g, 0, none⟩)) (hg : NetBlk ty w g n M) (hi : (P.info? ty).map (·.size) = some 17) (hu : P.underlying ty = some d) (hd : (match d with | .struct _ | .array _ _ => true | _ => false) = true) :
    (results fn tmps).run P w = .ok (.tuple #[.agg (netArr n M), tmps.getD u undef]) w := by
  rw [results_cell_tmp h tmps P w, hp]
  have h1 := run_loadVar_row (P := P) w g ty ty (netArr n M) (0, 0) d hg hu hd (by rw [hi, netArr_size])
  simp [asAddr, h1, Result.andThen]

/-- The net that a graph has: of an invalid one the zero net. -/
def netN (L : List (List Int)) : Nat := if GraphP L then L.length else 0
def netM (L : List (List Int)) (i : Nat) : Nat := if GraphP L then rowM L i else 0
theorem netN_yes {L : List (List Int)} (h : GraphP L) : netN L = L.length := if_pos h
theorem netM_yes {L : List (List Int)} (h : GraphP L) (i : Nat) : netM L i = rowM L i := if_pos h
theorem netN_no {L : List (List Int)} (h : ¬ GraphP L) : netN L = 0 := if_neg h
theorem netM_no {L : List (List Int)} (h : ¬ GraphP L) (i : Nat) : netM L i = 0 := if_neg h
theorem netArr_yes {L : List (List Int)} (h : GraphP L) : netArr (netN L) (netM L) = netArr L.length (rowM L) := netArr_congr (netN_yes h) (fun i _ => netM_yes h i)
theorem netArr_no {L : List (List Int)} (h : ¬ GraphP L) : netArr (netN L) (netM L) = netArr 0 (fun _ => 0) := netArr_congr (netN_no h) (fun i _ => netM_no h i)

/-- What netOf hands back. -/
def GaveNet (w : World) (L : List (List Int)) (e : Ending) (w' : World) : Prop :=
  e = .returned (.tuple #[.agg (netArr (netN L) (netM L)), .bool (decide (GraphP L))]) ∧ Below w.heap.size w w'

end Go.Proofs.YtojbaepcflkgeaaDoor

/- Walks: the net of a graph. -/
namespace Go.Proofs.YtojbaepcflkgeaaDoor
open Go.RowKit

end Go.Proofs.YtojbaepcflkgeaaDoor
