/- The texts EN3, EN4, EN5, EN7, CN3, CX7, joined. -/
import Derived.Test.YtohjfcfcopbmoaaGreatDoorQEN1
import Derived.Test.YtohjfcfcopbmoaaGreatDoorQX2
import Derived.Test.YtohjfcfcopbmoaaGreatDoorQM1
import Derived.Test.YtohjfcfcopbmoaaGreatDoorQF1
import Derived.Test.YtohjfcfcopbmoaaGreatDoorQD5
import Derived.Test.YtohjfcfcopbmoaaGreatDoorQY1
import Derived.Deep.RegionHeld3
import Derived.Test.YtohjfcfcopbmoaaGreatDoorQCO1
import Derived.Test.YtohjfcfcopbmoaaGreatDoorQCX3

/- Walks: the iterator over all lists. -/
namespace Go.Proofs.YtohjfcfcopbmoaaGreatDoor
open Go.RowKit Go.Shelf

theorem made_row (w : World) (B sz : Nat) (hB : B ≤ w.heap.size) (hm : sz ≤ maxLen) : OwnRow 2 (w.alloc (.cells (madeCells #[.int .i64 0] sz) 2)) B (.slice (some ⟨w.heap.size, 0, none⟩) 0 sz) [] :=
  ⟨by simp, by simp, Or.inr ⟨w.heap.size, sz, madeCells #[.int .i64 0] sz, rfl, hB, World.alloc_heap_new w _, Nat.zero_le _, hm, by simp [size_madeCells], fun i hi => absurd hi (by simp)⟩⟩

end Go.Proofs.YtohjfcfcopbmoaaGreatDoor

/- Walks: who is not in a list, who has room behind it; the choice by which a graph stands for a pattern. -/
namespace Go.Proofs.YtohjfcfcopbmoaaGreatDoor
open Go.RowKit Go.Shelf

/-- All of n vertices but the first k of xs. -/
def unTo (n : Nat) (xs : List Int) : Nat → Nat
  | 0 => 2 ^ n - 1
  | k + 1 => clrM (unTo n xs k) (2 ^ (nth xs k).toNat)
theorem unTo_lt {n : Nat} (hn : n ≤ 16) (xs : List Int) (k : Nat) : unTo n xs k < 65536 := by
  induction k with
  | zero => exact whole_lt hn
  | succ k ih => exact clrM_lt _ ih
theorem unTo_bit {n : Nat} (hn : n ≤ 16) {xs : List Int} (hx : InL xs) {k : Nat} (hk : k ≤ xs.length) (v : Nat) : (unTo n xs k).testBit v = true ↔ v < n ∧ ∀ j, j < k → nth xs j ≠ (v : Int) := by
  induction k with
  | zero => rw [unTo, whole_bit, decide_eq_true_iff]; exact ⟨fun h => ⟨h, fun j hj => absurd hj (by omega)⟩, fun h => h.1⟩
  | succ k ih =>
    have hxk := hx k (by omega)
    rw [unTo, clrM_bit (unTo_lt hn xs k) (pow_lt16 (by omega)), Bool.and_eq_true, ih (by omega), Nat.testBit_two_pow, Bool.not_eq_true', decide_eq_false_iff_not]
    constructor
    · rintro ⟨⟨h1, h2⟩, h3⟩
      refine ⟨h1, fun j hj => ?_⟩
      rcases Nat.lt_succ_iff_lt_or_eq.1 hj with h | rfl
      · exact h2 j h
      · omega
    · rintro ⟨h1, h2⟩
      exact ⟨⟨h1, fun j hj => h2 j (by omega)⟩, fun e => h2 k (by omega) (by omega)⟩
/-- All of n vertices but those of xs. -/
def unN (n : Nat) (xs : List Int) : Nat := unTo n xs xs.length
theorem unN_bit {n : Nat} (hn : n ≤ 16) {xs : List Int} (hx : InL xs) (v : Nat) : (unN n xs).testBit v = true ↔ v < n ∧ hasB xs (v : Int) = false := by
  unfold unN
  rw [unTo_bit hn hx (Nat.le_refl _), ← Bool.not_eq_true, hasB_iff]
  exact ⟨fun h => ⟨h.1, fun ⟨j, hj, e⟩ => h.2 j hj e⟩, fun h => ⟨h.1, fun j hj e => h.2 ⟨j, hj, e⟩⟩⟩

/-- By the masks of a pattern: is the first near the second? -/
def patM (Mp : Nat → Nat) (i w : Nat) : Bool := (Mp w).testBit i
/-- By the masks of a graph. -/
def hostM (M : Nat → Nat) (a v : Nat) : Bool := (M a).testBit v
/-- Who has room, as far as the first k of xs tell. -/
def rmTo (Mp : Nat → Nat) (n : Nat) (M : Nat → Nat) (xs : List Int) (w k : Nat) : Nat := pm (fun v => decide (v < n) && fitTo (patM Mp) (hostM M) xs w v k)
theorem rmTo_lt (Mp : Nat → Nat) (n : Nat) (M : Nat → Nat) (xs : List Int) (w k : Nat) : rmTo Mp n M xs w k < 65536 := pm_lt _
theorem rmTo_bit {Mp : Nat → Nat} {n : Nat} {M : Nat → Nat} {xs : List Int} {w k : Nat} (hn : n ≤ 16) (v : Nat) : (rmTo Mp n M xs w k).testBit v = true ↔ v < n ∧ fitTo (patM Mp) (hostM M) xs w v k = true := by
  unfold rmTo
  rw [pm_bit, Bool.and_eq_true, Bool.and_eq_true, decide_eq_true_iff, decide_eq_true_iff]
  exact ⟨fun h => h.2, fun h => ⟨by omega, h⟩⟩
theorem rmTo_zero {Mp : Nat → Nat} {n : Nat} {M : Nat → Nat} {xs : List Int} {w : Nat} (hn : n ≤ 16) (hx : InL xs) : unN n xs = rmTo Mp n M xs w 0 := bit_ext fun v => by
  rw [unN_bit hn hx, rmTo_bit hn, fitTo, Bool.not_eq_true']
theorem rmTo_and {Mp : Nat → Nat} {n : Nat} {M : Nat → Nat} {xs : List Int} {w k : Nat} (hn : n ≤ 16) (h : (Mp w).testBit k = true) : rmTo Mp n M xs w k &&& M (nth xs k).toNat = rmTo Mp n M xs w (k + 1) := bit_ext fun v => by
  rw [Nat.testBit_and, Bool.and_eq_true, rmTo_bit hn, rmTo_bit hn, fitTo, Bool.and_eq_true, beq_iff_eq, show patM Mp k w = true from h]
  exact ⟨fun h => ⟨h.1.1, h.1.2, h.2.symm⟩, fun h => ⟨⟨h.1, h.2.1⟩, h.2.2.symm⟩⟩
theorem rmTo_not {Mp : Nat → Nat} {n : Nat} {M : Nat → Nat} (hM : ∀ i, M i < 65536) {xs : List Int} {w k : Nat} (hn : n ≤ 16) (h : (Mp w).testBit k = false) : clrM (rmTo Mp n M xs w k) (M (nth xs k).toNat) = rmTo Mp n M xs w (k + 1) := bit_ext fun v => by
  rw [clrM_bit (rmTo_lt _ _ _ _ _ _) (hM _), Bool.and_eq_true, rmTo_bit hn, rmTo_bit hn, fitTo, Bool.and_eq_true, beq_iff_eq, show patM Mp k w = false from h, Bool.not_eq_true']
  exact ⟨fun h => ⟨h.1.1, h.1.2, h.2.symm⟩, fun h => ⟨⟨h.1, h.2.1⟩, h.2.2.symm⟩⟩

theorem NetAt.but {T : Nat → Prop} {w w' : World} {b n : Nat} {M : Nat → Nat} (h : NetAt w b n M) (hb : KeepsBut T w w') (hT : ¬ T b) : NetAt w' b n M := ⟨hb.cell hT h.1, fun i hi => hb.cell hT (h.2 i hi)⟩

end Go.Proofs.YtohjfcfcopbmoaaGreatDoor

/- Walks: twins, and a choice narrowed by them. -/
namespace Go.Proofs.YtohjfcfcopbmoaaGreatDoor
open Go.RowKit Go.Shelf

/-- Sixteen masks, as cells. -/
def tabArr (M : Nat → Nat) : Array Value :=
  #[.int .u32 (M 0 : Int), .int .u32 (M 1 : Int), .int .u32 (M 2 : Int), .int .u32 (M 3 : Int), .int .u32 (M 4 : Int), .int .u32 (M 5 : Int), .int .u32 (M 6 : Int), .int .u32 (M 7 : Int), .int .u32 (M 8 : Int),
    .int .u32 (M 9 : Int), .int .u32 (M 10 : Int), .int .u32 (M 11 : Int), .int .u32 (M 12 : Int), .int .u32 (M 13 : Int), .int .u32 (M 14 : Int), .int .u32 (M 15 : Int)]
theorem tabArr_size (M : Nat → Nat) : (tabArr M).size = 16 := rfl
theorem tabArr_one (M : Nat → Nat) : (tabArr M).all (·.oneCell') = true := by simp [tabArr, Value.oneCell']
theorem tabArr_get (M : Nat → Nat) (i : Nat) (hi : i < 16) : (tabArr M)[i]? = some (.int .u32 (M i : Int)) := by
  have h : i = 0 ∨ i = 1 ∨ i = 2 ∨ i = 3 ∨ i = 4 ∨ i = 5 ∨ i = 6 ∨ i = 7 ∨ i = 8 ∨ i = 9 ∨ i = 10 ∨ i = 11 ∨ i = 12 ∨ i = 13 ∨ i = 14 ∨ i = 15 := by omega
  rcases h with rfl | rfl | rfl | rfl | rfl | rfl | rfl | rfl | rfl | rfl | rfl | rfl | rfl | rfl | rfl | rfl <;> rfl
theorem tabArr_eq {cs : Array Value} {M : Nat → Nat} (hs : cs.size = 16) (h : ∀ i, i < 16 → cs[i]? = some (.int .u32 (M i : Int))) : cs = tabArr M := by
  apply Array.ext_getElem?
  intro j
  by_cases hj : j < 16
  · rw [h j hj, tabArr_get M j hj]
  · rw [Array.getElem?_eq_none (by omega), Array.getElem?_eq_none (by rw [tabArr_size]; omega)]
theorem tabArr_congr {M M' : Nat → Nat} (h : ∀ i, i < 16 → M i = M' i) : tabArr M = tabArr M' := tabArr_eq (tabArr_size M) (fun i hi => by rw [tabArr_get M i hi, h i hi])
theorem tabArr_set (M : Nat → Nat) (i m : Nat) (hi : i < 16) : (tabArr M).setIfInBounds i (.int .u32 (m : Int)) = tabArr (fun j => if j = i then m else M j) := by
  refine tabArr_eq (by rw [Array.size_setIfInBounds, tabArr_size]) (fun j hj => ?_)
  rw [Array.getElem?_setIfInBounds]
  by_cases e : j = i
  · subst e
    rw [if_pos rfl, if_pos (by rw [tabArr_size]; omega)]
    simp
  · rw [if_neg (by omega), tabArr_get M j hj]
    simp [e]
/-- Block g holds sixteen masks; it is not frozen. -/
def TabBlk (w : World) (g : Nat) (M : Nat → Nat) : Prop := w.heap[g]? = some (.cells (tabArr M) 81 (0, 0))
namespace TabBlk
variable {w w' : World} {g : Nat} {M : Nat → Nat}
theorem cell (h : TabBlk w g M) {i : Nat} (hi : i < 16) : w.cell? ⟨g, i, none⟩ = some (.int .u32 (M i : Int)) := by rw [cell_of_row w g i _ _ _ h, tabArr_get M i hi]
theorem frozen (h : TabBlk w g M) (i : Nat) : w.frozen? ⟨g, i, none⟩ = false := frozen_of_row w g i _ _ h
theorem lt (h : TabBlk w g M) : g < w.heap.size := (Array.getElem?_eq_some_iff.1 h).1
theorem keep (h : TabBlk w g M) (hb : Below w.heap.size w w') : TabBlk w' g M := by unfold TabBlk; rw [hb.block g h.lt]; exact h
theorem set (h : TabBlk w g M) (i m : Nat) (hi : i < 16) : TabBlk (w.setCell ⟨g, i, none⟩ (.int .u32 (m : Int))) g (fun j => if j = i then m else M j) := by
  unfold TabBlk
  rw [heap_setCell_same w g i _ _ _ h, tabArr_set M i m hi]
theorem setOther (h : TabBlk w g M) {a : Addr} (ha : g ≠ a.block) (u : Value) : TabBlk (w.setCell a u) g M := by
  unfold TabBlk
  rw [heap_setCell_other _ _ _ _ ha]; exact h
theorem congr {M' : Nat → Nat} (h : TabBlk w g M) (hM : ∀ i, i < 16 → M i = M' i) : TabBlk w g M' := by unfold TabBlk; rw [← tabArr_congr hM]; exact h
theorem but {T : Nat → Prop} (h : TabBlk w g M) (hb : KeepsBut T w w') (hT : ¬ T g) : TabBlk w' g M := by unfold TabBlk; rw [hb.2 g h.lt hT]; exact h
end TabBlk

/-- u and v can change places. -/
def twinB (M : Nat → Nat) (u v : Nat) : Bool := clrM (clrM (M u ^^^ M v) (2 ^ u)) (2 ^ v) == 0
/-- The twins of v below k. -/
def twRow (M : Nat → Nat) (v k : Nat) : Nat := pm (fun u => decide (u < k) && twinB M u v)
theorem twRow_lt (M : Nat → Nat) (v k : Nat) : twRow M v k < 65536 := pm_lt _
theorem twRow_bit {M : Nat → Nat} {v k u : Nat} (hk : k ≤ 16) : (twRow M v k).testBit u = true ↔ u < k ∧ twinB M u v = true := by
  unfold twRow
  rw [pm_bit, Bool.and_eq_true, decide_eq_true_iff, Bool.and_eq_true, decide_eq_true_iff]
  exact ⟨fun h => h.2, fun h => ⟨by omega, h⟩⟩
theorem twRow_zero (M : Nat → Nat) (v : Nat) : twRow M v 0 = 0 := bit_ext fun u => by rw [twRow_bit (by omega)]; simp
theorem twRow_yes {M : Nat → Nat} {v k : Nat} (hk : k < 16) (h : twinB M k v = true) : twRow M v k ||| 2 ^ k = twRow M v (k + 1) := bit_ext fun u => by
  rw [Nat.testBit_or, Bool.or_eq_true, twRow_bit (by omega), twRow_bit (by omega), Nat.testBit_two_pow, decide_eq_true_iff]
  constructor
  · rintro (⟨h1, h2⟩ | h1)
    · exact ⟨by omega, h2⟩
    · subst h1; exact ⟨by omega, h⟩
  · rintro ⟨h1, h2⟩
    by_cases e : u = k
    · exact .inr e.symm
    · exact .inl ⟨by omega, h2⟩
theorem twRow_no {M : Nat → Nat} {v k : Nat} (hk : k < 16) (h : twinB M k v = false) : twRow M v k = twRow M v (k + 1) := bit_ext fun u => by
  rw [twRow_bit (by omega), twRow_bit (by omega)]
  constructor
  · rintro ⟨h1, h2⟩; exact ⟨by omega, h2⟩
  · rintro ⟨h1, h2⟩
    refine ⟨?_, h2⟩
    by_cases e : u = k
    · subst e; rw [h] at h2; cases h2
    · omega
/-- The table, half filled. -/
def twTab (M : Nat → Nat) (v k i : Nat) : Nat := if i < v then twRow M i i else if i = v then twRow M v k else 0
theorem twTab_next (M : Nat → Nat) (v i : Nat) : twTab M v v i = twTab M (v + 1) 0 i := by
  unfold twTab
  by_cases h1 : i < v
  · rw [if_pos h1, if_pos (by omega)]
  · rw [if_neg h1]
    by_cases h2 : i = v
    · rw [if_pos h2, if_pos (by omega), h2]
    · rw [if_neg h2, if_neg (by omega)]
      split
      · rw [twRow_zero]
      · rfl
theorem twTab_at (M : Nat → Nat) (v k : Nat) : twTab M v k v = twRow M v k := by unfold twTab; rw [if_neg (by omega), if_pos rfl]
theorem twTab_put (M : Nat → Nat) (v k i : Nat) : (if i = v then twRow M v (k + 1) else twTab M v k i) = twTab M v (k + 1) i := by
  unfold twTab
  by_cases h2 : i = v
  · rw [if_pos h2, if_neg (by omega), if_pos h2]
  · rw [if_neg h2]
    by_cases h1 : i < v
    · rw [if_pos h1, if_pos h1]
    · rw [if_neg h1, if_neg h2, if_neg h1, if_neg h2]
/-- The smaller twins of each of n vertices. -/
def twN (M : Nat → Nat) (n i : Nat) : Nat := if i < n then twRow M i i else 0
theorem twTab_all (M : Nat → Nat) (n i : Nat) : twTab M n 0 i = twN M n i := by
  unfold twTab twN
  by_cases h1 : i < n
  · rw [if_pos h1, if_pos h1]
  · rw [if_neg h1, if_neg h1]
    split
    · rw [twRow_zero]
    · rfl
theorem twN_lt (M : Nat → Nat) (n i : Nat) : twN M n i < 65536 := by unfold twN; split; exact twRow_lt _ _ _; omega
theorem xor_lt {a b : Nat} (ha : a < 65536) (hb : b < 65536) : a ^^^ b < 65536 := Nat.xor_lt_two_pow (n := 16) ha hb

theorem Tryz.sizeTab : (Tryz.prog.info? 81).map (·.size) = some 16 := by kernel_rfl

/-- What lies in the midst of the search for twins. -/
structure TwIn (w : World) (bn n : Nat) (M : Nat → Nat) (v k : Nat) (wr : World) : Prop where
  out : TabBlk wr (w.heap.size + 1) (twTab M v k)
  res : TabBlk wr w.heap.size (fun _ => 0)
  bel : Below w.heap.size w wr
theorem TwIn.later {w : World} {bn n : Nat} {M : Nat → Nat} {v k : Nat} {wr w' : World} (h : TwIn w bn n M v k wr) (hb : Below wr.heap.size wr w') : TwIn w bn n M v k w' := ⟨h.out.keep hb, h.res.keep hb, h.bel.trans (hb.mono h.bel.size)⟩

end Go.Proofs.YtohjfcfcopbmoaaGreatDoor

/- Walks: the first list by which a graph stands for a pattern. -/
namespace Go.Proofs.YtohjfcfcopbmoaaGreatDoor
open Go.RowKit Go.Shelf
attribute [local go_sem] Oper.semAt_some

theorem eqn_in (d : Nat) (a : Option Addr) (n c : Nat) (w : World) : (Op.equalIn (d + 1) 33 (.slice a n c) (.slice none 0 0)).run Tryz.prog w = .ok a.isNone w := by
  cases a <;> simp [Op.equalIn, run_underlying Tryz.underlying33]
theorem eqn_nil (a : Option Addr) (n c : Nat) (w : World) : (Op.equal 33 (.slice a n c) (.slice none 0 0)).run Tryz.prog w = .ok a.isNone w := eqn_in 9999 a n c w
theorem eqn_no (a : Addr) (n c : Nat) (w : World) : (binOp .eql 33 (.slice (some a) n c) (.slice none 0 0)).run Tryz.prog w = .ok (.bool false) w := by
  simp [binOp, eqn_nil]
theorem eqn_yes (w : World) : (binOp .eql 33 (.slice none 0 0) (.slice none 0 0)).run Tryz.prog w = .ok (.bool true) w := by
  simp [binOp, eqn_nil]

set_option maxHeartbeats 1000000 in
theorem clone_any (b n c : Nat) (xs : List Int) (w : World) (hr : RowAt w (.slice (some ⟨b, 0, none⟩) n c) xs) (h1 : 1 ≤ xs.length) (h16 : xs.length ≤ 16) :
    Calls Tryz.prog 244 #[.slice (some ⟨b, 0, none⟩) n c] w (GaveRow w xs) := by
  obtain ⟨i0, hi, hz0, hz1, hz2⟩ := info_parts Tryz.infoI
  obtain ⟨b', o, c', e1, l1, l2, hc⟩ := hr.pos (by omega)
  simp only [Value.slice.injEq, Option.some.injEq, Addr.mk.injEq, and_true] at e1
  obtain ⟨⟨rfl, rfl⟩, rfl, rfl⟩ := e1
  have hq := eqn_no ⟨b, 0, none⟩ xs.length c
  have HI := Lib.hid hr.1
  have hown0 : (w.alloc (.cells #[] 2)).ownsRow w.heap.size 2 1 (.slice (some ⟨w.heap.size, 0, none⟩) 0 0) 0 [] := World.ownsRow_lit w #[] 0 (Nat.le_refl _) (Nat.zero_le _) rfl
  have HO0 := Lib.hid hown0
  have HNEW : Hid (∀ j u, (xs.map (Value.int .i64))[j]? = some u → (w.alloc (.cells #[] 2)).cell? ((⟨b, 0, none⟩ : Addr).add j) = some u) := fun j u hj => by
    rw [List.getElem?_map] at hj
    cases hx : xs[j]? with
    | none => rw [hx] at hj; simp at hj
    | some y =>
      rw [hx] at hj
      simp at hj
      obtain ⟨hlt, e⟩ := List.getElem?_eq_some_iff.1 hx
      have := cell_keep ((Below.refl w.heap.size w).alloc (Nat.le_refl _) (.cells #[] 2)) (hc j hlt)
      rw [nth_eq hlt, e, hj] at this
      rw [Addr.add_lit]; exact this
  clear hr hown0 hc
  go_enter Tryz.func244, Tryz.ntmps244
  go_wp2_with (at_builtin; refine wpList_append_own _ rfl (.tmp 5) (.tmp 6) 33 rfl w.heap.size 2 i0 (.int .i64 0) 1 8 Tryz.underlying33 hi hz0 hz1 hz2 rfl (by decide) _ _ _ rfl HO0.out ⟨b, 0, none⟩ xs.length c (xs.map (Value.int .i64)) rfl (by simp) HNEW.out (ints_one _) (by unfold maxLen; omega) (by omega) (by simp) ?_)
  intro v6 w6 hown6 hgrow6 _
  have hb6 : Below w.heap.size w w6 := ((Below.refl _ _).alloc (Nat.le_refl _) _).grown hgrow6 (by simp) (fun j hj => by simp [Value.ownBlock] at hj; omega)
  have ho6 : OwnRow 2 w6 w.heap.size v6 xs := OwnRow.of_ownsRow (n := 0 + xs.length) (by simpa using hown6) (by unfold maxLen; omega) HI.out
  obtain ⟨a6, c6, e6⟩ := ho6.row.slice
  subst e6
  have HB6 := Lib.hid hb6
  have HO6 := Lib.hid ho6
  clear hown6 hgrow6 hb6 ho6 hq
  go_wp2
  go_ret
  exact ⟨_, _, _, rfl, HO6.out, HB6.out⟩

theorem OwnRow.kept2 {T : TypeId} {w w' : World} {B : Nat} {v : Value} {xs : List Int} (h : OwnRow T w B v xs) (hk : ∀ (k : Nat) (cs : Array Value) (fr : Nat × Nat), w.heap[k]? = some (Obj.cells cs T fr) → w'.heap[k]? = some (Obj.cells cs T fr)) : OwnRow T w' B v xs := by
  obtain ⟨h1, h2, h3⟩ := h
  refine ⟨h1, h2, ?_⟩
  rcases h3 with h3 | ⟨g, cap, cur, e, hg, hh, r⟩
  · exact Or.inl h3
  · exact Or.inr ⟨g, cap, cur, e, hg, hk _ _ _ hh, r⟩
/-- A row of one's own, and a yes or no. -/
def GaveFB (w : World) (xs : List Int) (ok : Bool) (e : Ending) (w' : World) : Prop :=
  ∃ m a c, e = .returned (.tuple #[.slice a m c, .bool ok]) ∧ OwnRow 2 w' w.heap.size (.slice a m c) xs ∧ Below w.heap.size w w'

/-- The lists that leastFit goes through. -/
def turnsL (Mp : Nat → Nat) (np n : Nat) (M : Nat → Nat) : List (List Int) := enumL (turnN (wiseN (patM Mp) np n (hostM M)) n (twN M n)) np []

theorem ChoiceAt.later {T : Nat → Prop} {w w' : World} {cf : Nat} {lb : Array Value} {sz : Nat} {C : List Int → Nat} (h : ChoiceAt T w cf lb sz C) (hk : KeepsBut T w w') : ChoiceAt T w' cf lb sz C :=
  fun W v xs hW hr hx hl => h W v xs (hk.trans hW) hr hx hl

/-- Nothing is found yet. -/
def FitI (w : World) (pre : List (List Int)) (W : World) : Prop :=
  pre = [] ∧ W.heap[w.heap.size]? = some (.cells #[.slice none 0 0] 33 (0, 0)) ∧ W.heap[w.heap.size + 1]? = some (.cells #[.bool false] 4 (0, 0)) ∧ Below w.heap.size w W
/-- A list is found. -/
def FitD (w : World) (xs : List Int) (W : World) : Prop :=
  ∃ val, W.heap[w.heap.size]? = some (.cells #[val] 33 (0, 0)) ∧ W.heap[w.heap.size + 1]? = some (.cells #[.bool true] 4 (0, 0)) ∧ OwnRow 2 W w.heap.size val xs ∧ Below w.heap.size w W
theorem FitD.put {w : World} {xs : List Int} {A : World} {l : Nat} {ob : Obj} (h : FitD w xs A) (hl : w.heap.size ≤ l) (ho : A.heap[l]? = some ob) (hob : ∀ cs U fr, ob ≠ Obj.cells cs U fr) (o : Obj) : FitD w xs (A.putObj l o) := by
  obtain ⟨val, h3, h4, h5, h6⟩ := h
  have hk : ∀ (k : Nat) (cs : Array Value) (U : TypeId) (fr : Nat × Nat), A.heap[k]? = some (Obj.cells cs U fr) → (A.putObj l o).heap[k]? = some (Obj.cells cs U fr) := fun k cs U fr hh => by
    refine (World.putObj_heap_other (fun e => ?_)).trans hh
    subst e; rw [ho] at hh; exact hob _ _ _ (Option.some.inj hh)
  exact ⟨val, hk _ _ _ _ h3, hk _ _ _ _ h4, h5.kept2 (fun k cs fr => hk k cs _ fr), h6.trans (below_put A l o hl (Array.getElem?_eq_some_iff.1 ho).1)⟩

end Go.Proofs.YtohjfcfcopbmoaaGreatDoor

/- Walks: slices.Compare; the lightest to follow. -/
namespace Go.Proofs.YtohjfcfcopbmoaaGreatDoor
open Go.RowKit

set_option maxHeartbeats 1000000 in
theorem isNaN_any (x : Int) (w : World) : Calls Tryz.prog 283 #[.int .i64 x] w fun e w' => e = .returned (.bool false) ∧ w = w' := by
  have qx : (x != x) = false := by simp
  go_enter Tryz.func283, Tryz.ntmps283
  go_wp2
  go_ret
  exact ⟨rfl, rfl⟩
/-- Which is less. -/
def sgnI (x y : Int) : Int := if x < y then -1 else if y < x then 1 else 0
set_option maxHeartbeats 2000000 in
theorem cmpInts_any (x y : Int) (w : World) : Calls Tryz.prog 241 #[.int .i64 x, .int .i64 y] w fun e w' => e = .returned (.int .i64 (sgnI x y)) ∧ w = w' := by
  go_enter Tryz.func241, Tryz.ntmps241
  go_wp2_with fail
  refine (isNaN_any x _).mono ?_
  rintro e w' ⟨rfl, rfl⟩
  go_wp2_with fail
  refine (isNaN_any y _).mono ?_
  rintro e w' ⟨rfl, rfl⟩
  by_cases h1 : x < y
  · have HE : Hid (sgnI x y = -1) := if_pos h1
    go_wp2
    go_ret
    exact ⟨by rw [HE.out]; rfl, rfl⟩
  · by_cases h2 : y < x
    · have HE : Hid (sgnI x y = 1) := by show _ = _; unfold sgnI; rw [if_neg h1, if_pos h2]
      have h3 : x > y := h2
      go_wp2
      go_ret
      exact ⟨by rw [HE.out]; rfl, rfl⟩
    · have HE : Hid (sgnI x y = 0) := by show _ = _; unfold sgnI; rw [if_neg h1, if_neg h2]
      have h3 : ¬ x > y := h2
      go_wp2
      go_ret
      exact ⟨by rw [HE.out]; rfl, rfl⟩

/-- What slices.Compare answers of two lists of one length. -/
def GaveCmp (w : World) (xs ys : List Int) (e : Ending) (w' : World) : Prop := ∃ r : Int, e = .returned (.int .i64 r) ∧ -1 ≤ r ∧ r ≤ 1 ∧ (r < 0 ↔ LexLt xs ys) ∧ w = w'
set_option maxHeartbeats 2000000 in
set_option maxRecDepth 100000 in
theorem compare_any (v v1 : Value) (xs ys : List Int) (w : World) (h : RowAt w v xs) (h1 : RowAt w v1 ys) (hl : ys.length = xs.length) (hs : xs.length ≤ 1048576) : Calls Tryz.prog 190 #[v, v1] w (GaveCmp w xs ys) := by
  obtain ⟨a0, c0, rfl⟩ := h.slice
  obtain ⟨a1, c1, rfl⟩ := h1.slice
  have HR := Lib.hid h
  have HR1 := Lib.hid h1
  have HL := Lib.hid hl
  rw [hl]
  clear h h1 hl
  go_enter Tryz.func190, Tryz.ntmps190
  go_wp2_with fail
  go_loopw [11] (fun i wr => ∃ k : Nat, k ≤ xs.length ∧ i = .int .i64 k ∧ (∀ j, j < k → nth xs j = nth ys j) ∧ wr = w) (fun i _ => xs.length - (intOf i).toNat)
  case atStart => exact ⟨0, Nat.zero_le _, rfl, fun j hj => absurd hj (by omega), rfl⟩
  case round =>
    obtain ⟨k, hk, rfl, hpre, rfl⟩ := hrel
    have HPRE := Lib.hid hpre
    clear hpre
    by_cases hlt : k < xs.length
    · obtain ⟨b, o, c, e1, l1, l2, hc⟩ := HR.out.pos (by omega)
      simp only [Value.slice.injEq, true_and] at e1
      obtain ⟨rfl, rfl⟩ := e1
      obtain ⟨b', o', c', e2, l3, l4, hc'⟩ := HR1.out.pos (by rw [HL.out]; omega)
      rw [HL.out] at e2
      simp only [Value.slice.injEq, true_and] at e2
      obtain ⟨rfl, rfl⟩ := e2
      have ck := hc k hlt
      have ck' := hc' k (by rw [HL.out]; exact hlt)
      obtain ⟨x, hx⟩ : ∃ x, nth xs k = x := ⟨_, rfl⟩
      obtain ⟨y, hy⟩ : ∃ y, nth ys k = y := ⟨_, rfl⟩
      rw [hx] at ck
      rw [hy] at ck'
      have HX := Lib.hid hx
      have HY := Lib.hid hy
      have hkI : (k : Int) < (xs.length : Int) := by omega
      have hge : ¬ ((k : Int) ≥ (xs.length : Int)) := by omega
      clear hc hc' hx hy
      go_wp2_with fail
      refine (cmpInts_any x y _).mono ?_
      rintro e w' ⟨rfl, rfl⟩
      clear ck ck'
      rcases Int.lt_trichotomy x y with hxy | hxy | hxy
      · have hE : sgnI x y = -1 := if_pos hxy
        rw [hE]
        have HF : Hid (LexLt xs ys) := ⟨k, hlt, by rw [HL.out]; exact hlt, HPRE.out, by rw [HX.out, HY.out]; exact hxy⟩
        clear hE
        go_wp2
        go_ret
        exact ⟨-1, rfl, by omega, by omega, ⟨fun _ => HF.out, fun _ => by omega⟩, rfl⟩
      · have hE : sgnI x y = 0 := by unfold sgnI; rw [if_neg (by omega), if_neg (by omega)]
        rw [hE]
        have HEQ : Hid (∀ j, j < k + 1 → nth xs j = nth ys j) := fun j hj => by
          rcases Nat.lt_succ_iff_lt_or_eq.1 hj with h | rfl
          · exact HPRE.out j h
          · rw [HX.out, HY.out]; exact hxy
        clear hE hxy
        go_wp2
        go_roundw
        case rel => exact ⟨k + 1, by omega, by go_num, HEQ.out, by first | rfl | trivial⟩
        case measure => simp [intOf]; omega
      · have hE : sgnI x y = 1 := by unfold sgnI; rw [if_neg (by omega), if_pos hxy]
        rw [hE]
        have HF : Hid (¬ LexLt xs ys) := fun h => lex_asymm h ⟨k, by rw [HL.out]; exact hlt, hlt, fun j hj => (HPRE.out j hj).symm, by rw [HX.out, HY.out]; exact hxy⟩
        clear hE
        go_wp2
        go_ret
        exact ⟨1, rfl, by omega, by omega, ⟨fun h => absurd h (by omega), fun h => absurd h HF.out⟩, rfl⟩
    · obtain rfl : k = xs.length := by omega
      have HF : Hid (¬ LexLt xs ys) := fun ⟨j, h1, _, _, h4⟩ => by have := HPRE.out j h1; omega
      have hnn : ¬ ((xs.length : Int) < (xs.length : Int)) := by omega
      go_wp2
      go_ret
      exact ⟨0, rfl, by omega, by omega, ⟨fun h => absurd h (by omega), fun h => absurd h HF.out⟩, rfl⟩

end Go.Proofs.YtohjfcfcopbmoaaGreatDoor

/- Plain facts: the least of the ways round all bends is the least loop without a chord. -/
namespace Go.Proofs.YtohjfcfcopbmoaaGreatDoor
open Go.RowKit

/-- Where a loop with a bend may go on, as a mask. -/
def bendK (M : Nat → Nat) (n u v w : Nat) : Nat := clrM (clrM (2 ^ n - 1) (M u)) (2 ^ u) ||| 2 ^ v ||| 2 ^ w
/-- The masks inside a mask. -/
def insM (M : Nat → Nat) (K i : Nat) : Nat := if K.testBit i then M i &&& K else 0
theorem insM_lt {M : Nat → Nat} (hM : ∀ i, M i < 65536) (K i : Nat) : insM M K i < 65536 := by
  unfold insM
  split
  · exact Nat.lt_of_le_of_lt Nat.and_le_left (hM i)
  · omega
theorem insM_near (M : Nat → Nat) (K a b : Nat) : nearM (insM M K) a b = (nearM M a b && K.testBit a && K.testBit b) := by
  unfold nearM insM
  split
  · rename_i h
    rw [Nat.testBit_and, h, Bool.and_true]
  · rename_i h
    have : K.testBit a = false := by simpa using h
    rw [this, Nat.zero_testBit]; simp
theorem bendK_bit {M : Nat → Nat} {n u v w : Nat} (hM : ∀ i, M i < 65536) (hn : n ≤ 16) (hu : u < n) (t : Nat) : (bendK M n u v w).testBit t = bendS (nearM M) n u v w t := by
  have h1 : 2 ^ n - 1 < 65536 := by
    have := Nat.pow_le_pow_right (show 0 < 2 by omega) hn
    omega
  have h2 : 2 ^ u < 65536 := by
    have := Nat.pow_lt_pow_right (show 1 < 2 by omega) (show u < 16 by omega)
    omega
  unfold bendK bendS nearM
  rw [Nat.testBit_or, Nat.testBit_or, clrM_bit (clrM_lt _ h1) h2, clrM_bit h1 (hM u), Nat.testBit_two_pow_sub_one, Nat.testBit_two_pow, Nat.testBit_two_pow, Nat.testBit_two_pow]
  have e : ∀ a b : Nat, decide (a = b) = (b == a) := fun a b => by
    by_cases c : a = b
    · subst c; simp
    · have : (b == a) = false := by rw [beq_eq_false_iff_ne]; omega
      rw [decide_eq_false c, this]
  rw [e u t, e v t, e w t]
  rfl
theorem ins_bend {M : Nat → Nat} {n u v w : Nat} (hM : ∀ i, M i < 65536) (hn : n ≤ 16) (hu : u < n) (a b : Nat) : nearM (insM M (bendK M n u v w)) a b = (nearM M a b && bendS (nearM M) n u v w a && bendS (nearM M) n u v w b) := by
  rw [insM_near, bendK_bit hM hn hu, bendK_bit hM hn hu]

/-- The way round one bend is the least loop with it. -/
theorem bend_seen {M : Nat → Nat} {n u v w : Nat} {c : List Int} (hA : RelP n (nearM M)) (hM : ∀ i, M i < 65536) (hn : n ≤ 16) (hb : Bend (nearM M) u v w) {T : Nat → Bool} (hT : ∀ t, T t = true ↔ t < n)
    (hc : (c = [] ∧ ∀ d, ¬ AtD (nearM (insM M (bendK M n u v w))) T w d v) ∨ ∃ d, AtD (nearM (insM M (bendK M n u v w))) T w d v ∧ c = (u : Int) :: wayD (insM M (bendK M n u v w)) (ringN (nearM (insM M (bendK M n u v w))) T w) d v d) :
    SeenR (ChlP (nearM M)) (fun ys => ChlP (nearM M) ys ∧ vtxN ys 0 = u ∧ vtxN ys 1 = v ∧ vtxN ys (ys.length - 1) = w) c := by
  have hu := (hA.range u v hb.left).1
  have hB := ins_bend (M := M) (v := v) (w := w) hM hn hu
  rcases hc with ⟨e, hno⟩ | ⟨d, hd, e⟩
  · subst e
    refine ⟨Or.inl rfl, fun ys hy => ?_⟩
    obtain ⟨d, _, h⟩ := bend_at hA hB hT hb hy.1 hy.2.1 hy.2.2.1 hy.2.2.2
    exact absurd h (hno d)
  · subst e
    have hl := bend_loop hA hn hB hT hb (insM_lt hM _) (fun _ _ => rfl) hd
    exact ⟨Or.inr hl, fun ys hy => ⟨hl.ne_nil, bend_least hA hn hB hT hb (insM_lt hM _) (fun _ _ => rfl) hd hy.1 hy.2.1 hy.2.2.1 hy.2.2.2⟩⟩
/-- All bends: what has been found. -/
theorem bends_seen {M : Nat → Nat} {n : Nat} {Z : List (Nat × Nat × Nat)} {c : Nat × Nat × Nat → List Int} {T : Nat → Bool} (hA : RelP n (nearM M)) (hM : ∀ i, M i < 65536) (hn : n ≤ 16) (hT : ∀ t, T t = true ↔ t < n)
    (hZ : ∀ t, t ∈ Z ↔ Bend (nearM M) t.1 t.2.1 t.2.2)
    (hc : ∀ t ∈ Z, (c t = [] ∧ ∀ d, ¬ AtD (nearM (insM M (bendK M n t.1 t.2.1 t.2.2))) T t.2.2 d t.2.1) ∨ ∃ d, AtD (nearM (insM M (bendK M n t.1 t.2.1 t.2.2))) T t.2.2 d t.2.1 ∧ c t = (t.1 : Int) :: wayD (insM M (bendK M n t.1 t.2.1 t.2.2)) (ringN (nearM (insM M (bendK M n t.1 t.2.1 t.2.2))) T t.2.2) d t.2.1 d) :
    SeenR (ChlP (nearM M)) (ChlP (nearM M)) (Z.foldl (fun b t => betterR b (c t)) []) := by
  have h1 := seen_fold (p := ChlP (nearM M)) (q := fun (t : Nat × Nat × Nat) ys => ChlP (nearM M) ys ∧ vtxN ys 0 = t.1 ∧ vtxN ys 1 = t.2.1 ∧ vtxN ys (ys.length - 1) = t.2.2) (c := c) Z
    (fun t ht => bend_seen hA hM hn ((hZ t).1 ht) hT (hc t ht)) SeenR.zero
  refine h1.more (fun ys hy => ?_)
  obtain ⟨zs, ⟨hz, hlt⟩, hn⟩ := hy.bent hA.sym
  have h4 := hz.four
  refine ⟨zs, Or.inr ⟨(vtxN zs 0, vtxN zs 1, vtxN zs (zs.length - 1)), (hZ _).2 ⟨hz.loop.step 0 (by omega), hz.loop.close, ?_, hlt⟩, hz, rfl, rfl, rfl⟩, hn⟩
  exact hz.far hA.sym (by omega) (by omega) (by omega) (by unfold nxt; omega)
/-- All bends: the program's answer. -/
theorem bends_cls {M : Nat → Nat} {n : Nat} {Z : List (Nat × Nat × Nat)} {c : Nat × Nat × Nat → List Int} {T : Nat → Bool} (hA : RelP n (nearM M)) (hM : ∀ i, M i < 65536) (hn : n ≤ 16) (hT : ∀ t, T t = true ↔ t < n)
    (hZ : ∀ t, t ∈ Z ↔ Bend (nearM M) t.1 t.2.1 t.2.2)
    (hc : ∀ t ∈ Z, (c t = [] ∧ ∀ d, ¬ AtD (nearM (insM M (bendK M n t.1 t.2.1 t.2.2))) T t.2.2 d t.2.1) ∨ ∃ d, AtD (nearM (insM M (bendK M n t.1 t.2.1 t.2.2))) T t.2.2 d t.2.1 ∧ c t = (t.1 : Int) :: wayD (insM M (bendK M n t.1 t.2.1 t.2.2)) (ringN (nearM (insM M (bendK M n t.1 t.2.1 t.2.2))) T t.2.2) d t.2.1 d) :
    Z.foldl (fun b t => betterR b (c t)) [] = clsL (nearM M) :=
  (clsL_of (bends_seen hA hM hn hT hZ hc)).symm

end Go.Proofs.YtohjfcfcopbmoaaGreatDoor
