/- The texts EN3, EN4, EN5, EN6, EN7, EN8, joined. -/
import Derived.Test.YtohjfcfcopbmoaaGreatDoorQEN1
import Derived.Test.YtohjfcfcopbmoaaGreatDoorQX2
import Derived.Test.YtohjfcfcopbmoaaGreatDoorQM1
import Derived.Test.YtohjfcfcopbmoaaGreatDoorQF1
import Derived.Test.YtohjfcfcopbmoaaGreatDoorQD5
import Derived.Test.YtohjfcfcopbmoaaGreatDoorQY1
import Derived.Deep.RegionHeld3

/- Walks: the iterator over all lists. -/
namespace Go.Proofs.YtohjfcfcopbmoaaGreatDoor
open Go.RowKit Go.Shelf

theorem made_row (w : World) (B sz : Nat) (hB : B ≤ w.heap.size) (hm : sz ≤ maxLen) : OwnRow 2 (w.alloc (.cells (madeCells #[.int .i64 0] sz) 2)) B (.slice (some ⟨w.heap.size, 0, none⟩) 0 sz) [] :=
  ⟨by simp, by simp, Or.inr ⟨w.heap.size, sz, madeCells #[.int .i64 0] sz, rfl, hB, World.alloc_heap_new w _, Nat.zero_le _, hm, by simp [size_madeCells], fun i hi => absurd hi (by simp)⟩⟩

end Go.Proofs.YtohjfcfcopbmoaaGreatDoor

/- Walks: who is not in a list, who has room behind it; the choice by which a graph stands for a pattern. -/
namespace Go.Proofs.YtohjfcfcopbmoaaGreatDoor
open Go.RowKit Go.Shelf

/-- All of n vertices but the first k of xs. -/
def unTo (n : Nat) (xs : List Int) : Nat → Nat
  | 0 => 2 ^ n - 1
  | k + 1 => clrM (unTo n xs k) (2 ^ (nth xs k).toNat)
theorem unTo_lt {n : Nat} (hn : n ≤ 16) (xs : List Int) (k : Nat) : unTo n xs k < 65536 := by
  induction k with
  | zero => exact whole_lt hn
  | succ k ih => exact clrM_lt _ ih
theorem unTo_bit {n : Nat} (hn : n ≤ 16) {xs : List Int} (hx : InL xs) {k : Nat} (hk : k ≤ xs.length) (v : Nat) : (unTo n xs k).testBit v = true ↔ v < n ∧ ∀ j, j < k → nth xs j ≠ (v : Int) := by
  induction k with
  | zero => rw [unTo, whole_bit, decide_eq_true_iff]; exact ⟨fun h => ⟨h, fun j hj => absurd hj (by omega)⟩, fun h => h.1⟩
  | succ k ih =>
    have hxk := hx k (by omega)
    rw [unTo, clrM_bit (unTo_lt hn xs k) (pow_lt16 (by omega)), Bool.and_eq_true, ih (by omega), Nat.testBit_two_pow, Bool.not_eq_true', decide_eq_false_iff_not]
    constructor
    · rintro ⟨⟨h1, h2⟩, h3⟩
      refine ⟨h1, fun j hj => ?_⟩
      rcases Nat.lt_succ_iff_lt_or_eq.1 hj with h | rfl
      · exact h2 j h
      · omega
    · rintro ⟨h1, h2⟩
      exact ⟨⟨h1, fun j hj => h2 j (by omega)⟩, fun e => h2 k (by omega) (by omega)⟩
/-- All of n vertices but those of xs. -/
def unN (n : Nat) (xs : List Int) : Nat := unTo n xs xs.length
theorem unN_bit {n : Nat} (hn : n ≤ 16) {xs : List Int} (hx : InL xs) (v : Nat) : (unN n xs).testBit v = true ↔ v < n ∧ hasB xs (v : Int) = false := by
  unfold unN
  rw [unTo_bit hn hx (Nat.le_refl _), ← Bool.not_eq_true, hasB_iff]
  exact ⟨fun h => ⟨h.1, fun ⟨j, hj, e⟩ => h.2 j hj e⟩, fun h => ⟨h.1, fun j hj e => h.2 ⟨j, hj, e⟩⟩⟩

/-- By the masks of a pattern: is the first near the second? -/
def patM (Mp : Nat → Nat) (i w : Nat) : Bool := (Mp w).testBit i
/-- By the masks of a graph. -/
def hostM (M : Nat → Nat) (a v : Nat) : Bool := (M a).testBit v
/-- Who has room, as far as the first k of xs tell. -/
def rmTo (Mp : Nat → Nat) (n : Nat) (M : Nat → Nat) (xs : List Int) (w k : Nat) : Nat := pm (fun v => decide (v < n) && fitTo (patM Mp) (hostM M) xs w v k)
theorem rmTo_lt (Mp : Nat → Nat) (n : Nat) (M : Nat → Nat) (xs : List Int) (w k : Nat) : rmTo Mp n M xs w k < 65536 := pm_lt _
theorem rmTo_bit {Mp : Nat → Nat} {n : Nat} {M : Nat → Nat} {xs : List Int} {w k : Nat} (hn : n ≤ 16) (v : Nat) : (rmTo Mp n M xs w k).testBit v = true ↔ v < n ∧ fitTo (patM Mp) (hostM M) xs w v k = true := by
  unfold rmTo
  rw [pm_bit, Bool.and_eq_true, Bool.and_eq_true, decide_eq_true_iff, decide_eq_true_iff]
  exact ⟨fun h => h.2, fun h => ⟨by omega, h⟩⟩
theorem rmTo_zero {Mp : Nat → Nat} {n : Nat} {M : Nat → Nat} {xs : List Int} {w : Nat} (hn : n ≤ 16) (hx : InL xs) : unN n xs = rmTo Mp n M xs w 0 := bit_ext fun v => by
  rw [unN_bit hn hx, rmTo_bit hn, fitTo, Bool.not_eq_true']
theorem rmTo_and {Mp : Nat → Nat} {n : Nat} {M : Nat → Nat} {xs : List Int} {w k : Nat} (hn : n ≤ 16) (h : (Mp w).testBit k = true) : rmTo Mp n M xs w k &&& M (nth xs k).toNat = rmTo Mp n M xs w (k + 1) := bit_ext fun v => by
  rw [Nat.testBit_and, Bool.and_eq_true, rmTo_bit hn, rmTo_bit hn, fitTo, Bool.and_eq_true, beq_iff_eq, show patM Mp k w = true from h]
  exact ⟨fun h => ⟨h.1.1, h.1.2, h.2.symm⟩, fun h => ⟨⟨h.1, h.2.1⟩, h.2.2.symm⟩⟩
theorem rmTo_not {Mp : Nat → Nat} {n : Nat} {M : Nat → Nat} (hM : ∀ i, M i < 65536) {xs : List Int} {w k : Nat} (hn : n ≤ 16) (h : (Mp w).testBit k = false) : clrM (rmTo Mp n M xs w k) (M (nth xs k).toNat) = rmTo Mp n M xs w (k + 1) := bit_ext fun v => by
  rw [clrM_bit (rmTo_lt _ _ _ _ _ _) (hM _), Bool.and_eq_true, rmTo_bit hn, rmTo_bit hn, fitTo, Bool.and_eq_true, beq_iff_eq, show patM Mp k w = false from h, Bool.not_eq_true']
  exact ⟨fun h => ⟨h.1.1, h.1.2, h.2.symm⟩, fun h => ⟨⟨h.1, h.2.1⟩, h.2.2.symm⟩⟩

theorem NetAt.but {T : Nat → Prop} {w w' : World} {b n : Nat} {M : Nat → Nat} (h : NetAt w b n M) (hb : KeepsBut T w w') (hT : ¬ T b) : NetAt w' b n M := ⟨hb.cell hT h.1, fun i hi => hb.cell hT (h.2 i hi)⟩

end Go.Proofs.YtohjfcfcopbmoaaGreatDoor

/- Walks: twins, and a choice narrowed by them. -/
namespace Go.Proofs.YtohjfcfcopbmoaaGreatDoor
open Go.RowKit Go.Shelf

/-- Sixteen masks, as cells. -/
def tabArr (M : Nat → Nat) : Array Value :=
  #[.int .u32 (M 0 : Int), .int .u32 (M 1 : Int), .int .u32 (M 2 : Int), .int .u32 (M 3 : Int), .int .u32 (M 4 : Int), .int .u32 (M 5 : Int), .int .u32 (M 6 : Int), .int .u32 (M 7 : Int), .int .u32 (M 8 : Int),
    .int .u32 (M 9 : Int), .int .u32 (M 10 : Int), .int .u32 (M 11 : Int), .int .u32 (M 12 : Int), .int .u32 (M 13 : Int), .int .u32 (M 14 : Int), .int .u32 (M 15 : Int)]
theorem tabArr_size (M : Nat → Nat) : (tabArr M).size = 16 := rfl
theorem tabArr_one (M : Nat → Nat) : (tabArr M).all (·.oneCell') = true := by simp [tabArr, Value.oneCell']
theorem tabArr_get (M : Nat → Nat) (i : Nat) (hi : i < 16) : (tabArr M)[i]? = some (.int .u32 (M i : Int)) := by
  have h : i = 0 ∨ i = 1 ∨ i = 2 ∨ i = 3 ∨ i = 4 ∨ i = 5 ∨ i = 6 ∨ i = 7 ∨ i = 8 ∨ i = 9 ∨ i = 10 ∨ i = 11 ∨ i = 12 ∨ i = 13 ∨ i = 14 ∨ i = 15 := by omega
  rcases h with rfl | rfl | rfl | rfl | rfl | rfl | rfl | rfl | rfl | rfl | rfl | rfl | rfl | rfl | rfl | rfl <;> rfl
theorem tabArr_eq {cs : Array Value} {M : Nat → Nat} (hs : cs.size = 16) (h : ∀ i, i < 16 → cs[i]? = some (.int .u32 (M i : Int))) : cs = tabArr M := by
  apply Array.ext_getElem?
  intro j
  by_cases hj : j < 16
  · rw [h j hj, tabArr_get M j hj]
  · rw [Array.getElem?_eq_none (by omega), Array.getElem?_eq_none (by rw [tabArr_size]; omega)]
theorem tabArr_congr {M M' : Nat → Nat} (h : ∀ i, i < 16 → M i = M' i) : tabArr M = tabArr M' := tabArr_eq (tabArr_size M) (fun i hi => by rw [tabArr_get M i hi, h i hi])
theorem tabArr_set (M : Nat → Nat) (i m : Nat) (hi : i < 16) : (tabArr M).setIfInBounds i (.int .u32 (m : Int)) = tabArr (fun j => if j = i then m else M j) := by
  refine tabArr_eq (by rw [Array.size_setIfInBounds, tabArr_size]) (fun j hj => ?_)
  rw [Array.getElem?_setIfInBounds]
  by_cases e : j = i
  · subst e
    rw [if_pos rfl, if_pos (by rw [tabArr_size]; omega)]
    simp
  · rw [if_neg (by omega), tabArr_get M j hj]
    simp [e]
/-- Block g holds sixteen masks; it is not frozen. -/
def TabBlk (w : World) (g : Nat) (M : Nat → Nat) : Prop := w.heap[g]? = some (.cells (tabArr M) 81 (0, 0))
namespace TabBlk
variable {w w' : World} {g : Nat} {M : Nat → Nat}
theorem cell (h : TabBlk w g M) {i : Nat} (hi : i < 16) : w.cell? ⟨g, i, none⟩ = some (.int .u32 (M i : Int)) := by rw [cell_of_row w g i _ _ _ h, tabArr_get M i hi]
theorem frozen (h : TabBlk w g M) (i : Nat) : w.frozen? ⟨g, i, none⟩ = false := frozen_of_row w g i _ _ h
theorem lt (h : TabBlk w g M) : g < w.heap.size := (Array.getElem?_eq_some_iff.1 h).1
theorem keep (h : TabBlk w g M) (hb : Below w.heap.size w w') : TabBlk w' g M := by unfold TabBlk; rw [hb.block g h.lt]; exact h
theorem set (h : TabBlk w g M) (i m : Nat) (hi : i < 16) : TabBlk (w.setCell ⟨g, i, none⟩ (.int .u32 (m : Int))) g (fun j => if j = i then m else M j) := by
  unfold TabBlk
  rw [heap_setCell_same w g i _ _ _ h, tabArr_set M i m hi]
theorem setOther (h : TabBlk w g M) {a : Addr} (ha : g ≠ a.block) (u : Value) : TabBlk (w.setCell a u) g M := by
  unfold TabBlk
  rw [heap_setCell_other _ _ _ _ ha]; exact h
theorem congr {M' : Nat → Nat} (h : TabBlk w g M) (hM : ∀ i, i < 16 → M i = M' i) : TabBlk w g M' := by unfold TabBlk; rw [← tabArr_congr hM]; exact h
theorem but {T : Nat → Prop} (h : TabBlk w g M) (hb : KeepsBut T w w') (hT : ¬ T g) : TabBlk w' g M := by unfold TabBlk; rw [hb.2 g h.lt hT]; exact h
end TabBlk

/-- u and v can change places. -/
def twinB (M : Nat → Nat) (u v : Nat) : Bool := clrM (clrM (M u ^^^ M v) (2 ^ u)) (2 ^ v) == 0
/-- The twins of v below k. -/
def twRow (M : Nat → Nat) (v k : Nat) : Nat := pm (fun u => decide (u < k) && twinB M u v)
theorem twRow_lt (M : Nat → Nat) (v k : Nat) : twRow M v k < 65536 := pm_lt _
theorem twRow_bit {M : Nat → Nat} {v k u : Nat} (hk : k ≤ 16) : (twRow M v k).testBit u = true ↔ u < k ∧ twinB M u v = true := by
  unfold twRow
  rw [pm_bit, Bool.and_eq_true, decide_eq_true_iff, Bool.and_eq_true, decide_eq_true_iff]
  exact ⟨fun h => h.2, fun h => ⟨by omega, h⟩⟩
theorem twRow_zero (M : Nat → Nat) (v : Nat) : twRow M v 0 = 0 := bit_ext fun u => by rw [twRow_bit (by omega)]; simp
theorem twRow_yes {M : Nat → Nat} {v k : Nat} (hk : k < 16) (h : twinB M k v = true) : twRow M v k ||| 2 ^ k = twRow M v (k + 1) := bit_ext fun u => by
  rw [Nat.testBit_or, Bool.or_eq_true, twRow_bit (by omega), twRow_bit (by omega), Nat.testBit_two_pow, decide_eq_true_iff]
  constructor
  · rintro (⟨h1, h2⟩ | h1)
    · exact ⟨by omega, h2⟩
    · subst h1; exact ⟨by omega, h⟩
  · rintro ⟨h1, h2⟩
    by_cases e : u = k
    · exact .inr e.symm
    · exact .inl ⟨by omega, h2⟩
theorem twRow_no {M : Nat → Nat} {v k : Nat} (hk : k < 16) (h : twinB M k v = false) : twRow M v k = twRow M v (k + 1) := bit_ext fun u => by
  rw [twRow_bit (by omega), twRow_bit (by omega)]
  constructor
  · rintro ⟨h1, h2⟩; exact ⟨by omega, h2⟩
  · rintro ⟨h1, h2⟩
    refine ⟨?_, h2⟩
    by_cases e : u = k
    · subst e; rw [h] at h2; cases h2
    · omega
/-- The table, half filled. -/
def twTab (M : Nat → Nat) (v k i : Nat) : Nat := if i < v then twRow M i i else if i = v then twRow M v k else 0
theorem twTab_next (M : Nat → Nat) (v i : Nat) : twTab M v v i = twTab M (v + 1) 0 i := by
  unfold twTab
  by_cases h1 : i < v
  · rw [if_pos h1, if_pos (by omega)]
  · rw [if_neg h1]
    by_cases h2 : i = v
    · rw [if_pos h2, if_pos (by omega), h2]
    · rw [if_neg h2, if_neg (by omega)]
      split
      · rw [twRow_zero]
      · rfl
theorem twTab_at (M : Nat → Nat) (v k : Nat) : twTab M v k v = twRow M v k := by unfold twTab; rw [if_neg (by omega), if_pos rfl]
theorem twTab_put (M : Nat → Nat) (v k i : Nat) : (if i = v then twRow M v (k + 1) else twTab M v k i) = twTab M v (k + 1) i := by
  unfold twTab
  by_cases h2 : i = v
  · rw [if_pos h2, if_neg (by omega), if_pos h2]
  · rw [if_neg h2]
    by_cases h1 : i < v
    · rw [if_pos h1, if_pos h1]
    · rw [if_neg h1, if_neg h2, if_neg h1, if_neg h2]
/-- The smaller twins of each of n vertices. -/
def twN (M : Nat → Nat) (n i : Nat) : Nat := if i < n then twRow M i i else 0
theorem twTab_all (M : Nat → Nat) (n i : Nat) : twTab M n 0 i = twN M n i := by
  unfold twTab twN
  by_cases h1 : i < n
  · rw [if_pos h1, if_pos h1]
  · rw [if_neg h1, if_neg h1]
    split
    · rw [twRow_zero]
    · rfl
theorem twN_lt (M : Nat → Nat) (n i : Nat) : twN M n i < 65536 := by unfold twN; split; exact twRow_lt _ _ _; omega
theorem xor_lt {a b : Nat} (ha : a < 65536) (hb : b < 65536) : a ^^^ b < 65536 := Nat.xor_lt_two_pow (n := 16) ha hb

theorem Tryz.sizeTab : (Tryz.prog.info? 81).map (·.size) = some 16 := by kernel_rfl

/-- What lies in the midst of the search for twins. -/
structure TwIn (w : World) (bn n : Nat) (M : Nat → Nat) (v k : Nat) (wr : World) : Prop where
  out : TabBlk wr (w.heap.size + 1) (twTab M v k)
  res : TabBlk wr w.heap.size (fun _ => 0)
  bel : Below w.heap.size w wr
theorem TwIn.later {w : World} {bn n : Nat} {M : Nat → Nat} {v k : Nat} {wr w' : World} (h : TwIn w bn n M v k wr) (hb : Below wr.heap.size wr w') : TwIn w bn n M v k w' := ⟨h.out.keep hb, h.res.keep hb, h.bel.trans (hb.mono h.bel.size)⟩

end Go.Proofs.YtohjfcfcopbmoaaGreatDoor

/- Walks: a choice narrowed to those whose smaller twins are in the list already. -/
namespace Go.Proofs.YtohjfcfcopbmoaaGreatDoor
open Go.RowKit Go.Shelf

/-- The choice, narrowed. -/
def turnN (C : List Int → Nat) (n : Nat) (Tw : Nat → Nat) (xs : List Int) : Nat := pm (fun v => (C xs).testBit v && (Tw v &&& unN n xs == 0))
theorem turnN_lt (C : List Int → Nat) (n : Nat) (Tw : Nat → Nat) (xs : List Int) : turnN C n Tw xs < 65536 := pm_lt _
theorem turnN_bit {C : List Int → Nat} (hC : ∀ xs, C xs < 65536) {n : Nat} {Tw : Nat → Nat} {xs : List Int} {v : Nat} : (turnN C n Tw xs).testBit v = true ↔ (C xs).testBit v = true ∧ Tw v &&& unN n xs = 0 := by
  unfold turnN
  rw [pm_bit, Bool.and_eq_true, Bool.and_eq_true, decide_eq_true_iff, beq_iff_eq]
  refine ⟨fun h => h.2, fun h => ⟨?_, h⟩⟩
  refine Nat.lt_of_not_le fun hle => ?_
  rw [Nat.testBit_lt_two_pow (Nat.lt_of_lt_of_le (hC xs) (Nat.pow_le_pow_right (n := 2) (by omega) hle : 2 ^ 16 ≤ 2 ^ v))] at h
  cases h.1
/-- .. after the first k of those that may follow. -/
def tnTo (m un : Nat) (Tw : Nat → Nat) : Nat → Nat
  | 0 => m
  | k + 1 => if Tw (nth (listM m) k).toNat &&& un = 0 then tnTo m un Tw k else clrM (tnTo m un Tw k) (2 ^ (nth (listM m) k).toNat)
theorem tnTo_lt {m un : Nat} {Tw : Nat → Nat} (hm : m < 65536) (k : Nat) : tnTo m un Tw k < 65536 := by
  induction k with
  | zero => exact hm
  | succ k ih => rw [tnTo]; split; exact ih; exact clrM_lt _ ih
theorem tnTo_bit {m un : Nat} {Tw : Nat → Nat} (hm : m < 65536) {k : Nat} (hk : k ≤ (listM m).length) (v : Nat) : (tnTo m un Tw k).testBit v = true ↔ m.testBit v = true ∧ ∀ j, j < k → nth (listM m) j = (v : Int) → Tw v &&& un = 0 := by
  induction k with
  | zero => exact ⟨fun h => ⟨h, fun j hj => absurd hj (by omega)⟩, fun h => h.1⟩
  | succ k ih =>
    obtain ⟨x, hx, _, hxe⟩ := (listM_mem _ _).1 (nth_mem (xs := listM m) (i := k) (by omega))
    rw [tnTo, ← hxe, Int.toNat_natCast]
    have ih := ih (by omega)
    split
    · rename_i h0
      rw [ih]
      refine ⟨fun h => ⟨h.1, fun j hj e => ?_⟩, fun h => ⟨h.1, fun j hj e => h.2 j (by omega) e⟩⟩
      rcases Nat.lt_succ_iff_lt_or_eq.1 hj with h2 | rfl
      · exact h.2 j h2 e
      · rw [← hxe] at e; obtain rfl : x = v := by omega
        exact h0
    · rename_i h0
      rw [clrM_bit (tnTo_lt hm k) (pow_lt16 hx), Bool.and_eq_true, ih, Nat.testBit_two_pow, Bool.not_eq_true', decide_eq_false_iff_not]
      constructor
      · rintro ⟨⟨h1, h2⟩, h3⟩
        refine ⟨h1, fun j hj e => ?_⟩
        rcases Nat.lt_succ_iff_lt_or_eq.1 hj with h4 | rfl
        · exact h2 j h4 e
        · rw [← hxe] at e; exact absurd (by omega) h3
      · rintro ⟨h1, h2⟩
        refine ⟨⟨h1, fun j hj e => h2 j (by omega) e⟩, fun e => ?_⟩
        subst e
        exact h0 (h2 k (by omega) hxe.symm)
theorem tnTo_all {C : List Int → Nat} (hC : ∀ xs, C xs < 65536) {n : Nat} {Tw : Nat → Nat} {xs : List Int} : tnTo (C xs) (unN n xs) Tw (listM (C xs)).length = turnN C n Tw xs := bit_ext fun v => by
  rw [tnTo_bit (hC xs) (Nat.le_refl _), turnN_bit hC]
  refine ⟨fun h => ⟨h.1, ?_⟩, fun h => ⟨h.1, fun _ _ _ => h.2⟩⟩
  have hv16 : v < 16 := Nat.lt_of_not_le fun hle => by
    have h1 := h.1
    rw [Nat.testBit_lt_two_pow (Nat.lt_of_lt_of_le (hC xs) (Nat.pow_le_pow_right (n := 2) (by omega) hle : 2 ^ 16 ≤ 2 ^ v))] at h1
    cases h1
  obtain ⟨j, hj, e⟩ := List.getElem_of_mem ((listM_mem (C xs) (v : Int)).2 ⟨v, hv16, h.1, rfl⟩)
  exact h.2 j hj (by rw [nth_eq hj]; exact e)

end Go.Proofs.YtohjfcfcopbmoaaGreatDoor

/- Walks: the first list by which a graph stands for a pattern. -/
namespace Go.Proofs.YtohjfcfcopbmoaaGreatDoor
open Go.RowKit Go.Shelf
attribute [local go_sem] Oper.semAt_some

theorem eqn_in (d : Nat) (a : Option Addr) (n c : Nat) (w : World) : (Op.equalIn (d + 1) 33 (.slice a n c) (.slice none 0 0)).run Tryz.prog w = .ok a.isNone w := by
  cases a <;> simp [Op.equalIn, run_underlying Tryz.underlying33]
theorem eqn_nil (a : Option Addr) (n c : Nat) (w : World) : (Op.equal 33 (.slice a n c) (.slice none 0 0)).run Tryz.prog w = .ok a.isNone w := eqn_in 9999 a n c w
theorem eqn_no (a : Addr) (n c : Nat) (w : World) : (binOp .eql 33 (.slice (some a) n c) (.slice none 0 0)).run Tryz.prog w = .ok (.bool false) w := by
  simp [binOp, eqn_nil]
theorem eqn_yes (w : World) : (binOp .eql 33 (.slice none 0 0) (.slice none 0 0)).run Tryz.prog w = .ok (.bool true) w := by
  simp [binOp, eqn_nil]

set_option maxHeartbeats 1000000 in
theorem clone_any (b n c : Nat) (xs : List Int) (w : World) (hr : RowAt w (.slice (some ⟨b, 0, none⟩) n c) xs) (h1 : 1 ≤ xs.length) (h16 : xs.length ≤ 16) :
    Calls Tryz.prog 244 #[.slice (some ⟨b, 0, none⟩) n c] w (GaveRow w xs) := by
  obtain ⟨i0, hi, hz0, hz1, hz2⟩ := info_parts Tryz.infoI
  obtain ⟨b', o, c', e1, l1, l2, hc⟩ := hr.pos (by omega)
  simp only [Value.slice.injEq, Option.some.injEq, Addr.mk.injEq, and_true] at e1
  obtain ⟨⟨rfl, rfl⟩, rfl, rfl⟩ := e1
  have hq := eqn_no ⟨b, 0, none⟩ xs.length c
  have HI := Lib.hid hr.1
  have hown0 : (w.alloc (.cells #[] 2)).ownsRow w.heap.size 2 1 (.slice (some ⟨w.heap.size, 0, none⟩) 0 0) 0 [] := World.ownsRow_lit w #[] 0 (Nat.le_refl _) (Nat.zero_le _) rfl
  have HO0 := Lib.hid hown0
  have HNEW : Hid (∀ j u, (xs.map (Value.int .i64))[j]? = some u → (w.alloc (.cells #[] 2)).cell? ((⟨b, 0, none⟩ : Addr).add j) = some u) := fun j u hj => by
    rw [List.getElem?_map] at hj
    cases hx : xs[j]? with
    | none => rw [hx] at hj; simp at hj
    | some y =>
      rw [hx] at hj
      simp at hj
      obtain ⟨hlt, e⟩ := List.getElem?_eq_some_iff.1 hx
      have := cell_keep ((Below.refl w.heap.size w).alloc (Nat.le_refl _) (.cells #[] 2)) (hc j hlt)
      rw [nth_eq hlt, e, hj] at this
      rw [Addr.add_lit]; exact this
  clear hr hown0 hc
  go_enter Tryz.func244, Tryz.ntmps244
  go_wp2_with (at_builtin; refine wpList_append_own _ rfl (.tmp 5) (.tmp 6) 33 rfl w.heap.size 2 i0 (.int .i64 0) 1 8 Tryz.underlying33 hi hz0 hz1 hz2 rfl (by decide) _ _ _ rfl HO0.out ⟨b, 0, none⟩ xs.length c (xs.map (Value.int .i64)) rfl (by simp) HNEW.out (ints_one _) (by unfold maxLen; omega) (by omega) (by simp) ?_)
  intro v6 w6 hown6 hgrow6 _
  have hb6 : Below w.heap.size w w6 := ((Below.refl _ _).alloc (Nat.le_refl _) _).grown hgrow6 (by simp) (fun j hj => by simp [Value.ownBlock] at hj; omega)
  have ho6 : OwnRow 2 w6 w.heap.size v6 xs := OwnRow.of_ownsRow (n := 0 + xs.length) (by simpa using hown6) (by unfold maxLen; omega) HI.out
  obtain ⟨a6, c6, e6⟩ := ho6.row.slice
  subst e6
  have HB6 := Lib.hid hb6
  have HO6 := Lib.hid ho6
  clear hown6 hgrow6 hb6 ho6 hq
  go_wp2
  go_ret
  exact ⟨_, _, _, rfl, HO6.out, HB6.out⟩

theorem OwnRow.kept2 {T : TypeId} {w w' : World} {B : Nat} {v : Value} {xs : List Int} (h : OwnRow T w B v xs) (hk : ∀ (k : Nat) (cs : Array Value) (fr : Nat × Nat), w.heap[k]? = some (Obj.cells cs T fr) → w'.heap[k]? = some (Obj.cells cs T fr)) : OwnRow T w' B v xs := by
  obtain ⟨h1, h2, h3⟩ := h
  refine ⟨h1, h2, ?_⟩
  rcases h3 with h3 | ⟨g, cap, cur, e, hg, hh, r⟩
  · exact Or.inl h3
  · exact Or.inr ⟨g, cap, cur, e, hg, hk _ _ _ hh, r⟩
/-- A row of one's own, and a yes or no. -/
def GaveFB (w : World) (xs : List Int) (ok : Bool) (e : Ending) (w' : World) : Prop :=
  ∃ m a c, e = .returned (.tuple #[.slice a m c, .bool ok]) ∧ OwnRow 2 w' w.heap.size (.slice a m c) xs ∧ Below w.heap.size w w'

/-- The lists that leastFit goes through. -/
def turnsL (Mp : Nat → Nat) (np n : Nat) (M : Nat → Nat) : List (List Int) := enumL (turnN (wiseN (patM Mp) np n (hostM M)) n (twN M n)) np []

theorem ChoiceAt.later {T : Nat → Prop} {w w' : World} {cf : Nat} {lb : Array Value} {sz : Nat} {C : List Int → Nat} (h : ChoiceAt T w cf lb sz C) (hk : KeepsBut T w w') : ChoiceAt T w' cf lb sz C :=
  fun W v xs hW hr hx hl => h W v xs (hk.trans hW) hr hx hl

/-- Nothing is found yet. -/
def FitI (w : World) (pre : List (List Int)) (W : World) : Prop :=
  pre = [] ∧ W.heap[w.heap.size]? = some (.cells #[.slice none 0 0] 33 (0, 0)) ∧ W.heap[w.heap.size + 1]? = some (.cells #[.bool false] 4 (0, 0)) ∧ Below w.heap.size w W
/-- A list is found. -/
def FitD (w : World) (xs : List Int) (W : World) : Prop :=
  ∃ val, W.heap[w.heap.size]? = some (.cells #[val] 33 (0, 0)) ∧ W.heap[w.heap.size + 1]? = some (.cells #[.bool true] 4 (0, 0)) ∧ OwnRow 2 W w.heap.size val xs ∧ Below w.heap.size w W
theorem FitD.put {w : World} {xs : List Int} {A : World} {l : Nat} {ob : Obj} (h : FitD w xs A) (hl : w.heap.size ≤ l) (ho : A.heap[l]? = some ob) (hob : ∀ cs U fr, ob ≠ Obj.cells cs U fr) (o : Obj) : FitD w xs (A.putObj l o) := by
  obtain ⟨val, h3, h4, h5, h6⟩ := h
  have hk : ∀ (k : Nat) (cs : Array Value) (U : TypeId) (fr : Nat × Nat), A.heap[k]? = some (Obj.cells cs U fr) → (A.putObj l o).heap[k]? = some (Obj.cells cs U fr) := fun k cs U fr hh => by
    refine (World.putObj_heap_other (fun e => ?_)).trans hh
    subst e; rw [ho] at hh; exact hob _ _ _ (Option.some.inj hh)
  exact ⟨val, hk _ _ _ _ h3, hk _ _ _ _ h4, h5.kept2 (fun k cs fr => hk k cs _ fr), h6.trans (below_put A l o hl (Array.getElem?_eq_some_iff.1 ho).1)⟩

end Go.Proofs.YtohjfcfcopbmoaaGreatDoor

/- Plain facts: the first list in which twins come in turn is the first of all. -/
namespace Go.Proofs.YtohjfcfcopbmoaaGreatDoor

theorem twin_iff {M : Nat → Nat} (hM : ∀ i, M i < 65536) {u v : Nat} (hu : u < 16) (hv : v < 16) : twinB M u v = true ↔ ∀ x, x ≠ u → x ≠ v → (M u).testBit x = (M v).testBit x := by
  unfold twinB
  have h1 := xor_lt (hM u) (hM v)
  rw [beq_iff_eq]
  constructor
  · intro h x hxu hxv
    have : (clrM (clrM (M u ^^^ M v) (2 ^ u)) (2 ^ v)).testBit x = false := by rw [h]; simp
    rw [clrM_bit (clrM_lt _ h1) (pow_lt16 hv), clrM_bit h1 (pow_lt16 hu), Nat.testBit_two_pow, Nat.testBit_two_pow, Nat.testBit_xor, decide_eq_false (by omega), decide_eq_false (by omega)] at this
    simpa using this
  · intro h
    refine bit_ext fun x => ?_
    rw [clrM_bit (clrM_lt _ h1) (pow_lt16 hv), clrM_bit h1 (pow_lt16 hu), Nat.testBit_two_pow, Nat.testBit_two_pow, Nat.testBit_xor]
    by_cases hxu : x = u
    · subst hxu; simp
    · by_cases hxv : x = v
      · subst hxv; simp
      · rw [h x hxu hxv]; simp
/-- u for v, v for u. -/
def swN (u v x : Nat) : Nat := if x = u then v else if x = v then u else x
theorem swN_inj {u v a b : Nat} (h : swN u v a = swN u v b) : a = b := by
  unfold swN at h
  split at h
  · split at h
    · omega
    · split at h <;> omega
  · split at h
    · split at h
      · omega
      · split at h <;> omega
    · split at h
      · omega
      · split at h <;> omega
theorem swN_lt {u v x n : Nat} (hu : u < n) (hv : v < n) (hx : x < n) : swN u v x < n := by unfold swN; split; exact hv; split; exact hu; exact hx
theorem swN_near {A : Nat → Nat → Bool} (hA : ∀ a b, A a b = A b a) {u v : Nat} (ht : ∀ x, x ≠ u → x ≠ v → A u x = A v x) {a b : Nat} (hab : a ≠ b) : A (swN u v a) (swN u v b) = A a b := by
  unfold swN
  by_cases a1 : a = u
  · subst a1
    rw [if_pos rfl, if_neg (fun e => hab e.symm)]
    by_cases b1 : b = v
    · subst b1; rw [if_pos rfl]; exact hA _ _
    · rw [if_neg b1]; exact (ht b (fun e => hab e.symm) b1).symm
  · rw [if_neg a1]
    by_cases a2 : a = v
    · subst a2
      rw [if_pos rfl]
      by_cases b1 : b = u
      · subst b1; rw [if_pos rfl]; exact hA _ _
      · rw [if_neg b1, if_neg (fun e => hab e.symm)]; exact ht b b1 (fun e => hab e.symm)
    · rw [if_neg a2]
      by_cases b1 : b = u
      · subst b1; rw [if_pos rfl, hA a v, hA a b]; exact (ht a a1 a2).symm
      · rw [if_neg b1]
        by_cases b2 : b = v
        · subst b2; rw [if_pos rfl, hA a u, hA a b]; exact ht a a1 a2
        · rw [if_neg b2]
def swL (u v : Nat) (ys : List Int) : List Int := ys.map (fun x => ((swN u v x.toNat : Nat) : Int))
theorem swL_len (u v : Nat) (ys : List Int) : (swL u v ys).length = ys.length := by simp [swL]
theorem swL_nth {u v : Nat} {ys : List Int} {i : Nat} (h : i < ys.length) : nth (swL u v ys) i = ((swN u v (nth ys i).toNat : Nat) : Int) := by
  rw [nth_eq (by rw [swL_len]; exact h), nth_eq h]; simp [swL]
theorem swap_fits {P A : Nat → Nat → Bool} {m n : Nat} (hn : n ≤ 16) (hA : ∀ a b, A a b = A b a) {u v : Nat} (hu : u < n) (hv : v < n) (ht : ∀ x, x ≠ u → x ≠ v → A u x = A v x) {ys : List Int} (h : ys ∈ fitsL P m n A) : swL u v ys ∈ fitsL P m n A := by
  rw [fits_mem hn] at h ⊢
  obtain ⟨h1, h2⟩ := h
  refine ⟨by rw [swL_len]; exact h1, fun i hi => ?_⟩
  obtain ⟨a1, a2, a3, a4⟩ := h2 i hi
  rw [swL_nth (by omega)]
  have hx := swN_lt hu hv (x := (nth ys i).toNat) (by omega)
  refine ⟨by omega, by omega, fun j hj e => ?_, fun j hj => ?_⟩
  · obtain ⟨b1, _⟩ := h2 j (by omega)
    rw [swL_nth (by omega)] at e
    have := swN_inj (u := u) (v := v) (a := (nth ys j).toNat) (b := (nth ys i).toNat) (by omega)
    exact a3 j hj (by omega)
  · obtain ⟨b1, _⟩ := h2 j (by omega)
    rw [swL_nth (by omega), Int.toNat_natCast, Int.toNat_natCast, swN_near hA ht (fun e => a3 j hj (by omega))]
    exact a4 j hj
theorem listM_bit {m x : Nat} : (x : Int) ∈ listM m ↔ x < 16 ∧ m.testBit x = true := by
  rw [listM_mem]
  constructor
  · rintro ⟨i, h1, h2, h3⟩
    obtain rfl : i = x := by omega
    exact ⟨h1, h2⟩
  · rintro ⟨h1, h2⟩; exact ⟨x, h1, h2, rfl⟩
theorem turns_first {Mp : Nat → Nat} {np n : Nat} {M : Nat → Nat} (hn : n ≤ 16) (hM : ∀ i, M i < 65536) (hA : ∀ a b, hostM M a b = hostM M b a) :
    firstL (turnsL Mp np n M) = firstL (fitsL (patM Mp) np n (hostM M)) ∧ (turnsL Mp np n M = [] ↔ fitsL (patM Mp) np n (hostM M) = []) := by
  have hW := wise_enum (P := patM Mp) (m := np) (n := n) (A := hostM M) hn
  rw [← hW]
  refine firstL_narrow (fun zs v hv => ?_) (fun hne i _ hi => ?_)
  · obtain ⟨x, hx, hb, rfl⟩ := (listM_mem _ _).1 hv
    exact (listM_mem _ _).2 ⟨x, hx, ((turnN_bit (fun xs => wiseN_lt _ _ _ _ _)).1 hb).1, rfl⟩
  · simp only [List.length_nil, Nat.zero_add] at hi
    have hin := firstL_mem hne
    obtain ⟨z, hz⟩ : ∃ z, z = firstL (enumL (wiseN (patM Mp) np n (hostM M)) np []) := ⟨_, rfl⟩
    rw [← hz] at hin ⊢
    have hfit := hin
    rw [hW] at hfit
    obtain ⟨hlen, hall⟩ := (fits_mem hn).1 hfit
    have hst := (enum_mem.1 hin).2.2 i (Nat.zero_le _) (by simpa using hi)
    obtain ⟨v, hv16, hvb, hve⟩ := (listM_mem _ _).1 hst
    refine (listM_mem _ _).2 ⟨v, hv16, (turnN_bit (fun xs => wiseN_lt _ _ _ _ _)).2 ⟨hvb, ?_⟩, hve⟩
    refine Classical.not_not.1 fun hno => ?_
    obtain ⟨u, hu⟩ : ∃ u, (twN M n v &&& unN n (z.take i)).testBit u = true := by
      rcases Classical.em (∃ u, (twN M n v &&& unN n (z.take i)).testBit u = true) with h | h
      · exact h
      · exact absurd (bit_ext fun u => ⟨fun hu => absurd ⟨u, hu⟩ h, fun hu => by simp at hu⟩) hno
    rw [Nat.testBit_and, Bool.and_eq_true] at hu
    have hxi : InL (z.take i) := fun j hj => by
      rw [List.length_take] at hj
      rw [nth_take (by omega)]
      have := hall j (by omega)
      omega
    obtain ⟨hu1, hu2⟩ := hu
    rw [unN_bit hn hxi] at hu2
    have hvn : v < n := by have := (hall i hi).2.1; omega
    unfold twN at hu1
    rw [if_pos hvn, twRow_bit (by omega)] at hu1
    obtain ⟨huv, htw⟩ := hu1
    have ht := (twin_iff hM (by omega) hv16).1 htw
    have hs := swap_fits hn hA hu2.1 hvn ht hfit
    rw [← hW] at hs
    have hlt : LexLt (swL u v z) z := by
      refine ⟨i, by rw [swL_len]; omega, by omega, fun j hj => ?_, ?_⟩
      · rw [swL_nth (by omega)]
        have hj1 := hall j (by omega)
        have e1 : (nth z j).toNat ≠ u := fun e => by
          have := hu2.2
          rw [← Bool.not_eq_true, hasB_iff] at this
          exact this ⟨j, by rw [List.length_take]; omega, by rw [nth_take hj]; omega⟩
        have e2 : (nth z j).toNat ≠ v := fun e => (hall i hi).2.2.1 j hj (by omega)
        unfold swN
        rw [if_neg e1, if_neg e2]
        omega
      · rw [swL_nth (by omega), ← hve, Int.toNat_natCast]
        unfold swN
        rw [if_neg (by omega), if_pos rfl]
        omega
    rcases firstL_least (enum_sorted _ _) hs with e | e
    · rw [← hz] at e
      rw [e] at hlt
      exact lex_asymm hlt hlt
    · rw [← hz] at e
      exact lex_asymm hlt e
theorem host_row (L : List (List Int)) : hostM (rowM L) = adjB L := rfl
theorem pat_row {L : List (List Int)} (hG : GraphP L) : patM (rowM L) = adjB L := by
  funext i j
  exact adjB_sym hG j i
/-- What is found first, of two graphs. -/
theorem fit_first {Lp Lg : List (List Int)} (hp : GraphP Lp) (hg : GraphP Lg) : firstL (turnsL (rowM Lp) Lp.length Lg.length (rowM Lg)) = firstL (fitsL (adjB Lp) Lp.length Lg.length (adjB Lg)) ∧ (turnsL (rowM Lp) Lp.length Lg.length (rowM Lg) = [] ↔ fitsL (adjB Lp) Lp.length Lg.length (adjB Lg) = []) := by
  have hz := hg.1
  have := turns_first (Mp := rowM Lp) (np := Lp.length) (n := Lg.length) (M := rowM Lg) hz.2 (fun i => rowM_lt (by omega) (fun v hv => (hg.2.1 v hv).1) i) (fun a b => adjB_sym hg a b)
  rwa [pat_row hp, host_row] at this

end Go.Proofs.YtohjfcfcopbmoaaGreatDoor
