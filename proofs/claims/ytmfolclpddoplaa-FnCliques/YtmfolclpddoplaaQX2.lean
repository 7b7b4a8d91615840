/- The texts X2, X3, joined. -/
import Derived.Test.YtmfolclpddoplaaQW2
import Derived.Test.YtmfolclpddoplaaQF6
import Derived.Test.YtmfolclpddoplaaQM1
import Derived.Test.YtmfolclpddoplaaX1
import Derived.RangeFuncNested
import Derived.RangeFuncBound
import Derived.RangeFuncCalls
import Derived.RangeFuncLeaves
import Derived.Shelf.Abstract
import Derived.Shelf.RegionOpen
import Derived.OwnWalkIn
import Derived.TacticsInMore
import Derived.LoopNIn
import Derived.LoopIn

/- Walks: neighbours of a mask; plain facts on rings. -/
namespace Go.Proofs.Ytmfolclpddoplaa
open Go.RowKit

/-- The masks of the first k of xs, joined. -/
def arTo (M : Nat → Nat) (xs : List Int) : Nat → Nat
  | 0 => 0
  | k + 1 => arTo M xs k ||| M (nth xs k).toNat
theorem arTo_lt {M : Nat → Nat} (hM : ∀ i, M i < 65536) (xs : List Int) (k : Nat) : arTo M xs k < 65536 := by
  induction k with
  | zero => simp [arTo]
  | succ k ih => exact Nat.or_lt_two_pow (n := 16) ih (hM _)
theorem arTo_bit {M : Nat → Nat} {xs : List Int} {k u : Nat} : (arTo M xs k).testBit u = true ↔ ∃ j, j < k ∧ (M (nth xs j).toNat).testBit u = true := by
  induction k with
  | zero => simp [arTo]
  | succ k ih =>
    simp only [arTo, Nat.testBit_or, Bool.or_eq_true, ih]
    constructor
    · rintro (⟨j, hj, h⟩ | h)
      · exact ⟨j, by omega, h⟩
      · exact ⟨k, by omega, h⟩
    · rintro ⟨j, hj, h⟩
      by_cases e : j = k
      · subst e; exact .inr h
      · exact .inl ⟨j, by omega, h⟩

/-! Rings. -/
section
variable (A : Nat → Nat → Bool) (S : Nat → Bool) (v : Nat)
open Classical in
/-- The vertices at distance k. -/
noncomputable def ringN (k : Nat) : Nat := pm (fun u => decide (AtD A S v k u))
open Classical in
/-- The vertices of S that are not nearer than k. -/
noncomputable def leftN (k : Nat) : Nat := pm (fun u => S u && decide (∀ j, j < k → ¬ AtD A S v j u))
/-- The vertices nearer than k, each with its distance. -/
noncomputable def visTo : Nat → List (Nat × Nat)
  | 0 => []
  | k + 1 => visTo k ++ (listM (ringN A S v k)).map (fun x => (x.toNat, k))
end
section
variable {A : Nat → Nat → Bool} {S : Nat → Bool} {v : Nat}
theorem ringN_lt (k : Nat) : ringN A S v k < 65536 := pm_lt _
theorem leftN_lt (k : Nat) : leftN A S v k < 65536 := pm_lt _
open Classical in
theorem ringN_bit (hS : ∀ u, S u = true → u < 16) (k u : Nat) : (ringN A S v k).testBit u = true ↔ AtD A S v k u := by
  unfold ringN
  rw [pm_bit, Bool.and_eq_true, decide_eq_true_iff, decide_eq_true_iff]
  exact ⟨fun h => h.2, fun h => ⟨hS u (wk_in h.1), h⟩⟩
open Classical in
theorem leftN_bit (hS : ∀ u, S u = true → u < 16) (k u : Nat) : (leftN A S v k).testBit u = true ↔ S u = true ∧ ∀ j, j < k → ¬ AtD A S v j u := by
  unfold leftN
  rw [pm_bit, Bool.and_eq_true, decide_eq_true_iff, Bool.and_eq_true, decide_eq_true_iff]
  exact ⟨fun h => h.2, fun h => ⟨hS u h.1, h⟩⟩
theorem bit_ext {a b : Nat} (h : ∀ u, a.testBit u = true ↔ b.testBit u = true) : a = b := by
  apply Nat.eq_of_testBit_eq
  intro u
  rw [Bool.eq_iff_iff]
  exact h u
theorem ringN_zero (hS : ∀ u, S u = true → u < 16) (hv : S v = true) : ringN A S v 0 = 2 ^ v := bit_ext fun u => by
  rw [ringN_bit hS, atD_zero, Nat.testBit_two_pow, decide_eq_true_iff]
  exact ⟨fun h => h.1.symm, fun h => ⟨h.symm, hv⟩⟩
theorem leftN_zero {K : Nat} (hK : K < 65536) (hS : ∀ u, S u = K.testBit u) : leftN A S v 0 = K := bit_ext fun u => by
  have h16 : ∀ u, S u = true → u < 16 := fun u hu => by
    rw [hS] at hu
    exact Nat.lt_of_not_le fun hle => by
      rw [Nat.testBit_lt_two_pow (Nat.lt_of_lt_of_le hK (Nat.pow_le_pow_right (n := 2) (by omega) hle : 2 ^ 16 ≤ 2 ^ u))] at hu; cases hu
  rw [leftN_bit h16, hS]
  exact ⟨fun h => h.1, fun h => ⟨h, fun j hj => absurd hj (by omega)⟩⟩
theorem leftN_succ (hS : ∀ u, S u = true → u < 16) (k : Nat) : clrM (leftN A S v k) (ringN A S v k) = leftN A S v (k + 1) := bit_ext fun u => by
  rw [clrM_bit (leftN_lt _) (ringN_lt _), Bool.and_eq_true, Bool.not_eq_true', ← Bool.not_eq_true, ringN_bit hS, leftN_bit hS, leftN_bit hS]
  constructor
  · rintro ⟨⟨h1, h2⟩, h3⟩
    refine ⟨h1, fun j hj => ?_⟩
    by_cases e : j = k
    · subst e; exact h3
    · exact h2 j (by omega)
  · rintro ⟨h1, h2⟩
    exact ⟨⟨h1, fun j hj => h2 j (by omega)⟩, h2 k (by omega)⟩
theorem ringN_succ {M : Nat → Nat} (hS : ∀ u, S u = true → u < 16) (hA : ∀ a b, A a b = (M a).testBit b) (k : Nat) :
    arTo M (listM (ringN A S v k)) (listM (ringN A S v k)).length &&& leftN A S v (k + 1) = ringN A S v (k + 1) := bit_ext fun u => by
  rw [Nat.testBit_and, Bool.and_eq_true, arTo_bit, leftN_bit hS, ringN_bit hS, atD_succ]
  constructor
  · rintro ⟨⟨j, hj, hb⟩, h1, h2⟩
    refine ⟨h1, ?_, fun i hi => h2 i (by omega)⟩
    obtain ⟨i, hi, hbi, e⟩ := (listM_mem _ _).1 (nth_mem hj)
    rw [← e, Int.toNat_natCast] at hb
    exact ⟨i, (ringN_bit hS k i).1 hbi, by rw [hA]; exact hb⟩
  · rintro ⟨h1, ⟨w, hw, ha⟩, h2⟩
    refine ⟨?_, h1, fun j hj => h2 j (by omega)⟩
    have hm : (w : Int) ∈ listM (ringN A S v k) := (listM_mem _ _).2 ⟨w, hS w (wk_in hw.1), (ringN_bit hS k w).2 hw, rfl⟩
    obtain ⟨j, hj, e⟩ := List.getElem_of_mem hm
    refine ⟨j, hj, ?_⟩
    rw [nth_eq hj, e, Int.toNat_natCast, ← hA]
    exact ha
theorem ringN_end (hS : ∀ u, S u = true → u < 16) {k j : Nat} (h0 : ringN A S v k = 0) (hj : k ≤ j) : ringN A S v j = 0 := bit_ext fun u => by
  rw [ringN_bit hS]
  simp only [Nat.zero_testBit, Bool.false_eq_true, iff_false]
  intro h
  obtain ⟨w, hw⟩ := atD_chain h k hj
  have := (ringN_bit hS k w).2 hw
  rw [h0] at this
  simp at this
theorem visTo_end (hS : ∀ u, S u = true → u < 16) {k : Nat} (h0 : ringN A S v k = 0) : ∀ j, k ≤ j → visTo A S v j = visTo A S v k := by
  intro j hj
  induction j with
  | zero => obtain rfl : k = 0 := by omega
            rfl
  | succ j ih =>
    by_cases e : k = j + 1
    · subst e; rfl
    · rw [visTo, ih (by omega), ringN_end hS h0 (by omega), listM_zero]; simp
theorem ringN_some (hS : ∀ u, S u = true → u < 16) {k : Nat} (h0 : ringN A S v k ≠ 0) : ∃ u, AtD A S v k u := by
  apply Classical.byContradiction
  intro hn
  apply h0
  refine bit_ext fun u => ?_
  rw [ringN_bit hS]
  simp only [Nat.zero_testBit, Bool.false_eq_true, iff_false]
  exact fun h => hn ⟨u, h⟩
theorem ringN_pos (hS : ∀ u, S u = true → u < 16) {k : Nat} (h0 : ringN A S v k ≠ 0) : 0 < (listM (ringN A S v k)).length := by
  obtain ⟨u, hu⟩ := ringN_some hS h0
  have : (u : Int) ∈ listM (ringN A S v k) := (listM_mem _ _).2 ⟨u, hS u (wk_in hu.1), (ringN_bit hS k u).2 hu, rfl⟩
  exact List.length_pos_of_mem this
theorem ringN_lt16 (hS : ∀ u, S u = true → u < 16) {k : Nat} (h0 : ringN A S v k ≠ 0) : k < 16 := by
  have : ∃ u, AtD A S v k u := by
    apply Classical.byContradiction
    intro hn
    apply h0
    refine bit_ext fun u => ?_
    rw [ringN_bit hS]
    simp only [Nat.zero_testBit, Bool.false_eq_true, iff_false]
    exact fun h => hn ⟨u, h⟩
  obtain ⟨u, hu⟩ := this
  exact atD_lt hS hu
theorem visTo_prefix {k j : Nat} (h : k ≤ j) : visTo A S v k <+: visTo A S v j := by
  induction j with
  | zero => obtain rfl : k = 0 := by omega
            exact List.prefix_refl _
  | succ j ih =>
    by_cases e : k = j + 1
    · subst e; exact List.prefix_refl _
    · rw [visTo]; exact (ih (by omega)).trans (List.prefix_append _ _)
theorem visTo_mem (hS : ∀ u, S u = true → u < 16) {k : Nat} {p : Nat × Nat} : p ∈ visTo A S v k ↔ p.2 < k ∧ AtD A S v p.2 p.1 := by
  induction k with
  | zero => simp [visTo]
  | succ k ih =>
    rw [visTo, List.mem_append, ih, List.mem_map]
    constructor
    · rintro (h | ⟨x, hx, rfl⟩)
      · exact ⟨by omega, h.2⟩
      · obtain ⟨i, hi, hb, rfl⟩ := (listM_mem _ _).1 hx
        exact ⟨by simp, by rw [Int.toNat_natCast]; exact (ringN_bit hS k i).1 hb⟩
    · rintro ⟨h1, h2⟩
      by_cases e : p.2 = k
      · right
        obtain ⟨a, b⟩ := p
        dsimp only at e h2
        subst e
        exact ⟨(a : Int), (listM_mem _ _).2 ⟨a, hS a (wk_in h2.1), (ringN_bit hS b a).2 h2, rfl⟩, by simp⟩
      · left; exact ⟨by omega, h2⟩
end

end Go.Proofs.Ytmfolclpddoplaa

/- Walks: the iterator over the vertices that can be reached. -/
namespace Go.Proofs.Ytmfolclpddoplaa
open Go.RowKit Go.Shelf
attribute [local go_sem] Oper.semAt_some

/-- Two numbers, as yield takes them. -/
def encP (p : Nat × Nat) : Array Value := #[.int .i64 (p.1 : Int), .int .i64 (p.2 : Int)]
/-- Who is near whom, by masks. -/
def nearM (M : Nat → Nat) (a b : Nat) : Bool := (M a).testBit b
/-- Who is in a mask. -/
def bitS (K : Nat) (u : Nat) : Bool := K.testBit u
theorem bitS_lt {K : Nat} (hK : K < 65536) : ∀ u, bitS K u = true → u < 16 := fun u hu => Nat.lt_of_not_le fun hle => by
  unfold bitS at hu
  rw [Nat.testBit_lt_two_pow (Nat.lt_of_lt_of_le hK (Nat.pow_le_pow_right (n := 2) (by omega) hle : 2 ^ 16 ≤ 2 ^ u))] at hu; cases hu

/-- What the iterator reads. -/
structure VisIn (w : World) (pf pw pt bn n : Nat) (M : Nat → Nat) (v K : Nat) : Prop where
  f : w.cell? ⟨pf, 0, none⟩ = some (.int .i64 (v : Int))
  k : w.cell? ⟨pw, 0, none⟩ = some (.int .u32 (K : Int))
  t : w.cell? ⟨pt, 0, none⟩ = some (.pointer (some ⟨bn, 0, none⟩))
  net : NetAt w bn n M
theorem VisIn.keep {w w' : World} {pf pw pt bn n : Nat} {M : Nat → Nat} {v K : Nat} (h : VisIn w pf pw pt bn n M v K) (hb : Below w.heap.size w w') : VisIn w' pf pw pt bn n M v K :=
  ⟨cell_keep hb h.f, cell_keep hb h.k, cell_keep hb h.t, h.net.keep hb⟩
theorem VisIn.but {T : Nat → Prop} {w w' : World} {pf pw pt bn n : Nat} {M : Nat → Nat} {v K : Nat} (h : VisIn w pf pw pt bn n M v K) (hb : KeepsBut T w w') (h1 : ¬ T pf) (h2 : ¬ T pw) (h3 : ¬ T pt) (h4 : ¬ T bn) : VisIn w' pf pw pt bn n M v K :=
  ⟨hb.cell h1 h.f, hb.cell h2 h.k, hb.cell h3 h.t, hb.cell h4 h.net.1, fun i hi => hb.cell h4 (h.net.2 i hi)⟩
theorem VisIn.lt {w : World} {pf pw pt bn n : Nat} {M : Nat → Nat} {v K : Nat} (h : VisIn w pf pw pt bn n M v K) : pf < w.heap.size ∧ pw < w.heap.size ∧ pt < w.heap.size ∧ bn < w.heap.size :=
  ⟨block_lt_of_cell h.f, block_lt_of_cell h.k, block_lt_of_cell h.t, block_lt_of_cell h.net.1⟩

end Go.Proofs.Ytmfolclpddoplaa
