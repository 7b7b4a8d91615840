/- The texts SortLay, H1, H2, K3, joined. -/
import Derived.Shelf.SortM.Plain
import Derived.Shelf.SortM.SortNone
import Derived.Test.YtikfbfclbmlopaaChecked
import Derived.Test.YtikfbfclbmlopaaF2
import Derived.Sort.OwnSortedInts
import Derived.Test.YtikfbfclbmlopaaE2
import Derived.Test.YtikfbfclbmlopaaF7
import Derived.Test.YtikfbfclbmlopaaF9

/- The shelf's contract of slices.Sort laid at the program's own function (written by tools/layplain.py; anew for each seat). -/
namespace Go.Proofs.Ytikfbfclbmlopaa
open Go.Shelf

def Try.lsort_ren : Go.Shelf.Ren := ⟨fun | 5 => 83 | 8 => 126 | 7 => 125 | 19 => 147 | 20 => 148 | 10 => 138 | 11 => 139 | 12 => 140 | 13 => 141 | 14 => 142 | 15 => 143 | 16 => 144 | 17 => 145 | 18 => 146 | 30 => 151 | 31 => 152 | 32 => 153 | 33 => 154 | 34 => 155 | 35 => 156 | 40 => 157 | n => n, fun | 23 => 34 | 25 => 2 | 3 => 3 | 32 => 89 | 22 => 34 | 0 => 0 | 44 => 67 | 46 => 44 | 4 => 4 | 36 => 121 | 35 => 120 | 41 => 114 | 5 => 5 | 9 => 9 | 53 => 127 | 57 => 131 | 63 => 133 | 64 => 134 | n => n, fun | n => n⟩
theorem Try.lsort : Go.Proofs.SlLaysM.n5 Try.prog Try.lsort_ren := {
  mixed := by kernel_rfl
  f5 := ⟨Try.f83.name, by decide, Try.func83.trans (congrArg some (by kernel_rfl))⟩
  f7 := ⟨Try.f125.name, by decide, Try.func125.trans (congrArg some (by kernel_rfl))⟩
  f8 := Try.func126.trans (congrArg some (by kernel_rfl))
  f10 := ⟨Try.f138.name, by decide, Try.func138.trans (congrArg some (by kernel_rfl))⟩
  f11 := ⟨Try.f139.name, by decide, Try.func139.trans (congrArg some (by kernel_rfl))⟩
  f12 := ⟨Try.f140.name, by decide, Try.func140.trans (congrArg some (by kernel_rfl))⟩
  f13 := ⟨Try.f141.name, by decide, Try.func141.trans (congrArg some (by kernel_rfl))⟩
  f14 := ⟨Try.f142.name, by decide, Try.func142.trans (congrArg some (by kernel_rfl))⟩
  f15 := ⟨Try.f143.name, by decide, Try.func143.trans (congrArg some (by kernel_rfl))⟩
  f16 := ⟨Try.f144.name, by decide, Try.func144.trans (congrArg some (by kernel_rfl))⟩
  f17 := ⟨Try.f145.name, by decide, Try.func145.trans (congrArg some (by kernel_rfl))⟩
  f18 := ⟨Try.f146.name, by decide, Try.func146.trans (congrArg some (by kernel_rfl))⟩
  f19 := Try.func147.trans (congrArg some (by kernel_rfl))
  f20 := Try.func148.trans (congrArg some (by kernel_rfl))
  f30 := ⟨Try.f151.name, by decide, Try.func151.trans (congrArg some (by kernel_rfl))⟩
  f31 := Try.func152.trans (congrArg some (by kernel_rfl))
  f32 := Try.func153.trans (congrArg some (by kernel_rfl))
  f33 := ⟨Try.f154.name, by decide, Try.func154.trans (congrArg some (by kernel_rfl))⟩
  f34 := ⟨Try.f155.name, by decide, Try.func155.trans (congrArg some (by kernel_rfl))⟩
  f35 := ⟨Try.f156.name, by decide, Try.func156.trans (congrArg some (by kernel_rfl))⟩
  f40 := ⟨Try.f157.name, by decide, Try.func157.trans (congrArg some (by kernel_rfl))⟩
  t0 := Try.underlying0
  a0 := Try.isAgg0
  z0 := Try.sizeOf0
  v0 := Try.zeroValue0
  t3 := Try.underlying3
  a3 := Try.isAgg3
  z3 := Try.sizeOf3
  v3 := Try.zeroValue3
  t4 := Try.underlying4
  a4 := Try.isAgg4
  z4 := Try.sizeOf4
  v4 := Try.zeroValue4
  t5 := Try.underlying5
  a5 := Try.isAgg5
  z5 := Try.sizeOf5
  v5 := Try.zeroValue5
  t9 := Try.underlying9
  a9 := Try.isAgg9
  z9 := Try.sizeOf9
  v9 := Try.zeroValue9
  t22 := Try.underlying34
  a22 := Try.isAgg34
  z22 := Try.sizeOf34
  v22 := Try.zeroValue34
  t23 := Try.underlying34
  a23 := Try.isAgg34
  z23 := Try.sizeOf34
  v23 := Try.zeroValue34
  t25 := Try.underlying2
  a25 := Try.isAgg2
  z25 := Try.sizeOf2
  v25 := Try.zeroValue2
  t32 := Try.underlying89
  a32 := Try.isAgg89
  z32 := Try.sizeOf89
  v32 := Try.zeroValue89
  t35 := Try.underlying120
  a35 := Try.isAgg120
  z35 := Try.sizeOf120
  v35 := Try.zeroValue120
  t36 := Try.underlying121
  a36 := Try.isAgg121
  z36 := Try.sizeOf121
  v36 := Try.zeroValue121
  t41 := Try.underlying114
  a41 := Try.isAgg114
  z41 := Try.sizeOf114
  v41 := Try.zeroValue114
  t44 := Try.underlying67
  a44 := Try.isAgg67
  z44 := Try.sizeOf67
  v44 := Try.zeroValue67
  t46 := Try.underlying44
  a46 := Try.isAgg44
  z46 := Try.sizeOf44
  v46 := Try.zeroValue44
  t53 := Try.underlying127
  a53 := Try.isAgg127
  z53 := Try.sizeOf127
  v53 := Try.zeroValue127
  t57 := Try.underlying131
  a57 := Try.isAgg131
  z57 := Try.sizeOf131
  v57 := Try.zeroValue131
  t63 := Try.underlying133
  a63 := Try.isAgg133
  z63 := Try.sizeOf133
  v63 := Try.zeroValue133
  t64 := Try.underlying134
  a64 := Try.isAgg134
  z64 := Try.sizeOf134
  v64 := Try.zeroValue134 }

end Go.Proofs.Ytikfbfclbmlopaa

/- A row of the call's own, sorted by the library. -/
namespace Go.Proofs.Ytikfbfclbmlopaa
open Go.RowKit

def sorted (xs : List Int) : List Int := xs.mergeSort (fun x y => decide (x ≤ y))
theorem sorted_len (xs : List Int) : (sorted xs).length = xs.length := List.length_mergeSort _

theorem sort_own (g n cap B : Nat) (xs : List Int) (w : World) (h : OwnRow 2 w B (.slice (some ⟨g, 0, none⟩) n cap) xs) (hl : xs.length ≤ 1000000) :
    Calls Try.prog 83 #[.slice (some ⟨g, 0, none⟩) n cap] w fun e w' => e = .returned (.tuple #[]) ∧ OwnRow 2 w' B (.slice (some ⟨g, 0, none⟩) n cap) (sorted xs) ∧ Below B w w' := by
  have hI := h.1
  have hM := h.2.1
  obtain ⟨_, h3⟩ := h.owns
  rcases h3 with ⟨e, _⟩ | ⟨g', cap', cur, e, hg, hh, l1, l2, hs, ht⟩
  · cases e
  simp only [Value.slice.injEq, Option.some.injEq, Addr.mk.injEq, and_true] at e
  obtain ⟨rfl, rfl, rfl⟩ := e
  have hlt : g < w.heap.size := (Array.getElem?_eq_some_iff.1 hh).1
  have hc := AnyM.slices_Sort_int Try.lsort g 0 cap xs w (Go.holds_of_blockI hh (by simpa using ht)) hlt (by omega)
  change Calls Try.prog 83 _ _ _ at hc
  refine hc.mono ?_
  rintro e w' ⟨rfl, q, os, rfl⟩
  refine ⟨rfl, ?_, ?_⟩
  · refine OwnRow.of_ownsRow (n := xs.length) (Go.ownsRow_sortedI (sorted_len xs) hg hh l1 l2 hs) (by rw [sorted_len]; exact hM) ?_
    intro x hx
    exact hI x ((List.mergeSort_perm xs _).mem_iff.1 hx)
  · obtain ⟨a1, a2, a3, a4, a5⟩ := Go.grownBy_sortedI (w := w) (g := g) (n := q) (os := os) (xs.mergeSort (fun x y => decide (x ≤ y))).toArray
    exact ⟨a1, a2, a3, a4, fun k hk => a5 k (by omega) (fun e => by cases e; omega)⟩

end Go.Proofs.Ytikfbfclbmlopaa

/- Plain facts: the degrees of a graph, counted and sorted. -/
namespace Go.Proofs.Ytikfbfclbmlopaa
open Go.RowKit

theorem listTo_bits (M k : Nat) : (listTo M k).length = bitsTo M k := by
  induction k with
  | zero => rfl
  | succ k ih =>
    rw [listTo_succ, List.length_append, ih]
    show _ = bitsTo M k + _
    by_cases h : M.testBit k = true
    · simp [h]
    · simp [h]

theorem row_listM {L : List (List Int)} (hG : GraphP L) {u : Nat} (hu : u < L.length) : listM (rowM L u) = nthR L u := by
  have hs := (hG.2.1 u hu).1
  have hp : SetP (nthR L u) 16 := SetP.mk hs.pairwise (fun x hx => by have := hs.bounds x hx; have := hG.1; omega)
  refine sets_eq (listM_set _) hp (fun z => ?_)
  rw [listM_mem, rowM, if_pos hu]
  constructor
  · rintro ⟨i, hi, hb, rfl⟩
    obtain ⟨j, hj, hz⟩ := (maskTo_bit _ _ i (fun j hj => (hs.bounds _ (nth_mem hj)).1)).1 hb
    rw [← hz]; exact nth_mem hj
  · intro hz
    have hb := hp.bounds z hz
    obtain ⟨j, hj, hjz⟩ := List.mem_iff_getElem.1 hz
    refine ⟨z.toNat, by omega, (maskTo_bit _ _ _ (fun j hj => (hs.bounds _ (nth_mem hj)).1)).2 ⟨j, hj, ?_⟩, by omega⟩
    rw [nth_eq hj, hjz]; omega

theorem row_bits {L : List (List Int)} (hG : GraphP L) {u : Nat} (hu : u < L.length) : bitsTo (rowM L u) 16 = (nthR L u).length := by
  rw [← row_listM hG hu, ← listTo_bits]; rfl

theorem sumTo_lt {f : Nat → Nat} {u : Nat} : ∀ n, (∀ i, i < n → f i ≤ 1) → u < n → f u = 0 → sumTo f n < n
  | 0, _, h, _ => by omega
  | n + 1, h, hu, h0 => by
    have hle : ∀ m, (∀ i, i < m → f i ≤ 1) → sumTo f m ≤ m := by
      intro m
      induction m with
      | zero => intro _; simp [sumTo]
      | succ m ih => intro hm; have := ih (fun i hi => hm i (by omega)); have := hm m (by omega); simp only [sumTo]; omega
    by_cases e : u = n
    · subst e
      have := hle u (fun i hi => h i (by omega))
      simp only [sumTo]; omega
    · have := sumTo_lt n (fun i hi => h i (by omega)) (by omega) h0
      have := h n (by omega)
      simp only [sumTo]; omega
theorem row_len_lt {L : List (List Int)} (hG : GraphP L) {u : Nat} (hu : u < L.length) : (nthR L u).length < L.length := by
  rw [← row_bits hG hu, deg_bits hG hu]
  exact sumTo_lt _ (fun i _ => by unfold adj; split <;> omega) hu (adj_diag hG u hu)

/-- The rows' lengths. -/
def lensL (L : List (List Int)) : List Int := (List.range L.length).map (fun u => ((nthR L u).length : Int))
theorem lensL_len (L : List (List Int)) : (lensL L).length = L.length := by simp [lensL]
/-- How many of the first v rows have length d. -/
def cnt (L : List (List Int)) (d : Nat) : Nat → Nat
  | 0 => 0
  | v + 1 => cnt L d v + if (nthR L v).length = d then 1 else 0
theorem cnt_le (L : List (List Int)) (d v : Nat) : cnt L d v ≤ v := by
  induction v with
  | zero => simp [cnt]
  | succ v ih => simp only [cnt]; split <;> omega
/-- The degrees less than d, rising. -/
def degTo (L : List (List Int)) : Nat → List Int
  | 0 => []
  | d + 1 => degTo L d ++ List.replicate (cnt L d L.length) (d : Int)
theorem degTo_len (L : List (List Int)) (d : Nat) : (degTo L d).length ≤ L.length * d := by
  induction d with
  | zero => simp [degTo]
  | succ d ih => have := cnt_le L d L.length; simp only [degTo, List.length_append, List.length_replicate, Nat.mul_succ]; omega
theorem degTo_lt (L : List (List Int)) (d : Nat) : ∀ x ∈ degTo L d, 0 ≤ x ∧ x < d := by
  induction d with
  | zero => simp [degTo]
  | succ d ih =>
    intro x hx
    rcases List.mem_append.1 hx with h | h
    · have := ih x h; omega
    · have := List.eq_of_mem_replicate h; omega
theorem degTo_rises (L : List (List Int)) (d : Nat) : (degTo L d).Pairwise (· ≤ ·) := by
  induction d with
  | zero => simp [degTo]
  | succ d ih =>
    simp only [degTo]
    rw [List.pairwise_append]
    refine ⟨ih, ?_, ?_⟩
    · rw [List.pairwise_replicate]; right; omega
    · intro a ha b hb
      have := degTo_lt L d a ha
      have := List.eq_of_mem_replicate hb
      omega
theorem degTo_count (L : List (List Int)) (d e : Nat) : (degTo L d).count (e : Int) = if e < d then cnt L e L.length else 0 := by
  induction d with
  | zero => simp [degTo]
  | succ d ih =>
    simp only [degTo]
    rw [List.count_append, ih, List.count_replicate]
    by_cases h1 : e = d
    · subst h1; simp
    · have : ¬ ((d : Int) == (e : Int)) = true := by simp; omega
      simp only [this]
      by_cases h2 : e < d
      · simp [h2, Nat.lt_succ_of_lt h2]
      · simp [h2, show ¬ e < d + 1 from by omega]
theorem lens_count (L : List (List Int)) (e n : Nat) : ((List.range n).map (fun u => ((nthR L u).length : Int))).count (e : Int) = cnt L e n := by
  induction n with
  | zero => simp [cnt]
  | succ n ih =>
    rw [List.range_succ, List.map_append, List.count_append, ih]
    simp only [cnt, List.map_cons, List.map_nil]
    congr 1
    rw [List.count_singleton]
    by_cases h : (nthR L n).length = e
    · simp [h]
    · have : ¬ (((nthR L n).length : Int) == (e : Int)) = true := by simp; omega
      simp only [this, h]
      rfl

theorem eq_of_rises : ∀ {xs ys : List Int}, xs.Perm ys → xs.Pairwise (· ≤ ·) → ys.Pairwise (· ≤ ·) → xs = ys
  | [], ys, h, _, _ => (List.Perm.nil_eq h)
  | a :: xs, [], h, _, _ => by simp at h
  | a :: xs, b :: ys, h, hx, hy => by
    rw [List.pairwise_cons] at hx hy
    have e : a = b := by
      have h1 : a ∈ b :: ys := h.mem_iff.1 (List.mem_cons_self ..)
      have h2 : b ∈ a :: xs := h.mem_iff.2 (List.mem_cons_self ..)
      rcases List.mem_cons.1 h1 with h1 | h1
      · exact h1
      · rcases List.mem_cons.1 h2 with h2 | h2
        · exact h2.symm
        · have := hx.1 b h2; have := hy.1 a h1; omega
    subst e
    rw [eq_of_rises (List.perm_cons a |>.1 h) hx.2 hy.2]

theorem degTo_sorted {L : List (List Int)} (hG : GraphP L) : sorted (lensL L) = degTo L L.length := by
  refine eq_of_rises (((List.mergeSort_perm _ _).trans ?_)) ?_ (degTo_rises _ _)
  · rw [List.perm_iff_count]
    intro x
    by_cases hx : 0 ≤ x
    · obtain ⟨e, rfl⟩ : ∃ e : Nat, x = (e : Int) := ⟨x.toNat, by omega⟩
      rw [degTo_count, lensL, lens_count]
      by_cases h : e < L.length
      · rw [if_pos h]
      · rw [if_neg h]
        have : ∀ n, n ≤ L.length → cnt L e n = 0 := by
          intro n
          induction n with
          | zero => intro _; rfl
          | succ n ih => intro hn; have := row_len_lt hG (show n < L.length by omega); simp only [cnt, ih (by omega)]; rw [if_neg (by omega)]
        exact this _ (Nat.le_refl _)
    · rw [List.count_eq_zero.2, List.count_eq_zero.2]
      · intro h; have := degTo_lt _ _ x h; omega
      · intro h; simp only [lensL, List.mem_map] at h; obtain ⟨u, _, rfl⟩ := h; omega
  · have := List.pairwise_mergeSort (le := fun x y : Int => decide (x ≤ y)) (by intro a b c h1 h2; simp at h1 h2 ⊢; omega) (by intro a b; simp; omega) (lensL L)
    exact this.imp (by intro a b h; simpa using h)

/-- The degrees. -/
def degL (L : List (List Int)) : List Int := if GraphP L then degTo L L.length else []

theorem degL_small (L : List (List Int)) : (degL L).length ≤ 1048576 := by
  unfold degL
  by_cases h : GraphP L
  · rw [if_pos h]
    have h1 := degTo_len L L.length
    have h2 : L.length * L.length ≤ 16 * 16 := Nat.mul_le_mul h.1.2 h.1.2
    omega
  · rw [if_neg h]; simp

end Go.Proofs.Ytikfbfclbmlopaa

/- Plain facts: a graph is the graph of its edges; its degrees sum to twice their number. -/
namespace Go.Proofs.Ytikfbfclbmlopaa
open Go.RowKit

theorem edgesRow_mem {u : Nat} {row : List Int} {k : Nat} (hk : k ≤ row.length) (e : List Int) : e ∈ edgesRow u row k ↔ ∃ j, j < k ∧ (u : Int) < nth row j ∧ e = [(u : Int), nth row j] := by
  induction k with
  | zero => simp [edgesRow]
  | succ k ih =>
    simp only [edgesRow, List.mem_append, ih (by omega)]
    constructor
    · rintro (⟨j, hj, h1, h2⟩ | h)
      · exact ⟨j, by omega, h1, h2⟩
      · by_cases h1 : (u : Int) < nth row k
        · rw [if_pos h1] at h; exact ⟨k, by omega, h1, by simpa using h⟩
        · rw [if_neg h1] at h; simp at h
    · rintro ⟨j, hj, h1, h2⟩
      by_cases e1 : j = k
      · subst e1; right; rw [if_pos h1, h2]; simp
      · left; exact ⟨j, by omega, h1, h2⟩
theorem edgesTo_mem {L : List (List Int)} (k : Nat) (e : List Int) : e ∈ edgesTo L k ↔ ∃ u, u < k ∧ ∃ x ∈ nthR L u, (u : Int) < x ∧ e = [(u : Int), x] := by
  induction k with
  | zero => simp [edgesTo]
  | succ k ih =>
    simp only [edgesTo, List.mem_append, ih, edgesRow_mem (Nat.le_refl _)]
    constructor
    · rintro (⟨u, hu, x, hx, h1, h2⟩ | ⟨j, hj, h1, h2⟩)
      · exact ⟨u, by omega, x, hx, h1, h2⟩
      · exact ⟨k, by omega, _, nth_mem hj, h1, h2⟩
    · rintro ⟨u, hu, x, hx, h1, h2⟩
      by_cases e1 : u = k
      · subst e1
        obtain ⟨j, hj, rfl⟩ := List.mem_iff_getElem.1 hx
        right; exact ⟨j, hj, by rw [nth_eq hj]; exact h1, by rw [nth_eq hj]; exact h2⟩
      · left; exact ⟨u, by omega, x, hx, h1, h2⟩

theorem graph_back {L : List (List Int)} (hG : GraphP L) {u v : Nat} (hu : u < L.length) (h : (v : Int) ∈ nthR L u) : (u : Int) ∈ nthR L v := by
  obtain ⟨j, hj, e⟩ := List.mem_iff_getElem.1 h
  have := hG.2.2 u hu j hj
  rw [nth_eq hj, e] at this
  exact (hasB_mem _ _).1 (by simpa using this)
theorem graph_range {L : List (List Int)} (hG : GraphP L) {u : Nat} (hu : u < L.length) {x : Int} (h : x ∈ nthR L u) : 0 ≤ x ∧ x < L.length ∧ x ≠ (u : Int) := by
  have hb := (hG.2.1 u hu).1.bounds x h
  refine ⟨hb.1, by omega, fun e => ?_⟩
  have h2 := (hG.2.1 u hu).2
  rw [e] at h
  rw [(hasB_mem _ _).2 h] at h2
  cases h2

theorem edge_ok {L : List (List Int)} (hG : GraphP L) {e : List Int} (h : e ∈ edgesTo L L.length) : EdgeP e L.length := by
  obtain ⟨u, hu, x, hx, h1, rfl⟩ := (edgesTo_mem _ _).1 h
  have hr := graph_range hG hu hx
  exact ⟨rfl, by show 0 ≤ (u : Int); omega, h1, by show x < _; omega⟩
theorem sumTo_le {f : Nat → Nat} {B : Nat} : ∀ n, (∀ i, i < n → f i ≤ B) → sumTo f n ≤ B * n
  | 0, _ => by simp [sumTo]
  | n + 1, h => by have := sumTo_le n (fun i hi => h i (by omega)); have := h n (by omega); simp only [sumTo, Nat.mul_succ]; omega
theorem edges_le {L : List (List Int)} (hG : GraphP L) : (edgesTo L L.length).length ≤ 120 := by
  have h1 := bits_edges hG
  have h2 := sumTo_le (f := fun i => bitsTo (rowM L i) 16) (B := 15) 16 (fun i hi => by
    by_cases h : i < L.length
    · have := row_len_lt hG h; have := hG.1; show bitsTo (rowM L i) 16 ≤ 15; rw [row_bits hG h]; omega
    · have e : rowM L i = 0 := by unfold rowM; exact if_neg h
      show bitsTo (rowM L i) 16 ≤ 15
      rw [e, bitsTo_zero]; omega)
  omega
theorem of_edges {L : List (List Int)} (hG : GraphP L) : OfP L.length (edgesTo L L.length) := by
  refine ⟨by have := hG.1; simp [inB]; omega, edges_le hG, fun k hk => edge_ok hG (nthR_mem hk)⟩

/-- Which vertices the first k edges join to i. -/
theorem edgeM_bit {E : List (List Int)} {n : Int} (hn : n ≤ 16) : ∀ k, (∀ j, j < k → EdgeP (nthR E j) n) → ∀ i z : Nat, (edgeM E k i).testBit z = true ↔ ∃ j, j < k ∧ ((nth (nthR E j) 0 = (i : Int) ∧ nth (nthR E j) 1 = (z : Int)) ∨ (nth (nthR E j) 0 = (z : Int) ∧ nth (nthR E j) 1 = (i : Int)))
  | 0, _, i, z => by simp [edgeM]
  | k + 1, h, i, z => by
    have ih := edgeM_bit hn k (fun j hj => h j (by omega))
    obtain ⟨_, h1, h2, h3⟩ := h k (by omega)
    obtain ⟨p, hp⟩ : ∃ p : Nat, nth (nthR E k) 0 = (p : Int) := ⟨(nth (nthR E k) 0).toNat, by omega⟩
    obtain ⟨q, hq⟩ : ∃ q : Nat, nth (nthR E k) 1 = (q : Int) := ⟨(nth (nthR E k) 1).toNat, by omega⟩
    have hpq : p ≠ q := by omega
    show (linkM (edgeM E k) (nth (nthR E k) 0).toNat (nth (nthR E k) 1).toNat i).testBit z = true ↔ _
    rw [hp, hq, Int.toNat_natCast, Int.toNat_natCast]
    have split : (∃ j, j < k + 1 ∧ ((nth (nthR E j) 0 = (i : Int) ∧ nth (nthR E j) 1 = (z : Int)) ∨ (nth (nthR E j) 0 = (z : Int) ∧ nth (nthR E j) 1 = (i : Int)))) ↔ ((edgeM E k i).testBit z = true ∨ ((p = i ∧ q = z) ∨ (p = z ∧ q = i))) := by
      rw [ih i z]
      constructor
      · rintro ⟨j, hj, hh⟩
        by_cases e : j = k
        · subst e; rw [hp, hq] at hh; right; omega
        · left; exact ⟨j, by omega, hh⟩
      · rintro (⟨j, hj, hh⟩ | hh)
        · exact ⟨j, by omega, hh⟩
        · exact ⟨k, by omega, by rw [hp, hq]; omega⟩
    rw [split]
    unfold linkM
    by_cases e1 : i = q
    · subst e1
      rw [if_pos rfl, Nat.testBit_or, Bool.or_eq_true, Nat.testBit_two_pow, decide_eq_true_iff]
      constructor
      · rintro (h | h)
        · exact Or.inl h
        · right; right; exact ⟨h, rfl⟩
      · rintro (h | h | h)
        · exact Or.inl h
        · exact absurd h.1 hpq
        · exact Or.inr h.1
    · rw [if_neg e1]
      by_cases e2 : i = p
      · subst e2
        rw [if_pos rfl, Nat.testBit_or, Bool.or_eq_true, Nat.testBit_two_pow, decide_eq_true_iff]
        constructor
        · rintro (h | h)
          · exact Or.inl h
          · right; left; exact ⟨rfl, h⟩
        · rintro (h | h | h)
          · exact Or.inl h
          · exact Or.inr h.2
          · omega
      · rw [if_neg e2]
        constructor
        · exact Or.inl
        · rintro (h | h | h)
          · exact h
          · omega
          · omega

theorem of_graph {L : List (List Int)} (hG : GraphP L) : ofL L.length (edgesTo L L.length) = L := by
  have hz := hG.1
  have hof := of_edges hG
  rw [ofL, if_pos hof]
  apply nthR_ext
  · rw [maskL_len]; simp
  · intro i hi
    rw [maskL_len] at hi
    rw [maskL_nth _ hi]
    have hi' : i < L.length := by simpa using hi
    have hs := (hG.2.1 i hi').1
    have hp : SetP (nthR L i) 16 := SetP.mk hs.pairwise (fun x hx => by have := hs.bounds x hx; omega)
    refine sets_eq (listM_set _) hp (fun z => ?_)
    rw [listM_mem]
    have hbit := edgeM_bit (n := L.length) (by omega) (edgesTo L L.length).length hof.2.2 i
    constructor
    · rintro ⟨y, hy, hb, rfl⟩
      obtain ⟨j, hj, hh⟩ := (hbit y).1 hb
      obtain ⟨u, hu, x, hx, h1, he⟩ := (edgesTo_mem _ _).1 (nthR_mem hj)
      rw [he] at hh
      have hh : ((u : Int) = (i : Int) ∧ x = (y : Int)) ∨ ((u : Int) = (y : Int) ∧ x = (i : Int)) := hh
      rcases hh with ⟨ha, hxy⟩ | ⟨ha, hxy⟩
      · have : u = i := by omega
        subst this; rw [← hxy]; exact hx
      · have : u = y := by omega
        subst this; subst hxy; exact graph_back hG hu hx
    · intro hzr
      have hr := graph_range hG hi' hzr
      obtain ⟨y, rfl⟩ : ∃ y : Nat, z = (y : Int) := ⟨z.toNat, by omega⟩
      refine ⟨y, by omega, (hbit y).2 ?_, rfl⟩
      by_cases hiy : i < y
      · obtain ⟨j, hj, he⟩ := List.mem_iff_getElem.1 ((edgesTo_mem L.length _).2 ⟨i, hi', (y : Int), hzr, by omega, rfl⟩)
        exact ⟨j, hj, Or.inl (by rw [nthR_eq hj, he]; exact ⟨rfl, rfl⟩)⟩
      · have hyl : y < L.length := by omega
        obtain ⟨j, hj, he⟩ := List.mem_iff_getElem.1 ((edgesTo_mem L.length _).2 ⟨y, hyl, (i : Int), graph_back hG hi' hzr, by omega, rfl⟩)
        exact ⟨j, hj, Or.inr (by rw [nthR_eq hj, he]; exact ⟨rfl, rfl⟩)⟩

theorem perm_sum {xs ys : List Int} (h : xs.Perm ys) : xs.sum = ys.sum := by
  induction h with
  | nil => rfl
  | cons x _ ih => simp only [List.sum_cons, ih]
  | swap x y l => simp only [List.sum_cons]; omega
  | trans _ _ ih1 ih2 => exact ih1.trans ih2
theorem range_sum (f : Nat → Nat) (n : Nat) : ((List.range n).map (fun u => (f u : Int))).sum = (sumTo f n : Int) := by
  induction n with
  | zero => simp [sumTo]
  | succ n ih => rw [List.range_succ, List.map_append, List.sum_append, ih]; simp [sumTo]
theorem deg_sum {L : List (List Int)} (hG : GraphP L) : (degTo L L.length).sum = 2 * ((edgesTo L L.length).length : Int) := by
  have hz := hG.1
  rw [← degTo_sorted hG, sorted, perm_sum (List.mergeSort_perm _ _), lensL, range_sum]
  have h1 := bits_edges hG
  have h2 : sumTo (fun u => (nthR L u).length) L.length = sumTo (fun i => bitsTo (rowM L i) 16) L.length := sumTo_congr (fun u hu => (row_bits hG hu).symm)
  have h3 : sumTo (fun i => bitsTo (rowM L i) 16) 16 = sumTo (fun i => bitsTo (rowM L i) 16) L.length := by
    have e : 16 = L.length + (16 - L.length) := by omega
    have := sumTo_split (fun i => bitsTo (rowM L i) 16) L.length (16 - L.length) (fun i h1 _ => by
      have : rowM L i = 0 := by unfold rowM; exact if_neg (by omega)
      show bitsTo (rowM L i) 16 = 0
      rw [this, bitsTo_zero])
    rw [← e] at this
    exact this
  rw [h2, ← h3, h1]; omega
theorem deg_len {L : List (List Int)} (hG : GraphP L) : (degTo L L.length).length = L.length := by
  rw [← degTo_sorted hG, sorted_len, lensL_len]

end Go.Proofs.Ytikfbfclbmlopaa
