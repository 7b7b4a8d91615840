/- The texts A1, A2, A3, A4, A5, joined. -/
import Derived.Test.YtojbaepcflkgeaaDoorProg
import Derived.Test.YtojbaepcflkgeaaDoorBase
import Derived.Test.YtojbaepcflkgeaaDoorOwn

/- Walks of the laws' own helpers: sizes. -/
namespace Go.Proofs.YtojbaepcflkgeaaDoor
open Go.RowKit

/-- What szInt64S answers. -/
def szRow (n : Nat) (left : Int) : Int := if left - n < 0 then -1 else left - n
/-- After k rows. -/
def szTo (L : List (List Int)) (left : Int) : Nat → Int
  | 0 => left
  | k + 1 => szRow (nthR L k).length (szTo L left k)

end Go.Proofs.YtojbaepcflkgeaaDoor

namespace Go.Proofs.YtojbaepcflkgeaaDoor
open Go.RowKit

theorem szRow_neg {n : Nat} {left : Int} (h : szRow n left < 0) : szRow n left = -1 := by
  unfold szRow at *; split at h <;> simp_all
theorem szRow_le {n : Nat} {left : Int} (h : 0 ≤ left) : szRow n left ≤ left := by
  unfold szRow; split <;> omega

/-- What szInt64SS answers: the row of the outer slice first, then the rows; -1 from the first that is too much. -/
def szGrid (L : List (List Int)) (left : Int) : Int := if left - L.length < 0 then -1 else
  (List.range L.length).foldl (fun l k => if l < 0 then -1 else szRow (nthR L k).length l) (left - L.length)

/-- The fold's state after k rows. -/
def szSt (L : List (List Int)) (left : Int) (k : Nat) : Int := (List.range k).foldl (fun l k => if l < 0 then -1 else szRow (nthR L k).length l) left
theorem szSt_succ (L : List (List Int)) (left : Int) (k : Nat) : szSt L left (k + 1) = if szSt L left k < 0 then -1 else szRow (nthR L k).length (szSt L left k) := by
  unfold szSt
  rw [List.range_succ, List.foldl_append]
  rfl
theorem szSt_neg (L : List (List Int)) (left : Int) (k j : Nat) (h : szSt L left k = -1) : szSt L left (k + j) = -1 := by
  induction j with
  | zero => exact h
  | succ j ih => rw [← Nat.add_assoc, szSt_succ, ih]; simp

theorem szSt_le (L : List (List Int)) (left : Int) (k : Nat) (h : 0 ≤ szSt L left k) : ∀ j, j < k → 0 ≤ szSt L left j ∧ ((nthR L j).length : Int) ≤ szSt L left j - szSt L left (j + 1) ∧ 0 ≤ szSt L left (j + 1) := by
  intro j hj
  have h1 : 0 ≤ szSt L left (j + 1) := by
    rcases Classical.em (0 ≤ szSt L left (j + 1)) with h1 | h1
    · exact h1
    · exfalso
      have e : szSt L left (j + 1) = -1 := by
        have h2 := szSt_succ L left j
        split at h2
        · exact h2
        · rw [h2] at h1 ⊢; exact szRow_neg (by omega)
      have := szSt_neg L left (j + 1) (k - (j + 1)) e
      rw [show j + 1 + (k - (j + 1)) = k from by omega] at this
      omega
  have h2 := szSt_succ L left j
  split at h2
  · omega
  · refine ⟨by omega, ?_, h1⟩
    rw [h2] at h1 ⊢
    unfold szRow at *
    split at h1 <;> split <;> omega

/-- The sizes that an answer of szInt64SS from 0 on tells. -/
def Small (L : List (List Int)) : Prop := L.length ≤ 1048576 ∧ ∀ i, i < L.length → (nthR L i).length ≤ 1048576
theorem szGrid_small {L : List (List Int)} {left : Int} (h1 : left ≤ 1048576) (h : 0 ≤ szGrid L left) : Small L ∧ szGrid L left ≤ left := by
  unfold szGrid at h ⊢
  split at h
  · omega
  · rename_i hn
    rw [if_neg hn]
    have h' : 0 ≤ szSt L (left - L.length) L.length := h
    have hle : ∀ k, k ≤ L.length → szSt L (left - L.length) k ≤ left - L.length := by
      intro k
      induction k with
      | zero => intro _; simp [szSt]
      | succ k ih => intro hk; have := szSt_le L _ _ h' k (by omega); have := ih (by omega); omega
    refine ⟨⟨by omega, fun i hi => ?_⟩, ?_⟩
    · have := szSt_le L _ _ h' i hi
      have := hle i (by omega)
      omega
    · have := hle L.length (Nat.le_refl _); unfold szSt at this; omega
theorem szGrid_neg {L : List (List Int)} {left : Int} (h : szGrid L left < 0) : szGrid L left = -1 := by
  unfold szGrid at h ⊢
  split
  · rfl
  · rename_i hn
    rw [if_neg hn] at h
    have h' : szSt L (left - L.length) L.length < 0 := h
    show szSt L (left - L.length) L.length = -1
    generalize L.length = n at *
    have : ∀ k, szSt L (left - n) k < 0 → szSt L (left - n) k = -1 := by
      intro k hk
      cases k with
      | zero => simp [szSt] at hk; omega
      | succ k =>
        have h2 := szSt_succ L (left - n) k
        split at h2
        · exact h2
        · rw [h2] at hk ⊢; exact szRow_neg hk
    exact this n h'

end Go.Proofs.YtojbaepcflkgeaaDoor

/- Walks of the laws' own helpers: copies. -/
namespace Go.Proofs.YtojbaepcflkgeaaDoor
open Go.RowKit

theorem Tryd.infoI : (Tryd.prog.info? 2).map (fun i => (i.zero, i.size, i.bytes)) = some (some (.int .i64 0), 1, 8) := by kernel_rfl
theorem Tryd.infoR : (Tryd.prog.info? 22).map (fun i => (i.zero, i.size, i.bytes)) = some (some (.slice none 0 0), 1, 24) := by kernel_rfl

/-- Row i of a copied grid that begins at block B. -/
def rowV (B : Nat) (L : List (List Int)) (i : Nat) : Value := .slice (some ⟨B + 1 + i, 0, none⟩) (nthR L i).length (nthR L i).length

theorem rowV_eq (B : Nat) (L : List (List Int)) (i : Nat) : rowV B L i = .slice (some ⟨B + 1 + i, 0, none⟩) (nthR L i).length (nthR L i).length := rfl

theorem OwnRow.setCell {T : TypeId} {w : World} {B : Nat} {v : Value} {xs : List Int} (h : OwnRow T w B v xs) {a : Addr} (ha : v.ownBlock ≠ some a.block) (u : Value) : OwnRow T (w.setCell a u) B v xs := by
  obtain ⟨h1, h2, h3⟩ := h
  refine ⟨h1, h2, ?_⟩
  rcases h3 with h3 | ⟨g, cap, cur, e, hg, hh, r⟩
  · exact Or.inl h3
  · refine Or.inr ⟨g, cap, cur, e, hg, ?_, r⟩
    rw [heap_setCell_other]
    · exact hh
    · intro e2; apply ha; rw [e]; simp [Value.ownBlock, e2]

end Go.Proofs.YtojbaepcflkgeaaDoor

/- Walks of the laws' own helpers: a graph's copy, equality. -/
namespace Go.Proofs.YtojbaepcflkgeaaDoor
open Go.RowKit

/-- A call has handed back a graph of its own make that reads L, and has turned nothing that was there. -/
def GaveGraph (w : World) (L : List (List Int)) (e : Ending) (w' : World) : Prop :=
  ∃ n a c, e = .returned (.agg #[.slice a n c]) ∧ OwnGrid 2 22 w' w.heap.size (.slice a n c) L ∧ Below w.heap.size w w'

/-- .. a slice of slices of its own make. -/
def GaveGrid (w : World) (L : List (List Int)) (e : Ending) (w' : World) : Prop :=
  ∃ n a c, e = .returned (.slice a n c) ∧ OwnGrid 2 22 w' w.heap.size (.slice a n c) L ∧ Below w.heap.size w w'

/-! ### Equality -/

set_option maxHeartbeats 400000 in
theorem eqInt64S_any (v v' : Value) (xs ys : List Int) (w : World) (h : RowAt w v xs) (h' : RowAt w v' ys) :
    Calls Tryd.prog 7 #[v, v'] w fun e w' => e = .returned (.bool (decide (xs = ys))) ∧ Drawn w w' := by
  have hl := h.len
  have hl' := h'.len
  unfold maxLen at hl hl'
  by_cases hn : xs.length = ys.length
  · have hne : ((xs.length : Int) != (ys.length : Int)) = false := by rw [hn]; simp
    by_cases h0 : xs.length = 0
    · have hd : decide (xs = ys) = true := by rw [decide_eq_true_iff, List.length_eq_zero_iff.1 h0, List.length_eq_zero_iff.1 (by omega : ys.length = 0)]
      rw [hd]
      obtain ⟨a, c, rfl⟩ := h.zero h0
      obtain ⟨a', c', rfl⟩ := h'.zero (by omega)
      clear hn hne h h' h0 hl hl' hd
      go_enter Tryd.func7, Tryd.ntmps7
      go_wp2
      refine wp_loop_rounds 1 ?_
      rw [rounds_succ]
      go_wp2
      go_ret
      exact ⟨rfl, Drawn.refl _⟩
    · obtain ⟨b, o, c, rfl, l1, l2, hc⟩ := h.pos (by omega)
      obtain ⟨b', o', c', rfl, l1', l2', hc'⟩ := h'.pos (by omega)
      have HC := Lib.hid hc
      have HC' := Lib.hid hc'
      have HN := Lib.hid hn
      have hle : xs.length ≤ ys.length := by omega
      clear hc hc' hn h0
      go_enter Tryd.func7, Tryd.ntmps7
      go_wp2
      go_loopw [5] (fun i wr => ∃ k : Nat, k ≤ xs.length ∧ i = .int .i64 k ∧ (∀ j, j < k → nth xs j = nth ys j) ∧ Drawn w wr) (fun i _ => xs.length - (intOf i).toNat)
      case atStart => exact ⟨0, Nat.zero_le _, rfl, (fun j hj => absurd hj (by omega)), Drawn.refl _⟩
      case round =>
        obtain ⟨k, hk, rfl, he, hd⟩ := hrel
        have HE := Lib.hid he
        clear he
        by_cases hlt : k < xs.length
        · have hlt' : k < ys.length := by omega
          have hck := cell_drawn hd (HC.out k hlt)
          have hck' := cell_drawn hd (HC'.out k hlt')
          by_cases hx : nth xs k = nth ys k
          · have hxb : (nth xs k != nth ys k) = false := by rw [hx]; simp
            have HX := Lib.hid hx
            clear hx
            go_wp2
            go_quiet (fail)
            go_wp2
            go_roundw
            case rel => exact ⟨k + 1, by omega, by go_num, (fun j hj => by rcases Nat.lt_succ_iff_lt_or_eq.1 hj with h | h; exact HE.out j h; rw [h]; exact HX.out), hd.more _⟩
            case measure => simp [intOf]; omega
          · have hxb : (nth xs k != nth ys k) = true := by rw [bne_iff_ne]; exact hx
            have HX := Lib.hid hx
            clear hx
            go_wp2
            go_quiet (fail)
            go_wp2
            go_ret
            exact ⟨ret_bool (by symm; rw [decide_eq_false_iff_not]; intro e; exact HX.out (by rw [e])), hd.more _⟩
        · obtain rfl : k = xs.length := by omega
          go_wp2
          go_ret
          exact ⟨ret_bool (by symm; rw [decide_eq_true_iff]; exact nth_ext HN.out HE.out), hd⟩
  · have hne : ((xs.length : Int) != (ys.length : Int)) = true := by rw [bne_iff_ne]; omega
    have hd : decide (xs = ys) = false := by simp; intro e; exact hn (by rw [e])
    rw [hd]
    obtain ⟨a, c, rfl⟩ := h.slice
    obtain ⟨a', c', rfl⟩ := h'.slice
    go_enter Tryd.func7, Tryd.ntmps7
    go_wp2
    go_ret
    exact ⟨rfl, Drawn.refl _⟩

end Go.Proofs.YtojbaepcflkgeaaDoor

/- Walks: a graph's equality; the model's small words on sets. -/
namespace Go.Proofs.YtojbaepcflkgeaaDoor
open Go.RowKit

/-- lo ≤ x ≤ hi. -/
def inB (x lo hi : Int) : Bool := decide (lo ≤ x ∧ x ≤ hi)

theorem l1In_any (x lo hi : Int) (w : World) : Calls Tryd.prog 27 #[.int .i64 x, .int .i64 lo, .int .i64 hi] w fun e w' => e = .returned (.bool (inB x lo hi)) ∧ w = w' := by
  by_cases h1 : lo ≤ x
  · by_cases h2 : x ≤ hi
    · have e : inB x lo hi = true := by simp [inB, h1, h2]
      rw [e]
      go_enter Tryd.func27, Tryd.ntmps27
      go_wp2
      go_ret
      exact ⟨rfl, rfl⟩
    · have e : inB x lo hi = false := by simp [inB, h2]
      have d2 : decide (x ≤ hi) = false := by simpa using h2
      rw [e]
      go_enter Tryd.func27, Tryd.ntmps27
      go_wp2
      go_ret
      exact ⟨rfl, rfl⟩
  · have e : inB x lo hi = false := by simp [inB, h1]
    have d1 : decide (lo ≤ x) = false := by simpa using h1
    rw [e]
    go_enter Tryd.func27, Tryd.ntmps27
    go_wp2
    go_ret
    exact ⟨rfl, rfl⟩

/-- Is n an element? -/
def hasB (xs : List Int) (n : Int) : Bool := decide (∃ i, i < xs.length ∧ nth xs i = n)

end Go.Proofs.YtojbaepcflkgeaaDoor
