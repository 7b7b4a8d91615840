import Derived.Test.YtjbfoiolcpigfaaDoorA1
namespace Go.Proofs.YtjbfoiolcpigfaaDoor
open Go.RowKit

theorem szRow_neg {n : Nat} {left : Int} (h : szRow n left < 0) : szRow n left = -1 := by
  unfold szRow at *; split at h <;> simp_all
theorem szRow_le {n : Nat} {left : Int} (h : 0 ≤ left) : szRow n left ≤ left := by
  unfold szRow; split <;> omega

/-- What szInt64SS answers: the row of the outer slice first, then the rows; -1 from the first that is too much. -/
def szGrid (L : List (List Int)) (left : Int) : Int := if left - L.length < 0 then -1 else
  (List.range L.length).foldl (fun l k => if l < 0 then -1 else szRow (nthR L k).length l) (left - L.length)

/-- The fold's state after k rows. -/
def szSt (L : List (List Int)) (left : Int) (k : Nat) : Int := (List.range k).foldl (fun l k => if l < 0 then -1 else szRow (nthR L k).length l) left
theorem szSt_succ (L : List (List Int)) (left : Int) (k : Nat) : szSt L left (k + 1) = if szSt L left k < 0 then -1 else szRow (nthR L k).length (szSt L left k) := by
  unfold szSt
  rw [List.range_succ, List.foldl_append]
  rfl
theorem szSt_neg (L : List (List Int)) (left : Int) (k j : Nat) (h : szSt L left k = -1) : szSt L left (k + j) = -1 := by
  induction j with
  | zero => exact h
  | succ j ih => rw [← Nat.add_assoc, szSt_succ, ih]; simp

set_option maxHeartbeats 400000 in
theorem szInt64SS_any (v : Value) (L : List (List Int)) (left : Int) (w : World) (h : GridAt w v L) (h0 : 0 ≤ left) (h1 : left ≤ 1048576) :
    Calls Tryd.prog 111 #[v, .int .i64 left] w fun e w' => e = .returned (.int .i64 (szGrid L left)) ∧ w = w' := by
  have hlen := h.len
  unfold maxLen at hlen
  by_cases hs : left - L.length < 0
  · have e1 : szGrid L left = -1 := by simp [szGrid, hs]
    rw [e1]
    obtain ⟨a, c, rfl⟩ := h.slice
    go_enter Tryd.func111, Tryd.ntmps111
    go_wp2
    go_ret
    exact ⟨rfl, rfl⟩
  · have e1 : szGrid L left = szSt L (left - L.length) L.length := by simp [szGrid, hs, szSt]
    rw [e1]
    rcases h.elim with ⟨e, a, c, rfl⟩ | ⟨b, o, c, A, C, rfl, l1, l2, hc⟩
    · have e2 : szSt L (left - L.length) L.length = left := by rw [e]; simp [szSt]
      rw [e2]
      go_enter Tryd.func111, Tryd.ntmps111
      go_wp2
      refine wp_loop_rounds 1 ?_
      rw [rounds_succ]
      go_wp2
      go_ret
      exact ⟨rfl, rfl⟩
    · have HC := Lib.hid hc
      clear hc e1
      go_enter Tryd.func111, Tryd.ntmps111
      go_wp2
      go_loop [1, 5] (fun l i => ∃ k : Nat, k ≤ L.length ∧ i = .int .i64 k ∧ 0 ≤ szSt L (left - L.length) k ∧ szSt L (left - L.length) k ≤ 1048576 ∧ l = .int .i64 (szSt L (left - L.length) k)) (fun _ i => L.length - (intOf i).toNat)
      case atStart => exact ⟨0, Nat.zero_le _, rfl, by simp [szSt]; omega, by simp [szSt]; omega, by simp [szSt]⟩
      case round =>
        obtain ⟨k, hk, rfl, hs0, hs1, rfl⟩ := hrel
        by_cases hlt : k < L.length
        · have hck := (HC.out k hlt).1
          have hrl := (HC.out k hlt).2.len
          have hsu := szSt_succ L (left - L.length) k
          rw [if_neg (by omega)] at hsu
          generalize hst : szSt L (left - L.length) k = st at *
          have HST := Lib.hid hst
          have HSU := Lib.hid hsu
          clear hst hsu
          go_wp2_with fail
          refine (szInt64S_any _ _ _ _ _ hrl hs0 hs1).mono ?_
          rintro e w' ⟨rfl, rfl⟩
          by_cases hn : szRow (nthR L k).length st < 0
          · have hm1 := szRow_neg hn
            have hfin : szSt L (left - L.length) L.length = -1 := by
              have := szSt_neg L (left - L.length) (k + 1) (L.length - (k + 1)) (by rw [HSU.out, hm1])
              rwa [show k + 1 + (L.length - (k + 1)) = L.length from by omega] at this
            have HF := Lib.hid hfin
            clear hfin
            rw [hm1]
            clear hm1
            go_wp2
            go_ret
            exact ⟨ret_int HF.out.symm, rfl⟩
          · have hle := szRow_le (n := (nthR L k).length) hs0
            go_wp2
            go_round
            case rel => exact ⟨k + 1, by omega, by go_num, by rw [HSU.out]; omega, by rw [HSU.out]; omega, by rw [HSU.out]⟩
            case measure => simp [intOf]; omega
        · obtain rfl : k = L.length := by omega
          go_wp2
          go_ret
          exact ⟨rfl, rfl⟩

theorem szSt_le (L : List (List Int)) (left : Int) (k : Nat) (h : 0 ≤ szSt L left k) : ∀ j, j < k → 0 ≤ szSt L left j ∧ ((nthR L j).length : Int) ≤ szSt L left j - szSt L left (j + 1) ∧ 0 ≤ szSt L left (j + 1) := by
  intro j hj
  have h1 : 0 ≤ szSt L left (j + 1) := by
    rcases Classical.em (0 ≤ szSt L left (j + 1)) with h1 | h1
    · exact h1
    · exfalso
      have e : szSt L left (j + 1) = -1 := by
        have h2 := szSt_succ L left j
        split at h2
        · exact h2
        · rw [h2] at h1 ⊢; exact szRow_neg (by omega)
      have := szSt_neg L left (j + 1) (k - (j + 1)) e
      rw [show j + 1 + (k - (j + 1)) = k from by omega] at this
      omega
  have h2 := szSt_succ L left j
  split at h2
  · omega
  · refine ⟨by omega, ?_, h1⟩
    rw [h2] at h1 ⊢
    unfold szRow at *
    split at h1 <;> split <;> omega

/-- The sizes that an answer of szInt64SS from 0 on tells. -/
def Small (L : List (List Int)) : Prop := L.length ≤ 1048576 ∧ ∀ i, i < L.length → (nthR L i).length ≤ 1048576
theorem szGrid_small {L : List (List Int)} {left : Int} (h1 : left ≤ 1048576) (h : 0 ≤ szGrid L left) : Small L ∧ szGrid L left ≤ left := by
  unfold szGrid at h ⊢
  split at h
  · omega
  · rename_i hn
    rw [if_neg hn]
    have h' : 0 ≤ szSt L (left - L.length) L.length := h
    have hle : ∀ k, k ≤ L.length → szSt L (left - L.length) k ≤ left - L.length := by
      intro k
      induction k with
      | zero => intro _; simp [szSt]
      | succ k ih => intro hk; have := szSt_le L _ _ h' k (by omega); have := ih (by omega); omega
    refine ⟨⟨by omega, fun i hi => ?_⟩, ?_⟩
    · have := szSt_le L _ _ h' i hi
      have := hle i (by omega)
      omega
    · have := hle L.length (Nat.le_refl _); unfold szSt at this; omega
theorem szGrid_neg {L : List (List Int)} {left : Int} (h : szGrid L left < 0) : szGrid L left = -1 := by
  unfold szGrid at h ⊢
  split
  · rfl
  · rename_i hn
    rw [if_neg hn] at h
    have h' : szSt L (left - L.length) L.length < 0 := h
    show szSt L (left - L.length) L.length = -1
    generalize L.length = n at *
    have : ∀ k, szSt L (left - n) k < 0 → szSt L (left - n) k = -1 := by
      intro k hk
      cases k with
      | zero => simp [szSt] at hk; omega
      | succ k =>
        have h2 := szSt_succ L (left - n) k
        split at h2
        · exact h2
        · rw [h2] at hk ⊢; exact szRow_neg hk
    exact this n h'

set_option maxHeartbeats 400000 in
theorem szGraph_any (v : Value) (L : List (List Int)) (left : Int) (w : World) (h : GridAt w v L) (h0 : 0 ≤ left) (h1 : left ≤ 1048576) :
    Calls Tryd.prog 52 #[.agg #[v], .int .i64 left] w fun e w' => e = .returned (.int .i64 (szGrid L left)) ∧ Below w.heap.size w w' := by
  have hk := h.keep ((Below.refl w.heap.size w).alloc (Nat.le_refl _) (.cells #[v] 55))
  by_cases hs : szGrid L left < 0
  · have e1 := szGrid_neg hs
    have E1 := Lib.hid e1
    clear e1
    obtain ⟨a, c, rfl⟩ := h.slice
    go_enter Tryd.func52, Tryd.ntmps52
    go_wp2_with fail
    refine (szInt64SS_any _ _ _ _ hk h0 h1).mono ?_
    rintro e w' ⟨rfl, rfl⟩
    go_wp2
    go_ret
    exact ⟨ret_int E1.out.symm, (Below.refl _ _).alloc (Nat.le_refl _) _⟩
  · obtain ⟨a, c, rfl⟩ := h.slice
    go_enter Tryd.func52, Tryd.ntmps52
    go_wp2_with fail
    refine (szInt64SS_any _ _ _ _ hk h0 h1).mono ?_
    rintro e w' ⟨rfl, rfl⟩
    go_wp2
    go_ret
    exact ⟨rfl, (Below.refl _ _).alloc (Nat.le_refl _) _⟩

end Go.Proofs.YtjbfoiolcpigfaaDoor
