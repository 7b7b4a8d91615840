/- Walks: a graph's equality; the model's small words on sets. -/
import Derived.Test.YtjbfoiolcpigfaaDoorA4
namespace Go.Proofs.YtjbfoiolcpigfaaDoor
open Go.RowKit

set_option maxHeartbeats 400000 in
theorem eqGraph_any (v v' : Value) (L M : List (List Int)) (w : World) (h : GridAt w v L) (h' : GridAt w v' M) :
    Calls Tryd.prog 55 #[.agg #[v], .agg #[v']] w fun e w' => e = .returned (.bool (decide (L = M))) ∧ Below w.heap.size w w' := by
  obtain ⟨a, c, rfl⟩ := h.slice
  obtain ⟨a', c', rfl⟩ := h'.slice
  have hbel : Below w.heap.size w ((w.alloc (.cells #[.slice a L.length c] 29)).alloc (.cells #[.slice a' M.length c'] 29)) :=
    ((Below.refl _ _).alloc (Nat.le_refl _) _).alloc (by rw [size_alloc1]; omega) _
  have hk := h.keep hbel
  have hk' := h'.keep hbel
  have HB := Lib.hid hbel
  clear hbel
  by_cases hx : L = M
  · have HD : Hid (decide (L = M) = true) := by show decide (L = M) = true; simp [hx]
    clear hx
    go_enter Tryd.func55, Tryd.ntmps55
    go_wp2_with fail
    refine (eqInt64SS_any _ _ _ _ _ hk hk').mono ?_
    rintro e w' ⟨rfl, hd⟩
    rw [HD.out]
    go_wp2
    go_ret
    exact ⟨ret_bool HD.out.symm, HB.out.trans (hd.below _)⟩
  · have HD : Hid (decide (L = M) = false) := by show decide (L = M) = false; simp [hx]
    clear hx
    go_enter Tryd.func55, Tryd.ntmps55
    go_wp2_with fail
    refine (eqInt64SS_any _ _ _ _ _ hk hk').mono ?_
    rintro e w' ⟨rfl, hd⟩
    rw [HD.out]
    go_wp2
    go_ret
    exact ⟨ret_bool HD.out.symm, HB.out.trans (hd.below _)⟩

/-- lo ≤ x ≤ hi. -/
def inB (x lo hi : Int) : Bool := decide (lo ≤ x ∧ x ≤ hi)

theorem l1In_any (x lo hi : Int) (w : World) : Calls Tryd.prog 98 #[.int .i64 x, .int .i64 lo, .int .i64 hi] w fun e w' => e = .returned (.bool (inB x lo hi)) ∧ w = w' := by
  by_cases h1 : lo ≤ x
  · by_cases h2 : x ≤ hi
    · have e : inB x lo hi = true := by simp [inB, h1, h2]
      rw [e]
      go_enter Tryd.func98, Tryd.ntmps98
      go_wp2
      go_ret
      exact ⟨rfl, rfl⟩
    · have e : inB x lo hi = false := by simp [inB, h2]
      have d2 : decide (x ≤ hi) = false := by simpa using h2
      rw [e]
      go_enter Tryd.func98, Tryd.ntmps98
      go_wp2
      go_ret
      exact ⟨rfl, rfl⟩
  · have e : inB x lo hi = false := by simp [inB, h1]
    have d1 : decide (lo ≤ x) = false := by simpa using h1
    rw [e]
    go_enter Tryd.func98, Tryd.ntmps98
    go_wp2
    go_ret
    exact ⟨rfl, rfl⟩

set_option maxHeartbeats 400000 in
theorem l1Size_any (v : Value) (L : List (List Int)) (w : World) (h : GridAt w v L) :
    Calls Tryd.prog 72 #[.agg #[v]] w fun e w' => e = .returned (.int .i64 L.length) ∧ Below w.heap.size w w' := by
  have hl := h.len
  unfold maxLen at hl
  obtain ⟨a, c, rfl⟩ := h.slice
  go_enter Tryd.func72, Tryd.ntmps72
  go_wp2
  go_ret
  exact ⟨rfl, (Below.refl _ _).alloc (Nat.le_refl _) _⟩

/-- Is n an element? -/
def hasB (xs : List Int) (n : Int) : Bool := decide (∃ i, i < xs.length ∧ nth xs i = n)

set_option maxHeartbeats 400000 in
theorem l1Has_any (v : Value) (xs : List Int) (n : Int) (w : World) (h : RowAt w v xs) :
    Calls Tryd.prog 100 #[v, .int .i64 n] w fun e w' => e = .returned (.bool (hasB xs n)) ∧ w = w' := by
  have hl := h.len
  unfold maxLen at hl
  by_cases h0 : xs.length = 0
  · have e : hasB xs n = false := by simp [hasB, h0]
    rw [e]
    obtain ⟨a, c, rfl⟩ := h.zero h0
    clear h h0 hl e
    go_enter Tryd.func100, Tryd.ntmps100
    go_wp2
    refine wp_loop_rounds 1 ?_
    rw [rounds_succ]
    go_wp2
    go_ret
    exact ⟨rfl, rfl⟩
  · obtain ⟨b, o, c, rfl, l1, l2, hc⟩ := h.pos (by omega)
    have HC := Lib.hid hc
    clear hc h0
    go_enter Tryd.func100, Tryd.ntmps100
    go_wp2
    go_loop [5] (fun i => ∃ k : Nat, k ≤ xs.length ∧ i = .int .i64 k ∧ (∀ j, j < k → nth xs j ≠ n)) (fun i => xs.length - (intOf i).toNat)
    case atStart => exact ⟨0, Nat.zero_le _, rfl, (fun j hj => absurd hj (by omega))⟩
    case round =>
      obtain ⟨k, hk, rfl, he⟩ := hrel
      have HE := Lib.hid he
      clear he
      by_cases hlt : k < xs.length
      · have hck := HC.out k hlt
        by_cases hx : nth xs k = n
        · have hxb : (nth xs k == n) = true := by rw [hx]; simp
          have HX := Lib.hid hx
          clear hx
          go_wp2
          go_ret
          exact ⟨ret_bool (by symm; rw [hasB, decide_eq_true_iff]; exact ⟨k, hlt, HX.out⟩), rfl⟩
        · have hxb : (nth xs k == n) = false := by rw [beq_eq_false_iff_ne]; exact hx
          have HX := Lib.hid hx
          clear hx
          go_wp2
          go_round
          case rel => exact ⟨k + 1, by omega, by go_num, (fun j hj => by rcases Nat.lt_succ_iff_lt_or_eq.1 hj with h | h; exact HE.out j h; rw [h]; exact HX.out)⟩
          case measure => simp [intOf]; omega
      · obtain rfl : k = xs.length := by omega
        go_wp2
        go_ret
        exact ⟨ret_bool (by symm; rw [hasB, decide_eq_false_iff_not]; rintro ⟨i, hi, e⟩; exact HE.out i hi e), rfl⟩

end Go.Proofs.YtjbfoiolcpigfaaDoor
