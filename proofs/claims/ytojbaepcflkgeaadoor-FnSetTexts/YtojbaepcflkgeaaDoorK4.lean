/- Walks: the laws' tests of lists, written by program out of A4's (the same code under other names). -/
import Derived.Test.YtojbaepcflkgeaaDoorQA1

namespace Go.Proofs.YtojbaepcflkgeaaDoor
open Go.RowKit

set_option maxHeartbeats 400000 in
theorem likeInts_any (v v' : Value) (xs ys : List Int) (w : World) (h : RowAt w v xs) (h' : RowAt w v' ys) :
    Calls Tryd.prog 14 #[v, v'] w fun e w' => e = .returned (.bool (decide (xs = ys))) ∧ Drawn w w' := by
  have hl := h.len
  have hl' := h'.len
  unfold maxLen at hl hl'
  by_cases hn : xs.length = ys.length
  · have hne : ((xs.length : Int) != (ys.length : Int)) = false := by rw [hn]; simp
    by_cases h0 : xs.length = 0
    · have hd : decide (xs = ys) = true := by rw [decide_eq_true_iff, List.length_eq_zero_iff.1 h0, List.length_eq_zero_iff.1 (by omega : ys.length = 0)]
      rw [hd]
      obtain ⟨a, c, rfl⟩ := h.zero h0
      obtain ⟨a', c', rfl⟩ := h'.zero (by omega)
      clear hn hne h h' h0 hl hl' hd
      go_enter Tryd.func14, Tryd.ntmps14
      go_wp2
      refine wp_loop_rounds 1 ?_
      rw [rounds_succ]
      go_wp2
      go_ret
      exact ⟨rfl, Drawn.refl _⟩
    · obtain ⟨b, o, c, rfl, l1, l2, hc⟩ := h.pos (by omega)
      obtain ⟨b', o', c', rfl, l1', l2', hc'⟩ := h'.pos (by omega)
      have HC := Lib.hid hc
      have HC' := Lib.hid hc'
      have HN := Lib.hid hn
      have hle : xs.length ≤ ys.length := by omega
      clear hc hc' hn h0
      go_enter Tryd.func14, Tryd.ntmps14
      go_wp2
      go_loopw [5] (fun i wr => ∃ k : Nat, k ≤ xs.length ∧ i = .int .i64 k ∧ (∀ j, j < k → nth xs j = nth ys j) ∧ Drawn w wr) (fun i _ => xs.length - (intOf i).toNat)
      case atStart => exact ⟨0, Nat.zero_le _, rfl, (fun j hj => absurd hj (by omega)), Drawn.refl _⟩
      case round =>
        obtain ⟨k, hk, rfl, he, hd⟩ := hrel
        have HE := Lib.hid he
        clear he
        by_cases hlt : k < xs.length
        · have hlt' : k < ys.length := by omega
          have hck := cell_drawn hd (HC.out k hlt)
          have hck' := cell_drawn hd (HC'.out k hlt')
          by_cases hx : nth xs k = nth ys k
          · have hxb : (nth xs k != nth ys k) = false := by rw [hx]; simp
            have HX := Lib.hid hx
            clear hx
            go_wp2
            go_quiet (fail)
            go_wp2
            go_roundw
            case rel => exact ⟨k + 1, by omega, by go_num, (fun j hj => by rcases Nat.lt_succ_iff_lt_or_eq.1 hj with h | h; exact HE.out j h; rw [h]; exact HX.out), hd.more _⟩
            case measure => simp [intOf]; omega
          · have hxb : (nth xs k != nth ys k) = true := by rw [bne_iff_ne]; exact hx
            have HX := Lib.hid hx
            clear hx
            go_wp2
            go_quiet (fail)
            go_wp2
            go_ret
            exact ⟨ret_bool (by symm; rw [decide_eq_false_iff_not]; intro e; exact HX.out (by rw [e])), hd.more _⟩
        · obtain rfl : k = xs.length := by omega
          go_wp2
          go_ret
          exact ⟨ret_bool (by symm; rw [decide_eq_true_iff]; exact nth_ext HN.out HE.out), hd⟩
  · have hne : ((xs.length : Int) != (ys.length : Int)) = true := by rw [bne_iff_ne]; omega
    have hd : decide (xs = ys) = false := by simp; intro e; exact hn (by rw [e])
    rw [hd]
    obtain ⟨a, c, rfl⟩ := h.slice
    obtain ⟨a', c', rfl⟩ := h'.slice
    go_enter Tryd.func14, Tryd.ntmps14
    go_wp2
    go_ret
    exact ⟨rfl, Drawn.refl _⟩

end Go.Proofs.YtojbaepcflkgeaaDoor
