/- Walks: the model's set of numbers. -/
import Derived.Test.YtohjfcfcopbmoaaQA1
import Derived.IntWalk

namespace Go.Proofs.Ytohjfcfcopbmoaa
open Go.RowKit

/-- Element i is in its place: a vertex below n, greater than the one before it. -/
def StepOk (xs : List Int) (n : Int) (i : Nat) : Prop := 0 ≤ nth xs i ∧ nth xs i ≤ n - 1 ∧ (0 < i → nth xs (i - 1) < nth xs i)
instance (xs : List Int) (n : Int) (i : Nat) : Decidable (StepOk xs n i) := by unfold StepOk; infer_instance
/-- A strictly increasing list of numbers from 0 to n - 1. -/
def SetP (xs : List Int) (n : Int) : Prop := ∀ i, i < xs.length → StepOk xs n i
instance (xs : List Int) (n : Int) : Decidable (SetP xs n) := by unfold SetP; infer_instance

theorem SetP.ge {xs : List Int} {n : Int} (h : SetP xs n) : ∀ i, i < xs.length → (i : Int) ≤ nth xs i := by
  intro i
  induction i with
  | zero => intro h0; exact (h 0 h0).1
  | succ i ih =>
    intro hi
    have := ih (by omega)
    have h2 := (h (i + 1) hi).2.2 (by omega)
    simp at h2
    omega
theorem SetP.len {xs : List Int} {n : Int} (h : SetP xs n) (hn : 0 ≤ n) : (xs.length : Int) ≤ n := by
  by_cases h0 : xs.length = 0
  · omega
  · have := h.ge (xs.length - 1) (by omega)
    have := (h (xs.length - 1) (by omega)).2.1
    omega

set_option maxHeartbeats 800000 in
theorem l1Set_any (v : Value) (xs : List Int) (n : Int) (w : World) (h : RowAt w v xs) (hn0 : 0 ≤ n) (hn1 : n ≤ 1048576) :
    Calls Try.prog 66 #[v, .int .i64 n] w fun e w' => e = .returned (.bool (decide (SetP xs n))) ∧ Drawn w w' := by
  have hl := h.len
  unfold maxLen at hl
  by_cases hbig : n < (xs.length : Int)
  · have e : decide (SetP xs n) = false := by
      rw [decide_eq_false_iff_not]; intro hs; have := hs.len hn0; omega
    rw [e]
    obtain ⟨a, c, rfl⟩ := h.slice
    go_enter Try.func66, Try.ntmps66
    go_wp2
    go_ret
    exact ⟨rfl, Drawn.refl _⟩
  · by_cases h0 : xs.length = 0
    · have e : decide (SetP xs n) = true := by rw [decide_eq_true_iff]; intro i hi; omega
      rw [e]
      obtain ⟨a, c, rfl⟩ := h.zero h0
      clear h h0 hl e hbig
      go_enter Try.func66, Try.ntmps66
      go_wp2
      refine wp_loop_rounds 1 ?_
      rw [rounds_succ]
      go_wp2
      go_ret
      exact ⟨rfl, Drawn.refl _⟩
    · obtain ⟨b, o, c, rfl, l1, l2, hc⟩ := h.pos (by omega)
      have HC := Lib.hid hc
      clear hc h0
      go_enter Try.func66, Try.ntmps66
      go_wp2
      go_loopw [5] (fun i wr => ∃ k : Nat, k ≤ xs.length ∧ i = .int .i64 k ∧ (∀ j, j < k → StepOk xs n j) ∧ Drawn w wr) (fun i _ => xs.length - (intOf i).toNat)
      case atStart => exact ⟨0, Nat.zero_le _, rfl, (fun j hj => absurd hj (by omega)), Drawn.refl _⟩
      case round =>
        obtain ⟨k, hk, rfl, he, hd⟩ := hrel
        have HE := Lib.hid he
        clear he
        by_cases hlt : k < xs.length
        · have hck := cell_drawn hd (HC.out k hlt)
          have hin : ∀ m, Calls Try.prog 65 #[.int .i64 (nth xs k), .int .i64 0, .int .i64 (n - 1)] (wr.drewN m) fun e w2 => e = .returned (.bool (inB (nth xs k) 0 (n - 1))) ∧ w2 = wr.drewN m :=
            fun m => (l1In_any _ _ _ _).mono fun _ _ ⟨h1, h2⟩ => ⟨h1, h2.symm⟩
          have hw1 : IntKind.i64.wrap (n - 1) = n - 1 := IntWalk.i64_in _ (by omega)
          by_cases hr : inB (nth xs k) 0 (n - 1) = true
          · rw [hr] at hin
            have HIN := Lib.hid hin
            clear hin
            have HR := Lib.hid hr
            clear hr
            by_cases hk0 : k = 0
            · have hb1 : decide ((0 : Int) < (k : Int)) = false := by simp; omega
              have hb2 : decide (0 < k) = false := by simp; omega
              have HK := Lib.hid hk0
              clear hk0
              go_wp2
              go_quiet ((go_at_call 65; exact Calls.quiet_of_same (HIN.out _)))
              go_wp2
              go_roundw
              case rel => exact ⟨k + 1, by omega, by go_num, (fun j hj => by rcases Nat.lt_succ_iff_lt_or_eq.1 hj with h | h; exact HE.out j h; subst h; have h4 := HR.out; simp [inB] at h4; exact ⟨h4.1, h4.2, fun h5 => absurd h5 (by have := HK.out; omega)⟩), hd.more _⟩
              case measure => simp [intOf]; omega
            · have hb1 : decide ((0 : Int) < (k : Int)) = true := by simp; omega
              have hb2 : decide (0 < k) = true := by simp; omega
              have hp : 0 < k := by omega
              have hw2 : IntKind.i64.wrap ((k : Int) - 1) = (k : Int) - 1 := IntWalk.i64_in _ (by omega)
              have hw3 : 0 ≤ (k : Int) - 1 := by omega
              have hw3' : 1 ≤ (k : Int) := by omega
              have hw4 : ((k : Int) - 1).toNat = k - 1 := by omega
              have hw5 : (k : Int) - 1 < (xs.length : Int) := by omega
              have hcp := cell_drawn hd (HC.out (k - 1) (by omega))
              by_cases hx : nth xs k ≤ nth xs (k - 1)
              · have hxb : decide (nth xs k ≤ nth xs (k - 1)) = true := by simpa using hx
                have HX := Lib.hid hx
                clear hx hk0
                go_wp2
                go_quiet ((go_at_call 65; exact Calls.quiet_of_same (HIN.out _)))
                go_wp2
                go_ret
                exact ⟨ret_bool (by symm; rw [decide_eq_false_iff_not]; intro hs; have h3 := (hs k hlt).2.2 hp; have := HX.out; omega), hd.more _⟩
              · have hxb : decide (nth xs k ≤ nth xs (k - 1)) = false := by simpa using hx
                have HX := Lib.hid hx
                clear hx hk0
                go_wp2
                go_quiet ((go_at_call 65; exact Calls.quiet_of_same (HIN.out _)))
                go_wp2
                go_roundw
                case rel => exact ⟨k + 1, by omega, by go_num, (fun j hj => by rcases Nat.lt_succ_iff_lt_or_eq.1 hj with h | h; exact HE.out j h; subst h; have h4 := HR.out; simp [inB] at h4; exact ⟨h4.1, h4.2, fun h5 => by have := HX.out; omega⟩), hd.more _⟩
                case measure => simp [intOf]; omega
          · have hrf : inB (nth xs k) 0 (n - 1) = false := by simpa using hr
            rw [hrf] at hin
            have HIN := Lib.hid hin
            have HR := Lib.hid hrf
            clear hin hrf hr
            go_wp2
            go_quiet ((go_at_call 65; exact Calls.quiet_of_same (HIN.out _)))
            go_wp2
            go_ret
            exact ⟨ret_bool (by symm; rw [decide_eq_false_iff_not]; intro hs; have h3 := hs k hlt; have h4 := HR.out; simp [inB] at h4; exact absurd h3.2.1 (by have := h4 h3.1; omega)), hd.more _⟩
        · obtain rfl : k = xs.length := by omega
          go_wp2
          go_ret
          exact ⟨ret_bool (by symm; rw [decide_eq_true_iff]; exact HE.out), hd⟩

end Go.Proofs.Ytohjfcfcopbmoaa
