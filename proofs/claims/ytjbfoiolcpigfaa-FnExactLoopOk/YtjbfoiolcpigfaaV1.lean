/- Walks: LoopOk, of the model. -/
import Derived.Test.YtjbfoiolcpigfaaC4
namespace Go.Proofs.Ytjbfoiolcpigfaa
open Go.RowKit

/-- Element k is a vertex, not among the first k, and a neighbour of the one before it. -/
def PathAt (L : List (List Int)) (xs : List Int) (k : Nat) : Prop :=
  inB (nth xs k) 0 ((L.length : Int) - 1) = true ∧ hasB (xs.take k) (nth xs k) = false ∧ (0 < k → hasB (nthR L (nth xs (k - 1)).toNat) (nth xs k) = true)
instance (L : List (List Int)) (xs : List Int) (k : Nat) : Decidable (PathAt L xs k) := by unfold PathAt; infer_instance
def PathP (L : List (List Int)) (xs : List Int) : Prop := ∀ k, k < xs.length → PathAt L xs k
instance (L : List (List Int)) (xs : List Int) : Decidable (PathP L xs) := by unfold PathP; infer_instance

set_option maxHeartbeats 2000000 in
theorem l3Path_any (v v1 : Value) (L : List (List Int)) (xs : List Int) (w : World) (h : GridAt w v L) (h1 : RowAt w v1 xs) (hx0 : 0 < xs.length) :
    Calls Try.prog 30 #[.agg #[v], v1] w fun e w' => e = .returned (.bool (decide (PathP L xs))) ∧ Below w.heap.size w w' := by
  have hl := h.len
  have hl1 := h1.len
  unfold maxLen at hl hl1
  obtain ⟨a0, c0, rfl⟩ := h.slice
  have ha : Below w.heap.size w (w.alloc (.cells #[.slice a0 L.length c0] 28)) := (Below.refl _ _).alloc (Nat.le_refl _) _
  have hk := h.keep ha
  have hr := h1.keep ha
  have HA := Lib.hid ha
  clear ha
  obtain ⟨b, o, c, rfl, l1, l2, hc⟩ := hr.pos (by omega)
  have kb1 : (w.alloc (.cells #[.slice a0 L.length c0] 28)).cell? ⟨w.heap.size, 0, none⟩ = some (.slice a0 L.length c0) := by go_simp
  obtain ⟨w1, hw1⟩ : ∃ w1, w.alloc (.cells #[.slice a0 L.length c0] 28) = w1 := ⟨_, rfl⟩
  go_enter Try.func30, Try.ntmps30
  go_wp2_with fail
  rw [hw1] at HA hk hr hc kb1
  have HC1 := Lib.hid hc
  have HB1 : Hid (Below w.heap.size w w1) := HA.out
  have R1 := Lib.hid hk
  have S1 := Lib.hid hr
  have hkb1 := Lib.hid kb1
  clear hc hk hr kb1 h1 h hw1 HA
  go_loopw [5] (fun i wr => ∃ k : Nat, k ≤ xs.length ∧ i = .int .i64 k ∧ (∀ j, j < k → PathAt L xs j) ∧ Below w1.heap.size w1 wr) (fun i _ => xs.length - (intOf i).toNat)
  case atStart => exact ⟨0, Nat.zero_le _, rfl, (fun j hj => absurd hj (by omega)), Below.refl _ _⟩
  case round =>
    obtain ⟨k, hk, rfl, he, hb⟩ := hrel
    have HE := Lib.hid he
    clear he
    by_cases hlt : k < xs.length
    · have hck := cell_keep hb (HC1.out k hlt)
      have kb := cell_keep hb hkb1.out
      have R := Lib.hid (R1.out.keep hb)
      have hcap : (k : Int) ≤ (c : Int) := by omega
      have T := Lib.hid ((S1.out.keep hb).take (fun i hi => cell_keep hb (HC1.out i hi)) l2 l1 k hk)
      have HBw : Hid (Below w.heap.size w wr) := HB1.out.trans (hb.mono HB1.out.size)
      have HBr := Lib.hid hb
      have kl := fun x : Later wr => x.cell kb
      have hl2 := fun x : Later wr => x.cell hck
      have hcall1 : Hid (∀ x : Later wr, Calls Try.prog 19 #[.agg #[.slice a0 L.length c0], .int .i64 (nth xs k)] x.at fun e w2 => e = .returned (.bool (inB (nth xs k) 0 ((L.length : Int) - 1))) ∧ ∃ y : Later wr, w2 = y.at) :=
        fun x => Calls.later (l1There_any _ _ _ _ (R.out.keep x.bel))
      have hcall2 : Hid (∀ x : Later wr, Calls Try.prog 38 #[.slice (some ⟨b, o, none⟩) k c, .int .i64 (nth xs k)] x.at fun e w2 => e = .returned (.bool (hasB (xs.take k) (nth xs k))) ∧ ∃ y : Later wr, w2 = y.at) :=
        fun x => Calls.later_same (l1Has_any _ _ _ _ (T.out.keep x.bel))
      have hprev : 0 < k → 0 ≤ nth xs (k - 1) ∧ nth xs (k - 1) < (L.length : Int) := fun h0 => by
        have := (HE.out (k - 1) (by omega)).1
        simp [inB] at this; omega
      by_cases hin : inB (nth xs k) 0 ((L.length : Int) - 1) = true
      · have HI := Lib.hid hin
        have hc1 : Hid (∀ x : Later wr, Calls Try.prog 19 #[.agg #[.slice a0 L.length c0], .int .i64 (nth xs k)] x.at fun e w2 => e = .returned (.bool true) ∧ ∃ y : Later wr, w2 = y.at) := by have := hcall1.out; rwa [hin] at this
        clear hcall1 hin
        by_cases hH : hasB (xs.take k) (nth xs k) = true
        · have HH := Lib.hid hH
          have hc2 : Hid (∀ x : Later wr, Calls Try.prog 38 #[.slice (some ⟨b, o, none⟩) k c, .int .i64 (nth xs k)] x.at fun e w2 => e = .returned (.bool true) ∧ ∃ y : Later wr, w2 = y.at) := by have := hcall2.out; rwa [hH] at this
          clear hcall2 hH hb hprev
          go_wp2
          refine wp_region_later (by kernel_rfl) (by kernel_rfl) ?_
          repeat (go_big_quiet_step (first | (go_at_call 19; exact hc1.out _) | (go_at_call 38; exact hc2.out _)))
          refine wpQuiet_nil ?_
          rintro _ ⟨x, rfl⟩
          have HB2 : Hid (Below w.heap.size w x.at) := HBw.out.trans (x.bel.mono HBw.out.size)
          clear kl hl2
          all_goals go_wp2
          all_goals go_ret
          all_goals exact ⟨ret_bool (by symm; rw [decide_eq_false_iff_not]; intro hp; have := (hp k hlt).2.1; rw [HH.out] at this; exact absurd this (by simp)), HB2.out⟩
        · have hH' : hasB (xs.take k) (nth xs k) = false := by simpa using hH
          have HH := Lib.hid hH'
          have hc2 : Hid (∀ x : Later wr, Calls Try.prog 38 #[.slice (some ⟨b, o, none⟩) k c, .int .i64 (nth xs k)] x.at fun e w2 => e = .returned (.bool false) ∧ ∃ y : Later wr, w2 = y.at) := by have := hcall2.out; rwa [hH'] at this
          clear hcall2 hH hH'
          by_cases hk0 : k = 0
          · have hb1 : decide ((0 : Int) < (k : Int)) = false := by simp; omega
            have hb2 : decide (0 < k) = false := by simp; omega
            have HK := Lib.hid hk0
            clear hk0 hb hprev
            go_wp2
            refine wp_region_later (by kernel_rfl) (by kernel_rfl) ?_
            repeat (go_big_quiet_step (first | (go_at_call 19; exact hc1.out _) | (go_at_call 38; exact hc2.out _)))
            refine wpQuiet_nil ?_
            rintro _ ⟨x, rfl⟩
            have HB2 : Hid (Below w1.heap.size w1 x.at) := HBr.out.trans (x.bel.mono HBr.out.size)
            clear kl hl2
            go_wp2
            go_roundw
            case rel => exact ⟨k + 1, by omega, by go_num, (fun j hj => by rcases Nat.lt_succ_iff_lt_or_eq.1 hj with h | h; exact HE.out j h; subst h; exact ⟨HI.out, HH.out, fun h5 => absurd h5 (by have := HK.out; omega)⟩), HB2.out⟩
            case measure => simp [intOf]; omega
          · have hb1 : decide ((0 : Int) < (k : Int)) = true := by simp; omega
            have hb2 : decide (0 < k) = true := by simp; omega
            have hp : 0 < k := by omega
            have hw2 : IntKind.i64.wrap ((k : Int) - 1) = (k : Int) - 1 := IntWalk.i64_in _ (by omega)
            have hw3 : 0 ≤ (k : Int) - 1 := by omega
            have hw3' : 1 ≤ (k : Int) := by omega
            have hw4 : ((k : Int) - 1).toNat = k - 1 := by omega
            have hw5 : (k : Int) - 1 < (xs.length : Int) := by omega
            have hcp := cell_keep hb (HC1.out (k - 1) (by omega))
            have hl3 := fun x : Later wr => x.cell hcp
            have hcall3 : Hid (∀ x : Later wr, Calls Try.prog 31 #[.agg #[.slice a0 L.length c0], .int .i64 (nth xs (k - 1)), .int .i64 (nth xs k)] x.at fun e w2 => e = .returned (.bool (hasB (nthR L (nth xs (k - 1)).toNat) (nth xs k))) ∧ ∃ y : Later wr, w2 = y.at) :=
              fun x => Calls.later (l1Edge_any _ _ _ _ _ (R.out.keep x.bel) (hprev hp).1 (hprev hp).2)
            clear hb hprev
            by_cases hE : hasB (nthR L (nth xs (k - 1)).toNat) (nth xs k) = true
            · have hc3 : Hid (∀ x : Later wr, Calls Try.prog 31 #[.agg #[.slice a0 L.length c0], .int .i64 (nth xs (k - 1)), .int .i64 (nth xs k)] x.at fun e w2 => e = .returned (.bool true) ∧ ∃ y : Later wr, w2 = y.at) := by have := hcall3.out; rwa [hE] at this
              have HX := Lib.hid hE
              clear hcall3 hE hk0
              go_wp2
              refine wp_region_later (by kernel_rfl) (by kernel_rfl) ?_
              repeat (go_big_quiet_step (first | (go_at_call 19; exact hc1.out _) | (go_at_call 38; exact hc2.out _) | (go_at_call 31; exact hc3.out _)))
              refine wpQuiet_nil ?_
              rintro _ ⟨x, rfl⟩
              have HB2 : Hid (Below w1.heap.size w1 x.at) := HBr.out.trans (x.bel.mono HBr.out.size)
              clear kl hl2 hl3
              go_wp2
              go_roundw
              case rel => exact ⟨k + 1, by omega, by go_num, (fun j hj => by rcases Nat.lt_succ_iff_lt_or_eq.1 hj with h | h; exact HE.out j h; subst h; exact ⟨HI.out, HH.out, fun _ => HX.out⟩), HB2.out⟩
              case measure => simp [intOf]; omega
            · have hE' : hasB (nthR L (nth xs (k - 1)).toNat) (nth xs k) = false := by simpa using hE
              have hc3 : Hid (∀ x : Later wr, Calls Try.prog 31 #[.agg #[.slice a0 L.length c0], .int .i64 (nth xs (k - 1)), .int .i64 (nth xs k)] x.at fun e w2 => e = .returned (.bool false) ∧ ∃ y : Later wr, w2 = y.at) := by have := hcall3.out; rwa [hE'] at this
              have HX := Lib.hid hE'
              clear hcall3 hE hE' hk0
              go_wp2
              refine wp_region_later (by kernel_rfl) (by kernel_rfl) ?_
              repeat (go_big_quiet_step (first | (go_at_call 19; exact hc1.out _) | (go_at_call 38; exact hc2.out _) | (go_at_call 31; exact hc3.out _)))
              refine wpQuiet_nil ?_
              rintro _ ⟨x, rfl⟩
              have HB2 : Hid (Below w.heap.size w x.at) := HBw.out.trans (x.bel.mono HBw.out.size)
              clear kl hl2 hl3
              all_goals go_wp2
              all_goals go_ret
              all_goals exact ⟨ret_bool (by symm; rw [decide_eq_false_iff_not]; intro hpp; have := (hpp k hlt).2.2 hp; rw [HX.out] at this; exact absurd this (by simp)), HB2.out⟩
      · have hin' : inB (nth xs k) 0 ((L.length : Int) - 1) = false := by simpa using hin
        have HI := Lib.hid hin'
        have hc1 : Hid (∀ x : Later wr, Calls Try.prog 19 #[.agg #[.slice a0 L.length c0], .int .i64 (nth xs k)] x.at fun e w2 => e = .returned (.bool false) ∧ ∃ y : Later wr, w2 = y.at) := by have := hcall1.out; rwa [hin'] at this
        clear hin hin' T hcall1 hcall2 hb hprev
        go_wp2
        refine wp_region_later (by kernel_rfl) (by kernel_rfl) ?_
        repeat (go_big_quiet_step ((go_at_call 19; exact hc1.out _)))
        refine wpQuiet_nil ?_
        rintro _ ⟨x, rfl⟩
        have HB2 : Hid (Below w.heap.size w x.at) := HBw.out.trans (x.bel.mono HBw.out.size)
        clear kl hl2
        all_goals go_wp2
        all_goals go_ret
        all_goals exact ⟨ret_bool (by symm; rw [decide_eq_false_iff_not]; intro hp; have := (hp k hlt).1; rw [HI.out] at this; exact absurd this (by simp)), HB2.out⟩
    · obtain rfl : k = xs.length := by omega
      go_wp2
      go_ret
      exact ⟨ret_bool (by symm; rw [decide_eq_true_iff]; exact HE.out), HB1.out.trans (hb.mono HB1.out.size)⟩

end Go.Proofs.Ytjbfoiolcpigfaa
