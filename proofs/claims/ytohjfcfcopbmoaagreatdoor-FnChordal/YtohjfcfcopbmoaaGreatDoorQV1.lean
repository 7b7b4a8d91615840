/- The texts V1, V2, V3, joined. -/
import Derived.Test.YtohjfcfcopbmoaaGreatDoorQLater
import Derived.Test.YtohjfcfcopbmoaaGreatDoorQE1

/- Walks: LoopOk, of the model. -/
namespace Go.Proofs.YtohjfcfcopbmoaaGreatDoor
open Go.RowKit

/-- Element k is a vertex, not among the first k, and a neighbour of the one before it. -/
def PathAt (L : List (List Int)) (xs : List Int) (k : Nat) : Prop :=
  inB (nth xs k) 0 ((L.length : Int) - 1) = true ∧ hasB (xs.take k) (nth xs k) = false ∧ (0 < k → hasB (nthR L (nth xs (k - 1)).toNat) (nth xs k) = true)
instance (L : List (List Int)) (xs : List Int) (k : Nat) : Decidable (PathAt L xs k) := by unfold PathAt; infer_instance
def PathP (L : List (List Int)) (xs : List Int) : Prop := ∀ k, k < xs.length → PathAt L xs k
instance (L : List (List Int)) (xs : List Int) : Decidable (PathP L xs) := by unfold PathP; infer_instance

set_option maxHeartbeats 2000000 in
theorem l3Path_any (v v1 : Value) (L : List (List Int)) (xs : List Int) (w : World) (h : GridAt w v L) (h1 : RowAt w v1 xs) (hx0 : 0 < xs.length) :
    Calls Tryz.prog 197 #[.agg #[v], v1] w fun e w' => e = .returned (.bool (decide (PathP L xs))) ∧ Below w.heap.size w w' := by
  have hl := h.len
  have hl1 := h1.len
  unfold maxLen at hl hl1
  obtain ⟨a0, c0, rfl⟩ := h.slice
  have ha : Below w.heap.size w (w.alloc (.cells #[.slice a0 L.length c0] 26)) := (Below.refl _ _).alloc (Nat.le_refl _) _
  have hk := h.keep ha
  have hr := h1.keep ha
  have HA := Lib.hid ha
  clear ha
  obtain ⟨b, o, c, rfl, l1, l2, hc⟩ := hr.pos (by omega)
  have kb1 : (w.alloc (.cells #[.slice a0 L.length c0] 26)).cell? ⟨w.heap.size, 0, none⟩ = some (.slice a0 L.length c0) := by go_simp
  obtain ⟨w1, hw1⟩ : ∃ w1, w.alloc (.cells #[.slice a0 L.length c0] 26) = w1 := ⟨_, rfl⟩
  go_enter Tryz.func197, Tryz.ntmps197
  go_wp2_with fail
  rw [hw1] at HA hk hr hc kb1
  have HC1 := Lib.hid hc
  have HB1 : Hid (Below w.heap.size w w1) := HA.out
  have R1 := Lib.hid hk
  have S1 := Lib.hid hr
  have hkb1 := Lib.hid kb1
  clear hc hk hr kb1 h1 h hw1 HA
  go_loopw [5] (fun i wr => ∃ k : Nat, k ≤ xs.length ∧ i = .int .i64 k ∧ (∀ j, j < k → PathAt L xs j) ∧ Below w1.heap.size w1 wr) (fun i _ => xs.length - (intOf i).toNat)
  case atStart => exact ⟨0, Nat.zero_le _, rfl, (fun j hj => absurd hj (by omega)), Below.refl _ _⟩
  case round =>
    obtain ⟨k, hk, rfl, he, hb⟩ := hrel
    have HE := Lib.hid he
    clear he
    by_cases hlt : k < xs.length
    · have hck := cell_keep hb (HC1.out k hlt)
      have kb := cell_keep hb hkb1.out
      have R := Lib.hid (R1.out.keep hb)
      have hcap : (k : Int) ≤ (c : Int) := by omega
      have T := Lib.hid ((S1.out.keep hb).take (fun i hi => cell_keep hb (HC1.out i hi)) l2 l1 k hk)
      have HBw : Hid (Below w.heap.size w wr) := HB1.out.trans (hb.mono HB1.out.size)
      have HBr := Lib.hid hb
      have kl := fun x : Later wr => x.cell kb
      have hl2 := fun x : Later wr => x.cell hck
      have hcall1 : Hid (∀ x : Later wr, Calls Tryz.prog 210 #[.agg #[.slice a0 L.length c0], .int .i64 (nth xs k)] x.at fun e w2 => e = .returned (.bool (inB (nth xs k) 0 ((L.length : Int) - 1))) ∧ ∃ y : Later wr, w2 = y.at) :=
        fun x => Calls.later (l1There_any _ _ _ _ (R.out.keep x.bel))
      have hcall2 : Hid (∀ x : Later wr, Calls Tryz.prog 104 #[.slice (some ⟨b, o, none⟩) k c, .int .i64 (nth xs k)] x.at fun e w2 => e = .returned (.bool (hasB (xs.take k) (nth xs k))) ∧ ∃ y : Later wr, w2 = y.at) :=
        fun x => Calls.later_same (l1Has_any _ _ _ _ (T.out.keep x.bel))
      have hprev : 0 < k → 0 ≤ nth xs (k - 1) ∧ nth xs (k - 1) < (L.length : Int) := fun h0 => by
        have := (HE.out (k - 1) (by omega)).1
        simp [inB] at this; omega
      by_cases hin : inB (nth xs k) 0 ((L.length : Int) - 1) = true
      · have HI := Lib.hid hin
        have hc1 : Hid (∀ x : Later wr, Calls Tryz.prog 210 #[.agg #[.slice a0 L.length c0], .int .i64 (nth xs k)] x.at fun e w2 => e = .returned (.bool true) ∧ ∃ y : Later wr, w2 = y.at) := by have := hcall1.out; rwa [hin] at this
        clear hcall1 hin
        by_cases hH : hasB (xs.take k) (nth xs k) = true
        · have HH := Lib.hid hH
          have hc2 : Hid (∀ x : Later wr, Calls Tryz.prog 104 #[.slice (some ⟨b, o, none⟩) k c, .int .i64 (nth xs k)] x.at fun e w2 => e = .returned (.bool true) ∧ ∃ y : Later wr, w2 = y.at) := by have := hcall2.out; rwa [hH] at this
          clear hcall2 hH hb hprev
          go_wp2
          refine wp_region_later (by kernel_rfl) (by kernel_rfl) ?_
          repeat (go_big_quiet_step (first | (go_at_call 210; exact hc1.out _) | (go_at_call 104; exact hc2.out _)))
          refine wpQuiet_nil ?_
          rintro _ ⟨x, rfl⟩
          have HB2 : Hid (Below w.heap.size w x.at) := HBw.out.trans (x.bel.mono HBw.out.size)
          clear kl hl2
          all_goals go_wp2
          all_goals go_ret
          all_goals exact ⟨ret_bool (by symm; rw [decide_eq_false_iff_not]; intro hp; have := (hp k hlt).2.1; rw [HH.out] at this; exact absurd this (by simp)), HB2.out⟩
        · have hH' : hasB (xs.take k) (nth xs k) = false := by simpa using hH
          have HH := Lib.hid hH'
          have hc2 : Hid (∀ x : Later wr, Calls Tryz.prog 104 #[.slice (some ⟨b, o, none⟩) k c, .int .i64 (nth xs k)] x.at fun e w2 => e = .returned (.bool false) ∧ ∃ y : Later wr, w2 = y.at) := by have := hcall2.out; rwa [hH'] at this
          clear hcall2 hH hH'
          by_cases hk0 : k = 0
          · have hb1 : decide ((0 : Int) < (k : Int)) = false := by simp; omega
            have hb2 : decide (0 < k) = false := by simp; omega
            have HK := Lib.hid hk0
            clear hk0 hb hprev
            go_wp2
            refine wp_region_later (by kernel_rfl) (by kernel_rfl) ?_
            repeat (go_big_quiet_step (first | (go_at_call 210; exact hc1.out _) | (go_at_call 104; exact hc2.out _)))
            refine wpQuiet_nil ?_
            rintro _ ⟨x, rfl⟩
            have HB2 : Hid (Below w1.heap.size w1 x.at) := HBr.out.trans (x.bel.mono HBr.out.size)
            clear kl hl2
            go_wp2
            go_roundw
            case rel => exact ⟨k + 1, by omega, by go_num, (fun j hj => by rcases Nat.lt_succ_iff_lt_or_eq.1 hj with h | h; exact HE.out j h; subst h; exact ⟨HI.out, HH.out, fun h5 => absurd h5 (by have := HK.out; omega)⟩), HB2.out⟩
            case measure => simp [intOf]; omega
          · have hb1 : decide ((0 : Int) < (k : Int)) = true := by simp; omega
            have hb2 : decide (0 < k) = true := by simp; omega
            have hp : 0 < k := by omega
            have hw2 : IntKind.i64.wrap ((k : Int) - 1) = (k : Int) - 1 := IntWalk.i64_in _ (by omega)
            have hw3 : 0 ≤ (k : Int) - 1 := by omega
            have hw3' : 1 ≤ (k : Int) := by omega
            have hw4 : ((k : Int) - 1).toNat = k - 1 := by omega
            have hw5 : (k : Int) - 1 < (xs.length : Int) := by omega
            have hcp := cell_keep hb (HC1.out (k - 1) (by omega))
            have hl3 := fun x : Later wr => x.cell hcp
            have hcall3 : Hid (∀ x : Later wr, Calls Tryz.prog 83 #[.agg #[.slice a0 L.length c0], .int .i64 (nth xs (k - 1)), .int .i64 (nth xs k)] x.at fun e w2 => e = .returned (.bool (hasB (nthR L (nth xs (k - 1)).toNat) (nth xs k))) ∧ ∃ y : Later wr, w2 = y.at) :=
              fun x => Calls.later (l1Edge_any _ _ _ _ _ (R.out.keep x.bel) (hprev hp).1 (hprev hp).2)
            clear hb hprev
            by_cases hE : hasB (nthR L (nth xs (k - 1)).toNat) (nth xs k) = true
            · have hc3 : Hid (∀ x : Later wr, Calls Tryz.prog 83 #[.agg #[.slice a0 L.length c0], .int .i64 (nth xs (k - 1)), .int .i64 (nth xs k)] x.at fun e w2 => e = .returned (.bool true) ∧ ∃ y : Later wr, w2 = y.at) := by have := hcall3.out; rwa [hE] at this
              have HX := Lib.hid hE
              clear hcall3 hE hk0
              go_wp2
              refine wp_region_later (by kernel_rfl) (by kernel_rfl) ?_
              repeat (go_big_quiet_step (first | (go_at_call 210; exact hc1.out _) | (go_at_call 104; exact hc2.out _) | (go_at_call 83; exact hc3.out _)))
              refine wpQuiet_nil ?_
              rintro _ ⟨x, rfl⟩
              have HB2 : Hid (Below w1.heap.size w1 x.at) := HBr.out.trans (x.bel.mono HBr.out.size)
              clear kl hl2 hl3
              go_wp2
              go_roundw
              case rel => exact ⟨k + 1, by omega, by go_num, (fun j hj => by rcases Nat.lt_succ_iff_lt_or_eq.1 hj with h | h; exact HE.out j h; subst h; exact ⟨HI.out, HH.out, fun _ => HX.out⟩), HB2.out⟩
              case measure => simp [intOf]; omega
            · have hE' : hasB (nthR L (nth xs (k - 1)).toNat) (nth xs k) = false := by simpa using hE
              have hc3 : Hid (∀ x : Later wr, Calls Tryz.prog 83 #[.agg #[.slice a0 L.length c0], .int .i64 (nth xs (k - 1)), .int .i64 (nth xs k)] x.at fun e w2 => e = .returned (.bool false) ∧ ∃ y : Later wr, w2 = y.at) := by have := hcall3.out; rwa [hE'] at this
              have HX := Lib.hid hE'
              clear hcall3 hE hE' hk0
              go_wp2
              refine wp_region_later (by kernel_rfl) (by kernel_rfl) ?_
              repeat (go_big_quiet_step (first | (go_at_call 210; exact hc1.out _) | (go_at_call 104; exact hc2.out _) | (go_at_call 83; exact hc3.out _)))
              refine wpQuiet_nil ?_
              rintro _ ⟨x, rfl⟩
              have HB2 : Hid (Below w.heap.size w x.at) := HBw.out.trans (x.bel.mono HBw.out.size)
              clear kl hl2 hl3
              all_goals go_wp2
              all_goals go_ret
              all_goals exact ⟨ret_bool (by symm; rw [decide_eq_false_iff_not]; intro hpp; have := (hpp k hlt).2.2 hp; rw [HX.out] at this; exact absurd this (by simp)), HB2.out⟩
      · have hin' : inB (nth xs k) 0 ((L.length : Int) - 1) = false := by simpa using hin
        have HI := Lib.hid hin'
        have hc1 : Hid (∀ x : Later wr, Calls Tryz.prog 210 #[.agg #[.slice a0 L.length c0], .int .i64 (nth xs k)] x.at fun e w2 => e = .returned (.bool false) ∧ ∃ y : Later wr, w2 = y.at) := by have := hcall1.out; rwa [hin'] at this
        clear hin hin' T hcall1 hcall2 hb hprev
        go_wp2
        refine wp_region_later (by kernel_rfl) (by kernel_rfl) ?_
        repeat (go_big_quiet_step ((go_at_call 210; exact hc1.out _)))
        refine wpQuiet_nil ?_
        rintro _ ⟨x, rfl⟩
        have HB2 : Hid (Below w.heap.size w x.at) := HBw.out.trans (x.bel.mono HBw.out.size)
        clear kl hl2
        all_goals go_wp2
        all_goals go_ret
        all_goals exact ⟨ret_bool (by symm; rw [decide_eq_false_iff_not]; intro hp; have := (hp k hlt).1; rw [HI.out] at this; exact absurd this (by simp)), HB2.out⟩
    · obtain rfl : k = xs.length := by omega
      go_wp2
      go_ret
      exact ⟨ret_bool (by symm; rw [decide_eq_true_iff]; exact HE.out), HB1.out.trans (hb.mono HB1.out.size)⟩

end Go.Proofs.YtohjfcfcopbmoaaGreatDoor

/- Walks: LoopOk, of the model and of the program. -/
namespace Go.Proofs.YtohjfcfcopbmoaaGreatDoor
open Go.RowKit

/-- What LoopOk answers. -/
def loopB (L : List (List Int)) (xs : List Int) : Bool :=
  decide (GraphP L) && decide (3 ≤ xs.length) && decide (xs.length ≤ L.length) && decide (PathP L xs) && hasB (nthR L (nth xs 0).toNat) (nth xs (xs.length - 1))

set_option maxHeartbeats 2000000 in
theorem specLoopOk_any (v v1 : Value) (L : List (List Int)) (xs : List Int) (w : World) (h : GridAt w v L) (h1 : RowAt w v1 xs) :
    Calls Tryz.prog 111 #[.agg #[v], v1] w fun e w' => e = .returned (.bool (loopB L xs)) ∧ Below w.heap.size w w' := by
  have hl := h.len
  have hl1 := h1.len
  unfold maxLen at hl hl1
  obtain ⟨a0, c0, rfl⟩ := h.slice
  have ha : Below w.heap.size w (w.alloc (.cells #[.slice a0 L.length c0] 26)) := (Below.refl _ _).alloc (Nat.le_refl _) _
  have hk := h.keep ha
  have R0 := Lib.hid (h1.keep ha)
  have HA := Lib.hid ha
  obtain ⟨a1, c1, rfl⟩ := h1.slice
  clear ha
  go_enter Tryz.func111, Tryz.ntmps111
  go_wp2_with fail
  refine (specGraphOk_any _ _ _ hk).mono ?_
  rintro e w1 ⟨rfl, hb1⟩
  have kb1 : w1.cell? ⟨w.heap.size, 0, none⟩ = some (.slice a0 L.length c0) := by rw [hb1.cell (by simp)]; go_simp
  have R1 := Lib.hid (hk.keep hb1)
  have S1 := Lib.hid (R0.out.keep hb1)
  have HB1 : Hid (Below w.heap.size w w1) := HA.out.trans (hb1.mono (by simp))
  clear hb1 hk h HA R0
  by_cases hG : GraphP L
  · have HE : Hid (loopB L xs = (decide (3 ≤ xs.length) && decide (xs.length ≤ L.length) && decide (PathP L xs) && hasB (nthR L (nth xs 0).toNat) (nth xs (xs.length - 1)))) := by show loopB L xs = _; simp [loopB, hG]
    rw [decide_eq_true hG]
    clear hG
    by_cases h3 : (xs.length : Int) < 3
    · have hd : decide ((xs.length : Int) < 3) = true := by simpa using h3
      have HE2 : Hid (loopB L xs = false) := by show _ = _; rw [HE.out, decide_eq_false (by omega)]; simp
      clear h3
      go_wp2
      go_ret
      exact ⟨ret_bool HE2.out.symm, HB1.out⟩
    · have hd : decide ((xs.length : Int) < 3) = false := by simpa using h3
      go_wp2_with fail
      refine (l1Size_any _ _ _ R1.out).mono ?_
      rintro e w2 ⟨rfl, hb2⟩
      have kb2 := cell_keep hb2 kb1
      have R2 := Lib.hid (R1.out.keep hb2)
      have S2 := Lib.hid (S1.out.keep hb2)
      have HB2 : Hid (Below w.heap.size w w2) := HB1.out.trans (hb2.mono HB1.out.size)
      clear hb2 kb1 R1 HB1 S1
      by_cases h4 : (L.length : Int) < (xs.length : Int)
      · have hd4 : decide ((L.length : Int) < (xs.length : Int)) = true := by simpa using h4
        have hd4' : decide (L.length < xs.length) = true := by simp; omega
        have HE2 : Hid (loopB L xs = false) := by show _ = _; rw [HE.out, decide_eq_false (p := xs.length ≤ L.length) (by omega)]; simp
        clear h4
        go_wp2
        go_ret
        exact ⟨ret_bool HE2.out.symm, HB2.out⟩
      · have hd4 : decide ((L.length : Int) < (xs.length : Int)) = false := by simpa using h4
        have hd4' : decide (L.length < xs.length) = false := by simp; omega
        have HE2 : Hid (loopB L xs = (decide (PathP L xs) && hasB (nthR L (nth xs 0).toNat) (nth xs (xs.length - 1)))) := by show _ = _; rw [HE.out, decide_eq_true (p := 3 ≤ xs.length) (by omega), decide_eq_true (p := xs.length ≤ L.length) (by omega)]; simp
        go_wp2_with fail
        refine (l3Path_any _ _ _ _ _ R2.out S2.out (by omega)).mono ?_
        rintro e w3 ⟨rfl, hb3⟩
        have kb3 := cell_keep hb3 kb2
        have R3 := Lib.hid (R2.out.keep hb3)
        have S3 := Lib.hid (S2.out.keep hb3)
        have HB3 : Hid (Below w.heap.size w w3) := HB2.out.trans (hb3.mono HB2.out.size)
        clear hb3 kb2 R2 HB2 S2
        by_cases hP : PathP L xs
        · have HE3 : Hid (loopB L xs = hasB (nthR L (nth xs 0).toNat) (nth xs (xs.length - 1))) := by show _ = _; rw [HE2.out, decide_eq_true hP]; simp
          rw [decide_eq_true hP]
          obtain ⟨b, o, c, e0, l1, l2, hc⟩ := S3.out.pos (by omega)
          simp only [Value.slice.injEq, true_and] at e0
          obtain ⟨rfl, rfl⟩ := e0
          have hx := (hP 0 (by omega)).1
          have hc0 := hc 0 (by omega)
          rw [Nat.add_zero] at hc0
          have hcl := hc (xs.length - 1) (by omega)
          have kl := fun x : Later w3 => x.cell kb3
          have hl2 := fun x : Later w3 => x.cell hc0
          have hl3 := fun x : Later w3 => x.cell hcl
          have hcall : Hid (∀ x : Later w3, Calls Tryz.prog 83 #[.agg #[.slice a0 L.length c0], .int .i64 (nth xs 0), .int .i64 (nth xs (xs.length - 1))] x.at fun e w2 => e = .returned (.bool (hasB (nthR L (nth xs 0).toNat) (nth xs (xs.length - 1)))) ∧ ∃ y : Later w3, w2 = y.at) :=
            fun x => Calls.later (l1Edge_any _ _ _ _ _ (R3.out.keep x.bel) (by simp [inB] at hx; omega) (by simp [inB] at hx; omega))
          have hw2 : IntKind.i64.wrap ((xs.length : Int) - 1) = (xs.length : Int) - 1 := IntWalk.i64_in _ (by omega)
          have hw3 : 0 ≤ (xs.length : Int) - 1 := by omega
          have hw3' : 1 ≤ (xs.length : Int) := by omega
          have hw4 : ((xs.length : Int) - 1).toNat = xs.length - 1 := by omega
          have hw6 : (0 : Int) < (xs.length : Int) := by omega
          have hw7 : 0 < xs.length := by omega
          clear hP hc hx
          go_wp2
          refine wp_region_later (by kernel_rfl) (by kernel_rfl) ?_
          repeat (go_big_quiet_step ((go_at_call 83; exact hcall.out _)))
          refine wpQuiet_nil ?_
          rintro _ ⟨x, rfl⟩
          have HB4 : Hid (Below w.heap.size w x.at) := HB3.out.trans (x.bel.mono HB3.out.size)
          clear kl hl2 hl3
          all_goals go_wp2
          all_goals go_ret
          all_goals exact ⟨ret_bool HE3.out.symm, HB4.out⟩
        · have HE3 : Hid (loopB L xs = false) := by show _ = _; rw [HE2.out, decide_eq_false hP]; simp
          rw [decide_eq_false hP]
          clear hP
          go_wp2
          go_ret
          exact ⟨ret_bool HE3.out.symm, HB3.out⟩
  · have HE : Hid (loopB L xs = false) := by show loopB L xs = _; simp [loopB, hG]
    rw [decide_eq_false hG]
    clear hG
    go_wp2
    go_ret
    exact ⟨ret_bool HE.out.symm, HB1.out⟩

/-- The element before element k, the last one before the first. -/
def prevL (xs : List Int) (k : Nat) : Int := if k = 0 then nth xs (xs.length - 1) else nth xs (k - 1)
/-- What the program asks of element k. -/
def GoodAt (L : List (List Int)) (xs : List Int) (k : Nat) : Prop := hasB (xs.take k) (nth xs k) = false ∧ edgeB L (prevL xs k) (nth xs k) = true

theorem hasM_take {xs : List Int} {k : Nat} (hk : k ≤ xs.length) (h : ∀ j, j < k → 0 ≤ nth xs j ∧ nth xs j < 16) (v : Int) : hasM (maskTo xs k) v = hasB (xs.take k) v := by
  have h3 := maskTo_bit xs k v.toNat (fun j hj => (h j hj).1)
  rw [Bool.eq_iff_iff, hasB_take hk]
  unfold hasM
  rw [Bool.and_eq_true, decide_eq_true_iff, h3]
  constructor
  · rintro ⟨_, j, hj, e⟩; exact ⟨j, hj, by omega⟩
  · rintro ⟨j, hj, e⟩; have := h j hj; exact ⟨by omega, j, hj, by omega⟩

theorem edgeB_in {L : List (List Int)} {u x : Int} (h : edgeB L u x = true) : GraphP L ∧ (0 ≤ u ∧ u < (L.length : Int)) ∧ (0 ≤ x ∧ x < (L.length : Int)) ∧ hasB (nthR L u.toNat) x = true := by
  unfold edgeB at h
  simp only [Bool.and_eq_true, decide_eq_true_iff, inB] at h
  obtain ⟨⟨⟨h1, h2⟩, h3⟩, h4⟩ := h
  exact ⟨h1, by omega, by omega, h4⟩
theorem edgeB_of {L : List (List Int)} {u x : Int} (hG : GraphP L) (hu : 0 ≤ u ∧ u < (L.length : Int)) (hx : 0 ≤ x ∧ x < (L.length : Int)) (h : hasB (nthR L u.toNat) x = true) : edgeB L u x = true := by
  unfold edgeB
  simp only [Bool.and_eq_true, decide_eq_true_iff, inB]
  exact ⟨⟨⟨hG, by omega⟩, by omega⟩, h⟩
theorem hasB_back {L : List (List Int)} (hG : GraphP L) {u x : Int} (hu : 0 ≤ u ∧ u < (L.length : Int)) (hx : 0 ≤ x ∧ x < (L.length : Int)) (h : hasB (nthR L u.toNat) x = true) : hasB (nthR L x.toNat) u = true := by
  obtain ⟨i, hi, e⟩ := (hasB_iff _ _).1 h
  have := hG.2.2 u.toNat (by omega) i hi
  rw [e] at this
  have e2 : ((u.toNat : Nat) : Int) = u := by omega
  rwa [e2] at this

/-- Numbers below n that are all different are n at most. -/
theorem apart_le (n : Nat) : ∀ (xs : List Int), (∀ k, k < xs.length → (0 ≤ nth xs k ∧ nth xs k < (n : Int)) ∧ hasB (xs.take k) (nth xs k) = false) → xs.length ≤ n := by
  intro xs h
  have hnd : xs.Nodup := by
    rw [List.nodup_iff_pairwise_ne, List.pairwise_iff_getElem]
    intro i j hi hj hij e
    have h2 := (h j hj).2
    have : hasB (xs.take j) (nth xs j) = true := by rw [hasB_take (by omega)]; exact ⟨i, hij, by rw [nth_eq hi, nth_eq hj]; exact e⟩
    rw [this] at h2; cases h2
  have hsub : ∀ x ∈ xs, x ∈ (List.range n).map (fun i : Nat => (i : Int)) := by
    intro x hx
    obtain ⟨i, hi, rfl⟩ := List.getElem_of_mem hx
    have := (h i hi).1
    rw [nth_eq hi] at this
    rw [List.mem_map]
    exact ⟨xs[i].toNat, by rw [List.mem_range]; omega, by omega⟩
  have := hnd.length_le_of_subset (fun x hx => hsub x hx)
  simpa using this

theorem loopB_good {L : List (List Int)} {xs : List Int} (h3 : 3 ≤ xs.length) : loopB L xs = true ↔ ∀ k, k < xs.length → GoodAt L xs k := by
  unfold loopB
  simp only [Bool.and_eq_true, decide_eq_true_iff]
  constructor
  · rintro ⟨⟨⟨⟨hG, -⟩, -⟩, hP⟩, hl⟩ k hk
    have hin : ∀ j, j < xs.length → 0 ≤ nth xs j ∧ nth xs j < (L.length : Int) := fun j hj => by have := (hP j hj).1; simp [inB] at this; omega
    refine ⟨(hP k hk).2.1, ?_⟩
    by_cases hk0 : k = 0
    · subst hk0
      have e : prevL xs 0 = nth xs (xs.length - 1) := rfl
      rw [e]
      exact edgeB_of hG (hin _ (by omega)) (hin _ hk) (hasB_back hG (hin _ hk) (hin _ (by omega)) hl)
    · have e : prevL xs k = nth xs (k - 1) := by unfold prevL; rw [if_neg hk0]
      rw [e]
      exact edgeB_of hG (hin _ (by omega)) (hin _ hk) ((hP k hk).2.2 (by omega))
  · intro h
    have hG := (edgeB_in (h 0 (by omega)).2).1
    have hin : ∀ j, j < xs.length → 0 ≤ nth xs j ∧ nth xs j < (L.length : Int) := fun j hj => (edgeB_in (h j hj).2).2.2.1
    refine ⟨⟨⟨⟨hG, h3⟩, apart_le _ _ (fun k hk => ⟨hin k hk, (h k hk).1⟩)⟩, ?_⟩, ?_⟩
    · intro k hk
      refine ⟨by have := hin k hk; simp [inB]; omega, (h k hk).1, fun h0 => ?_⟩
      have h2 := (edgeB_in (h k hk).2).2.2.2
      have e : prevL xs k = nth xs (k - 1) := by unfold prevL; rw [if_neg (by omega)]
      rwa [e] at h2
    · have h2 := edgeB_in (h 0 (by omega)).2
      have e : prevL xs 0 = nth xs (xs.length - 1) := rfl
      rw [e] at h2
      exact hasB_back hG h2.2.1 h2.2.2.1 h2.2.2.2

end Go.Proofs.YtohjfcfcopbmoaaGreatDoor

/- Walks: LoopOk, of the program. -/
namespace Go.Proofs.YtohjfcfcopbmoaaGreatDoor
open Go.RowKit

set_option maxHeartbeats 2000000 in
theorem implLoopOk_any (v v1 : Value) (L : List (List Int)) (xs : List Int) (w : World) (h : GridAt w v L) (h1 : RowAt w v1 xs) :
    Calls Tryz.prog 108 #[.agg #[v], v1] w fun e w' => e = .returned (.bool (loopB L xs)) ∧ Below w.heap.size w w' := by
  have hl := h.len
  have hl1 := h1.len
  unfold maxLen at hl hl1
  obtain ⟨a0, c0, rfl⟩ := h.slice
  by_cases h3 : (xs.length : Int) < 3
  · have hd : decide ((xs.length : Int) < 3) = true := by simpa using h3
    have HE2 : Hid (loopB L xs = false) := by show _ = _; unfold loopB; rw [decide_eq_false (p := 3 ≤ xs.length) (by omega)]; simp
    obtain ⟨a1, c1, rfl⟩ := h1.slice
    clear h3
    go_enter Tryz.func108, Tryz.ntmps108
    go_wp2
    go_ret
    exact ⟨ret_bool HE2.out.symm, (Below.refl _ _).alloc (Nat.le_refl _) _⟩
  · have hd : decide ((xs.length : Int) < 3) = false := by simpa using h3
    have ha : Below w.heap.size w ((w.alloc (.cells #[.slice a0 L.length c0] 26)).alloc (.cells #[.int .u32 0] 80)) := ((Below.refl _ _).alloc (Nat.le_refl _) _).alloc (by simp) _
    obtain ⟨b, o, c, rfl, l1, l2, hc⟩ := h1.pos (by omega)
    have HG : Hid (loopB L xs = true ↔ ∀ k, k < xs.length → GoodAt L xs k) := loopB_good (by omega)
    have hR := h.keep ha
    have hk1 : ((w.alloc (.cells #[.slice a0 L.length c0] 26)).alloc (.cells #[.int .u32 0] 80)).cell? ⟨w.heap.size, 0, none⟩ = some (.slice a0 L.length c0) := by go_simp
    have hm1 : ((w.alloc (.cells #[.slice a0 L.length c0] 26)).alloc (.cells #[.int .u32 0] 80)).rowIs (w.heap.size + 1) 80 1 (fun _ => .int .u32 ((0 : Nat) : Int)) := by
      have := World.rowIs_alloc (w.alloc (.cells #[.slice a0 L.length c0] 26)) #[.int .u32 0] 80 (fun _ => .int .u32 ((0 : Nat) : Int)) (fun i hi => by simp at hi; subst hi; rfl)
      simpa using this
    have hcl := cell_keep ha (hc (xs.length - 1) (by omega))
    have hX : ∀ x ∈ xs, I64 x := h1.1
    have hc' : ∀ i, i < xs.length → ((w.alloc (.cells #[.slice a0 L.length c0] 26)).alloc (.cells #[.int .u32 0] 80)).cell? ⟨b, o + i, none⟩ = some (.int .i64 (nth xs i)) := fun i hi => cell_keep ha (hc i hi)
    have hsz : ((w.alloc (.cells #[.slice a0 L.length c0] 26)).alloc (.cells #[.int .u32 0] 80)).heap.size = w.heap.size + 2 := by simp
    obtain ⟨w1, hw1⟩ : ∃ w1, (w.alloc (.cells #[.slice a0 L.length c0] 26)).alloc (.cells #[.int .u32 0] 80) = w1 := ⟨_, rfl⟩
    rw [hw1] at ha hR hk1 hm1 hcl hc' hsz
    have HA := Lib.hid ha
    have HC := Lib.hid hc'
    have R0 := Lib.hid h
    have C0 := Lib.hid hc
    have hw2 : IntKind.i64.wrap ((xs.length : Int) - 1) = (xs.length : Int) - 1 := IntWalk.i64_in _ (by omega)
    have hw3 : 0 ≤ (xs.length : Int) - 1 := by omega
    have hw3' : 1 ≤ (xs.length : Int) := by omega
    have hw4 : ((xs.length : Int) - 1).toNat = xs.length - 1 := by omega
    have hw6 : (0 : Int) < (xs.length : Int) := by omega
    have hw7 : 0 < xs.length := by omega
    clear hc hc' ha hR h h1 h3
    go_enter Tryz.func108, Tryz.ntmps108
    go_wp2
    have K1 := Lib.hid hk1
    have HM1 := Lib.hid hm1
    have HSZ := Lib.hid hsz
    clear hcl hw1 hk1 hm1 hsz hw2 hw3 hw3' hw4
    go_loopw [20, 6] (fun i l wr => ∃ k : Nat, k ≤ xs.length ∧ i = .int .i64 k ∧ l = .int .i64 (prevL xs k) ∧ (∀ j, j < k → GoodAt L xs j) ∧ wr.rowIs (w.heap.size + 1) 80 1 (fun _ => .int .u32 (maskTo xs k : Int)) ∧ wr.cell? ⟨w.heap.size, 0, none⟩ = some (.slice a0 L.length c0) ∧ Below w.heap.size w wr ∧ w.heap.size + 2 ≤ wr.heap.size) (fun i _ _ => xs.length - (intOf i).toNat)
    case atStart => exact ⟨0, Nat.zero_le _, rfl, by unfold prevL; rw [if_pos rfl], (fun j hj => absurd hj (by omega)), HM1.out, K1.out, HA.out, by rw [HSZ.out]; omega⟩
    case round =>
      obtain ⟨k, hk, rfl, rfl, he, hr, hkb, hb, hsz⟩ := hrel
      have HO := Lib.hid he
      have HB := Lib.hid hb
      have HR := Lib.hid hr
      clear he
      by_cases hlt : k < xs.length
      · have hin : ∀ j, j < k → 0 ≤ nth xs j ∧ nth xs j < 16 := fun j hj => by
          have h2 := edgeB_in (HO.out j hj).2
          have := h2.1.1
          have := h2.2.2.1
          omega
        have hck := cell_keep hb (C0.out k hlt)
        have hmc := hr.cell (i := 0) (by omega)
        have hmf := hr.frozen 0
        have hml : maskTo xs k < 65536 := maskTo_small (n := 16) (by omega) (fun j hj => by have := hin j hj; simp [inB]; omega)
        have hmb := hasM_take hk hin (nth xs k)
        have hp1 : Hid (I64 (prevL xs k)) := by show I64 _; unfold prevL; split <;> exact hX _ (nth_mem (by omega))
        have hp2 : Hid (I64 (nth xs k)) := hX _ (nth_mem hlt)
        have HN : Hid (∀ k', k' < xs.length → k' = k + 1 → prevL xs k' = nth xs k) := fun k' _ e => by subst e; unfold prevL; rw [if_neg (by omega)]; rfl
        have hpn : prevL xs (k + 1) = nth xs k := by unfold prevL; rw [if_neg (by omega)]; rfl
        have HPN := Lib.hid hpn
        have RW := Lib.hid (R0.out.keep hb)
        clear hr hb hin hpn HN
        by_cases hH : hasB (xs.take k) (nth xs k) = true
        · have HM : Hid (hasM (maskTo xs k) (nth xs k) = true) := by show _ = true; rw [hmb, hH]
          have HH := Lib.hid hH
          clear hH hmb
          go_wp2_with (go_at_call 78; refine (has_any _ _ _ hml).mono ?_; rintro e w' ⟨rfl, rfl⟩; rw [HM.out])
          go_ret
          exact ⟨ret_bool (by cases hq : loopB L xs with | false => rfl | true => have := ((HG.out.1 hq) k hlt).1; rw [HH.out] at this; exact this.symm), HB.out⟩
        · have hH' : hasB (xs.take k) (nth xs k) = false := by simpa using hH
          have HM : Hid (hasM (maskTo xs k) (nth xs k) = false) := by show _ = false; rw [hmb, hH']
          have HH := Lib.hid hH'
          clear hH hmb hH'
          by_cases hE : edgeB L (prevL xs k) (nth xs k) = true
          · have hx := (edgeB_in hE).2.2.1
            have hz := (edgeB_in hE).1.1
            have HX := Lib.hid hE
            have HGA : Hid (GoodAt L xs k) := ⟨HH.out, hE⟩
            clear hE
            go_wp2_with (first | (go_at_call 78; refine (has_any _ _ _ hml).mono ?_; rintro e w' ⟨rfl, rfl⟩; rw [HM.out]) | (go_at_call 195; refine (implEdgeIn_any _ _ _ _ _ RW.out hp1.out hp2.out).mono ?_; rintro e w2 ⟨rfl, hb2⟩; rw [HX.out]; have hmc2 := cell_keep hb2 hmc; have hmf2 := (HR.out.of_block (hb2.block _ HR.out.lt)).frozen 0; have HR2 := Lib.hid (HR.out.of_block (hb2.block _ HR.out.lt)); have hkb2 := cell_keep hb2 hkb; have HB2 : Hid (Below w.heap.size w w2) := HB.out.trans (hb2.mono HB.out.size); have hsz2 := hb2.size; clear hb2) | (go_at_call 109; refine (add_any _ _ _ _ _ hmc2 hmf2 hml hx.1 (by omega)).mono ?_; rintro e w4 ⟨rfl, hd4⟩))
            go_roundw
            case rel =>
              refine ⟨k + 1, by omega, by go_num, by rw [HPN.out], (fun j hj => by rcases Nat.lt_succ_iff_lt_or_eq.1 hj with h | h; exact HO.out j h; subst h; exact HGA.out), ?_, ?_, (HB2.out.setCell (p := ⟨w.heap.size + 1, 0, none⟩) (by simp) _).trans (hd4.below _), ?_⟩
              · exact (rowIs_drawn (HR2.out.set 0 _) hd4).congr (fun j hj => by simp [show j = 0 from by omega, maskTo])
              · refine cell_drawn hd4 ?_
                rw [World.cell?_setCell_other _ _ _ _ (by simp)]
                exact hkb2
              · have := (hd4.below w.heap.size).size; simp at this ⊢; omega
            case measure => simp [intOf]; omega
          · have hE' : edgeB L (prevL xs k) (nth xs k) = false := by simpa using hE
            have HX := Lib.hid hE'
            clear hE hE'
            go_wp2_with (first | (go_at_call 78; refine (has_any _ _ _ hml).mono ?_; rintro e w' ⟨rfl, rfl⟩; rw [HM.out]) | (go_at_call 195; refine (implEdgeIn_any _ _ _ _ _ RW.out hp1.out hp2.out).mono ?_; rintro e w2 ⟨rfl, hb2⟩; rw [HX.out]; have HB2 : Hid (Below w.heap.size w w2) := HB.out.trans (hb2.mono HB.out.size); clear hb2))
            go_ret
            exact ⟨ret_bool (by cases hq : loopB L xs with | false => rfl | true => have := ((HG.out.1 hq) k hlt).2; rw [HX.out] at this; exact this), HB2.out⟩
      · obtain rfl : k = xs.length := by omega
        go_wp2
        go_ret
        exact ⟨ret_bool (by symm; rw [HG.out]; exact HO.out), hb⟩

end Go.Proofs.YtohjfcfcopbmoaaGreatDoor
