/- The texts A6, A7, joined. -/
import Derived.Test.YtohjfcfcopbmoaaQA1
import Derived.IntWalk

/- Walks: the model's set of numbers. -/
namespace Go.Proofs.Ytohjfcfcopbmoaa
open Go.RowKit

/-- Element i is in its place: a vertex below n, greater than the one before it. -/
def StepOk (xs : List Int) (n : Int) (i : Nat) : Prop := 0 ≤ nth xs i ∧ nth xs i ≤ n - 1 ∧ (0 < i → nth xs (i - 1) < nth xs i)
instance (xs : List Int) (n : Int) (i : Nat) : Decidable (StepOk xs n i) := by unfold StepOk; infer_instance
/-- A strictly increasing list of numbers from 0 to n - 1. -/
def SetP (xs : List Int) (n : Int) : Prop := ∀ i, i < xs.length → StepOk xs n i
instance (xs : List Int) (n : Int) : Decidable (SetP xs n) := by unfold SetP; infer_instance

theorem SetP.ge {xs : List Int} {n : Int} (h : SetP xs n) : ∀ i, i < xs.length → (i : Int) ≤ nth xs i := by
  intro i
  induction i with
  | zero => intro h0; exact (h 0 h0).1
  | succ i ih =>
    intro hi
    have := ih (by omega)
    have h2 := (h (i + 1) hi).2.2 (by omega)
    simp at h2
    omega
theorem SetP.len {xs : List Int} {n : Int} (h : SetP xs n) (hn : 0 ≤ n) : (xs.length : Int) ≤ n := by
  by_cases h0 : xs.length = 0
  · omega
  · have := h.ge (xs.length - 1) (by omega)
    have := (h (xs.length - 1) (by omega)).2.1
    omega

set_option maxHeartbeats 800000 in
theorem l1Set_any (v : Value) (xs : List Int) (n : Int) (w : World) (h : RowAt w v xs) (hn0 : 0 ≤ n) (hn1 : n ≤ 1048576) :
    Calls Try.prog 66 #[v, .int .i64 n] w fun e w' => e = .returned (.bool (decide (SetP xs n))) ∧ Drawn w w' := by
  have hl := h.len
  unfold maxLen at hl
  by_cases hbig : n < (xs.length : Int)
  · have e : decide (SetP xs n) = false := by
      rw [decide_eq_false_iff_not]; intro hs; have := hs.len hn0; omega
    rw [e]
    obtain ⟨a, c, rfl⟩ := h.slice
    go_enter Try.func66, Try.ntmps66
    go_wp2
    go_ret
    exact ⟨rfl, Drawn.refl _⟩
  · by_cases h0 : xs.length = 0
    · have e : decide (SetP xs n) = true := by rw [decide_eq_true_iff]; intro i hi; omega
      rw [e]
      obtain ⟨a, c, rfl⟩ := h.zero h0
      clear h h0 hl e hbig
      go_enter Try.func66, Try.ntmps66
      go_wp2
      refine wp_loop_rounds 1 ?_
      rw [rounds_succ]
      go_wp2
      go_ret
      exact ⟨rfl, Drawn.refl _⟩
    · obtain ⟨b, o, c, rfl, l1, l2, hc⟩ := h.pos (by omega)
      have HC := Lib.hid hc
      clear hc h0
      go_enter Try.func66, Try.ntmps66
      go_wp2
      go_loopw [5] (fun i wr => ∃ k : Nat, k ≤ xs.length ∧ i = .int .i64 k ∧ (∀ j, j < k → StepOk xs n j) ∧ Drawn w wr) (fun i _ => xs.length - (intOf i).toNat)
      case atStart => exact ⟨0, Nat.zero_le _, rfl, (fun j hj => absurd hj (by omega)), Drawn.refl _⟩
      case round =>
        obtain ⟨k, hk, rfl, he, hd⟩ := hrel
        have HE := Lib.hid he
        clear he
        by_cases hlt : k < xs.length
        · have hck := cell_drawn hd (HC.out k hlt)
          have hin : ∀ m, Calls Try.prog 65 #[.int .i64 (nth xs k), .int .i64 0, .int .i64 (n - 1)] (wr.drewN m) fun e w2 => e = .returned (.bool (inB (nth xs k) 0 (n - 1))) ∧ w2 = wr.drewN m :=
            fun m => (l1In_any _ _ _ _).mono fun _ _ ⟨h1, h2⟩ => ⟨h1, h2.symm⟩
          have hw1 : IntKind.i64.wrap (n - 1) = n - 1 := IntWalk.i64_in _ (by omega)
          by_cases hr : inB (nth xs k) 0 (n - 1) = true
          · rw [hr] at hin
            have HIN := Lib.hid hin
            clear hin
            have HR := Lib.hid hr
            clear hr
            by_cases hk0 : k = 0
            · have hb1 : decide ((0 : Int) < (k : Int)) = false := by simp; omega
              have hb2 : decide (0 < k) = false := by simp; omega
              have HK := Lib.hid hk0
              clear hk0
              go_wp2
              go_quiet ((go_at_call 65; exact Calls.quiet_of_same (HIN.out _)))
              go_wp2
              go_roundw
              case rel => exact ⟨k + 1, by omega, by go_num, (fun j hj => by rcases Nat.lt_succ_iff_lt_or_eq.1 hj with h | h; exact HE.out j h; subst h; have h4 := HR.out; simp [inB] at h4; exact ⟨h4.1, h4.2, fun h5 => absurd h5 (by have := HK.out; omega)⟩), hd.more _⟩
              case measure => simp [intOf]; omega
            · have hb1 : decide ((0 : Int) < (k : Int)) = true := by simp; omega
              have hb2 : decide (0 < k) = true := by simp; omega
              have hp : 0 < k := by omega
              have hw2 : IntKind.i64.wrap ((k : Int) - 1) = (k : Int) - 1 := IntWalk.i64_in _ (by omega)
              have hw3 : 0 ≤ (k : Int) - 1 := by omega
              have hw3' : 1 ≤ (k : Int) := by omega
              have hw4 : ((k : Int) - 1).toNat = k - 1 := by omega
              have hw5 : (k : Int) - 1 < (xs.length : Int) := by omega
              have hcp := cell_drawn hd (HC.out (k - 1) (by omega))
              by_cases hx : nth xs k ≤ nth xs (k - 1)
              · have hxb : decide (nth xs k ≤ nth xs (k - 1)) = true := by simpa using hx
                have HX := Lib.hid hx
                clear hx hk0
                go_wp2
                go_quiet ((go_at_call 65; exact Calls.quiet_of_same (HIN.out _)))
                go_wp2
                go_ret
                exact ⟨ret_bool (by symm; rw [decide_eq_false_iff_not]; intro hs; have h3 := (hs k hlt).2.2 hp; have := HX.out; omega), hd.more _⟩
              · have hxb : decide (nth xs k ≤ nth xs (k - 1)) = false := by simpa using hx
                have HX := Lib.hid hx
                clear hx hk0
                go_wp2
                go_quiet ((go_at_call 65; exact Calls.quiet_of_same (HIN.out _)))
                go_wp2
                go_roundw
                case rel => exact ⟨k + 1, by omega, by go_num, (fun j hj => by rcases Nat.lt_succ_iff_lt_or_eq.1 hj with h | h; exact HE.out j h; subst h; have h4 := HR.out; simp [inB] at h4; exact ⟨h4.1, h4.2, fun h5 => by have := HX.out; omega⟩), hd.more _⟩
                case measure => simp [intOf]; omega
          · have hrf : inB (nth xs k) 0 (n - 1) = false := by simpa using hr
            rw [hrf] at hin
            have HIN := Lib.hid hin
            have HR := Lib.hid hrf
            clear hin hrf hr
            go_wp2
            go_quiet ((go_at_call 65; exact Calls.quiet_of_same (HIN.out _)))
            go_wp2
            go_ret
            exact ⟨ret_bool (by symm; rw [decide_eq_false_iff_not]; intro hs; have h3 := hs k hlt; have h4 := HR.out; simp [inB] at h4; exact absurd h3.2.1 (by have := h4 h3.1; omega)), hd.more _⟩
        · obtain rfl : k = xs.length := by omega
          go_wp2
          go_ret
          exact ⟨ret_bool (by symm; rw [decide_eq_true_iff]; exact HE.out), hd⟩

end Go.Proofs.Ytohjfcfcopbmoaa

/- Walks: the model's word on valid graphs. -/
namespace Go.Proofs.Ytohjfcfcopbmoaa
open Go.RowKit

/-- Row v is a set of vertices without v. -/
def RowOk (L : List (List Int)) (v : Nat) : Prop := SetP (nthR L v) L.length ∧ hasB (nthR L v) v = false
instance (L : List (List Int)) (v : Nat) : Decidable (RowOk L v) := by unfold RowOk; infer_instance
/-- Each neighbour of v has v for a neighbour. -/
def BackOk (L : List (List Int)) (v : Nat) : Prop := ∀ i, i < (nthR L v).length → hasB (nthR L (nth (nthR L v) i).toNat) v = true
instance (L : List (List Int)) (v : Nat) : Decidable (BackOk L v) := by unfold BackOk; infer_instance
/-- The rows are those of a valid graph. -/
def GraphP (L : List (List Int)) : Prop := (1 ≤ L.length ∧ L.length ≤ 16) ∧ (∀ v, v < L.length → RowOk L v) ∧ ∀ v, v < L.length → BackOk L v
instance (L : List (List Int)) : Decidable (GraphP L) := by unfold GraphP; infer_instance

set_option maxHeartbeats 1000000 in
theorem specGraphOk_any (v : Value) (L : List (List Int)) (w : World) (h : GridAt w v L) :
    Calls Try.prog 52 #[.agg #[v]] w fun e w' => e = .returned (.bool (decide (GraphP L))) ∧ Below w.heap.size w w' := by
  have hl := h.len
  unfold maxLen at hl
  obtain ⟨a0, c0, rfl⟩ := h.slice
  have hbel : Below w.heap.size w (w.alloc (.cells #[.slice a0 L.length c0] 37)) := (Below.refl _ _).alloc (Nat.le_refl _) _
  have hk := h.keep hbel
  have HB := Lib.hid hbel
  clear hbel
  by_cases hsz : inB L.length 1 16 = true
  · have hsz' : (1 : Int) ≤ L.length ∧ (L.length : Int) ≤ 16 := by simpa [inB] using hsz
    obtain ⟨hz1, hz2⟩ := hsz'
    have HS := Lib.hid hsz
    clear hsz
    obtain ⟨b, o, c, A, C, e0, l1, l2, hc⟩ := hk.pos (by omega)
    simp only [Value.slice.injEq] at e0
    obtain ⟨rfl, -, rfl⟩ := e0
    have HC := Lib.hid hc
    clear hc
    go_enter Try.func52, Try.ntmps52
    go_wp2_with fail
    refine (l1Size_any _ _ _ hk).mono ?_
    rintro e w1 ⟨rfl, hb1⟩
    have kb : w1.cell? ⟨w.heap.size, 0, none⟩ = some (.slice (some ⟨b, o, none⟩) L.length c0) := by rw [hb1.cell (by simp)]; go_simp
    have HC1 : Hid (∀ i, i < L.length → w1.cell? ⟨b, o + i, none⟩ = some (.slice (A i) (nthR L i).length (C i)) ∧ RowAt w1 (.slice (A i) (nthR L i).length (C i)) (nthR L i)) :=
      fun i hi => ⟨cell_keep hb1 (HC.out i hi).1, (HC.out i hi).2.keep hb1⟩
    have HB1 : Hid (Below w.heap.size w w1) := HB.out.trans (hb1.mono (by simp))
    clear hb1 HC hk h HB
    go_wp2_with fail
    refine (l1In_any _ _ _ _).mono ?_
    rintro e w' ⟨rfl, rfl⟩
    rw [HS.out]
    go_wp2
    go_loopw [4] (fun i wr => ∃ k : Nat, k ≤ L.length ∧ i = .int .i64 k ∧ (∀ j, j < k → RowOk L j) ∧ Drawn w1 wr) (fun i _ => L.length - (intOf i).toNat)
    case atStart => exact ⟨0, Nat.zero_le _, rfl, (fun j hj => absurd hj (by omega)), Drawn.refl _⟩
    case round =>
      obtain ⟨k, hk, rfl, he, hd⟩ := hrel
      have HE := Lib.hid he
      clear he
      by_cases hlt : k < L.length
      · have hck := cell_drawn hd (HC1.out k hlt).1
        have hrk := (HC1.out k hlt).2.drawn hd
        have hkb := cell_drawn hd kb
        go_wp2_with fail
        refine (l1Set_any _ _ _ _ hrk (by omega) (by omega)).mono ?_
        rintro e w2 ⟨rfl, hd2⟩
        have hck2 := cell_drawn hd2 hck
        have hrk2 := hrk.drawn hd2
        have hkb2 := cell_drawn hd2 hkb
        have hd3 := hd.trans hd2
        clear hck hrk hkb hd2 hd
        by_cases hS : SetP (nthR L k) L.length
        · have eS : decide (SetP (nthR L k) L.length) = true := by simpa using hS
          have HSS := Lib.hid hS
          rw [eS]
          clear eS hS
          go_wp2_with fail
          refine (l1Has_any _ _ _ _ hrk2).mono ?_
          rintro e w' ⟨rfl, rfl⟩
          by_cases hH : hasB (nthR L k) k = true
          · have HH := Lib.hid hH
            rw [hH]
            clear hH
            go_wp2
            go_ret
            exact ⟨ret_bool (by symm; rw [decide_eq_false_iff_not]; intro hs; have := (hs.2.1 k hlt).2; rw [HH.out] at this; exact absurd this (by simp)), HB1.out.trans (hd3.below _)⟩
          · have hH' : hasB (nthR L k) k = false := by simpa using hH
            have HH := Lib.hid hH'
            rw [hH']
            clear hH hH'
            go_wp2
            go_roundw
            case rel => exact ⟨k + 1, by omega, by go_num, (fun j hj => by rcases Nat.lt_succ_iff_lt_or_eq.1 hj with h | h; exact HE.out j h; subst h; exact ⟨HSS.out, HH.out⟩), hd3⟩
            case measure => simp [intOf]; omega
        · have eS : decide (SetP (nthR L k) L.length) = false := by simpa using hS
          have HSS := Lib.hid hS
          rw [eS]
          clear eS hS
          go_wp2
          go_ret
          exact ⟨ret_bool (by symm; rw [decide_eq_false_iff_not]; intro hs; exact HSS.out (hs.2.1 k hlt).1), HB1.out.trans (hd3.below _)⟩
      · obtain rfl : k = L.length := by omega
        have hrows := HE.out
        have HE2 := Lib.hid hrows
        clear HE hrows
        go_wp2
        go_loopw [5] (fun i w2 => ∃ k : Nat, k ≤ L.length ∧ i = .int .i64 k ∧ (∀ j, j < k → BackOk L j) ∧ Drawn w1 w2) (fun i _ => L.length - (intOf i).toNat)
        case atStart => exact ⟨0, Nat.zero_le _, rfl, (fun j hj => absurd hj (by omega)), hd⟩
        case round =>
          rename World => w2
          obtain ⟨k, hk, rfl, he, hd2⟩ := hrel
          have HE := Lib.hid he
          clear he
          by_cases hlt : k < L.length
          · have hck := cell_drawn hd2 (HC1.out k hlt).1
            have hrk := (HC1.out k hlt).2.drawn hd2
            have hkb := cell_drawn hd2 kb
            have hrl : (nthR L k).length ≤ 16 := by have := (HE2.out k hlt).1.len (by omega); omega
            have HD2 := Lib.hid hd2
            by_cases hr0 : (nthR L k).length = 0
            · rw [hr0] at hck
              have HR0 := Lib.hid hr0
              clear hr0 hrk hd2
              go_wp2
              refine wp_loop_rounds 1 ?_
              rw [rounds_succ]
              go_wp2
              go_roundw
              case rel => exact ⟨k + 1, by omega, by go_num, (fun j hj => by rcases Nat.lt_succ_iff_lt_or_eq.1 hj with h | h; exact HE.out j h; subst h; intro i hi; rw [HR0.out] at hi; omega), HD2.out⟩
              case measure => simp [intOf]; omega
            · obtain ⟨b1, o1, c1, e1, m1, m2, hcr⟩ := hrk.pos (by omega)
              simp only [Value.slice.injEq, true_and] at e1
              obtain ⟨eA, eC⟩ := e1
              rw [eA, eC] at hck
              have HCR := Lib.hid hcr
              clear eA eC hr0 hrk hcr hd2
              go_wp2
              go_loopw [6] (fun i w3 => ∃ q : Nat, q ≤ (nthR L k).length ∧ i = .int .i64 q ∧ (∀ j, j < q → hasB (nthR L (nth (nthR L k) j).toNat) k = true) ∧ Drawn w2 w3) (fun i _ => (nthR L k).length - (intOf i).toNat)
              case atStart => exact ⟨0, Nat.zero_le _, rfl, (fun j hj => absurd hj (by omega)), Drawn.refl _⟩
              case round =>
                rename World => w3
                obtain ⟨q, hq, rfl, hf, hd3⟩ := hrel
                have HF := Lib.hid hf
                clear hf
                have hck3 := cell_drawn hd3 hck
                have hkb3 := cell_drawn hd3 hkb
                by_cases hql : q < (nthR L k).length
                · have hst := (HE2.out k hlt).1 q hql
                  have hx0 := hst.1
                  have hx1 := hst.2.1
                  have hcq := cell_drawn hd3 (HCR.out q hql)
                  generalize hgx : nth (nthR L k) q = x at *
                  have HGX := Lib.hid hgx
                  clear hgx hst
                  have hxl : x.toNat < L.length := by omega
                  have hx2 : x < (L.length : Int) := by omega
                  have hcx := cell_drawn hd3 (cell_drawn HD2.out (HC1.out _ hxl).1)
                  have hrx := Lib.hid (((HC1.out _ hxl).2.drawn HD2.out).drawn hd3)
                  have hcall : ∀ n, Calls Try.prog 37 #[.slice (A x.toNat) (nthR L x.toNat).length (C x.toNat), .int .i64 k] (w3.drewN n) fun e w4 => e = .returned (.bool (hasB (nthR L x.toNat) k)) ∧ w4 = w3.drewN n :=
                    fun n => (l1Has_any _ _ _ _ (hrx.out.drewN n)).mono fun _ _ ⟨h1, h2⟩ => ⟨h1, h2.symm⟩
                  by_cases hH : hasB (nthR L x.toNat) k = true
                  · rw [hH] at hcall
                    have HCall := Lib.hid hcall
                    have HH := Lib.hid hH
                    clear hcall hH
                    go_wp2
                    go_quiet ((go_at_call 37; exact Calls.quiet_of_same (HCall.out _)))
                    go_wp2
                    go_roundw
                    case rel => exact ⟨q + 1, by omega, by go_num, (fun j hj => by rcases Nat.lt_succ_iff_lt_or_eq.1 hj with h | h; exact HF.out j h; rw [h, HGX.out]; exact HH.out), hd3.more _⟩
                    case measure => simp [intOf]; omega
                  · have hH' : hasB (nthR L x.toNat) k = false := by simpa using hH
                    rw [hH'] at hcall
                    have HCall := Lib.hid hcall
                    have HH := Lib.hid hH'
                    clear hcall hH hH'
                    go_wp2
                    go_quiet ((go_at_call 37; exact Calls.quiet_of_same (HCall.out _)))
                    go_wp2
                    go_ret
                    exact ⟨ret_bool (by symm; rw [decide_eq_false_iff_not]; intro hs; have := hs.2.2 k hlt q hql; rw [HGX.out, HH.out] at this; exact absurd this (by simp)), HB1.out.trans ((HD2.out.trans (hd3.more _)).below _)⟩
                · obtain rfl : q = (nthR L k).length := by omega
                  go_wp2
                  go_roundw
                  case rel => exact ⟨k + 1, by omega, by go_num, (fun j hj => by rcases Nat.lt_succ_iff_lt_or_eq.1 hj with h | h; exact HE.out j h; subst h; exact HF.out), HD2.out.trans hd3⟩
                  case measure => simp [intOf]; omega
          · obtain rfl : k = L.length := by omega
            go_wp2
            go_ret
            exact ⟨ret_bool (by symm; rw [decide_eq_true_iff]; exact ⟨by omega, HE2.out, HE.out⟩), HB1.out.trans (hd2.below _)⟩
  · have hsz' : inB L.length 1 16 = false := by simpa using hsz
    have HS := Lib.hid hsz'
    clear hsz hsz'
    go_enter Try.func52, Try.ntmps52
    go_wp2_with fail
    refine (l1Size_any _ _ _ hk).mono ?_
    rintro e w1 ⟨rfl, hb1⟩
    have HB1 : Hid (Below w.heap.size w w1) := HB.out.trans (hb1.mono (by simp))
    clear hb1
    go_wp2_with fail
    refine (l1In_any _ _ _ _).mono ?_
    rintro e w' ⟨rfl, rfl⟩
    rw [HS.out]
    go_wp2
    go_ret
    exact ⟨ret_bool (by symm; rw [decide_eq_false_iff_not]; intro hs; have := HS.out; simp [inB] at this; have := hs.1; omega), HB1.out⟩

end Go.Proofs.Ytohjfcfcopbmoaa
