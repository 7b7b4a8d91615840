/- The texts A6, A7, B1, B2, B3, joined. -/
import Derived.Test.YtohjfcfcopbmoaaGreatDoorQA1
import Derived.IntWalk
import Derived.Laws.BitsAllLaws

/- Walks: the model's set of numbers. -/
namespace Go.Proofs.YtohjfcfcopbmoaaGreatDoor
open Go.RowKit

/-- Element i is in its place: a vertex below n, greater than the one before it. -/
def StepOk (xs : List Int) (n : Int) (i : Nat) : Prop := 0 ≤ nth xs i ∧ nth xs i ≤ n - 1 ∧ (0 < i → nth xs (i - 1) < nth xs i)
instance (xs : List Int) (n : Int) (i : Nat) : Decidable (StepOk xs n i) := by unfold StepOk; infer_instance
/-- A strictly increasing list of numbers from 0 to n - 1. -/
def SetP (xs : List Int) (n : Int) : Prop := ∀ i, i < xs.length → StepOk xs n i
instance (xs : List Int) (n : Int) : Decidable (SetP xs n) := by unfold SetP; infer_instance

theorem SetP.ge {xs : List Int} {n : Int} (h : SetP xs n) : ∀ i, i < xs.length → (i : Int) ≤ nth xs i := by
  intro i
  induction i with
  | zero => intro h0; exact (h 0 h0).1
  | succ i ih =>
    intro hi
    have := ih (by omega)
    have h2 := (h (i + 1) hi).2.2 (by omega)
    simp at h2
    omega
theorem SetP.len {xs : List Int} {n : Int} (h : SetP xs n) (hn : 0 ≤ n) : (xs.length : Int) ≤ n := by
  by_cases h0 : xs.length = 0
  · omega
  · have := h.ge (xs.length - 1) (by omega)
    have := (h (xs.length - 1) (by omega)).2.1
    omega

set_option maxHeartbeats 800000 in
theorem l1Set_any (v : Value) (xs : List Int) (n : Int) (w : World) (h : RowAt w v xs) (hn0 : 0 ≤ n) (hn1 : n ≤ 1048576) :
    Calls Tryz.prog 103 #[v, .int .i64 n] w fun e w' => e = .returned (.bool (decide (SetP xs n))) ∧ Drawn w w' := by
  have hl := h.len
  unfold maxLen at hl
  by_cases hbig : n < (xs.length : Int)
  · have e : decide (SetP xs n) = false := by
      rw [decide_eq_false_iff_not]; intro hs; have := hs.len hn0; omega
    rw [e]
    obtain ⟨a, c, rfl⟩ := h.slice
    go_enter Tryz.func103, Tryz.ntmps103
    go_wp2
    go_ret
    exact ⟨rfl, Drawn.refl _⟩
  · by_cases h0 : xs.length = 0
    · have e : decide (SetP xs n) = true := by rw [decide_eq_true_iff]; intro i hi; omega
      rw [e]
      obtain ⟨a, c, rfl⟩ := h.zero h0
      clear h h0 hl e hbig
      go_enter Tryz.func103, Tryz.ntmps103
      go_wp2
      refine wp_loop_rounds 1 ?_
      rw [rounds_succ]
      go_wp2
      go_ret
      exact ⟨rfl, Drawn.refl _⟩
    · obtain ⟨b, o, c, rfl, l1, l2, hc⟩ := h.pos (by omega)
      have HC := Lib.hid hc
      clear hc h0
      go_enter Tryz.func103, Tryz.ntmps103
      go_wp2
      go_loopw [5] (fun i wr => ∃ k : Nat, k ≤ xs.length ∧ i = .int .i64 k ∧ (∀ j, j < k → StepOk xs n j) ∧ Drawn w wr) (fun i _ => xs.length - (intOf i).toNat)
      case atStart => exact ⟨0, Nat.zero_le _, rfl, (fun j hj => absurd hj (by omega)), Drawn.refl _⟩
      case round =>
        obtain ⟨k, hk, rfl, he, hd⟩ := hrel
        have HE := Lib.hid he
        clear he
        by_cases hlt : k < xs.length
        · have hck := cell_drawn hd (HC.out k hlt)
          have hin : ∀ m, Calls Tryz.prog 102 #[.int .i64 (nth xs k), .int .i64 0, .int .i64 (n - 1)] (wr.drewN m) fun e w2 => e = .returned (.bool (inB (nth xs k) 0 (n - 1))) ∧ w2 = wr.drewN m :=
            fun m => (l1In_any _ _ _ _).mono fun _ _ ⟨h1, h2⟩ => ⟨h1, h2.symm⟩
          have hw1 : IntKind.i64.wrap (n - 1) = n - 1 := IntWalk.i64_in _ (by omega)
          by_cases hr : inB (nth xs k) 0 (n - 1) = true
          · rw [hr] at hin
            have HIN := Lib.hid hin
            clear hin
            have HR := Lib.hid hr
            clear hr
            by_cases hk0 : k = 0
            · have hb1 : decide ((0 : Int) < (k : Int)) = false := by simp; omega
              have hb2 : decide (0 < k) = false := by simp; omega
              have HK := Lib.hid hk0
              clear hk0
              go_wp2
              go_quiet ((go_at_call 102; exact Calls.quiet_of_same (HIN.out _)))
              go_wp2
              go_roundw
              case rel => exact ⟨k + 1, by omega, by go_num, (fun j hj => by rcases Nat.lt_succ_iff_lt_or_eq.1 hj with h | h; exact HE.out j h; subst h; have h4 := HR.out; simp [inB] at h4; exact ⟨h4.1, h4.2, fun h5 => absurd h5 (by have := HK.out; omega)⟩), hd.more _⟩
              case measure => simp [intOf]; omega
            · have hb1 : decide ((0 : Int) < (k : Int)) = true := by simp; omega
              have hb2 : decide (0 < k) = true := by simp; omega
              have hp : 0 < k := by omega
              have hw2 : IntKind.i64.wrap ((k : Int) - 1) = (k : Int) - 1 := IntWalk.i64_in _ (by omega)
              have hw3 : 0 ≤ (k : Int) - 1 := by omega
              have hw3' : 1 ≤ (k : Int) := by omega
              have hw4 : ((k : Int) - 1).toNat = k - 1 := by omega
              have hw5 : (k : Int) - 1 < (xs.length : Int) := by omega
              have hcp := cell_drawn hd (HC.out (k - 1) (by omega))
              by_cases hx : nth xs k ≤ nth xs (k - 1)
              · have hxb : decide (nth xs k ≤ nth xs (k - 1)) = true := by simpa using hx
                have HX := Lib.hid hx
                clear hx hk0
                go_wp2
                go_quiet ((go_at_call 102; exact Calls.quiet_of_same (HIN.out _)))
                go_wp2
                go_ret
                exact ⟨ret_bool (by symm; rw [decide_eq_false_iff_not]; intro hs; have h3 := (hs k hlt).2.2 hp; have := HX.out; omega), hd.more _⟩
              · have hxb : decide (nth xs k ≤ nth xs (k - 1)) = false := by simpa using hx
                have HX := Lib.hid hx
                clear hx hk0
                go_wp2
                go_quiet ((go_at_call 102; exact Calls.quiet_of_same (HIN.out _)))
                go_wp2
                go_roundw
                case rel => exact ⟨k + 1, by omega, by go_num, (fun j hj => by rcases Nat.lt_succ_iff_lt_or_eq.1 hj with h | h; exact HE.out j h; subst h; have h4 := HR.out; simp [inB] at h4; exact ⟨h4.1, h4.2, fun h5 => by have := HX.out; omega⟩), hd.more _⟩
                case measure => simp [intOf]; omega
          · have hrf : inB (nth xs k) 0 (n - 1) = false := by simpa using hr
            rw [hrf] at hin
            have HIN := Lib.hid hin
            have HR := Lib.hid hrf
            clear hin hrf hr
            go_wp2
            go_quiet ((go_at_call 102; exact Calls.quiet_of_same (HIN.out _)))
            go_wp2
            go_ret
            exact ⟨ret_bool (by symm; rw [decide_eq_false_iff_not]; intro hs; have h3 := hs k hlt; have h4 := HR.out; simp [inB] at h4; exact absurd h3.2.1 (by have := h4 h3.1; omega)), hd.more _⟩
        · obtain rfl : k = xs.length := by omega
          go_wp2
          go_ret
          exact ⟨ret_bool (by symm; rw [decide_eq_true_iff]; exact HE.out), hd⟩

end Go.Proofs.YtohjfcfcopbmoaaGreatDoor

/- Walks: the model's word on valid graphs. -/
namespace Go.Proofs.YtohjfcfcopbmoaaGreatDoor
open Go.RowKit

/-- Row v is a set of vertices without v. -/
def RowOk (L : List (List Int)) (v : Nat) : Prop := SetP (nthR L v) L.length ∧ hasB (nthR L v) v = false
instance (L : List (List Int)) (v : Nat) : Decidable (RowOk L v) := by unfold RowOk; infer_instance
/-- Each neighbour of v has v for a neighbour. -/
def BackOk (L : List (List Int)) (v : Nat) : Prop := ∀ i, i < (nthR L v).length → hasB (nthR L (nth (nthR L v) i).toNat) v = true
instance (L : List (List Int)) (v : Nat) : Decidable (BackOk L v) := by unfold BackOk; infer_instance
/-- The rows are those of a valid graph. -/
def GraphP (L : List (List Int)) : Prop := (1 ≤ L.length ∧ L.length ≤ 16) ∧ (∀ v, v < L.length → RowOk L v) ∧ ∀ v, v < L.length → BackOk L v
instance (L : List (List Int)) : Decidable (GraphP L) := by unfold GraphP; infer_instance

set_option maxHeartbeats 1000000 in
theorem specGraphOk_any (v : Value) (L : List (List Int)) (w : World) (h : GridAt w v L) :
    Calls Tryz.prog 29 #[.agg #[v]] w fun e w' => e = .returned (.bool (decide (GraphP L))) ∧ Below w.heap.size w w' := by
  have hl := h.len
  unfold maxLen at hl
  obtain ⟨a0, c0, rfl⟩ := h.slice
  have hbel : Below w.heap.size w (w.alloc (.cells #[.slice a0 L.length c0] 26)) := (Below.refl _ _).alloc (Nat.le_refl _) _
  have hk := h.keep hbel
  have HB := Lib.hid hbel
  clear hbel
  by_cases hsz : inB L.length 1 16 = true
  · have hsz' : (1 : Int) ≤ L.length ∧ (L.length : Int) ≤ 16 := by simpa [inB] using hsz
    obtain ⟨hz1, hz2⟩ := hsz'
    have HS := Lib.hid hsz
    clear hsz
    obtain ⟨b, o, c, A, C, e0, l1, l2, hc⟩ := hk.pos (by omega)
    simp only [Value.slice.injEq] at e0
    obtain ⟨rfl, -, rfl⟩ := e0
    have HC := Lib.hid hc
    clear hc
    go_enter Tryz.func29, Tryz.ntmps29
    go_wp2_with fail
    refine (l1Size_any _ _ _ hk).mono ?_
    rintro e w1 ⟨rfl, hb1⟩
    have kb : w1.cell? ⟨w.heap.size, 0, none⟩ = some (.slice (some ⟨b, o, none⟩) L.length c0) := by rw [hb1.cell (by simp)]; go_simp
    have HC1 : Hid (∀ i, i < L.length → w1.cell? ⟨b, o + i, none⟩ = some (.slice (A i) (nthR L i).length (C i)) ∧ RowAt w1 (.slice (A i) (nthR L i).length (C i)) (nthR L i)) :=
      fun i hi => ⟨cell_keep hb1 (HC.out i hi).1, (HC.out i hi).2.keep hb1⟩
    have HB1 : Hid (Below w.heap.size w w1) := HB.out.trans (hb1.mono (by simp))
    clear hb1 HC hk h HB
    go_wp2_with fail
    refine (l1In_any _ _ _ _).mono ?_
    rintro e w' ⟨rfl, rfl⟩
    rw [HS.out]
    go_wp2
    go_loopw [4] (fun i wr => ∃ k : Nat, k ≤ L.length ∧ i = .int .i64 k ∧ (∀ j, j < k → RowOk L j) ∧ Drawn w1 wr) (fun i _ => L.length - (intOf i).toNat)
    case atStart => exact ⟨0, Nat.zero_le _, rfl, (fun j hj => absurd hj (by omega)), Drawn.refl _⟩
    case round =>
      obtain ⟨k, hk, rfl, he, hd⟩ := hrel
      have HE := Lib.hid he
      clear he
      by_cases hlt : k < L.length
      · have hck := cell_drawn hd (HC1.out k hlt).1
        have hrk := (HC1.out k hlt).2.drawn hd
        have hkb := cell_drawn hd kb
        go_wp2_with fail
        refine (l1Set_any _ _ _ _ hrk (by omega) (by omega)).mono ?_
        rintro e w2 ⟨rfl, hd2⟩
        have hck2 := cell_drawn hd2 hck
        have hrk2 := hrk.drawn hd2
        have hkb2 := cell_drawn hd2 hkb
        have hd3 := hd.trans hd2
        clear hck hrk hkb hd2 hd
        by_cases hS : SetP (nthR L k) L.length
        · have eS : decide (SetP (nthR L k) L.length) = true := by simpa using hS
          have HSS := Lib.hid hS
          rw [eS]
          clear eS hS
          go_wp2_with fail
          refine (l1Has_any _ _ _ _ hrk2).mono ?_
          rintro e w' ⟨rfl, rfl⟩
          by_cases hH : hasB (nthR L k) k = true
          · have HH := Lib.hid hH
            rw [hH]
            clear hH
            go_wp2
            go_ret
            exact ⟨ret_bool (by symm; rw [decide_eq_false_iff_not]; intro hs; have := (hs.2.1 k hlt).2; rw [HH.out] at this; exact absurd this (by simp)), HB1.out.trans (hd3.below _)⟩
          · have hH' : hasB (nthR L k) k = false := by simpa using hH
            have HH := Lib.hid hH'
            rw [hH']
            clear hH hH'
            go_wp2
            go_roundw
            case rel => exact ⟨k + 1, by omega, by go_num, (fun j hj => by rcases Nat.lt_succ_iff_lt_or_eq.1 hj with h | h; exact HE.out j h; subst h; exact ⟨HSS.out, HH.out⟩), hd3⟩
            case measure => simp [intOf]; omega
        · have eS : decide (SetP (nthR L k) L.length) = false := by simpa using hS
          have HSS := Lib.hid hS
          rw [eS]
          clear eS hS
          go_wp2
          go_ret
          exact ⟨ret_bool (by symm; rw [decide_eq_false_iff_not]; intro hs; exact HSS.out (hs.2.1 k hlt).1), HB1.out.trans (hd3.below _)⟩
      · obtain rfl : k = L.length := by omega
        have hrows := HE.out
        have HE2 := Lib.hid hrows
        clear HE hrows
        go_wp2
        go_loopw [5] (fun i w2 => ∃ k : Nat, k ≤ L.length ∧ i = .int .i64 k ∧ (∀ j, j < k → BackOk L j) ∧ Drawn w1 w2) (fun i _ => L.length - (intOf i).toNat)
        case atStart => exact ⟨0, Nat.zero_le _, rfl, (fun j hj => absurd hj (by omega)), hd⟩
        case round =>
          rename World => w2
          obtain ⟨k, hk, rfl, he, hd2⟩ := hrel
          have HE := Lib.hid he
          clear he
          by_cases hlt : k < L.length
          · have hck := cell_drawn hd2 (HC1.out k hlt).1
            have hrk := (HC1.out k hlt).2.drawn hd2
            have hkb := cell_drawn hd2 kb
            have hrl : (nthR L k).length ≤ 16 := by have := (HE2.out k hlt).1.len (by omega); omega
            have HD2 := Lib.hid hd2
            by_cases hr0 : (nthR L k).length = 0
            · rw [hr0] at hck
              have HR0 := Lib.hid hr0
              clear hr0 hrk hd2
              go_wp2
              refine wp_loop_rounds 1 ?_
              rw [rounds_succ]
              go_wp2
              go_roundw
              case rel => exact ⟨k + 1, by omega, by go_num, (fun j hj => by rcases Nat.lt_succ_iff_lt_or_eq.1 hj with h | h; exact HE.out j h; subst h; intro i hi; rw [HR0.out] at hi; omega), HD2.out⟩
              case measure => simp [intOf]; omega
            · obtain ⟨b1, o1, c1, e1, m1, m2, hcr⟩ := hrk.pos (by omega)
              simp only [Value.slice.injEq, true_and] at e1
              obtain ⟨eA, eC⟩ := e1
              rw [eA, eC] at hck
              have HCR := Lib.hid hcr
              clear eA eC hr0 hrk hcr hd2
              go_wp2
              go_loopw [6] (fun i w3 => ∃ q : Nat, q ≤ (nthR L k).length ∧ i = .int .i64 q ∧ (∀ j, j < q → hasB (nthR L (nth (nthR L k) j).toNat) k = true) ∧ Drawn w2 w3) (fun i _ => (nthR L k).length - (intOf i).toNat)
              case atStart => exact ⟨0, Nat.zero_le _, rfl, (fun j hj => absurd hj (by omega)), Drawn.refl _⟩
              case round =>
                rename World => w3
                obtain ⟨q, hq, rfl, hf, hd3⟩ := hrel
                have HF := Lib.hid hf
                clear hf
                have hck3 := cell_drawn hd3 hck
                have hkb3 := cell_drawn hd3 hkb
                by_cases hql : q < (nthR L k).length
                · have hst := (HE2.out k hlt).1 q hql
                  have hx0 := hst.1
                  have hx1 := hst.2.1
                  have hcq := cell_drawn hd3 (HCR.out q hql)
                  generalize hgx : nth (nthR L k) q = x at *
                  have HGX := Lib.hid hgx
                  clear hgx hst
                  have hxl : x.toNat < L.length := by omega
                  have hx2 : x < (L.length : Int) := by omega
                  have hcx := cell_drawn hd3 (cell_drawn HD2.out (HC1.out _ hxl).1)
                  have hrx := Lib.hid (((HC1.out _ hxl).2.drawn HD2.out).drawn hd3)
                  have hcall : ∀ n, Calls Tryz.prog 104 #[.slice (A x.toNat) (nthR L x.toNat).length (C x.toNat), .int .i64 k] (w3.drewN n) fun e w4 => e = .returned (.bool (hasB (nthR L x.toNat) k)) ∧ w4 = w3.drewN n :=
                    fun n => (l1Has_any _ _ _ _ (hrx.out.drewN n)).mono fun _ _ ⟨h1, h2⟩ => ⟨h1, h2.symm⟩
                  by_cases hH : hasB (nthR L x.toNat) k = true
                  · rw [hH] at hcall
                    have HCall := Lib.hid hcall
                    have HH := Lib.hid hH
                    clear hcall hH
                    go_wp2
                    go_quiet ((go_at_call 104; exact Calls.quiet_of_same (HCall.out _)))
                    go_wp2
                    go_roundw
                    case rel => exact ⟨q + 1, by omega, by go_num, (fun j hj => by rcases Nat.lt_succ_iff_lt_or_eq.1 hj with h | h; exact HF.out j h; rw [h, HGX.out]; exact HH.out), hd3.more _⟩
                    case measure => simp [intOf]; omega
                  · have hH' : hasB (nthR L x.toNat) k = false := by simpa using hH
                    rw [hH'] at hcall
                    have HCall := Lib.hid hcall
                    have HH := Lib.hid hH'
                    clear hcall hH hH'
                    go_wp2
                    go_quiet ((go_at_call 104; exact Calls.quiet_of_same (HCall.out _)))
                    go_wp2
                    go_ret
                    exact ⟨ret_bool (by symm; rw [decide_eq_false_iff_not]; intro hs; have := hs.2.2 k hlt q hql; rw [HGX.out, HH.out] at this; exact absurd this (by simp)), HB1.out.trans ((HD2.out.trans (hd3.more _)).below _)⟩
                · obtain rfl : q = (nthR L k).length := by omega
                  go_wp2
                  go_roundw
                  case rel => exact ⟨k + 1, by omega, by go_num, (fun j hj => by rcases Nat.lt_succ_iff_lt_or_eq.1 hj with h | h; exact HE.out j h; subst h; exact HF.out), HD2.out.trans hd3⟩
                  case measure => simp [intOf]; omega
          · obtain rfl : k = L.length := by omega
            go_wp2
            go_ret
            exact ⟨ret_bool (by symm; rw [decide_eq_true_iff]; exact ⟨by omega, HE2.out, HE.out⟩), HB1.out.trans (hd2.below _)⟩
  · have hsz' : inB L.length 1 16 = false := by simpa using hsz
    have HS := Lib.hid hsz'
    clear hsz hsz'
    go_enter Tryz.func29, Tryz.ntmps29
    go_wp2_with fail
    refine (l1Size_any _ _ _ hk).mono ?_
    rintro e w1 ⟨rfl, hb1⟩
    have HB1 : Hid (Below w.heap.size w w1) := HB.out.trans (hb1.mono (by simp))
    clear hb1
    go_wp2_with fail
    refine (l1In_any _ _ _ _).mono ?_
    rintro e w' ⟨rfl, rfl⟩
    rw [HS.out]
    go_wp2
    go_ret
    exact ⟨ret_bool (by symm; rw [decide_eq_false_iff_not]; intro hs; have := HS.out; simp [inB] at this; have := hs.1; omega), HB1.out⟩

end Go.Proofs.YtohjfcfcopbmoaaGreatDoor

/- Walks: masks. -/
namespace Go.Proofs.YtohjfcfcopbmoaaGreatDoor
open Go.RowKit

theorem isVertex_any (v n : Int) (w : World) : Calls Tryz.prog 170 #[.int .i64 v, .int .i64 n] w fun e w' => e = .returned (.bool (decide (0 ≤ v ∧ v < n))) ∧ w = w' := by
  by_cases h1 : 0 ≤ v
  · by_cases h2 : v < n
    · have e : decide (0 ≤ v ∧ v < n) = true := by simp [h1, h2]
      rw [e]
      go_enter Tryz.func170, Tryz.ntmps170
      go_wp2
      go_ret
      exact ⟨rfl, rfl⟩
    · have e : decide (0 ≤ v ∧ v < n) = false := by simp [h2]
      have d2 : decide (v < n) = false := by simpa using h2
      rw [e]
      go_enter Tryz.func170, Tryz.ntmps170
      go_wp2
      go_ret
      exact ⟨rfl, rfl⟩
  · have e : decide (0 ≤ v ∧ v < n) = false := by simp [h1]
    have d1 : decide (0 ≤ v) = false := by simpa using h1
    rw [e]
    go_enter Tryz.func170, Tryz.ntmps170
    go_wp2
    go_ret
    exact ⟨rfl, rfl⟩

theorem sizeOk_any (n : Int) (w : World) : Calls Tryz.prog 167 #[.int .i64 n] w fun e w' => e = .returned (.bool (inB n 1 16)) ∧ w = w' := by
  by_cases h1 : 1 ≤ n
  · by_cases h2 : n ≤ 16
    · have e : inB n 1 16 = true := by simp [inB, h1, h2]
      rw [e]
      go_enter Tryz.func167, Tryz.ntmps167
      go_wp2
      go_ret
      exact ⟨rfl, rfl⟩
    · have e : inB n 1 16 = false := by simp [inB, h2]
      have d2 : decide (n ≤ 16) = false := by simpa using h2
      rw [e]
      go_enter Tryz.func167, Tryz.ntmps167
      go_wp2
      go_ret
      exact ⟨rfl, rfl⟩
  · have e : inB n 1 16 = false := by simp [inB, h1]
    have d1 : decide (1 ≤ n) = false := by simpa using h1
    rw [e]
    go_enter Tryz.func167, Tryz.ntmps167
    go_wp2
    go_ret
    exact ⟨rfl, rfl⟩

theorem bit_test (M k : Nat) (hM : M < 65536) : (bits BinOp.and IntKind.u32 ((M : Int) / 2 ^ k) 1 == 1) = M.testBit k := by
  have h1 : ((M : Int) / 2 ^ k) = ((M / 2 ^ k : Nat) : Int) := by simp
  have h2 : M / 2 ^ k ≤ M := Nat.div_le_self _ _
  have h3 : (1 : Int) = ((1 : Nat) : Int) := rfl
  rw [h1, h3, u32_and_nat _ _ (by omega) (by omega)]
  rw [Nat.testBit_eq_decide_div_mod_eq, Nat.and_one_is_mod, Bool.eq_iff_iff, beq_iff_eq, decide_eq_true_iff]
  omega

/-- Does mask M hold v? -/
def hasM (M : Nat) (v : Int) : Bool := decide (0 ≤ v ∧ v < 16) && M.testBit v.toNat

theorem has_any (M : Nat) (v : Int) (w : World) (hM : M < 65536) : Calls Tryz.prog 78 #[.int .u32 M, .int .i64 v] w fun e w' => e = .returned (.bool (hasM M v)) ∧ w = w' := by
  unfold hasM
  by_cases h1 : 0 ≤ v ∧ v < 16
  · have e : decide (0 ≤ v ∧ v < 16) = true := by simpa using h1
    have HE := Lib.hid e
    clear e
    obtain ⟨h2, h3⟩ := h1
    go_enter Tryz.func78, Tryz.ntmps78
    go_wp2_with fail
    refine (isVertex_any _ _ _).mono ?_
    rintro e w' ⟨rfl, rfl⟩
    rw [HE.out]
    go_wp2
    go_ret
    exact ⟨ret_bool (by rw [bit_test M _ hM, HE.out]; rfl), rfl⟩
  · have e : decide (0 ≤ v ∧ v < 16) = false := by simpa using h1
    have HE := Lib.hid e
    clear e h1
    go_enter Tryz.func78, Tryz.ntmps78
    go_wp2_with fail
    refine (isVertex_any _ _ _).mono ?_
    rintro e w' ⟨rfl, rfl⟩
    rw [HE.out]
    go_wp2
    go_ret
    exact ⟨ret_bool (by rw [HE.out]; rfl), rfl⟩

theorem pow_lt16 {k : Nat} (hk : k < 16) : 2 ^ k < 65536 := Nat.pow_lt_pow_right (by omega) hk
theorem bit_set (M k : Nat) (hM : M < 65536) (hk : k < 16) : bits BinOp.or IntKind.u32 (M : Int) (2 ^ k % 4294967296) = ((M ||| 2 ^ k : Nat) : Int) := by
  have h2 := pow_lt16 hk
  have h1 : ((2 : Int) ^ k % 4294967296) = ((2 ^ k : Nat) : Int) := by
    have : ((2 : Int) ^ k) = ((2 ^ k : Nat) : Int) := by simp
    rw [this]
    generalize 2 ^ k = q at h2
    omega
  rw [h1, u32_or_nat _ _ (by omega) (by omega)]
theorem or_lt16 {M k : Nat} (hM : M < 65536) (hk : k < 16) : M ||| 2 ^ k < 65536 := by
  have h2 := pow_lt16 hk
  exact Nat.or_lt_two_pow (n := 16) hM h2

set_option maxHeartbeats 400000 in
theorem add_any (b o M : Nat) (v : Int) (w : World) (hc : w.cell? ⟨b, o, none⟩ = some (.int .u32 M)) (hf : w.frozen? ⟨b, o, none⟩ = false) (hM : M < 65536) (h1 : 0 ≤ v) (h2 : v < 16) :
    Calls Tryz.prog 109 #[.pointer (some ⟨b, o, none⟩), .int .i64 v] w fun e w' => e = .returned (.tuple #[]) ∧ Drawn (w.setCell ⟨b, o, none⟩ (.int .u32 ((M ||| 2 ^ v.toNat : Nat) : Int))) w' := by
  have e : decide (0 ≤ v ∧ v < 16) = true := by simp [h1, h2]
  have HE := Lib.hid e
  clear e
  go_enter Tryz.func109, Tryz.ntmps109
  go_wp2_with fail
  refine (isVertex_any _ _ _).mono ?_
  rintro e w' ⟨rfl, rfl⟩
  rw [HE.out]
  go_wp2
  go_region
  go_end0
  exact ⟨rfl, by rw [bit_set M _ hM (by omega)]; exact (Drawn.refl _).drew⟩

end Go.Proofs.YtohjfcfcopbmoaaGreatDoor

/- Walks: the mask of a row. -/
namespace Go.Proofs.YtohjfcfcopbmoaaGreatDoor
open Go.RowKit

/-- The mask of the first k elements. -/
def maskTo (xs : List Int) : Nat → Nat
  | 0 => 0
  | k + 1 => maskTo xs k ||| 2 ^ (nth xs k).toNat

theorem maskTo_lt {xs : List Int} {n : Int} (h : ∀ j, j < xs.length → 0 ≤ nth xs j ∧ nth xs j ≤ n - 1) (hn : n ≤ 16) : ∀ k, k ≤ xs.length → maskTo xs k < 65536
  | 0, _ => by simp [maskTo]
  | k + 1, hk => or_lt16 (maskTo_lt h hn k (by omega)) (by have := h k (by omega); omega)

theorem maskTo_bit (xs : List Int) (k i : Nat) (h : ∀ j, j < k → 0 ≤ nth xs j) : (maskTo xs k).testBit i = true ↔ ∃ j, j < k ∧ nth xs j = i := by
  induction k with
  | zero => simp [maskTo]
  | succ k ih =>
    have h0 := h k (by omega)
    rw [maskTo, Nat.testBit_or, Bool.or_eq_true, ih (fun j hj => h j (by omega)), Nat.testBit_two_pow, decide_eq_true_iff]
    constructor
    · rintro (⟨j, hj, e⟩ | e)
      · exact ⟨j, by omega, e⟩
      · exact ⟨k, by omega, by omega⟩
    · rintro ⟨j, hj, e⟩
      by_cases hjk : j = k
      · right; subst hjk; omega
      · exact Or.inl ⟨j, by omega, e⟩

/-- What maskOf hands back. -/
def GaveMask (w : World) (xs : List Int) (n : Int) (e : Ending) (w' : World) : Prop :=
  e = .returned (.tuple #[.int .u32 (if SetP xs n then (maskTo xs xs.length : Int) else 0), .bool (decide (SetP xs n))]) ∧ Below w.heap.size w w'

/-- The last element before place k, -1 at the first. -/
def lastTo (xs : List Int) : Nat → Int
  | 0 => -1
  | k + 1 => nth xs k
theorem stepOk_iff (xs : List Int) (n : Int) (k : Nat) (hp : ∀ j, j < k → StepOk xs n j) : StepOk xs n k ↔ lastTo xs k < nth xs k ∧ nth xs k < n := by
  unfold StepOk
  cases k with
  | zero => simp [lastTo]; omega
  | succ k =>
    have := (hp k (by omega)).1
    simp [lastTo]; omega

theorem rowIs_drawn {w w' : World} {b n : Nat} {t : TypeId} {f : Nat → Value} (h : w.rowIs b t n f) (hd : Drawn w w') : w'.rowIs b t n f := h.of_block ((hd.below w.heap.size).block _ h.lt)

set_option maxHeartbeats 800000 in
theorem maskOf_any (v : Value) (xs : List Int) (n : Int) (w : World) (h : RowAt w v xs) (hn0 : 0 ≤ n) (hn1 : n ≤ 16) :
    Calls Tryz.prog 168 #[v, .int .i64 n] w (GaveMask w xs n) := by
  have hl := h.len
  unfold maxLen at hl
  by_cases h0 : xs.length = 0
  · have e : SetP xs n := by intro i hi; omega
    have HP : Hid (GaveMask w xs n (.returned (.tuple #[.int .u32 0, .bool true])) (w.alloc (.cells #[.int .u32 0] 80))) :=
      ⟨by rw [if_pos e, h0]; simp [e, maskTo], (Below.refl _ _).alloc (Nat.le_refl _) _⟩
    obtain ⟨a, c, rfl⟩ := h.zero h0
    clear h h0 hl e
    go_enter Tryz.func168, Tryz.ntmps168
    go_wp2
    refine wp_loop_rounds 1 ?_
    rw [rounds_succ]
    go_wp2
    go_ret2
    exact HP.out
  · obtain ⟨b, o, c, rfl, l1, l2, hc⟩ := h.pos (by omega)
    have HC := Lib.hid hc
    clear hc h0
    go_enter Tryz.func168, Tryz.ntmps168
    go_wp2
    go_loopw [7, 12] (fun l i wr => ∃ k : Nat, k ≤ xs.length ∧ i = .int .i64 k ∧ l = .int .i64 (lastTo xs k) ∧ (∀ j, j < k → StepOk xs n j) ∧ wr.rowIs w.heap.size 80 1 (fun _ => .int .u32 (maskTo xs k : Int)) ∧ Below w.heap.size w wr) (fun _ i _ => xs.length - (intOf i).toNat)
    case atStart => exact ⟨0, Nat.zero_le _, rfl, rfl, (fun j hj => absurd hj (by omega)), World.rowIs_alloc _ _ _ _ (fun i hi => by simp at hi; subst hi; rfl), (Below.refl _ _).alloc (Nat.le_refl _) _⟩
    case round =>
      obtain ⟨k, hk, rfl, rfl, he, hr, hb⟩ := hrel
      have HE := Lib.hid he
      have HB := Lib.hid hb
      have HR := Lib.hid hr
      clear he
      by_cases hlt : k < xs.length
      · have hck := cell_keep hb (HC.out k hlt)
        have hmc := hr.cell (i := 0) (by omega)
        have hmf := hr.frozen 0
        have hso := stepOk_iff xs n k HE.out
        have hml : maskTo xs k < 65536 := by
          have : ∀ (j : Nat), j < k → 0 ≤ nth xs j ∧ nth xs j ≤ n - 1 := fun j hj => ⟨(HE.out j hj).1, (HE.out j hj).2.1⟩
          clear HE hso
          have hgen : ∀ q, q ≤ k → maskTo xs q < 65536 := by
            intro q
            induction q with
            | zero => intro _; simp [maskTo]
            | succ q ih => intro hq; exact or_lt16 (ih (by omega)) (by have := this q (by omega); omega)
          exact hgen k (Nat.le_refl _)
        by_cases hok : StepOk xs n k
        · have hok' := hso.1 hok
          obtain ⟨ho1, ho2⟩ := hok'
          have hx0 : 0 ≤ nth xs k := hok.1
          have HO := Lib.hid hok
          have d1 : decide (nth xs k ≤ lastTo xs k) = false := by simp; omega
          have d2 : decide (n ≤ nth xs k) = false := by simp; omega
          clear hok hso hr hb
          go_wp2_with fail
          refine (add_any _ _ _ _ _ hmc hmf hml hx0 (by omega)).mono ?_
          rintro e w2 ⟨rfl, hd2⟩
          go_wp2
          go_roundw
          case rel =>
            refine ⟨k + 1, by omega, by go_num, rfl, (fun j hj => by rcases Nat.lt_succ_iff_lt_or_eq.1 hj with h | h; exact HE.out j h; subst h; exact HO.out), ?_, (HB.out.setCell (Nat.le_refl _) _).trans (hd2.below _)⟩
            exact (rowIs_drawn (HR.out.set 0 _) hd2).congr (fun j hj => by simp [show j = 0 from by omega, maskTo])
          case measure => simp [intOf]; omega
        · have HO := Lib.hid hok
          have HP : Hid (∀ w', Below w.heap.size w w' → GaveMask w xs n (.returned (.tuple #[.int .u32 0, .bool false])) w') := by
            intro w' hw'
            have hns : ¬ SetP xs n := fun hs => hok (hs k hlt)
            exact ⟨by rw [if_neg hns]; simp [hns], hw'⟩
          by_cases hx : nth xs k ≤ lastTo xs k
          · have d1 : decide (nth xs k ≤ lastTo xs k) = true := by simpa using hx
            clear hok hso hr hb
            go_wp2
            go_ret2
            exact HP.out _ HB.out
          · have d1 : decide (nth xs k ≤ lastTo xs k) = false := by simpa using hx
            have hx2 : n ≤ nth xs k := by
              rcases Int.lt_or_le (nth xs k) n with h | h
              · exact absurd (hso.2 ⟨by omega, h⟩) hok
              · exact h
            have d2 : decide (n ≤ nth xs k) = true := by simpa using hx2
            clear hok hso hr hb
            go_wp2
            go_ret2
            exact HP.out _ HB.out
      · obtain rfl : k = xs.length := by omega
        have hmc := hr.cell (i := 0) (by omega)
        have HP : Hid (GaveMask w xs n (.returned (.tuple #[.int .u32 (maskTo xs xs.length : Int), .bool true])) wr) := by
          have hs : SetP xs n := HE.out
          exact ⟨by rw [if_pos hs]; simp [hs], hb⟩
        clear hr hb
        go_wp2
        go_ret2
        exact HP.out

end Go.Proofs.YtohjfcfcopbmoaaGreatDoor

/- Walks: nets. -/
namespace Go.Proofs.YtohjfcfcopbmoaaGreatDoor
open Go.RowKit

/-- No vertex is its own neighbour; all neighbours of the first n are mutual. -/
def SimpleAt (M : Nat → Nat) (v : Nat) : Prop := hasM (M v) v = false ∧ ∀ u, u < v → hasM (M u) v = hasM (M v) u
instance (M : Nat → Nat) (v : Nat) : Decidable (SimpleAt M v) := by unfold SimpleAt; infer_instance
def SimpleP (n : Nat) (M : Nat → Nat) : Prop := ∀ v, v < n → SimpleAt M v
instance (n : Nat) (M : Nat → Nat) : Decidable (SimpleP n M) := by unfold SimpleP; infer_instance

/-- Block b holds a net: n vertices, masks M. -/
def NetAt (w : World) (b n : Nat) (M : Nat → Nat) : Prop :=
  w.cell? ⟨b, 0, none⟩ = some (.int .i64 n) ∧ ∀ i, i < 16 → w.cell? ⟨b, 1 + i, none⟩ = some (.int .u32 (M i : Int))
theorem NetAt.keep {w w' : World} {b n : Nat} {M : Nat → Nat} (h : NetAt w b n M) (hb : Below w.heap.size w w') : NetAt w' b n M :=
  ⟨cell_keep hb h.1, fun i hi => cell_keep hb (h.2 i hi)⟩
theorem NetAt.drawn {w w' : World} {b n : Nat} {M : Nat → Nat} (h : NetAt w b n M) (hb : Drawn w w') : NetAt w' b n M := h.keep (hb.below _)

set_option maxHeartbeats 800000 in
theorem simple_any (b n : Nat) (M : Nat → Nat) (w : World) (h : NetAt w b n M) (hn : n ≤ 16) (hM : ∀ i, i < n → M i < 65536) :
    Calls Tryz.prog 169 #[.pointer (some ⟨b, 0, none⟩)] w fun e w' => e = .returned (.bool (decide (SimpleP n M))) ∧ Drawn w w' := by
  have hn0 := h.1
  have H := Lib.hid h
  have HM := Lib.hid hM
  clear h hM
  go_enter Tryz.func169, Tryz.ntmps169
  go_wp2
  go_loopw [9] (fun i wr => ∃ k : Nat, k ≤ n ∧ i = .int .i64 k ∧ (∀ j, j < k → SimpleAt M j) ∧ Drawn w wr) (fun i _ => n - (intOf i).toNat)
  case atStart => exact ⟨0, Nat.zero_le _, rfl, (fun j hj => absurd hj (by omega)), Drawn.refl _⟩
  case round =>
    obtain ⟨k, hk, rfl, he, hd⟩ := hrel
    have HE := Lib.hid he
    clear he hn0
    by_cases hlt : k < n
    · have hck := cell_drawn hd (H.out.2 k (by omega))
      have hk16 : (k : Int) < 16 := by omega
      have hMk := HM.out k hlt
      go_wp2_with fail
      refine (has_any _ _ _ hMk).mono ?_
      rintro e w' ⟨rfl, rfl⟩
      by_cases hs : hasM (M k) k = true
      · have HS := Lib.hid hs
        rw [hs]
        clear hs
        go_wp2
        go_ret
        exact ⟨ret_bool (by symm; rw [decide_eq_false_iff_not]; intro h1; have := (h1 k hlt).1; rw [HS.out] at this; exact absurd this (by simp)), hd⟩
      · have hs' : hasM (M k) k = false := by simpa using hs
        have HS := Lib.hid hs'
        rw [hs']
        clear hs hs'
        have HD := Lib.hid hd
        go_wp2
        go_loopw [21] (fun i w3 => ∃ q : Nat, q ≤ k ∧ i = .int .i64 q ∧ (∀ j, j < q → hasM (M j) k = hasM (M k) j) ∧ Drawn wr w3) (fun i _ => k - (intOf i).toNat)
        case atStart => exact ⟨0, Nat.zero_le _, rfl, (fun j hj => absurd hj (by omega)), Drawn.refl _⟩
        case round =>
          rename World => w3
          obtain ⟨q, hq, rfl, hf, hd3⟩ := hrel
          have HF := Lib.hid hf
          clear hf
          by_cases hql : q < k
          · have hcq := cell_drawn (HD.out.trans hd3) (H.out.2 q (by omega))
            have hck3 := cell_drawn hd3 hck
            have hq16 : (q : Int) < 16 := by omega
            have hMq := HM.out q (by omega)
            have call1 : Hid (∀ m, Calls Tryz.prog 78 #[.int .u32 (M q : Int), .int .i64 (k : Int)] (w3.drewN m) fun e w4 => e = .returned (.bool (hasM (M q) k)) ∧ w4 = w3.drewN m) :=
              fun m => (has_any _ _ _ hMq).mono fun _ _ ⟨h1, h2⟩ => ⟨h1, h2.symm⟩
            have call2 : Hid (∀ m, Calls Tryz.prog 78 #[.int .u32 (M k : Int), .int .i64 (q : Int)] (w3.drewN m) fun e w4 => e = .returned (.bool (hasM (M k) q)) ∧ w4 = w3.drewN m) :=
              fun m => (has_any _ _ _ hMk).mono fun _ _ ⟨h1, h2⟩ => ⟨h1, h2.symm⟩
            by_cases hx : hasM (M q) k = hasM (M k) q
            · have hxb : (hasM (M q) k == hasM (M k) q) = true := by rw [hx]; simp
              have HX := Lib.hid hx
              clear hx
              go_wp2
              go_quiet ((first | (go_at_call_of 78 (M q); exact Calls.quiet_of_same (call1.out _)) | (go_at_call_of 78 (M k); exact Calls.quiet_of_same (call2.out _))))
              go_wp2
              go_roundw
              case rel => exact ⟨q + 1, by omega, by go_num, (fun j hj => by rcases Nat.lt_succ_iff_lt_or_eq.1 hj with h | h; exact HF.out j h; subst h; exact HX.out), hd3.more _⟩
              case measure => simp [intOf]; omega
            · have hxb : (hasM (M q) k == hasM (M k) q) = false := by simpa using hx
              have HX := Lib.hid hx
              clear hx
              go_wp2
              go_quiet ((first | (go_at_call_of 78 (M q); exact Calls.quiet_of_same (call1.out _)) | (go_at_call_of 78 (M k); exact Calls.quiet_of_same (call2.out _))))
              go_wp2
              go_ret
              exact ⟨ret_bool (by symm; rw [decide_eq_false_iff_not]; intro h1; exact HX.out ((h1 k hlt).2 q hql)), HD.out.trans (hd3.more _)⟩
          · obtain rfl : q = k := by omega
            go_wp2
            go_roundw
            case rel => exact ⟨q + 1, by omega, by go_num, (fun j hj => by rcases Nat.lt_succ_iff_lt_or_eq.1 hj with h | h; exact HE.out j h; subst h; exact ⟨HS.out, HF.out⟩), HD.out.trans hd3⟩
            case measure => simp [intOf]; omega
    · obtain rfl : k = n := by omega
      go_wp2
      go_ret
      exact ⟨ret_bool (by symm; rw [decide_eq_true_iff]; exact HE.out), hd⟩

end Go.Proofs.YtohjfcfcopbmoaaGreatDoor
