/- Walks: OrderOk, of the model and of the program. -/
import Derived.Test.YtikfbfclbmlopaaC4
namespace Go.Proofs.Ytikfbfclbmlopaa
open Go.RowKit

/-- What OrderOk answers. -/
def orderB (L : List (List Int)) (xs : List Int) : Bool := decide (GraphP L) && decide (OrdP xs L.length)

set_option maxHeartbeats 800000 in
theorem specOrderOk_any (v v1 : Value) (L : List (List Int)) (xs : List Int) (w : World) (h : GridAt w v L) (h1 : RowAt w v1 xs) :
    Calls Try.prog 30 #[.agg #[v], v1] w fun e w' => e = .returned (.bool (orderB L xs)) ∧ Below w.heap.size w w' := by
  obtain ⟨a0, c0, rfl⟩ := h.slice
  have ha : Below w.heap.size w (w.alloc (.cells #[.slice a0 L.length c0] 26)) := (Below.refl _ _).alloc (Nat.le_refl _) _
  have hk := h.keep ha
  have R0 := Lib.hid (h1.keep ha)
  have HA := Lib.hid ha
  clear ha
  go_enter Try.func30, Try.ntmps30
  go_wp2_with fail
  refine (specGraphOk_any _ _ _ hk).mono ?_
  rintro e w1 ⟨rfl, hb1⟩
  have kb1 : w1.cell? ⟨w.heap.size, 0, none⟩ = some (.slice a0 L.length c0) := by rw [hb1.cell (by simp)]; go_simp
  have R1 := Lib.hid (hk.keep hb1)
  have S1 := Lib.hid (R0.out.keep hb1)
  have HB1 : Hid (Below w.heap.size w w1) := HA.out.trans (hb1.mono (by simp))
  clear hb1 hk h HA R0
  by_cases hG : GraphP L
  · have HE : Hid (orderB L xs = decide (OrdP xs L.length)) := by show orderB L xs = _; simp [orderB, hG]
    rw [decide_eq_true hG]
    clear hG
    go_wp2_with fail
    refine (l1Order_any _ _ _ _ _ R1.out S1.out).mono ?_
    rintro e w2 ⟨rfl, hb2⟩
    have HB2 : Hid (Below w.heap.size w w2) := HB1.out.trans (hb2.mono HB1.out.size)
    clear hb2 kb1 R1 HB1 S1
    go_wp2
    go_ret
    exact ⟨ret_bool HE.out.symm, HB2.out⟩
  · have HE : Hid (orderB L xs = false) := by show orderB L xs = _; simp [orderB, hG]
    rw [decide_eq_false hG]
    clear hG
    go_wp2
    go_ret
    exact ⟨ret_bool HE.out.symm, HB1.out⟩

theorem inB_vertex (x : Int) (n : Nat) : inB x 0 ((n : Int) - 1) = decide (0 ≤ x ∧ x < (n : Int)) := by
  unfold inB
  rw [Bool.eq_iff_iff, decide_eq_true_iff, decide_eq_true_iff]
  omega

theorem maskTo_small {xs : List Int} {n : Nat} (hn : n ≤ 16) {k : Nat} (h : ∀ j, j < k → inB (nth xs j) 0 ((n : Int) - 1) = true) : maskTo xs k < 65536 := by
  induction k with
  | zero => simp [maskTo]
  | succ k ih =>
    have h1 := h k (by omega)
    simp [inB] at h1
    exact or_lt16 (ih (fun j hj => h j (by omega))) (by omega)

set_option maxHeartbeats 1000000 in
theorem implOrderOk_any (v v1 : Value) (L : List (List Int)) (xs : List Int) (w : World) (h : GridAt w v L) (h1 : RowAt w v1 xs) :
    Calls Try.prog 29 #[.agg #[v], v1] w fun e w' => e = .returned (.bool (orderB L xs)) ∧ Below w.heap.size w w' := by
  have hl1 := h1.len
  unfold maxLen at hl1
  obtain ⟨a0, c0, rfl⟩ := h.slice
  have ha : Below w.heap.size w (w.alloc (.cells #[.slice a0 L.length c0] 26)) := (Below.refl _ _).alloc (Nat.le_refl _) _
  have hk := h.keep ha
  have R0 := Lib.hid (h1.keep ha)
  have HA := Lib.hid ha
  obtain ⟨a1, c1, rfl⟩ := h1.slice
  clear ha
  go_enter Try.func29, Try.ntmps29
  go_wp2_with fail
  refine (netOf_any _ _ _ hk).mono ?_
  rintro e w1 ⟨rfl, hb1⟩
  have HB1 : Hid (Below w.heap.size w w1) := HA.out.trans (hb1.mono (by simp))
  have S1 := Lib.hid (R0.out.keep hb1)
  have hz : w.heap.size ≤ w1.heap.size := HB1.out.size
  have hnb := netBlk_new w1 0 (fun _ => 0)
  clear hb1 hk h HA R0 h1
  by_cases hG : GraphP L
  · have hz1 := hG.1
    have HE : Hid (orderB L xs = decide (OrdP xs L.length)) := by show orderB L xs = _; simp [orderB, hG]
    rw [decide_eq_true hG, netArr_yes hG]
    clear hG
    by_cases hn : xs.length = L.length
    · have hne : ((xs.length : Int) != (L.length : Int)) = false := by rw [hn]; simp
      have HN := Lib.hid hn
      have hx0 : 0 < xs.length := by omega
      have hx16 : xs.length ≤ 16 := by omega
      obtain ⟨b, o, c, e0, l1, l2, hc⟩ := S1.out.pos hx0
      simp only [Value.slice.injEq, true_and] at e0
      obtain ⟨rfl, rfl⟩ := e0
      have HC := Lib.hid hc
      clear hn hc
      go_wp2_with (refine wpList_store_net rfl 71 (.tmp 5) (.tmp 13) rfl w1.heap.size L.length (rowM L) rfl rfl Try.sizeNet 0 (fun _ => 0) hnb ?_; intro w3 hp; have hn0 := hp.net.at.1; have HB3 : Hid (Below w.heap.size w w3) := (HB1.out.alloc hz _).trans (hp.below.mono hz); have S3 := Lib.hid hp.since; clear hp)
      have HN0 := Lib.hid hn0
      clear hn0 hnb
      go_loopw [26] (fun i wr => ∃ k : Nat, k ≤ xs.length ∧ i = .int .i64 k ∧ (∀ j, j < k → OrdAt xs L.length j) ∧ wr.rowIs w3.heap.size 68 1 (fun _ => .int .u32 (maskTo xs k : Int)) ∧ Below w3.heap.size w3 wr) (fun i _ => xs.length - (intOf i).toNat)
      case atStart => exact ⟨0, Nat.zero_le _, rfl, (fun j hj => absurd hj (by omega)), World.rowIs_alloc _ _ _ _ (fun i hi => by simp at hi; subst hi; rfl), (Below.refl _ _).alloc (Nat.le_refl _) _⟩
      case round =>
        obtain ⟨k, hk, rfl, he, hr, hb⟩ := hrel
        have HO := Lib.hid he
        have HB := Lib.hid hb
        have HR := Lib.hid hr
        clear he
        by_cases hlt : k < xs.length
        · have hck := cell_keep hb (cell_keep S3.out (HC.out k hlt))
          have hnc := cell_keep hb HN0.out
          have hmc := hr.cell (i := 0) (by omega)
          have hmf := hr.frozen 0
          have hml : maskTo xs k < 65536 := maskTo_small (n := L.length) (by omega) (fun j hj => (HO.out j hj).1)
          have hbit := hasB_take (k := k) hk (nth xs k)
          clear hr hb
          by_cases hin : inB (nth xs k) 0 ((L.length : Int) - 1) = true
          · have hv := hin
            simp [inB] at hv
            obtain ⟨hv0, hv1⟩ := hv
            have hdv : Hid (decide (0 ≤ nth xs k ∧ nth xs k < (L.length : Int)) = true) := by show decide _ = true; rw [← inB_vertex]; exact hin
            have hmb : hasM (maskTo xs k) (nth xs k) = hasB (xs.take k) (nth xs k) := by
              have h3 := maskTo_bit xs k (nth xs k).toNat (fun j hj => by have := (HO.out j hj).1; simp [inB] at this; exact this.1)
              rw [Bool.eq_iff_iff, hbit]
              unfold hasM
              rw [Bool.and_eq_true, decide_eq_true_iff, h3]
              constructor
              · rintro ⟨_, j, hj, e⟩; exact ⟨j, hj, by omega⟩
              · rintro ⟨j, hj, e⟩; exact ⟨by omega, j, hj, by omega⟩
            by_cases hH : hasB (xs.take k) (nth xs k) = true
            · have HM : Hid (hasM (maskTo xs k) (nth xs k) = true) := by show _ = true; rw [hmb, hH]
              have HH := Lib.hid hH
              clear hin hH hmb hbit
              go_wp2_with (first | (go_at_call 84; refine (isVertex_any _ _ _).mono ?_; rintro e w' ⟨rfl, rfl⟩; rw [hdv.out]) | (go_at_call 71; refine (has_any _ _ _ hml).mono ?_; rintro e w' ⟨rfl, rfl⟩; rw [HM.out]))
              go_ret
              exact ⟨ret_bool (by rw [HE.out]; symm; rw [decide_eq_false_iff_not]; intro hp; have := (hp.2 k hlt).2; rw [HH.out] at this; exact absurd this (by simp)), HB3.out.trans (HB.out.mono HB3.out.size)⟩
            · have hH' : hasB (xs.take k) (nth xs k) = false := by simpa using hH
              have HM : Hid (hasM (maskTo xs k) (nth xs k) = false) := by show _ = false; rw [hmb, hH']
              have HH : Hid (OrdAt xs L.length k) := ⟨hin, hH'⟩
              clear hin hH hmb hbit hH'
              go_wp2_with (first | (go_at_call 84; refine (isVertex_any _ _ _).mono ?_; rintro e w' ⟨rfl, rfl⟩; rw [hdv.out]) | (go_at_call 71; refine (has_any _ _ _ hml).mono ?_; rintro e w' ⟨rfl, rfl⟩; rw [HM.out]) | (go_at_call 86; refine (add_any _ _ _ _ _ hmc hmf hml hv0 (by omega)).mono ?_; rintro e w4 ⟨rfl, hd4⟩))
              go_roundw
              case rel =>
                refine ⟨k + 1, by omega, by go_num, (fun j hj => by rcases Nat.lt_succ_iff_lt_or_eq.1 hj with h | h; exact HO.out j h; subst h; exact HH.out), ?_, (HB.out.setCell (Nat.le_refl _) _).trans (hd4.below _)⟩
                exact (rowIs_drawn (HR.out.set 0 _) hd4).congr (fun j hj => by simp [show j = 0 from by omega, maskTo])
              case measure => simp [intOf]; omega
          · have hin' : inB (nth xs k) 0 ((L.length : Int) - 1) = false := by simpa using hin
            have hdv : Hid (decide (0 ≤ nth xs k ∧ nth xs k < (L.length : Int)) = false) := by show decide _ = false; rw [← inB_vertex]; exact hin'
            have HI := Lib.hid hin'
            clear hin hin' hbit
            go_wp2_with (go_at_call 84; refine (isVertex_any _ _ _).mono ?_; rintro e w' ⟨rfl, rfl⟩; rw [hdv.out])
            go_ret
            exact ⟨ret_bool (by rw [HE.out]; symm; rw [decide_eq_false_iff_not]; intro hp; have := (hp.2 k hlt).1; rw [HI.out] at this; exact absurd this (by simp)), HB3.out.trans (HB.out.mono HB3.out.size)⟩
        · obtain rfl : k = xs.length := by omega
          go_wp2
          go_ret
          exact ⟨ret_bool (by rw [HE.out]; symm; rw [decide_eq_true_iff]; exact ⟨HN.out, HO.out⟩), HB3.out.trans (hb.mono HB3.out.size)⟩
    · have hne : ((xs.length : Int) != (L.length : Int)) = true := by rw [bne_iff_ne]; omega
      have HE2 : Hid (orderB L xs = false) := by show _ = false; rw [HE.out, decide_eq_false_iff_not]; exact fun hp => hn hp.1
      clear hn
      go_wp2_with (refine wpList_store_net rfl 71 (.tmp 5) (.tmp 13) rfl w1.heap.size L.length (rowM L) rfl rfl Try.sizeNet 0 (fun _ => 0) hnb ?_; intro w3 hp; have hn0 := hp.net.at.1; have HB3 : Hid (Below w.heap.size w w3) := (HB1.out.alloc hz _).trans (hp.below.mono hz); clear hp)
      go_ret
      exact ⟨ret_bool HE2.out.symm, HB3.out⟩
  · have HE : Hid (orderB L xs = false) := by show orderB L xs = _; simp [orderB, hG]
    rw [decide_eq_false hG, netArr_no hG]
    clear hG
    go_wp2_with (refine wpList_store_net rfl 71 (.tmp 5) (.tmp 13) rfl w1.heap.size 0 (fun _ => 0) rfl rfl Try.sizeNet 0 (fun _ => 0) hnb ?_; intro w3 hp; have HB3 : Hid (Below w.heap.size w w3) := (HB1.out.alloc hz _).trans (hp.below.mono hz); clear hp)
    go_ret
    exact ⟨ret_bool HE.out.symm, HB3.out⟩

end Go.Proofs.Ytikfbfclbmlopaa
