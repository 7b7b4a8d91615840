/- Walks: SameGraph. -/
import Derived.Test.YtehdpfbicifngaaC2
import Derived.Test.YtehdpfbicifngaaLater
namespace Go.Proofs.Ytehdpfbicifngaa
open Go.RowKit

set_option maxHeartbeats 400000 in
theorem l1Same_any (v v' : Value) (xs ys : List Int) (w : World) (h : RowAt w v xs) (h' : RowAt w v' ys) :
    Calls Try.prog 83 #[v, v'] w fun e w' => e = .returned (.bool (decide (xs = ys))) ∧ Drawn w w' := by
  have hl := h.len
  have hl' := h'.len
  unfold maxLen at hl hl'
  by_cases hn : xs.length = ys.length
  · have hne : ((xs.length : Int) != (ys.length : Int)) = false := by rw [hn]; simp
    by_cases h0 : xs.length = 0
    · have hd : decide (xs = ys) = true := by rw [decide_eq_true_iff, List.length_eq_zero_iff.1 h0, List.length_eq_zero_iff.1 (by omega : ys.length = 0)]
      rw [hd]
      obtain ⟨a, c, rfl⟩ := h.zero h0
      obtain ⟨a', c', rfl⟩ := h'.zero (by omega)
      clear hn hne h h' h0 hl hl' hd
      go_enter Try.func83, Try.ntmps83
      go_wp2
      refine wp_loop_rounds 1 ?_
      rw [rounds_succ]
      go_wp2
      go_ret
      exact ⟨rfl, Drawn.refl _⟩
    · obtain ⟨b, o, c, rfl, l1, l2, hc⟩ := h.pos (by omega)
      obtain ⟨b', o', c', rfl, l1', l2', hc'⟩ := h'.pos (by omega)
      have HC := Lib.hid hc
      have HC' := Lib.hid hc'
      have HN := Lib.hid hn
      have hle : xs.length ≤ ys.length := by omega
      clear hc hc' hn h0
      go_enter Try.func83, Try.ntmps83
      go_wp2
      go_loopw [5] (fun i wr => ∃ k : Nat, k ≤ xs.length ∧ i = .int .i64 k ∧ (∀ j, j < k → nth xs j = nth ys j) ∧ Drawn w wr) (fun i _ => xs.length - (intOf i).toNat)
      case atStart => exact ⟨0, Nat.zero_le _, rfl, (fun j hj => absurd hj (by omega)), Drawn.refl _⟩
      case round =>
        obtain ⟨k, hk, rfl, he, hd⟩ := hrel
        have HE := Lib.hid he
        clear he
        by_cases hlt : k < xs.length
        · have hlt' : k < ys.length := by omega
          have hck := cell_drawn hd (HC.out k hlt)
          have hck' := cell_drawn hd (HC'.out k hlt')
          by_cases hx : nth xs k = nth ys k
          · have hxb : (nth xs k != nth ys k) = false := by rw [hx]; simp
            have HX := Lib.hid hx
            clear hx
            go_wp2
            go_quiet (fail)
            go_wp2
            go_roundw
            case rel => exact ⟨k + 1, by omega, by go_num, (fun j hj => by rcases Nat.lt_succ_iff_lt_or_eq.1 hj with h | h; exact HE.out j h; rw [h]; exact HX.out), hd.more _⟩
            case measure => simp [intOf]; omega
          · have hxb : (nth xs k != nth ys k) = true := by rw [bne_iff_ne]; exact hx
            have HX := Lib.hid hx
            clear hx
            go_wp2
            go_quiet (fail)
            go_wp2
            go_ret
            exact ⟨ret_bool (by symm; rw [decide_eq_false_iff_not]; intro e; exact HX.out (by rw [e])), hd.more _⟩
        · obtain rfl : k = xs.length := by omega
          go_wp2
          go_ret
          exact ⟨ret_bool (by symm; rw [decide_eq_true_iff]; exact nth_ext HN.out HE.out), hd⟩
  · have hne : ((xs.length : Int) != (ys.length : Int)) = true := by rw [bne_iff_ne]; omega
    have hd : decide (xs = ys) = false := by simp; intro e; exact hn (by rw [e])
    rw [hd]
    obtain ⟨a, c, rfl⟩ := h.slice
    obtain ⟨a', c', rfl⟩ := h'.slice
    go_enter Try.func83, Try.ntmps83
    go_wp2
    go_ret
    exact ⟨rfl, Drawn.refl _⟩

set_option maxHeartbeats 800000 in
theorem l1SameGraph_any (v v' : Value) (xs ys : List (List Int)) (w : World) (h : GridAt w v xs) (h' : GridAt w v' ys) :
    Calls Try.prog 65 #[.agg #[v], .agg #[v']] w fun e w' => e = .returned (.bool (decide (xs = ys))) ∧ Below w.heap.size w w' := by
  have hl := h.len
  have hl' := h'.len
  unfold maxLen at hl hl'
  by_cases hn : xs.length = ys.length
  · have hne : ((xs.length : Int) != (ys.length : Int)) = false := by rw [hn]; simp
    by_cases h0 : xs.length = 0
    · have hd : decide (xs = ys) = true := by rw [decide_eq_true_iff, List.length_eq_zero_iff.1 h0, List.length_eq_zero_iff.1 (by omega : ys.length = 0)]
      rw [hd]
      obtain ⟨a, c, rfl⟩ := h.zero h0
      obtain ⟨a', c', rfl⟩ := h'.zero (by omega)
      clear hn hne h h' h0 hl hl' hd
      go_enter Try.func65, Try.ntmps65
      go_wp2
      refine wp_loop_rounds 1 ?_
      rw [rounds_succ]
      go_wp2
      go_ret
      exact ⟨rfl, ((Below.refl _ _).alloc (Nat.le_refl _) _).alloc (by simp) _⟩
    · obtain ⟨b, o, c, A, C, rfl, l1, l2, hc⟩ := h.pos (by omega)
      obtain ⟨b', o', c', A', C', rfl, l1', l2', hc'⟩ := h'.pos (by omega)
      have HC := Lib.hid hc
      have HC' := Lib.hid hc'
      have HN := Lib.hid hn
      have hle : xs.length ≤ ys.length := by omega
      have hbel : Below w.heap.size w ((w.alloc (.cells #[.slice (some ⟨b, o, none⟩) xs.length c] 26)).alloc (.cells #[.slice (some ⟨b', o', none⟩) ys.length c'] 26)) :=
        ((Below.refl _ _).alloc (Nat.le_refl _) _).alloc (by rw [size_alloc1]; omega) _
      have HB := Lib.hid hbel
      have k1 : ((w.alloc (.cells #[.slice (some ⟨b, o, none⟩) xs.length c] 26)).alloc (.cells #[.slice (some ⟨b', o', none⟩) ys.length c'] 26)).cell? ⟨w.heap.size, 0, none⟩ = some (.slice (some ⟨b, o, none⟩) xs.length c) := by go_simp
      have k2 : ((w.alloc (.cells #[.slice (some ⟨b, o, none⟩) xs.length c] 26)).alloc (.cells #[.slice (some ⟨b', o', none⟩) ys.length c'] 26)).cell? ⟨w.heap.size + 1, 0, none⟩ = some (.slice (some ⟨b', o', none⟩) ys.length c') := by go_simp
      have K1 := Lib.hid k1
      have K2 := Lib.hid k2
      clear hc hc' hn h0 hbel k1 k2
      go_enter Try.func65, Try.ntmps65
      go_wp2
      go_loopw [5] (fun i wr => ∃ k : Nat, k ≤ xs.length ∧ i = .int .i64 k ∧ (∀ j, j < k → nthR xs j = nthR ys j) ∧ Drawn ((w.alloc (.cells #[.slice (some ⟨b, o, none⟩) xs.length c] 26)).alloc (.cells #[.slice (some ⟨b', o', none⟩) ys.length c'] 26)) wr) (fun i _ => xs.length - (intOf i).toNat)
      case atStart => exact ⟨0, Nat.zero_le _, rfl, (fun j hj => absurd hj (by omega)), Drawn.refl _⟩
      case round =>
        obtain ⟨k, hk, rfl, he, hd⟩ := hrel
        have HE := Lib.hid he
        have hbw : Below w.heap.size w wr := HB.out.trans (hd.below _)
        have kb1 := cell_drawn hd K1.out
        have kb2 := cell_drawn hd K2.out
        have HBw := Lib.hid hbw
        clear he
        by_cases hlt : k < xs.length
        · have hlt' : k < ys.length := by omega
          have hck := cell_keep hbw (HC.out k hlt).1
          have hck' := cell_keep hbw (HC'.out k hlt').1
          have hr := Lib.hid ((HC.out k hlt).2.keep hbw)
          have hr' := Lib.hid ((HC'.out k hlt').2.keep hbw)
          clear hbw
          by_cases hx : nthR xs k = nthR ys k
          · have hxb : decide (nthR xs k = nthR ys k) = true := by rw [hx]; simp
            have hcall : ∀ n, Calls Try.prog 83 #[.slice (A k) (nthR xs k).length (C k), .slice (A' k) (nthR ys k).length (C' k)] (wr.drewN n) fun e w2 => e = .returned (.bool true) ∧ ∃ m, w2 = (wr.drewN n).drewN m :=
              fun n => (l1Same_any _ _ _ _ _ (hr.out.drewN n) (hr'.out.drewN n)).mono (by rintro e w2 ⟨rfl, hd2⟩; exact ⟨by rw [hxb], hd2⟩)
            have HCall := Lib.hid hcall
            have HX := Lib.hid hx
            clear hcall hxb hx
            go_wp2
            go_quiet ((go_at_call 83; exact Calls.quiet_of (HCall.out _)))
            go_wp2
            go_roundw
            case rel => exact ⟨k + 1, by omega, by go_num, (fun j hj => by rcases Nat.lt_succ_iff_lt_or_eq.1 hj with h | h; exact HE.out j h; rw [h]; exact HX.out), hd.more _⟩
            case measure => simp [intOf]; omega
          · have hxb : decide (nthR xs k = nthR ys k) = false := by rw [decide_eq_false_iff_not]; exact hx
            have hcall : ∀ n, Calls Try.prog 83 #[.slice (A k) (nthR xs k).length (C k), .slice (A' k) (nthR ys k).length (C' k)] (wr.drewN n) fun e w2 => e = .returned (.bool false) ∧ ∃ m, w2 = (wr.drewN n).drewN m :=
              fun n => (l1Same_any _ _ _ _ _ (hr.out.drewN n) (hr'.out.drewN n)).mono (by rintro e w2 ⟨rfl, hd2⟩; exact ⟨by rw [hxb], hd2⟩)
            have HCall := Lib.hid hcall
            have HX := Lib.hid hx
            clear hcall hxb hx
            go_wp2
            go_quiet ((go_at_call 83; exact Calls.quiet_of (HCall.out _)))
            go_wp2
            go_ret
            exact ⟨ret_bool (by symm; rw [decide_eq_false_iff_not]; intro e; exact HX.out (by rw [e])), below_drewN HBw.out _⟩
        · obtain rfl : k = xs.length := by omega
          clear hbw
          go_wp2
          go_ret
          exact ⟨ret_bool (by symm; rw [decide_eq_true_iff]; exact nthR_ext HN.out HE.out), HBw.out⟩
  · have hne : ((xs.length : Int) != (ys.length : Int)) = true := by rw [bne_iff_ne]; omega
    have hd : decide (xs = ys) = false := by simp; intro e; exact hn (by rw [e])
    rw [hd]
    obtain ⟨a, c, rfl⟩ := h.slice
    obtain ⟨a', c', rfl⟩ := h'.slice
    go_enter Try.func65, Try.ntmps65
    go_wp2
    go_ret
    exact ⟨rfl, ((Below.refl _ _).alloc (Nat.le_refl _) _).alloc (by simp) _⟩

/-- What SameGraph answers. -/
def sameB (L M : List (List Int)) : Bool := decide (GraphP L) && decide (GraphP M) && decide (L = M)

set_option maxHeartbeats 800000 in
theorem specSameGraph_any (v v' : Value) (L M : List (List Int)) (w : World) (h : GridAt w v L) (h' : GridAt w v' M) :
    Calls Try.prog 28 #[.agg #[v], .agg #[v']] w fun e w' => e = .returned (.bool (sameB L M)) ∧ Below w.heap.size w w' := by
  obtain ⟨a0, c0, rfl⟩ := h.slice
  obtain ⟨a1, c1, rfl⟩ := h'.slice
  have ha : Below w.heap.size w ((w.alloc (.cells #[.slice a0 L.length c0] 26)).alloc (.cells #[.slice a1 M.length c1] 26)) := ((Below.refl _ _).alloc (Nat.le_refl _) _).alloc (by simp) _
  have R0 := Lib.hid (h.keep ha)
  have S0 := Lib.hid (h'.keep ha)
  have HA := Lib.hid ha
  clear ha h h'
  go_enter Try.func28, Try.ntmps28
  go_wp2_with fail
  refine (specGraphOk_any _ _ _ R0.out).mono ?_
  rintro e w1 ⟨rfl, hb1⟩
  have kb1 : w1.cell? ⟨w.heap.size, 0, none⟩ = some (.slice a0 L.length c0) := by rw [hb1.cell (by simp; omega)]; go_simp
  have kc1 : w1.cell? ⟨w.heap.size + 1, 0, none⟩ = some (.slice a1 M.length c1) := by rw [hb1.cell (by simp)]; go_simp
  have R1 := Lib.hid (R0.out.keep hb1)
  have S1 := Lib.hid (S0.out.keep hb1)
  have HB1 : Hid (Below w.heap.size w w1) := HA.out.trans (hb1.mono (by simp; omega))
  clear hb1 HA R0 S0
  by_cases hG : GraphP L
  · rw [decide_eq_true hG]
    go_wp2_with fail
    refine (specGraphOk_any _ _ _ S1.out).mono ?_
    rintro e w2 ⟨rfl, hb2⟩
    have kb2 := cell_keep hb2 kb1
    have kc2 := cell_keep hb2 kc1
    have R2 := Lib.hid (R1.out.keep hb2)
    have S2 := Lib.hid (S1.out.keep hb2)
    have HB2 : Hid (Below w.heap.size w w2) := HB1.out.trans (hb2.mono HB1.out.size)
    clear hb2 kb1 kc1 R1 HB1 S1
    by_cases hM : GraphP M
    · have HE : Hid (sameB L M = decide (L = M)) := by show sameB L M = _; simp [sameB, hG, hM]
      rw [decide_eq_true hM]
      clear hG hM
      go_wp2_with fail
      refine (l1SameGraph_any _ _ _ _ _ R2.out S2.out).mono ?_
      rintro e w3 ⟨rfl, hb3⟩
      have HB3 : Hid (Below w.heap.size w w3) := HB2.out.trans (hb3.mono HB2.out.size)
      clear hb3
      go_wp2
      go_ret
      exact ⟨ret_bool HE.out.symm, HB3.out⟩
    · have HE : Hid (sameB L M = false) := by show sameB L M = _; simp [sameB, hM]
      rw [decide_eq_false hM]
      clear hG hM
      go_wp2
      go_ret
      exact ⟨ret_bool HE.out.symm, HB2.out⟩
  · have HE : Hid (sameB L M = false) := by show sameB L M = _; simp [sameB, hG]
    rw [decide_eq_false hG]
    clear hG
    go_wp2
    go_ret
    exact ⟨ret_bool HE.out.symm, HB1.out⟩

end Go.Proofs.Ytehdpfbicifngaa
