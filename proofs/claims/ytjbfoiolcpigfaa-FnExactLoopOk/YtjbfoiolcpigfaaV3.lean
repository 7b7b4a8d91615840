/- Walks: LoopOk, of the program. -/
import Derived.Test.YtjbfoiolcpigfaaV2
namespace Go.Proofs.Ytjbfoiolcpigfaa
open Go.RowKit

set_option maxHeartbeats 2000000 in
theorem implLoopOk_any (v v1 : Value) (L : List (List Int)) (xs : List Int) (w : World) (h : GridAt w v L) (h1 : RowAt w v1 xs) :
    Calls Try.prog 16 #[.agg #[v], v1] w fun e w' => e = .returned (.bool (loopB L xs)) ∧ Below w.heap.size w w' := by
  have hl := h.len
  have hl1 := h1.len
  unfold maxLen at hl hl1
  obtain ⟨a0, c0, rfl⟩ := h.slice
  by_cases h3 : (xs.length : Int) < 3
  · have hd : decide ((xs.length : Int) < 3) = true := by simpa using h3
    have HE2 : Hid (loopB L xs = false) := by show _ = _; unfold loopB; rw [decide_eq_false (p := 3 ≤ xs.length) (by omega)]; simp
    obtain ⟨a1, c1, rfl⟩ := h1.slice
    clear h3
    go_enter Try.func16, Try.ntmps16
    go_wp2
    go_ret
    exact ⟨ret_bool HE2.out.symm, (Below.refl _ _).alloc (Nat.le_refl _) _⟩
  · have hd : decide ((xs.length : Int) < 3) = false := by simpa using h3
    have ha : Below w.heap.size w ((w.alloc (.cells #[.slice a0 L.length c0] 28)).alloc (.cells #[.int .u32 0] 46)) := ((Below.refl _ _).alloc (Nat.le_refl _) _).alloc (by simp) _
    obtain ⟨b, o, c, rfl, l1, l2, hc⟩ := h1.pos (by omega)
    have HG : Hid (loopB L xs = true ↔ ∀ k, k < xs.length → GoodAt L xs k) := loopB_good (by omega)
    have hR := h.keep ha
    have hk1 : ((w.alloc (.cells #[.slice a0 L.length c0] 28)).alloc (.cells #[.int .u32 0] 46)).cell? ⟨w.heap.size, 0, none⟩ = some (.slice a0 L.length c0) := by go_simp
    have hm1 : ((w.alloc (.cells #[.slice a0 L.length c0] 28)).alloc (.cells #[.int .u32 0] 46)).rowIs (w.heap.size + 1) 46 1 (fun _ => .int .u32 ((0 : Nat) : Int)) := by
      have := World.rowIs_alloc (w.alloc (.cells #[.slice a0 L.length c0] 28)) #[.int .u32 0] 46 (fun _ => .int .u32 ((0 : Nat) : Int)) (fun i hi => by simp at hi; subst hi; rfl)
      simpa using this
    have hcl := cell_keep ha (hc (xs.length - 1) (by omega))
    have hX : ∀ x ∈ xs, I64 x := h1.1
    have hc' : ∀ i, i < xs.length → ((w.alloc (.cells #[.slice a0 L.length c0] 28)).alloc (.cells #[.int .u32 0] 46)).cell? ⟨b, o + i, none⟩ = some (.int .i64 (nth xs i)) := fun i hi => cell_keep ha (hc i hi)
    have hsz : ((w.alloc (.cells #[.slice a0 L.length c0] 28)).alloc (.cells #[.int .u32 0] 46)).heap.size = w.heap.size + 2 := by simp
    obtain ⟨w1, hw1⟩ : ∃ w1, (w.alloc (.cells #[.slice a0 L.length c0] 28)).alloc (.cells #[.int .u32 0] 46) = w1 := ⟨_, rfl⟩
    rw [hw1] at ha hR hk1 hm1 hcl hc' hsz
    have HA := Lib.hid ha
    have HC := Lib.hid hc'
    have R0 := Lib.hid h
    have C0 := Lib.hid hc
    have hw2 : IntKind.i64.wrap ((xs.length : Int) - 1) = (xs.length : Int) - 1 := IntWalk.i64_in _ (by omega)
    have hw3 : 0 ≤ (xs.length : Int) - 1 := by omega
    have hw3' : 1 ≤ (xs.length : Int) := by omega
    have hw4 : ((xs.length : Int) - 1).toNat = xs.length - 1 := by omega
    have hw6 : (0 : Int) < (xs.length : Int) := by omega
    have hw7 : 0 < xs.length := by omega
    clear hc hc' ha hR h h1 h3
    go_enter Try.func16, Try.ntmps16
    go_wp2
    have K1 := Lib.hid hk1
    have HM1 := Lib.hid hm1
    have HSZ := Lib.hid hsz
    clear hcl hw1 hk1 hm1 hsz hw2 hw3 hw3' hw4
    go_loopw [20, 6] (fun i l wr => ∃ k : Nat, k ≤ xs.length ∧ i = .int .i64 k ∧ l = .int .i64 (prevL xs k) ∧ (∀ j, j < k → GoodAt L xs j) ∧ wr.rowIs (w.heap.size + 1) 46 1 (fun _ => .int .u32 (maskTo xs k : Int)) ∧ wr.cell? ⟨w.heap.size, 0, none⟩ = some (.slice a0 L.length c0) ∧ Below w.heap.size w wr ∧ w.heap.size + 2 ≤ wr.heap.size) (fun i _ _ => xs.length - (intOf i).toNat)
    case atStart => exact ⟨0, Nat.zero_le _, rfl, by unfold prevL; rw [if_pos rfl], (fun j hj => absurd hj (by omega)), HM1.out, K1.out, HA.out, by rw [HSZ.out]; omega⟩
    case round =>
      obtain ⟨k, hk, rfl, rfl, he, hr, hkb, hb, hsz⟩ := hrel
      have HO := Lib.hid he
      have HB := Lib.hid hb
      have HR := Lib.hid hr
      clear he
      by_cases hlt : k < xs.length
      · have hin : ∀ j, j < k → 0 ≤ nth xs j ∧ nth xs j < 16 := fun j hj => by
          have h2 := edgeB_in (HO.out j hj).2
          have := h2.1.1
          have := h2.2.2.1
          omega
        have hck := cell_keep hb (C0.out k hlt)
        have hmc := hr.cell (i := 0) (by omega)
        have hmf := hr.frozen 0
        have hml : maskTo xs k < 65536 := maskTo_small (n := 16) (by omega) (fun j hj => by have := hin j hj; simp [inB]; omega)
        have hmb := hasM_take hk hin (nth xs k)
        have hp1 : Hid (I64 (prevL xs k)) := by show I64 _; unfold prevL; split <;> exact hX _ (nth_mem (by omega))
        have hp2 : Hid (I64 (nth xs k)) := hX _ (nth_mem hlt)
        have HN : Hid (∀ k', k' < xs.length → k' = k + 1 → prevL xs k' = nth xs k) := fun k' _ e => by subst e; unfold prevL; rw [if_neg (by omega)]; rfl
        have hpn : prevL xs (k + 1) = nth xs k := by unfold prevL; rw [if_neg (by omega)]; rfl
        have HPN := Lib.hid hpn
        have RW := Lib.hid (R0.out.keep hb)
        clear hr hb hin hpn HN
        by_cases hH : hasB (xs.take k) (nth xs k) = true
        · have HM : Hid (hasM (maskTo xs k) (nth xs k) = true) := by show _ = true; rw [hmb, hH]
          have HH := Lib.hid hH
          clear hH hmb
          go_wp2_with (go_at_call 32; refine (has_any _ _ _ hml).mono ?_; rintro e w' ⟨rfl, rfl⟩; rw [HM.out])
          go_ret
          exact ⟨ret_bool (by cases hq : loopB L xs with | false => rfl | true => have := ((HG.out.1 hq) k hlt).1; rw [HH.out] at this; exact this.symm), HB.out⟩
        · have hH' : hasB (xs.take k) (nth xs k) = false := by simpa using hH
          have HM : Hid (hasM (maskTo xs k) (nth xs k) = false) := by show _ = false; rw [hmb, hH']
          have HH := Lib.hid hH'
          clear hH hmb hH'
          by_cases hE : edgeB L (prevL xs k) (nth xs k) = true
          · have hx := (edgeB_in hE).2.2.1
            have hz := (edgeB_in hE).1.1
            have HX := Lib.hid hE
            have HGA : Hid (GoodAt L xs k) := ⟨HH.out, hE⟩
            clear hE
            go_wp2_with (first | (go_at_call 32; refine (has_any _ _ _ hml).mono ?_; rintro e w' ⟨rfl, rfl⟩; rw [HM.out]) | (go_at_call 33; refine (implEdgeIn_any _ _ _ _ _ RW.out hp1.out hp2.out).mono ?_; rintro e w2 ⟨rfl, hb2⟩; rw [HX.out]; have hmc2 := cell_keep hb2 hmc; have hmf2 := (HR.out.of_block (hb2.block _ HR.out.lt)).frozen 0; have HR2 := Lib.hid (HR.out.of_block (hb2.block _ HR.out.lt)); have hkb2 := cell_keep hb2 hkb; have HB2 : Hid (Below w.heap.size w w2) := HB.out.trans (hb2.mono HB.out.size); have hsz2 := hb2.size; clear hb2) | (go_at_call 34; refine (add_any _ _ _ _ _ hmc2 hmf2 hml hx.1 (by omega)).mono ?_; rintro e w4 ⟨rfl, hd4⟩))
            go_roundw
            case rel =>
              refine ⟨k + 1, by omega, by go_num, by rw [HPN.out], (fun j hj => by rcases Nat.lt_succ_iff_lt_or_eq.1 hj with h | h; exact HO.out j h; subst h; exact HGA.out), ?_, ?_, (HB2.out.setCell (p := ⟨w.heap.size + 1, 0, none⟩) (by simp) _).trans (hd4.below _), ?_⟩
              · exact (rowIs_drawn (HR2.out.set 0 _) hd4).congr (fun j hj => by simp [show j = 0 from by omega, maskTo])
              · refine cell_drawn hd4 ?_
                rw [World.cell?_setCell_other _ _ _ _ (by simp)]
                exact hkb2
              · have := (hd4.below w.heap.size).size; simp at this ⊢; omega
            case measure => simp [intOf]; omega
          · have hE' : edgeB L (prevL xs k) (nth xs k) = false := by simpa using hE
            have HX := Lib.hid hE'
            clear hE hE'
            go_wp2_with (first | (go_at_call 32; refine (has_any _ _ _ hml).mono ?_; rintro e w' ⟨rfl, rfl⟩; rw [HM.out]) | (go_at_call 33; refine (implEdgeIn_any _ _ _ _ _ RW.out hp1.out hp2.out).mono ?_; rintro e w2 ⟨rfl, hb2⟩; rw [HX.out]; have HB2 : Hid (Below w.heap.size w w2) := HB.out.trans (hb2.mono HB.out.size); clear hb2))
            go_ret
            exact ⟨ret_bool (by cases hq : loopB L xs with | false => rfl | true => have := ((HG.out.1 hq) k hlt).2; rw [HX.out] at this; exact this), HB2.out⟩
      · obtain rfl : k = xs.length := by omega
        go_wp2
        go_ret
        exact ⟨ret_bool (by symm; rw [HG.out]; exact HO.out), hb⟩

end Go.Proofs.Ytjbfoiolcpigfaa
