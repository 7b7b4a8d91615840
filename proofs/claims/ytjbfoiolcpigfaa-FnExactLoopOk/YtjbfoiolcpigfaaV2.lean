/- Walks: LoopOk, of the model and of the program. -/
import Derived.Test.YtjbfoiolcpigfaaV1
import Derived.Test.YtjbfoiolcpigfaaC5
import Derived.Test.YtjbfoiolcpigfaaE2
namespace Go.Proofs.Ytjbfoiolcpigfaa
open Go.RowKit

/-- What LoopOk answers. -/
def loopB (L : List (List Int)) (xs : List Int) : Bool :=
  decide (GraphP L) && decide (3 ≤ xs.length) && decide (xs.length ≤ L.length) && decide (PathP L xs) && hasB (nthR L (nth xs 0).toNat) (nth xs (xs.length - 1))

set_option maxHeartbeats 2000000 in
theorem specLoopOk_any (v v1 : Value) (L : List (List Int)) (xs : List Int) (w : World) (h : GridAt w v L) (h1 : RowAt w v1 xs) :
    Calls Try.prog 14 #[.agg #[v], v1] w fun e w' => e = .returned (.bool (loopB L xs)) ∧ Below w.heap.size w w' := by
  have hl := h.len
  have hl1 := h1.len
  unfold maxLen at hl hl1
  obtain ⟨a0, c0, rfl⟩ := h.slice
  have ha : Below w.heap.size w (w.alloc (.cells #[.slice a0 L.length c0] 28)) := (Below.refl _ _).alloc (Nat.le_refl _) _
  have hk := h.keep ha
  have R0 := Lib.hid (h1.keep ha)
  have HA := Lib.hid ha
  obtain ⟨a1, c1, rfl⟩ := h1.slice
  clear ha
  go_enter Try.func14, Try.ntmps14
  go_wp2_with fail
  refine (specGraphOk_any _ _ _ hk).mono ?_
  rintro e w1 ⟨rfl, hb1⟩
  have kb1 : w1.cell? ⟨w.heap.size, 0, none⟩ = some (.slice a0 L.length c0) := by rw [hb1.cell (by simp)]; go_simp
  have R1 := Lib.hid (hk.keep hb1)
  have S1 := Lib.hid (R0.out.keep hb1)
  have HB1 : Hid (Below w.heap.size w w1) := HA.out.trans (hb1.mono (by simp))
  clear hb1 hk h HA R0
  by_cases hG : GraphP L
  · have HE : Hid (loopB L xs = (decide (3 ≤ xs.length) && decide (xs.length ≤ L.length) && decide (PathP L xs) && hasB (nthR L (nth xs 0).toNat) (nth xs (xs.length - 1)))) := by show loopB L xs = _; simp [loopB, hG]
    rw [decide_eq_true hG]
    clear hG
    by_cases h3 : (xs.length : Int) < 3
    · have hd : decide ((xs.length : Int) < 3) = true := by simpa using h3
      have HE2 : Hid (loopB L xs = false) := by show _ = _; rw [HE.out, decide_eq_false (by omega)]; simp
      clear h3
      go_wp2
      go_ret
      exact ⟨ret_bool HE2.out.symm, HB1.out⟩
    · have hd : decide ((xs.length : Int) < 3) = false := by simpa using h3
      go_wp2_with fail
      refine (l1Size_any _ _ _ R1.out).mono ?_
      rintro e w2 ⟨rfl, hb2⟩
      have kb2 := cell_keep hb2 kb1
      have R2 := Lib.hid (R1.out.keep hb2)
      have S2 := Lib.hid (S1.out.keep hb2)
      have HB2 : Hid (Below w.heap.size w w2) := HB1.out.trans (hb2.mono HB1.out.size)
      clear hb2 kb1 R1 HB1 S1
      by_cases h4 : (L.length : Int) < (xs.length : Int)
      · have hd4 : decide ((L.length : Int) < (xs.length : Int)) = true := by simpa using h4
        have hd4' : decide (L.length < xs.length) = true := by simp; omega
        have HE2 : Hid (loopB L xs = false) := by show _ = _; rw [HE.out, decide_eq_false (p := xs.length ≤ L.length) (by omega)]; simp
        clear h4
        go_wp2
        go_ret
        exact ⟨ret_bool HE2.out.symm, HB2.out⟩
      · have hd4 : decide ((L.length : Int) < (xs.length : Int)) = false := by simpa using h4
        have hd4' : decide (L.length < xs.length) = false := by simp; omega
        have HE2 : Hid (loopB L xs = (decide (PathP L xs) && hasB (nthR L (nth xs 0).toNat) (nth xs (xs.length - 1)))) := by show _ = _; rw [HE.out, decide_eq_true (p := 3 ≤ xs.length) (by omega), decide_eq_true (p := xs.length ≤ L.length) (by omega)]; simp
        go_wp2_with fail
        refine (l3Path_any _ _ _ _ _ R2.out S2.out (by omega)).mono ?_
        rintro e w3 ⟨rfl, hb3⟩
        have kb3 := cell_keep hb3 kb2
        have R3 := Lib.hid (R2.out.keep hb3)
        have S3 := Lib.hid (S2.out.keep hb3)
        have HB3 : Hid (Below w.heap.size w w3) := HB2.out.trans (hb3.mono HB2.out.size)
        clear hb3 kb2 R2 HB2 S2
        by_cases hP : PathP L xs
        · have HE3 : Hid (loopB L xs = hasB (nthR L (nth xs 0).toNat) (nth xs (xs.length - 1))) := by show _ = _; rw [HE2.out, decide_eq_true hP]; simp
          rw [decide_eq_true hP]
          obtain ⟨b, o, c, e0, l1, l2, hc⟩ := S3.out.pos (by omega)
          simp only [Value.slice.injEq, true_and] at e0
          obtain ⟨rfl, rfl⟩ := e0
          have hx := (hP 0 (by omega)).1
          have hc0 := hc 0 (by omega)
          rw [Nat.add_zero] at hc0
          have hcl := hc (xs.length - 1) (by omega)
          have kl := fun x : Later w3 => x.cell kb3
          have hl2 := fun x : Later w3 => x.cell hc0
          have hl3 := fun x : Later w3 => x.cell hcl
          have hcall : Hid (∀ x : Later w3, Calls Try.prog 31 #[.agg #[.slice a0 L.length c0], .int .i64 (nth xs 0), .int .i64 (nth xs (xs.length - 1))] x.at fun e w2 => e = .returned (.bool (hasB (nthR L (nth xs 0).toNat) (nth xs (xs.length - 1)))) ∧ ∃ y : Later w3, w2 = y.at) :=
            fun x => Calls.later (l1Edge_any _ _ _ _ _ (R3.out.keep x.bel) (by simp [inB] at hx; omega) (by simp [inB] at hx; omega))
          have hw2 : IntKind.i64.wrap ((xs.length : Int) - 1) = (xs.length : Int) - 1 := IntWalk.i64_in _ (by omega)
          have hw3 : 0 ≤ (xs.length : Int) - 1 := by omega
          have hw3' : 1 ≤ (xs.length : Int) := by omega
          have hw4 : ((xs.length : Int) - 1).toNat = xs.length - 1 := by omega
          have hw6 : (0 : Int) < (xs.length : Int) := by omega
          have hw7 : 0 < xs.length := by omega
          clear hP hc hx
          go_wp2
          refine wp_region_later (by kernel_rfl) (by kernel_rfl) ?_
          repeat (go_big_quiet_step ((go_at_call 31; exact hcall.out _)))
          refine wpQuiet_nil ?_
          rintro _ ⟨x, rfl⟩
          have HB4 : Hid (Below w.heap.size w x.at) := HB3.out.trans (x.bel.mono HB3.out.size)
          clear kl hl2 hl3
          all_goals go_wp2
          all_goals go_ret
          all_goals exact ⟨ret_bool HE3.out.symm, HB4.out⟩
        · have HE3 : Hid (loopB L xs = false) := by show _ = _; rw [HE2.out, decide_eq_false hP]; simp
          rw [decide_eq_false hP]
          clear hP
          go_wp2
          go_ret
          exact ⟨ret_bool HE3.out.symm, HB3.out⟩
  · have HE : Hid (loopB L xs = false) := by show loopB L xs = _; simp [loopB, hG]
    rw [decide_eq_false hG]
    clear hG
    go_wp2
    go_ret
    exact ⟨ret_bool HE.out.symm, HB1.out⟩

/-- The element before element k, the last one before the first. -/
def prevL (xs : List Int) (k : Nat) : Int := if k = 0 then nth xs (xs.length - 1) else nth xs (k - 1)
/-- What the program asks of element k. -/
def GoodAt (L : List (List Int)) (xs : List Int) (k : Nat) : Prop := hasB (xs.take k) (nth xs k) = false ∧ edgeB L (prevL xs k) (nth xs k) = true

theorem hasM_take {xs : List Int} {k : Nat} (hk : k ≤ xs.length) (h : ∀ j, j < k → 0 ≤ nth xs j ∧ nth xs j < 16) (v : Int) : hasM (maskTo xs k) v = hasB (xs.take k) v := by
  have h3 := maskTo_bit xs k v.toNat (fun j hj => (h j hj).1)
  rw [Bool.eq_iff_iff, hasB_take hk]
  unfold hasM
  rw [Bool.and_eq_true, decide_eq_true_iff, h3]
  constructor
  · rintro ⟨_, j, hj, e⟩; exact ⟨j, hj, by omega⟩
  · rintro ⟨j, hj, e⟩; have := h j hj; exact ⟨by omega, j, hj, by omega⟩

theorem edgeB_in {L : List (List Int)} {u x : Int} (h : edgeB L u x = true) : GraphP L ∧ (0 ≤ u ∧ u < (L.length : Int)) ∧ (0 ≤ x ∧ x < (L.length : Int)) ∧ hasB (nthR L u.toNat) x = true := by
  unfold edgeB at h
  simp only [Bool.and_eq_true, decide_eq_true_iff, inB] at h
  obtain ⟨⟨⟨h1, h2⟩, h3⟩, h4⟩ := h
  exact ⟨h1, by omega, by omega, h4⟩
theorem edgeB_of {L : List (List Int)} {u x : Int} (hG : GraphP L) (hu : 0 ≤ u ∧ u < (L.length : Int)) (hx : 0 ≤ x ∧ x < (L.length : Int)) (h : hasB (nthR L u.toNat) x = true) : edgeB L u x = true := by
  unfold edgeB
  simp only [Bool.and_eq_true, decide_eq_true_iff, inB]
  exact ⟨⟨⟨hG, by omega⟩, by omega⟩, h⟩
theorem hasB_back {L : List (List Int)} (hG : GraphP L) {u x : Int} (hu : 0 ≤ u ∧ u < (L.length : Int)) (hx : 0 ≤ x ∧ x < (L.length : Int)) (h : hasB (nthR L u.toNat) x = true) : hasB (nthR L x.toNat) u = true := by
  obtain ⟨i, hi, e⟩ := (hasB_iff _ _).1 h
  have := hG.2.2 u.toNat (by omega) i hi
  rw [e] at this
  have e2 : ((u.toNat : Nat) : Int) = u := by omega
  rwa [e2] at this

/-- Numbers below n that are all different are n at most. -/
theorem apart_le (n : Nat) : ∀ (xs : List Int), (∀ k, k < xs.length → (0 ≤ nth xs k ∧ nth xs k < (n : Int)) ∧ hasB (xs.take k) (nth xs k) = false) → xs.length ≤ n := by
  intro xs h
  have hnd : xs.Nodup := by
    rw [List.nodup_iff_pairwise_ne, List.pairwise_iff_getElem]
    intro i j hi hj hij e
    have h2 := (h j hj).2
    have : hasB (xs.take j) (nth xs j) = true := by rw [hasB_take (by omega)]; exact ⟨i, hij, by rw [nth_eq hi, nth_eq hj]; exact e⟩
    rw [this] at h2; cases h2
  have hsub : ∀ x ∈ xs, x ∈ (List.range n).map (fun i : Nat => (i : Int)) := by
    intro x hx
    obtain ⟨i, hi, rfl⟩ := List.getElem_of_mem hx
    have := (h i hi).1
    rw [nth_eq hi] at this
    rw [List.mem_map]
    exact ⟨xs[i].toNat, by rw [List.mem_range]; omega, by omega⟩
  have := hnd.length_le_of_subset (fun x hx => hsub x hx)
  simpa using this

theorem loopB_good {L : List (List Int)} {xs : List Int} (h3 : 3 ≤ xs.length) : loopB L xs = true ↔ ∀ k, k < xs.length → GoodAt L xs k := by
  unfold loopB
  simp only [Bool.and_eq_true, decide_eq_true_iff]
  constructor
  · rintro ⟨⟨⟨⟨hG, -⟩, -⟩, hP⟩, hl⟩ k hk
    have hin : ∀ j, j < xs.length → 0 ≤ nth xs j ∧ nth xs j < (L.length : Int) := fun j hj => by have := (hP j hj).1; simp [inB] at this; omega
    refine ⟨(hP k hk).2.1, ?_⟩
    by_cases hk0 : k = 0
    · subst hk0
      have e : prevL xs 0 = nth xs (xs.length - 1) := rfl
      rw [e]
      exact edgeB_of hG (hin _ (by omega)) (hin _ hk) (hasB_back hG (hin _ hk) (hin _ (by omega)) hl)
    · have e : prevL xs k = nth xs (k - 1) := by unfold prevL; rw [if_neg hk0]
      rw [e]
      exact edgeB_of hG (hin _ (by omega)) (hin _ hk) ((hP k hk).2.2 (by omega))
  · intro h
    have hG := (edgeB_in (h 0 (by omega)).2).1
    have hin : ∀ j, j < xs.length → 0 ≤ nth xs j ∧ nth xs j < (L.length : Int) := fun j hj => (edgeB_in (h j hj).2).2.2.1
    refine ⟨⟨⟨⟨hG, h3⟩, apart_le _ _ (fun k hk => ⟨hin k hk, (h k hk).1⟩)⟩, ?_⟩, ?_⟩
    · intro k hk
      refine ⟨by have := hin k hk; simp [inB]; omega, (h k hk).1, fun h0 => ?_⟩
      have h2 := (edgeB_in (h k hk).2).2.2.2
      have e : prevL xs k = nth xs (k - 1) := by unfold prevL; rw [if_neg (by omega)]
      rwa [e] at h2
    · have h2 := edgeB_in (h 0 (by omega)).2
      have e : prevL xs 0 = nth xs (xs.length - 1) := rfl
      rw [e] at h2
      exact hasB_back hG h2.2.1 h2.2.2.1 h2.2.2.2

end Go.Proofs.Ytjbfoiolcpigfaa
