/- Walks: the model's complement. -/
import Derived.Test.YtjbfoiolcpigfaaDoorM1
import Derived.Test.YtjbfoiolcpigfaaDoorC2
namespace Go.Proofs.YtjbfoiolcpigfaaDoor
open Go.RowKit

/-- Which pairs have been looked at: all below v, and of v those below u. -/
def doneB (v u i j : Nat) : Bool := decide ((i < v ∧ j < v) ∨ (i = v ∧ j < u) ∨ (j = v ∧ i < u))
/-- .. and are near by R. -/
def stepA (R : Nat → Nat → Bool) (v u i j : Nat) : Bool := doneB v u i j && R i j
theorem doneB_same {v u i j : Nat} (h1 : ¬ (i = u ∧ j = v)) (h2 : ¬ (i = v ∧ j = u)) : doneB v (u + 1) i j = doneB v u i j := by
  unfold doneB
  rw [Bool.eq_iff_iff, decide_eq_true_iff, decide_eq_true_iff]
  omega
theorem stepA_link {R : Nat → Nat → Bool} {v u : Nat} (h1 : R u v = true) (h2 : R v u = true) (i j : Nat) : stepA R v (u + 1) i j = linkA (stepA R v u) u v i j := by
  unfold linkA
  by_cases e1 : i = u ∧ j = v
  · obtain ⟨rfl, rfl⟩ := e1
    have : stepA R j (i + 1) i j = true := by unfold stepA doneB; rw [h1, Bool.and_true, decide_eq_true_iff]; omega
    rw [this]; simp
  · by_cases e2 : i = v ∧ j = u
    · obtain ⟨rfl, rfl⟩ := e2
      have : stepA R i (j + 1) i j = true := by unfold stepA doneB; rw [h2, Bool.and_true, decide_eq_true_iff]; omega
      rw [this]; simp
    · have c1 : (i == u && j == v) = false := by cases h : (i == u && j == v) with | false => rfl | true => (simp at h; exact absurd h e1)
      have c2 : (i == v && j == u) = false := by cases h : (i == v && j == u) with | false => rfl | true => (simp at h; exact absurd h e2)
      rw [c1, c2, Bool.or_false, Bool.or_false]
      unfold stepA
      rw [doneB_same e1 e2]
theorem stepA_skip {R : Nat → Nat → Bool} {v u : Nat} (h1 : R u v = false) (h2 : R v u = false) (i j : Nat) : stepA R v (u + 1) i j = stepA R v u i j := by
  unfold stepA
  by_cases e1 : i = u ∧ j = v
  · obtain ⟨rfl, rfl⟩ := e1; rw [h1, Bool.and_false, Bool.and_false]
  · by_cases e2 : i = v ∧ j = u
    · obtain ⟨rfl, rfl⟩ := e2; rw [h2, Bool.and_false, Bool.and_false]
    · rw [doneB_same e1 e2]
theorem stepA_next {R : Nat → Nat → Bool} (hl : ∀ i, R i i = false) (v i j : Nat) : stepA R v v i j = stepA R (v + 1) 0 i j := by
  unfold stepA
  by_cases e : i = j
  · subst e; rw [hl, Bool.and_false, Bool.and_false]
  · congr 1
    unfold doneB
    rw [Bool.eq_iff_iff, decide_eq_true_iff, decide_eq_true_iff]
    omega
theorem stepA_zero (R : Nat → Nat → Bool) (i j : Nat) : stepA R 0 0 i j = false := by
  unfold stepA doneB
  rw [decide_eq_false (by omega), Bool.false_and]
theorem stepA_all {R : Nat → Nat → Bool} {n : Nat} (hr : ∀ i j, R i j = true → i < n ∧ j < n) (i j : Nat) : stepA R n 0 i j = R i j := by
  unfold stepA doneB
  cases h : R i j with
  | false => rw [Bool.and_false]
  | true => rw [Bool.and_true, decide_eq_true_iff]; exact Or.inl (hr i j h)

/-- The boxes of a model's function at work: its graph's, its result's, and that of the graph which it makes. -/
structure Work (w0 : World) (b0 : Nat) (v : Value) (bo n B : Nat) (A : Nat → Nat → Bool) (w : World) : Prop where
  arg : BoxAt w b0 v
  res : BoxAt w (b0 + 1) (.slice none 0 0)
  out : ∃ a c, BoxT 29 w bo (.slice a n c) ∧ OwnGrid 2 36 w B (.slice a n c) (adjL n A)
  bel : Below b0 w0 w
theorem Work.keep {w0 : World} {b0 : Nat} {v : Value} {bo n B : Nat} {A : Nat → Nat → Bool} {w w' : World} (h : Work w0 b0 v bo n B A w) (hb : Below w.heap.size w w') : Work w0 b0 v bo n B A w' := by
  obtain ⟨h1, h2, ⟨a, c, h3, h4⟩, h5⟩ := h
  exact ⟨h1.keep hb, h2.keep hb, ⟨a, c, h3.keep hb, h4.keep hb⟩, h5.trans (hb.mono (Nat.le_of_lt h1.lt))⟩
theorem Work.congr {w0 : World} {b0 : Nat} {v : Value} {bo n B : Nat} {A A' : Nat → Nat → Bool} {w : World} (h : Work w0 b0 v bo n B A w) (e : ∀ i j, A i j = A' i j) : Work w0 b0 v bo n B A' w := by
  obtain rfl : A = A' := by funext i j; exact e i j
  exact h

set_option maxHeartbeats 1600000 in
theorem l2Other_any (v : Value) (L : List (List Int)) (R : Nat → Nat → Bool) (w : World) (h : GridAt w v L) (hl16 : L.length ≤ 16)
    (hR : ∀ i j, i < j → j < L.length → R i j = !hasB (nthR L i) (j : Int)) (hsym : ∀ i j, R i j = R j i) (hloop : ∀ i, R i i = false) (hrange : ∀ i j, R i j = true → i < L.length ∧ j < L.length) :
    Calls Tryd.prog 71 #[.agg #[v]] w (GaveGraph w (adjL L.length R)) := by
  obtain ⟨a0, c0, rfl⟩ := h.slice
  have b1 : BoxAt ((w.alloc (.cells #[.slice a0 L.length c0] 29)).alloc (.cells #[.slice none 0 0] 29)) w.heap.size (.slice a0 L.length c0) := ⟨by go_simp, by go_simp⟩
  have b2 : BoxAt ((w.alloc (.cells #[.slice a0 L.length c0] 29)).alloc (.cells #[.slice none 0 0] 29)) (w.heap.size + 1) (.slice none 0 0) := ⟨by go_simp, by go_simp⟩
  have ha : Below w.heap.size w ((w.alloc (.cells #[.slice a0 L.length c0] 29)).alloc (.cells #[.slice none 0 0] 29)) := ((Below.refl _ _).alloc (Nat.le_refl _) _).alloc (by simp) _
  have hsz : ((w.alloc (.cells #[.slice a0 L.length c0] 29)).alloc (.cells #[.slice none 0 0] 29)).heap.size = w.heap.size + 1 + 1 := by rw [size_alloc1, size_alloc1]
  have HGK : Hid (∀ w', Below w.heap.size w w' → GridAt w' (.slice a0 L.length c0) L) := fun w' hb => h.keep hb
  have B1 := Lib.hid b1
  have B2 := Lib.hid b2
  have HA := Lib.hid ha
  have HSZ := Lib.hid hsz
  have HR := Lib.hid hR
  have HSY := Lib.hid hsym
  have HLO := Lib.hid hloop
  have HRA := Lib.hid hrange
  obtain ⟨n, hn⟩ : ∃ n, n = L.length := ⟨_, rfl⟩
  have HN := Lib.hid hn
  clear b1 b2 ha hsz hR hsym hloop hrange h
  go_enter Tryd.func71, Tryd.ntmps71
  go_wp2_with fail
  refine (l1Size_any _ _ _ (HGK.out _ HA.out)).mono ?_
  rintro e w1 ⟨rfl, hb1⟩
  have HB1 := Lib.hid hb1
  clear hb1
  go_wp2_with fail
  refine (l1Empty_any L.length _ (by omega)).mono ?_
  rintro e w2 ⟨n2, a2, c2, rfl, ho2, hb2⟩
  obtain rfl : n2 = L.length := by
    obtain ⟨a3, c3, e3⟩ := ho2.grid.slice
    simp only [Value.slice.injEq] at e3
    simpa using e3.2.1
  rw [adjL_empty] at ho2
  have hz1 : w.heap.size + 1 + 1 ≤ w1.heap.size := by have := HB1.out.size; rw [HSZ.out] at this; exact this
  have hz2 : w1.heap.size ≤ w2.heap.size := hb2.size
  have hbw : Below w2.heap.size w2 (w2.alloc (.cells #[.slice a2 L.length c2] 29)) := (Below.refl _ _).alloc (Nat.le_refl _) _
  have HW0 : Hid (Work w w.heap.size (.slice a0 L.length c0) w2.heap.size L.length (w.heap.size + 1 + 1) (stepA R 0 0) (w2.alloc (.cells #[.slice a2 L.length c2] 29))) := by
    refine ⟨((B1.out.keep HB1.out).keep hb2).keep hbw, ((B2.out.keep HB1.out).keep hb2).keep hbw, ⟨a2, c2, BoxT.new _ _ _, ?_⟩, ?_⟩
    · rw [adjL_congr (fun i _ j _ => stepA_zero R i j)]
      exact (ho2.mono hz1).keep hbw
    · exact ((HA.out.trans (HB1.out.mono (by rw [HSZ.out]; omega))).trans (hb2.mono (by omega))).alloc (by omega) _
  clear ho2 hb2 hbw B1 B2 HA HB1
  go_wp2_with fail
  go_loopw [4] (fun i wr => ∃ k : Nat, k ≤ L.length ∧ i = .int .i64 k ∧ Work w w.heap.size (.slice a0 L.length c0) w2.heap.size L.length (w.heap.size + 1 + 1) (stepA R k 0) wr) (fun i _ => L.length - (intOf i).toNat)
  case atStart => exact ⟨0, Nat.zero_le _, rfl, HW0.out⟩
  case round =>
    obtain ⟨k, hk, rfl, hw⟩ := hrel
    have HWK := Lib.hid hw
    have kb := hw.arg.1
    clear hw
    go_wp2_with fail
    refine (l1Size_any _ _ _ (HGK.out _ HWK.out.bel)).mono ?_
    rintro e w3 ⟨rfl, hb3⟩
    have HW3 := Lib.hid (HWK.out.keep hb3)
    clear hb3 kb
    by_cases hlt : k < L.length
    · go_wp2_with fail
      go_loopw [5] (fun i wr => ∃ q : Nat, q ≤ k ∧ i = .int .i64 q ∧ Work w w.heap.size (.slice a0 L.length c0) w2.heap.size L.length (w.heap.size + 1 + 1) (stepA R k q) wr) (fun i _ => k - (intOf i).toNat)
      case atStart => exact ⟨0, Nat.zero_le _, rfl, HW3.out⟩
      case round =>
        rename World => w4
        obtain ⟨q, hq, rfl, hw⟩ := hrel
        have HW4 := Lib.hid hw
        have kb := hw.arg.1
        clear hw
        by_cases hql : q < k
        · go_wp2_with fail
          refine (l1Edge_any _ L (q : Int) (k : Int) _ (HGK.out _ HW4.out.bel) (by omega) (by omega)).mono ?_
          rintro e w5 ⟨rfl, hb5⟩
          have hRq := HR.out q k hql hlt
          rw [Int.toNat_natCast]
          have HW5 := Lib.hid (HW4.out.keep hb5)
          have HRQ := Lib.hid hRq
          clear hb5 kb hRq
          by_cases hh : hasB (nthR L q) (k : Int) = true
          · have r1 : R q k = false := by rw [HRQ.out, hh]; rfl
            have r2 : R k q = false := by rw [HSY.out]; exact r1
            have HS : Hid (∀ i j, stepA R k (q + 1) i j = stepA R k q i j) := fun i j => stepA_skip r1 r2 i j
            rw [hh]
            clear hh r1 r2
            go_wp2
            go_roundw
            case rel => exact ⟨q + 1, by omega, by go_num, HW5.out.congr (fun i j => (HS.out i j).symm)⟩
            case measure => simp [intOf]; omega
          · have hh' : hasB (nthR L q) (k : Int) = false := by simpa using hh
            have r1 : R q k = true := by rw [HRQ.out, hh']; rfl
            have r2 : R k q = true := by rw [HSY.out]; exact r1
            have HS : Hid (∀ i j, stepA R k (q + 1) i j = linkA (stepA R k q) q k i j) := fun i j => stepA_link r1 r2 i j
            rw [hh']
            obtain ⟨ag, cg, hbt, hog⟩ := HW5.out.out
            obtain ⟨g, cap, eg, hBg, hgs, _⟩ := hog.place (by rw [adjL_len]; omega)
            simp only [adjL_len, Value.slice.injEq, true_and] at eg
            obtain ⟨rfl, rfl⟩ := eg
            have hgne : w2.heap.size ≠ g := by
              obtain ⟨cur, hcur⟩ := hog.blkT
              intro e
              rw [← e] at hcur
              have hbb : w5.heap[w2.heap.size]? = _ := hbt
              rw [hcur] at hbb
              simp at hbb
            have kg := hbt.box.1
            have HBT := Lib.hid hbt
            have HOG := Lib.hid hog
            clear hh hh' r1 r2 hbt hog
            go_wp2_with fail
            refine (l1Link_adj q k g cg (w.heap.size + 1 + 1) L.length _ _ HOG.out (by have := HBT.out.lt; omega) (by omega) hlt hl16 (by omega)).mono ?_
            rintro e w6 ⟨rfl, ho6, hb6, ht6⟩
            have bt6 : BoxT 29 w6 w2.heap.size (.slice (some ⟨g, 0, none⟩) L.length cg) := by
              unfold BoxT
              rw [ht6 _ HBT.out.lt hgne]
              exact HBT.out
            have kb6 := bt6.box.1
            have kf6 := bt6.box.2
            have HW6 : Hid (Work w w.heap.size (.slice a0 L.length c0) w2.heap.size L.length (w.heap.size + 1 + 1) (stepA R k (q + 1)) (w6.setCell ⟨w2.heap.size, 0, none⟩ (.slice (some ⟨g, 0, none⟩) L.length cg))) := by
              refine ⟨(HW5.out.arg.keepB hb6 (by omega)).setOther (by simp; omega) _, (HW5.out.res.keepB hb6 (by omega)).setOther (by simp; omega) _, ⟨_, cg, bt6.set _, ?_⟩, (HW5.out.bel.trans (hb6.mono (by omega))).setCell (by simp; omega) _⟩
              rw [adjL_congr (fun i _ j _ => HS.out i j)]
              exact ho6.setType bt6 (by decide) (by decide) 0 _
            clear bt6 ho6 hb6 ht6 kg
            go_wp2
            go_roundw
            case rel => exact ⟨q + 1, by omega, by go_num, HW6.out⟩
            case measure => simp [intOf]; omega
        · obtain rfl : q = k := by omega
          clear kb
          go_wp2
          go_roundw
          case rel => exact ⟨q + 1, by omega, by go_num, HW4.out.congr (fun i j => stepA_next HLO.out q i j)⟩
          case measure => simp [intOf]; omega
    · obtain rfl : k = L.length := by omega
      obtain ⟨ag, cg, hbt, hog⟩ := HW3.out.out
      have kg := hbt.box.1
      have kr := HW3.out.res.1
      have kf := HW3.out.res.2
      have HBT := Lib.hid hbt
      have HOG := Lib.hid hog
      clear hbt hog
      go_wp2
      have q0 : (w3.setCell ⟨w.heap.size + 1, 0, none⟩ (.slice ag L.length cg)).cell? ⟨w.heap.size + 1, 0, none⟩ = some (.slice ag L.length cg) := cell_set_same _ kr
      refine bodyPost_ret (v := .agg #[.slice ag L.length cg]) (by simp [results, Tryd.results71, go_sem, q0]) rfl ⟨_, ag, cg, rfl, ?_, HW3.out.bel.setCell (by simp) _⟩
      rw [← adjL_congr (fun i _ j _ => stepA_all HRA.out i j)]
      exact (HOG.out.setBelow (by simp) _).mono (by omega)

/-- Who is near whom in the complement. -/
def compA (L : List (List Int)) (i j : Nat) : Bool := decide (i < L.length) && decide (j < L.length) && (i != j) && !adjB L i j
def compL (L : List (List Int)) : List (List Int) := if GraphP L then adjL L.length (compA L) else []

theorem compA_sym {L : List (List Int)} (hG : GraphP L) (i j : Nat) : compA L i j = compA L j i := by
  unfold compA
  rw [adjB_sym hG i j]
  have e : (i != j) = (j != i) := by rw [Bool.eq_iff_iff, bne_iff_ne, bne_iff_ne]; exact ⟨fun h e => h e.symm, fun h e => h e.symm⟩
  rw [e]
  cases decide (i < L.length) <;> cases decide (j < L.length) <;> rfl
theorem compA_range {L : List (List Int)} {i j : Nat} (h : compA L i j = true) : i < L.length ∧ j < L.length := by
  unfold compA at h
  simp at h
  exact ⟨h.1.1.1, h.1.1.2⟩
theorem compA_self (L : List (List Int)) (i : Nat) : compA L i i = false := by unfold compA; simp

set_option maxHeartbeats 800000 in
theorem specComplement_any (v : Value) (L : List (List Int)) (w : World) (h : GridAt w v L) : Calls Tryd.prog 20 #[.agg #[v]] w (GaveGB w (compL L) (decide (GraphP L))) := by
  obtain ⟨a0, c0, rfl⟩ := h.slice
  have b1 : BoxAt ((w.alloc (.cells #[.slice a0 L.length c0] 29)).alloc (.cells #[.slice none 0 0] 29)) w.heap.size (.slice a0 L.length c0) := ⟨by go_simp, by go_simp⟩
  have b2 : BoxAt ((w.alloc (.cells #[.slice a0 L.length c0] 29)).alloc (.cells #[.slice none 0 0] 29)) (w.heap.size + 1) (.slice none 0 0) := ⟨by go_simp, by go_simp⟩
  have ha : Below w.heap.size w ((w.alloc (.cells #[.slice a0 L.length c0] 29)).alloc (.cells #[.slice none 0 0] 29)) := ((Below.refl _ _).alloc (Nat.le_refl _) _).alloc (by simp) _
  have hsz : ((w.alloc (.cells #[.slice a0 L.length c0] 29)).alloc (.cells #[.slice none 0 0] 29)).heap.size = w.heap.size + 1 + 1 := by rw [size_alloc1, size_alloc1]
  have HGK : Hid (∀ w', Below w.heap.size w w' → GridAt w' (.slice a0 L.length c0) L) := fun w' hb => h.keep hb
  have B1 := Lib.hid b1
  have B2 := Lib.hid b2
  have HA := Lib.hid ha
  have HSZ := Lib.hid hsz
  clear b1 b2 ha hsz h
  go_enter Tryd.func20, Tryd.ntmps20
  go_wp2_with fail
  refine (specGraphOk_any _ _ _ (HGK.out _ HA.out)).mono ?_
  rintro e w1 ⟨rfl, hb1⟩
  have HB1 : Hid (Below w.heap.size w w1) := HA.out.trans (hb1.mono (by rw [HSZ.out]; omega))
  have BX1 := Lib.hid (B1.out.keep hb1)
  have BX2 := Lib.hid (B2.out.keep hb1)
  clear hb1 B1 B2 HA
  by_cases hG : GraphP L
  · rw [decide_eq_true hG]
    have hz := hG.1
    have HG := Lib.hid hG
    have kb := BX1.out.1
    clear hG
    go_wp2_with fail
    refine (l2Other_any _ L (compA L) _ (HGK.out _ HB1.out) (by omega) (fun i j hij hj => by unfold compA; rw [adjB_has HG.out (by omega) (by omega)]; have : (i != j) = true := (by rw [bne_iff_ne]; omega); rw [this]; simp; omega) (compA_sym HG.out) (compA_self L) (fun i j => compA_range)).mono ?_
    rintro e w2 ⟨n2, a2, c2, rfl, ho2, hb2⟩
    have kr := (BX2.out.keep hb2).1
    have kf := (BX2.out.keep hb2).2
    have HO2 := Lib.hid ho2
    have HB2 : Hid (Below w.heap.size w w2) := HB1.out.trans (hb2.mono HB1.out.size)
    have hlt := BX2.out.lt
    clear ho2 hb2 kb
    go_wp2
    have q0 : (w2.setCell ⟨w.heap.size + 1, 0, none⟩ (.slice a2 n2 c2)).cell? ⟨w.heap.size + 1, 0, none⟩ = some (.slice a2 n2 c2) := cell_set_same _ kr
    refine bodyPost_ret (v := .tuple #[.agg #[.slice a2 n2 c2], .bool true]) (by simp [results, Tryd.results20, go_sem, q0]) rfl ⟨n2, a2, c2, by rw [decide_eq_true HG.out], ?_, HB2.out.setCell (by simp) _⟩
    rw [compL, if_pos HG.out]
    exact (HO2.out.setBelow (by simp; omega) _).mono (by omega)
  · rw [decide_eq_false hG]
    have HE : Hid (compL L = []) := by show _ = _; rw [compL, if_neg hG]
    have HE2 : Hid (decide (GraphP L) = false) := decide_eq_false hG
    have kr := BX2.out.1
    have kf := BX2.out.2
    clear hG
    go_wp2
    have q0 : (w1.setCell ⟨w.heap.size + 1, 0, none⟩ (.slice none 0 0)).cell? ⟨w.heap.size + 1, 0, none⟩ = some (.slice none 0 0) := cell_set_same _ kr
    refine bodyPost_ret (v := .tuple #[.agg #[.slice none 0 0], .bool false]) (by simp [results, Tryd.results20, go_sem, q0]) rfl ?_
    rw [HE.out, HE2.out]
    exact GaveGB.no (HB1.out.setCell (by exact Nat.le_succ _) _)

end Go.Proofs.YtjbfoiolcpigfaaDoor
