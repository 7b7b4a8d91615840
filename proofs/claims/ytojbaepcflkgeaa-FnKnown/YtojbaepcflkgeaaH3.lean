/- Walks: the degrees, by the program. -/
import Derived.Test.YtojbaepcflkgeaaH2
import Derived.Test.YtojbaepcflkgeaaQC1
import Derived.Test.YtojbaepcflkgeaaQE1

namespace Go.Proofs.Ytojbaepcflkgeaa
open Go.RowKit

set_option maxHeartbeats 1600000 in
set_option maxRecDepth 100000 in
theorem implDegreesOf_any (v : Value) (L : List (List Int)) (w : World) (h : GridAt w v L) : Calls Try.prog 37 #[.agg #[v]] w (GaveRow w (degL L)) := by
  obtain ⟨a0, c0, rfl⟩ := h.slice
  have ha : Below w.heap.size w (w.alloc (.cells #[.slice a0 L.length c0] 30)) := (Below.refl _ _).alloc (Nat.le_refl _) _
  have hk := h.keep ha
  have HA := Lib.hid ha
  clear ha
  go_enter Try.func37, Try.ntmps37
  go_wp2_with fail
  refine (netOf_any _ _ _ hk).mono ?_
  rintro e w1 ⟨rfl, hb1⟩
  have HB1 : Hid (Below w.heap.size w w1) := HA.out.trans (hb1.mono (by simp))
  have hz : w.heap.size ≤ w1.heap.size := HB1.out.size
  have hnb := netBlk_new w1 0 (fun _ => 0)
  clear hb1 hk h HA
  by_cases hG : GraphP L
  · have hzz := hG.1
    have hsP : ∀ v, v < L.length → SetP (nthR L v) L.length := fun v hv => (hG.2.1 v hv).1
    have HE : Hid (degL L = sorted (lensL L)) := by show degL L = _; rw [degTo_sorted hG, degL, if_pos hG]
    have HBI : Hid (∀ u, u < L.length → bitsTo (rowM L u) 16 = nth (lensL L) u) := fun u hu => by rw [row_bits hG hu]; simp [lensL, nth, hu]
    have HLT : Hid (∀ i, rowM L i < 65536) := fun i => rowM_lt (by omega) hsP i
    have HLL := Lib.hid (lensL_len L)
    have HRL : Hid (∀ u, u < L.length → (nthR L u).length < L.length) := fun u hu => row_len_lt hG hu
    have hmk := run_make_row' (P := Try.prog) 35 2 (.int .i64 0) 8 Try.underlying35 Try.infoI rfl .i64 .i64 L.length (by omega) (by omega)
    rw [decide_eq_true hG, netArr_yes hG]
    clear hG hsP
    go_wp2_with (refine wpList_store_net rfl 65 (.tmp 3) (.tmp 10) rfl w1.heap.size L.length (rowM L) rfl rfl Try.sizeNet 0 (fun _ => 0) hnb ?_; intro w3 hp; have hn0 := hp.net.at.1; have HNet := Lib.hid hp.net.at; have HB3 : Hid (Below w.heap.size w w3) := (HB1.out.alloc hz _).trans (hp.below.mono hz); clear hp)
    have HR := Lib.hid (World.rowIs_made w3 (.int .i64 0) L.length 2)
    clear hn0 hnb
    go_loopw [19] (fun i wr => ∃ k : Nat, k ≤ L.length ∧ i = .int .i64 k ∧ wr.rowIs w3.heap.size 2 L.length (fun j => if j < k then .int .i64 (nth (lensL L) j) else .int .i64 0) ∧ Below w3.heap.size w3 wr) (fun i _ => L.length - (intOf i).toNat)
    case atStart => exact ⟨0, Nat.zero_le _, rfl, HR.out.congr (fun i hi => by simp), (Below.refl _ _).alloc (Nat.le_refl _) _⟩
    case round =>
      obtain ⟨k, hk, rfl, hr, hb⟩ := hrel
      have HRR := Lib.hid hr
      have HB := Lib.hid hb
      by_cases hlt : k < L.length
      · have hkn := (HNet.out.keep hb).2 k (by omega)
        clear hr hb
        go_wp2_with fail
        refine (size_any _ _ (HLT.out k)).mono ?_
        rintro e w4 ⟨rfl, hd4⟩
        rw [HBI.out k hlt]
        have hr4 := HRR.out.of_block (w' := w4) ((hd4.below wr.heap.size).block _ HRR.out.lt)
        have hcf := hr4.frozen k
        have hcc := hr4.cell hlt
        simp only [Nat.lt_irrefl, if_false] at hcc
        have HR4 := Lib.hid hr4
        have HB4 : Hid (Below w3.heap.size w3 w4) := HB.out.trans (hd4.below _)
        clear hr4 hd4 hkn
        go_wp2
        go_roundw
        case rel =>
          refine ⟨k + 1, by omega, by go_num, (HR4.out.set k (.int .i64 (nth (lensL L) k))).congr (fun j hj => ?_), HB4.out.setCell (Nat.le_refl _) _⟩
          by_cases e : j = k
          · subst e; simp
          · simp only [e, if_false]
            by_cases h1 : j < k
            · simp [h1, Nat.lt_succ_of_lt h1]
            · simp [h1, show ¬ j < k + 1 from by omega]
        case measure => simp [intOf]; omega
      · obtain rfl : k = L.length := by omega
        have ho : OwnRow 2 wr w3.heap.size (.slice (some ⟨w3.heap.size, 0, none⟩) L.length L.length) (lensL L) := by
          have := OwnRow.of_rowIs (xs := lensL L) hr (Nat.le_refl _) HLL.out (by unfold maxLen; omega) (by intro x hx; simp only [lensL, List.mem_map] at hx; obtain ⟨u, hu, rfl⟩ := hx; have := HRL.out u (List.mem_range.1 hu); unfold I64; omega) (fun i hi => by simp [hi])
          simpa [HLL.out] using this
        have HO := Lib.hid ho
        clear hr hb ho
        go_wp2_with fail
        refine (sort_own _ _ _ _ _ _ HO.out (by rw [HLL.out]; omega)).mono ?_
        rintro e w5 ⟨rfl, ho5, hb5⟩
        have HP : Hid (GaveRow w (degL L) (.returned (.slice (some ⟨w3.heap.size, 0, none⟩) L.length L.length)) w5) := ⟨_, _, _, rfl, by rw [HE.out]; exact ho5.mono HB3.out.size, (HB3.out.trans (HB.out.mono HB3.out.size)).trans (hb5.mono HB3.out.size)⟩
        clear ho5 hb5
        go_wp2
        go_ret
        exact HP.out
  · have HE : Hid (degL L = []) := by show degL L = _; simp [degL, hG]
    rw [decide_eq_false hG, netArr_no hG]
    clear hG
    go_wp2_with (refine wpList_store_net rfl 65 (.tmp 3) (.tmp 10) rfl w1.heap.size 0 (fun _ => 0) rfl rfl Try.sizeNet 0 (fun _ => 0) hnb ?_; intro w3 hp; have HB3 : Hid (Below w.heap.size w w3) := (HB1.out.alloc hz _).trans (hp.below.mono hz); clear hp)
    have HP : Hid (GaveRow w (degL L) (.returned (.slice none 0 0)) w3) := ⟨0, none, 0, rfl, by rw [HE.out]; exact ⟨by simp, by simp, Or.inl ⟨rfl, rfl⟩⟩, HB3.out⟩
    go_ret
    exact HP.out

set_option maxHeartbeats 1600000 in
set_option maxRecDepth 100000 in
theorem specDegreesOf_any (v : Value) (L : List (List Int)) (w : World) (h : GridAt w v L) : Calls Try.prog 36 #[.agg #[v]] w (GaveRow w (degL L)) := by
  have hl := h.len
  unfold maxLen at hl
  obtain ⟨i0, hi, hz0, hz1, hz2⟩ := info_parts Try.infoI
  obtain ⟨a0, c0, rfl⟩ := h.slice
  obtain ⟨W1, hW1⟩ : ∃ W1, W1 = w.alloc (.cells #[.slice a0 L.length c0] 30) := ⟨_, rfl⟩
  have hs1 : W1.heap.size = w.heap.size + 1 := by rw [hW1]; simp
  have ha : Below w.heap.size w W1 := by rw [hW1]; exact (Below.refl _ _).alloc (Nat.le_refl _) _
  have kb : W1.cell? ⟨w.heap.size, 0, none⟩ = some (.slice a0 L.length c0) := by rw [hW1]; go_simp
  have HGr := Lib.hid (h.keep ha)
  have KB := Lib.hid kb
  have HA := Lib.hid ha
  have HS1 := Lib.hid hs1
  have HW1 := Lib.hid hW1
  clear ha hs1 kb hW1 h
  go_enter Try.func36, Try.ntmps36
  go_wp2
  rw [← HW1.out]
  go_loopw [3, 4] (fun v i wr => ∃ k : Nat, k ≤ L.length ∧ i = .int .i64 k ∧ (0 < k → GraphP L) ∧ OwnRow 2 wr W1.heap.size v (degTo L k) ∧ Below W1.heap.size W1 wr) (fun _ i _ => L.length - (intOf i).toNat)
  case atStart =>
    refine ⟨0, Nat.zero_le _, rfl, (fun h => absurd h (by omega)), ?_, (Below.refl _ _).alloc (Nat.le_refl _) _⟩
    have := own_empty (T := 2) W1
    rw [HS1.out] at this ⊢
    exact this
  case round =>
    obtain ⟨k, hk, rfl, hgp, hog, hb⟩ := hrel
    have hkb := cell_keep hb KB.out
    have HOG := Lib.hid hog
    have HB := Lib.hid hb
    have HGP := Lib.hid hgp
    clear hog hgp
    by_cases hlt : k < L.length
    · have hd : decide ((k : Int) < (L.length : Int)) = true := by simpa using hlt
      clear hb
      go_wp2_with fail
      refine (specGraphOk_any _ _ _ (HGr.out.keep HB.out)).mono ?_
      rintro e w2 ⟨rfl, hb2⟩
      have HB2 : Hid (Below W1.heap.size W1 w2) := HB.out.trans (hb2.mono HB.out.size)
      have HOG2 := Lib.hid (HOG.out.keep hb2)
      have hkb2 := cell_keep hb2 hkb
      clear hb2 hkb HOG HB
      by_cases hG : GraphP L
      · rw [decide_eq_true hG]
        have hzz := hG.1
        obtain ⟨b, o, c, A, C, e2, l1, l2, hc⟩ := HGr.out.pos (by omega)
        simp only [Value.slice.injEq, true_and] at e2
        obtain ⟨rfl, rfl⟩ := e2
        have HC := Lib.hid hc
        have HG := Lib.hid hG
        clear hc hG hd
        go_wp2
        go_loopw [3, 5] (fun v i w3 => ∃ q : Nat, q ≤ L.length ∧ i = .int .i64 q ∧ OwnRow 2 w3 W1.heap.size v (degTo L k ++ List.replicate (cnt L k q) (k : Int)) ∧ Below W1.heap.size W1 w3) (fun _ i _ => L.length - (intOf i).toNat)
        case atStart => exact ⟨0, Nat.zero_le _, rfl, by simpa [cnt] using HOG2.out, HB2.out⟩
        case round =>
          rename World => w3
          obtain ⟨q, hq, rfl, hog, hb⟩ := hrel
          have hkb3 := cell_keep hb KB.out
          have HB3 := Lib.hid hb
          have HOG3 := Lib.hid hog
          have hz3 : W1.heap.size ≤ w3.heap.size := hb.size
          by_cases hql : q < L.length
          · have hck := cell_keep hb (HC.out q hql).1
            by_cases he : (nthR L q).length = k
            · have hbe : (((nthR L q).length : Int) == (k : Int)) = true := by rw [beq_iff_eq]; omega
              have hll := degTo_len L k
              have hcl := cnt_le L k q
              have hmm : L.length * k ≤ 16 * 16 := Nat.mul_le_mul (by omega) (by omega)
              obtain ⟨E, hE⟩ : ∃ E, E = degTo L k ++ List.replicate (cnt L k q) (k : Int) := ⟨_, rfl⟩
              have hEl : E.length ≤ 1000 := by rw [hE, List.length_append, List.length_replicate]; omega
              rw [← hE] at hog HOG3
              have HES : Hid (degTo L k ++ List.replicate (cnt L k (q + 1)) (k : Int) = E ++ [(k : Int)]) := by
                show _ = _
                rw [hE, List.append_assoc]
                simp only [cnt, he, if_true, List.replicate_succ']
              have HO := Lib.hid hog.owns
              have HEI : Hid (∀ x ∈ E, I64 x) := hog.1
              clear hog hb hE hll hcl he hmm
              go_wp2_with (at_builtin; refine wpList_append_own _ rfl (.tmp 33) (.tmp 35) 35 rfl W1.heap.size 2 i0 (.int .i64 0) 1 8 Try.underlying35 hi hz0 hz1 hz2 rfl (by decide) _ _ _ rfl (HO.out.alloc _) ⟨w3.heap.size, 0, none⟩ 1 1 [.int .i64 (k : Int)] rfl rfl ?d1 ?d2 ?d3 ?d4 ?d5 ?_)
              case d1 =>
                intro j u hj
                match j, hj with
                | 0, hj => simp at hj; subst hj; simp [Addr.add]
              case d2 => intro u hu; simp at hu; subst hu; rfl
              case d3 => unfold maxLen; omega
              case d4 => omega
              case d5 => simp; omega
              intro v4 w4 hown4 hgrow4 _
              have HB4 : Hid (Below W1.heap.size W1 w4) := (HB3.out.alloc hz3 _).grown hgrow4 (by simp; omega) (fun j hj => (HO.out.lt j hj).1)
              have HO4 : Hid (OwnRow 2 w4 W1.heap.size v4 (E ++ [(k : Int)])) := OwnRow.of_ownsRow (n := E.length + 1) (by simpa using hown4) (by unfold maxLen; simp; omega) (by intro x hx; rcases List.mem_append.1 hx with h | h; exact HEI.out x h; simp at h; subst h; unfold I64; omega)
              clear hown4 hgrow4
              go_wp2
              go_roundw
              case rel => exact ⟨q + 1, by omega, by go_num, by rw [HES.out]; exact HO4.out, HB4.out⟩
              case measure => simp [intOf]; omega
            · have hbe : (((nthR L q).length : Int) == (k : Int)) = false := by rw [beq_eq_false_iff_ne]; omega
              have HES : Hid (cnt L k (q + 1) = cnt L k q) := by show _ = _; simp [cnt, he]
              clear hog hb he
              go_wp2
              go_roundw
              case rel => exact ⟨q + 1, by omega, by go_num, by rw [HES.out]; exact HOG3.out, HB3.out⟩
              case measure => simp [intOf]; omega
          · obtain rfl : q = L.length := by omega
            clear hog hb
            go_wp2
            go_roundw
            case rel => exact ⟨k + 1, by omega, by go_num, (fun _ => HG.out), HOG3.out, HB3.out⟩
            case measure => simp [intOf]; omega
      · rw [decide_eq_false hG]
        obtain rfl : k = 0 := by
          rcases Nat.eq_zero_or_pos k with h | h
          · exact h
          · exact absurd (HGP.out h) hG
        have HE : Hid (degL L = degTo L 0) := by show _ = _; simp [degL, hG, degTo]
        obtain ⟨a4, c4, e4⟩ := HOG2.out.row.slice
        have HP : Hid (GaveRow w (degL L) (.returned (.slice a4 (degTo L 0).length c4)) w2) := ⟨_, a4, c4, rfl, by rw [HE.out, ← e4]; exact HOG2.out.mono HA.out.size, HA.out.trans (HB2.out.mono HA.out.size)⟩
        rw [e4]
        clear e4 hG hd
        go_wp2
        go_ret
        exact HP.out
    · obtain rfl : k = L.length := by omega
      have hd : decide ((L.length : Int) < (L.length : Int)) = false := by simp
      have HE : Hid (degL L = degTo L L.length) := by
        show _ = _
        by_cases hG : GraphP L
        · rw [degL, if_pos hG]
        · have : L.length = 0 := by
            rcases Nat.eq_zero_or_pos L.length with h | h
            · exact h
            · exact absurd (HGP.out h) hG
          rw [degL, if_neg hG, this]; rfl
      obtain ⟨a4, c4, e4⟩ := HOG.out.row.slice
      have HP : Hid (GaveRow w (degL L) (.returned (.slice a4 (degTo L L.length).length c4)) wr) := ⟨_, a4, c4, rfl, by rw [HE.out, ← e4]; exact HOG.out.mono HA.out.size, HA.out.trans (HB.out.mono HA.out.size)⟩
      rw [e4]
      clear e4 hb
      go_wp2
      go_ret
      exact HP.out

end Go.Proofs.Ytojbaepcflkgeaa
