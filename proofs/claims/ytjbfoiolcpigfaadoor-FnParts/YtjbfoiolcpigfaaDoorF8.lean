/- Walks: the graph of a net. -/
import Derived.Test.YtjbfoiolcpigfaaDoorF7
namespace Go.Proofs.YtjbfoiolcpigfaaDoor
open Go.RowKit

/-- The lists of the first k masks; the rest empty. -/
def partL (n : Nat) (M : Nat → Nat) (k : Nat) : List (List Int) := (List.range n).map (fun i => if i < k then listM (M i) else [])
theorem partL_len (n : Nat) (M : Nat → Nat) (k : Nat) : (partL n M k).length = n := by simp [partL]
theorem partL_nth {n : Nat} (M : Nat → Nat) (k : Nat) {i : Nat} (hi : i < n) : nthR (partL n M k) i = if i < k then listM (M i) else [] := by simp [partL, nthR, hi]
theorem partL_set (n : Nat) (M : Nat → Nat) (k : Nat) : (partL n M k).set k (listM (M k)) = partL n M (k + 1) := by
  apply nthR_ext
  · simp [partL_len]
  · intro i hi
    rw [List.length_set, partL_len] at hi
    rw [partL_nth M (k + 1) hi]
    unfold nthR
    rw [List.getD_eq_getElem?_getD]
    by_cases e : k = i
    · subst e
      rw [List.getElem?_set_self (by rw [partL_len]; exact hi)]
      simp
    · rw [List.getElem?_set_ne e]
      have := partL_nth M k hi
      unfold nthR at this
      rw [List.getD_eq_getElem?_getD] at this
      rw [this]
      by_cases h : i < k
      · simp [h, Nat.lt_succ_of_lt h]
      · simp [h, show ¬ i < k + 1 from by omega]
/-- The lists of n masks. -/
def maskL (n : Nat) (M : Nat → Nat) : List (List Int) := (List.range n).map (fun i => listM (M i))
theorem maskL_len (n : Nat) (M : Nat → Nat) : (maskL n M).length = n := by simp [maskL]
theorem maskL_nth {n : Nat} (M : Nat → Nat) {i : Nat} (hi : i < n) : nthR (maskL n M) i = listM (M i) := by simp [maskL, nthR, hi]
theorem partL_all (n : Nat) (M : Nat → Nat) : partL n M n = maskL n M := by
  apply nthR_ext
  · rw [partL_len, maskL_len]
  · intro i hi
    rw [partL_len] at hi
    rw [partL_nth M n hi, maskL_nth M hi, if_pos hi]

theorem own_made (w : World) (n : Nat) (M : Nat → Nat) (hn : n ≤ 16) : OwnGrid 2 36 (w.alloc (.cells (madeCells #[.slice none 0 0] n) 36)) w.heap.size (.slice (some ⟨w.heap.size, 0, none⟩) n n) (partL n M 0) := by
  obtain ⟨cur, c1, c2, c3⟩ := World.rowIs_made w (.slice none 0 0) n 36
  refine ⟨fun _ => .slice none 0 0, by rw [partL_len]; unfold maxLen; omega, Or.inr ⟨w.heap.size, n, cur, by rw [partL_len], Nat.le_refl _, c1, by rw [partL_len]; exact Nat.le_refl _, by unfold maxLen; omega, c2, fun i hi => by rw [partL_len] at hi; rw [c3 i hi]⟩, fun i hi => ?_, fun i j k _ _ hk => by cases hk⟩
  rw [partL_len] at hi
  rw [partL_nth M 0 hi, if_neg (by omega)]
  exact ⟨by simp, by simp, Or.inl ⟨rfl, rfl⟩⟩

set_option maxHeartbeats 1600000 in
theorem graph_any (g n : Nat) (M : Nat → Nat) (w : World) (h : NetBlk 74 w g n M) (hM : ∀ i, M i < 65536) (hn1 : 1 ≤ n) (hn : n ≤ 16) : Calls Tryd.prog 70 #[.pointer (some ⟨g, 0, none⟩)] w (GaveGraph w (maskL n M)) := by
  have hmk := run_make_row' (P := Tryd.prog) 27 36 (.slice none 0 0) 24 Tryd.underlying27 Tryd.infoR rfl .i64 .i64 n (by omega) (by omega)
  have hg := h.lt
  have k0 := h.at.1
  have H := Lib.hid h
  have HM := Lib.hid hM
  have hb0 : Below w.heap.size w ((w.alloc (.cells #[.slice none 0 0] 29)).alloc (.cells (madeCells #[.slice none 0 0] n) 36)) := ((Below.refl _ _).alloc (Nat.le_refl _) _).alloc (by simp) _
  have bx : BoxAt ((w.alloc (.cells #[.slice none 0 0] 29)).alloc (.cells (madeCells #[.slice none 0 0] n) 36)) w.heap.size (.slice none 0 0) := (BoxAt.new w _ _).keep ((Below.refl _ _).alloc (Nat.le_refl _) _)
  have og := own_made (w.alloc (.cells #[.slice none 0 0] 29)) n M hn
  rw [size_alloc1] at og
  have HB0 := Lib.hid hb0
  have HBX := Lib.hid bx
  have HOG := Lib.hid og
  clear h hM hb0 bx og
  go_enter Tryd.func70, Tryd.ntmps70
  go_wp2
  go_loopw [12] (fun i wr => ∃ k : Nat, k ≤ n ∧ i = .int .i64 k ∧ OwnGrid 2 36 wr (w.heap.size + 1) (.slice (some ⟨w.heap.size + 1, 0, none⟩) n n) (partL n M k) ∧ BoxAt wr w.heap.size (.slice none 0 0) ∧ Below w.heap.size w wr ∧ w.heap.size + 1 + 1 ≤ wr.heap.size) (fun i _ => n - (intOf i).toNat)
  case atStart => exact ⟨0, Nat.zero_le _, rfl, HOG.out, HBX.out, HB0.out, by simp⟩
  case round =>
    obtain ⟨k, hk, rfl, hog, hbx, hb, hz⟩ := hrel
    have HOG1 := Lib.hid hog
    have HBX1 := Lib.hid hbx
    have HB1 := Lib.hid hb
    by_cases hlt : k < n
    · obtain ⟨g', cap', eg, _, hgs, hcell⟩ := hog.place (by rw [partL_len]; omega)
      obtain ⟨a, m, c, kc, kf, _⟩ := hcell k (by rw [partL_len]; exact hlt)
      simp only [Value.slice.injEq, Option.some.injEq, Addr.mk.injEq, and_true] at eg
      obtain ⟨rfl, e9, e8⟩ := eg
      have kn := (H.out.keepB hb hg).at.2 k (by omega)
      have KC := Lib.hid kc
      have KF := Lib.hid kf
      clear hog hbx hb hcell e9 e8 kc kf
      go_wp2_with fail
      refine (list_any _ _ (HM.out k)).mono ?_
      rintro e w1 ⟨n1, a1, c1, rfl, ho1, hb1⟩
      have kc1 := cell_keep hb1 KC.out
      have kf1 : w1.frozen? ⟨w.heap.size + 1, k, none⟩ = false := by rw [hb1.frozen hgs]; exact KF.out
      have HO1 := Lib.hid ho1
      have HBB := Lib.hid hb1
      clear ho1 hb1 kn
      go_wp2
      go_roundw
      case rel =>
        refine ⟨k + 1, by omega, by go_num, ?_, (HBX1.out.keep HBB.out).setOther (by simp) _, (HB1.out.trans (HBB.out.mono (by omega))).setCell (by simp) _, by rw [size_setCell1]; exact Nat.le_trans hz HBB.out.size⟩
        rw [← partL_set]
        exact HOG1.out.setRow (by decide) HBB.out (by rw [partL_len]; exact hlt) (HO1.out.mono (by omega)) (fun q hq => Or.inl (HO1.out.lt q hq).1)
      case measure => simp [intOf]; omega
    · obtain rfl : k = n := by omega
      have hrc := hbx.1
      have hrf := hbx.2
      clear hog hbx hb
      go_wp2
      have q0 : (wr.setCell ⟨w.heap.size, 0, none⟩ (.slice (some ⟨w.heap.size + 1, 0, none⟩) k k)).cell? ⟨w.heap.size, 0, none⟩ = some (.slice (some ⟨w.heap.size + 1, 0, none⟩) k k) := cell_set_same _ HBX1.out.1
      refine bodyPost_ret (v := .agg #[.slice (some ⟨w.heap.size + 1, 0, none⟩) k k]) (by simp [results, Tryd.results70, go_sem, q0]) rfl ⟨k, _, k, rfl, ?_, ?_⟩
      · rw [← partL_all]
        exact (HOG1.out.setBelow (by simp) _).mono (by omega)
      · exact HB1.out.setCell (by simp) _

end Go.Proofs.YtjbfoiolcpigfaaDoor
