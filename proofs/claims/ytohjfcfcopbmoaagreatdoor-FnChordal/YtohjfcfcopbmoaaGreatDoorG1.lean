/- Walks: the model's graph of a list of edges. -/
import Derived.Test.YtohjfcfcopbmoaaGreatDoorQF6
import Derived.StillTailTactics

namespace Go.Proofs.YtohjfcfcopbmoaaGreatDoor
open Go.RowKit

/-- A box of type T. -/
def BoxT (T : TypeId) (w : World) (b : Nat) (v : Value) : Prop := w.heap[b]? = some (.cells #[v] T (0, 0))
theorem BoxT.lt {T : TypeId} {w : World} {b : Nat} {v : Value} (h : BoxT T w b v) : b < w.heap.size := (Array.getElem?_eq_some_iff.1 h).1
theorem BoxT.box {T : TypeId} {w : World} {b : Nat} {v : Value} (h : BoxT T w b v) : BoxAt w b v := ⟨by rw [cell_of_row w b 0 _ _ _ h]; rfl, frozen_of_row w b 0 _ T h⟩
theorem BoxT.keepB {T : TypeId} {w w' : World} {B b : Nat} {v : Value} (h : BoxT T w b v) (hb : Below B w w') (hlt : b < B) : BoxT T w' b v := by unfold BoxT; rw [hb.block b hlt]; exact h
theorem BoxT.keep {T : TypeId} {w w' : World} {b : Nat} {v : Value} (h : BoxT T w b v) (hb : Below w.heap.size w w') : BoxT T w' b v := h.keepB hb h.lt
theorem BoxT.set {T : TypeId} {w : World} {b : Nat} {v : Value} (h : BoxT T w b v) (u : Value) : BoxT T (w.setCell ⟨b, 0, none⟩ u) b u := by
  have := heap_setCell_same w b 0 #[v] T u h
  exact this
theorem BoxT.setOther {T : TypeId} {w : World} {b : Nat} {v : Value} (h : BoxT T w b v) {a : Addr} (ha : b ≠ a.block) (u : Value) : BoxT T (w.setCell a u) b v := by unfold BoxT; rw [heap_setCell_other _ _ _ _ ha]; exact h
theorem BoxT.new (w : World) (v : Value) (t : TypeId) : BoxT t (w.alloc (.cells #[v] t)) w.heap.size v := heap_alloc_new _ _

theorem OwnGrid.blkT {T T1 : TypeId} {w : World} {B g n cap : Nat} {L : List (List Int)} (h : OwnGrid T T1 w B (.slice (some ⟨g, 0, none⟩) n cap) L) : ∃ cur, w.heap[g]? = some (.cells cur T1 (0, 0)) := by
  obtain ⟨R, k2, k3, k4, k5⟩ := h
  rcases k3 with ⟨e, _⟩ | ⟨g', cap', cur', e, hg, hh, _⟩
  · cases e
  · simp only [Value.slice.injEq, Option.some.injEq, Addr.mk.injEq, and_true] at e
    obtain ⟨rfl, _, _⟩ := e
    exact ⟨cur', hh⟩

theorem maskL_zero (m : Nat) (E : List (List Int)) : List.replicate m ([] : List Int) = maskL m (edgeM E 0) := by
  apply nthR_ext
  · simp [maskL_len]
  · intro i hi
    rw [List.length_replicate] at hi
    rw [maskL_nth _ hi]
    show _ = listM 0
    rw [listM_zero]
    simp [nthR, hi]
theorem maskL_link (m : Nat) (M : Nat → Nat) (p q : Nat) (hpq : p ≠ q) : ((maskL m M).set p (listM (M p ||| 2 ^ q))).set q (listM (M q ||| 2 ^ p)) = maskL m (linkM M p q) := by
  apply nthR_ext
  · simp [maskL_len]
  · intro i hi
    rw [List.length_set, List.length_set, maskL_len] at hi
    rw [maskL_nth _ hi]
    have h0 := maskL_nth M hi
    unfold nthR at h0 ⊢
    rw [List.getD_eq_getElem?_getD] at h0 ⊢
    unfold linkM
    by_cases e1 : q = i
    · subst e1
      rw [List.getElem?_set_self (by rw [List.length_set, maskL_len]; exact hi)]
      simp
    · rw [List.getElem?_set_ne e1]
      by_cases e2 : p = i
      · subst e2
        rw [List.getElem?_set_self (by rw [maskL_len]; exact hi), if_neg hpq, if_pos rfl]
        rfl
      · rw [List.getElem?_set_ne e2, h0, if_neg (fun h => e1 h.symm), if_neg (fun h => e2 h.symm)]

set_option maxHeartbeats 3200000 in
set_option maxRecDepth 100000 in
theorem specGraphOf_any (v : Value) (n : Int) (E : List (List Int)) (w : World) (h : GridAt w v E) : Calls Tryz.prog 94 #[.int .i64 n, v] w (GaveOf w n E) := by
  have hl := h.len
  unfold maxLen at hl
  obtain ⟨a, c, rfl⟩ := h.slice
  have b0 : BoxAt (w.alloc (.cells #[.slice none 0 0] 26)) w.heap.size (.slice none 0 0) := BoxAt.new _ _ _
  have hb0 : Below w.heap.size w (w.alloc (.cells #[.slice none 0 0] 26)) := (Below.refl _ _).alloc (Nat.le_refl _) _
  have HB0 := Lib.hid hb0
  have HBX0 := Lib.hid b0
  have H := Lib.hid h
  clear h b0 hb0
  by_cases hin : inB n 1 16 = true
  · have HI := Lib.hid hin
    by_cases hlen : E.length ≤ 120
    · obtain ⟨m, hm⟩ : ∃ m : Nat, (m : Int) = n := ⟨n.toNat, by have : 1 ≤ n ∧ n ≤ 16 := (by simpa [inB] using hin); omega⟩
      have hm1 : 1 ≤ m ∧ m ≤ 16 := by have : 1 ≤ n ∧ n ≤ 16 := (by simpa [inB] using hin); omega
      obtain ⟨hm1, hm2⟩ := hm1
      subst hm
      have hlen' : decide ((120 : Int) < (E.length : Int)) = false := by simp; omega
      clear hin
      go_enter Tryz.func94, Tryz.ntmps94
      go_wp2_with fail
      refine (l1In_any _ _ _ _).mono ?_
      rintro e w' ⟨rfl, rfl⟩
      rw [HI.out]
      go_wp2_with fail
      refine (l1Empty_any m _ (by omega)).mono ?_
      rintro e w2 ⟨n2, a2, c2, rfl, ho2, hb2⟩
      obtain rfl : n2 = m := by
        obtain ⟨a3, c3, e3⟩ := ho2.grid.slice
        simp only [Value.slice.injEq] at e3
        simpa using e3.2.1
      rw [maskL_zero n2 E, size_alloc1] at ho2
      have hs2 : w.heap.size + 1 ≤ w2.heap.size := by have := hb2.size; rw [size_alloc1] at this; exact this
      have HBL2 : Hid (Below w.heap.size w w2) := HB0.out.trans (hb2.mono HB0.out.size)
      have HBX2 : Hid (BoxAt w2 w.heap.size (.slice none 0 0)) := HBX0.out.keep hb2
      have HO2 := Lib.hid ho2
      clear ho2 hb2
      have bn := BoxT.new w2 (.slice a2 n2 c2) 26
      have BN := Lib.hid bn
      clear bn
      go_wp2_with fail
      go_loopw [7] (fun i wr => ∃ k : Nat, k ≤ E.length ∧ i = .int .i64 k ∧ (∀ j, j < k → EdgeP (nthR E j) n2) ∧ (∃ a c, BoxT 26 wr w2.heap.size (.slice a n2 c) ∧ OwnGrid 2 33 wr (w.heap.size + 1) (.slice a n2 c) (maskL n2 (edgeM E k))) ∧ BoxAt wr w.heap.size (.slice none 0 0) ∧ Below w.heap.size w wr) (fun i _ => E.length - (intOf i).toNat)
      case atStart => exact ⟨0, Nat.zero_le _, rfl, (fun j hj => absurd hj (by omega)), ⟨a2, c2, BN.out, HO2.out.keep ((Below.refl _ _).alloc (Nat.le_refl _) _)⟩, HBX2.out.keep ((Below.refl _ _).alloc (Nat.le_refl _) _), HBL2.out.alloc (by omega) _⟩
      case round =>
        obtain ⟨k, hk, rfl, he, ⟨ag, cg, hbt, hog⟩, hbx, hb⟩ := hrel
        have HE := Lib.hid he
        have HB := Lib.hid hb
        have HBT := Lib.hid hbt
        have HOG := Lib.hid hog
        have HBX := Lib.hid hbx
        clear he
        by_cases hlt : k < E.length
        · obtain ⟨b, o, c0, A, C, e2, l1, l2, hc⟩ := H.out.pos (by omega)
          simp only [Value.slice.injEq, true_and] at e2
          obtain ⟨rfl, rfl⟩ := e2
          have hck := cell_keep hb (hc k hlt).1
          have hrk := (hc k hlt).2.keep hb
          have HRK := Lib.hid hrk
          clear hc hbx hrk hb hbt hog
          have fin : ∀ w4, Drawn wr w4 → Hid (BoxAt w4 w.heap.size (.slice none 0 0) ∧ Below w.heap.size w w4) := fun w4 hd => ⟨HBX.out.keep (hd.below _), HB.out.trans (hd.below _)⟩
          by_cases h2 : (nthR E k).length = 2
          · have g2 : (((nthR E k).length : Int) != 2) = false := by rw [bne_eq_false_iff_eq, h2]; rfl
            have H2 := Lib.hid h2
            clear h2
            go_wp2_with fail
            refine (l1Set_any _ _ _ _ HRK.out (by omega) (by omega)).mono ?_
            rintro e w4 ⟨rfl, hd4⟩
            have hck4 := cell_drawn hd4 hck
            have hf4 := fin w4 hd4
            have HRK4 := Lib.hid (HRK.out.drawn hd4)
            have HBT4 := Lib.hid (HBT.out.keep (hd4.below _))
            have HOG4 := Lib.hid (HOG.out.keep (hd4.below _))
            clear hd4 hck fin
            by_cases hE : EdgeP (nthR E k) n2
            · rw [decide_eq_true ((edge_set H2.out).2 hE)]
              obtain ⟨_, x0, x1, x2⟩ := id hE
              obtain ⟨b2, o2, c2', e3, l3, l4, hc2⟩ := HRK4.out.pos (by rw [H2.out]; omega)
              rw [H2.out] at l3 hc2
              rw [e3, H2.out] at hck4
              obtain ⟨p, hp⟩ : ∃ p : Nat, nth (nthR E k) 0 = (p : Int) := ⟨(nth (nthR E k) 0).toNat, by omega⟩
              obtain ⟨q, hq⟩ : ∃ q : Nat, nth (nthR E k) 1 = (q : Int) := ⟨(nth (nthR E k) 1).toNat, by omega⟩
              have k0 : w4.cell? ⟨b2, o2, none⟩ = some (.int .i64 (p : Int)) := by rw [← hp]; exact hc2 0 (by omega)
              have k1 : w4.cell? ⟨b2, o2 + 1, none⟩ = some (.int .i64 (q : Int)) := by rw [← hq]; exact hc2 1 (by omega)
              have hpq : p < q ∧ q < n2 := by omega
              have hed : linkM (edgeM E k) p q = edgeM E (k + 1) := by
                funext i
                show _ = linkM (edgeM E k) (nth (nthR E k) 0).toNat (nth (nthR E k) 1).toNat i
                rw [hp, hq, Int.toNat_natCast, Int.toNat_natCast]
              have HED := Lib.hid hed
              have HEK := Lib.hid hE
              obtain ⟨hpq1, hpq2⟩ := hpq
              obtain ⟨g, cap, eg, hBg, hgs, hcell⟩ := HOG4.out.place (by rw [maskL_len]; omega)
              simp only [maskL_len, Value.slice.injEq, true_and] at eg
              obtain ⟨rfl, rfl⟩ := eg
              have kg := HBT4.out.box.1
              have hgne : g ≠ w2.heap.size := by
                obtain ⟨cur, hcur⟩ := HOG4.out.blkT
                intro e
                rw [e] at hcur
                have hbb : w4.heap[w2.heap.size]? = _ := HBT4.out
                rw [hcur] at hbb
                simp at hbb
              clear hE x0 x1 x2 e3 hc2 hp hq hed hcell
              go_wp2_with fail
              go_still_tail 13, (by kernel_rfl)
              change wpList _ _ _ _ _ w4.drew
              have HBT5 := Lib.hid (HBT4.out.keep (Below.refl _ _).drew)
              have HOG5 := Lib.hid (HOG4.out.keep (Below.refl _ _).drew)
              have HF5 : Hid (BoxAt w4.drew w.heap.size (.slice none 0 0) ∧ Below w.heap.size w w4.drew) := ⟨hf4.out.1.keep (Below.refl _ _).drew, hf4.out.2.drew⟩
              clear HBT4 HOG4 hf4 HRK4 hck4 k0 k1 kg
              have hgs5 : g < w4.drew.heap.size := hgs
              clear hgs
              generalize w4.drew = w5 at HBT5 HOG5 HF5 hgs5 ⊢
              have hlk := l1Link_own p q g cg (w.heap.size + 1) (maskL n2 (edgeM E k)) w5 (by rw [maskL_len]; exact HOG5.out) (by have := HBT5.out.lt; omega) (by rw [maskL_len]; omega) (by rw [maskL_len]; exact hpq2) (by rw [maskL_len]; exact hm2) (by omega) (edgeM E k p) (edgeM E k q) (maskL_nth _ (by omega)) (maskL_nth _ hpq2)
              rw [maskL_len, maskL_link _ _ _ _ (by omega), HED.out] at hlk
              have HLK := Lib.hid hlk
              clear hlk
              go_wp2_with fail
              refine HLK.out.mono ?_
              rintro e w6 ⟨rfl, ho6, hb6, ht6⟩
              have bt6 : BoxT 26 w6 w2.heap.size (.slice (some ⟨g, 0, none⟩) n2 cg) := by
                unfold BoxT
                rw [ht6 _ HBT5.out.lt (fun e => hgne e.symm)]
                exact HBT5.out
              have bx6 : BoxAt w6 w.heap.size (.slice none 0 0) := HF5.out.1.keepB hb6 (by omega)
              have bl6 : Below w.heap.size w w6 := HF5.out.2.trans (hb6.mono (by omega))
              have kb6 := bt6.box.1
              have kf6 := bt6.box.2
              have HBT6 := Lib.hid bt6
              have HBX6 := Lib.hid bx6
              have HBL6 := Lib.hid bl6
              have HO6 := Lib.hid ho6
              clear bt6 bx6 bl6 ho6 hb6 ht6 HLK
              go_wp2
              go_roundw
              case rel =>
                refine ⟨k + 1, by omega, by go_num, (fun j hj => by rcases Nat.lt_succ_iff_lt_or_eq.1 hj with h | h; exact HE.out j h; subst h; exact HEK.out), ⟨_, cg, HBT6.out.set _, ?_⟩, HBX6.out.setOther (by simp; omega) _, HBL6.out.setCell (by simp; omega) _⟩
                exact HO6.out.setType HBT6.out (by decide) (by decide) 0 _
              case measure => simp [intOf]; omega
            · have hno : ¬ OfP (n2 : Int) E := fun h => hE (h.2.2 k hlt)
              rw [decide_eq_false (fun h => hE ((edge_set H2.out).1 h))]
              have hbc := hf4.out.1.1
              have hbf := hf4.out.1.2
              go_wp2
              have q0 : (w4.setCell ⟨w.heap.size, 0, none⟩ (.slice none 0 0)).cell? ⟨w.heap.size, 0, none⟩ = some (.slice none 0 0) := cell_set_same _ hf4.out.1.1
              refine bodyPost_ret (v := .tuple #[.agg #[.slice none 0 0], .bool false]) (by simp [results, Tryz.results94, go_sem, q0]) rfl (GaveOf.no hno (hf4.out.2.setCell (Nat.le_refl _) _))
          · have hno : ¬ OfP (n2 : Int) E := fun h => h2 (h.2.2 k hlt).1
            have g2 : (((nthR E k).length : Int) != 2) = true := by rw [bne_iff_ne]; omega
            have hbc := HBX.out.1
            have hbf := HBX.out.2
            clear h2
            go_wp2
            have q0 : (wr.setCell ⟨w.heap.size, 0, none⟩ (.slice none 0 0)).cell? ⟨w.heap.size, 0, none⟩ = some (.slice none 0 0) := cell_set_same _ HBX.out.1
            refine bodyPost_ret (v := .tuple #[.agg #[.slice none 0 0], .bool false]) (by simp [results, Tryz.results94, go_sem, q0]) rfl (GaveOf.no hno (HB.out.setCell (Nat.le_refl _) _))
        · obtain rfl : k = E.length := by omega
          have hof : OfP (n2 : Int) E := ⟨HI.out, hlen, HE.out⟩
          have hgc := hbt.box.1
          have hbc := hbx.1
          have hbf := hbx.2
          clear hb hbx hbt hog
          go_wp2
          have q0 : (wr.setCell ⟨w.heap.size, 0, none⟩ (.slice ag n2 cg)).cell? ⟨w.heap.size, 0, none⟩ = some (.slice ag n2 cg) := cell_set_same _ HBX.out.1
          refine bodyPost_ret (v := .tuple #[.agg #[.slice ag n2 cg], .bool true]) (by simp [results, Tryz.results94, go_sem, q0]) rfl ⟨n2, ag, cg, by rw [decide_eq_true hof], ?_, HB.out.setCell (Nat.le_refl _) _⟩
          rw [ofL, if_pos hof]
          exact (HOG.out.setBelow (by simp) _).mono (by omega)
    · have hno : ¬ OfP n E := fun h => hlen h.2.1
      have hlen' : decide ((120 : Int) < (E.length : Int)) = true := by simp; omega
      clear hin
      go_enter Tryz.func94, Tryz.ntmps94
      go_wp2_with fail
      refine (l1In_any _ _ _ _).mono ?_
      rintro e w' ⟨rfl, rfl⟩
      rw [HI.out]
      go_wp2
      refine bodyPost_ret (v := .tuple #[.agg #[.slice none 0 0], .bool false]) (by simp [results, Tryz.results94, go_sem, HBX0.out.1]) rfl (GaveOf.no hno HB0.out)
  · have hin' : inB n 1 16 = false := by simpa using hin
    have hno : ¬ OfP n E := fun h => hin h.1
    have HI := Lib.hid hin'
    clear hin hin'
    go_enter Tryz.func94, Tryz.ntmps94
    go_wp2_with fail
    refine (l1In_any _ _ _ _).mono ?_
    rintro e w' ⟨rfl, rfl⟩
    rw [HI.out]
    go_wp2
    refine bodyPost_ret (v := .tuple #[.agg #[.slice none 0 0], .bool false]) (by simp [results, Tryz.results94, go_sem, HBX0.out.1]) rfl (GaveOf.no hno HB0.out)

end Go.Proofs.YtohjfcfcopbmoaaGreatDoor
