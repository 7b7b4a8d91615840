/- The texts N9, P1, P2, P3, joined. -/
import Derived.Deep.AppendLies
import Derived.Test.YtikfbfclbmlopaaQ3

/- Walks: a vertex added: the model's. -/
namespace Go.Proofs.Ytikfbfclbmlopaa
open Go.RowKit

/-- May a vertex with these neighbours be added? -/
def avB (L : List (List Int)) (xs : List Int) : Bool := setB L xs && !((L.length : Int) == 16)
theorem avB_yes {L : List (List Int)} {xs : List Int} (h : avB L xs = true) : GraphP L ∧ SetP xs L.length ∧ L.length < 16 ∧ xs.length ≤ 16 := by
  unfold avB setB at h
  simp at h
  have := h.1.2.len (by omega)
  have := h.1.1.1
  exact ⟨h.1.1, h.1.2, by omega, by omega⟩
/-- Who is near whom when the new vertex has been joined to ys. -/
def avA (L : List (List Int)) (ys : List Int) (i j : Nat) : Bool := adjB L i j || (i == L.length && hasB ys (j : Int)) || (j == L.length && hasB ys (i : Int))
theorem hasB_nil (z : Int) : hasB [] z = false := by cases h : hasB [] z with | false => rfl | true => (rw [hasB_iff] at h; obtain ⟨q, hq, _⟩ := h; simp at hq)
theorem avA_link (L : List (List Int)) {y : Nat} (ys : List Int) (i j : Nat) : avA L (ys ++ [(y : Int)]) i j = linkA (avA L ys) y L.length i j := by
  unfold linkA avA
  rw [hasB_snoc, hasB_snoc]
  have c1 : ((j : Int) == (y : Int)) = (j == y) := by rw [Bool.eq_iff_iff, beq_iff_eq, beq_iff_eq]; omega
  have c2 : ((i : Int) == (y : Int)) = (i == y) := by rw [Bool.eq_iff_iff, beq_iff_eq, beq_iff_eq]; omega
  rw [c1, c2]
  cases adjB L i j <;> cases (i == L.length) <;> cases (j == L.length) <;> cases hasB ys (j : Int) <;> cases hasB ys (i : Int) <;> cases (i == y) <;> cases (j == y) <;> rfl
/-- The answer. -/
def avL (L : List (List Int)) (xs : List Int) : List (List Int) := if avB L xs = true then adjL (L.length + 1) (avA L xs) else []
theorem avL_no {L : List (List Int)} {xs : List Int} (h : avB L xs = false) : avL L xs = [] := by rw [avL, h]; rfl
theorem avL_small (L : List (List Int)) (xs : List Int) : Small (avL L xs) := by
  unfold avL
  split
  · rename_i h
    exact adjL_small _ _ (by have := (avB_yes h).2.2.1; omega)
  · exact ⟨by simp, fun i hi => absurd hi (by simp)⟩
theorem avA_start {L : List (List Int)} (hG : GraphP L) : L ++ [[]] = adjL (L.length + 1) (avA L []) := by
  apply nthR_ext
  · simp [adjL_len]
  · intro i hi
    rw [List.length_append, List.length_singleton] at hi
    rw [adjL_nth _ hi]
    have e : ∀ j, avA L [] i j = adjB L i j := fun j => by unfold avA; rw [hasB_nil, hasB_nil]; simp
    rw [pm_congr (fun j _ => e j)]
    by_cases h : i < L.length
    · rw [nthR_append_old h, ← rowM_pm hG, row_list hG h]
    · obtain rfl : i = L.length := by omega
      rw [nthR_append_last]
      have : pm (adjB L L.length) = 0 := by
        rw [← pm_false]
        refine pm_congr (fun j _ => ?_)
        cases hb : adjB L L.length j with
        | false => rfl
        | true => exact absurd (adjB_range hG hb).1 (by omega)
      rw [this, listM_zero]

set_option maxHeartbeats 3200000 in
set_option maxRecDepth 100000 in
theorem specAddedVertex_any (v v1 : Value) (L : List (List Int)) (xs : List Int) (w : World) (h : GridAt w v L) (h1 : RowAt w v1 xs) : Calls Try.prog 53 #[.agg #[v], v1] w (GaveGB w (avL L xs) (avB L xs)) := by
  obtain ⟨i0, hi, hz0, hz1, hz2⟩ := info_parts Try.infoR
  obtain ⟨a0, c0, rfl⟩ := h.slice
  obtain ⟨a1, c1, rfl⟩ := h1.slice
  have hlm := h1.len
  unfold maxLen at hlm
  have T0 := Lib.hid (Two.start w (.slice a0 L.length c0))
  have HGK : Hid (∀ w', Below w.heap.size w w' → GridAt w' (.slice a0 L.length c0) L) := fun w' hb => h.keep hb
  have HRK : Hid (∀ w', Below w.heap.size w w' → RowAt w' (.slice a1 xs.length c1) xs) := fun w' hb => h1.keep hb
  clear h h1
  go_enter Try.func53, Try.ntmps53
  go_wp2_with fail
  refine (specSetOk_any _ _ _ _ _ (HGK.out _ T0.out.bel) (HRK.out _ T0.out.bel)).mono ?_
  rintro e w1 ⟨rfl, hb1⟩
  have T1 := Lib.hid (T0.out.keep hb1)
  clear hb1 T0
  by_cases hS : setB L xs = true
  · have HSB := Lib.hid hS
    have kb1 := T1.out.arg.1
    rw [hS]
    clear hS
    go_wp2_with fail
    refine (l1Size_any _ L _ (HGK.out _ T1.out.bel)).mono ?_
    rintro e w2 ⟨rfl, hb2⟩
    have T2 := Lib.hid (T1.out.keep hb2)
    clear hb2 T1 kb1
    by_cases h16 : L.length = 16
    · have HI : Hid (avB L xs = false) := by show avB L xs = false; unfold avB; rw [h16]; simp
      have he : ((L.length : Int) == 16) = true := by rw [h16]; rfl
      have kr := T2.out.res.1
      have kf := T2.out.res.2
      clear h16
      go_wp2
      exact bodyPost_ret (v := .tuple #[.agg #[.slice none 0 0], .bool false]) (by simp [results, Try.results53, go_sem, T2.out.q0]) rfl (T2.out.no (avL_no HI.out) HI.out)
    · have he : ((L.length : Int) == 16) = false := by rw [beq_eq_false_iff_ne]; omega
      have HI : Hid (avB L xs = true) := by show avB L xs = true; unfold avB; rw [HSB.out, he]; rfl
      obtain ⟨hG, hs, hlt16, hx16⟩ := avB_yes HI.out
      have HG := Lib.hid hG
      have HS := Lib.hid hs
      have hz := hG.1
      have kb2 := T2.out.arg.1
      clear h16 hG hs
      go_wp2_with fail
      refine (l1CopyGraph_any _ L _ (HGK.out _ T2.out.bel) (graph_small HG.out)).mono ?_
      rintro e w3 ⟨n2, a2, c2, rfl, ho2, hb2⟩
      obtain ⟨rfl, g, rfl, hwk⟩ := WorkL.start T2.out hb2 ho2 (by omega)
      obtain ⟨R, hR, hRr, hRd⟩ := hwk.own.owns
      have HWK := Lib.hid hwk
      have HR := Lib.hid hR
      have HRr := Lib.hid hRr
      have HRd := Lib.hid hRd
      have k6 := hwk.box.box.1
      have hz2' : w.heap.size + 1 < w2.heap.size := T2.out.lt
      have hz3 : w2.heap.size ≤ w3.heap.size := hb2.size
      have hz4 : w2.heap.size ≤ (w3.alloc (.cells #[.slice (some ⟨g, 0, none⟩) L.length c2] 26)).heap.size := by rw [size_alloc1]; omega
      clear ho2 hb2 hR hRr hRd kb2 hwk
      go_wp2_with (at_builtin; refine wpList_append_own _ rfl (.tmp 21) (.tmp 23) 24 rfl w2.heap.size 34 i0 (.slice none 0 0) 1 24 Try.underlying24 hi hz0 hz1 hz2 rfl (by decide) _ _ _ rfl ((HR.out.alloc _).alloc _) ⟨w3.heap.size + 1 + 1, 0, none⟩ 1 1 [.slice (some ⟨w3.heap.size + 1, 0, none⟩) 0 0] rfl rfl ?c1 ?c2 ?c3 ?c4 ?c5 ?_)
      case c1 =>
        have hq := World.news_of_block (heap_alloc_new ((w3.alloc (.cells #[.slice (some ⟨g, 0, none⟩) L.length c2] 26)).alloc (.cells #[] 2)) (.cells #[.slice (some ⟨w3.heap.size + 1, 0, none⟩) 0 0] 34))
        rw [size_alloc1, size_alloc1] at hq
        exact hq
      case c2 => intro u hu; simp at hu; subst hu; rfl
      case c3 => unfold maxLen; omega
      case c4 => omega
      case c5 => simp; omega
      intro v' w5 hown' hgrow _
      have hbA : Below (w3.alloc (.cells #[.slice (some ⟨g, 0, none⟩) L.length c2] 26)).heap.size (w3.alloc (.cells #[.slice (some ⟨g, 0, none⟩) L.length c2] 26)) (((w3.alloc (.cells #[.slice (some ⟨g, 0, none⟩) L.length c2] 26)).alloc (.cells #[] 2)).alloc (.cells #[.slice (some ⟨w3.heap.size + 1, 0, none⟩) 0 0] 34)) := ((Below.refl _ _).alloc (Nat.le_refl _) _).alloc (by simp) _
      have hog' : OwnGrid 2 34 w5 w2.heap.size v' (L ++ [[]]) := by
        refine OwnGrid.snoc (w0 := w3.alloc (.cells #[.slice (some ⟨g, 0, none⟩) L.length c2] 26)) (n := L.length) (by decide) hbA hz4 ?_ rfl (by unfold maxLen; omega) R HR.out HRr.out HRd.out hown' hgrow
        have := own_empty (T := 2) (w3.alloc (.cells #[.slice (some ⟨g, 0, none⟩) L.length c2] 26))
        rw [size_alloc1] at this
        have := this.keep ((Below.refl _ _).alloc (Nat.le_refl _) (.cells #[.slice (some ⟨w3.heap.size + 1, 0, none⟩) 0 0] 34))
        rw [size_alloc1]
        exact this
      have hbw : Below w2.heap.size (w3.alloc (.cells #[.slice (some ⟨g, 0, none⟩) L.length c2] 26)) w5 := (hbA.mono hz4).grown hgrow (by rw [size_alloc1, size_alloc1]; omega) (fun j hj => (HR.out.lt j hj).1)
      have hob : w5.heap[w3.heap.size]? = some (.cells #[.slice (some ⟨g, 0, none⟩) L.length c2] 26 (0, 0)) := by
        have hlt3 : w3.heap.size < (w3.alloc (.cells #[.slice (some ⟨g, 0, none⟩) L.length c2] 26)).heap.size := by rw [size_alloc1]; omega
        rw [hgrow.block w3.heap.size (by rw [size_alloc1, size_alloc1]; omega) (fun e => HWK.out.ne (by simpa [Value.ownBlock] using e)), hbA.block _ hlt3]
        exact HWK.out.box
      rw [avA_start HG.out] at hog'
      obtain ⟨a5, c5, e5⟩ := hog'.grid.slice
      rw [adjL_len] at e5
      subst e5
      have T5 := HWK.out.two.keepB hbw hz2'
      have bt5 : BoxT 26 w5 w3.heap.size (.slice (some ⟨g, 0, none⟩) L.length c2) := hob
      have kb5 := bt5.box.1
      have kf5 := bt5.box.2
      have HW5 : Hid (Work w w.heap.size (.slice a0 L.length c0) w3.heap.size (L.length + 1) w2.heap.size (avA L []) (w5.setCell ⟨w3.heap.size, 0, none⟩ (.slice a5 (L.length + 1) c5))) :=
        ⟨T5.arg.setOther (by simp; omega) _, T5.res.setOther (by simp; omega) _, ⟨a5, c5, bt5.set _, hog'.setType bt5 (by decide) (by decide) 0 _⟩, T5.bel.setCell (by simp; omega) _⟩
      clear hown' hgrow hbA hog' hbw hob T5 bt5 k6
      go_wp2_with fail
      generalize (w5.setCell ⟨w3.heap.size, 0, none⟩ (.slice a5 (L.length + 1) c5)) = w6 at HW5 ⊢
      go_loopw [7] (fun i wr => ∃ k : Nat, k ≤ xs.length ∧ i = .int .i64 k ∧ Work w w.heap.size (.slice a0 L.length c0) w3.heap.size (L.length + 1) w2.heap.size (avA L (xs.take k)) wr) (fun i _ => xs.length - (intOf i).toNat)
      case atStart => exact ⟨0, Nat.zero_le _, rfl, HW5.out⟩
      case round =>
        obtain ⟨k, hk, rfl, hw⟩ := hrel
        have HW := Lib.hid hw
        have kb := hw.arg.1
        by_cases hlt : k < xs.length
        · obtain ⟨bx, ox, cx, e2, l1, l2, hc⟩ := (HRK.out _ hw.bel).pos (by omega)
          simp only [Value.slice.injEq, true_and] at e2
          obtain ⟨rfl, rfl⟩ := e2
          have hck := hc k hlt
          have hxk := HS.out k hlt
          obtain ⟨y, hy⟩ : ∃ y : Nat, nth xs k = (y : Int) := ⟨(nth xs k).toNat, by have := hxk.1; omega⟩
          have hyn : y < L.length := by have := hxk.2.1; omega
          rw [hy] at hck
          have HTK : Hid (xs.take (k + 1) = xs.take k ++ [(y : Int)]) := by show _ = _; rw [take_snoc hlt, hy]
          obtain ⟨ag, cg, hbt, hog⟩ := hw.out
          obtain ⟨g7, cap, eg, hBg, hgs, _⟩ := hog.place (by rw [adjL_len]; omega)
          simp only [adjL_len, Value.slice.injEq, true_and] at eg
          obtain ⟨rfl, rfl⟩ := eg
          have hgne : w3.heap.size ≠ g7 := by
            obtain ⟨cur, hcur⟩ := hog.blkT
            intro e
            rw [← e] at hcur
            have hbb : wr.heap[w3.heap.size]? = _ := hbt
            rw [hcur] at hbb
            simp at hbb
          have kg := hbt.box.1
          have HBT := Lib.hid hbt
          have HOG := Lib.hid hog
          clear hw hc hxk hy hbt hog
          go_wp2_with fail
          go_region_law (first
            | (go_simp; go_at_call 72; refine (l1Size_any _ L _ (HGK.out _ HW.out.bel.drew)).mono ?_; rintro e wa ⟨rfl, hba⟩; have HBA : Hid (Below wr.heap.size wr wa) := (Below.refl _ _).drew.trans hba; have kga := cell_keep HBA.out kg; have hcka := cell_keep HBA.out hck; have kba := cell_keep HBA.out kb; have HWA := Lib.hid (HW.out.keep HBA.out); have HBTA := Lib.hid (HBT.out.keep HBA.out); have HOGA := Lib.hid (HOG.out.keep HBA.out); clear hba)
            | (go_simp; go_at_call 103; refine (l1Link_adj y L.length g7 cg w2.heap.size (L.length + 1) _ _ HOGA.out (by have := HBTA.out.lt; omega) (by omega) (by omega) (by omega) (by omega)).mono ?_; rintro e wb ⟨rfl, hob, hbb, htb⟩; have btb : BoxT 26 wb w3.heap.size (.slice (some ⟨g7, 0, none⟩) (L.length + 1) cg) := (by unfold BoxT; rw [htb _ HBTA.out.lt hgne]; exact HBTA.out); have kbb := btb.box.1; have kfb := btb.box.2; have HWB : Hid (Work w w.heap.size (.slice a0 L.length c0) w3.heap.size (L.length + 1) w2.heap.size (avA L (xs.take (k + 1))) (wb.setCell ⟨w3.heap.size, 0, none⟩ (.slice (some ⟨g7, 0, none⟩) (L.length + 1) cg))) := ⟨(HWA.out.arg.keepB hbb (by omega)).setOther (by simp; omega) _, (HWA.out.res.keepB hbb (by omega)).setOther (by simp; omega) _, ⟨_, cg, btb.set _, by rw [HTK.out, adjL_congr (fun i _ j _ => avA_link L _ i j)]; exact hob.setType btb (by decide) (by decide) 0 _⟩, (HWA.out.bel.trans (hbb.mono (by omega))).setCell (by simp; omega) _⟩; clear hob hbb htb btb))
          all_goals (
            clear kg hck kb kga hcka kba kbb kfb
            go_wp2
            go_roundw
            case rel => exact ⟨k + 1, by omega, by go_num, HWB.out⟩
            case measure => simp [intOf]; omega)
        · obtain rfl : k = xs.length := by omega
          obtain ⟨ag, cg, hbt, hog⟩ := hw.out
          rw [List.take_length] at hog
          have kg := hbt.box.1
          have kr := hw.res.1
          have kf := hw.res.2
          have T7 : Hid (Two w (.slice a0 L.length c0) wr) := ⟨hw.arg, hw.res, hw.bel⟩
          have HOG := Lib.hid hog
          clear hbt hog hw kb
          go_wp2
          refine bodyPost_ret (v := .tuple #[.agg #[.slice ag (L.length + 1) cg], .bool true]) (by simp [results, Try.results53, go_sem, T7.out.q0]) rfl (T7.out.yes (B := w2.heap.size) ?_ hz2' HI.out)
          rw [avL, if_pos HI.out]
          exact HOG.out
  · have hS' : setB L xs = false := by simpa using hS
    have HI : Hid (avB L xs = false) := by show avB L xs = false; unfold avB; rw [hS', Bool.false_and]
    have kr := T1.out.res.1
    have kf := T1.out.res.2
    rw [hS']
    clear hS hS'
    go_wp2
    exact bodyPost_ret (v := .tuple #[.agg #[.slice none 0 0], .bool false]) (by simp [results, Try.results53, go_sem, T1.out.q0]) rfl (T1.out.no (avL_no HI.out) HI.out)

end Go.Proofs.Ytikfbfclbmlopaa

/- Walks: a vertex added: the program's. -/
namespace Go.Proofs.Ytikfbfclbmlopaa
open Go.RowKit

/-- A row laid, its box laid, the copy grown by it, put back: the copy has one row more. -/
theorem WorkL.grow {w0 w w2 w7 : World} {v : Value} {bo B g n cg g7 cap7 : Nat} {L : List (List Int)} {xs : List Int} {rv : Value} {R : Nat → Value} (h : WorkL w0 v bo B g n cg L w) (hbo2 : w0.heap.size + 1 < bo) (hn : L.length = n) (hl : n ≤ 1000) (hb : Below w.heap.size w w2) (hr : OwnRow 2 w2 w.heap.size rv xs)
    (hR : w.ownsRow B 34 1 (.slice (some ⟨g, 0, none⟩) n cg) n ((List.range n).map R)) (hRr : ∀ i, i < n → OwnRow 2 w B (R i) (nthR L i)) (hRd : ∀ i j q, i < j → j < n → (R i).ownBlock = some q → (R j).ownBlock ≠ some q)
    (hown : w7.ownsRow B 34 1 (.slice (some ⟨g7, 0, none⟩) (n + 1) cap7) (n + 1) ((List.range n).map R ++ [rv])) (hgrow : (w2.alloc (.cells #[rv] 34)).grownBy w7 (Value.slice (some ⟨g, 0, none⟩) n cg).ownBlock) :
    BoxT 26 w7 bo (.slice (some ⟨g, 0, none⟩) n cg) ∧ WorkL w0 v bo B g7 (n + 1) cap7 (L ++ [xs]) (w7.setCell ⟨bo, 0, none⟩ (.slice (some ⟨g7, 0, none⟩) (n + 1) cap7)) := by
  subst hn
  have hBs : B ≤ w.heap.size := by
    rcases hR.2 with ⟨e, _⟩ | ⟨g', cap', cur', e, hg, hh, _⟩
    · cases e
    · obtain ⟨hlt, _⟩ := Array.getElem?_eq_some_iff.1 hh
      omega
  have hlow := h.low
  have hW : Below w.heap.size w (w2.alloc (.cells #[rv] 34)) := hb.alloc hb.size _
  have hbw : Below B w w7 := (hW.mono hBs).grown hgrow (by rw [size_alloc1]; have := hb.size; omega) (fun j hj => (hR.lt j hj).1)
  have hog : OwnGrid 2 34 w7 B (.slice (some ⟨g7, 0, none⟩) (L.length + 1) cap7) (L ++ [xs]) := by
    refine OwnGrid.snoc (w0 := w) (w := w2.alloc (.cells #[rv] 34)) (rv := rv) (n := L.length) (v := .slice (some ⟨g, 0, none⟩) L.length cg) (by decide) hW hBs ?_ rfl (by unfold maxLen; omega) R hR hRr hRd hown hgrow
    exact hr.keep ((Below.refl _ _).alloc (Nat.le_refl _) _)
  have hbt : BoxT 26 w7 bo (.slice (some ⟨g, 0, none⟩) L.length cg) := by
    unfold BoxT
    have hlt := h.box.lt
    rw [hgrow.block bo (by rw [size_alloc1]; have := hb.size; omega) (fun e => h.ne (by simpa [Value.ownBlock] using e)), hW.block bo hlt]
    exact h.box
  have t7 := h.two.keepB hbw hlow
  exact ⟨hbt, ⟨t7.arg.setOther (by simp; omega) _, t7.res.setOther (by simp; omega) _, t7.bel.setCell (by simp; omega) _⟩, hbt.set _, hog.setType hbt (by decide) (by decide) 0 _, hlow⟩

/-- Who is near whom among the old vertices and the new one, when the rows of ys have it. -/
def avP (L : List (List Int)) (ys : List Int) (i j : Nat) : Bool := adjB L i j || (j == L.length && hasB ys (i : Int))
theorem avP_start {L : List (List Int)} (hG : GraphP L) : L = adjL L.length (avP L []) := by
  have h := graph_adjL hG
  rw [← adjL_congr (A := avP L []) (A' := adjB L) (fun i _ j _ => by unfold avP; rw [hasB_nil]; simp)] at h
  exact h.symm
theorem avP_set {L : List (List Int)} (hG : GraphP L) (hn : L.length < 16) {y : Nat} (ys : List Int) (hy : y < L.length) : (adjL L.length (avP L ys)).set y (listM (rowM L y ||| 2 ^ L.length)) = adjL L.length (avP L (ys ++ [(y : Int)])) := by
  apply nthR_ext
  · simp [adjL_len]
  · intro i hi
    rw [List.length_set, adjL_len] at hi
    rw [adjL_nth _ hi]
    by_cases e : y = i
    · subst e
      unfold nthR
      rw [List.getD_eq_getElem?_getD, List.getElem?_set_self (by rw [adjL_len]; exact hi)]
      show listM _ = listM _
      congr 1
      apply Nat.eq_of_testBit_eq
      intro j
      rw [Nat.testBit_or, rowM_pm hG, pm_bit, pm_bit, Nat.testBit_two_pow]
      unfold avP
      rw [hasB_snoc]
      have e1 : ((y : Int) == (y : Int)) = true := by simp
      have e2 : (j == L.length) = decide (L.length = j) := by by_cases h : L.length = j <;> simp [h]; omega
      rw [e1, e2, Bool.or_true, Bool.and_true]
      by_cases hj : j < 16
      · simp [hj]
      · simp [hj, show ¬ L.length = j from by omega]
    · rw [nthR_set_ne _ e, adjL_nth _ hi]
      congr 1
      refine pm_congr (fun j _ => ?_)
      unfold avP
      rw [hasB_snoc]
      have : ((i : Int) == (y : Int)) = false := by rw [beq_eq_false_iff_ne]; omega
      rw [this, Bool.or_false]
theorem avP_end {L : List (List Int)} {xs : List Int} (hG : GraphP L) (hs : SetP xs L.length) (hn : L.length < 16) : adjL L.length (avP L xs) ++ [xs] = adjL (L.length + 1) (avA L xs) := by
  apply nthR_ext
  · simp [adjL_len]
  · intro i hi
    rw [List.length_append, List.length_singleton, adjL_len] at hi
    rw [adjL_nth _ hi]
    by_cases h : i < L.length
    · rw [nthR_append_old (by rw [adjL_len]; exact h), adjL_nth _ h]
      congr 1
      refine pm_congr (fun j _ => ?_)
      unfold avP avA
      have : (i == L.length) = false := by rw [beq_eq_false_iff_ne]; omega
      rw [this]; simp
    · obtain rfl : i = L.length := by omega
      have e := nthR_append_last (adjL L.length (avP L xs)) xs
      rw [adjL_len] at e
      rw [e]
      refine sets_eq (SetP.mk hs.pairwise (fun x hx => by have := hs.bounds x hx; omega)) (listM_set _) (fun z => ?_)
      rw [listM_mem]
      have hadj : ∀ j, adjB L L.length j = false := fun j => by
        cases hb : adjB L L.length j with
        | false => rfl
        | true => exact absurd (adjB_range hG hb).1 (by omega)
      have hself : hasB xs (L.length : Int) = false := by
        cases hb : hasB xs (L.length : Int) with
        | false => rfl
        | true =>
          have := hs.bounds _ ((hasB_mem _ _).1 hb)
          omega
      constructor
      · intro hz
        have hb := hs.bounds z hz
        obtain ⟨j, rfl⟩ : ∃ j : Nat, z = (j : Int) := ⟨z.toNat, by omega⟩
        refine ⟨j, by omega, ?_, rfl⟩
        rw [pm_bit]
        unfold avA
        rw [(hasB_mem xs (j : Int)).2 hz]
        simp; omega
      · rintro ⟨j, hj, hb, rfl⟩
        rw [pm_bit, Bool.and_eq_true] at hb
        have hb2 := hb.2
        unfold avA at hb2
        rw [hadj, hself] at hb2
        simp at hb2
        exact (hasB_mem _ _).1 hb2

set_option maxHeartbeats 6400000 in
set_option maxRecDepth 100000 in
theorem implAddedVertex_any (v v1 : Value) (L : List (List Int)) (xs : List Int) (w : World) (h : GridAt w v L) (h1 : RowAt w v1 xs) : Calls Try.prog 43 #[.agg #[v], v1] w (GaveGB w (avL L xs) (avB L xs)) := by
  obtain ⟨i0, hi, hz0, hz1, hz2⟩ := info_parts Try.infoR
  have hl := h.len
  unfold maxLen at hl
  obtain ⟨a0, c0, rfl⟩ := h.slice
  obtain ⟨a1, c1, rfl⟩ := h1.slice
  have hlm := h1.len
  unfold maxLen at hlm
  have T0 := Lib.hid (Two.start w (.slice a0 L.length c0))
  have HGK : Hid (∀ w', Below w.heap.size w w' → GridAt w' (.slice a0 L.length c0) L) := fun w' hb => h.keep hb
  have HRK : Hid (∀ w', Below w.heap.size w w' → RowAt w' (.slice a1 xs.length c1) xs) := fun w' hb => h1.keep hb
  clear h h1
  by_cases h16 : 16 ≤ L.length
  · have HI : Hid (avB L xs = false) := by
      show avB L xs = false
      cases hb : avB L xs with
      | false => rfl
      | true => exact absurd (avB_yes hb).2.2.1 (by omega)
    have hd : decide ((16 : Int) ≤ (L.length : Int)) = true := by simp; omega
    have kr := T0.out.res.1
    have kf := T0.out.res.2
    clear h16
    go_enter Try.func43, Try.ntmps43
    go_wp2
    refine bodyPost_ret (v := .tuple #[.agg #[.slice none 0 0], .bool false]) (by simp [results, Try.results43, go_sem]) rfl ?_
    rw [avL_no HI.out, HI.out]
    exact GaveGB.no T0.out.bel
  · have hd : decide ((16 : Int) ≤ (L.length : Int)) = false := by simp; omega
    have h16I : (L.length : Int) < 16 := by omega
    go_enter Try.func43, Try.ntmps43
    go_wp2_with fail
    refine (implSetOk_any _ _ _ _ _ (HGK.out _ T0.out.bel) (HRK.out _ T0.out.bel)).mono ?_
    rintro e w1 ⟨rfl, hb1⟩
    have T1 := Lib.hid (T0.out.keep hb1)
    clear hb1 T0
    by_cases hS : setB L xs = true
    · have HI : Hid (avB L xs = true) := by show avB L xs = true; unfold avB; rw [hS, (by rw [beq_eq_false_iff_ne]; omega : ((L.length : Int) == 16) = false)]; rfl
      obtain ⟨hG, hs, hlt16, hx16⟩ := avB_yes HI.out
      have HG := Lib.hid hG
      have HS := Lib.hid hs
      have hz := hG.1
      have kb1 := T1.out.arg.1
      rw [hS]
      clear hS h16 hG hs
      go_wp2_with fail
      refine (copied_any _ L _ (HGK.out _ T1.out.bel) (graph_small HG.out)).mono ?_
      rintro e w2 ⟨n2, a2, c2, rfl, ho2, hb2⟩
      obtain ⟨rfl, g, rfl, hwk⟩ := WorkL.start T1.out hb2 ho2 (by omega)
      obtain ⟨bg, og, cg, A, C, eg, lg1, lg2, hcg⟩ := (HGK.out _ (Below.refl _ _)).pos (by omega)
      simp only [Value.slice.injEq, true_and] at eg
      obtain ⟨rfl, rfl⟩ := eg
      have hbgl : bg < w.heap.size := block_lt_of_cell (hcg 0 (by omega)).1
      have HKC : Hid (∀ i, i < L.length → ∀ w', Below w.heap.size w w' → w'.cell? ⟨bg, og + i, none⟩ = some (.slice (A i) (nthR L i).length (C i)) ∧ RowAt w' (.slice (A i) (nthR L i).length (C i)) (listM (rowM L i))) := fun i hi w' hb => ⟨cell_keep hb (hcg i hi).1, by rw [row_list HG.out hi]; exact (hcg i hi).2.keep hb⟩
      have hbo : w.heap.size + 1 < w2.heap.size := Nat.lt_of_lt_of_le T1.out.lt hb2.size
      have HWK0 : Hid (WorkL w (.slice (some ⟨bg, og, none⟩) L.length c0) w2.heap.size w1.heap.size g L.length c2 (adjL L.length (avP L (xs.take 0))) (w2.alloc (.cells #[.slice (some ⟨g, 0, none⟩) L.length c2] 26))) := by
        rw [List.take_zero, ← avP_start HG.out]; exact hwk
      have HADJ : Hid (∀ i, (rowM L i).testBit L.length = false) := fun i => by
        show adjB L i L.length = false
        cases hb : adjB L i L.length with
        | false => rfl
        | true => exact absurd (adjB_range HG.out hb).2 (by omega)
      clear hb2 ho2 kb1 hcg hwk
      go_wp2_with fail
      generalize hw3 : (w2.alloc (.cells #[.slice (some ⟨g, 0, none⟩) L.length c2] 26)) = w3 at HWK0 ⊢
      clear hw3
      go_loopw [26] (fun i wr => ∃ k : Nat, k ≤ xs.length ∧ i = .int .i64 k ∧ WorkL w (.slice (some ⟨bg, og, none⟩) L.length c0) w2.heap.size w1.heap.size g L.length c2 (adjL L.length (avP L (xs.take k))) wr) (fun i _ => xs.length - (intOf i).toNat)
      case atStart => exact ⟨0, Nat.zero_le _, rfl, HWK0.out⟩
      case round =>
        obtain ⟨k, hk, rfl, hw⟩ := hrel
        have HWK := Lib.hid hw
        have k8 := HWK.out.box.box.1
        have k3 := HWK.out.two.arg.1
        have hlow := HWK.out.low
        have hne8 := HWK.out.ne
        by_cases hlt : k < xs.length
        · obtain ⟨bx, ox, cx, e2, l1, l2, hc⟩ := (HRK.out _ hw.two.bel).pos (by omega)
          simp only [Value.slice.injEq, true_and] at e2
          obtain ⟨rfl, rfl⟩ := e2
          have hck := hc k hlt
          have hxk := HS.out k hlt
          obtain ⟨p, hy⟩ : ∃ y : Nat, nth xs k = (y : Int) := ⟨(nth xs k).toNat, by have := hxk.1; omega⟩
          have hp : p < L.length := by have := hxk.2.1; omega
          have hpI : (p : Int) < (L.length : Int) := by omega
          rw [hy] at hck
          have HTK : Hid (xs.take (k + 1) = xs.take k ++ [(p : Int)]) := by show _ = _; rw [take_snoc hlt, hy]
          have kg := (HKC.out p hp _ HWK.out.two.bel).1
          have hp' : p < (adjL L.length (avP L (xs.take k))).length := by rw [adjL_len]; exact hp
          obtain ⟨hBg, hgs, ap, mp, cp, kp, fp, -⟩ := HWK.out.at (i := p) hp'
          have HKP := Lib.hid kp
          have HFP := Lib.hid fp
          clear kp fp hw hc hxk hy
          go_wp2_with fail
          go_region_held3 (fun wx => wx.cell? ⟨w2.heap.size, 0, none⟩ = some (.slice (some ⟨g, 0, none⟩) L.length c2) ∧ wx.cell? ⟨w.heap.size, 0, none⟩ = some (.slice (some ⟨bg, og, none⟩) L.length c0) ∧ wx.cell? ⟨bg, og + p, none⟩ = some (.slice (A p) (nthR L p).length (C p))) (first | exact ⟨k8, k3, kg⟩ | exact ⟨k8a, k3a, kga⟩ | exact ⟨cell_set_blk _ (fun e => hne8 e.symm) k8a, cell_set_blk _ (fun e => by simp at e; omega) k3a, cell_set_blk _ (fun e => by simp at e; omega) kga⟩)
            ((go_at_call 93; refine (rowWith_mask _ (rowM L p) L.length _ ((HKC.out p hp _ HWK.out.two.bel).2.keep (Below.refl _ _).drew) hlt16 (HADJ.out p)).mono ?_; rintro e w5 ⟨n5, a5, c5, rfl, ho5, hb5⟩; have HB5 : Hid (Below wr.heap.size wr w5) := (Below.refl _ _).drew.trans hb5; have k8a := cell_keep HB5.out k8; have k3a := cell_keep HB5.out k3; have kga := cell_keep HB5.out kg; have kpa := cell_keep HB5.out HKP.out; have fpa : w5.frozen? ⟨g, p, none⟩ = false := (by rw [HB5.out.frozen hgs]; exact HFP.out); have HO5 : Hid (OwnRow 2 w5 wr.heap.size (.slice a5 n5 c5) (listM (rowM L p ||| 2 ^ L.length))) := ho5; clear ho5 hb5))
          have hw6 := HWK.out.set HB5.out HO5.out hp'
          rw [avP_set HG.out hlt16 _ hp, ← HTK.out] at hw6
          have HW6 := Lib.hid hw6
          clear kpa fpa k8a k3a kga k8 k3 kg HKP HFP HO5 HB5 HWK hne8 hBg hgs hw6
          rename_i hHeld
          clear hHeld
          go_wp2
          go_roundw
          case rel => exact ⟨k + 1, by omega, by go_num, HW6.out⟩
          case measure => simp [intOf]; omega
        · obtain rfl : k = xs.length := by omega
          have hw2 := hw
          rw [List.take_length] at hw2
          have HWF := Lib.hid hw2
          obtain ⟨R, hR, hRr, hRd⟩ := hw2.own.owns
          rw [adjL_len] at hR hRr hRd
          have HR := Lib.hid hR
          have HRr := Lib.hid hRr
          have HRd := Lib.hid hRd
          have HXR := Lib.hid (HRK.out _ hw.two.bel)
          have hBs : w1.heap.size ≤ wr.heap.size := by
            obtain ⟨hb1, hb2, _⟩ := hw2.at (i := 0) (by rw [adjL_len]; omega)
            omega
          have ft := HWF.out.box.box.2
          have HC3 : Hid (L.length + 1 ≤ maxLen) := by show _ ≤ _; unfold maxLen; omega
          have HC4 : Hid ((L.length + 1) * 24 ≤ 140737488355328) := by show _ ≤ _; omega
          clear hw hw2 hR hRr hRd k3
          go_wp2_with fail
          go_region_law (first
            | (go_simp; go_at_call 99; refine (copiedRow_any _ xs _ (HXR.out.keep (Below.refl _ _).drew) (by omega)).mono ?_; rintro e wa ⟨na, aa, ca, rfl, hoa, hba⟩; have HBA : Hid (Below wr.heap.size wr wa) := (Below.refl _ _).drew.trans hba; have HOA : Hid (OwnRow 2 wa wr.heap.size (.slice aa na ca) xs) := hoa; have k8a := cell_keep HBA.out k8; have k8b : (wa.alloc (.cells #[.slice aa na ca] 34)).cell? ⟨w2.heap.size, 0, none⟩ = some (.slice (some ⟨g, 0, none⟩) L.length c2) := cell_keep ((Below.refl _ _).alloc (Nat.le_refl _) _) k8a; have HOR2 : Hid (wa.ownsRow w1.heap.size 34 1 (.slice (some ⟨g, 0, none⟩) L.length c2) L.length ((List.range L.length).map R)) := (⟨HR.out.1, HR.out.2.imp (fun h => h) (fun ⟨g, cap, cur, e, hgB, hh, r⟩ => ⟨g, cap, cur, e, hgB, by rw [HBA.out.block g (Array.getElem?_eq_some_iff.1 hh).1]; exact hh, r⟩)⟩); have HZ2 : Hid (w1.heap.size ≤ (wa.alloc (.cells #[.slice aa na ca] 34)).heap.size) := (by show _ ≤ _; rw [size_alloc1]; have := HBA.out.size; omega); clear hoa hba)
            | (refine step_append_lies _ (by rfl) (.tmp 43) (.tmp 46) 24 (by rfl) w1.heap.size 34 i0 (.slice none 0 0) 1 24 Try.underlying24 hi hz0 hz1 hz2 rfl (by omega) (.slice (some ⟨g, 0, none⟩) L.length c2) L.length ((List.range L.length).map R) (by rfl) (HOR2.out.alloc _) ⟨wa.heap.size, 0, none⟩ 1 1 [.slice aa na ca] (by rfl) rfl (World.news_of_block (heap_alloc_new _ _)) (fun u hu => by simp at hu; subst hu; rfl) Nat.one_pos HC3.out HC4.out HZ2.out (wa.heap.size + 1) (size_alloc1 _ _) ?_; intro g7 cap7 w7 hown7 hgrow7 hat7 hlt7; obtain ⟨hbx7, hw7⟩ := HWF.out.grow hbo (adjL_len _ _) (by omega) HBA.out HOA.out HR.out HRr.out HRd.out hown7 hgrow7; have k87 := hbx7.box.1; have f87 := hbx7.box.2; have HW7 := Lib.hid hw7; clear hown7 hgrow7 hat7 hlt7 hbx7 hw7))
          all_goals (
            clear k87 f87 k8a k8b k8 ft
            generalize (w7.setCell ⟨w2.heap.size, 0, none⟩ (.slice (some ⟨g7, 0, none⟩) (L.length + 1) cap7)) = w8 at HW7 ⊢
            have k8 := HW7.out.box.box.1
            have kr := HW7.out.two.res.1
            have kf := HW7.out.two.res.2
            have HEL : Hid (avL L xs = adjL L.length (avP L xs) ++ [xs]) := by show _ = _; rw [avL, if_pos HI.out, avP_end HG.out HS.out hlt16]
            go_wp2
            refine bodyPost_ret (v := .tuple #[.agg #[.slice (some ⟨g7, 0, none⟩) (L.length + 1) cap7], .bool true]) (by simp [results, Try.results43, go_sem, HW7.out.two.q0]) rfl ?_
            rw [HEL.out]
            exact HW7.out.done HI.out)
    · have hS' : setB L xs = false := by simpa using hS
      have HI : Hid (avB L xs = false) := by show avB L xs = false; unfold avB; rw [hS', Bool.false_and]
      have kr := T1.out.res.1
      have kf := T1.out.res.2
      rw [hS']
      clear hS hS'
      go_wp2
      exact bodyPost_ret (v := .tuple #[.agg #[.slice none 0 0], .bool false]) (by simp [results, Try.results43, go_sem, T1.out.q0]) rfl (T1.out.no (avL_no HI.out) HI.out)

end Go.Proofs.Ytikfbfclbmlopaa

/- Walks: two graphs beside each other: words; rows renumbered. -/
namespace Go.Proofs.Ytikfbfclbmlopaa
open Go.RowKit

/-- The boxes of a function of two graphs: theirs and its result's. -/
structure Three (w0 : World) (v1 v2 : Value) (w : World) : Prop where
  one : BoxAt w w0.heap.size v1
  two : BoxAt w (w0.heap.size + 1) v2
  res : BoxAt w (w0.heap.size + 1 + 1) (.slice none 0 0)
  bel : Below w0.heap.size w0 w
theorem Three.start (w : World) (v1 v2 : Value) : Three w v1 v2 (((w.alloc (.cells #[v1] 26)).alloc (.cells #[v2] 26)).alloc (.cells #[.slice none 0 0] 26)) := by
  have h1 := BoxAt.new w v1 26
  have h2 := BoxAt.new (w.alloc (.cells #[v1] 26)) v2 26
  have h3 := BoxAt.new ((w.alloc (.cells #[v1] 26)).alloc (.cells #[v2] 26)) (.slice none 0 0) 26
  rw [size_alloc1] at h2
  rw [size_alloc1, size_alloc1] at h3
  exact ⟨(h1.keep ((Below.refl _ _).alloc (Nat.le_refl _) _)).keep ((Below.refl _ _).alloc (Nat.le_refl _) _), h2.keep ((Below.refl _ _).alloc (Nat.le_refl _) _), h3, (((Below.refl _ _).alloc (Nat.le_refl _) _).alloc (by simp) _).alloc (by rw [size_alloc1, size_alloc1]; omega) _⟩
theorem Three.keep {w0 : World} {v1 v2 : Value} {w w' : World} (h : Three w0 v1 v2 w) (hb : Below w.heap.size w w') : Three w0 v1 v2 w' :=
  ⟨h.one.keep hb, h.two.keep hb, h.res.keep hb, h.bel.trans (hb.mono h.bel.size)⟩
theorem Three.keepB {w0 : World} {v1 v2 : Value} {w w' : World} {B : Nat} (h : Three w0 v1 v2 w) (hb : Below B w w') (hB : w0.heap.size + 1 + 1 < B) : Three w0 v1 v2 w' :=
  ⟨h.one.keepB hb (by omega), h.two.keepB hb (by omega), h.res.keepB hb hB, h.bel.trans (hb.mono (by omega))⟩
theorem Three.put {T : TypeId} {w0 : World} {v1 v2 : Value} {w w' : World} {o : Obj} {n : Nat} {M : Nat → Nat} (h : Three w0 v1 v2 w) (hp : NetPut T (w.alloc o) w' w.heap.size n M) : Three w0 v1 v2 w' := h.keep hp.since
theorem Three.putG {T : TypeId} {w0 : World} {v1 v2 : Value} {w w' : World} {g n : Nat} {M : Nat → Nat} (h : Three w0 v1 v2 w) (hp : NetPut T w w' g n M) (hg : w0.heap.size + 1 + 1 < g) : Three w0 v1 v2 w' := h.keepB hp.below hg
theorem Three.setOther {w0 : World} {v1 v2 : Value} {w : World} (h : Three w0 v1 v2 w) {a : Addr} (ha : w0.heap.size + 1 + 1 < a.block) (u : Value) : Three w0 v1 v2 (w.setCell a u) :=
  ⟨h.one.setOther (by omega) _, h.two.setOther (by omega) _, h.res.setOther (by omega) _, h.bel.setCell (by omega) _⟩
theorem Three.lt {w0 : World} {v1 v2 : Value} {w : World} (h : Three w0 v1 v2 w) : w0.heap.size + 1 + 1 < w.heap.size := h.res.lt
theorem Three.q0 {w0 : World} {v1 v2 : Value} {w : World} (h : Three w0 v1 v2 w) (u : Value) : (w.setCell ⟨w0.heap.size + 1 + 1, 0, none⟩ u).cell? ⟨w0.heap.size + 1 + 1, 0, none⟩ = some u := cell_set_same _ h.res.1
theorem Three.yes {w0 : World} {v1 v2 : Value} {w : World} (h : Three w0 v1 v2 w) {R : List (List Int)} {B m c : Nat} {a : Option Addr} {ok : Bool} (ho : OwnGrid 2 34 w B (.slice a m c) R) (hB : w0.heap.size + 1 + 1 < B) (hok : ok = true) :
    GaveGB w0 R ok (.returned (.tuple #[.agg #[.slice a m c], .bool true])) (w.setCell ⟨w0.heap.size + 1 + 1, 0, none⟩ (.slice a m c)) :=
  ⟨m, a, c, by rw [hok], (ho.setBelow hB _).mono (by omega), h.bel.setCell (by simp; omega) _⟩
theorem Three.no {w0 : World} {v1 v2 : Value} {w : World} (h : Three w0 v1 v2 w) {R : List (List Int)} {ok : Bool} (hR : R = []) (hok : ok = false) :
    GaveGB w0 R ok (.returned (.tuple #[.agg #[.slice none 0 0], .bool false])) (w.setCell ⟨w0.heap.size + 1 + 1, 0, none⟩ (.slice none 0 0)) := by
  rw [hR, hok]
  exact GaveGB.no (h.bel.setCell (by show w0.heap.size ≤ w0.heap.size + 1 + 1; omega) _)

/-- .. at work on a copy. -/
structure WorkT (w0 : World) (v1 v2 : Value) (bo B g n cg : Nat) (L : List (List Int)) (w : World) : Prop where
  three : Three w0 v1 v2 w
  box : BoxT 26 w bo (.slice (some ⟨g, 0, none⟩) n cg)
  own : OwnGrid 2 34 w B (.slice (some ⟨g, 0, none⟩) n cg) L
  low : w0.heap.size + 1 + 1 < B
theorem WorkT.keep {w0 : World} {v1 v2 : Value} {bo B g n cg : Nat} {L : List (List Int)} {w w' : World} (h : WorkT w0 v1 v2 bo B g n cg L w) (hb : Below w.heap.size w w') : WorkT w0 v1 v2 bo B g n cg L w' :=
  ⟨h.three.keep hb, h.box.keep hb, h.own.keep hb, h.low⟩
theorem WorkT.ne {w0 : World} {v1 v2 : Value} {bo B g n cg : Nat} {L : List (List Int)} {w : World} (h : WorkT w0 v1 v2 bo B g n cg L w) : bo ≠ g := by
  obtain ⟨cur, hcur⟩ := h.own.blkT
  intro e
  rw [← e] at hcur
  have hbb : w.heap[bo]? = _ := h.box
  rw [hcur] at hbb
  simp at hbb
theorem WorkT.start {w0 w w2 : World} {v1 v2 : Value} {a2 : Option Addr} {n2 c2 : Nat} {L : List (List Int)} (ht : Three w0 v1 v2 w) (hb : Below w.heap.size w w2) (ho : OwnGrid 2 34 w2 w.heap.size (.slice a2 n2 c2) L) (hl : 0 < L.length) :
    n2 = L.length ∧ ∃ g, a2 = some ⟨g, 0, none⟩ ∧ WorkT w0 v1 v2 w2.heap.size w.heap.size g L.length c2 L (w2.alloc (.cells #[.slice (some ⟨g, 0, none⟩) L.length c2] 26)) := by
  obtain ⟨g, cap, eg, hB, hgs, _⟩ := ho.place hl
  simp only [Value.slice.injEq] at eg
  obtain ⟨rfl, rfl, rfl⟩ := eg
  have hbw : Below w2.heap.size w2 (w2.alloc (.cells #[.slice (some ⟨g, 0, none⟩) L.length c2] 26)) := (Below.refl _ _).alloc (Nat.le_refl _) _
  exact ⟨rfl, g, rfl, (ht.keep hb).keep hbw, BoxT.new _ _ _, ho.keep hbw, ht.lt⟩
theorem WorkT.done {w0 : World} {v1 v2 : Value} {bo B g n cg : Nat} {L : List (List Int)} {w : World} (h : WorkT w0 v1 v2 bo B g n cg L w) {ok : Bool} (hok : ok = true) : GaveGB w0 L ok (.returned (.tuple #[.agg #[.slice (some ⟨g, 0, none⟩) n cg], .bool true])) (w.setCell ⟨w0.heap.size + 1 + 1, 0, none⟩ (.slice (some ⟨g, 0, none⟩) n cg)) :=
  h.three.yes h.own h.low hok
theorem WorkT.grow {w0 w w2 w7 : World} {v1 v2 : Value} {bo B g n cg g7 cap7 : Nat} {L : List (List Int)} {xs : List Int} {rv : Value} {R : Nat → Value} (h : WorkT w0 v1 v2 bo B g n cg L w) (hbo2 : w0.heap.size + 1 + 1 < bo) (hn : L.length = n) (hl : n ≤ 1000) (hb : Below w.heap.size w w2) (hr : OwnRow 2 w2 w.heap.size rv xs)
    (hR : w.ownsRow B 34 1 (.slice (some ⟨g, 0, none⟩) n cg) n ((List.range n).map R)) (hRr : ∀ i, i < n → OwnRow 2 w B (R i) (nthR L i)) (hRd : ∀ i j q, i < j → j < n → (R i).ownBlock = some q → (R j).ownBlock ≠ some q)
    (hown : w7.ownsRow B 34 1 (.slice (some ⟨g7, 0, none⟩) (n + 1) cap7) (n + 1) ((List.range n).map R ++ [rv])) (hgrow : (w2.alloc (.cells #[rv] 34)).grownBy w7 (Value.slice (some ⟨g, 0, none⟩) n cg).ownBlock) :
    BoxT 26 w7 bo (.slice (some ⟨g, 0, none⟩) n cg) ∧ WorkT w0 v1 v2 bo B g7 (n + 1) cap7 (L ++ [xs]) (w7.setCell ⟨bo, 0, none⟩ (.slice (some ⟨g7, 0, none⟩) (n + 1) cap7)) := by
  subst hn
  have hBs : B ≤ w.heap.size := by
    rcases hR.2 with ⟨e, _⟩ | ⟨g', cap', cur', e, hg, hh, _⟩
    · cases e
    · obtain ⟨hlt, _⟩ := Array.getElem?_eq_some_iff.1 hh
      omega
  have hlow := h.low
  have hW : Below w.heap.size w (w2.alloc (.cells #[rv] 34)) := hb.alloc hb.size _
  have hbw : Below B w w7 := (hW.mono hBs).grown hgrow (by rw [size_alloc1]; have := hb.size; omega) (fun j hj => (hR.lt j hj).1)
  have hog : OwnGrid 2 34 w7 B (.slice (some ⟨g7, 0, none⟩) (L.length + 1) cap7) (L ++ [xs]) := by
    refine OwnGrid.snoc (w0 := w) (w := w2.alloc (.cells #[rv] 34)) (rv := rv) (n := L.length) (v := .slice (some ⟨g, 0, none⟩) L.length cg) (by decide) hW hBs ?_ rfl (by unfold maxLen; omega) R hR hRr hRd hown hgrow
    exact hr.keep ((Below.refl _ _).alloc (Nat.le_refl _) _)
  have hbt : BoxT 26 w7 bo (.slice (some ⟨g, 0, none⟩) L.length cg) := by
    unfold BoxT
    have hlt := h.box.lt
    rw [hgrow.block bo (by rw [size_alloc1]; have := hb.size; omega) (fun e => h.ne (by simpa [Value.ownBlock] using e)), hW.block bo hlt]
    exact h.box
  exact ⟨hbt, (h.three.keepB hbw hlow).setOther hbo2 _, hbt.set _, hog.setType hbt (by decide) (by decide) 0 _, hlow⟩

/-- A row renumbered from n on. -/
def shR (n : Nat) (xs : List Int) : List Int := xs.map (fun z => z + (n : Int))
theorem shR_len (n : Nat) (xs : List Int) : (shR n xs).length = xs.length := by simp [shR]
theorem shR_nth {n : Nat} {xs : List Int} {i : Nat} (hi : i < xs.length) : nth (shR n xs) i = nth xs i + (n : Int) := by simp [shR, nth, hi]
/-- .. the first k of its elements. -/
def shTo (n : Nat) (xs : List Int) (k j : Nat) : Int := if j < k then nth xs j + (n : Int) else nth xs j

set_option maxHeartbeats 1600000 in
theorem rowFrom_any (v : Value) (xs : List Int) (n : Nat) (w : World) (h : RowAt w v xs) (hs : xs.length ≤ 1000) (hn : n ≤ 1000) (hx : ∀ i, i < xs.length → 0 ≤ nth xs i ∧ nth xs i ≤ 1000) : Calls Try.prog 114 #[v, .int .i64 (n : Int)] w (GaveRow w (shR n xs)) := by
  have HX := Lib.hid hx
  clear hx
  go_enter Try.func114, Try.ntmps114
  go_wp2_with fail
  refine (copiedRow_any _ xs _ h (by omega)).mono ?_
  rintro e w1 ⟨n1, a1, c1, rfl, ho1, hb1⟩
  obtain rfl : n1 = xs.length := by
    obtain ⟨a3, c3, e3⟩ := ho1.row.slice
    simp only [Value.slice.injEq] at e3
    exact e3.2.1
  have HO1 := Lib.hid ho1
  have HB1 := Lib.hid hb1
  clear ho1 hb1 h
  by_cases h0 : xs.length = 0
  · have he : xs = [] := List.length_eq_zero_iff.1 h0
    have HP : Hid (GaveRow w (shR n xs) (.returned (.slice a1 0 c1)) w1) := by
      have h2 : shR n xs = xs := by rw [he]; rfl
      show GaveRow w (shR n xs) _ _
      rw [h2]
      have h3 := HO1.out
      rw [h0] at h3
      exact ⟨_, a1, c1, rfl, h3, HB1.out⟩
    have hd : decide ((0 : Int) < (xs.length : Int)) = false := by simp; omega
    have hd2 : decide (0 < xs.length) = false := by simp; omega
    have hd3 : ¬ 0 < xs.length := by omega
    clear he
    go_wp2
    refine wp_loop_rounds 1 ?_
    rw [rounds_succ]
    go_wp2
    go_ret
    exact HP.out
  · obtain ⟨hi64, hlm, hcase⟩ := HO1.out
    rcases hcase with ⟨e, e'⟩ | ⟨g, cap, cur, e, hg, hh, l1, l2, hsz, hc⟩
    · exact absurd (by rw [e']; rfl) h0
    · simp only [Value.slice.injEq, true_and] at e
      obtain ⟨rfl, rfl⟩ := e
      have HH := Lib.hid hh
      have HC := Lib.hid hc
      have HSZ := Lib.hid hsz
      have hgs : g < w1.heap.size := (Array.getElem?_eq_some_iff.1 hh).1
      clear hh hc hsz hi64 hlm
      go_wp2_with fail
      go_loopw [11] (fun i wr => ∃ k : Nat, k ≤ xs.length ∧ i = .int .i64 k ∧ (∃ cur', wr.heap[g]? = some (.cells cur' 2 (0, 0)) ∧ cur'.size = c1 ∧ ∀ j, j < xs.length → cur'[j]? = some (.int .i64 (shTo n xs k j))) ∧ Below w.heap.size w wr) (fun i _ => xs.length - (intOf i).toNat)
      case atStart => exact ⟨0, Nat.zero_le _, rfl, ⟨cur, HH.out, HSZ.out, fun j hj => by rw [HC.out j hj]; simp [shTo]⟩, HB1.out⟩
      case round =>
        obtain ⟨k, hk, rfl, ⟨cur', hh', hsz', hc'⟩, hb⟩ := hrel
        have HH' := Lib.hid hh'
        have HSZ' := Lib.hid hsz'
        have HC' := Lib.hid hc'
        have HB := Lib.hid hb
        by_cases hlt : k < xs.length
        · have hck : wr.cell? ⟨g, k, none⟩ = some (.int .i64 (nth xs k)) := by
            rw [cell_of_row wr g k cur' _ _ hh', hc' k hlt]
            simp [shTo]
          have hcf : wr.frozen? ⟨g, k, none⟩ = false := frozen_of_row wr g k cur' _ hh'
          have hxk := HX.out k hlt
          obtain ⟨hx0, hx1⟩ := hxk
          clear hh' hsz' hc' hb
          go_wp2
          go_roundw
          case rel =>
            refine ⟨k + 1, by omega, by go_num, ⟨cur'.setIfInBounds k (.int .i64 (nth xs k + (n : Int))), heap_setCell_same wr g k cur' _ _ HH'.out, by rw [Array.size_setIfInBounds]; exact HSZ'.out, fun j hj => ?_⟩, HB.out.setCell hg _⟩
            rw [Array.getElem?_setIfInBounds]
            by_cases e : k = j
            · subst e
              rw [if_pos rfl, if_pos (by rw [HSZ'.out]; omega)]
              simp [shTo]
            · rw [if_neg e, HC'.out j hj]
              unfold shTo
              by_cases h1 : j < k
              · simp [h1, Nat.lt_succ_of_lt h1]
              · simp [h1, show ¬ j < k + 1 from by omega]
          case measure => simp [intOf]; omega
        · obtain rfl : k = xs.length := by omega
          have HP : Hid (GaveRow w (shR n xs) (.returned (.slice (some ⟨g, 0, none⟩) xs.length c1)) wr) := by
            refine ⟨_, _, c1, rfl, ⟨?_, by rw [shR_len]; unfold maxLen; omega, Or.inr ⟨g, c1, cur', by rw [shR_len], hg, hh', by rw [shR_len]; exact l1, l2, hsz', fun j hj => ?_⟩⟩, hb⟩
            · intro z hz
              obtain ⟨j, hj, rfl⟩ := List.mem_iff_getElem.1 hz
              rw [shR_len] at hj
              have := shR_nth (n := n) hj
              rw [nth_eq (by rw [shR_len]; exact hj)] at this
              rw [this]
              have := HX.out j hj
              unfold I64; omega
            · rw [shR_len] at hj
              rw [shR_nth hj, hc' j hj]
              simp [shTo, hj]
          clear hh' hsz' hc' hb
          go_wp2
          go_ret
          exact HP.out

end Go.Proofs.Ytikfbfclbmlopaa

/- Walks: two graphs beside each other. -/
namespace Go.Proofs.Ytikfbfclbmlopaa
open Go.RowKit

/-- The first graph, and the first k rows of the second behind it. -/
def bsR (L M : List (List Int)) (k : Nat) : List (List Int) := L ++ (M.take k).map (shR L.length)
theorem bsR_len {L M : List (List Int)} {k : Nat} (hk : k ≤ M.length) : (bsR L M k).length = L.length + k := by simp [bsR]; omega
theorem bsR_zero (L M : List (List Int)) : bsR L M 0 = L := by simp [bsR]
theorem bsR_succ {L M : List (List Int)} {k : Nat} (hk : k < M.length) : bsR L M (k + 1) = bsR L M k ++ [shR L.length (nthR M k)] := by
  unfold bsR
  rw [take_snocR hk, List.map_append, List.append_assoc]
  rfl
/-- May they stand beside each other? -/
def bsB (L M : List (List Int)) : Bool := decide (GraphP L) && decide (GraphP M) && decide (L.length + M.length ≤ 16)
theorem bsB_yes {L M : List (List Int)} (h : bsB L M = true) : GraphP L ∧ GraphP M ∧ L.length + M.length ≤ 16 := by
  unfold bsB at h
  simp at h
  exact ⟨h.1.1, h.1.2, h.2⟩
def bsL (L M : List (List Int)) : List (List Int) := if bsB L M = true then bsR L M M.length else []
theorem bsL_no {L M : List (List Int)} (h : bsB L M = false) : bsL L M = [] := by rw [bsL, h]; rfl
theorem bsR_small {L M : List (List Int)} (h1 : GraphP L) (h2 : GraphP M) (h : L.length + M.length ≤ 16) : Small (bsR L M M.length) := by
  refine ⟨by rw [bsR_len (Nat.le_refl _)]; omega, fun i hi => ?_⟩
  have hmem := nthR_mem hi
  generalize nthR (bsR L M M.length) i = r0 at hmem ⊢
  unfold bsR at hmem
  rw [List.take_length] at hmem
  rcases List.mem_append.1 hmem with hm | hm
  · obtain ⟨j, hj, e⟩ := List.mem_iff_getElem.1 hm
    have := row_small h1 hj
    rw [nthR_eq hj, e] at this
    omega
  · obtain ⟨r, hr, e⟩ := List.mem_map.1 hm
    obtain ⟨j, hj, e2⟩ := List.mem_iff_getElem.1 hr
    have := row_small h2 hj
    rw [nthR_eq hj, e2] at this
    rw [← e, shR_len]
    omega
theorem bsL_small (L M : List (List Int)) : Small (bsL L M) := by
  unfold bsL
  split
  · rename_i h
    obtain ⟨h1, h2, h3⟩ := bsB_yes h
    exact bsR_small h1 h2 h3
  · exact ⟨by simp, fun i hi => absurd hi (by simp)⟩
theorem row_range {M : List (List Int)} (hG : GraphP M) {k : Nat} (hk : k < M.length) : ∀ i, i < (nthR M k).length → 0 ≤ nth (nthR M k) i ∧ nth (nthR M k) i ≤ 1000 := by
  intro i hi
  have := (hG.2.1 k hk).1 i hi
  have hz := hG.1
  exact ⟨this.1, by have := this.2.1; omega⟩
theorem ownsRow_keep {w w' : World} {B : Nat} {T : TypeId} {v : Value} {n : Nat} {xs : List Value} (h : w.ownsRow B T 1 v n xs) (hb : Below w.heap.size w w') : w'.ownsRow B T 1 v n xs :=
  ⟨h.1, h.2.imp (fun h => h) (fun ⟨g, cap, cur, e, hgB, hh, r⟩ => ⟨g, cap, cur, e, hgB, by rw [hb.block g (Array.getElem?_eq_some_iff.1 hh).1]; exact hh, r⟩)⟩
theorem shR_take {n : Nat} {xs : List Int} {q : Nat} (hq : q < xs.length) : shR n (xs.take (q + 1)) = shR n (xs.take q) ++ [nth xs q + (n : Int)] := by
  rw [take_snoc hq]; simp [shR]

set_option maxHeartbeats 3200000 in
set_option maxRecDepth 100000 in
theorem l2Beside_any (v1 v2 : Value) (L M : List (List Int)) (w : World) (h1 : GridAt w v1 L) (h2 : GridAt w v2 M) (hG1 : GraphP L) (hG2 : GraphP M) (hs : L.length + M.length ≤ 16) : Calls Try.prog 113 #[.agg #[v1], .agg #[v2]] w (GaveGraph w (bsR L M M.length)) := by
  obtain ⟨i0, hi, hz0, hz1, hz2⟩ := info_parts Try.infoR
  obtain ⟨j0, hj, hy0, hy1, hy2⟩ := info_parts Try.infoI
  obtain ⟨a1, c1, rfl⟩ := h1.slice
  obtain ⟨a2, c2, rfl⟩ := h2.slice
  have hzL := hG1.1
  have hzM := hG2.1
  have T0 := Lib.hid (Three.start w (.slice a1 L.length c1) (.slice a2 M.length c2))
  have HK1 : Hid (∀ w', Below w.heap.size w w' → GridAt w' (.slice a1 L.length c1) L) := fun w' hb => h1.keep hb
  have HK2 : Hid (∀ w', Below w.heap.size w w' → GridAt w' (.slice a2 M.length c2) M) := fun w' hb => h2.keep hb
  have HG1 := Lib.hid hG1
  have HG2 := Lib.hid hG2
  clear h1 h2 hG1 hG2
  go_enter Try.func113, Try.ntmps113
  go_wp2_with fail
  refine (l1Size_any _ L _ (HK1.out _ T0.out.bel)).mono ?_
  rintro e w1 ⟨rfl, hb1⟩
  have T1 := Lib.hid (T0.out.keep hb1)
  have kb1 := T1.out.one.1
  clear hb1 T0
  go_wp2_with fail
  refine (l1CopyGraph_any _ L _ (HK1.out _ T1.out.bel) (graph_small HG1.out)).mono ?_
  rintro e w2 ⟨n2, ag, cg, rfl, ho2, hb2⟩
  obtain ⟨rfl, g, rfl, hwk⟩ := WorkT.start T1.out hb2 ho2 (by omega)
  have hbo : w.heap.size + 1 + 1 < w2.heap.size := Nat.lt_of_lt_of_le T1.out.lt hb2.size
  have HWK0 : Hid (WorkT w (.slice a1 L.length c1) (.slice a2 M.length c2) w2.heap.size w1.heap.size g (L.length + 0) cg (bsR L M 0) (w2.alloc (.cells #[.slice (some ⟨g, 0, none⟩) L.length cg] 26))) := by
    rw [bsR_zero]; exact hwk
  clear hb2 ho2 kb1 hwk
  go_wp2_with fail
  generalize hw3 : (w2.alloc (.cells #[.slice (some ⟨g, 0, none⟩) L.length cg] 26)) = w3 at HWK0 ⊢
  clear hw3
  go_loopw [7] (fun i wr => ∃ k : Nat, k ≤ M.length ∧ i = .int .i64 k ∧ ∃ g cg, WorkT w (.slice a1 L.length c1) (.slice a2 M.length c2) w2.heap.size w1.heap.size g (L.length + k) cg (bsR L M k) wr) (fun i _ => M.length - (intOf i).toNat)
  case atStart => exact ⟨0, Nat.zero_le _, rfl, g, cg, HWK0.out⟩
  case round =>
    obtain ⟨k, hk, rfl, g, cg, hw⟩ := hrel
    have HWK := Lib.hid hw
    have kb := hw.three.two.1
    clear hw
    go_wp2_with fail
    refine (l1Size_any _ M _ (HK2.out _ HWK.out.three.bel)).mono ?_
    rintro e w4 ⟨rfl, hb4⟩
    have HW4 := Lib.hid (HWK.out.keep hb4)
    clear hb4 HWK kb
    by_cases hlt : k < M.length
    · obtain ⟨bg, og, cb, A, C, eg, lg1, lg2, hcg⟩ := (HK2.out _ (Below.refl _ _)).pos (by omega)
      simp only [Value.slice.injEq, true_and] at eg
      obtain ⟨rfl, rfl⟩ := eg
      have HKB : Hid (∀ w', Below w.heap.size w w' → w'.cell? ⟨bg, og + k, none⟩ = some (.slice (A k) (nthR M k).length (C k))) := fun w' hb => cell_keep hb (hcg k hlt).1
      have HRB : Hid (∀ w', Below w.heap.size w w' → RowAt w' (.slice (A k) (nthR M k).length (C k)) (nthR M k)) := fun w' hb => (hcg k hlt).2.keep hb
      have hown0 : (w4.alloc (.cells #[] 2)).ownsRow w4.heap.size 2 1 (.slice (some ⟨w4.heap.size, 0, none⟩) 0 0) 0 [] := World.ownsRow_lit w4 #[] 0 (Nat.le_refl _) (Nat.zero_le _) rfl
      have HO0 := Lib.hid hown0
      have hly := row_small HG2.out hlt
      have HRR := Lib.hid (row_range HG2.out hlt)
      have hltI : (k : Int) < (M.length : Int) := by omega
      clear hown0 hcg
      go_wp2_with fail
      go_loopw [8, 9] (fun s i wr => ∃ q : Nat, q ≤ (nthR M k).length ∧ i = .int .i64 q ∧ wr.ownsRow w4.heap.size 2 1 s (shR L.length ((nthR M k).take q)).length ((shR L.length ((nthR M k).take q)).map (Value.int .i64)) ∧ Below w4.heap.size w4 wr) (fun _ i _ => (nthR M k).length - (intOf i).toNat)
      case atStart => exact ⟨0, Nat.zero_le _, rfl, HO0.out, (Below.refl _ _).alloc (Nat.le_refl _) _⟩
      case round =>
        rename World => w5
        obtain ⟨q, hq, rfl, ho, hb⟩ := hrel
        have HO := Lib.hid ho
        have HB := Lib.hid hb
        have HW5 := Lib.hid (HW4.out.keep hb)
        have kb5 := HW5.out.three.two.1
        have kr5 := HKB.out _ HW5.out.three.bel
        have hz5 : w4.heap.size ≤ w5.heap.size := hb.size
        have HLL : Hid ((shR L.length ((nthR M k).take q)).length = q) := by show _ = _; rw [shR_len, List.length_take]; omega
        clear ho hb
        by_cases hql : q < (nthR M k).length
        · obtain ⟨b7, o7, c7, e7, l71, l72, hc7⟩ := (HRB.out _ HW5.out.three.bel).pos (by omega)
          simp only [Value.slice.injEq, true_and] at e7
          obtain ⟨hAb, hCb⟩ := e7
          have hck := hc7 q hql
          rw [hAb] at kr5
          have hr0 := HRR.out q hql
          obtain ⟨hr1, hr2⟩ := hr0
          have HTK := Lib.hid (shR_take (n := L.length) hql)
          clear hc7 hAb hCb
          go_wp2_with (at_builtin; refine wpList_append_own _ rfl (.tmp 31) (.tmp 42) 34 rfl w4.heap.size 2 j0 (.int .i64 0) 1 8 Try.underlying34 hj hy0 hy1 hy2 rfl (by decide) _ _ _ rfl (HO.out.alloc _) ⟨w5.heap.size, 0, none⟩ 1 1 [.int .i64 ((L.length : Int) + nth (nthR M k) q)] rfl rfl ?d1 ?d2 ?d3 ?d4 ?d5 ?_)
          case d1 =>
            intro j u hj
            match j, hj with
            | 0, hj => simp at hj; subst hj; simp [Addr.add]
          case d2 => intro u hu; simp at hu; subst hu; rfl
          case d3 => rw [HLL.out]; unfold maxLen; omega
          case d4 => rw [HLL.out]; omega
          case d5 => simp; omega
          intro v6 w6 hown6 hgrow6 _
          have hb6 : Below w4.heap.size w4 w6 := (HB.out.alloc hz5 _).grown hgrow6 (by simp; omega) (fun j hj => (HO.out.lt j hj).1)
          have HO6 := Lib.hid hown6
          have HB6 := Lib.hid hb6
          clear hown6 hgrow6 hb6 hck kr5 kb5
          go_wp2
          go_roundw
          case rel =>
            refine ⟨q + 1, by omega, by go_num, ?_, HB6.out⟩
            rw [HTK.out, Int.add_comm (nth (nthR M k) q)]
            simpa using HO6.out
          case measure => simp [intOf]; omega
        · obtain rfl : q = (nthR M k).length := by omega
          have hro : OwnRow 2 w5 w4.heap.size _ (shR L.length ((nthR M k).take (nthR M k).length)) := OwnRow.of_ownsRow (n := (shR L.length ((nthR M k).take (nthR M k).length)).length) HO.out (by rw [HLL.out]; unfold maxLen; omega) (fun z hz => by
            rw [List.take_length] at hz
            obtain ⟨j, hj, rfl⟩ := List.mem_iff_getElem.1 hz
            rw [shR_len] at hj
            have e := shR_nth (n := L.length) hj
            rw [nth_eq (by rw [shR_len]; exact hj)] at e
            rw [e]
            have := HRR.out j hj
            unfold I64; omega)
          rw [List.take_length] at hro
          obtain ⟨a6, c6, e6⟩ := hro.row.slice
          rw [e6] at hro ⊢
          have HRO := Lib.hid hro
          obtain ⟨R, hR, hRr, hRd⟩ := HW4.out.own.owns
          rw [bsR_len hk] at hR hRr hRd
          have HR := Lib.hid hR
          have HRr := Lib.hid hRr
          have HRd := Lib.hid hRd
          have HR5 := Lib.hid (ownsRow_keep hR HB.out)
          have k65 := HW5.out.box.box.1
          have HBS : Hid (w1.heap.size ≤ w5.heap.size + 1) := by
            show _ ≤ _
            rcases hR.2 with ⟨e, _⟩ | ⟨g', cap', cur', e, hgB, hh, _⟩
            · cases e
            · obtain ⟨hlt', _⟩ := Array.getElem?_eq_some_iff.1 hh
              omega
          have HC3 : Hid (L.length + k + 1 ≤ maxLen) := by show _ ≤ _; unfold maxLen; omega
          have HC4 : Hid ((L.length + k + 1) * 24 ≤ 140737488355328) := by show _ ≤ _; omega
          obtain ⟨rl, hrl⟩ : ∃ rl, rl = (shR L.length (nthR M k)).length := ⟨_, rfl⟩
          rw [← hrl] at HRO ⊢
          clear hro e6 hR hRr hRd hrl
          go_wp2_with (at_builtin; refine wpList_append_lies _ rfl (.tmp 45) (.tmp 47) 24 rfl w1.heap.size 34 i0 (.slice none 0 0) 1 24 Try.underlying24 hi hz0 hz1 hz2 rfl (by omega) (.slice (some ⟨g, 0, none⟩) (L.length + k) cg) (L.length + k) ((List.range (L.length + k)).map R) rfl (HR5.out.alloc _) ⟨w5.heap.size, 0, none⟩ 1 1 [.slice a6 rl c6] rfl rfl (World.news_of_block (heap_alloc_new _ _)) (fun u hu => by simp at hu; subst hu; rfl) Nat.one_pos HC3.out HC4.out (by rw [size_alloc1]; exact HBS.out) (w5.heap.size + 1) (size_alloc1 _ _) ?_; intro g7 cap7 w7 hown7 hgrow7 hat7 hlt7; obtain ⟨hbx7, hw7⟩ := HW4.out.grow hbo (bsR_len hk) (by omega) HB.out HRO.out HR.out HRr.out HRd.out hown7 hgrow7; have k67 := hbx7.box.1; have f67 := hbx7.box.2; have HW7 := Lib.hid hw7; clear hown7 hgrow7 hat7 hlt7 hbx7 hw7)
          clear k65
          go_roundw
          case rel => exact ⟨k + 1, by omega, by go_num, g7, cap7, by rw [bsR_succ hlt]; exact HW7.out⟩
          case measure => simp [intOf]; omega
    · obtain rfl : k = M.length := by omega
      have k6 := HW4.out.box.box.1
      have kr := HW4.out.three.res.1
      have kf := HW4.out.three.res.2
      go_wp2
      refine bodyPost_ret (v := .agg #[.slice (some ⟨g, 0, none⟩) (L.length + M.length) cg]) (by simp [results, Try.results113, go_sem, HW4.out.three.q0]) rfl ⟨_, _, cg, rfl, ?_, ?_⟩
      · exact (HW4.out.own.setBelow HW4.out.low _).mono (by have := HW4.out.low; omega)
      · exact HW4.out.three.bel.setCell (by simp; omega) _

end Go.Proofs.Ytikfbfclbmlopaa
