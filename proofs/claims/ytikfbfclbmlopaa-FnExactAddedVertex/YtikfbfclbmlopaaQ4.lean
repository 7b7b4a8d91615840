/- The texts N9, P1, LawAddedVertex, joined. -/
import Derived.Deep.AppendLies
import Derived.Test.YtikfbfclbmlopaaD3
import Derived.Deep.RegionHeld3
import Derived.Test.YtikfbfclbmlopaaQ3

/- Walks: a vertex added: the model's. -/
namespace Go.Proofs.Ytikfbfclbmlopaa
open Go.RowKit

/-- May a vertex with these neighbours be added? -/
def avB (L : List (List Int)) (xs : List Int) : Bool := setB L xs && !((L.length : Int) == 16)
theorem avB_yes {L : List (List Int)} {xs : List Int} (h : avB L xs = true) : GraphP L ∧ SetP xs L.length ∧ L.length < 16 ∧ xs.length ≤ 16 := by
  unfold avB setB at h
  simp at h
  have := h.1.2.len (by omega)
  have := h.1.1.1
  exact ⟨h.1.1, h.1.2, by omega, by omega⟩
/-- Who is near whom when the new vertex has been joined to ys. -/
def avA (L : List (List Int)) (ys : List Int) (i j : Nat) : Bool := adjB L i j || (i == L.length && hasB ys (j : Int)) || (j == L.length && hasB ys (i : Int))
theorem hasB_nil (z : Int) : hasB [] z = false := by cases h : hasB [] z with | false => rfl | true => (rw [hasB_iff] at h; obtain ⟨q, hq, _⟩ := h; simp at hq)
theorem avA_link (L : List (List Int)) {y : Nat} (ys : List Int) (i j : Nat) : avA L (ys ++ [(y : Int)]) i j = linkA (avA L ys) y L.length i j := by
  unfold linkA avA
  rw [hasB_snoc, hasB_snoc]
  have c1 : ((j : Int) == (y : Int)) = (j == y) := by rw [Bool.eq_iff_iff, beq_iff_eq, beq_iff_eq]; omega
  have c2 : ((i : Int) == (y : Int)) = (i == y) := by rw [Bool.eq_iff_iff, beq_iff_eq, beq_iff_eq]; omega
  rw [c1, c2]
  cases adjB L i j <;> cases (i == L.length) <;> cases (j == L.length) <;> cases hasB ys (j : Int) <;> cases hasB ys (i : Int) <;> cases (i == y) <;> cases (j == y) <;> rfl
/-- The answer. -/
def avL (L : List (List Int)) (xs : List Int) : List (List Int) := if avB L xs = true then adjL (L.length + 1) (avA L xs) else []
theorem avL_no {L : List (List Int)} {xs : List Int} (h : avB L xs = false) : avL L xs = [] := by rw [avL, h]; rfl
theorem avL_small (L : List (List Int)) (xs : List Int) : Small (avL L xs) := by
  unfold avL
  split
  · rename_i h
    exact adjL_small _ _ (by have := (avB_yes h).2.2.1; omega)
  · exact ⟨by simp, fun i hi => absurd hi (by simp)⟩
theorem avA_start {L : List (List Int)} (hG : GraphP L) : L ++ [[]] = adjL (L.length + 1) (avA L []) := by
  apply nthR_ext
  · simp [adjL_len]
  · intro i hi
    rw [List.length_append, List.length_singleton] at hi
    rw [adjL_nth _ hi]
    have e : ∀ j, avA L [] i j = adjB L i j := fun j => by unfold avA; rw [hasB_nil, hasB_nil]; simp
    rw [pm_congr (fun j _ => e j)]
    by_cases h : i < L.length
    · rw [nthR_append_old h, ← rowM_pm hG, row_list hG h]
    · obtain rfl : i = L.length := by omega
      rw [nthR_append_last]
      have : pm (adjB L L.length) = 0 := by
        rw [← pm_false]
        refine pm_congr (fun j _ => ?_)
        cases hb : adjB L L.length j with
        | false => rfl
        | true => exact absurd (adjB_range hG hb).1 (by omega)
      rw [this, listM_zero]

set_option maxHeartbeats 3200000 in
set_option maxRecDepth 100000 in
theorem specAddedVertex_any (v v1 : Value) (L : List (List Int)) (xs : List Int) (w : World) (h : GridAt w v L) (h1 : RowAt w v1 xs) : Calls Try.prog 53 #[.agg #[v], v1] w (GaveGB w (avL L xs) (avB L xs)) := by
  obtain ⟨i0, hi, hz0, hz1, hz2⟩ := info_parts Try.infoR
  obtain ⟨a0, c0, rfl⟩ := h.slice
  obtain ⟨a1, c1, rfl⟩ := h1.slice
  have hlm := h1.len
  unfold maxLen at hlm
  have T0 := Lib.hid (Two.start w (.slice a0 L.length c0))
  have HGK : Hid (∀ w', Below w.heap.size w w' → GridAt w' (.slice a0 L.length c0) L) := fun w' hb => h.keep hb
  have HRK : Hid (∀ w', Below w.heap.size w w' → RowAt w' (.slice a1 xs.length c1) xs) := fun w' hb => h1.keep hb
  clear h h1
  go_enter Try.func53, Try.ntmps53
  go_wp2_with fail
  refine (specSetOk_any _ _ _ _ _ (HGK.out _ T0.out.bel) (HRK.out _ T0.out.bel)).mono ?_
  rintro e w1 ⟨rfl, hb1⟩
  have T1 := Lib.hid (T0.out.keep hb1)
  clear hb1 T0
  by_cases hS : setB L xs = true
  · have HSB := Lib.hid hS
    have kb1 := T1.out.arg.1
    rw [hS]
    clear hS
    go_wp2_with fail
    refine (l1Size_any _ L _ (HGK.out _ T1.out.bel)).mono ?_
    rintro e w2 ⟨rfl, hb2⟩
    have T2 := Lib.hid (T1.out.keep hb2)
    clear hb2 T1 kb1
    by_cases h16 : L.length = 16
    · have HI : Hid (avB L xs = false) := by show avB L xs = false; unfold avB; rw [h16]; simp
      have he : ((L.length : Int) == 16) = true := by rw [h16]; rfl
      have kr := T2.out.res.1
      have kf := T2.out.res.2
      clear h16
      go_wp2
      exact bodyPost_ret (v := .tuple #[.agg #[.slice none 0 0], .bool false]) (by simp [results, Try.results53, go_sem, T2.out.q0]) rfl (T2.out.no (avL_no HI.out) HI.out)
    · have he : ((L.length : Int) == 16) = false := by rw [beq_eq_false_iff_ne]; omega
      have HI : Hid (avB L xs = true) := by show avB L xs = true; unfold avB; rw [HSB.out, he]; rfl
      obtain ⟨hG, hs, hlt16, hx16⟩ := avB_yes HI.out
      have HG := Lib.hid hG
      have HS := Lib.hid hs
      have hz := hG.1
      have kb2 := T2.out.arg.1
      clear h16 hG hs
      go_wp2_with fail
      refine (l1CopyGraph_any _ L _ (HGK.out _ T2.out.bel) (graph_small HG.out)).mono ?_
      rintro e w3 ⟨n2, a2, c2, rfl, ho2, hb2⟩
      obtain ⟨rfl, g, rfl, hwk⟩ := WorkL.start T2.out hb2 ho2 (by omega)
      obtain ⟨R, hR, hRr, hRd⟩ := hwk.own.owns
      have HWK := Lib.hid hwk
      have HR := Lib.hid hR
      have HRr := Lib.hid hRr
      have HRd := Lib.hid hRd
      have k6 := hwk.box.box.1
      have hz2' : w.heap.size + 1 < w2.heap.size := T2.out.lt
      have hz3 : w2.heap.size ≤ w3.heap.size := hb2.size
      have hz4 : w2.heap.size ≤ (w3.alloc (.cells #[.slice (some ⟨g, 0, none⟩) L.length c2] 26)).heap.size := by rw [size_alloc1]; omega
      clear ho2 hb2 hR hRr hRd kb2 hwk
      go_wp2_with (at_builtin; refine wpList_append_own _ rfl (.tmp 21) (.tmp 23) 24 rfl w2.heap.size 34 i0 (.slice none 0 0) 1 24 Try.underlying24 hi hz0 hz1 hz2 rfl (by decide) _ _ _ rfl ((HR.out.alloc _).alloc _) ⟨w3.heap.size + 1 + 1, 0, none⟩ 1 1 [.slice (some ⟨w3.heap.size + 1, 0, none⟩) 0 0] rfl rfl ?c1 ?c2 ?c3 ?c4 ?c5 ?_)
      case c1 =>
        have hq := World.news_of_block (heap_alloc_new ((w3.alloc (.cells #[.slice (some ⟨g, 0, none⟩) L.length c2] 26)).alloc (.cells #[] 2)) (.cells #[.slice (some ⟨w3.heap.size + 1, 0, none⟩) 0 0] 34))
        rw [size_alloc1, size_alloc1] at hq
        exact hq
      case c2 => intro u hu; simp at hu; subst hu; rfl
      case c3 => unfold maxLen; omega
      case c4 => omega
      case c5 => simp; omega
      intro v' w5 hown' hgrow _
      have hbA : Below (w3.alloc (.cells #[.slice (some ⟨g, 0, none⟩) L.length c2] 26)).heap.size (w3.alloc (.cells #[.slice (some ⟨g, 0, none⟩) L.length c2] 26)) (((w3.alloc (.cells #[.slice (some ⟨g, 0, none⟩) L.length c2] 26)).alloc (.cells #[] 2)).alloc (.cells #[.slice (some ⟨w3.heap.size + 1, 0, none⟩) 0 0] 34)) := ((Below.refl _ _).alloc (Nat.le_refl _) _).alloc (by simp) _
      have hog' : OwnGrid 2 34 w5 w2.heap.size v' (L ++ [[]]) := by
        refine OwnGrid.snoc (w0 := w3.alloc (.cells #[.slice (some ⟨g, 0, none⟩) L.length c2] 26)) (n := L.length) (by decide) hbA hz4 ?_ rfl (by unfold maxLen; omega) R HR.out HRr.out HRd.out hown' hgrow
        have := own_empty (T := 2) (w3.alloc (.cells #[.slice (some ⟨g, 0, none⟩) L.length c2] 26))
        rw [size_alloc1] at this
        have := this.keep ((Below.refl _ _).alloc (Nat.le_refl _) (.cells #[.slice (some ⟨w3.heap.size + 1, 0, none⟩) 0 0] 34))
        rw [size_alloc1]
        exact this
      have hbw : Below w2.heap.size (w3.alloc (.cells #[.slice (some ⟨g, 0, none⟩) L.length c2] 26)) w5 := (hbA.mono hz4).grown hgrow (by rw [size_alloc1, size_alloc1]; omega) (fun j hj => (HR.out.lt j hj).1)
      have hob : w5.heap[w3.heap.size]? = some (.cells #[.slice (some ⟨g, 0, none⟩) L.length c2] 26 (0, 0)) := by
        have hlt3 : w3.heap.size < (w3.alloc (.cells #[.slice (some ⟨g, 0, none⟩) L.length c2] 26)).heap.size := by rw [size_alloc1]; omega
        rw [hgrow.block w3.heap.size (by rw [size_alloc1, size_alloc1]; omega) (fun e => HWK.out.ne (by simpa [Value.ownBlock] using e)), hbA.block _ hlt3]
        exact HWK.out.box
      rw [avA_start HG.out] at hog'
      obtain ⟨a5, c5, e5⟩ := hog'.grid.slice
      rw [adjL_len] at e5
      subst e5
      have T5 := HWK.out.two.keepB hbw hz2'
      have bt5 : BoxT 26 w5 w3.heap.size (.slice (some ⟨g, 0, none⟩) L.length c2) := hob
      have kb5 := bt5.box.1
      have kf5 := bt5.box.2
      have HW5 : Hid (Work w w.heap.size (.slice a0 L.length c0) w3.heap.size (L.length + 1) w2.heap.size (avA L []) (w5.setCell ⟨w3.heap.size, 0, none⟩ (.slice a5 (L.length + 1) c5))) :=
        ⟨T5.arg.setOther (by simp; omega) _, T5.res.setOther (by simp; omega) _, ⟨a5, c5, bt5.set _, hog'.setType bt5 (by decide) (by decide) 0 _⟩, T5.bel.setCell (by simp; omega) _⟩
      clear hown' hgrow hbA hog' hbw hob T5 bt5 k6
      go_wp2_with fail
      generalize (w5.setCell ⟨w3.heap.size, 0, none⟩ (.slice a5 (L.length + 1) c5)) = w6 at HW5 ⊢
      go_loopw [7] (fun i wr => ∃ k : Nat, k ≤ xs.length ∧ i = .int .i64 k ∧ Work w w.heap.size (.slice a0 L.length c0) w3.heap.size (L.length + 1) w2.heap.size (avA L (xs.take k)) wr) (fun i _ => xs.length - (intOf i).toNat)
      case atStart => exact ⟨0, Nat.zero_le _, rfl, HW5.out⟩
      case round =>
        obtain ⟨k, hk, rfl, hw⟩ := hrel
        have HW := Lib.hid hw
        have kb := hw.arg.1
        by_cases hlt : k < xs.length
        · obtain ⟨bx, ox, cx, e2, l1, l2, hc⟩ := (HRK.out _ hw.bel).pos (by omega)
          simp only [Value.slice.injEq, true_and] at e2
          obtain ⟨rfl, rfl⟩ := e2
          have hck := hc k hlt
          have hxk := HS.out k hlt
          obtain ⟨y, hy⟩ : ∃ y : Nat, nth xs k = (y : Int) := ⟨(nth xs k).toNat, by have := hxk.1; omega⟩
          have hyn : y < L.length := by have := hxk.2.1; omega
          rw [hy] at hck
          have HTK : Hid (xs.take (k + 1) = xs.take k ++ [(y : Int)]) := by show _ = _; rw [take_snoc hlt, hy]
          obtain ⟨ag, cg, hbt, hog⟩ := hw.out
          obtain ⟨g7, cap, eg, hBg, hgs, _⟩ := hog.place (by rw [adjL_len]; omega)
          simp only [adjL_len, Value.slice.injEq, true_and] at eg
          obtain ⟨rfl, rfl⟩ := eg
          have hgne : w3.heap.size ≠ g7 := by
            obtain ⟨cur, hcur⟩ := hog.blkT
            intro e
            rw [← e] at hcur
            have hbb : wr.heap[w3.heap.size]? = _ := hbt
            rw [hcur] at hbb
            simp at hbb
          have kg := hbt.box.1
          have HBT := Lib.hid hbt
          have HOG := Lib.hid hog
          clear hw hc hxk hy hbt hog
          go_wp2_with fail
          go_region_law (first
            | (go_simp; go_at_call 72; refine (l1Size_any _ L _ (HGK.out _ HW.out.bel.drew)).mono ?_; rintro e wa ⟨rfl, hba⟩; have HBA : Hid (Below wr.heap.size wr wa) := (Below.refl _ _).drew.trans hba; have kga := cell_keep HBA.out kg; have hcka := cell_keep HBA.out hck; have kba := cell_keep HBA.out kb; have HWA := Lib.hid (HW.out.keep HBA.out); have HBTA := Lib.hid (HBT.out.keep HBA.out); have HOGA := Lib.hid (HOG.out.keep HBA.out); clear hba)
            | (go_simp; go_at_call 103; refine (l1Link_adj y L.length g7 cg w2.heap.size (L.length + 1) _ _ HOGA.out (by have := HBTA.out.lt; omega) (by omega) (by omega) (by omega) (by omega)).mono ?_; rintro e wb ⟨rfl, hob, hbb, htb⟩; have btb : BoxT 26 wb w3.heap.size (.slice (some ⟨g7, 0, none⟩) (L.length + 1) cg) := (by unfold BoxT; rw [htb _ HBTA.out.lt hgne]; exact HBTA.out); have kbb := btb.box.1; have kfb := btb.box.2; have HWB : Hid (Work w w.heap.size (.slice a0 L.length c0) w3.heap.size (L.length + 1) w2.heap.size (avA L (xs.take (k + 1))) (wb.setCell ⟨w3.heap.size, 0, none⟩ (.slice (some ⟨g7, 0, none⟩) (L.length + 1) cg))) := ⟨(HWA.out.arg.keepB hbb (by omega)).setOther (by simp; omega) _, (HWA.out.res.keepB hbb (by omega)).setOther (by simp; omega) _, ⟨_, cg, btb.set _, by rw [HTK.out, adjL_congr (fun i _ j _ => avA_link L _ i j)]; exact hob.setType btb (by decide) (by decide) 0 _⟩, (HWA.out.bel.trans (hbb.mono (by omega))).setCell (by simp; omega) _⟩; clear hob hbb htb btb))
          all_goals (
            clear kg hck kb kga hcka kba kbb kfb
            go_wp2
            go_roundw
            case rel => exact ⟨k + 1, by omega, by go_num, HWB.out⟩
            case measure => simp [intOf]; omega)
        · obtain rfl : k = xs.length := by omega
          obtain ⟨ag, cg, hbt, hog⟩ := hw.out
          rw [List.take_length] at hog
          have kg := hbt.box.1
          have kr := hw.res.1
          have kf := hw.res.2
          have T7 : Hid (Two w (.slice a0 L.length c0) wr) := ⟨hw.arg, hw.res, hw.bel⟩
          have HOG := Lib.hid hog
          clear hbt hog hw kb
          go_wp2
          refine bodyPost_ret (v := .tuple #[.agg #[.slice ag (L.length + 1) cg], .bool true]) (by simp [results, Try.results53, go_sem, T7.out.q0]) rfl (T7.out.yes (B := w2.heap.size) ?_ hz2' HI.out)
          rw [avL, if_pos HI.out]
          exact HOG.out
  · have hS' : setB L xs = false := by simpa using hS
    have HI : Hid (avB L xs = false) := by show avB L xs = false; unfold avB; rw [hS', Bool.false_and]
    have kr := T1.out.res.1
    have kf := T1.out.res.2
    rw [hS']
    clear hS hS'
    go_wp2
    exact bodyPost_ret (v := .tuple #[.agg #[.slice none 0 0], .bool false]) (by simp [results, Try.results53, go_sem, T1.out.q0]) rfl (T1.out.no (avL_no HI.out) HI.out)

end Go.Proofs.Ytikfbfclbmlopaa

/- Walks: a vertex added: the program's. -/
namespace Go.Proofs.Ytikfbfclbmlopaa
open Go.RowKit

/-- A row laid, its box laid, the copy grown by it, put back: the copy has one row more. -/
theorem WorkL.grow {w0 w w2 w7 : World} {v : Value} {bo B g n cg g7 cap7 : Nat} {L : List (List Int)} {xs : List Int} {rv : Value} {R : Nat → Value} (h : WorkL w0 v bo B g n cg L w) (hbo2 : w0.heap.size + 1 < bo) (hn : L.length = n) (hl : n ≤ 1000) (hb : Below w.heap.size w w2) (hr : OwnRow 2 w2 w.heap.size rv xs)
    (hR : w.ownsRow B 34 1 (.slice (some ⟨g, 0, none⟩) n cg) n ((List.range n).map R)) (hRr : ∀ i, i < n → OwnRow 2 w B (R i) (nthR L i)) (hRd : ∀ i j q, i < j → j < n → (R i).ownBlock = some q → (R j).ownBlock ≠ some q)
    (hown : w7.ownsRow B 34 1 (.slice (some ⟨g7, 0, none⟩) (n + 1) cap7) (n + 1) ((List.range n).map R ++ [rv])) (hgrow : (w2.alloc (.cells #[rv] 34)).grownBy w7 (Value.slice (some ⟨g, 0, none⟩) n cg).ownBlock) :
    BoxT 26 w7 bo (.slice (some ⟨g, 0, none⟩) n cg) ∧ WorkL w0 v bo B g7 (n + 1) cap7 (L ++ [xs]) (w7.setCell ⟨bo, 0, none⟩ (.slice (some ⟨g7, 0, none⟩) (n + 1) cap7)) := by
  subst hn
  have hBs : B ≤ w.heap.size := by
    rcases hR.2 with ⟨e, _⟩ | ⟨g', cap', cur', e, hg, hh, _⟩
    · cases e
    · obtain ⟨hlt, _⟩ := Array.getElem?_eq_some_iff.1 hh
      omega
  have hlow := h.low
  have hW : Below w.heap.size w (w2.alloc (.cells #[rv] 34)) := hb.alloc hb.size _
  have hbw : Below B w w7 := (hW.mono hBs).grown hgrow (by rw [size_alloc1]; have := hb.size; omega) (fun j hj => (hR.lt j hj).1)
  have hog : OwnGrid 2 34 w7 B (.slice (some ⟨g7, 0, none⟩) (L.length + 1) cap7) (L ++ [xs]) := by
    refine OwnGrid.snoc (w0 := w) (w := w2.alloc (.cells #[rv] 34)) (rv := rv) (n := L.length) (v := .slice (some ⟨g, 0, none⟩) L.length cg) (by decide) hW hBs ?_ rfl (by unfold maxLen; omega) R hR hRr hRd hown hgrow
    exact hr.keep ((Below.refl _ _).alloc (Nat.le_refl _) _)
  have hbt : BoxT 26 w7 bo (.slice (some ⟨g, 0, none⟩) L.length cg) := by
    unfold BoxT
    have hlt := h.box.lt
    rw [hgrow.block bo (by rw [size_alloc1]; have := hb.size; omega) (fun e => h.ne (by simpa [Value.ownBlock] using e)), hW.block bo hlt]
    exact h.box
  have t7 := h.two.keepB hbw hlow
  exact ⟨hbt, ⟨t7.arg.setOther (by simp; omega) _, t7.res.setOther (by simp; omega) _, t7.bel.setCell (by simp; omega) _⟩, hbt.set _, hog.setType hbt (by decide) (by decide) 0 _, hlow⟩

/-- Who is near whom among the old vertices and the new one, when the rows of ys have it. -/
def avP (L : List (List Int)) (ys : List Int) (i j : Nat) : Bool := adjB L i j || (j == L.length && hasB ys (i : Int))
theorem avP_start {L : List (List Int)} (hG : GraphP L) : L = adjL L.length (avP L []) := by
  have h := graph_adjL hG
  rw [← adjL_congr (A := avP L []) (A' := adjB L) (fun i _ j _ => by unfold avP; rw [hasB_nil]; simp)] at h
  exact h.symm
theorem avP_set {L : List (List Int)} (hG : GraphP L) (hn : L.length < 16) {y : Nat} (ys : List Int) (hy : y < L.length) : (adjL L.length (avP L ys)).set y (listM (rowM L y ||| 2 ^ L.length)) = adjL L.length (avP L (ys ++ [(y : Int)])) := by
  apply nthR_ext
  · simp [adjL_len]
  · intro i hi
    rw [List.length_set, adjL_len] at hi
    rw [adjL_nth _ hi]
    by_cases e : y = i
    · subst e
      unfold nthR
      rw [List.getD_eq_getElem?_getD, List.getElem?_set_self (by rw [adjL_len]; exact hi)]
      show listM _ = listM _
      congr 1
      apply Nat.eq_of_testBit_eq
      intro j
      rw [Nat.testBit_or, rowM_pm hG, pm_bit, pm_bit, Nat.testBit_two_pow]
      unfold avP
      rw [hasB_snoc]
      have e1 : ((y : Int) == (y : Int)) = true := by simp
      have e2 : (j == L.length) = decide (L.length = j) := by by_cases h : L.length = j <;> simp [h]; omega
      rw [e1, e2, Bool.or_true, Bool.and_true]
      by_cases hj : j < 16
      · simp [hj]
      · simp [hj, show ¬ L.length = j from by omega]
    · rw [nthR_set_ne _ e, adjL_nth _ hi]
      congr 1
      refine pm_congr (fun j _ => ?_)
      unfold avP
      rw [hasB_snoc]
      have : ((i : Int) == (y : Int)) = false := by rw [beq_eq_false_iff_ne]; omega
      rw [this, Bool.or_false]
theorem avP_end {L : List (List Int)} {xs : List Int} (hG : GraphP L) (hs : SetP xs L.length) (hn : L.length < 16) : adjL L.length (avP L xs) ++ [xs] = adjL (L.length + 1) (avA L xs) := by
  apply nthR_ext
  · simp [adjL_len]
  · intro i hi
    rw [List.length_append, List.length_singleton, adjL_len] at hi
    rw [adjL_nth _ hi]
    by_cases h : i < L.length
    · rw [nthR_append_old (by rw [adjL_len]; exact h), adjL_nth _ h]
      congr 1
      refine pm_congr (fun j _ => ?_)
      unfold avP avA
      have : (i == L.length) = false := by rw [beq_eq_false_iff_ne]; omega
      rw [this]; simp
    · obtain rfl : i = L.length := by omega
      have e := nthR_append_last (adjL L.length (avP L xs)) xs
      rw [adjL_len] at e
      rw [e]
      refine sets_eq (SetP.mk hs.pairwise (fun x hx => by have := hs.bounds x hx; omega)) (listM_set _) (fun z => ?_)
      rw [listM_mem]
      have hadj : ∀ j, adjB L L.length j = false := fun j => by
        cases hb : adjB L L.length j with
        | false => rfl
        | true => exact absurd (adjB_range hG hb).1 (by omega)
      have hself : hasB xs (L.length : Int) = false := by
        cases hb : hasB xs (L.length : Int) with
        | false => rfl
        | true =>
          have := hs.bounds _ ((hasB_mem _ _).1 hb)
          omega
      constructor
      · intro hz
        have hb := hs.bounds z hz
        obtain ⟨j, rfl⟩ : ∃ j : Nat, z = (j : Int) := ⟨z.toNat, by omega⟩
        refine ⟨j, by omega, ?_, rfl⟩
        rw [pm_bit]
        unfold avA
        rw [(hasB_mem xs (j : Int)).2 hz]
        simp; omega
      · rintro ⟨j, hj, hb, rfl⟩
        rw [pm_bit, Bool.and_eq_true] at hb
        have hb2 := hb.2
        unfold avA at hb2
        rw [hadj, hself] at hb2
        simp at hb2
        exact (hasB_mem _ _).1 hb2

set_option maxHeartbeats 6400000 in
set_option maxRecDepth 100000 in
theorem implAddedVertex_any (v v1 : Value) (L : List (List Int)) (xs : List Int) (w : World) (h : GridAt w v L) (h1 : RowAt w v1 xs) : Calls Try.prog 43 #[.agg #[v], v1] w (GaveGB w (avL L xs) (avB L xs)) := by
  obtain ⟨i0, hi, hz0, hz1, hz2⟩ := info_parts Try.infoR
  have hl := h.len
  unfold maxLen at hl
  obtain ⟨a0, c0, rfl⟩ := h.slice
  obtain ⟨a1, c1, rfl⟩ := h1.slice
  have hlm := h1.len
  unfold maxLen at hlm
  have T0 := Lib.hid (Two.start w (.slice a0 L.length c0))
  have HGK : Hid (∀ w', Below w.heap.size w w' → GridAt w' (.slice a0 L.length c0) L) := fun w' hb => h.keep hb
  have HRK : Hid (∀ w', Below w.heap.size w w' → RowAt w' (.slice a1 xs.length c1) xs) := fun w' hb => h1.keep hb
  clear h h1
  by_cases h16 : 16 ≤ L.length
  · have HI : Hid (avB L xs = false) := by
      show avB L xs = false
      cases hb : avB L xs with
      | false => rfl
      | true => exact absurd (avB_yes hb).2.2.1 (by omega)
    have hd : decide ((16 : Int) ≤ (L.length : Int)) = true := by simp; omega
    have kr := T0.out.res.1
    have kf := T0.out.res.2
    clear h16
    go_enter Try.func43, Try.ntmps43
    go_wp2
    refine bodyPost_ret (v := .tuple #[.agg #[.slice none 0 0], .bool false]) (by simp [results, Try.results43, go_sem]) rfl ?_
    rw [avL_no HI.out, HI.out]
    exact GaveGB.no T0.out.bel
  · have hd : decide ((16 : Int) ≤ (L.length : Int)) = false := by simp; omega
    have h16I : (L.length : Int) < 16 := by omega
    go_enter Try.func43, Try.ntmps43
    go_wp2_with fail
    refine (implSetOk_any _ _ _ _ _ (HGK.out _ T0.out.bel) (HRK.out _ T0.out.bel)).mono ?_
    rintro e w1 ⟨rfl, hb1⟩
    have T1 := Lib.hid (T0.out.keep hb1)
    clear hb1 T0
    by_cases hS : setB L xs = true
    · have HI : Hid (avB L xs = true) := by show avB L xs = true; unfold avB; rw [hS, (by rw [beq_eq_false_iff_ne]; omega : ((L.length : Int) == 16) = false)]; rfl
      obtain ⟨hG, hs, hlt16, hx16⟩ := avB_yes HI.out
      have HG := Lib.hid hG
      have HS := Lib.hid hs
      have hz := hG.1
      have kb1 := T1.out.arg.1
      rw [hS]
      clear hS h16 hG hs
      go_wp2_with fail
      refine (copied_any _ L _ (HGK.out _ T1.out.bel) (graph_small HG.out)).mono ?_
      rintro e w2 ⟨n2, a2, c2, rfl, ho2, hb2⟩
      obtain ⟨rfl, g, rfl, hwk⟩ := WorkL.start T1.out hb2 ho2 (by omega)
      obtain ⟨bg, og, cg, A, C, eg, lg1, lg2, hcg⟩ := (HGK.out _ (Below.refl _ _)).pos (by omega)
      simp only [Value.slice.injEq, true_and] at eg
      obtain ⟨rfl, rfl⟩ := eg
      have hbgl : bg < w.heap.size := block_lt_of_cell (hcg 0 (by omega)).1
      have HKC : Hid (∀ i, i < L.length → ∀ w', Below w.heap.size w w' → w'.cell? ⟨bg, og + i, none⟩ = some (.slice (A i) (nthR L i).length (C i)) ∧ RowAt w' (.slice (A i) (nthR L i).length (C i)) (listM (rowM L i))) := fun i hi w' hb => ⟨cell_keep hb (hcg i hi).1, by rw [row_list HG.out hi]; exact (hcg i hi).2.keep hb⟩
      have hbo : w.heap.size + 1 < w2.heap.size := Nat.lt_of_lt_of_le T1.out.lt hb2.size
      have HWK0 : Hid (WorkL w (.slice (some ⟨bg, og, none⟩) L.length c0) w2.heap.size w1.heap.size g L.length c2 (adjL L.length (avP L (xs.take 0))) (w2.alloc (.cells #[.slice (some ⟨g, 0, none⟩) L.length c2] 26))) := by
        rw [List.take_zero, ← avP_start HG.out]; exact hwk
      have HADJ : Hid (∀ i, (rowM L i).testBit L.length = false) := fun i => by
        show adjB L i L.length = false
        cases hb : adjB L i L.length with
        | false => rfl
        | true => exact absurd (adjB_range HG.out hb).2 (by omega)
      clear hb2 ho2 kb1 hcg hwk
      go_wp2_with fail
      generalize hw3 : (w2.alloc (.cells #[.slice (some ⟨g, 0, none⟩) L.length c2] 26)) = w3 at HWK0 ⊢
      clear hw3
      go_loopw [26] (fun i wr => ∃ k : Nat, k ≤ xs.length ∧ i = .int .i64 k ∧ WorkL w (.slice (some ⟨bg, og, none⟩) L.length c0) w2.heap.size w1.heap.size g L.length c2 (adjL L.length (avP L (xs.take k))) wr) (fun i _ => xs.length - (intOf i).toNat)
      case atStart => exact ⟨0, Nat.zero_le _, rfl, HWK0.out⟩
      case round =>
        obtain ⟨k, hk, rfl, hw⟩ := hrel
        have HWK := Lib.hid hw
        have k8 := HWK.out.box.box.1
        have k3 := HWK.out.two.arg.1
        have hlow := HWK.out.low
        have hne8 := HWK.out.ne
        by_cases hlt : k < xs.length
        · obtain ⟨bx, ox, cx, e2, l1, l2, hc⟩ := (HRK.out _ hw.two.bel).pos (by omega)
          simp only [Value.slice.injEq, true_and] at e2
          obtain ⟨rfl, rfl⟩ := e2
          have hck := hc k hlt
          have hxk := HS.out k hlt
          obtain ⟨p, hy⟩ : ∃ y : Nat, nth xs k = (y : Int) := ⟨(nth xs k).toNat, by have := hxk.1; omega⟩
          have hp : p < L.length := by have := hxk.2.1; omega
          have hpI : (p : Int) < (L.length : Int) := by omega
          rw [hy] at hck
          have HTK : Hid (xs.take (k + 1) = xs.take k ++ [(p : Int)]) := by show _ = _; rw [take_snoc hlt, hy]
          have kg := (HKC.out p hp _ HWK.out.two.bel).1
          have hp' : p < (adjL L.length (avP L (xs.take k))).length := by rw [adjL_len]; exact hp
          obtain ⟨hBg, hgs, ap, mp, cp, kp, fp, -⟩ := HWK.out.at (i := p) hp'
          have HKP := Lib.hid kp
          have HFP := Lib.hid fp
          clear kp fp hw hc hxk hy
          go_wp2_with fail
          go_region_held3 (fun wx => wx.cell? ⟨w2.heap.size, 0, none⟩ = some (.slice (some ⟨g, 0, none⟩) L.length c2) ∧ wx.cell? ⟨w.heap.size, 0, none⟩ = some (.slice (some ⟨bg, og, none⟩) L.length c0) ∧ wx.cell? ⟨bg, og + p, none⟩ = some (.slice (A p) (nthR L p).length (C p))) (first | exact ⟨k8, k3, kg⟩ | exact ⟨k8a, k3a, kga⟩ | exact ⟨cell_set_blk _ (fun e => hne8 e.symm) k8a, cell_set_blk _ (fun e => by simp at e; omega) k3a, cell_set_blk _ (fun e => by simp at e; omega) kga⟩)
            ((go_at_call 93; refine (rowWith_mask _ (rowM L p) L.length _ ((HKC.out p hp _ HWK.out.two.bel).2.keep (Below.refl _ _).drew) hlt16 (HADJ.out p)).mono ?_; rintro e w5 ⟨n5, a5, c5, rfl, ho5, hb5⟩; have HB5 : Hid (Below wr.heap.size wr w5) := (Below.refl _ _).drew.trans hb5; have k8a := cell_keep HB5.out k8; have k3a := cell_keep HB5.out k3; have kga := cell_keep HB5.out kg; have kpa := cell_keep HB5.out HKP.out; have fpa : w5.frozen? ⟨g, p, none⟩ = false := (by rw [HB5.out.frozen hgs]; exact HFP.out); have HO5 : Hid (OwnRow 2 w5 wr.heap.size (.slice a5 n5 c5) (listM (rowM L p ||| 2 ^ L.length))) := ho5; clear ho5 hb5))
          have hw6 := HWK.out.set HB5.out HO5.out hp'
          rw [avP_set HG.out hlt16 _ hp, ← HTK.out] at hw6
          have HW6 := Lib.hid hw6
          clear kpa fpa k8a k3a kga k8 k3 kg HKP HFP HO5 HB5 HWK hne8 hBg hgs hw6
          rename_i hHeld
          clear hHeld
          go_wp2
          go_roundw
          case rel => exact ⟨k + 1, by omega, by go_num, HW6.out⟩
          case measure => simp [intOf]; omega
        · obtain rfl : k = xs.length := by omega
          have hw2 := hw
          rw [List.take_length] at hw2
          have HWF := Lib.hid hw2
          obtain ⟨R, hR, hRr, hRd⟩ := hw2.own.owns
          rw [adjL_len] at hR hRr hRd
          have HR := Lib.hid hR
          have HRr := Lib.hid hRr
          have HRd := Lib.hid hRd
          have HXR := Lib.hid (HRK.out _ hw.two.bel)
          have hBs : w1.heap.size ≤ wr.heap.size := by
            obtain ⟨hb1, hb2, _⟩ := hw2.at (i := 0) (by rw [adjL_len]; omega)
            omega
          have ft := HWF.out.box.box.2
          have HC3 : Hid (L.length + 1 ≤ maxLen) := by show _ ≤ _; unfold maxLen; omega
          have HC4 : Hid ((L.length + 1) * 24 ≤ 140737488355328) := by show _ ≤ _; omega
          clear hw hw2 hR hRr hRd k3
          go_wp2_with fail
          go_region_law (first
            | (go_simp; go_at_call 99; refine (copiedRow_any _ xs _ (HXR.out.keep (Below.refl _ _).drew) (by omega)).mono ?_; rintro e wa ⟨na, aa, ca, rfl, hoa, hba⟩; have HBA : Hid (Below wr.heap.size wr wa) := (Below.refl _ _).drew.trans hba; have HOA : Hid (OwnRow 2 wa wr.heap.size (.slice aa na ca) xs) := hoa; have k8a := cell_keep HBA.out k8; have k8b : (wa.alloc (.cells #[.slice aa na ca] 34)).cell? ⟨w2.heap.size, 0, none⟩ = some (.slice (some ⟨g, 0, none⟩) L.length c2) := cell_keep ((Below.refl _ _).alloc (Nat.le_refl _) _) k8a; have HOR2 : Hid (wa.ownsRow w1.heap.size 34 1 (.slice (some ⟨g, 0, none⟩) L.length c2) L.length ((List.range L.length).map R)) := (⟨HR.out.1, HR.out.2.imp (fun h => h) (fun ⟨g, cap, cur, e, hgB, hh, r⟩ => ⟨g, cap, cur, e, hgB, by rw [HBA.out.block g (Array.getElem?_eq_some_iff.1 hh).1]; exact hh, r⟩)⟩); have HZ2 : Hid (w1.heap.size ≤ (wa.alloc (.cells #[.slice aa na ca] 34)).heap.size) := (by show _ ≤ _; rw [size_alloc1]; have := HBA.out.size; omega); clear hoa hba)
            | (refine step_append_lies _ (by rfl) (.tmp 43) (.tmp 46) 24 (by rfl) w1.heap.size 34 i0 (.slice none 0 0) 1 24 Try.underlying24 hi hz0 hz1 hz2 rfl (by omega) (.slice (some ⟨g, 0, none⟩) L.length c2) L.length ((List.range L.length).map R) (by rfl) (HOR2.out.alloc _) ⟨wa.heap.size, 0, none⟩ 1 1 [.slice aa na ca] (by rfl) rfl (World.news_of_block (heap_alloc_new _ _)) (fun u hu => by simp at hu; subst hu; rfl) Nat.one_pos HC3.out HC4.out HZ2.out (wa.heap.size + 1) (size_alloc1 _ _) ?_; intro g7 cap7 w7 hown7 hgrow7 hat7 hlt7; obtain ⟨hbx7, hw7⟩ := HWF.out.grow hbo (adjL_len _ _) (by omega) HBA.out HOA.out HR.out HRr.out HRd.out hown7 hgrow7; have k87 := hbx7.box.1; have f87 := hbx7.box.2; have HW7 := Lib.hid hw7; clear hown7 hgrow7 hat7 hlt7 hbx7 hw7))
          all_goals (
            clear k87 f87 k8a k8b k8 ft
            generalize (w7.setCell ⟨w2.heap.size, 0, none⟩ (.slice (some ⟨g7, 0, none⟩) (L.length + 1) cap7)) = w8 at HW7 ⊢
            have k8 := HW7.out.box.box.1
            have kr := HW7.out.two.res.1
            have kf := HW7.out.two.res.2
            have HEL : Hid (avL L xs = adjL L.length (avP L xs) ++ [xs]) := by show _ = _; rw [avL, if_pos HI.out, avP_end HG.out HS.out hlt16]
            go_wp2
            refine bodyPost_ret (v := .tuple #[.agg #[.slice (some ⟨g7, 0, none⟩) (L.length + 1) cap7], .bool true]) (by simp [results, Try.results43, go_sem, HW7.out.two.q0]) rfl ?_
            rw [HEL.out]
            exact HW7.out.done HI.out)
    · have hS' : setB L xs = false := by simpa using hS
      have HI : Hid (avB L xs = false) := by show avB L xs = false; unfold avB; rw [hS', Bool.false_and]
      have kr := T1.out.res.1
      have kf := T1.out.res.2
      rw [hS']
      clear hS hS'
      go_wp2
      exact bodyPost_ret (v := .tuple #[.agg #[.slice none 0 0], .bool false]) (by simp [results, Try.results43, go_sem, T1.out.q0]) rfl (T1.out.no (avL_no HI.out) HI.out)

end Go.Proofs.Ytikfbfclbmlopaa

/- The walk of the law FnExactAddedVertex, written by program (tools/lawgen2.py) out of the contracts. -/
namespace Go.Proofs.Ytikfbfclbmlopaa
open Go.RowKit

set_option maxHeartbeats 4000000 in
set_option maxRecDepth 100000 in
theorem lawAddedVertex (v0 : Value) (L0 : List (List Int)) (v1 : Value) (L1 : List Int) (w : World) (h0 : GridAt w v0 L0) (h1 : RowAt w v1 L1) :
    Calls Try.prog 8 #[.agg #[v0], v1] w fun e w' => e = .returned (.bool true) ∧ Below w.heap.size w w' := by
  obtain ⟨a0, c0, rfl⟩ := h0.slice
  obtain ⟨a1, c1, rfl⟩ := h1.slice
  have hl1 := h1.len
  unfold maxLen at hl1
  by_cases hr1 : (1048576 : Int) < (L1.length : Int)
  · go_enter Try.func8, Try.ntmps8
    go_wp2
    go_ret
    exact ⟨rfl, (Below.refl _ _).alloc (by first | (simp; done) | (simp; omega)) _⟩
  have hr1' : L1.length ≤ 1048576 := by omega
  have hsr0 := avL_small L0 L1
  obtain ⟨E0, hE0⟩ : ∃ x, x = avL L0 L1 := ⟨_, rfl⟩
  rw [← hE0] at hsr0
  have HEQ0 := Lib.hid hE0
  clear hE0
  obtain ⟨E1, hE1⟩ : ∃ x, x = avB L0 L1 := ⟨_, rfl⟩
  have HEQ1 := Lib.hid hE1
  clear hE1
  go_enter Try.func8, Try.ntmps8
  have ha1 : Below w.heap.size w (w.alloc (.cells #[.slice a0 L0.length c0] 51)) := ((Below.refl _ _).alloc (Nat.le_refl _) _)
  go_wp2_with fail
  refine (szGraph_any _ _ _ _ (h0.keep ha1) (by omega) (by omega)).mono ?_
  rintro e w1 ⟨rfl, hb1⟩
  have kb0_1 : w1.cell? ⟨w.heap.size, 0, none⟩ = some (.slice a0 L0.length c0) := by rw [hb1.cell (by first | (simp; done) | (simp; omega))]; go_simp
  have hz1 : w.heap.size + 1 ≤ w1.heap.size := by have hq := hb1.size; simpa using hq
  have HB1 : Hid (Below w.heap.size w w1) := ha1.trans (hb1.mono (by first | (simp; done) | (simp; omega)))
  clear ha1 hb1
  by_cases hs0 : szGrid L0 1048576 < 0
  · go_wp2
    go_ret
    exact ⟨rfl, HB1.out⟩
  have hsm0 := (szGrid_small (L := L0) (left := 1048576) (by omega) (by omega)).1
  have hle0 := (szGrid_small (L := L0) (left := 1048576) (by omega) (by omega)).2
  go_wp2_with fail
  refine (toGraph_any _ _ _ (h0.keep HB1.out) hsm0).mono ?_
  rintro e w2 ⟨np0, ap0, cp0, rfl, hop0, hb2⟩
  have kb0_2 := cell_keep hb2 kb0_1
  have Op0_2 : Hid (OwnGridU 2 34 w2 (w1.heap.size) w2.heap.size (.slice ap0 np0 cp0) L0) := (hop0.mono (by first | exact Nat.le_refl _ | simp)).under
  have hz2 : w1.heap.size ≤ w2.heap.size := hb2.size
  have HB2 : Hid (Below w.heap.size w w2) := HB1.out.trans (hb2.mono (by first | omega | (simp; omega)))
  clear kb0_1 HB1 hb2
  go_wp2_with fail
  refine (toInt64S_gave _ _ _ (h1.keep HB2.out) hr1').mono ?_
  rintro e w3 ⟨np1, ap1, cp1, rfl, hop1, hb3⟩
  have kb0_3 := cell_keep hb3 kb0_2
  have Op0_3 := Lib.hid (Op0_2.out.keep hb3)
  have Op1_3 : Hid (OwnRowU 2 w3 (w2.heap.size) w3.heap.size (.slice ap1 np1 cp1) L1) := (hop1.mono (by first | exact Nat.le_refl _ | simp)).under
  have hz3 : w2.heap.size ≤ w3.heap.size := hb3.size
  have HB3 : Hid (Below w.heap.size w w3) := HB2.out.trans (hb3.mono (by first | omega | (simp; omega)))
  clear kb0_2 Op0_2 HB2 hb3
  go_wp2_with fail
  refine (specAddedVertex_any _ _ _ _ _ Op0_3.out.read Op1_3.out.read).mono ?_
  rintro e w4 ⟨ns0, as0, cs0, rfl, hos0, hb4⟩
  rw [← HEQ1.out]
  have kb0_4 := cell_keep hb4 kb0_3
  have Op0_4 := Lib.hid (Op0_3.out.keep hb4)
  have Op1_4 := Lib.hid (Op1_3.out.keep hb4)
  have Os0_4 : Hid (OwnGridU 2 34 w4 (w3.heap.size) w4.heap.size (.slice as0 ns0 cs0) E0) := (by have hq := hos0; rw [← HEQ0.out] at hq; exact (hq.mono (by first | exact Nat.le_refl _ | simp)).under)
  have hz4 : w3.heap.size ≤ w4.heap.size := hb4.size
  have HB4 : Hid (Below w.heap.size w w4) := HB3.out.trans (hb4.mono (by first | omega | (simp; omega)))
  clear kb0_3 Op0_3 Op1_3 HB3 hb4
  have ha5 : Below w4.heap.size w4 (w4.alloc (.cells #[.slice as0 ns0 cs0] 26)) := ((Below.refl _ _).alloc (Nat.le_refl _) _)
  have kb0_4a := cell_keep ha5 kb0_4
  go_wp2_with fail
  clear kb0_4a
  refine (toGraph_any _ _ _ ((h0.keep HB4.out).keep ha5) hsm0).mono ?_
  rintro e w5 ⟨nx0, ax0, cx0, rfl, hox0, hb5⟩
  have kb0_5 := cell_keep hb5 (cell_keep ha5 kb0_4)
  have ks0_5 : w5.cell? ⟨w4.heap.size, 0, none⟩ = some (.slice as0 ns0 cs0) := by rw [hb5.cell (by first | (simp; done) | (simp; omega))]; go_simp
  have Os0_5 := Lib.hid ((Os0_4.out.keep ha5).keep hb5)
  have Ox0_5 : Hid (OwnGridU 2 34 w5 (w4.heap.size + 1) w5.heap.size (.slice ax0 nx0 cx0) L0) := (hox0.mono (by first | exact Nat.le_refl _ | simp)).under
  have hz5 : w4.heap.size + 1 ≤ w5.heap.size := by have hq := hb5.size; simpa using hq
  have HB5 : Hid (Below w.heap.size w w5) := (HB4.out.trans (ha5.mono HB4.out.size)).trans (hb5.mono (by first | omega | (simp; omega)))
  clear kb0_4 Os0_4 HB4 ha5 hb5
  have ha6 : Below w5.heap.size w5 (w5.alloc (.cells #[.slice ax0 nx0 cx0] 26)) := ((Below.refl _ _).alloc (Nat.le_refl _) _)
  have kb0_5a := cell_keep ha6 kb0_5
  have ks0_5a := cell_keep ha6 ks0_5
  go_wp2_with fail
  clear kb0_5a ks0_5a
  refine (toInt64S_gave _ _ _ ((h1.keep HB5.out).keep ha6) hr1').mono ?_
  rintro e w6 ⟨nx1, ax1, cx1, rfl, hox1, hb6⟩
  have kb0_6 := cell_keep hb6 (cell_keep ha6 kb0_5)
  have ks0_6 := cell_keep hb6 (cell_keep ha6 ks0_5)
  have kx0_6 : w6.cell? ⟨w5.heap.size, 0, none⟩ = some (.slice ax0 nx0 cx0) := by rw [hb6.cell (by first | (simp; done) | (simp; omega))]; go_simp
  have Os0_6 := Lib.hid ((Os0_5.out.keep ha6).keep hb6)
  have Ox0_6 := Lib.hid ((Ox0_5.out.keep ha6).keep hb6)
  have Ox1_6 : Hid (OwnRowU 2 w6 (w5.heap.size + 1) w6.heap.size (.slice ax1 nx1 cx1) L1) := (hox1.mono (by first | exact Nat.le_refl _ | simp)).under
  have hz6 : w5.heap.size + 1 ≤ w6.heap.size := by have hq := hb6.size; simpa using hq
  have HB6 : Hid (Below w.heap.size w w6) := (HB5.out.trans (ha6.mono HB5.out.size)).trans (hb6.mono (by first | omega | (simp; omega)))
  clear kb0_5 ks0_5 Os0_5 Ox0_5 HB5 ha6 hb6
  go_wp2_with fail
  refine (implAddedVertex_any _ _ _ _ _ Ox0_6.out.read Ox1_6.out.read).mono ?_
  rintro e w7 ⟨ng0, ag0, cg0, rfl, hog0, hb7⟩
  rw [← HEQ1.out]
  have kb0_7 := cell_keep hb7 kb0_6
  have ks0_7 := cell_keep hb7 ks0_6
  have kx0_7 := cell_keep hb7 kx0_6
  have Os0_7 := Lib.hid (Os0_6.out.keep hb7)
  have Ox0_7 := Lib.hid (Ox0_6.out.keep hb7)
  have Ox1_7 := Lib.hid (Ox1_6.out.keep hb7)
  have Og0_7 : Hid (OwnGridU 2 34 w7 (w6.heap.size) w7.heap.size (.slice ag0 ng0 cg0) E0) := (by have hq := hog0; rw [← HEQ0.out] at hq; exact (hq.mono (by first | exact Nat.le_refl _ | simp)).under)
  have hz7 : w6.heap.size ≤ w7.heap.size := hb7.size
  have HB7 : Hid (Below w.heap.size w w7) := HB6.out.trans (hb7.mono (by first | omega | (simp; omega)))
  clear kb0_6 ks0_6 kx0_6 Os0_6 Ox0_6 Ox1_6 HB6 hb7
  have ha8 : Below w7.heap.size w7 (w7.alloc (.cells #[.slice ag0 ng0 cg0] 26)) := ((Below.refl _ _).alloc (Nat.le_refl _) _)
  have kb0_7a := cell_keep ha8 kb0_7
  have ks0_7a := cell_keep ha8 ks0_7
  have kx0_7a := cell_keep ha8 kx0_7
  go_wp2_with fail
  clear kb0_7a ks0_7a kx0_7a
  refine (eqGraph_any _ _ _ _ _ (Og0_7.out.read.keep ha8) (Os0_7.out.read.keep ha8)).mono ?_
  rintro e w8 ⟨rfl, hb8⟩
  rw [decide_eq_true rfl]
  have kb0_8 := cell_keep hb8 (cell_keep ha8 kb0_7)
  have ks0_8 := cell_keep hb8 (cell_keep ha8 ks0_7)
  have kx0_8 := cell_keep hb8 (cell_keep ha8 kx0_7)
  have kg0_8 : w8.cell? ⟨w7.heap.size, 0, none⟩ = some (.slice ag0 ng0 cg0) := by rw [hb8.cell (by first | (simp; done) | (simp; omega))]; go_simp
  have Os0_8 := Lib.hid ((Os0_7.out.keep ha8).keep hb8)
  have Ox0_8 := Lib.hid ((Ox0_7.out.keep ha8).keep hb8)
  have Ox1_8 := Lib.hid ((Ox1_7.out.keep ha8).keep hb8)
  have Og0_8 := Lib.hid ((Og0_7.out.keep ha8).keep hb8)
  have hz8 : w7.heap.size + 1 ≤ w8.heap.size := by have hq := hb8.size; simpa using hq
  have HB8 : Hid (Below w.heap.size w w8) := (HB7.out.trans (ha8.mono HB7.out.size)).trans (hb8.mono (by first | omega | (simp; omega)))
  clear kb0_7 ks0_7 kx0_7 Os0_7 Ox0_7 Ox1_7 Og0_7 HB7 ha8 hb8
  go_wp2
  go_region_held3 (fun wx => wx.cell? ⟨w.heap.size, 0, none⟩ = some (.slice a0 L0.length c0) ∧ wx.cell? ⟨w5.heap.size, 0, none⟩ = some (.slice ax0 nx0 cx0)) (first | exact ⟨kb0_8, kx0_8⟩ | exact ⟨kb0_9r1, kx0_9r1⟩ | exact ⟨kb0_9r2, kx0_9r2⟩)
    (first | (go_at_call 48; refine (toGraph_any _ _ _ ((h0.keep HB8.out).keep (Below.refl _ _).drew) hsm0).mono ?_; rintro e w9r1 ⟨ny0, ay0, cy0, rfl, hoy0, hb9r1⟩; have kb0_9r1 := cell_keep hb9r1 (cell_keep (Below.refl _ _).drew kb0_8); have ks0_9r1 := cell_keep hb9r1 (cell_keep (Below.refl _ _).drew ks0_8); have kx0_9r1 := cell_keep hb9r1 (cell_keep (Below.refl _ _).drew kx0_8); have kg0_9r1 := cell_keep hb9r1 (cell_keep (Below.refl _ _).drew kg0_8); have Os0_9r1 := Lib.hid ((Os0_8.out.keep (Below.refl _ _).drew).keep hb9r1); have Ox0_9r1 := Lib.hid ((Ox0_8.out.keep (Below.refl _ _).drew).keep hb9r1); have Ox1_9r1 := Lib.hid ((Ox1_8.out.keep (Below.refl _ _).drew).keep hb9r1); have Og0_9r1 := Lib.hid ((Og0_8.out.keep (Below.refl _ _).drew).keep hb9r1); have Oy0_9r1 : Hid (OwnGridU 2 34 w9r1 (w8.heap.size) w9r1.heap.size (.slice ay0 ny0 cy0) L0) := (hoy0.mono (by first | exact Nat.le_refl _ | simp)).under; have hz9r1 : w8.heap.size ≤ w9r1.heap.size := hb9r1.size; have HB9r1 : Hid (Below w.heap.size w w9r1) := HB8.out.drew.trans (hb9r1.mono HB8.out.size); clear hb9r1) | (go_at_call 49; refine (eqGraph_any _ _ _ _ _ Ox0_9r1.out.read Oy0_9r1.out.read).mono ?_; rintro e w9r2 ⟨rfl, hb9r2⟩; have kb0_9r2 := cell_keep hb9r2 kb0_9r1; have ks0_9r2 := cell_keep hb9r2 ks0_9r1; have kx0_9r2 := cell_keep hb9r2 kx0_9r1; have kg0_9r2 := cell_keep hb9r2 kg0_9r1; have Os0_9r2 := Lib.hid (Os0_9r1.out.keep hb9r2); have Ox0_9r2 := Lib.hid (Ox0_9r1.out.keep hb9r2); have Ox1_9r2 := Lib.hid (Ox1_9r1.out.keep hb9r2); have Og0_9r2 := Lib.hid (Og0_9r1.out.keep hb9r2); have Oy0_9r2 := Lib.hid (Oy0_9r1.out.keep hb9r2); have hz9r2 : w9r1.heap.size ≤ w9r2.heap.size := hb9r2.size; have HB9r2 : Hid (Below w.heap.size w w9r2) := HB9r1.out.trans (hb9r2.mono HB9r1.out.size); clear hb9r2; rw [decide_eq_true rfl]))
  clear kb0_8 ks0_8 kx0_8 kg0_8 Os0_8 Ox0_8 Ox1_8 Og0_8 HB8 kb0_9r1 ks0_9r1 kx0_9r1 kg0_9r1 Os0_9r1 Ox0_9r1 Ox1_9r1 Og0_9r1 Oy0_9r1 HB9r1
  go_wp2_with fail
  refine (toInt64S_gave _ _ _ (h1.keep HB9r2.out) hr1').mono ?_
  rintro e w10 ⟨ny1, ay1, cy1, rfl, hoy1, hb10⟩
  have kb0_10 := cell_keep hb10 kb0_9r2
  have ks0_10 := cell_keep hb10 ks0_9r2
  have kx0_10 := cell_keep hb10 kx0_9r2
  have kg0_10 := cell_keep hb10 kg0_9r2
  have Os0_10 := Lib.hid (Os0_9r2.out.keep hb10)
  have Ox0_10 := Lib.hid (Ox0_9r2.out.keep hb10)
  have Ox1_10 := Lib.hid (Ox1_9r2.out.keep hb10)
  have Og0_10 := Lib.hid (Og0_9r2.out.keep hb10)
  have Oy1_10 : Hid (OwnRowU 2 w10 (w9r2.heap.size) w10.heap.size (.slice ay1 ny1 cy1) L1) := (hoy1.mono (by first | exact Nat.le_refl _ | simp)).under
  have hz10 : w9r2.heap.size ≤ w10.heap.size := hb10.size
  have HB10 : Hid (Below w.heap.size w w10) := HB9r2.out.trans (hb10.mono (by first | omega | (simp; omega)))
  clear kb0_9r2 ks0_9r2 kx0_9r2 kg0_9r2 Os0_9r2 Ox0_9r2 Ox1_9r2 Og0_9r2 HB9r2 hb10
  go_wp2_with fail
  refine (eqInt64S_b _ _ _ _ _ Ox1_10.out.read Oy1_10.out.read).mono ?_
  rintro e w11 ⟨rfl, hb11⟩
  rw [decide_eq_true rfl]
  have kb0_11 := cell_keep hb11 kb0_10
  have ks0_11 := cell_keep hb11 ks0_10
  have kx0_11 := cell_keep hb11 kx0_10
  have kg0_11 := cell_keep hb11 kg0_10
  have Os0_11 := Lib.hid (Os0_10.out.keep hb11)
  have Ox0_11 := Lib.hid (Ox0_10.out.keep hb11)
  have Ox1_11 := Lib.hid (Ox1_10.out.keep hb11)
  have Og0_11 := Lib.hid (Og0_10.out.keep hb11)
  have Oy1_11 := Lib.hid (Oy1_10.out.keep hb11)
  have hz11 : w10.heap.size ≤ w11.heap.size := hb11.size
  have HB11 : Hid (Below w.heap.size w w11) := HB10.out.trans (hb11.mono (by first | omega | (simp; omega)))
  clear kb0_10 ks0_10 kx0_10 kg0_10 Os0_10 Ox0_10 Ox1_10 Og0_10 Oy1_10 HB10 hb11
  have hone : (0 : Int) ≤ 1 := by omega
  have htt0 := totTo_le hsm0.2 L0.length (Nat.le_refl _)
  have htu0 : 1048576 * L0.length ≤ 1048576 * 1048576 := by have := hsm0.1; omega
  go_wp2_with fail
  refine (markGraph_any _ _ (w4.heap.size + 1) w5.heap.size _ _ Ox0_11.out (by omega) (by omega) hsm0).mono ?_
  rintro e w12 ⟨rfl, hogx0, hb12⟩
  have kb0_12 := cell_apart kb0_11 hb12 (by dsimp only; omega)
  have ks0_12 := cell_apart ks0_11 hb12 (by dsimp only; omega)
  have kx0_12 := cell_apart kx0_11 hb12 (by dsimp only; omega)
  have kg0_12 := cell_apart kg0_11 hb12 (by dsimp only; omega)
  have Os0_12 := Lib.hid (Os0_11.out.apart hb12 (by omega))
  have Ox1_12 := Lib.hid (Ox1_11.out.apart hb12 (by omega))
  have Og0_12 := Lib.hid (Og0_11.out.apart hb12 (by omega))
  have Ox0_12 : Hid (OwnGridU 2 34 w12 (w4.heap.size + 1) w5.heap.size (.slice ax0 nx0 cx0) (marksG L0 (1))) := hogx0
  have hz12 : w11.heap.size ≤ w12.heap.size := (hb12.size)
  have HB12 : Hid (Below w.heap.size w w12) := HB11.out.trans ((hb12.below (by first | omega | (simp; omega))).mono (by first | omega | (simp; omega)))
  clear kb0_11 ks0_11 kx0_11 kg0_11 Os0_11 Ox1_11 Og0_11 Ox0_11 HB11 hb12
  go_wp2_with fail
  refine (markInt64S_any _ _ (w5.heap.size + 1) w6.heap.size _ _ Ox1_12.out (by omega) (by omega)).mono ?_
  rintro e w13 ⟨rfl, hogx1, hb13, _, _⟩
  have kb0_13 := cell_apart kb0_12 hb13 (by dsimp only; omega)
  have ks0_13 := cell_apart ks0_12 hb13 (by dsimp only; omega)
  have kx0_13 := cell_apart kx0_12 hb13 (by dsimp only; omega)
  have kg0_13 := cell_apart kg0_12 hb13 (by dsimp only; omega)
  have Os0_13 := Lib.hid (Os0_12.out.apart hb13 (by omega))
  have Og0_13 := Lib.hid (Og0_12.out.apart hb13 (by omega))
  have Ox0_13 := Lib.hid (Ox0_12.out.apart hb13 (by omega))
  have Ox1_13 : Hid (OwnRowU 2 w13 (w5.heap.size + 1) w6.heap.size (.slice ax1 nx1 cx1) (seqFrom (1 + (totTo L0 L0.length : Int)) L1.length)) := hogx1
  have hz13 : w12.heap.size ≤ w13.heap.size := (hb13.size)
  have HB13 : Hid (Below w.heap.size w w13) := HB12.out.trans ((hb13.below (by first | omega | (simp; omega))).mono (by first | omega | (simp; omega)))
  clear kb0_12 ks0_12 kx0_12 kg0_12 Os0_12 Og0_12 Ox0_12 Ox1_12 HB12 hb13
  have hkpos : 0 ≤ 1 + (totTo L0 L0.length : Int) + (L1.length : Int) := by omega
  go_wp2_with fail
  refine (eqGraph_any _ _ _ _ _ Og0_13.out.read Os0_13.out.read).mono ?_
  rintro e w14 ⟨rfl, hb14⟩
  rw [decide_eq_true rfl]
  have kb0_14 := cell_keep hb14 kb0_13
  have ks0_14 := cell_keep hb14 ks0_13
  have kx0_14 := cell_keep hb14 kx0_13
  have kg0_14 := cell_keep hb14 kg0_13
  have Os0_14 := Lib.hid (Os0_13.out.keep hb14)
  have Og0_14 := Lib.hid (Og0_13.out.keep hb14)
  have Ox0_14 := Lib.hid (Ox0_13.out.keep hb14)
  have Ox1_14 := Lib.hid (Ox1_13.out.keep hb14)
  have hz14 : w13.heap.size ≤ w14.heap.size := hb14.size
  have HB14 : Hid (Below w.heap.size w w14) := HB13.out.trans (hb14.mono (by first | omega | (simp; omega)))
  clear kb0_13 ks0_13 kx0_13 kg0_13 Os0_13 Og0_13 Ox0_13 Ox1_13 HB13 hb14
  have hrt0 := totTo_le hsr0.2 E0.length (Nat.le_refl _)
  have hru0 : 1048576 * E0.length ≤ 1048576 * 1048576 := by have := hsr0.1; omega
  go_wp2_with fail
  refine (markGraph_any _ _ (w6.heap.size) w7.heap.size _ _ Og0_14.out (by omega) (by omega) hsr0).mono ?_
  rintro e w15 ⟨rfl, hogg0, hb15⟩
  have kb0_15 := cell_apart kb0_14 hb15 (by dsimp only; omega)
  have ks0_15 := cell_apart ks0_14 hb15 (by dsimp only; omega)
  have kx0_15 := cell_apart kx0_14 hb15 (by dsimp only; omega)
  have kg0_15 := cell_apart kg0_14 hb15 (by dsimp only; omega)
  have Os0_15 := Lib.hid (Os0_14.out.apart hb15 (by omega))
  have Ox0_15 := Lib.hid (Ox0_14.out.apart hb15 (by omega))
  have Ox1_15 := Lib.hid (Ox1_14.out.apart hb15 (by omega))
  have Og0_15 : Hid (OwnGridU 2 34 w15 (w6.heap.size) w7.heap.size (.slice ag0 ng0 cg0) (marksG E0 (1))) := hogg0
  have hz15 : w14.heap.size ≤ w15.heap.size := (hb15.size)
  have HB15 : Hid (Below w.heap.size w w15) := HB14.out.trans ((hb15.below (by first | omega | (simp; omega))).mono (by first | omega | (simp; omega)))
  clear kb0_14 ks0_14 kx0_14 kg0_14 Os0_14 Ox0_14 Ox1_14 Og0_14 HB14 hb15
  have hmpos : 0 ≤ 1 + (totTo E0 E0.length : Int) := by omega
  have hmne : ((1 + (totTo E0 E0.length : Int)) != (1 + (totTo E0 E0.length : Int))) = false := by simp
  go_wp2_with fail
  refine (heldGraph_any _ E0 _ _ Og0_15.out.read (by omega) (by omega) hsr0).mono ?_
  rintro e w16 ⟨rfl, hb16⟩
  have kb0_16 := cell_keep hb16 kb0_15
  have ks0_16 := cell_keep hb16 ks0_15
  have kx0_16 := cell_keep hb16 kx0_15
  have kg0_16 := cell_keep hb16 kg0_15
  have Os0_16 := Lib.hid (Os0_15.out.keep hb16)
  have Ox0_16 := Lib.hid (Ox0_15.out.keep hb16)
  have Ox1_16 := Lib.hid (Ox1_15.out.keep hb16)
  have Og0_16 := Lib.hid (Og0_15.out.keep hb16)
  have hz16 : w15.heap.size ≤ w16.heap.size := hb16.size
  have HB16 : Hid (Below w.heap.size w w16) := HB15.out.trans (hb16.mono (by first | omega | (simp; omega)))
  clear kb0_15 ks0_15 kx0_15 kg0_15 Os0_15 Ox0_15 Ox1_15 Og0_15 HB15 hb16
  go_wp2_with fail
  refine (toGraph_any _ _ _ (h0.keep HB16.out) hsm0).mono ?_
  rintro e w17 ⟨nq0, aq0, cq0, rfl, hoq0, hb17⟩
  have kb0_17 := cell_keep hb17 kb0_16
  have ks0_17 := cell_keep hb17 ks0_16
  have kx0_17 := cell_keep hb17 kx0_16
  have kg0_17 := cell_keep hb17 kg0_16
  have Os0_17 := Lib.hid (Os0_16.out.keep hb17)
  have Ox0_17 := Lib.hid (Ox0_16.out.keep hb17)
  have Ox1_17 := Lib.hid (Ox1_16.out.keep hb17)
  have Og0_17 := Lib.hid (Og0_16.out.keep hb17)
  have Oq0_17 : Hid (OwnGridU 2 34 w17 (w16.heap.size) w17.heap.size (.slice aq0 nq0 cq0) L0) := (hoq0.mono (by first | exact Nat.le_refl _ | simp)).under
  have hz17 : w16.heap.size ≤ w17.heap.size := hb17.size
  have HB17 : Hid (Below w.heap.size w w17) := HB16.out.trans (hb17.mono (by first | omega | (simp; omega)))
  clear kb0_16 ks0_16 kx0_16 kg0_16 Os0_16 Ox0_16 Ox1_16 Og0_16 HB16 hb17
  go_wp2_with fail
  refine (toInt64S_gave _ _ _ (h1.keep HB17.out) hr1').mono ?_
  rintro e w18 ⟨nq1, aq1, cq1, rfl, hoq1, hb18⟩
  have kb0_18 := cell_keep hb18 kb0_17
  have ks0_18 := cell_keep hb18 ks0_17
  have kx0_18 := cell_keep hb18 kx0_17
  have kg0_18 := cell_keep hb18 kg0_17
  have Os0_18 := Lib.hid (Os0_17.out.keep hb18)
  have Ox0_18 := Lib.hid (Ox0_17.out.keep hb18)
  have Ox1_18 := Lib.hid (Ox1_17.out.keep hb18)
  have Og0_18 := Lib.hid (Og0_17.out.keep hb18)
  have Oq0_18 := Lib.hid (Oq0_17.out.keep hb18)
  have Oq1_18 : Hid (OwnRowU 2 w18 (w17.heap.size) w18.heap.size (.slice aq1 nq1 cq1) L1) := (hoq1.mono (by first | exact Nat.le_refl _ | simp)).under
  have hz18 : w17.heap.size ≤ w18.heap.size := hb18.size
  have HB18 : Hid (Below w.heap.size w w18) := HB17.out.trans (hb18.mono (by first | omega | (simp; omega)))
  clear kb0_17 ks0_17 kx0_17 kg0_17 Os0_17 Ox0_17 Ox1_17 Og0_17 Oq0_17 HB17 hb18
  go_wp2_with fail
  refine (implAddedVertex_any _ _ _ _ _ Oq0_18.out.read Oq1_18.out.read).mono ?_
  rintro e w19 ⟨nh0, ah0, ch0, rfl, hoh0, hb19⟩
  rw [← HEQ1.out]
  have kb0_19 := cell_keep hb19 kb0_18
  have ks0_19 := cell_keep hb19 ks0_18
  have kx0_19 := cell_keep hb19 kx0_18
  have kg0_19 := cell_keep hb19 kg0_18
  have Os0_19 := Lib.hid (Os0_18.out.keep hb19)
  have Ox0_19 := Lib.hid (Ox0_18.out.keep hb19)
  have Ox1_19 := Lib.hid (Ox1_18.out.keep hb19)
  have Og0_19 := Lib.hid (Og0_18.out.keep hb19)
  have Oq0_19 := Lib.hid (Oq0_18.out.keep hb19)
  have Oq1_19 := Lib.hid (Oq1_18.out.keep hb19)
  have Oh0_19 : Hid (OwnGridU 2 34 w19 (w18.heap.size) w19.heap.size (.slice ah0 nh0 ch0) E0) := (by have hq := hoh0; rw [← HEQ0.out] at hq; exact (hq.mono (by first | exact Nat.le_refl _ | simp)).under)
  have hz19 : w18.heap.size ≤ w19.heap.size := hb19.size
  have HB19 : Hid (Below w.heap.size w w19) := HB18.out.trans (hb19.mono (by first | omega | (simp; omega)))
  clear kb0_18 ks0_18 kx0_18 kg0_18 Os0_18 Ox0_18 Ox1_18 Og0_18 Oq0_18 Oq1_18 HB18 hb19
  have ha20 : Below w19.heap.size w19 (w19.alloc (.cells #[.slice ah0 nh0 ch0] 26)) := ((Below.refl _ _).alloc (Nat.le_refl _) _)
  have kb0_19a := cell_keep ha20 kb0_19
  have ks0_19a := cell_keep ha20 ks0_19
  have kx0_19a := cell_keep ha20 kx0_19
  have kg0_19a := cell_keep ha20 kg0_19
  go_wp2_with fail
  clear kb0_19a ks0_19a kx0_19a kg0_19a
  refine (eqGraph_any _ _ _ _ _ (Oh0_19.out.read.keep ha20) (Os0_19.out.read.keep ha20)).mono ?_
  rintro e w20 ⟨rfl, hb20⟩
  rw [decide_eq_true rfl]
  have kb0_20 := cell_keep hb20 (cell_keep ha20 kb0_19)
  have ks0_20 := cell_keep hb20 (cell_keep ha20 ks0_19)
  have kx0_20 := cell_keep hb20 (cell_keep ha20 kx0_19)
  have kg0_20 := cell_keep hb20 (cell_keep ha20 kg0_19)
  have kh0_20 : w20.cell? ⟨w19.heap.size, 0, none⟩ = some (.slice ah0 nh0 ch0) := by rw [hb20.cell (by first | (simp; done) | (simp; omega))]; go_simp
  have Os0_20 := Lib.hid ((Os0_19.out.keep ha20).keep hb20)
  have Ox0_20 := Lib.hid ((Ox0_19.out.keep ha20).keep hb20)
  have Ox1_20 := Lib.hid ((Ox1_19.out.keep ha20).keep hb20)
  have Og0_20 := Lib.hid ((Og0_19.out.keep ha20).keep hb20)
  have Oh0_20 := Lib.hid ((Oh0_19.out.keep ha20).keep hb20)
  have hz20 : w19.heap.size + 1 ≤ w20.heap.size := by have hq := hb20.size; simpa using hq
  have HB20 : Hid (Below w.heap.size w w20) := (HB19.out.trans (ha20.mono HB19.out.size)).trans (hb20.mono (by first | omega | (simp; omega)))
  clear kb0_19 ks0_19 kx0_19 kg0_19 Os0_19 Ox0_19 Ox1_19 Og0_19 Oh0_19 HB19 ha20 hb20
  go_wp2_with fail
  refine (heldGraph_any _ E0 _ _ Og0_20.out.read (by omega) (by omega) hsr0).mono ?_
  rintro e w21 ⟨rfl, hb21⟩
  have kb0_21 := cell_keep hb21 kb0_20
  have ks0_21 := cell_keep hb21 ks0_20
  have kx0_21 := cell_keep hb21 kx0_20
  have kg0_21 := cell_keep hb21 kg0_20
  have kh0_21 := cell_keep hb21 kh0_20
  have Os0_21 := Lib.hid (Os0_20.out.keep hb21)
  have Ox0_21 := Lib.hid (Ox0_20.out.keep hb21)
  have Ox1_21 := Lib.hid (Ox1_20.out.keep hb21)
  have Og0_21 := Lib.hid (Og0_20.out.keep hb21)
  have Oh0_21 := Lib.hid (Oh0_20.out.keep hb21)
  have hz21 : w20.heap.size ≤ w21.heap.size := hb21.size
  have HB21 : Hid (Below w.heap.size w w21) := HB20.out.trans (hb21.mono (by first | omega | (simp; omega)))
  clear kb0_20 ks0_20 kx0_20 kg0_20 kh0_20 Os0_20 Ox0_20 Ox1_20 Og0_20 Oh0_20 HB20 hb21
  go_wp2
  go_ret
  exact ⟨rfl, HB21.out⟩

end Go.Proofs.Ytikfbfclbmlopaa
