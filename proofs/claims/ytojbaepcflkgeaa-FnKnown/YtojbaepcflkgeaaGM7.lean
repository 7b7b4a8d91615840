/- Walks: the model's Kneser graphs. -/
import Derived.Test.YtojbaepcflkgeaaQGM3
import Derived.Test.YtojbaepcflkgeaaQGrid
import Derived.Deep.QuietTactic
import Derived.BigQuiet

namespace Go.Proofs.Ytojbaepcflkgeaa
open Go.RowKit

/-- A model's graph while it is made of what lies in the world w3. -/
structure Mk2 (w0 w3 : World) (bo n : Nat) (A : Nat → Nat → Bool) (w : World) : Prop where
  res : BoxAt w w0.heap.size (.slice none 0 0)
  out : ∃ a c, BoxT 30 w bo (.slice a n c) ∧ OwnGrid 2 35 w w3.heap.size (.slice a n c) (adjL n A)
  bel : Below w0.heap.size w0 w
  prs : Below w3.heap.size w3 w
theorem Mk2.keep {w0 w3 : World} {bo n : Nat} {A : Nat → Nat → Bool} {w w' : World} (h : Mk2 w0 w3 bo n A w) (hb : Below w.heap.size w w') : Mk2 w0 w3 bo n A w' := by
  obtain ⟨h2, ⟨a, c, h3, h4⟩, h5, h6⟩ := h
  exact ⟨h2.keep hb, ⟨a, c, h3.keep hb, h4.keep hb⟩, h5.trans (hb.mono (Nat.le_of_lt h2.lt)), h6.trans (hb.mono h6.size)⟩
theorem Mk2.congr {w0 w3 : World} {bo n : Nat} {A A' : Nat → Nat → Bool} {w : World} (h : Mk2 w0 w3 bo n A w) (e : ∀ i j, A i j = A' i j) : Mk2 w0 w3 bo n A' w := by
  obtain rfl : A = A' := by funext i j; exact e i j
  exact h
theorem Mk2.link {w0 w3 : World} {bo n : Nat} {A : Nat → Nat → Bool} {w : World} (h : Mk2 w0 w3 bo n A w) (h03 : w0.heap.size < w3.heap.size) (hbo : w3.heap.size ≤ bo) (hn : n ≤ 16) (x y : Nat) (hx : x < n) (hy : y < n) (hxy : x ≠ y) :
    ∃ a cap, w.cell? ⟨bo, 0, none⟩ = some (.slice a n cap) ∧
      Calls Try.prog 69 #[.agg #[.slice a n cap], .int .i64 (x : Int), .int .i64 (y : Int)] w (fun e w' => e = .returned (.agg #[.slice a n cap]) ∧ w'.cell? ⟨bo, 0, none⟩ = some (.slice a n cap) ∧ w'.frozen? ⟨bo, 0, none⟩ = false ∧ Mk2 w0 w3 bo n (linkA A x y) (w'.setCell ⟨bo, 0, none⟩ (.slice a n cap))) := by
  obtain ⟨h2, ⟨a, c, h3, h4⟩, h5, h6⟩ := h
  obtain ⟨g, cap, eg, hBg, hgs, _⟩ := h4.place (by rw [adjL_len]; omega)
  simp only [adjL_len, Value.slice.injEq, true_and] at eg
  obtain ⟨rfl, rfl⟩ := eg
  have hgne : bo ≠ g := by
    obtain ⟨cur, hcur⟩ := h4.blkT
    intro e
    rw [← e] at hcur
    have hbb : w.heap[bo]? = _ := h3
    rw [hcur] at hbb
    simp at hbb
  refine ⟨_, _, h3.box.1, (l1Link_adj x y g c w3.heap.size n A w h4 (by have := h3.lt; omega) hx hy hn hxy).mono ?_⟩
  rintro e w6 ⟨rfl, ho6, hb6, ht6⟩
  have bt6 : BoxT 30 w6 bo (.slice (some ⟨g, 0, none⟩) n c) := by
    unfold BoxT
    rw [ht6 _ h3.lt hgne]
    exact h3
  exact ⟨rfl, bt6.box.1, bt6.box.2, (h2.keepB hb6 (by omega)).setOther (by simp; omega) _, ⟨_, c, bt6.set _, ho6.setType bt6 (by decide) (by decide) 0 _⟩, (h5.trans (hb6.mono (by omega))).setCell (by simp; omega) _, (h6.trans hb6).setCell (by simp; omega) _⟩
theorem Mk2.done {w0 w3 : World} {bo n : Nat} {A : Nat → Nat → Bool} {w : World} (h : Mk2 w0 w3 bo n A w) (h03 : w0.heap.size < w3.heap.size) :
    ∃ a cap, w.cell? ⟨bo, 0, none⟩ = some (.slice a n cap) ∧ w.cell? ⟨w0.heap.size, 0, none⟩ = some (.slice none 0 0) ∧ w.frozen? ⟨w0.heap.size, 0, none⟩ = false ∧
      (w.setCell ⟨w0.heap.size, 0, none⟩ (.slice a n cap)).cell? ⟨w0.heap.size, 0, none⟩ = some (.slice a n cap) ∧
      GaveGB w0 (adjL n A) true (.returned (.tuple #[.agg #[.slice a n cap], .bool true])) (w.setCell ⟨w0.heap.size, 0, none⟩ (.slice a n cap)) := by
  obtain ⟨h2, ⟨a, c, h3, h4⟩, h5, _⟩ := h
  exact ⟨a, c, h3.box.1, h2.1, h2.2, cell_set_same _ h2.1, n, a, c, rfl, (h4.setBelow (by simpa using h03) _).mono (by omega), h5.setCell (by simp) _⟩
theorem Mk2.start {w w3 w2 : World} {a : Option Addr} {n c : Nat} {A : Nat → Nat → Bool} (hbx : BoxAt w2 w.heap.size (.slice none 0 0)) (ho : OwnGrid 2 35 w2 w3.heap.size (.slice a n c) (adjL n A)) (hb : Below w.heap.size w w2) (hp : Below w3.heap.size w3 w2) :
    Mk2 w w3 w2.heap.size n A (w2.alloc (.cells #[.slice a n c] 30)) := by
  have hst : Below w2.heap.size w2 (w2.alloc (.cells #[.slice a n c] 30)) := (Below.refl _ _).alloc (Nat.le_refl _) _
  exact ⟨hbx.keep hst, ⟨a, c, BoxT.new _ _ _, ho.keep hst⟩, hb.alloc hb.size _, hp.alloc hp.size _⟩

theorem pr_row {n : Nat} (h : n ≤ 6) : ∀ v, v < tri n → ∃ x y : Nat, nthR (prAll n) v = [(x : Int), (y : Int)] := by
  have : n = 0 ∨ n = 1 ∨ n = 2 ∨ n = 3 ∨ n = 4 ∨ n = 5 ∨ n = 6 := by omega
  have key : ∀ L : List (List Int), (∀ r ∈ L, r.length = 2 ∧ 0 ≤ nth r 0 ∧ 0 ≤ nth r 1) → ∀ v, v < L.length → ∃ x y : Nat, nthR L v = [(x : Int), (y : Int)] := fun L hL v hv => by
    have hm : nthR L v ∈ L := by unfold nthR; rw [List.getD_eq_getElem?_getD, List.getElem?_eq_getElem hv]; exact List.getElem_mem hv
    obtain ⟨h1, h2, h3⟩ := hL _ hm
    generalize nthR L v = r at *
    match r, h1 with
    | [p, q], _ =>
      have e0 : nth [p, q] 0 = p := rfl
      have e1 : nth [p, q] 1 = q := rfl
      rw [e0] at h2
      rw [e1] at h3
      exact ⟨p.toNat, q.toNat, by rw [Int.toNat_of_nonneg h2, Int.toNat_of_nonneg h3]⟩
  intro v hv
  rw [← prAll_len] at hv
  refine key _ ?_ v hv
  rcases this with rfl | rfl | rfl | rfl | rfl | rfl | rfl <;> decide

set_option maxHeartbeats 6400000 in
set_option maxRecDepth 100000 in
theorem specKneserGraph_any (n : Int) (w : World) : Calls Try.prog 35 #[.int .i64 n] w (GaveGB w (genL (inB n 4 6) (tri n.toNat) (kneR n.toNat)) (inB n 4 6)) := by
  have HB0 : Hid (Below w.heap.size w (w.alloc (.cells #[.slice none 0 0] 30))) := (Below.refl _ _).alloc (Nat.le_refl _) _
  have HBX0 : Hid (BoxAt (w.alloc (.cells #[.slice none 0 0] 30)) w.heap.size (.slice none 0 0)) := BoxAt.new _ _ _
  obtain ⟨i0, hi, hz0, hz1, hz2⟩ := info_parts Try.infoR
  by_cases hin : inB n 4 6 = true
  · obtain ⟨n, rfl, hn1, hn⟩ := inB_nat hin (by omega)
    have hn1 : 4 ≤ n := by omega
    have hn : n ≤ 6 := by omega
    have hnI : (n : Int) ≤ 6 := by omega
    have HI := Lib.hid hin
    have HG : Hid (genL (inB (n : Int) 4 6) (tri (n : Int).toNat) (kneR (n : Int).toNat) = adjL (tri n) (symA (tri n) (kneR n))) := by show _ = _; rw [hin, genL_yes, Int.toNat_natCast]
    have HO0 : Hid (OwnGrid 2 35 ((w.alloc (.cells #[.slice none 0 0] 30)).alloc (.cells #[] 35)) (w.heap.size + 1) (.slice (some ⟨w.heap.size + 1, 0, none⟩) 0 0) (prL 1 0)) := by
      have h := own_none (T := 2) (T1 := 35) (w.alloc (.cells #[.slice none 0 0] 30)) (w.heap.size + 1) (by rw [size_alloc1]; omega)
      rw [size_alloc1] at h
      exact h
    have HB1 : Hid (Below w.heap.size w ((w.alloc (.cells #[.slice none 0 0] 30)).alloc (.cells #[] 35))) := HB0.out.alloc HB0.out.size _
    have HBX1 : Hid (BoxAt ((w.alloc (.cells #[.slice none 0 0] 30)).alloc (.cells #[] 35)) w.heap.size (.slice none 0 0)) := HBX0.out.keep ((Below.refl _ _).alloc (Nat.le_refl _) _)
    clear hin
    go_enter Try.func35, Try.ntmps35
    go_wp2_with fail
    refine (l1In_any _ _ _ _).mono ?_
    rintro e w' ⟨rfl, rfl⟩
    rw [HI.out]
    go_wp2_with fail
    go_loopw [4, 5] (fun s i wr => ∃ b : Nat, 1 ≤ b ∧ b ≤ n ∧ i = .int .i64 b ∧ OwnGrid 2 35 wr (w.heap.size + 1) s (prL b 0) ∧ BoxAt wr w.heap.size (.slice none 0 0) ∧ Below w.heap.size w wr) (fun _ i _ => n - (intOf i).toNat)
    case atStart => exact ⟨1, Nat.le_refl _, by omega, rfl, HO0.out, HBX1.out, HB1.out⟩
    case round =>
      obtain ⟨b, hb1, hb, rfl, hog, hbx, hbel⟩ := hrel
      have HOG := Lib.hid hog
      have HBX := Lib.hid hbx
      have HBE := Lib.hid hbel
      clear hog hbx hbel
      by_cases hlt : b < n
      · go_wp2_with fail
        go_loopw [4, 6] (fun s i w4 => ∃ a : Nat, a ≤ b ∧ i = .int .i64 a ∧ OwnGrid 2 35 w4 (w.heap.size + 1) s (prL b a) ∧ BoxAt w4 w.heap.size (.slice none 0 0) ∧ Below w.heap.size w w4) (fun _ i _ => b - (intOf i).toNat)
        case atStart => exact ⟨0, Nat.zero_le _, rfl, HOG.out, HBX.out, HBE.out⟩
        case round =>
          rename World => w4
          obtain ⟨a, ha, rfl, hog, hbx, hbel⟩ := hrel
          have hz4 : w.heap.size + 1 ≤ w4.heap.size := hbx.lt
          have HBX4 := Lib.hid hbx
          have HB4 := Lib.hid hbel
          clear hbx hbel
          by_cases hal : a < b
          · have htb := tri_le (n := b) (by omega)
            have hll := prL_len b a
            obtain ⟨E, hE⟩ : ∃ E, E = prL b a := ⟨_, rfl⟩
            have HNX : Hid (prL b (a + 1) = E ++ [[(a : Int), (b : Int)]]) := by show _ = _; rw [prL_next, hE]
            rw [← hE] at hog hll
            have hEl : E.length ≤ 30 := by omega
            obtain ⟨R, hR, hRr, hRd⟩ := hog.owns
            have HR := Lib.hid hR
            have HRr := Lib.hid hRr
            have HRd := Lib.hid hRd
            clear hog hR hRr hRd hll hE
            go_wp2_with (at_builtin; refine wpList_append_own _ rfl (.tmp 25) (.tmp 29) 28 rfl (w.heap.size + 1) 35 i0 (.slice none 0 0) 1 24 Try.underlying28 hi hz0 hz1 hz2 rfl (by decide) _ _ _ rfl ((HR.out.alloc _).alloc _) ⟨w4.heap.size + 1, 0, none⟩ 1 1 [.slice (some ⟨w4.heap.size, 0, none⟩) 2 2] rfl rfl ?c1 ?c2 ?c3 ?c4 ?c5 ?_)
            case c1 =>
              intro j u hj
              match j, hj with
              | 0, hj => simp at hj; subst hj; simp [Addr.add]
            case c2 => intro u hu; simp at hu; subst hu; rfl
            case c3 => unfold maxLen; omega
            case c4 => omega
            case c5 => simp; omega
            intro v' w5 hown' hgrow _
            have HO' := Lib.hid hown'
            have HGW := Lib.hid hgrow
            clear hown' hgrow
            go_wp2
            go_roundw
            case rel =>
              have hbw : Below w4.heap.size w4 ((w4.alloc (.cells #[.int .i64 (a : Int), .int .i64 (b : Int)] 2)).alloc (.cells #[.slice (some ⟨w4.heap.size, 0, none⟩) 2 2] 35)) := ((Below.refl _ _).alloc (Nat.le_refl _) _).alloc (by simp) _
              have hb5 : Below (w.heap.size + 1) w4 w5 := (hbw.mono hz4).grown HGW.out (by simp; omega) (fun j hj => (HR.out.lt j hj).1)
              refine ⟨a + 1, by omega, by go_num, ?_, HBX4.out.keepB hb5 (by omega), HB4.out.trans (hb5.mono (by omega))⟩
              rw [HNX.out]
              refine OwnGrid.snoc (w0 := w4) (w := (w4.alloc (.cells #[.int .i64 (a : Int), .int .i64 (b : Int)] 2)).alloc (.cells #[.slice (some ⟨w4.heap.size, 0, none⟩) 2 2] 35)) (rv := .slice (some ⟨w4.heap.size, 0, none⟩) 2 2) (by decide) hbw hz4 ?_ rfl (by unfold maxLen; omega) R HR.out HRr.out HRd.out HO'.out HGW.out
              exact (own_two (by unfold I64; omega) (by unfold I64; omega)).keep ((Below.refl _ _).alloc (Nat.le_refl _) _)
            case measure => simp [intOf]; omega
          · obtain rfl : a = b := by omega
            rw [prL_turn] at hog
            have HOG4 := Lib.hid hog
            clear hog
            go_wp2
            go_roundw
            case rel => exact ⟨a + 1, by omega, by omega, by go_num, HOG4.out, HBX4.out, HB4.out⟩
            case measure => simp [intOf]; omega
      · obtain rfl : b = n := by omega
        have hog := HOG.out
        rw [prL_zero] at hog
        obtain ⟨a5, c5, e5⟩ := hog.grid.slice
        rw [prAll_len] at e5
        obtain ⟨N, hN⟩ : ∃ N, N = tri b := ⟨_, rfl⟩
        have hN15 : N ≤ 15 := by rw [hN]; exact tri_le hn
        have hN1 : 1 ≤ N := by rw [hN]; exact Nat.le_trans (by decide : 1 ≤ tri 4) (tri_mono hn1)
        rw [← hN] at e5
        rw [e5] at hog ⊢
        obtain ⟨gb, go, gc, GA, GC, e6, l1, l2, hc⟩ := hog.grid.pos (by rw [prAll_len, ← hN]; omega)
        rw [prAll_len, ← hN] at e6 l1
        simp only [Value.slice.injEq, true_and] at e6
        obtain ⟨rfl, rfl⟩ := e6
        have HC : Hid (∀ i, i < N → ∀ wx, Below wr.heap.size wr wx → ∃ x y : Nat, nthR (prAll b) i = [(x : Int), (y : Int)] ∧ wx.cell? ⟨gb, go + i, none⟩ = some (.slice (GA i) 2 (GC i)) ∧ RowAt wx (.slice (GA i) 2 (GC i)) [(x : Int), (y : Int)]) := fun i hi wx hb => by
          have h := hc i (by rw [prAll_len, ← hN]; exact hi)
          obtain ⟨x, y, e⟩ := pr_row hn i (by rw [← hN]; exact hi)
          rw [e] at h
          exact ⟨x, y, e, cell_keep hb h.1, h.2.keep hb⟩
        have HNN := Lib.hid hN
        have h03 : w.heap.size < wr.heap.size := HBX.out.lt
        clear hog e5 hN HOG hc
        go_wp2_with fail
        refine (l1Empty_any N _ (by omega)).mono ?_
        rintro e w5 ⟨n5, a6, c6, rfl, ho5, hb5⟩
        obtain rfl : n5 = N := by
          obtain ⟨a3, c3, e3⟩ := ho5.grid.slice
          simp only [Value.slice.injEq, List.length_replicate] at e3
          simpa using e3.2.1
        rw [none_start n5 (symA n5 (kneR b))] at ho5
        have HM := Lib.hid (Mk2.start (w := w) (w3 := wr) (HBX.out.keep hb5) ho5 (HBE.out.trans (hb5.mono (Nat.le_of_lt h03))) hb5)
        have h35 := hb5.size
        clear ho5 hb5
        go_wp2_with fail
        go_loopw [8] (fun i wx => ∃ v : Nat, v ≤ n5 ∧ i = .int .i64 v ∧ Mk2 w wr w5.heap.size n5 (stepA (symA n5 (kneR b)) v 0) wx) (fun i _ => n5 - (intOf i).toNat)
        case atStart => exact ⟨0, Nat.zero_le _, rfl, HM.out⟩
        case round =>
          rename World => w6
          obtain ⟨v, hv, rfl, hmid⟩ := hrel
          obtain ⟨ag, cg, hbt, hog⟩ := hmid.out
          have kg := hbt.box.1
          have HGG := Lib.hid hog.grid
          have HM6 := Lib.hid hmid
          clear hmid hbt hog
          go_wp2_with fail
          refine (l1Size_any _ _ _ HGG.out).mono ?_
          rintro e w7 ⟨rfl, hb7⟩
          rw [adjL_len]
          have HM7 := Lib.hid (HM6.out.keep hb7)
          clear hb7 kg HM6 HGG
          by_cases hlt : v < n5
          · go_wp2_with fail
            go_loopw [9] (fun i wx => ∃ u : Nat, u ≤ v ∧ i = .int .i64 u ∧ Mk2 w wr w5.heap.size n5 (stepA (symA n5 (kneR b)) v u) wx) (fun i _ => v - (intOf i).toNat)
            case atStart => exact ⟨0, Nat.zero_le _, rfl, HM7.out⟩
            case round =>
              rename World => w8
              obtain ⟨u, hu, rfl, hmid⟩ := hrel
              have HM8 := Lib.hid hmid
              clear hmid
              by_cases hul : u < v
              · obtain ⟨xu, yu, eu, cku, hru⟩ := HC.out u (by omega) w8 HM8.out.prs
                obtain ⟨xv, yv, ev, ckv, hrv⟩ := HC.out v hlt w8 HM8.out.prs
                have hul' : (u : Int) < (n5 : Int) := by omega
                have hlt' : (v : Int) < (n5 : Int) := by omega
                have hkr : kneR b u v = (!hasB [(xu : Int), (yu : Int)] (xv : Int) && !hasB [(xu : Int), (yu : Int)] (yv : Int)) := by unfold kneR; rw [eu, ev]; rfl
                obtain ⟨bv, ov, cv, e9, m1, m2, hcv⟩ := hrv.pos (by simp)
                simp only [Value.slice.injEq, List.length_cons, List.length_nil, true_and] at e9
                obtain ⟨e9a, e9b⟩ := e9
                rw [e9a, e9b] at ckv
                have c0 : w8.cell? ⟨bv, ov, none⟩ = some (.int .i64 (xv : Int)) := hcv 0 (by simp)
                have c1 : w8.cell? ⟨bv, ov + 1, none⟩ = some (.int .i64 (yv : Int)) := hcv 1 (by simp)
                have HRU := Lib.hid hru
                have hcA : ∀ q, Calls Try.prog 72 #[.slice (GA u) 2 (GC u), .int .i64 (xv : Int)] (w8.drewN q) fun e w' => e = .returned (.bool (hasB [(xu : Int), (yu : Int)] (xv : Int))) ∧ w' = w8.drewN q := fun q => (l1Has_any _ _ _ _ (HRU.out.drewN q)).mono fun _ _ ⟨h1, h2⟩ => ⟨h1, h2.symm⟩
                have hcB : ∀ q, Calls Try.prog 72 #[.slice (GA u) 2 (GC u), .int .i64 (yv : Int)] (w8.drewN q) fun e w' => e = .returned (.bool (hasB [(xu : Int), (yu : Int)] (yv : Int))) ∧ w' = w8.drewN q := fun q => (l1Has_any _ _ _ _ (HRU.out.drewN q)).mono fun _ _ ⟨h1, h2⟩ => ⟨h1, h2.symm⟩
                have e1 := symA_lt (kneR b) hul hlt
                have e2 := symA_gt (kneR b) hul hlt
                rw [hkr] at e1 e2
                clear hru hrv hcv eu ev e9a e9b hkr m1 m2
                by_cases hA0 : hasB [(xu : Int), (yu : Int)] (xv : Int) = true
                · rw [hA0] at hcA e1 e2
                  have HS : Hid (∀ i j, stepA (symA n5 (kneR b)) v u i j = stepA (symA n5 (kneR b)) v (u + 1) i j) := fun i j => (stepA_skip (by rw [e1]; rfl) (by rw [e2]; rfl) i j).symm
                  have HCA := Lib.hid hcA
                  clear e1 e2 hA0 hcA hcB
                  go_wp2_with fail
                  go_quiet ((go_at_call 72; with_reducible exact Calls.quiet_of_same (HCA.out _)))
                  go_wp2
                  go_roundw
                  case rel => exact ⟨u + 1, by omega, by go_num, (HM8.out.keep (((Drawn.refl _).more _).below _)).congr HS.out⟩
                  case measure => simp [intOf]; omega
                · have hA1 : hasB [(xu : Int), (yu : Int)] (xv : Int) = false := by simpa using hA0
                  rw [hA1] at hcA e1 e2
                  by_cases hB0 : hasB [(xu : Int), (yu : Int)] (yv : Int) = true
                  · rw [hB0] at hcB e1 e2
                    have HS : Hid (∀ i j, stepA (symA n5 (kneR b)) v u i j = stepA (symA n5 (kneR b)) v (u + 1) i j) := fun i j => (stepA_skip (by rw [e1]; rfl) (by rw [e2]; rfl) i j).symm
                    have HCA := Lib.hid hcA
                    have HCB := Lib.hid hcB
                    clear e1 e2 hA0 hA1 hB0 hcA hcB
                    go_wp2_with fail
                    go_quiet ((go_at_call 72; first | with_reducible exact Calls.quiet_of_same (HCA.out _) | with_reducible exact Calls.quiet_of_same (HCB.out _)))
                    go_wp2
                    go_roundw
                    case rel => exact ⟨u + 1, by omega, by go_num, (HM8.out.keep (((Drawn.refl _).more _).below _)).congr HS.out⟩
                    case measure => simp [intOf]; omega
                  · have hB1 : hasB [(xu : Int), (yu : Int)] (yv : Int) = false := by simpa using hB0
                    rw [hB1] at hcB e1 e2
                    have HS : Hid (∀ i j, linkA (stepA (symA n5 (kneR b)) v u) u v i j = stepA (symA n5 (kneR b)) v (u + 1) i j) := fun i j => (stepA_link (by rw [e1]; rfl) (by rw [e2]; rfl) i j).symm
                    have HCA := Lib.hid hcA
                    have HCB := Lib.hid hcB
                    clear e1 e2 hA0 hA1 hB0 hB1 hcA hcB
                    go_wp2_with fail
                    go_quiet ((go_at_call 72; first | with_reducible exact Calls.quiet_of_same (HCA.out _) | with_reducible exact Calls.quiet_of_same (HCB.out _)))
                    have HM9 := Lib.hid (HM8.out.keep (((Drawn.refl _).more nq).below _))
                    clear c0 c1 cku ckv HM8
                    generalize w8.drewN nq = w9 at HM9 ⊢
                    obtain ⟨a10, cap10, kb10, hlk⟩ := HM9.out.link h03 h35 (by omega) u v (by omega) hlt (by omega)
                    have HLK := Lib.hid hlk
                    clear hlk
                    go_wp2_with fail
                    refine HLK.out.mono ?_
                    rintro e w11 ⟨rfl, kb11, kf11, hm11⟩
                    have HM11 := Lib.hid (hm11.congr HS.out)
                    clear hm11
                    go_wp2
                    go_roundw
                    case rel => exact ⟨u + 1, by omega, by go_num, HM11.out⟩
                    case measure => simp [intOf]; omega
              · obtain rfl : u = v := by omega
                go_wp2
                go_roundw
                case rel => exact ⟨u + 1, by omega, by go_num, HM8.out.congr (fun i j => stepA_next (symA_self n5 _) u i j)⟩
                case measure => simp [intOf]; omega
          · obtain rfl : v = n5 := by omega
            obtain ⟨a8, cap8, kb8, k08, f08, q08, hp8⟩ := HM7.out.done h03
            have HP := Lib.hid hp8
            have HQ := Lib.hid q08
            clear hp8 q08
            go_wp2
            refine bodyPost_ret (v := .tuple #[.agg #[.slice a8 v cap8], .bool true]) (by simp [results, Try.results35, go_sem, HQ.out]) rfl ?_
            rw [HG.out, HI.out, ← HNN.out, ← step_end]
            exact HP.out
  · have hin' : inB n 4 6 = false := by simpa using hin
    have HI := Lib.hid hin'
    clear hin hin' hi hz0 hz1 hz2
    go_enter Try.func35, Try.ntmps35
    go_wp2_with fail
    refine (l1In_any _ _ _ _).mono ?_
    rintro e w' ⟨rfl, rfl⟩
    rw [HI.out]
    go_wp2
    refine bodyPost_ret (v := .tuple #[.agg #[.slice none 0 0], .bool false]) (by simp [results, Try.results35, go_sem]) rfl ?_
    rw [HI.out, genL_no]
    exact GaveGB.no HB0.out

end Go.Proofs.Ytojbaepcflkgeaa
