/- The texts EG5, K4, LF2, joined. -/
import Derived.Test.YtmfolclpddoplaaQEG3
import Derived.Test.YtmfolclpddoplaaQER14
import Derived.Test.YtmfolclpddoplaaQA1
import Derived.Test.YtmfolclpddoplaaQEC2
import Derived.Test.YtmfolclpddoplaaQER12
import Derived.Test.YtmfolclpddoplaaQER9

/- Walks: ByDegree and ByFill of the model. -/
namespace Go.Proofs.Ytmfolclpddoplaa
open Go.RowKit

theorem left_web {A : Nat → Nat → Bool} {ys : List Int} {v : Nat} (hv : hasB ys (v : Int) = false) : pm (leftB (fillX A ys) ys v) = pm (webX A ys v) := pm_congr (fun u _ => by
  unfold webX leftB
  rw [hv]; simp)
theorem specC_deg (A : Nat → Nat → Bool) {ys : List Int} {v : Nat} (hv : hasB ys (v : Int) = false) : specC A false ys v = degC A ys v := by
  show szB (leftB (fillX A ys) ys v) = szB (webX A ys v)
  unfold szB
  rw [left_web hv]
theorem specC_lack (A : Nat → Nat → Bool) {ys : List Int} {v : Nat} (hv : hasB ys (v : Int) = false) : specC A true ys v = lackC A ys v := by
  show missN (fillX A ys) (listM (pm (leftB (fillX A ys) ys v))) = _
  unfold lackC
  rw [miss_web, left_web hv]
theorem grL_congr {c c' : List Int → Nat → Nat} {n : Nat} (h : ∀ (ys : List Int) (v : Nat), hasB ys (v : Int) = false → c ys v = c' ys v) (k : Nat) : grL c n k = grL c' n k := by
  induction k with
  | zero => rfl
  | succ k ih =>
    rw [grL, grL, ih]
    congr 1
    congr 1
    exact bstTo_congr (fun _ _ => rfl) (fun v _ hv => h _ _ hv)
theorem spec_deg (A : Nat → Nat → Bool) (n : Nat) : grL (specC A false) n n = grL (degC A) n n := grL_congr (fun _ _ h => specC_deg A h) n
theorem spec_lack (A : Nat → Nat → Bool) (n : Nat) : grL (specC A true) n n = grL (lackC A) n n := grL_congr (fun _ _ h => specC_lack A h) n

set_option maxHeartbeats 1600000 in
theorem specByDegree_any (v : Value) (L : List (List Int)) (w : World) (h : GridAt w v L) : Calls Try.prog 23 #[.agg #[v]] w (GaveRow w (byDegL L)) := by
  obtain ⟨a0, c0, rfl⟩ := h.slice
  have HGK : Hid (∀ W, Below w.heap.size w W → GridAt W (.slice a0 L.length c0) L) := fun W hb => h.keep hb
  have HB0 : Hid (Below w.heap.size w (w.alloc (.cells #[.slice a0 L.length c0] 29))) := (Below.refl _ _).alloc (Nat.le_refl _) _
  have HX0 : Hid (BoxAt (w.alloc (.cells #[.slice a0 L.length c0] 29)) w.heap.size (.slice a0 L.length c0)) := BoxAt.new _ _ _
  clear h
  go_enter Try.func23, Try.ntmps23
  go_wp2_with fail
  refine (specGraphOk_any _ _ _ (HGK.out _ HB0.out)).mono ?_
  rintro e w1 ⟨rfl, hb1⟩
  have HB1 : Hid (Below w.heap.size w w1) := HB0.out.trans (hb1.mono HB0.out.size)
  have k1 := (HX0.out.keep hb1).1
  clear hb1
  by_cases hG : GraphP L
  · have HF : Hid (byDegL L = grL (degC (adjB L)) L.length L.length) := if_pos hG
    have HC := Lib.hid (l7Greedy_any _ L false w1 (HGK.out _ HB1.out) hG)
    rw [decide_eq_true hG]
    clear hG
    go_wp2_with fail
    refine HC.out.mono ?_
    rintro e w2 ⟨m, a, c, rfl, ho, hb2⟩
    rw [spec_deg] at ho
    have HO : Hid (OwnRow 2 w2 w.heap.size (.slice a m c) (byDegL L)) := by rw [HF.out]; exact ho.mono HB1.out.size
    have HB2 : Hid (Below w.heap.size w w2) := HB1.out.trans (hb2.mono HB1.out.size)
    clear ho hb2 k1 HC
    go_wp2
    go_ret
    exact ⟨_, _, _, rfl, HO.out, HB2.out⟩
  · have HF : Hid (byDegL L = []) := if_neg hG
    rw [decide_eq_false hG]
    clear hG
    go_wp2
    go_ret
    exact ⟨0, _, 0, rfl, by rw [HF.out]; exact own_none2 w1 _ HB1.out.size, HB1.out.alloc HB1.out.size _⟩

set_option maxHeartbeats 1600000 in
theorem specByFill_any (v : Value) (L : List (List Int)) (w : World) (h : GridAt w v L) : Calls Try.prog 24 #[.agg #[v]] w (GaveRow w (byFillL L)) := by
  obtain ⟨a0, c0, rfl⟩ := h.slice
  have HGK : Hid (∀ W, Below w.heap.size w W → GridAt W (.slice a0 L.length c0) L) := fun W hb => h.keep hb
  have HB0 : Hid (Below w.heap.size w (w.alloc (.cells #[.slice a0 L.length c0] 29))) := (Below.refl _ _).alloc (Nat.le_refl _) _
  have HX0 : Hid (BoxAt (w.alloc (.cells #[.slice a0 L.length c0] 29)) w.heap.size (.slice a0 L.length c0)) := BoxAt.new _ _ _
  clear h
  go_enter Try.func24, Try.ntmps24
  go_wp2_with fail
  refine (specGraphOk_any _ _ _ (HGK.out _ HB0.out)).mono ?_
  rintro e w1 ⟨rfl, hb1⟩
  have HB1 : Hid (Below w.heap.size w w1) := HB0.out.trans (hb1.mono HB0.out.size)
  have k1 := (HX0.out.keep hb1).1
  clear hb1
  by_cases hG : GraphP L
  · have HF : Hid (byFillL L = grL (lackC (adjB L)) L.length L.length) := if_pos hG
    have HC := Lib.hid (l7Greedy_any _ L true w1 (HGK.out _ HB1.out) hG)
    rw [decide_eq_true hG]
    clear hG
    go_wp2_with fail
    refine HC.out.mono ?_
    rintro e w2 ⟨m, a, c, rfl, ho, hb2⟩
    rw [spec_lack] at ho
    have HO : Hid (OwnRow 2 w2 w.heap.size (.slice a m c) (byFillL L)) := by rw [HF.out]; exact ho.mono HB1.out.size
    have HB2 : Hid (Below w.heap.size w w2) := HB1.out.trans (hb2.mono HB1.out.size)
    clear ho hb2 k1 HC
    go_wp2
    go_ret
    exact ⟨_, _, _, rfl, HO.out, HB2.out⟩
  · have HF : Hid (byFillL L = []) := if_neg hG
    rw [decide_eq_false hG]
    clear hG
    go_wp2
    go_ret
    exact ⟨0, _, 0, rfl, by rw [HF.out]; exact own_none2 w1 _ HB1.out.size, HB1.out.alloc HB1.out.size _⟩

end Go.Proofs.Ytmfolclpddoplaa

/- Walks: the laws' tests of lists, written by program out of A4's (the same code under other names). -/
namespace Go.Proofs.Ytmfolclpddoplaa
open Go.RowKit

set_option maxHeartbeats 400000 in
theorem likeInts_any (v v' : Value) (xs ys : List Int) (w : World) (h : RowAt w v xs) (h' : RowAt w v' ys) :
    Calls Try.prog 22 #[v, v'] w fun e w' => e = .returned (.bool (decide (xs = ys))) ∧ Drawn w w' := by
  have hl := h.len
  have hl' := h'.len
  unfold maxLen at hl hl'
  by_cases hn : xs.length = ys.length
  · have hne : ((xs.length : Int) != (ys.length : Int)) = false := by rw [hn]; simp
    by_cases h0 : xs.length = 0
    · have hd : decide (xs = ys) = true := by rw [decide_eq_true_iff, List.length_eq_zero_iff.1 h0, List.length_eq_zero_iff.1 (by omega : ys.length = 0)]
      rw [hd]
      obtain ⟨a, c, rfl⟩ := h.zero h0
      obtain ⟨a', c', rfl⟩ := h'.zero (by omega)
      clear hn hne h h' h0 hl hl' hd
      go_enter Try.func22, Try.ntmps22
      go_wp2
      refine wp_loop_rounds 1 ?_
      rw [rounds_succ]
      go_wp2
      go_ret
      exact ⟨rfl, Drawn.refl _⟩
    · obtain ⟨b, o, c, rfl, l1, l2, hc⟩ := h.pos (by omega)
      obtain ⟨b', o', c', rfl, l1', l2', hc'⟩ := h'.pos (by omega)
      have HC := Lib.hid hc
      have HC' := Lib.hid hc'
      have HN := Lib.hid hn
      have hle : xs.length ≤ ys.length := by omega
      clear hc hc' hn h0
      go_enter Try.func22, Try.ntmps22
      go_wp2
      go_loopw [5] (fun i wr => ∃ k : Nat, k ≤ xs.length ∧ i = .int .i64 k ∧ (∀ j, j < k → nth xs j = nth ys j) ∧ Drawn w wr) (fun i _ => xs.length - (intOf i).toNat)
      case atStart => exact ⟨0, Nat.zero_le _, rfl, (fun j hj => absurd hj (by omega)), Drawn.refl _⟩
      case round =>
        obtain ⟨k, hk, rfl, he, hd⟩ := hrel
        have HE := Lib.hid he
        clear he
        by_cases hlt : k < xs.length
        · have hlt' : k < ys.length := by omega
          have hck := cell_drawn hd (HC.out k hlt)
          have hck' := cell_drawn hd (HC'.out k hlt')
          by_cases hx : nth xs k = nth ys k
          · have hxb : (nth xs k != nth ys k) = false := by rw [hx]; simp
            have HX := Lib.hid hx
            clear hx
            go_wp2
            go_quiet (fail)
            go_wp2
            go_roundw
            case rel => exact ⟨k + 1, by omega, by go_num, (fun j hj => by rcases Nat.lt_succ_iff_lt_or_eq.1 hj with h | h; exact HE.out j h; rw [h]; exact HX.out), hd.more _⟩
            case measure => simp [intOf]; omega
          · have hxb : (nth xs k != nth ys k) = true := by rw [bne_iff_ne]; exact hx
            have HX := Lib.hid hx
            clear hx
            go_wp2
            go_quiet (fail)
            go_wp2
            go_ret
            exact ⟨ret_bool (by symm; rw [decide_eq_false_iff_not]; intro e; exact HX.out (by rw [e])), hd.more _⟩
        · obtain rfl : k = xs.length := by omega
          go_wp2
          go_ret
          exact ⟨ret_bool (by symm; rw [decide_eq_true_iff]; exact nth_ext HN.out HE.out), hd⟩
  · have hne : ((xs.length : Int) != (ys.length : Int)) = true := by rw [bne_iff_ne]; omega
    have hd : decide (xs = ys) = false := by simp; intro e; exact hn (by rw [e])
    rw [hd]
    obtain ⟨a, c, rfl⟩ := h.slice
    obtain ⟨a', c', rfl⟩ := h'.slice
    go_enter Try.func22, Try.ntmps22
    go_wp2
    go_ret
    exact ⟨rfl, Drawn.refl _⟩

set_option maxHeartbeats 400000 in
theorem w5Lists_any (v v' : Value) (xs ys : List (List Int)) (w : World) (h : GridAt w v xs) (h' : GridAt w v' ys) :
    Calls Try.prog 31 #[v, v'] w fun e w' => e = .returned (.bool (decide (xs = ys))) ∧ Drawn w w' := by
  have hl := h.len
  have hl' := h'.len
  unfold maxLen at hl hl'
  by_cases hn : xs.length = ys.length
  · have hne : ((xs.length : Int) != (ys.length : Int)) = false := by rw [hn]; simp
    by_cases h0 : xs.length = 0
    · have hd : decide (xs = ys) = true := by rw [decide_eq_true_iff, List.length_eq_zero_iff.1 h0, List.length_eq_zero_iff.1 (by omega : ys.length = 0)]
      rw [hd]
      obtain ⟨a, c, rfl⟩ := h.zero h0
      obtain ⟨a', c', rfl⟩ := h'.zero (by omega)
      clear hn hne h h' h0 hl hl' hd
      go_enter Try.func31, Try.ntmps31
      go_wp2
      refine wp_loop_rounds 1 ?_
      rw [rounds_succ]
      go_wp2
      go_ret
      exact ⟨rfl, Drawn.refl _⟩
    · obtain ⟨b, o, c, A, C, rfl, l1, l2, hc⟩ := h.pos (by omega)
      obtain ⟨b', o', c', A', C', rfl, l1', l2', hc'⟩ := h'.pos (by omega)
      have HC := Lib.hid hc
      have HC' := Lib.hid hc'
      have HN := Lib.hid hn
      have hle : xs.length ≤ ys.length := by omega
      clear hc hc' hn h0
      go_enter Try.func31, Try.ntmps31
      go_wp2
      go_loopw [5] (fun i wr => ∃ k : Nat, k ≤ xs.length ∧ i = .int .i64 k ∧ (∀ j, j < k → nthR xs j = nthR ys j) ∧ Drawn w wr) (fun i _ => xs.length - (intOf i).toNat)
      case atStart => exact ⟨0, Nat.zero_le _, rfl, (fun j hj => absurd hj (by omega)), Drawn.refl _⟩
      case round =>
        obtain ⟨k, hk, rfl, he, hd⟩ := hrel
        have HE := Lib.hid he
        clear he
        by_cases hlt : k < xs.length
        · have hlt' : k < ys.length := by omega
          have hck := cell_drawn hd (HC.out k hlt).1
          have hck' := cell_drawn hd (HC'.out k hlt').1
          have hr := Lib.hid ((HC.out k hlt).2.drawn hd)
          have hr' := Lib.hid ((HC'.out k hlt').2.drawn hd)
          by_cases hx : nthR xs k = nthR ys k
          · have hxb : decide (nthR xs k = nthR ys k) = true := by rw [hx]; simp
            have hcall : ∀ n, Calls Try.prog 22 #[.slice (A k) (nthR xs k).length (C k), .slice (A' k) (nthR ys k).length (C' k)] (wr.drewN n) fun e w2 => e = .returned (.bool true) ∧ ∃ m, w2 = (wr.drewN n).drewN m :=
              fun n => (likeInts_any _ _ _ _ _ (hr.out.drewN n) (hr'.out.drewN n)).mono (by rintro e w2 ⟨rfl, hd2⟩; exact ⟨by rw [hxb], hd2⟩)
            have HCall := Lib.hid hcall
            clear hcall hxb
            have HX := Lib.hid hx
            clear hx
            go_wp2
            go_quiet ((go_at_call 22; exact Calls.quiet_of (HCall.out _)))
            go_wp2
            go_roundw
            case rel => exact ⟨k + 1, by omega, by go_num, (fun j hj => by rcases Nat.lt_succ_iff_lt_or_eq.1 hj with h | h; exact HE.out j h; rw [h]; exact HX.out), hd.more _⟩
            case measure => simp [intOf]; omega
          · have hxb : decide (nthR xs k = nthR ys k) = false := by rw [decide_eq_false_iff_not]; exact hx
            have hcall : ∀ n, Calls Try.prog 22 #[.slice (A k) (nthR xs k).length (C k), .slice (A' k) (nthR ys k).length (C' k)] (wr.drewN n) fun e w2 => e = .returned (.bool false) ∧ ∃ m, w2 = (wr.drewN n).drewN m :=
              fun n => (likeInts_any _ _ _ _ _ (hr.out.drewN n) (hr'.out.drewN n)).mono (by rintro e w2 ⟨rfl, hd2⟩; exact ⟨by rw [hxb], hd2⟩)
            have HCall := Lib.hid hcall
            clear hcall hxb
            have HX := Lib.hid hx
            clear hx
            go_wp2
            go_quiet ((go_at_call 22; exact Calls.quiet_of (HCall.out _)))
            go_wp2
            go_ret
            exact ⟨ret_bool (by symm; rw [decide_eq_false_iff_not]; intro e; exact HX.out (by rw [e])), hd.more _⟩
        · obtain rfl : k = xs.length := by omega
          go_wp2
          go_ret
          exact ⟨ret_bool (by symm; rw [decide_eq_true_iff]; exact nthR_ext HN.out HE.out), hd⟩
  · have hne : ((xs.length : Int) != (ys.length : Int)) = true := by rw [bne_iff_ne]; omega
    have hd : decide (xs = ys) = false := by simp; intro e; exact hn (by rw [e])
    rw [hd]
    obtain ⟨a, c, rfl⟩ := h.slice
    obtain ⟨a', c', rfl⟩ := h'.slice
    go_enter Try.func31, Try.ntmps31
    go_wp2
    go_ret
    exact ⟨rfl, Drawn.refl _⟩


end Go.Proofs.Ytmfolclpddoplaa

/- The walk of FnOrders. -/
namespace Go.Proofs.Ytmfolclpddoplaa
open Go.RowKit

/-- All that the law asks of orders. -/
theorem order_facts {L : List (List Int)} {xs : List Int} (hG : GraphP L) (hO : OrdP xs L.length) :
    orderB L (byDegL L) = true ∧ orderB L (byFillL L) = true ∧ dgnI L ≤ widthI L xs ∧ dgnI L ≤ widthI L (byDegL L) ∧ dgnI L ≤ widthI L (byFillL L) ∧
      (laterL L xs).length = L.length ∧ (∀ v, v < L.length → (nthR (laterL L xs) v).length = szB (laterA (adjB L) xs v)) ∧ ((sumTo (fun v => szB (laterA (adjB L) xs v)) L.length : Nat) : Int) = manyN L + moreI L xs := by
  have hA := adjB_rel hG
  have hz := hG.1
  have key : ∀ ys, OrdP ys L.length → orderB L ys = true ∧ dgnI L ≤ widthI L ys := fun ys hy => by
    have ho : orderB L ys = true := by unfold orderB; rw [decide_eq_true hG, decide_eq_true hy]; rfl
    refine ⟨ho, ?_⟩
    unfold dgnI widthI
    rw [if_pos hG, if_pos ho]
    have := width_deg hA hy
    omega
  have e1 : byDegL L = grL (degC (adjB L)) L.length L.length := if_pos hG
  have e2 : byFillL L = grL (lackC (adjB L)) L.length L.length := if_pos hG
  have k1 := key (byDegL L) (by rw [e1]; exact grL_ord _ _)
  have k2 := key (byFillL L) (by rw [e2]; exact grL_ord _ _)
  have k3 := key xs hO
  have e3 : laterL L xs = adjL L.length (laterA (adjB L) xs) := if_pos k3.1
  refine ⟨k1.1, k2.1, k3.2, k1.2, k2.2, by rw [e3, adjL_len], fun v hv => by rw [e3, adjL_nth _ hv, listM_szB], ?_⟩
  rw [later_many hA hz hO]
  unfold moreI
  rw [if_pos k3.1]
  omega

set_option maxHeartbeats 8000000 in
set_option maxRecDepth 100000 in
theorem lawOrders (a0 : Option Addr) (n0 c0 : Nat) (w : World) (hb : n0 ≤ 4096 → BytesAt w w.heap.size (.slice a0 n0 c0) n0) :
    Calls Try.prog 3 #[.slice a0 n0 c0] w fun e w' => e = .returned (.bool true) ∧ Below w.heap.size w w' := by
  have HBY := Lib.hid hb
  clear hb
  go_enter Try.func3, Try.ntmps3
  go_wp2_with fail
  refine (bigF_any _ _ _ _).mono ?_
  rintro e w' ⟨rfl, rfl⟩
  by_cases hbig : (4096 : Int) < (n0 : Int)
  · rw [decide_eq_true hbig]
    go_wp2
    go_ret
    exact ⟨rfl, Below.refl _ _⟩
  rw [decide_eq_false hbig]
  have hby0 := HBY.out (by omega)
  have HB0 := Lib.hid hby0
  clear hby0 HBY hbig
  go_wp2_with fail
  refine (roll_any _ n0 807 w HB0.out).mono ?_
  rintro e w1 ⟨rfl, hd1, hb1⟩
  obtain ⟨d, hdd⟩ : ∃ d, d = w.heap.size := ⟨_, rfl⟩
  rw [← hdd] at hd1 HB0 ⊢
  have HDD := Lib.hid hdd
  have HD1 := Lib.hid hd1
  have hdl1 : d < w1.heap.size := hd1.lt
  have HY1 : Hid (BytesAt w1 d (.slice a0 n0 c0) n0) := by have := HB0.out.keepB hb1 (by omega); exact this
  have HW1 : Hid (Below d w w1) := by rw [hdd]; exact hb1
  clear hd1 hb1 hdd
  go_wp2_with fail
  refine (w5Graph_any d n0 8 _ w1 HD1.out HY1.out (by omega) (by omega)).mono ?_
  rintro e w2 ⟨L, m2, a2, c2, rfl, hG, hL8, ho2, hd2, ht2⟩
  obtain rfl : m2 = L.length := by
    obtain ⟨a3, c3, e3⟩ := ho2.grid.slice
    simp only [Value.slice.injEq] at e3
    exact e3.2.1
  have hz := hG.1
  have HG := Lib.hid hG
  have hz2 : w1.heap.size ≤ w2.heap.size := ht2.size
  have hbx : Below w2.heap.size w2 (w2.alloc (.cells #[.slice a2 L.length c2] 29)) := (Below.refl _ _).alloc (Nat.le_refl _) _
  have HX2 : Hid (BoxAt (w2.alloc (.cells #[.slice a2 L.length c2] 29)) w2.heap.size (.slice a2 L.length c2)) := BoxAt.new _ _ _
  have HOG2 : Hid (OwnGrid 2 31 (w2.alloc (.cells #[.slice a2 L.length c2] 29)) w1.heap.size (.slice a2 L.length c2) L) := ho2.keep hbx
  have HD2 := Lib.hid (hd2.keep hbx)
  have HT2 := Lib.hid (ht2.under hbx hz2)
  have kb2 := HX2.out.1
  clear ho2 hd2 ht2 hbx hG
  go_wp2_with fail
  generalize (w2.alloc (.cells #[.slice a2 L.length c2] 29)) = w3 at HX2 HOG2 HD2 HT2 kb2 ⊢
  refine (w5Order_any d n0 L.length _ w3 HD2.out (HT2.out.bytes HY1.out (Nat.le_of_lt hdl1)) hz.2).mono ?_
  rintro e w4 ⟨xs, ax, kx, cx, rfl, hpx, hox, hd4, ht4⟩
  obtain rfl : kx = L.length := by
    obtain ⟨a3, c3, e3⟩ := hox.row.slice
    simp only [Value.slice.injEq] at e3
    rw [e3.2.1]; exact hpx.1
  have HX4 : Hid (BoxAt w4 w2.heap.size (.slice a2 L.length c2)) := HX2.out.touched ht4 (by omega) HX2.out.lt
  have HGR4 : Hid (GridAt w4 (.slice a2 L.length c2) L) := (HOG2.out.touched ht4 (by omega)).grid
  have HR4 := Lib.hid hox.row
  have HT4 := Lib.hid (HT2.out.trans ht4)
  have hdl3 : d < w3.heap.size := HD2.out.lt
  have hdl4 : d < w4.heap.size := by have := ht4.size; omega
  have HOP : Hid (OrdP xs L.length) := hpx.ord
  obtain ⟨f1, f2, f3, f4, f5, f6, f7, f8⟩ := order_facts HG.out HOP.out
  have F1 := Lib.hid f1
  have F2 := Lib.hid f2
  have F3 := Lib.hid f3
  have F4 := Lib.hid f4
  have F5 := Lib.hid f5
  have F6 := Lib.hid f6
  have F7 := Lib.hid f7
  have F8 := Lib.hid f8
  have HFB : Hid (∀ W, Below w4.heap.size w4 W → Below w.heap.size w W) := fun W hb => by
    have h1 := (HT4.out.below (Nat.le_of_lt hdl1))
    have h2 : Below d w w4 := HW1.out.trans h1
    rw [← HDD.out]
    exact h2.trans (hb.mono (Nat.le_of_lt hdl4))
  have HKG : Hid (∀ W, Below w4.heap.size w4 W → W.cell? ⟨w2.heap.size, 0, none⟩ = some (.slice a2 L.length c2)) := fun W hb => (HX4.out.keep hb).1
  have HGG : Hid (∀ W, Below w4.heap.size w4 W → GridAt W (.slice a2 L.length c2) L) := fun W hb => HGR4.out.keep hb
  have HGX : Hid (∀ W, Below w4.heap.size w4 W → RowAt W (.slice ax L.length cx) xs) := fun W hb => HR4.out.keep hb
  have kg4 := HX4.out.1
  clear hpx hox hd4 ht4 kb2 HX2 HOG2 HD2 HT2 f1 f2 f3 f4 f5 f6 f7 f8
  go_wp2_with fail
  refine (implDegeneracyOf_any _ L _ HGR4.out).mono ?_
  rintro e w5 ⟨rfl, hb5⟩
  obtain ⟨x0, hx0⟩ : ∃ x0, x0 = dgnI L := ⟨_, rfl⟩
  rw [← hx0]
  have HX0 := Lib.hid hx0
  have H5 : Hid (Below w4.heap.size w4 w5) := hb5
  have k5 := HKG.out _ hb5
  clear hb5 kg4 hx0
  go_wp2_with fail
  refine (implByDegree_any _ L _ (HGG.out _ H5.out)).mono ?_
  rintro e w6 ⟨m6, a6, c6, rfl, ho6, hb6⟩
  have H6 : Hid (Below w4.heap.size w4 w6) := H5.out.trans (hb6.mono H5.out.size)
  have HRA : Hid (∀ W, Below w6.heap.size w6 W → RowAt W (.slice a6 m6 c6) (byDegL L)) := fun W hb => ho6.row.keep hb
  have k6 := HKG.out _ H6.out
  clear ho6 hb6 k5
  go_wp2_with fail
  refine (implByFill_any _ L _ (HGG.out _ H6.out)).mono ?_
  rintro e w7 ⟨m7, a7, c7, rfl, ho7, hb7⟩
  have H7 : Hid (Below w4.heap.size w4 w7) := H6.out.trans (hb7.mono H6.out.size)
  have HRA7 : Hid (∀ W, Below w7.heap.size w7 W → RowAt W (.slice a6 m6 c6) (byDegL L)) := fun W hb => HRA.out W (hb7.trans (hb.mono hb7.size))
  have HRB7 : Hid (∀ W, Below w7.heap.size w7 W → RowAt W (.slice a7 m7 c7) (byFillL L)) := fun W hb => ho7.row.keep hb
  have H47 : Hid (∀ W, Below w7.heap.size w7 W → Below w4.heap.size w4 W) := fun W hb => H7.out.trans (hb.mono H7.out.size)
  have k7 := HKG.out _ H7.out
  clear ho7 hb7 k6 HRA
  go_wp2_with fail
  refine (specDegeneracyOf_any _ L _ (HGG.out _ H7.out)).mono ?_
  rintro e w8 ⟨rfl, hb8⟩
  rw [← HX0.out]
  have q0 : (x0 == x0) = true := by simp
  have H8 : Hid (Below w7.heap.size w7 w8) := hb8
  have k8 := HKG.out _ (H47.out _ hb8)
  clear hb8 k7
  go_wp2_with fail
  refine (specOrderOk_any _ _ L (byDegL L) _ (HGG.out _ (H47.out _ H8.out)) (HRA7.out _ H8.out)).mono ?_
  rintro e w9 ⟨rfl, hb9⟩
  rw [F1.out]
  have H9 : Hid (Below w7.heap.size w7 w9) := H8.out.trans (hb9.mono H8.out.size)
  have k9 := HKG.out _ (H47.out _ H9.out)
  clear hb9 k8
  go_wp2_with fail
  refine (specOrderOk_any _ _ L (byFillL L) _ (HGG.out _ (H47.out _ H9.out)) (HRB7.out _ H9.out)).mono ?_
  rintro e w10 ⟨rfl, hb10⟩
  rw [F2.out]
  have H10 : Hid (Below w7.heap.size w7 w10) := H9.out.trans (hb10.mono H9.out.size)
  have k10 := HKG.out _ (H47.out _ H10.out)
  clear hb10 k9
  go_wp2_with fail
  refine (specByDegree_any _ L _ (HGG.out _ (H47.out _ H10.out))).mono ?_
  rintro e w11 ⟨m11, a11, c11, rfl, ho11, hb11⟩
  have H11 : Hid (Below w7.heap.size w7 w11) := H10.out.trans (hb11.mono H10.out.size)
  have HO11 := Lib.hid ho11.row
  have k11 := HKG.out _ (H47.out _ H11.out)
  clear ho11 hb11 k10
  go_wp2_with fail
  refine (likeInts_any _ _ (byDegL L) (byDegL L) _ (HRA7.out _ H11.out) HO11.out).mono ?_
  rintro e w12 ⟨rfl, hd12⟩
  rw [decide_eq_true rfl]
  have H12 : Hid (Below w7.heap.size w7 w12) := H11.out.trans (hd12.below _)
  have k12 := HKG.out _ (H47.out _ H12.out)
  clear hd12 k11 HO11
  go_wp2_with fail
  refine (specByFill_any _ L _ (HGG.out _ (H47.out _ H12.out))).mono ?_
  rintro e w13 ⟨m13, a13, c13, rfl, ho13, hb13⟩
  have H13 : Hid (Below w7.heap.size w7 w13) := H12.out.trans (hb13.mono H12.out.size)
  have HO13 := Lib.hid ho13.row
  have k13 := HKG.out _ (H47.out _ H13.out)
  clear ho13 hb13 k12
  go_wp2_with fail
  refine (likeInts_any _ _ (byFillL L) (byFillL L) _ (HRB7.out _ H13.out) HO13.out).mono ?_
  rintro e w14 ⟨rfl, hd14⟩
  rw [decide_eq_true rfl]
  have H14 : Hid (Below w7.heap.size w7 w14) := H13.out.trans (hd14.below _)
  have k14 := HKG.out _ (H47.out _ H14.out)
  clear hd14 k13 HO13
  go_wp2_with fail
  refine (implLaterOf_any _ _ L xs _ (HGG.out _ (H47.out _ H14.out)) (HGX.out _ (H47.out _ H14.out))).mono ?_
  rintro e w15 ⟨m15, a15, c15, rfl, ho15, hb15⟩
  obtain rfl : m15 = L.length := by
    obtain ⟨a3, c3, e3⟩ := ho15.grid.slice
    simp only [Value.slice.injEq] at e3
    rw [e3.2.1]; exact F6.out
  have H15 : Hid (Below w7.heap.size w7 w15) := H14.out.trans (hb15.mono H14.out.size)
  have HZL := Lib.hid ho15.grid
  have k15 := HKG.out _ (H47.out _ H15.out)
  obtain ⟨f, hf⟩ : ∃ f : Nat → Nat, f = fun v => szB (laterA (adjB L) xs v) := ⟨_, rfl⟩
  have HFL : Hid (∀ v, v < L.length → (nthR (laterL L xs) v).length = f v) := fun v hv => by rw [F7.out v hv, hf]
  have HF16 : Hid (∀ v, f v ≤ 16) := fun v => by rw [hf]; exact szB_le _
  have HFS : Hid (((sumTo f L.length : Nat) : Int) = manyN L + moreI L xs) := by rw [hf]; exact F8.out
  have HF256 : Hid (∀ k, k ≤ L.length → sumTo f k ≤ 256) := fun k hk => by
    have h1 := sumTo_leB (f := f) (n := k) (b := 16) (fun i _ => HF16.out i)
    have h2 : k * 16 ≤ 16 * 16 := Nat.mul_le_mul (by omega) (Nat.le_refl _)
    omega
  clear ho15 hb15 k14 hf
  go_wp2_with fail
  go_loopw [10, 11] (fun s i wr => ∃ k : Nat, k ≤ L.length ∧ i = .int .i64 k ∧ s = .int .i64 ((sumTo f k : Nat) : Int) ∧ Below w15.heap.size w15 wr) (fun _ i _ => L.length - (intOf i).toNat)
  case atStart => exact ⟨0, Nat.zero_le _, rfl, rfl, Below.refl _ _⟩
  case round =>
    obtain ⟨k, hk, rfl, rfl, hb⟩ := hrel
    have HB := Lib.hid hb
    have h256 := HF256.out k hk
    have HSN : Hid (sumTo f (k + 1) = sumTo f k + f k) := rfl
    obtain ⟨s, hs⟩ : ∃ s, s = sumTo f k := ⟨_, rfl⟩
    rw [← hs] at h256 HSN ⊢
    have HS := Lib.hid hs
    clear hs
    by_cases hlt : k < L.length
    · obtain ⟨bg, og, cg, A, C, eg, lg1, lg2, hcg⟩ := (HZL.out.keep hb).pos (by rw [F6.out]; omega)
      simp only [Value.slice.injEq] at eg
      obtain ⟨rfl, _, rfl⟩ := eg
      obtain ⟨q1, _⟩ := hcg k (by rw [F6.out]; exact hlt)
      rw [HFL.out k hlt] at q1
      have h16 := HF16.out k
      have hkI : (k : Int) < (L.length : Int) := by omega
      clear hb hcg lg1 lg2
      go_wp2
      go_roundw
      case rel => exact ⟨k + 1, by omega, by go_num, by rw [HSN.out]; go_num, HB.out⟩
      case measure => simp [intOf]; omega
    · obtain rfl : k = L.length := by omega
      have H7r : Hid (Below w7.heap.size w7 wr) := H15.out.trans (hb.mono H15.out.size)
      have HZ : Hid (∀ x : Later wr, Below w7.heap.size w7 x.at) := fun x => H7r.out.trans (x.bel.mono H7r.out.size)
      have kg := HKG.out _ (H47.out _ H7r.out)
      have m1 := many_le (L := L)
      have f3 := F3.out
      have f4 := F4.out
      have f5 := F5.out
      have hsum : (s : Int) = manyN L + moreI L xs := by rw [HS.out]; exact HFS.out
      rw [← HX0.out] at f3 f4 f5
      obtain ⟨x1, hx1⟩ : ∃ x1, x1 = widthI L xs := ⟨_, rfl⟩
      obtain ⟨x2, hx2⟩ : ∃ x2, x2 = widthI L (byDegL L) := ⟨_, rfl⟩
      obtain ⟨x3, hx3⟩ : ∃ x3, x3 = widthI L (byFillL L) := ⟨_, rfl⟩
      obtain ⟨y1, hy1⟩ : ∃ y1, y1 = manyN L := ⟨_, rfl⟩
      obtain ⟨y2, hy2⟩ : ∃ y2, y2 = moreI L xs := ⟨_, rfl⟩
      have hcA : Hid (∀ x : Later wr, Calls Try.prog 26 #[.agg #[.slice a2 L.length c2], .slice ax L.length cx] x.at fun e w2 => e = .returned (.int .i64 x1) ∧ ∃ y : Later wr, w2 = y.at) :=
        fun x => Calls.later ((implOrderWidth_any _ _ L xs _ (HGG.out _ (H47.out _ (HZ.out x))) (HGX.out _ (H47.out _ (HZ.out x)))).mono fun _ _ ⟨h1, h2⟩ => ⟨by rw [h1, hx1], h2⟩)
      have hcB : Hid (∀ x : Later wr, Calls Try.prog 26 #[.agg #[.slice a2 L.length c2], .slice a6 m6 c6] x.at fun e w2 => e = .returned (.int .i64 x2) ∧ ∃ y : Later wr, w2 = y.at) :=
        fun x => Calls.later ((implOrderWidth_any _ _ L (byDegL L) _ (HGG.out _ (H47.out _ (HZ.out x))) (HRA7.out _ (HZ.out x))).mono fun _ _ ⟨h1, h2⟩ => ⟨by rw [h1, hx2], h2⟩)
      have hcC : Hid (∀ x : Later wr, Calls Try.prog 26 #[.agg #[.slice a2 L.length c2], .slice a7 m7 c7] x.at fun e w2 => e = .returned (.int .i64 x3) ∧ ∃ y : Later wr, w2 = y.at) :=
        fun x => Calls.later ((implOrderWidth_any _ _ L (byFillL L) _ (HGG.out _ (H47.out _ (HZ.out x))) (HRB7.out _ (HZ.out x))).mono fun _ _ ⟨h1, h2⟩ => ⟨by rw [h1, hx3], h2⟩)
      have hcD : Hid (∀ x : Later wr, Calls Try.prog 27 #[.agg #[.slice a2 L.length c2]] x.at fun e w2 => e = .returned (.int .i64 y1) ∧ ∃ y : Later wr, w2 = y.at) :=
        fun x => Calls.later ((specManyEdges_any _ L _ (HGG.out _ (H47.out _ (HZ.out x)))).mono fun _ _ ⟨h1, h2⟩ => ⟨by rw [h1, hy1], h2⟩)
      have hcE : Hid (∀ x : Later wr, Calls Try.prog 28 #[.agg #[.slice a2 L.length c2], .slice ax L.length cx] x.at fun e w2 => e = .returned (.int .i64 y2) ∧ ∃ y : Later wr, w2 = y.at) :=
        fun x => Calls.later ((implFillMany_any _ _ L xs _ (HGG.out _ (H47.out _ (HZ.out x))) (HGX.out _ (H47.out _ (HZ.out x)))).mono fun _ _ ⟨h1, h2⟩ => ⟨by rw [h1, hy2], h2⟩)
      rw [← hy1, ← hy2] at hsum
      rw [← hx1] at f3
      rw [← hx2] at f4
      rw [← hx3] at f5
      have hws : IntKind.i64.wrap (y1 + y2) = y1 + y2 := IntWalk.i64_in _ (by rw [← hsum]; omega)
      have q1 : ((s : Int) == y1 + y2) = true := by rw [beq_iff_eq]; exact hsum
      have d1 : decide (x0 ≤ x1) = true := decide_eq_true f3
      have d2 : decide (x0 ≤ x2) = true := decide_eq_true f4
      have d3 : decide (x0 ≤ x3) = true := decide_eq_true f5
      have kl := fun x : Later wr => x.cell kg
      clear hb kg m1 f3 f4 f5 hsum hx1 hx2 hx3 hy1 hy2
      go_wp2_with fail
      refine wp_region_later (by kernel_rfl) (by kernel_rfl) ?_
      repeat (go_big_quiet_step ((first | (go_at_call 26; (with_reducible exact hcA.out _)) | (go_at_call 26; (with_reducible exact hcB.out _)) | (go_at_call 26; (with_reducible exact hcC.out _)) | (go_at_call 27; (with_reducible exact hcD.out _)) | (go_at_call 28; (with_reducible exact hcE.out _)))))
      refine wpQuiet_nil ?_
      rintro _ ⟨z, rfl⟩
      have HFIN : Hid (Below w.heap.size w z.at) := HFB.out _ (H47.out _ (HZ.out z))
      clear kl hcA hcB hcC hcD hcE
      go_wp2
      go_ret
      exact ⟨rfl, HFIN.out⟩

end Go.Proofs.Ytmfolclpddoplaa
