/- The texts Later, C4, C5, joined. -/
import Derived.Test.YtohjfcfcopbmoaaBase
import Derived.Test.YtohjfcfcopbmoaaQC1
import Derived.Deep.RegionHeld3

/- A class of worlds for regions that draw their order and call what makes memory but hands back a plain value: all worlds in which nothing that was there has turned. -/
namespace Go.Proofs.Ytohjfcfcopbmoaa
open Go.RowKit

/-- A world in which all of w is as it was. -/
def Later (w : World) : Type := { w' : World // Below w.heap.size w w' }
instance (w : World) : Nonempty (Later w) := ⟨⟨w, Below.refl _ _⟩⟩
def Later.at {w : World} (x : Later w) : World := x.1
theorem Later.bel {w : World} (x : Later w) : Below w.heap.size w x.at := x.2
theorem Later.cell {w : World} {a : Addr} {v : Value} (h : w.cell? a = some v) (x : Later w) : x.at.cell? a = some v := cell_keep x.bel h

theorem wp_region_later {P : Program} {id : Nat} {Q : Exit → Act → World → Prop} {a : Act} {w : World} {l : List Oper} (hm : P.follows .mixedOrders = true) (hB : Region.lexB .any l.toArray = true)
    (h : wpQuiet P l.toArray (fun w' => ∃ x : Later w, w' = x.at) (fun a' => ∀ w', (∃ x : Later w, w' = x.at) → Q .normal a' w') l a) : (Code.region id l.toArray true).wp P Q a w :=
  wp_region_quiet (C := fun w' => ∃ x : Later w, w' = x.at) hm hB ⟨⟨w.drew, (Below.refl _ _).drew⟩, rfl⟩ (by simpa using h)

theorem Calls.later {P : Program} {f : FuncId} {args : Array Value} {w : World} {x : Later w} {v : Value}
    (h : Calls P f args x.at fun e w' => e = .returned v ∧ Below x.at.heap.size x.at w') : Calls P f args x.at fun e w'' => e = .returned v ∧ ∃ y : Later w, w'' = y.at :=
  h.mono fun _ w' ⟨he, hb⟩ => ⟨he, ⟨w', x.bel.trans (hb.mono x.bel.size)⟩, rfl⟩
end Go.Proofs.Ytohjfcfcopbmoaa

/- Walks: OrderOk. -/
namespace Go.Proofs.Ytohjfcfcopbmoaa
open Go.RowKit

/-- Element k is a vertex below n that is not among the first k. -/
def OrdAt (xs : List Int) (n : Nat) (k : Nat) : Prop := inB (nth xs k) 0 ((n : Int) - 1) = true ∧ hasB (xs.take k) (nth xs k) = false
instance (xs : List Int) (n k : Nat) : Decidable (OrdAt xs n k) := by unfold OrdAt; infer_instance
/-- The list names each of n vertices once. -/
def OrdP (xs : List Int) (n : Nat) : Prop := xs.length = n ∧ ∀ k, k < xs.length → OrdAt xs n k
instance (xs : List Int) (n : Nat) : Decidable (OrdP xs n) := by unfold OrdP; infer_instance

theorem nth_take {xs : List Int} {k i : Nat} (h : i < k) : nth (xs.take k) i = nth xs i := by simp [nth, h]
theorem hasB_take {xs : List Int} {k : Nat} (hk : k ≤ xs.length) (x : Int) : hasB (xs.take k) x = true ↔ ∃ j, j < k ∧ nth xs j = x := by
  rw [hasB_iff]
  constructor
  · rintro ⟨i, hi, e⟩
    have hi' : i < k := by simp at hi; omega
    exact ⟨i, hi', by rw [← nth_take hi']; exact e⟩
  · rintro ⟨i, hi, e⟩
    exact ⟨i, by simp; omega, by rw [nth_take hi]; exact e⟩

theorem RowAt.take {w : World} {b o c : Nat} {xs : List Int} {n : Nat} (h : RowAt w (.slice (some ⟨b, o, none⟩) n c) xs) (hc : ∀ i, i < xs.length → w.cell? ⟨b, o + i, none⟩ = some (.int .i64 (nth xs i))) (hcm : c ≤ maxLen) (hcx : xs.length ≤ c) (k : Nat) (hk : k ≤ xs.length) :
    RowAt w (.slice (some ⟨b, o, none⟩) k c) (xs.take k) := by
  have e : (xs.take k).length = k := by simp; omega
  refine ⟨fun x hx => h.1 x (List.mem_of_mem_take hx), by rw [e]; exact Nat.le_trans hk h.2.1, Or.inr ⟨b, o, c, by rw [e], by omega, hcm, fun i hi => ?_⟩⟩
  rw [e] at hi
  rw [nth_take hi]
  exact hc i (by omega)

set_option maxHeartbeats 1000000 in
theorem l1Order_any (v v1 : Value) (L : List (List Int)) (xs : List Int) (w : World) (h : GridAt w v L) (h1 : RowAt w v1 xs) :
    Calls Try.prog 53 #[.agg #[v], v1] w fun e w' => e = .returned (.bool (decide (OrdP xs L.length))) ∧ Below w.heap.size w w' := by
  have hl := h.len
  have hl1 := h1.len
  unfold maxLen at hl hl1
  obtain ⟨a0, c0, rfl⟩ := h.slice
  have ha : Below w.heap.size w (w.alloc (.cells #[.slice a0 L.length c0] 37)) := (Below.refl _ _).alloc (Nat.le_refl _) _
  have hk := h.keep ha
  have hr := h1.keep ha
  have HA := Lib.hid ha
  clear ha
  by_cases hn : xs.length = L.length
  · have hne : ((xs.length : Int) != (L.length : Int)) = false := by rw [hn]; simp
    by_cases h0 : xs.length = 0
    · have HE : Hid (decide (OrdP xs L.length) = true) := by show decide _ = true; rw [decide_eq_true_iff]; exact ⟨hn, fun k hk => by omega⟩
      obtain ⟨a1, c1, rfl⟩ := h1.zero h0
      have hL0 : ((0 : Int) != (L.length : Int)) = false := by rw [← hn, h0]; simp
      clear hne hn h0
      go_enter Try.func53, Try.ntmps53
      go_wp2_with fail
      refine (l1Size_any _ _ _ hk).mono ?_
      rintro e w1 ⟨rfl, hb1⟩
      have HB1 : Hid (Below w.heap.size w w1) := HA.out.trans (hb1.mono (by simp))
      clear hb1
      go_wp2
      refine wp_loop_rounds 1 ?_
      rw [rounds_succ]
      go_wp2
      go_ret
      exact ⟨ret_bool HE.out.symm, HB1.out⟩
    · obtain ⟨b, o, c, rfl, l1, l2, hc⟩ := hr.pos (by omega)
      have HC := Lib.hid hc
      have HN := Lib.hid hn
      clear hc hn h0 h1 h
      go_enter Try.func53, Try.ntmps53
      go_wp2_with fail
      refine (l1Size_any _ _ _ hk).mono ?_
      rintro e w1 ⟨rfl, hb1⟩
      have kb1 : w1.cell? ⟨w.heap.size, 0, none⟩ = some (.slice a0 L.length c0) := by rw [hb1.cell (by simp)]; go_simp
      have R1 := Lib.hid (hk.keep hb1)
      have S1 := Lib.hid (hr.keep hb1)
      have HC1 : Hid (∀ i, i < xs.length → w1.cell? ⟨b, o + i, none⟩ = some (.int .i64 (nth xs i))) := fun i hi => cell_keep hb1 (HC.out i hi)
      have HB1 : Hid (Below w.heap.size w w1) := HA.out.trans (hb1.mono (by simp))
      have hkb1 := Lib.hid kb1
      clear hb1 hk hr HC HA kb1
      go_wp2
      go_loopw [5] (fun i wr => ∃ k : Nat, k ≤ xs.length ∧ i = .int .i64 k ∧ (∀ j, j < k → OrdAt xs L.length j) ∧ Below w1.heap.size w1 wr) (fun i _ => xs.length - (intOf i).toNat)
      case atStart => exact ⟨0, Nat.zero_le _, rfl, (fun j hj => absurd hj (by omega)), Below.refl _ _⟩
      case round =>
        obtain ⟨k, hk, rfl, he, hb⟩ := hrel
        have HE := Lib.hid he
        clear he
        by_cases hlt : k < xs.length
        · have hck := cell_keep hb (HC1.out k hlt)
          have kb := cell_keep hb hkb1.out
          have R := Lib.hid (R1.out.keep hb)
          have hcap : (k : Int) ≤ (c : Int) := by omega
          have T := Lib.hid ((S1.out.keep hb).take (fun i hi => cell_keep hb (HC1.out i hi)) l2 l1 k hk)
          have HBw : Hid (Below w.heap.size w wr) := HB1.out.trans (hb.mono HB1.out.size)
          have HBr := Lib.hid hb
          clear hb
          by_cases hin : inB (nth xs k) 0 ((L.length : Int) - 1) = true
          · have HI := Lib.hid hin
            by_cases hH : hasB (xs.take k) (nth xs k) = true
            · have HH := Lib.hid hH
              clear hin hH
              go_wp2
              go_region_held3 (fun wx => wx.cell? ⟨w.heap.size, 0, none⟩ = some (.slice a0 L.length c0) ∧ wx.cell? ⟨b, o + k, none⟩ = some (.int .i64 (nth xs k))) (first | exact ⟨kb, hck⟩ | exact ⟨kb2, hck2⟩) (first | (go_at_call 70; refine (l1There_any _ _ _ _ (R.out.keep (Below.refl _ _).drew)).mono ?_; rintro e w2 ⟨rfl, hb2⟩; rw [HI.out]; have kb2 := cell_keep hb2 (cell_keep (Below.refl _ _).drew kb); have hck2 := cell_keep hb2 (cell_keep (Below.refl _ _).drew hck); have T2 := Lib.hid ((T.out.keep (Below.refl _ _).drew).keep hb2); have HB2 : Hid (Below w.heap.size w w2) := HBw.out.drew.trans (hb2.mono HBw.out.size); clear hb2) | (go_at_call 37; refine (l1Has_any _ _ _ _ T2.out).mono ?_; rintro e w' ⟨rfl, rfl⟩; rw [HH.out]))
              go_wp2
              go_ret
              exact ⟨ret_bool (by symm; rw [decide_eq_false_iff_not]; intro hp; have := (hp.2 k hlt).2; rw [HH.out] at this; exact absurd this (by simp)), HB2.out⟩
            · have hH' : hasB (xs.take k) (nth xs k) = false := by simpa using hH
              have HH := Lib.hid hH'
              clear hin hH hH'
              go_wp2
              go_region_held3 (fun wx => wx.cell? ⟨w.heap.size, 0, none⟩ = some (.slice a0 L.length c0) ∧ wx.cell? ⟨b, o + k, none⟩ = some (.int .i64 (nth xs k))) (first | exact ⟨kb, hck⟩ | exact ⟨kb2, hck2⟩) (first | (go_at_call 70; refine (l1There_any _ _ _ _ (R.out.keep (Below.refl _ _).drew)).mono ?_; rintro e w2 ⟨rfl, hb2⟩; rw [HI.out]; have kb2 := cell_keep hb2 (cell_keep (Below.refl _ _).drew kb); have hck2 := cell_keep hb2 (cell_keep (Below.refl _ _).drew hck); have T2 := Lib.hid ((T.out.keep (Below.refl _ _).drew).keep hb2); have HB2 : Hid (Below w1.heap.size w1 w2) := HBr.out.drew.trans (hb2.mono HBr.out.size); clear hb2) | (go_at_call 37; refine (l1Has_any _ _ _ _ T2.out).mono ?_; rintro e w' ⟨rfl, rfl⟩; rw [HH.out]))
              go_wp2
              go_roundw
              case rel => exact ⟨k + 1, by omega, by go_num, (fun j hj => by rcases Nat.lt_succ_iff_lt_or_eq.1 hj with h | h; exact HE.out j h; subst h; exact ⟨HI.out, HH.out⟩), HB2.out⟩
              case measure => simp [intOf]; omega
          · have hin' : inB (nth xs k) 0 ((L.length : Int) - 1) = false := by simpa using hin
            have HI := Lib.hid hin'
            clear hin hin' T
            go_wp2
            have kl := fun x : Later wr => x.cell kb
            have hl2 := fun x : Later wr => x.cell hck
            have hcall : Hid (∀ x : Later wr, Calls Try.prog 70 #[.agg #[.slice a0 L.length c0], .int .i64 (nth xs k)] x.at fun e w2 => e = .returned (.bool false) ∧ ∃ y : Later wr, w2 = y.at) :=
              fun x => Calls.later ((l1There_any _ _ _ _ (R.out.keep x.bel)).mono fun _ _ ⟨h1, h2⟩ => ⟨by rw [h1, HI.out], h2⟩)
            refine wp_region_later (by kernel_rfl) (by kernel_rfl) ?_
            repeat (go_big_quiet_step ((go_at_call 70; exact hcall.out _)))
            refine wpQuiet_nil ?_
            rintro _ ⟨x, rfl⟩
            have HB2 : Hid (Below w.heap.size w x.at) := HBw.out.trans (x.bel.mono HBw.out.size)
            clear kl hl2
            all_goals go_wp2
            all_goals go_ret
            all_goals exact ⟨ret_bool (by symm; rw [decide_eq_false_iff_not]; intro hp; have := (hp.2 k hlt).1; rw [HI.out] at this; exact absurd this (by simp)), HB2.out⟩
        · obtain rfl : k = xs.length := by omega
          go_wp2
          go_ret
          exact ⟨ret_bool (by symm; rw [decide_eq_true_iff]; exact ⟨HN.out, HE.out⟩), HB1.out.trans (hb.mono HB1.out.size)⟩
  · have hne : ((xs.length : Int) != (L.length : Int)) = true := by rw [bne_iff_ne]; omega
    have HE : Hid (decide (OrdP xs L.length) = false) := by show decide _ = false; rw [decide_eq_false_iff_not]; exact fun hp => hn hp.1
    obtain ⟨a1, c1, rfl⟩ := h1.slice
    clear hn
    go_enter Try.func53, Try.ntmps53
    go_wp2_with fail
    refine (l1Size_any _ _ _ hk).mono ?_
    rintro e w1 ⟨rfl, hb1⟩
    have HB1 : Hid (Below w.heap.size w w1) := HA.out.trans (hb1.mono (by simp))
    clear hb1
    go_wp2
    go_ret
    exact ⟨ret_bool HE.out.symm, HB1.out⟩

end Go.Proofs.Ytohjfcfcopbmoaa

/- Walks: OrderOk, of the model and of the program. -/
namespace Go.Proofs.Ytohjfcfcopbmoaa
open Go.RowKit

/-- What OrderOk answers. -/
def orderB (L : List (List Int)) (xs : List Int) : Bool := decide (GraphP L) && decide (OrdP xs L.length)

set_option maxHeartbeats 800000 in
theorem specOrderOk_any (v v1 : Value) (L : List (List Int)) (xs : List Int) (w : World) (h : GridAt w v L) (h1 : RowAt w v1 xs) :
    Calls Try.prog 33 #[.agg #[v], v1] w fun e w' => e = .returned (.bool (orderB L xs)) ∧ Below w.heap.size w w' := by
  obtain ⟨a0, c0, rfl⟩ := h.slice
  have ha : Below w.heap.size w (w.alloc (.cells #[.slice a0 L.length c0] 37)) := (Below.refl _ _).alloc (Nat.le_refl _) _
  have hk := h.keep ha
  have R0 := Lib.hid (h1.keep ha)
  have HA := Lib.hid ha
  clear ha
  go_enter Try.func33, Try.ntmps33
  go_wp2_with fail
  refine (specGraphOk_any _ _ _ hk).mono ?_
  rintro e w1 ⟨rfl, hb1⟩
  have kb1 : w1.cell? ⟨w.heap.size, 0, none⟩ = some (.slice a0 L.length c0) := by rw [hb1.cell (by simp)]; go_simp
  have R1 := Lib.hid (hk.keep hb1)
  have S1 := Lib.hid (R0.out.keep hb1)
  have HB1 : Hid (Below w.heap.size w w1) := HA.out.trans (hb1.mono (by simp))
  clear hb1 hk h HA R0
  by_cases hG : GraphP L
  · have HE : Hid (orderB L xs = decide (OrdP xs L.length)) := by show orderB L xs = _; simp [orderB, hG]
    rw [decide_eq_true hG]
    clear hG
    go_wp2_with fail
    refine (l1Order_any _ _ _ _ _ R1.out S1.out).mono ?_
    rintro e w2 ⟨rfl, hb2⟩
    have HB2 : Hid (Below w.heap.size w w2) := HB1.out.trans (hb2.mono HB1.out.size)
    clear hb2 kb1 R1 HB1 S1
    go_wp2
    go_ret
    exact ⟨ret_bool HE.out.symm, HB2.out⟩
  · have HE : Hid (orderB L xs = false) := by show orderB L xs = _; simp [orderB, hG]
    rw [decide_eq_false hG]
    clear hG
    go_wp2
    go_ret
    exact ⟨ret_bool HE.out.symm, HB1.out⟩

theorem inB_vertex (x : Int) (n : Nat) : inB x 0 ((n : Int) - 1) = decide (0 ≤ x ∧ x < (n : Int)) := by
  unfold inB
  rw [Bool.eq_iff_iff, decide_eq_true_iff, decide_eq_true_iff]
  omega

theorem maskTo_small {xs : List Int} {n : Nat} (hn : n ≤ 16) {k : Nat} (h : ∀ j, j < k → inB (nth xs j) 0 ((n : Int) - 1) = true) : maskTo xs k < 65536 := by
  induction k with
  | zero => simp [maskTo]
  | succ k ih =>
    have h1 := h k (by omega)
    simp [inB] at h1
    exact or_lt16 (ih (fun j hj => h j (by omega))) (by omega)

set_option maxHeartbeats 1000000 in
theorem implOrderOk_any (v v1 : Value) (L : List (List Int)) (xs : List Int) (w : World) (h : GridAt w v L) (h1 : RowAt w v1 xs) :
    Calls Try.prog 59 #[.agg #[v], v1] w fun e w' => e = .returned (.bool (orderB L xs)) ∧ Below w.heap.size w w' := by
  have hl1 := h1.len
  unfold maxLen at hl1
  obtain ⟨a0, c0, rfl⟩ := h.slice
  have ha : Below w.heap.size w (w.alloc (.cells #[.slice a0 L.length c0] 37)) := (Below.refl _ _).alloc (Nat.le_refl _) _
  have hk := h.keep ha
  have R0 := Lib.hid (h1.keep ha)
  have HA := Lib.hid ha
  obtain ⟨a1, c1, rfl⟩ := h1.slice
  clear ha
  go_enter Try.func59, Try.ntmps59
  go_wp2_with fail
  refine (netOf_any _ _ _ hk).mono ?_
  rintro e w1 ⟨rfl, hb1⟩
  have HB1 : Hid (Below w.heap.size w w1) := HA.out.trans (hb1.mono (by simp))
  have S1 := Lib.hid (R0.out.keep hb1)
  have hz : w.heap.size ≤ w1.heap.size := HB1.out.size
  have hnb := netBlk_new w1 0 (fun _ => 0)
  clear hb1 hk h HA R0 h1
  by_cases hG : GraphP L
  · have hz1 := hG.1
    have HE : Hid (orderB L xs = decide (OrdP xs L.length)) := by show orderB L xs = _; simp [orderB, hG]
    rw [decide_eq_true hG, netArr_yes hG]
    clear hG
    by_cases hn : xs.length = L.length
    · have hne : ((xs.length : Int) != (L.length : Int)) = false := by rw [hn]; simp
      have HN := Lib.hid hn
      have hx0 : 0 < xs.length := by omega
      have hx16 : xs.length ≤ 16 := by omega
      obtain ⟨b, o, c, e0, l1, l2, hc⟩ := S1.out.pos hx0
      simp only [Value.slice.injEq, true_and] at e0
      obtain ⟨rfl, rfl⟩ := e0
      have HC := Lib.hid hc
      clear hn hc
      go_wp2_with (refine wpList_store_net rfl 61 (.tmp 5) (.tmp 13) rfl w1.heap.size L.length (rowM L) rfl rfl Try.sizeNet 0 (fun _ => 0) hnb ?_; intro w3 hp; have hn0 := hp.net.at.1; have HB3 : Hid (Below w.heap.size w w3) := (HB1.out.alloc hz _).trans (hp.below.mono hz); have S3 := Lib.hid hp.since; clear hp)
      have HN0 := Lib.hid hn0
      clear hn0 hnb
      go_loopw [26] (fun i wr => ∃ k : Nat, k ≤ xs.length ∧ i = .int .i64 k ∧ (∀ j, j < k → OrdAt xs L.length j) ∧ wr.rowIs w3.heap.size 58 1 (fun _ => .int .u32 (maskTo xs k : Int)) ∧ Below w3.heap.size w3 wr) (fun i _ => xs.length - (intOf i).toNat)
      case atStart => exact ⟨0, Nat.zero_le _, rfl, (fun j hj => absurd hj (by omega)), World.rowIs_alloc _ _ _ _ (fun i hi => by simp at hi; subst hi; rfl), (Below.refl _ _).alloc (Nat.le_refl _) _⟩
      case round =>
        obtain ⟨k, hk, rfl, he, hr, hb⟩ := hrel
        have HO := Lib.hid he
        have HB := Lib.hid hb
        have HR := Lib.hid hr
        clear he
        by_cases hlt : k < xs.length
        · have hck := cell_keep hb (cell_keep S3.out (HC.out k hlt))
          have hnc := cell_keep hb HN0.out
          have hmc := hr.cell (i := 0) (by omega)
          have hmf := hr.frozen 0
          have hml : maskTo xs k < 65536 := maskTo_small (n := L.length) (by omega) (fun j hj => (HO.out j hj).1)
          have hbit := hasB_take (k := k) hk (nth xs k)
          clear hr hb
          by_cases hin : inB (nth xs k) 0 ((L.length : Int) - 1) = true
          · have hv := hin
            simp [inB] at hv
            obtain ⟨hv0, hv1⟩ := hv
            have hdv : Hid (decide (0 ≤ nth xs k ∧ nth xs k < (L.length : Int)) = true) := by show decide _ = true; rw [← inB_vertex]; exact hin
            have hmb : hasM (maskTo xs k) (nth xs k) = hasB (xs.take k) (nth xs k) := by
              have h3 := maskTo_bit xs k (nth xs k).toNat (fun j hj => by have := (HO.out j hj).1; simp [inB] at this; exact this.1)
              rw [Bool.eq_iff_iff, hbit]
              unfold hasM
              rw [Bool.and_eq_true, decide_eq_true_iff, h3]
              constructor
              · rintro ⟨_, j, hj, e⟩; exact ⟨j, hj, by omega⟩
              · rintro ⟨j, hj, e⟩; exact ⟨by omega, j, hj, by omega⟩
            by_cases hH : hasB (xs.take k) (nth xs k) = true
            · have HM : Hid (hasM (maskTo xs k) (nth xs k) = true) := by show _ = true; rw [hmb, hH]
              have HH := Lib.hid hH
              clear hin hH hmb hbit
              go_wp2_with (first | (go_at_call 63; refine (isVertex_any _ _ _).mono ?_; rintro e w' ⟨rfl, rfl⟩; rw [hdv.out]) | (go_at_call 42; refine (has_any _ _ _ hml).mono ?_; rintro e w' ⟨rfl, rfl⟩; rw [HM.out]))
              go_ret
              exact ⟨ret_bool (by rw [HE.out]; symm; rw [decide_eq_false_iff_not]; intro hp; have := (hp.2 k hlt).2; rw [HH.out] at this; exact absurd this (by simp)), HB3.out.trans (HB.out.mono HB3.out.size)⟩
            · have hH' : hasB (xs.take k) (nth xs k) = false := by simpa using hH
              have HM : Hid (hasM (maskTo xs k) (nth xs k) = false) := by show _ = false; rw [hmb, hH']
              have HH : Hid (OrdAt xs L.length k) := ⟨hin, hH'⟩
              clear hin hH hmb hbit hH'
              go_wp2_with (first | (go_at_call 63; refine (isVertex_any _ _ _).mono ?_; rintro e w' ⟨rfl, rfl⟩; rw [hdv.out]) | (go_at_call 42; refine (has_any _ _ _ hml).mono ?_; rintro e w' ⟨rfl, rfl⟩; rw [HM.out]) | (go_at_call 43; refine (add_any _ _ _ _ _ hmc hmf hml hv0 (by omega)).mono ?_; rintro e w4 ⟨rfl, hd4⟩))
              go_roundw
              case rel =>
                refine ⟨k + 1, by omega, by go_num, (fun j hj => by rcases Nat.lt_succ_iff_lt_or_eq.1 hj with h | h; exact HO.out j h; subst h; exact HH.out), ?_, (HB.out.setCell (Nat.le_refl _) _).trans (hd4.below _)⟩
                exact (rowIs_drawn (HR.out.set 0 _) hd4).congr (fun j hj => by simp [show j = 0 from by omega, maskTo])
              case measure => simp [intOf]; omega
          · have hin' : inB (nth xs k) 0 ((L.length : Int) - 1) = false := by simpa using hin
            have hdv : Hid (decide (0 ≤ nth xs k ∧ nth xs k < (L.length : Int)) = false) := by show decide _ = false; rw [← inB_vertex]; exact hin'
            have HI := Lib.hid hin'
            clear hin hin' hbit
            go_wp2_with (go_at_call 63; refine (isVertex_any _ _ _).mono ?_; rintro e w' ⟨rfl, rfl⟩; rw [hdv.out])
            go_ret
            exact ⟨ret_bool (by rw [HE.out]; symm; rw [decide_eq_false_iff_not]; intro hp; have := (hp.2 k hlt).1; rw [HI.out] at this; exact absurd this (by simp)), HB3.out.trans (HB.out.mono HB3.out.size)⟩
        · obtain rfl : k = xs.length := by omega
          go_wp2
          go_ret
          exact ⟨ret_bool (by rw [HE.out]; symm; rw [decide_eq_true_iff]; exact ⟨HN.out, HO.out⟩), HB3.out.trans (hb.mono HB3.out.size)⟩
    · have hne : ((xs.length : Int) != (L.length : Int)) = true := by rw [bne_iff_ne]; omega
      have HE2 : Hid (orderB L xs = false) := by show _ = false; rw [HE.out, decide_eq_false_iff_not]; exact fun hp => hn hp.1
      clear hn
      go_wp2_with (refine wpList_store_net rfl 61 (.tmp 5) (.tmp 13) rfl w1.heap.size L.length (rowM L) rfl rfl Try.sizeNet 0 (fun _ => 0) hnb ?_; intro w3 hp; have hn0 := hp.net.at.1; have HB3 : Hid (Below w.heap.size w w3) := (HB1.out.alloc hz _).trans (hp.below.mono hz); clear hp)
      go_ret
      exact ⟨ret_bool HE2.out.symm, HB3.out⟩
  · have HE : Hid (orderB L xs = false) := by show orderB L xs = _; simp [orderB, hG]
    rw [decide_eq_false hG, netArr_no hG]
    clear hG
    go_wp2_with (refine wpList_store_net rfl 61 (.tmp 5) (.tmp 13) rfl w1.heap.size 0 (fun _ => 0) rfl rfl Try.sizeNet 0 (fun _ => 0) hnb ?_; intro w3 hp; have HB3 : Hid (Below w.heap.size w w3) := (HB1.out.alloc hz _).trans (hp.below.mono hz); clear hp)
    go_ret
    exact ⟨ret_bool HE.out.symm, HB3.out⟩

end Go.Proofs.Ytohjfcfcopbmoaa
