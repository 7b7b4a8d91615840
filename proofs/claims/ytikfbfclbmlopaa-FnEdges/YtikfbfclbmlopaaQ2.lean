/- The texts A7, B1, B2, B3, B4, B5, C1, Grid, joined. -/
import Derived.Laws.BitsAllLaws
import Derived.Laws.ResultCell
import Derived.Deep.RegionHeld3
import Derived.Test.YtikfbfclbmlopaaQ1

/- Walks: the model's word on valid graphs. -/
namespace Go.Proofs.Ytikfbfclbmlopaa
open Go.RowKit

/-- Row v is a set of vertices without v. -/
def RowOk (L : List (List Int)) (v : Nat) : Prop := SetP (nthR L v) L.length ∧ hasB (nthR L v) v = false
instance (L : List (List Int)) (v : Nat) : Decidable (RowOk L v) := by unfold RowOk; infer_instance
/-- Each neighbour of v has v for a neighbour. -/
def BackOk (L : List (List Int)) (v : Nat) : Prop := ∀ i, i < (nthR L v).length → hasB (nthR L (nth (nthR L v) i).toNat) v = true
instance (L : List (List Int)) (v : Nat) : Decidable (BackOk L v) := by unfold BackOk; infer_instance
/-- The rows are those of a valid graph. -/
def GraphP (L : List (List Int)) : Prop := (1 ≤ L.length ∧ L.length ≤ 16) ∧ (∀ v, v < L.length → RowOk L v) ∧ ∀ v, v < L.length → BackOk L v
instance (L : List (List Int)) : Decidable (GraphP L) := by unfold GraphP; infer_instance

set_option maxHeartbeats 1000000 in
theorem specGraphOk_any (v : Value) (L : List (List Int)) (w : World) (h : GridAt w v L) :
    Calls Try.prog 20 #[.agg #[v]] w fun e w' => e = .returned (.bool (decide (GraphP L))) ∧ Below w.heap.size w w' := by
  have hl := h.len
  unfold maxLen at hl
  obtain ⟨a0, c0, rfl⟩ := h.slice
  have hbel : Below w.heap.size w (w.alloc (.cells #[.slice a0 L.length c0] 26)) := (Below.refl _ _).alloc (Nat.le_refl _) _
  have hk := h.keep hbel
  have HB := Lib.hid hbel
  clear hbel
  by_cases hsz : inB L.length 1 16 = true
  · have hsz' : (1 : Int) ≤ L.length ∧ (L.length : Int) ≤ 16 := by simpa [inB] using hsz
    obtain ⟨hz1, hz2⟩ := hsz'
    have HS := Lib.hid hsz
    clear hsz
    obtain ⟨b, o, c, A, C, e0, l1, l2, hc⟩ := hk.pos (by omega)
    simp only [Value.slice.injEq] at e0
    obtain ⟨rfl, -, rfl⟩ := e0
    have HC := Lib.hid hc
    clear hc
    go_enter Try.func20, Try.ntmps20
    go_wp2_with fail
    refine (l1Size_any _ _ _ hk).mono ?_
    rintro e w1 ⟨rfl, hb1⟩
    have kb : w1.cell? ⟨w.heap.size, 0, none⟩ = some (.slice (some ⟨b, o, none⟩) L.length c0) := by rw [hb1.cell (by simp)]; go_simp
    have HC1 : Hid (∀ i, i < L.length → w1.cell? ⟨b, o + i, none⟩ = some (.slice (A i) (nthR L i).length (C i)) ∧ RowAt w1 (.slice (A i) (nthR L i).length (C i)) (nthR L i)) :=
      fun i hi => ⟨cell_keep hb1 (HC.out i hi).1, (HC.out i hi).2.keep hb1⟩
    have HB1 : Hid (Below w.heap.size w w1) := HB.out.trans (hb1.mono (by simp))
    clear hb1 HC hk h HB
    go_wp2_with fail
    refine (l1In_any _ _ _ _).mono ?_
    rintro e w' ⟨rfl, rfl⟩
    rw [HS.out]
    go_wp2
    go_loopw [4] (fun i wr => ∃ k : Nat, k ≤ L.length ∧ i = .int .i64 k ∧ (∀ j, j < k → RowOk L j) ∧ Drawn w1 wr) (fun i _ => L.length - (intOf i).toNat)
    case atStart => exact ⟨0, Nat.zero_le _, rfl, (fun j hj => absurd hj (by omega)), Drawn.refl _⟩
    case round =>
      obtain ⟨k, hk, rfl, he, hd⟩ := hrel
      have HE := Lib.hid he
      clear he
      by_cases hlt : k < L.length
      · have hck := cell_drawn hd (HC1.out k hlt).1
        have hrk := (HC1.out k hlt).2.drawn hd
        have hkb := cell_drawn hd kb
        go_wp2_with fail
        refine (l1Set_any _ _ _ _ hrk (by omega) (by omega)).mono ?_
        rintro e w2 ⟨rfl, hd2⟩
        have hck2 := cell_drawn hd2 hck
        have hrk2 := hrk.drawn hd2
        have hkb2 := cell_drawn hd2 hkb
        have hd3 := hd.trans hd2
        clear hck hrk hkb hd2 hd
        by_cases hS : SetP (nthR L k) L.length
        · have eS : decide (SetP (nthR L k) L.length) = true := by simpa using hS
          have HSS := Lib.hid hS
          rw [eS]
          clear eS hS
          go_wp2_with fail
          refine (l1Has_any _ _ _ _ hrk2).mono ?_
          rintro e w' ⟨rfl, rfl⟩
          by_cases hH : hasB (nthR L k) k = true
          · have HH := Lib.hid hH
            rw [hH]
            clear hH
            go_wp2
            go_ret
            exact ⟨ret_bool (by symm; rw [decide_eq_false_iff_not]; intro hs; have := (hs.2.1 k hlt).2; rw [HH.out] at this; exact absurd this (by simp)), HB1.out.trans (hd3.below _)⟩
          · have hH' : hasB (nthR L k) k = false := by simpa using hH
            have HH := Lib.hid hH'
            rw [hH']
            clear hH hH'
            go_wp2
            go_roundw
            case rel => exact ⟨k + 1, by omega, by go_num, (fun j hj => by rcases Nat.lt_succ_iff_lt_or_eq.1 hj with h | h; exact HE.out j h; subst h; exact ⟨HSS.out, HH.out⟩), hd3⟩
            case measure => simp [intOf]; omega
        · have eS : decide (SetP (nthR L k) L.length) = false := by simpa using hS
          have HSS := Lib.hid hS
          rw [eS]
          clear eS hS
          go_wp2
          go_ret
          exact ⟨ret_bool (by symm; rw [decide_eq_false_iff_not]; intro hs; exact HSS.out (hs.2.1 k hlt).1), HB1.out.trans (hd3.below _)⟩
      · obtain rfl : k = L.length := by omega
        have hrows := HE.out
        have HE2 := Lib.hid hrows
        clear HE hrows
        go_wp2
        go_loopw [5] (fun i w2 => ∃ k : Nat, k ≤ L.length ∧ i = .int .i64 k ∧ (∀ j, j < k → BackOk L j) ∧ Drawn w1 w2) (fun i _ => L.length - (intOf i).toNat)
        case atStart => exact ⟨0, Nat.zero_le _, rfl, (fun j hj => absurd hj (by omega)), hd⟩
        case round =>
          rename World => w2
          obtain ⟨k, hk, rfl, he, hd2⟩ := hrel
          have HE := Lib.hid he
          clear he
          by_cases hlt : k < L.length
          · have hck := cell_drawn hd2 (HC1.out k hlt).1
            have hrk := (HC1.out k hlt).2.drawn hd2
            have hkb := cell_drawn hd2 kb
            have hrl : (nthR L k).length ≤ 16 := by have := (HE2.out k hlt).1.len (by omega); omega
            have HD2 := Lib.hid hd2
            by_cases hr0 : (nthR L k).length = 0
            · rw [hr0] at hck
              have HR0 := Lib.hid hr0
              clear hr0 hrk hd2
              go_wp2
              refine wp_loop_rounds 1 ?_
              rw [rounds_succ]
              go_wp2
              go_roundw
              case rel => exact ⟨k + 1, by omega, by go_num, (fun j hj => by rcases Nat.lt_succ_iff_lt_or_eq.1 hj with h | h; exact HE.out j h; subst h; intro i hi; rw [HR0.out] at hi; omega), HD2.out⟩
              case measure => simp [intOf]; omega
            · obtain ⟨b1, o1, c1, e1, m1, m2, hcr⟩ := hrk.pos (by omega)
              simp only [Value.slice.injEq, true_and] at e1
              obtain ⟨eA, eC⟩ := e1
              rw [eA, eC] at hck
              have HCR := Lib.hid hcr
              clear eA eC hr0 hrk hcr hd2
              go_wp2
              go_loopw [6] (fun i w3 => ∃ q : Nat, q ≤ (nthR L k).length ∧ i = .int .i64 q ∧ (∀ j, j < q → hasB (nthR L (nth (nthR L k) j).toNat) k = true) ∧ Drawn w2 w3) (fun i _ => (nthR L k).length - (intOf i).toNat)
              case atStart => exact ⟨0, Nat.zero_le _, rfl, (fun j hj => absurd hj (by omega)), Drawn.refl _⟩
              case round =>
                rename World => w3
                obtain ⟨q, hq, rfl, hf, hd3⟩ := hrel
                have HF := Lib.hid hf
                clear hf
                have hck3 := cell_drawn hd3 hck
                have hkb3 := cell_drawn hd3 hkb
                by_cases hql : q < (nthR L k).length
                · have hst := (HE2.out k hlt).1 q hql
                  have hx0 := hst.1
                  have hx1 := hst.2.1
                  have hcq := cell_drawn hd3 (HCR.out q hql)
                  generalize hgx : nth (nthR L k) q = x at *
                  have HGX := Lib.hid hgx
                  clear hgx hst
                  have hxl : x.toNat < L.length := by omega
                  have hx2 : x < (L.length : Int) := by omega
                  have hcx := cell_drawn hd3 (cell_drawn HD2.out (HC1.out _ hxl).1)
                  have hrx := Lib.hid (((HC1.out _ hxl).2.drawn HD2.out).drawn hd3)
                  have hcall : ∀ n, Calls Try.prog 75 #[.slice (A x.toNat) (nthR L x.toNat).length (C x.toNat), .int .i64 k] (w3.drewN n) fun e w4 => e = .returned (.bool (hasB (nthR L x.toNat) k)) ∧ w4 = w3.drewN n :=
                    fun n => (l1Has_any _ _ _ _ (hrx.out.drewN n)).mono fun _ _ ⟨h1, h2⟩ => ⟨h1, h2.symm⟩
                  by_cases hH : hasB (nthR L x.toNat) k = true
                  · rw [hH] at hcall
                    have HCall := Lib.hid hcall
                    have HH := Lib.hid hH
                    clear hcall hH
                    go_wp2
                    go_quiet ((go_at_call 75; exact Calls.quiet_of_same (HCall.out _)))
                    go_wp2
                    go_roundw
                    case rel => exact ⟨q + 1, by omega, by go_num, (fun j hj => by rcases Nat.lt_succ_iff_lt_or_eq.1 hj with h | h; exact HF.out j h; rw [h, HGX.out]; exact HH.out), hd3.more _⟩
                    case measure => simp [intOf]; omega
                  · have hH' : hasB (nthR L x.toNat) k = false := by simpa using hH
                    rw [hH'] at hcall
                    have HCall := Lib.hid hcall
                    have HH := Lib.hid hH'
                    clear hcall hH hH'
                    go_wp2
                    go_quiet ((go_at_call 75; exact Calls.quiet_of_same (HCall.out _)))
                    go_wp2
                    go_ret
                    exact ⟨ret_bool (by symm; rw [decide_eq_false_iff_not]; intro hs; have := hs.2.2 k hlt q hql; rw [HGX.out, HH.out] at this; exact absurd this (by simp)), HB1.out.trans ((HD2.out.trans (hd3.more _)).below _)⟩
                · obtain rfl : q = (nthR L k).length := by omega
                  go_wp2
                  go_roundw
                  case rel => exact ⟨k + 1, by omega, by go_num, (fun j hj => by rcases Nat.lt_succ_iff_lt_or_eq.1 hj with h | h; exact HE.out j h; subst h; exact HF.out), HD2.out.trans hd3⟩
                  case measure => simp [intOf]; omega
          · obtain rfl : k = L.length := by omega
            go_wp2
            go_ret
            exact ⟨ret_bool (by symm; rw [decide_eq_true_iff]; exact ⟨by omega, HE2.out, HE.out⟩), HB1.out.trans (hd2.below _)⟩
  · have hsz' : inB L.length 1 16 = false := by simpa using hsz
    have HS := Lib.hid hsz'
    clear hsz hsz'
    go_enter Try.func20, Try.ntmps20
    go_wp2_with fail
    refine (l1Size_any _ _ _ hk).mono ?_
    rintro e w1 ⟨rfl, hb1⟩
    have HB1 : Hid (Below w.heap.size w w1) := HB.out.trans (hb1.mono (by simp))
    clear hb1
    go_wp2_with fail
    refine (l1In_any _ _ _ _).mono ?_
    rintro e w' ⟨rfl, rfl⟩
    rw [HS.out]
    go_wp2
    go_ret
    exact ⟨ret_bool (by symm; rw [decide_eq_false_iff_not]; intro hs; have := HS.out; simp [inB] at this; have := hs.1; omega), HB1.out⟩

end Go.Proofs.Ytikfbfclbmlopaa

/- Walks: masks. -/
namespace Go.Proofs.Ytikfbfclbmlopaa
open Go.RowKit

theorem isVertex_any (v n : Int) (w : World) : Calls Try.prog 84 #[.int .i64 v, .int .i64 n] w fun e w' => e = .returned (.bool (decide (0 ≤ v ∧ v < n))) ∧ w = w' := by
  by_cases h1 : 0 ≤ v
  · by_cases h2 : v < n
    · have e : decide (0 ≤ v ∧ v < n) = true := by simp [h1, h2]
      rw [e]
      go_enter Try.func84, Try.ntmps84
      go_wp2
      go_ret
      exact ⟨rfl, rfl⟩
    · have e : decide (0 ≤ v ∧ v < n) = false := by simp [h2]
      have d2 : decide (v < n) = false := by simpa using h2
      rw [e]
      go_enter Try.func84, Try.ntmps84
      go_wp2
      go_ret
      exact ⟨rfl, rfl⟩
  · have e : decide (0 ≤ v ∧ v < n) = false := by simp [h1]
    have d1 : decide (0 ≤ v) = false := by simpa using h1
    rw [e]
    go_enter Try.func84, Try.ntmps84
    go_wp2
    go_ret
    exact ⟨rfl, rfl⟩

theorem sizeOk_any (n : Int) (w : World) : Calls Try.prog 79 #[.int .i64 n] w fun e w' => e = .returned (.bool (inB n 1 16)) ∧ w = w' := by
  by_cases h1 : 1 ≤ n
  · by_cases h2 : n ≤ 16
    · have e : inB n 1 16 = true := by simp [inB, h1, h2]
      rw [e]
      go_enter Try.func79, Try.ntmps79
      go_wp2
      go_ret
      exact ⟨rfl, rfl⟩
    · have e : inB n 1 16 = false := by simp [inB, h2]
      have d2 : decide (n ≤ 16) = false := by simpa using h2
      rw [e]
      go_enter Try.func79, Try.ntmps79
      go_wp2
      go_ret
      exact ⟨rfl, rfl⟩
  · have e : inB n 1 16 = false := by simp [inB, h1]
    have d1 : decide (1 ≤ n) = false := by simpa using h1
    rw [e]
    go_enter Try.func79, Try.ntmps79
    go_wp2
    go_ret
    exact ⟨rfl, rfl⟩

theorem bit_test (M k : Nat) (hM : M < 65536) : (bits BinOp.and IntKind.u32 ((M : Int) / 2 ^ k) 1 == 1) = M.testBit k := by
  have h1 : ((M : Int) / 2 ^ k) = ((M / 2 ^ k : Nat) : Int) := by simp
  have h2 : M / 2 ^ k ≤ M := Nat.div_le_self _ _
  have h3 : (1 : Int) = ((1 : Nat) : Int) := rfl
  rw [h1, h3, u32_and_nat _ _ (by omega) (by omega)]
  rw [Nat.testBit_eq_decide_div_mod_eq, Nat.and_one_is_mod, Bool.eq_iff_iff, beq_iff_eq, decide_eq_true_iff]
  omega

/-- Does mask M hold v? -/
def hasM (M : Nat) (v : Int) : Bool := decide (0 ≤ v ∧ v < 16) && M.testBit v.toNat

theorem has_any (M : Nat) (v : Int) (w : World) (hM : M < 65536) : Calls Try.prog 71 #[.int .u32 M, .int .i64 v] w fun e w' => e = .returned (.bool (hasM M v)) ∧ w = w' := by
  unfold hasM
  by_cases h1 : 0 ≤ v ∧ v < 16
  · have e : decide (0 ≤ v ∧ v < 16) = true := by simpa using h1
    have HE := Lib.hid e
    clear e
    obtain ⟨h2, h3⟩ := h1
    go_enter Try.func71, Try.ntmps71
    go_wp2_with fail
    refine (isVertex_any _ _ _).mono ?_
    rintro e w' ⟨rfl, rfl⟩
    rw [HE.out]
    go_wp2
    go_ret
    exact ⟨ret_bool (by rw [bit_test M _ hM, HE.out]; rfl), rfl⟩
  · have e : decide (0 ≤ v ∧ v < 16) = false := by simpa using h1
    have HE := Lib.hid e
    clear e h1
    go_enter Try.func71, Try.ntmps71
    go_wp2_with fail
    refine (isVertex_any _ _ _).mono ?_
    rintro e w' ⟨rfl, rfl⟩
    rw [HE.out]
    go_wp2
    go_ret
    exact ⟨ret_bool (by rw [HE.out]; rfl), rfl⟩

theorem pow_lt16 {k : Nat} (hk : k < 16) : 2 ^ k < 65536 := Nat.pow_lt_pow_right (by omega) hk
theorem bit_set (M k : Nat) (hM : M < 65536) (hk : k < 16) : bits BinOp.or IntKind.u32 (M : Int) (2 ^ k % 4294967296) = ((M ||| 2 ^ k : Nat) : Int) := by
  have h2 := pow_lt16 hk
  have h1 : ((2 : Int) ^ k % 4294967296) = ((2 ^ k : Nat) : Int) := by
    have : ((2 : Int) ^ k) = ((2 ^ k : Nat) : Int) := by simp
    rw [this]
    generalize 2 ^ k = q at h2
    omega
  rw [h1, u32_or_nat _ _ (by omega) (by omega)]
theorem or_lt16 {M k : Nat} (hM : M < 65536) (hk : k < 16) : M ||| 2 ^ k < 65536 := by
  have h2 := pow_lt16 hk
  exact Nat.or_lt_two_pow (n := 16) hM h2

set_option maxHeartbeats 400000 in
theorem add_any (b o M : Nat) (v : Int) (w : World) (hc : w.cell? ⟨b, o, none⟩ = some (.int .u32 M)) (hf : w.frozen? ⟨b, o, none⟩ = false) (hM : M < 65536) (h1 : 0 ≤ v) (h2 : v < 16) :
    Calls Try.prog 86 #[.pointer (some ⟨b, o, none⟩), .int .i64 v] w fun e w' => e = .returned (.tuple #[]) ∧ Drawn (w.setCell ⟨b, o, none⟩ (.int .u32 ((M ||| 2 ^ v.toNat : Nat) : Int))) w' := by
  have e : decide (0 ≤ v ∧ v < 16) = true := by simp [h1, h2]
  have HE := Lib.hid e
  clear e
  go_enter Try.func86, Try.ntmps86
  go_wp2_with fail
  refine (isVertex_any _ _ _).mono ?_
  rintro e w' ⟨rfl, rfl⟩
  rw [HE.out]
  go_wp2
  go_region
  go_end0
  exact ⟨rfl, by rw [bit_set M _ hM (by omega)]; exact (Drawn.refl _).drew⟩

end Go.Proofs.Ytikfbfclbmlopaa

/- Walks: the mask of a row. -/
namespace Go.Proofs.Ytikfbfclbmlopaa
open Go.RowKit

/-- The mask of the first k elements. -/
def maskTo (xs : List Int) : Nat → Nat
  | 0 => 0
  | k + 1 => maskTo xs k ||| 2 ^ (nth xs k).toNat

theorem maskTo_lt {xs : List Int} {n : Int} (h : ∀ j, j < xs.length → 0 ≤ nth xs j ∧ nth xs j ≤ n - 1) (hn : n ≤ 16) : ∀ k, k ≤ xs.length → maskTo xs k < 65536
  | 0, _ => by simp [maskTo]
  | k + 1, hk => or_lt16 (maskTo_lt h hn k (by omega)) (by have := h k (by omega); omega)

theorem maskTo_bit (xs : List Int) (k i : Nat) (h : ∀ j, j < k → 0 ≤ nth xs j) : (maskTo xs k).testBit i = true ↔ ∃ j, j < k ∧ nth xs j = i := by
  induction k with
  | zero => simp [maskTo]
  | succ k ih =>
    have h0 := h k (by omega)
    rw [maskTo, Nat.testBit_or, Bool.or_eq_true, ih (fun j hj => h j (by omega)), Nat.testBit_two_pow, decide_eq_true_iff]
    constructor
    · rintro (⟨j, hj, e⟩ | e)
      · exact ⟨j, by omega, e⟩
      · exact ⟨k, by omega, by omega⟩
    · rintro ⟨j, hj, e⟩
      by_cases hjk : j = k
      · right; subst hjk; omega
      · exact Or.inl ⟨j, by omega, e⟩

/-- What maskOf hands back. -/
def GaveMask (w : World) (xs : List Int) (n : Int) (e : Ending) (w' : World) : Prop :=
  e = .returned (.tuple #[.int .u32 (if SetP xs n then (maskTo xs xs.length : Int) else 0), .bool (decide (SetP xs n))]) ∧ Below w.heap.size w w'

/-- The last element before place k, -1 at the first. -/
def lastTo (xs : List Int) : Nat → Int
  | 0 => -1
  | k + 1 => nth xs k
theorem stepOk_iff (xs : List Int) (n : Int) (k : Nat) (hp : ∀ j, j < k → StepOk xs n j) : StepOk xs n k ↔ lastTo xs k < nth xs k ∧ nth xs k < n := by
  unfold StepOk
  cases k with
  | zero => simp [lastTo]; omega
  | succ k =>
    have := (hp k (by omega)).1
    simp [lastTo]; omega

theorem rowIs_drawn {w w' : World} {b n : Nat} {t : TypeId} {f : Nat → Value} (h : w.rowIs b t n f) (hd : Drawn w w') : w'.rowIs b t n f := h.of_block ((hd.below w.heap.size).block _ h.lt)

set_option maxHeartbeats 800000 in
theorem maskOf_any (v : Value) (xs : List Int) (n : Int) (w : World) (h : RowAt w v xs) (hn0 : 0 ≤ n) (hn1 : n ≤ 16) :
    Calls Try.prog 90 #[v, .int .i64 n] w (GaveMask w xs n) := by
  have hl := h.len
  unfold maxLen at hl
  by_cases h0 : xs.length = 0
  · have e : SetP xs n := by intro i hi; omega
    have HP : Hid (GaveMask w xs n (.returned (.tuple #[.int .u32 0, .bool true])) (w.alloc (.cells #[.int .u32 0] 68))) :=
      ⟨by rw [if_pos e, h0]; simp [e, maskTo], (Below.refl _ _).alloc (Nat.le_refl _) _⟩
    obtain ⟨a, c, rfl⟩ := h.zero h0
    clear h h0 hl e
    go_enter Try.func90, Try.ntmps90
    go_wp2
    refine wp_loop_rounds 1 ?_
    rw [rounds_succ]
    go_wp2
    go_ret2
    exact HP.out
  · obtain ⟨b, o, c, rfl, l1, l2, hc⟩ := h.pos (by omega)
    have HC := Lib.hid hc
    clear hc h0
    go_enter Try.func90, Try.ntmps90
    go_wp2
    go_loopw [7, 12] (fun l i wr => ∃ k : Nat, k ≤ xs.length ∧ i = .int .i64 k ∧ l = .int .i64 (lastTo xs k) ∧ (∀ j, j < k → StepOk xs n j) ∧ wr.rowIs w.heap.size 68 1 (fun _ => .int .u32 (maskTo xs k : Int)) ∧ Below w.heap.size w wr) (fun _ i _ => xs.length - (intOf i).toNat)
    case atStart => exact ⟨0, Nat.zero_le _, rfl, rfl, (fun j hj => absurd hj (by omega)), World.rowIs_alloc _ _ _ _ (fun i hi => by simp at hi; subst hi; rfl), (Below.refl _ _).alloc (Nat.le_refl _) _⟩
    case round =>
      obtain ⟨k, hk, rfl, rfl, he, hr, hb⟩ := hrel
      have HE := Lib.hid he
      have HB := Lib.hid hb
      have HR := Lib.hid hr
      clear he
      by_cases hlt : k < xs.length
      · have hck := cell_keep hb (HC.out k hlt)
        have hmc := hr.cell (i := 0) (by omega)
        have hmf := hr.frozen 0
        have hso := stepOk_iff xs n k HE.out
        have hml : maskTo xs k < 65536 := by
          have : ∀ (j : Nat), j < k → 0 ≤ nth xs j ∧ nth xs j ≤ n - 1 := fun j hj => ⟨(HE.out j hj).1, (HE.out j hj).2.1⟩
          clear HE hso
          have hgen : ∀ q, q ≤ k → maskTo xs q < 65536 := by
            intro q
            induction q with
            | zero => intro _; simp [maskTo]
            | succ q ih => intro hq; exact or_lt16 (ih (by omega)) (by have := this q (by omega); omega)
          exact hgen k (Nat.le_refl _)
        by_cases hok : StepOk xs n k
        · have hok' := hso.1 hok
          obtain ⟨ho1, ho2⟩ := hok'
          have hx0 : 0 ≤ nth xs k := hok.1
          have HO := Lib.hid hok
          have d1 : decide (nth xs k ≤ lastTo xs k) = false := by simp; omega
          have d2 : decide (n ≤ nth xs k) = false := by simp; omega
          clear hok hso hr hb
          go_wp2_with fail
          refine (add_any _ _ _ _ _ hmc hmf hml hx0 (by omega)).mono ?_
          rintro e w2 ⟨rfl, hd2⟩
          go_wp2
          go_roundw
          case rel =>
            refine ⟨k + 1, by omega, by go_num, rfl, (fun j hj => by rcases Nat.lt_succ_iff_lt_or_eq.1 hj with h | h; exact HE.out j h; subst h; exact HO.out), ?_, (HB.out.setCell (Nat.le_refl _) _).trans (hd2.below _)⟩
            exact (rowIs_drawn (HR.out.set 0 _) hd2).congr (fun j hj => by simp [show j = 0 from by omega, maskTo])
          case measure => simp [intOf]; omega
        · have HO := Lib.hid hok
          have HP : Hid (∀ w', Below w.heap.size w w' → GaveMask w xs n (.returned (.tuple #[.int .u32 0, .bool false])) w') := by
            intro w' hw'
            have hns : ¬ SetP xs n := fun hs => hok (hs k hlt)
            exact ⟨by rw [if_neg hns]; simp [hns], hw'⟩
          by_cases hx : nth xs k ≤ lastTo xs k
          · have d1 : decide (nth xs k ≤ lastTo xs k) = true := by simpa using hx
            clear hok hso hr hb
            go_wp2
            go_ret2
            exact HP.out _ HB.out
          · have d1 : decide (nth xs k ≤ lastTo xs k) = false := by simpa using hx
            have hx2 : n ≤ nth xs k := by
              rcases Int.lt_or_le (nth xs k) n with h | h
              · exact absurd (hso.2 ⟨by omega, h⟩) hok
              · exact h
            have d2 : decide (n ≤ nth xs k) = true := by simpa using hx2
            clear hok hso hr hb
            go_wp2
            go_ret2
            exact HP.out _ HB.out
      · obtain rfl : k = xs.length := by omega
        have hmc := hr.cell (i := 0) (by omega)
        have HP : Hid (GaveMask w xs n (.returned (.tuple #[.int .u32 (maskTo xs xs.length : Int), .bool true])) wr) := by
          have hs : SetP xs n := HE.out
          exact ⟨by rw [if_pos hs]; simp [hs], hb⟩
        clear hr hb
        go_wp2
        go_ret2
        exact HP.out

end Go.Proofs.Ytikfbfclbmlopaa

/- Walks: nets. -/
namespace Go.Proofs.Ytikfbfclbmlopaa
open Go.RowKit

/-- No vertex is its own neighbour; all neighbours of the first n are mutual. -/
def SimpleAt (M : Nat → Nat) (v : Nat) : Prop := hasM (M v) v = false ∧ ∀ u, u < v → hasM (M u) v = hasM (M v) u
instance (M : Nat → Nat) (v : Nat) : Decidable (SimpleAt M v) := by unfold SimpleAt; infer_instance
def SimpleP (n : Nat) (M : Nat → Nat) : Prop := ∀ v, v < n → SimpleAt M v
instance (n : Nat) (M : Nat → Nat) : Decidable (SimpleP n M) := by unfold SimpleP; infer_instance

/-- Block b holds a net: n vertices, masks M. -/
def NetAt (w : World) (b n : Nat) (M : Nat → Nat) : Prop :=
  w.cell? ⟨b, 0, none⟩ = some (.int .i64 n) ∧ ∀ i, i < 16 → w.cell? ⟨b, 1 + i, none⟩ = some (.int .u32 (M i : Int))
theorem NetAt.keep {w w' : World} {b n : Nat} {M : Nat → Nat} (h : NetAt w b n M) (hb : Below w.heap.size w w') : NetAt w' b n M :=
  ⟨cell_keep hb h.1, fun i hi => cell_keep hb (h.2 i hi)⟩
theorem NetAt.drawn {w w' : World} {b n : Nat} {M : Nat → Nat} (h : NetAt w b n M) (hb : Drawn w w') : NetAt w' b n M := h.keep (hb.below _)

set_option maxHeartbeats 800000 in
theorem simple_any (b n : Nat) (M : Nat → Nat) (w : World) (h : NetAt w b n M) (hn : n ≤ 16) (hM : ∀ i, i < n → M i < 65536) :
    Calls Try.prog 123 #[.pointer (some ⟨b, 0, none⟩)] w fun e w' => e = .returned (.bool (decide (SimpleP n M))) ∧ Drawn w w' := by
  have hn0 := h.1
  have H := Lib.hid h
  have HM := Lib.hid hM
  clear h hM
  go_enter Try.func123, Try.ntmps123
  go_wp2
  go_loopw [9] (fun i wr => ∃ k : Nat, k ≤ n ∧ i = .int .i64 k ∧ (∀ j, j < k → SimpleAt M j) ∧ Drawn w wr) (fun i _ => n - (intOf i).toNat)
  case atStart => exact ⟨0, Nat.zero_le _, rfl, (fun j hj => absurd hj (by omega)), Drawn.refl _⟩
  case round =>
    obtain ⟨k, hk, rfl, he, hd⟩ := hrel
    have HE := Lib.hid he
    clear he hn0
    by_cases hlt : k < n
    · have hck := cell_drawn hd (H.out.2 k (by omega))
      have hk16 : (k : Int) < 16 := by omega
      have hMk := HM.out k hlt
      go_wp2_with fail
      refine (has_any _ _ _ hMk).mono ?_
      rintro e w' ⟨rfl, rfl⟩
      by_cases hs : hasM (M k) k = true
      · have HS := Lib.hid hs
        rw [hs]
        clear hs
        go_wp2
        go_ret
        exact ⟨ret_bool (by symm; rw [decide_eq_false_iff_not]; intro h1; have := (h1 k hlt).1; rw [HS.out] at this; exact absurd this (by simp)), hd⟩
      · have hs' : hasM (M k) k = false := by simpa using hs
        have HS := Lib.hid hs'
        rw [hs']
        clear hs hs'
        have HD := Lib.hid hd
        go_wp2
        go_loopw [21] (fun i w3 => ∃ q : Nat, q ≤ k ∧ i = .int .i64 q ∧ (∀ j, j < q → hasM (M j) k = hasM (M k) j) ∧ Drawn wr w3) (fun i _ => k - (intOf i).toNat)
        case atStart => exact ⟨0, Nat.zero_le _, rfl, (fun j hj => absurd hj (by omega)), Drawn.refl _⟩
        case round =>
          rename World => w3
          obtain ⟨q, hq, rfl, hf, hd3⟩ := hrel
          have HF := Lib.hid hf
          clear hf
          by_cases hql : q < k
          · have hcq := cell_drawn (HD.out.trans hd3) (H.out.2 q (by omega))
            have hck3 := cell_drawn hd3 hck
            have hq16 : (q : Int) < 16 := by omega
            have hMq := HM.out q (by omega)
            have call1 : Hid (∀ m, Calls Try.prog 71 #[.int .u32 (M q : Int), .int .i64 (k : Int)] (w3.drewN m) fun e w4 => e = .returned (.bool (hasM (M q) k)) ∧ w4 = w3.drewN m) :=
              fun m => (has_any _ _ _ hMq).mono fun _ _ ⟨h1, h2⟩ => ⟨h1, h2.symm⟩
            have call2 : Hid (∀ m, Calls Try.prog 71 #[.int .u32 (M k : Int), .int .i64 (q : Int)] (w3.drewN m) fun e w4 => e = .returned (.bool (hasM (M k) q)) ∧ w4 = w3.drewN m) :=
              fun m => (has_any _ _ _ hMk).mono fun _ _ ⟨h1, h2⟩ => ⟨h1, h2.symm⟩
            by_cases hx : hasM (M q) k = hasM (M k) q
            · have hxb : (hasM (M q) k == hasM (M k) q) = true := by rw [hx]; simp
              have HX := Lib.hid hx
              clear hx
              go_wp2
              go_quiet ((first | (go_at_call_of 71 (M q); exact Calls.quiet_of_same (call1.out _)) | (go_at_call_of 71 (M k); exact Calls.quiet_of_same (call2.out _))))
              go_wp2
              go_roundw
              case rel => exact ⟨q + 1, by omega, by go_num, (fun j hj => by rcases Nat.lt_succ_iff_lt_or_eq.1 hj with h | h; exact HF.out j h; subst h; exact HX.out), hd3.more _⟩
              case measure => simp [intOf]; omega
            · have hxb : (hasM (M q) k == hasM (M k) q) = false := by simpa using hx
              have HX := Lib.hid hx
              clear hx
              go_wp2
              go_quiet ((first | (go_at_call_of 71 (M q); exact Calls.quiet_of_same (call1.out _)) | (go_at_call_of 71 (M k); exact Calls.quiet_of_same (call2.out _))))
              go_wp2
              go_ret
              exact ⟨ret_bool (by symm; rw [decide_eq_false_iff_not]; intro h1; exact HX.out ((h1 k hlt).2 q hql)), HD.out.trans (hd3.more _)⟩
          · obtain rfl : q = k := by omega
            go_wp2
            go_roundw
            case rel => exact ⟨q + 1, by omega, by go_num, (fun j hj => by rcases Nat.lt_succ_iff_lt_or_eq.1 hj with h | h; exact HE.out j h; subst h; exact ⟨HS.out, HF.out⟩), HD.out.trans hd3⟩
            case measure => simp [intOf]; omega
    · obtain rfl : k = n := by omega
      go_wp2
      go_ret
      exact ⟨ret_bool (by symm; rw [decide_eq_true_iff]; exact HE.out), hd⟩

end Go.Proofs.Ytikfbfclbmlopaa

/- Plain facts: the net of a valid graph. -/
namespace Go.Proofs.Ytikfbfclbmlopaa
open Go.RowKit

theorem hasB_iff (xs : List Int) (n : Int) : hasB xs n = true ↔ ∃ i, i < xs.length ∧ nth xs i = n := by simp [hasB]

theorem hasM_mask {xs : List Int} {n : Int} (h : SetP xs n) (u : Nat) (hu : u < 16) : hasM (maskTo xs xs.length) u = hasB xs u := by
  have hb := maskTo_bit xs xs.length u (fun j hj => (h j hj).1)
  rw [Bool.eq_iff_iff, hasB_iff]
  unfold hasM
  rw [Bool.and_eq_true, decide_eq_true_iff, Int.toNat_natCast, hb]
  constructor
  · rintro ⟨_, h⟩; exact h
  · intro h; exact ⟨by omega, h⟩

/-- The masks of a graph's rows. -/
def rowM (L : List (List Int)) (i : Nat) : Nat := if i < L.length then maskTo (nthR L i) (nthR L i).length else 0

theorem rowM_lt {L : List (List Int)} (hn : L.length ≤ 16) (h : ∀ v, v < L.length → SetP (nthR L v) L.length) (i : Nat) : rowM L i < 65536 := by
  unfold rowM
  split
  · rename_i hi
    exact maskTo_lt (n := L.length) (fun j hj => ⟨(h i hi j hj).1, (h i hi j hj).2.1⟩) (by omega) _ (Nat.le_refl _)
  · omega

theorem rowM_has {L : List (List Int)} (h : ∀ v, v < L.length → SetP (nthR L v) L.length) {v u : Nat} (hv : v < L.length) (hu : u < 16) : hasM (rowM L v) u = hasB (nthR L v) u := by
  rw [rowM, if_pos hv]
  exact hasM_mask (h v hv) u hu

theorem simple_iff {L : List (List Int)} (hn : 1 ≤ L.length ∧ L.length ≤ 16) (h : ∀ v, v < L.length → SetP (nthR L v) L.length) : SimpleP L.length (rowM L) ↔ GraphP L := by
  have key : ∀ v u, v < L.length → u < L.length → hasM (rowM L v) (u : Nat) = hasB (nthR L v) u := fun v u hv hu => rowM_has h hv (by omega)
  constructor
  · intro hs
    refine ⟨hn, fun v hv => ⟨h v hv, ?_⟩, fun v hv i hi => ?_⟩
    · rw [← key v v hv hv]; exact (hs v hv).1
    · have hst := h v hv i hi
      obtain ⟨h1, h2, -⟩ := hst
      generalize hx : nth (nthR L v) i = x at *
      have hmem : hasB (nthR L v) x = true := (hasB_iff _ _).2 ⟨i, hi, hx⟩
      obtain ⟨u, rfl⟩ := Int.eq_ofNat_of_zero_le h1
      rw [Int.toNat_natCast]
      have hu : u < L.length := by omega
      rcases Nat.lt_trichotomy u v with hlt | heq | hgt
      · have := (hs v hv).2 u hlt
        rw [key u v hu hv, key v u hv hu] at this
        rw [this]; exact hmem
      · subst heq
        have := (hs u hu).1
        rw [key u u hu hu, hmem] at this
        exact absurd this (by simp)
      · have := (hs u hu).2 v hgt
        rw [key u v hu hv, key v u hv hu] at this
        rw [← this]; exact hmem
  · rintro ⟨_, h1, h2⟩ v hv
    refine ⟨?_, fun u hlt => ?_⟩
    · rw [key v v hv hv]; exact (h1 v hv).2
    · have hu : u < L.length := by omega
      rw [key u v hu hv, key v u hv hu, Bool.eq_iff_iff]
      constructor
      · intro hh
        obtain ⟨i, hi, e⟩ := (hasB_iff _ _).1 hh
        have := h2 u hu i hi
        rw [e, Int.toNat_natCast] at this
        exact this
      · intro hh
        obtain ⟨i, hi, e⟩ := (hasB_iff _ _).1 hh
        have := h2 v hv i hi
        rw [e, Int.toNat_natCast] at this
        exact this

/-- The cells of a net. -/
def netArr (n : Nat) (M : Nat → Nat) : Array Value :=
  #[.int .i64 n, .int .u32 (M 0 : Int), .int .u32 (M 1 : Int), .int .u32 (M 2 : Int), .int .u32 (M 3 : Int), .int .u32 (M 4 : Int), .int .u32 (M 5 : Int), .int .u32 (M 6 : Int), .int .u32 (M 7 : Int), .int .u32 (M 8 : Int),
    .int .u32 (M 9 : Int), .int .u32 (M 10 : Int), .int .u32 (M 11 : Int), .int .u32 (M 12 : Int), .int .u32 (M 13 : Int), .int .u32 (M 14 : Int), .int .u32 (M 15 : Int)]
theorem netArr_size (n : Nat) (M : Nat → Nat) : (netArr n M).size = 17 := rfl
theorem netArr_one (n : Nat) (M : Nat → Nat) : (netArr n M).all (·.oneCell') = true := by simp [netArr, Value.oneCell']
theorem netArr_zero (n : Nat) (M : Nat → Nat) : (netArr n M)[0]? = some (.int .i64 n) := rfl
theorem netArr_get (n : Nat) (M : Nat → Nat) (i : Nat) (hi : i < 16) : (netArr n M)[1 + i]? = some (.int .u32 (M i : Int)) := by
  have h : i = 0 ∨ i = 1 ∨ i = 2 ∨ i = 3 ∨ i = 4 ∨ i = 5 ∨ i = 6 ∨ i = 7 ∨ i = 8 ∨ i = 9 ∨ i = 10 ∨ i = 11 ∨ i = 12 ∨ i = 13 ∨ i = 14 ∨ i = 15 := by omega
  rcases h with rfl | rfl | rfl | rfl | rfl | rfl | rfl | rfl | rfl | rfl | rfl | rfl | rfl | rfl | rfl | rfl <;> rfl
theorem netArr_eq {cs : Array Value} {n : Nat} {M : Nat → Nat} (hs : cs.size = 17) (h0 : cs[0]? = some (.int .i64 n)) (h : ∀ i, i < 16 → cs[1 + i]? = some (.int .u32 (M i : Int))) : cs = netArr n M := by
  apply Array.ext_getElem?
  intro j
  match j with
  | 0 => rw [h0, netArr_zero]
  | j + 1 =>
    by_cases hj : j < 16
    · rw [Nat.add_comm, h j hj, netArr_get n M j hj]
    · rw [Array.getElem?_eq_none (by omega), Array.getElem?_eq_none (by rw [netArr_size]; omega)]
theorem netArr_congr {n n' : Nat} {M M' : Nat → Nat} (hn : n = n') (h : ∀ i, i < 16 → M i = M' i) : netArr n M = netArr n' M' :=
  netArr_eq (by rw [netArr_size]) (by rw [netArr_zero, hn]) (fun i hi => by rw [netArr_get n M i hi, h i hi])

theorem netArr_set (n : Nat) (M : Nat → Nat) (i m : Nat) (hi : i < 16) : (netArr n M).setIfInBounds (1 + i) (.int .u32 (m : Int)) = netArr n (fun j => if j = i then m else M j) := by
  refine netArr_eq (by rw [Array.size_setIfInBounds, netArr_size]) ?_ (fun j hj => ?_)
  · rw [Array.getElem?_setIfInBounds, if_neg (by omega), netArr_zero]
  · rw [Array.getElem?_setIfInBounds]
    by_cases e : j = i
    · subst e
      rw [if_pos rfl, if_pos (by rw [netArr_size]; omega)]
      simp
    · rw [if_neg (by omega), netArr_get n M j hj]
      simp [e]

/-- Block g is a net's: n vertices, masks M; it is not frozen. T: the net type's number. -/
def NetBlk (T : TypeId) (w : World) (g n : Nat) (M : Nat → Nat) : Prop := w.heap[g]? = some (.cells (netArr n M) T (0, 0))
theorem NetBlk.at {T : TypeId} {w : World} {g n : Nat} {M : Nat → Nat} (h : NetBlk T w g n M) : NetAt w g n M :=
  ⟨by rw [cell_of_row w g 0 _ _ _ h, netArr_zero], fun i hi => by rw [cell_of_row w g _ _ _ _ h, netArr_get n M i hi]⟩
theorem NetBlk.frozen {T : TypeId} {w : World} {g n : Nat} {M : Nat → Nat} (h : NetBlk T w g n M) (i : Nat) : w.frozen? ⟨g, i, none⟩ = false := frozen_of_row w g i _ T h
theorem NetBlk.lt {T : TypeId} {w : World} {g n : Nat} {M : Nat → Nat} (h : NetBlk T w g n M) : g < w.heap.size := by
  obtain ⟨hlt, _⟩ := Array.getElem?_eq_some_iff.1 h
  exact hlt
theorem NetBlk.keep {T : TypeId} {w w' : World} {g n : Nat} {M : Nat → Nat} (h : NetBlk T w g n M) (hb : Below w.heap.size w w') : NetBlk T w' g n M := by
  unfold NetBlk
  rw [hb.block g h.lt]; exact h
theorem NetBlk.keepB {T : TypeId} {w w' : World} {B g n : Nat} {M : Nat → Nat} (h : NetBlk T w g n M) (hb : Below B w w') (hg : g < B) : NetBlk T w' g n M := by
  unfold NetBlk
  rw [hb.block g hg]; exact h
theorem NetBlk.drawn {T : TypeId} {w w' : World} {g n : Nat} {M : Nat → Nat} (h : NetBlk T w g n M) (hb : Drawn w w') : NetBlk T w' g n M := h.keep (hb.below _)
theorem NetBlk.set {T : TypeId} {w : World} {g n : Nat} {M : Nat → Nat} (h : NetBlk T w g n M) (i m : Nat) (hi : i < 16) : NetBlk T (w.setCell ⟨g, 1 + i, none⟩ (.int .u32 (m : Int))) g n (fun j => if j = i then m else M j) := by
  unfold NetBlk
  rw [heap_setCell_same w g (1 + i) _ T _ h, netArr_set n M i m hi]
theorem NetBlk.setOther {T : TypeId} {w : World} {g n : Nat} {M : Nat → Nat} (h : NetBlk T w g n M) {a : Addr} (ha : g ≠ a.block) (u : Value) : NetBlk T (w.setCell a u) g n M := by
  unfold NetBlk
  rw [heap_setCell_other _ _ _ _ ha]; exact h
theorem NetBlk.congr {T : TypeId} {w : World} {g n n' : Nat} {M M' : Nat → Nat} (h : NetBlk T w g n M) (hn : n = n') (hM : ∀ i, i < 16 → M i = M' i) : NetBlk T w g n' M' := by
  unfold NetBlk
  rw [← netArr_congr hn hM]; exact h

/-- A store of a whole net into block g: what lies elsewhere stays. -/
structure NetPut (T : TypeId) (w w' : World) (g n : Nat) (M : Nat → Nat) : Prop where
  os : w'.os = w.os
  tape : w'.tape = w.tape
  output : w'.output = w.output
  size : w'.heap.size = w.heap.size
  net : NetBlk T w' g n M
  other : ∀ k, k ≠ g → w'.heap[k]? = w.heap[k]?
theorem NetPut.below {T : TypeId} {w w' : World} {g n : Nat} {M : Nat → Nat} (h : NetPut T w w' g n M) : Below g w w' :=
  ⟨h.os, h.tape, h.output, Nat.le_of_eq h.size.symm, fun k hk => h.other k (by omega)⟩
theorem NetPut.cell {T : TypeId} {w w' : World} {g n : Nat} {M : Nat → Nat} (h : NetPut T w w' g n M) {a : Addr} (ha : a.block ≠ g) : w'.cell? a = w.cell? a := World.cell?_of_block (w := w) (h.other _ ha)

theorem wpList_store_net {P : Program} {ops : Array Oper} {rest : List Oper} {o : Oper} {a : Act} {w : World} {Q : Exit → Act → World → Prop} (hgd : o.guard = none) (ty : TypeId) (x y : Operand) (ho : o.op = .store ty x y)
    (g n : Nat) (M : Nat → Nat) (hx : a.eval x = .pointer (some ⟨g, 0, none⟩)) (hy : a.eval y = .agg (netArr n M)) (hi : (P.info? ty).map (·.size) = some 17)
    (n0 : Nat) (M0 : Nat → Nat) (hg : NetBlk ty w g n0 M0)
    (h : ∀ w', NetPut ty w w' g n M → wpList P ops Q rest (a.put o.dst undef) w') : wpList P ops Q (o :: rest) a w := by
  refine wpList_store_row hgd ty x y ho g (netArr n M) hx hy ty (netArr n0 M0) hg (by rw [hi, netArr_size]) (by rw [netArr_size, netArr_size]) (netArr_one _ _) (h _ ?_)
  exact ⟨rfl, rfl, rfl, size_setRow _ _ _, setRow_heap w g _ _ ty _ hg, fun k hk => setRow_other w g k _ hk⟩

theorem wpList_load_net {P : Program} {ops : Array Oper} {rest : List Oper} {o : Oper} {a : Act} {w : World} {Q : Exit → Act → World → Prop} (hgd : o.guard = none) (ty : TypeId) (x : Operand) (ho : o.op = .load ty x)
    (g n : Nat) (M : Nat → Nat) (hx : a.eval x = .pointer (some ⟨g, 0, none⟩)) (hi : (P.info? ty).map (·.size) = some 17) (d : TypeDesc) (hu : P.underlying ty = some d) (hd : (match d with | .struct _ | .array _ _ => true | _ => false) = true)
    (hg : NetBlk ty w g n M)
    (h : wpList P ops Q rest (a.put o.dst (.agg (netArr n M))) w) : wpList P ops Q (o :: rest) a w :=
  wpList_load_row hgd ty x ho g hx ty (netArr n M) (0, 0) d hg hu hd (by rw [hi, netArr_size]) h

/-- .. a guarded load, where the guard says yes. -/
theorem wpList_load_net_g {P : Program} {ops : Array Oper} {rest : List Oper} {o : Oper} {a : Act} {w : World} {Q : Exit → Act → World → Prop} (hw : Region.wanted o (yielded ops a.tmps) = true) (ty : TypeId) (x : Operand) (ho : o.op = .load ty x)
    (g n : Nat) (M : Nat → Nat) (hx : a.eval x = .pointer (some ⟨g, 0, none⟩)) (hi : (P.info? ty).map (·.size) = some 17) (d : TypeDesc) (hu : P.underlying ty = some d) (hd : (match d with | .struct _ | .array _ _ => true | _ => false) = true)
    (hg : NetBlk ty w g n M)
    (h : wpList P ops Q rest (a.put o.dst (.agg (netArr n M))) w) : wpList P ops Q (o :: rest) a w := by
  simp only [wpList, hw, if_true]
  exact Or.inl (wp_load_row ty x ho g hx ty (netArr n M) (0, 0) d hg hu hd (by rw [hi, netArr_size]) h)

theorem results_net {P : Program} {fn : Func} {p u : Tmp} {ty : TypeId} (h : fn.results = #[.cell p ty, .tmp u]) (tmps : Array Value) (w : World) (g n : Nat) (M : Nat → Nat) (d : TypeDesc)
    (hp : tmps.getD p undef = .pointer (some ⟨g, 0, none⟩)) (hg : NetBlk ty w g n M) (hi : (P.info? ty).map (·.size) = some 17) (hu : P.underlying ty = some d) (hd : (match d with | .struct _ | .array _ _ => true | _ => false) = true) :
    (results fn tmps).run P w = .ok (.tuple #[.agg (netArr n M), tmps.getD u undef]) w := by
  rw [results_cell_tmp h tmps P w, hp]
  have h1 := run_loadVar_row (P := P) w g ty ty (netArr n M) (0, 0) d hg hu hd (by rw [hi, netArr_size])
  simp [asAddr, h1, Result.andThen]

/-- The net that a graph has: of an invalid one the zero net. -/
def netN (L : List (List Int)) : Nat := if GraphP L then L.length else 0
def netM (L : List (List Int)) (i : Nat) : Nat := if GraphP L then rowM L i else 0
theorem netN_yes {L : List (List Int)} (h : GraphP L) : netN L = L.length := if_pos h
theorem netM_yes {L : List (List Int)} (h : GraphP L) (i : Nat) : netM L i = rowM L i := if_pos h
theorem netN_no {L : List (List Int)} (h : ¬ GraphP L) : netN L = 0 := if_neg h
theorem netM_no {L : List (List Int)} (h : ¬ GraphP L) (i : Nat) : netM L i = 0 := if_neg h
theorem netArr_yes {L : List (List Int)} (h : GraphP L) : netArr (netN L) (netM L) = netArr L.length (rowM L) := netArr_congr (netN_yes h) (fun i _ => netM_yes h i)
theorem netArr_no {L : List (List Int)} (h : ¬ GraphP L) : netArr (netN L) (netM L) = netArr 0 (fun _ => 0) := netArr_congr (netN_no h) (fun i _ => netM_no h i)

/-- What netOf hands back. -/
def GaveNet (w : World) (L : List (List Int)) (e : Ending) (w' : World) : Prop :=
  e = .returned (.tuple #[.agg (netArr (netN L) (netM L)), .bool (decide (GraphP L))]) ∧ Below w.heap.size w w'

end Go.Proofs.Ytikfbfclbmlopaa

/- Walks: the net of a graph. -/
namespace Go.Proofs.Ytikfbfclbmlopaa
open Go.RowKit

theorem Try.sizeNet : (Try.prog.info? 71).map (·.size) = some 17 := by kernel_rfl

theorem netRet {L : List (List Int)} {w w' : World} {act : Act} (n : Nat) (M : Nat → Nat) (ok : Bool) (g : Nat) (hp : act.tmps.getD 2 undef = .pointer (some ⟨g, 0, none⟩)) (ho : act.tmps.getD 3 undef = .bool ok) (hg : NetBlk 71 w' g n M)
    (hd : act.defers = []) (hpost : GaveNet w L (.returned (.tuple #[.agg (netArr n M), .bool ok])) w') : bodyPost Try.prog Try.f70 (GaveNet w L) Exit.ret act w' := by
  refine bodyPost_ret (v := .tuple #[.agg (netArr n M), .bool ok]) ?_ hd hpost
  rw [results_net Try.results70 act.tmps w' g n M _ hp hg Try.sizeNet Try.underlying71 rfl, ho]

set_option maxHeartbeats 1000000 in
set_option maxRecDepth 100000 in
theorem netOf_any (v : Value) (L : List (List Int)) (w : World) (h : GridAt w v L) :
    Calls Try.prog 70 #[.agg #[v]] w (GaveNet w L) := by
  have hl := h.len
  unfold maxLen at hl
  by_cases hsz : inB L.length 1 16 = true
  · have hsz' : (1 : Int) ≤ L.length ∧ (L.length : Int) ≤ 16 := by simpa [inB] using hsz
    obtain ⟨hz1, hz2⟩ := hsz'
    have HS := Lib.hid hsz
    clear hsz
    obtain ⟨b, o, c0, A, C, rfl, l1, l2, hc⟩ := h.pos (by omega)
    have HC := Lib.hid hc
    clear hc h
    have hg0 : NetBlk 71 (((w.alloc (.cells #[.slice (some ⟨b, o, none⟩) L.length c0] 26)).alloc (.cells (netArr 0 (fun _ => 0)) 71)).alloc (.cells (netArr 0 (fun _ => 0)) 71)) (w.heap.size + 1 + 1) 0 (fun _ => 0) := by
      have := heap_alloc_new ((w.alloc (.cells #[.slice (some ⟨b, o, none⟩) L.length c0] 26)).alloc (.cells (netArr 0 (fun _ => 0)) 71)) (.cells (netArr 0 (fun _ => 0)) 71)
      rwa [size_alloc1, size_alloc1] at this
    have hg1 : NetBlk 71 (((w.alloc (.cells #[.slice (some ⟨b, o, none⟩) L.length c0] 26)).alloc (.cells (netArr 0 (fun _ => 0)) 71)).alloc (.cells (netArr 0 (fun _ => 0)) 71)) (w.heap.size + 1) 0 (fun _ => 0) := by
      have := heap_alloc2_old (w.alloc (.cells #[.slice (some ⟨b, o, none⟩) L.length c0] 26)) (.cells (netArr 0 (fun _ => 0)) 71) (.cells (netArr 0 (fun _ => 0)) 71)
      rwa [size_alloc1] at this
    have hb0 : Below w.heap.size w (((w.alloc (.cells #[.slice (some ⟨b, o, none⟩) L.length c0] 26)).alloc (.cells (netArr 0 (fun _ => 0)) 71)).alloc (.cells (netArr 0 (fun _ => 0)) 71)) :=
      (((Below.refl _ _).alloc (Nat.le_refl _) _).alloc (by rw [size_alloc1]; omega) _).alloc (by rw [size_alloc1, size_alloc1]; omega) _
    have HG1 := Lib.hid hg1
    have HB0 := Lib.hid hb0
    clear hg1 hb0
    go_enter Try.func70, Try.ntmps70
    go_wp2_with fail
    refine (sizeOk_any _ _).mono ?_
    rintro e w' ⟨rfl, rfl⟩
    rw [HS.out]
    go_wp2_with (refine wpList_store_net rfl 71 (.tmp 5) (.tmp 18) rfl (w.heap.size + 1 + 1) L.length (fun _ => 0) rfl rfl Try.sizeNet 0 (fun _ => 0) hg0 ?_; intro w3 hp; have kb : w3.cell? ⟨w.heap.size, 0, none⟩ = some (.slice (some ⟨b, o, none⟩) L.length c0) := (hp.cell (by simp; omega)).trans (by go_simp); have HPU : Hid (NetBlk 71 w3 (w.heap.size + 1 + 1) L.length (fun _ => 0) ∧ NetBlk 71 w3 (w.heap.size + 1) 0 (fun _ => 0) ∧ Below w.heap.size w w3) := ⟨hp.net, HG1.out.keepB hp.below (by omega), HB0.out.trans (hp.below.mono (by omega))⟩; clear hp hg0 HG1 HB0)
    go_loopw [22] (fun i wr => ∃ k : Nat, k ≤ L.length ∧ i = .int .i64 k ∧ (∀ j, j < k → SetP (nthR L j) L.length) ∧ NetBlk 71 wr (w.heap.size + 1 + 1) L.length (fun i => if i < k then rowM L i else 0) ∧ NetBlk 71 wr (w.heap.size + 1) 0 (fun _ => 0) ∧ Below w.heap.size w wr) (fun i _ => L.length - (intOf i).toNat)
    case atStart => exact ⟨0, Nat.zero_le _, rfl, (fun j hj => absurd hj (by omega)), HPU.out.1.congr rfl (fun i _ => by simp), HPU.out.2.1, HPU.out.2.2⟩
    case round =>
      obtain ⟨k, hk, rfl, he, hn, hz, hb⟩ := hrel
      have HE := Lib.hid he
      have HB := Lib.hid hb
      have HN := Lib.hid hn
      have HZ := Lib.hid hz
      clear he hn hz HPU kb
      by_cases hlt : k < L.length
      · have hck := cell_keep hb (HC.out k hlt).1
        have hrk := (HC.out k hlt).2.keep hb
        have hk16 : (k : Int) < 16 := by omega
        clear hb
        go_wp2_with fail
        refine (maskOf_any _ _ _ _ hrk (by omega) hz2).mono ?_
        rintro e w4 ⟨rfl, hb4⟩
        have hn4 := HN.out.keep hb4
        have hz4 := HZ.out.keep hb4
        have HB4 : Hid (Below w.heap.size w w4) := HB.out.trans (hb4.mono HB.out.size)
        clear hb4 hrk hck
        by_cases hS : SetP (nthR L k) L.length
        · have hcc := hn4.at.2 k (by omega)
          have hcf := hn4.frozen (1 + k)
          have HN4 := Lib.hid hn4
          have HZ4 := Lib.hid hz4
          have HSS := Lib.hid hS
          rw [if_pos hS, decide_eq_true hS]
          clear hS hn4 hz4
          go_wp2
          go_roundw
          case rel =>
            refine ⟨k + 1, by omega, by go_num, (fun j hj => by rcases Nat.lt_succ_iff_lt_or_eq.1 hj with h | h; exact HE.out j h; subst h; exact HSS.out), (HN4.out.set k _ (by omega)).congr rfl (fun i hi => ?_), HZ4.out.setOther (by simp) _, HB4.out.setCell (by simp; omega) _⟩
            by_cases e : i = k
            · subst e; simp [rowM, hlt]
            · simp only [e, if_false]
              by_cases h1 : i < k
              · simp [h1, Nat.lt_succ_of_lt h1]
              · simp [h1, show ¬ i < k + 1 from by omega]
          case measure => simp [intOf]; omega
        · have hng : ¬ GraphP L := fun hg => hS ((hg.2.1 k hlt).1)
          have HP : Hid (∀ w', Below w.heap.size w w' → GaveNet w L (.returned (.tuple #[.agg (netArr 0 (fun _ => 0)), .bool false])) w') := fun w' hw' => ⟨by rw [netArr_no hng, decide_eq_false hng], hw'⟩
          rw [if_neg hS, decide_eq_false hS]
          have HN4 := Lib.hid hn4
          clear hS hng hn4
          go_wp2_with (refine wpList_store_net rfl 71 (.tmp 2) (.tmp 35) rfl (w.heap.size + 1) 0 (fun _ => 0) rfl rfl Try.sizeNet 0 (fun _ => 0) hz4 ?_; intro w5 hp)
          exact netRet 0 (fun _ => 0) false _ rfl rfl hp.net rfl (HP.out _ (HB4.out.trans (hp.below.mono (by omega))))
      · obtain rfl : k = L.length := by omega
        have hn5 : NetBlk 71 wr (w.heap.size + 1 + 1) L.length (rowM L) := HN.out.congr rfl (fun i hi => by by_cases h1 : i < L.length; simp [h1]; simp [h1, rowM])
        have hiff := simple_iff (L := L) ⟨by omega, by omega⟩ HE.out
        have hml : ∀ i, i < L.length → rowM L i < 65536 := fun i _ => rowM_lt (by omega) HE.out i
        go_wp2_with fail
        refine (simple_any _ _ _ _ hn5.at (by omega) hml).mono ?_
        rintro e w6 ⟨rfl, hd6⟩
        have hn6 := hn5.drawn hd6
        have hz6 := HZ.out.drawn hd6
        have HB6 : Hid (Below w.heap.size w w6) := HB.out.trans (hd6.below _)
        clear hn5 hd6 hml hb
        by_cases hG : GraphP L
        · have hsp := hiff.2 hG
          have HP : Hid (∀ w', Below w.heap.size w w' → GaveNet w L (.returned (.tuple #[.agg (netArr L.length (rowM L)), .bool true])) w') := fun w' hw' => ⟨by rw [netArr_yes hG, decide_eq_true hG], hw'⟩
          rw [decide_eq_true hsp]
          clear hG hsp hiff
          go_wp2_with (first | (refine wpList_load_net rfl 71 (.tmp 5) rfl (w.heap.size + 1 + 1) L.length (rowM L) rfl Try.sizeNet _ Try.underlying71 rfl hn6 ?_) | (refine wpList_store_net rfl 71 (.tmp 2) (.tmp 44) rfl (w.heap.size + 1) L.length (rowM L) rfl rfl Try.sizeNet 0 (fun _ => 0) hz6 ?_; intro w5 hp))
          exact netRet L.length (rowM L) true _ rfl rfl hp.net rfl (HP.out _ (HB6.out.trans (hp.below.mono (by omega))))
        · have hsp : ¬ SimpleP L.length (rowM L) := fun h1 => hG (hiff.1 h1)
          have HP : Hid (∀ w', Below w.heap.size w w' → GaveNet w L (.returned (.tuple #[.agg (netArr 0 (fun _ => 0)), .bool false])) w') := fun w' hw' => ⟨by rw [netArr_no hG, decide_eq_false hG], hw'⟩
          rw [decide_eq_false hsp]
          clear hG hsp hiff hn6
          go_wp2_with (refine wpList_store_net rfl 71 (.tmp 2) (.tmp 43) rfl (w.heap.size + 1) 0 (fun _ => 0) rfl rfl Try.sizeNet 0 (fun _ => 0) hz6 ?_; intro w5 hp)
          exact netRet 0 (fun _ => 0) false _ rfl rfl hp.net rfl (HP.out _ (HB6.out.trans (hp.below.mono (by omega))))
  · have hsz' : inB L.length 1 16 = false := by simpa using hsz
    have hng : ¬ GraphP L := fun hg => by have := hg.1; simp [inB] at hsz'; omega
    have HP : Hid (∀ w', Below w.heap.size w w' → GaveNet w L (.returned (.tuple #[.agg (netArr 0 (fun _ => 0)), .bool false])) w') := fun w' hw' => ⟨by rw [netArr_no hng, decide_eq_false hng], hw'⟩
    have HS := Lib.hid hsz'
    clear hsz hsz' hng
    obtain ⟨a0, c0, rfl⟩ := h.slice
    have hg1 : NetBlk 71 ((w.alloc (.cells #[.slice a0 L.length c0] 26)).alloc (.cells (netArr 0 (fun _ => 0)) 71)) (w.heap.size + 1) 0 (fun _ => 0) := by
      have := heap_alloc_new (w.alloc (.cells #[.slice a0 L.length c0] 26)) (.cells (netArr 0 (fun _ => 0)) 71)
      rwa [size_alloc1] at this
    have hb0 : Below w.heap.size w ((w.alloc (.cells #[.slice a0 L.length c0] 26)).alloc (.cells (netArr 0 (fun _ => 0)) 71)) :=
      ((Below.refl _ _).alloc (Nat.le_refl _) _).alloc (by rw [size_alloc1]; omega) _
    have HB0 := Lib.hid hb0
    clear hb0 h
    go_enter Try.func70, Try.ntmps70
    go_wp2_with fail
    refine (sizeOk_any _ _).mono ?_
    rintro e w' ⟨rfl, rfl⟩
    rw [HS.out]
    go_wp2_with (refine wpList_store_net rfl 71 (.tmp 2) (.tmp 16) rfl (w.heap.size + 1) 0 (fun _ => 0) rfl rfl Try.sizeNet 0 (fun _ => 0) hg1 ?_; intro w5 hp)
    exact netRet 0 (fun _ => 0) false _ rfl rfl hp.net rfl (HP.out _ (HB0.out.trans (hp.below.mono (by omega))))

end Go.Proofs.Ytikfbfclbmlopaa

/- Walks: the program's GraphOk; the laws' helpers in one form. -/
namespace Go.Proofs.Ytikfbfclbmlopaa
open Go.RowKit

theorem netBlk_new (w : World) (n : Nat) (M : Nat → Nat) : NetBlk 71 (w.alloc (.cells (netArr n M) 71)) w.heap.size n M := heap_alloc_new _ _

/-- A new box for a net, and a net stored into it: nothing that was there has turned. -/
theorem NetPut.since {T : TypeId} {w w' : World} {o : Obj} {n : Nat} {M : Nat → Nat} (hp : NetPut T (w.alloc o) w' w.heap.size n M) : Below w.heap.size w w' :=
  ((Below.refl _ _).alloc (Nat.le_refl _) _).trans hp.below

set_option maxHeartbeats 400000 in
theorem implGraphOk_any (v : Value) (L : List (List Int)) (w : World) (h : GridAt w v L) :
    Calls Try.prog 19 #[.agg #[v]] w fun e w' => e = .returned (.bool (decide (GraphP L))) ∧ Below w.heap.size w w' := by
  obtain ⟨a0, c0, rfl⟩ := h.slice
  have hbel : Below w.heap.size w (w.alloc (.cells #[.slice a0 L.length c0] 26)) := (Below.refl _ _).alloc (Nat.le_refl _) _
  have hk := h.keep hbel
  have HB := Lib.hid hbel
  clear hbel
  go_enter Try.func19, Try.ntmps19
  go_wp2_with fail
  refine (netOf_any _ _ _ hk).mono ?_
  rintro e w1 ⟨rfl, hb1⟩
  have HB1 : Hid (Below w.heap.size w w1) := HB.out.trans (hb1.mono (by simp))
  have hz : w.heap.size ≤ w1.heap.size := HB1.out.size
  have hnb := netBlk_new w1 0 (fun _ => 0)
  clear hb1 hk h
  go_wp2_with (refine wpList_store_net rfl 71 (.tmp 3) (.tmp 8) rfl w1.heap.size (netN L) (netM L) rfl rfl Try.sizeNet 0 (fun _ => 0) hnb ?_; intro w3 hp)
  go_ret
  exact ⟨rfl, (HB1.out.alloc hz _).trans (hp.below.mono hz)⟩

/-! ### The laws' helpers, all in one form -/

/-- .. a slice of int64 of its own make. -/
def GaveRow (w : World) (xs : List Int) (e : Ending) (w' : World) : Prop :=
  ∃ n a c, e = .returned (.slice a n c) ∧ OwnRow 2 w' w.heap.size (.slice a n c) xs ∧ Below w.heap.size w w'
theorem toInt64S_gave (v : Value) (xs : List Int) (w : World) (h : RowAt w v xs) (hs : xs.length ≤ 1048576) : Calls Try.prog 54 #[v] w (GaveRow w xs) :=
  (toInt64S_any v xs w h hs).mono fun _ _ ⟨h1, h2, h3, _⟩ => ⟨_, _, _, h1, h2, h3⟩
theorem eqInt64S_b (v v' : Value) (xs ys : List Int) (w : World) (h : RowAt w v xs) (h' : RowAt w v' ys) :
    Calls Try.prog 55 #[v, v'] w fun e w' => e = .returned (.bool (decide (xs = ys))) ∧ Below w.heap.size w w' :=
  (eqInt64S_any v v' xs ys w h h').mono fun _ _ ⟨h1, h2⟩ => ⟨h1, h2.below _⟩
theorem eqInt64SS_b (v v' : Value) (xs ys : List (List Int)) (w : World) (h : GridAt w v xs) (h' : GridAt w v' ys) :
    Calls Try.prog 106 #[v, v'] w fun e w' => e = .returned (.bool (decide (xs = ys))) ∧ Below w.heap.size w w' :=
  (eqInt64SS_any v v' xs ys w h h').mono fun _ _ ⟨h1, h2⟩ => ⟨h1, h2.below _⟩
theorem szInt64SS_b (v : Value) (L : List (List Int)) (left : Int) (w : World) (h : GridAt w v L) (h0 : 0 ≤ left) (h1 : left ≤ 1048576) :
    Calls Try.prog 101 #[v, .int .i64 left] w fun e w' => e = .returned (.int .i64 (szGrid L left)) ∧ Below w.heap.size w w' :=
  (szInt64SS_any v L left w h h0 h1).mono fun _ _ ⟨h1, h2⟩ => ⟨h1, by rw [h2]; exact Below.refl _ _⟩

end Go.Proofs.Ytikfbfclbmlopaa

/- A slice of slices that the call makes itself, appended to row by row. No statement of the program. -/
namespace Go.Proofs.Ytikfbfclbmlopaa
open Go.RowKit

theorem nthR_append_last (L : List (List Int)) (xs : List Int) : nthR (L ++ [xs]) L.length = xs := by simp [nthR]
theorem nthR_append_old {L : List (List Int)} {xs : List Int} {i : Nat} (h : i < L.length) : nthR (L ++ [xs]) i = nthR L i := by simp [nthR, List.getElem?_append_left h]
theorem nth_append_last (xs : List Int) (x : Int) : nth (xs ++ [x]) xs.length = x := by simp [nth]
theorem nth_append_old {xs : List Int} {x : Int} {i : Nat} (h : i < xs.length) : nth (xs ++ [x]) i = nth xs i := by simp [nth, List.getElem?_append_left h]

/-- What an OwnGrid owns, as the laws on append say it. -/
theorem OwnGrid.owns {T T1 : TypeId} {w : World} {B : Nat} {v : Value} {L : List (List Int)} (h : OwnGrid T T1 w B v L) :
    ∃ R : Nat → Value, w.ownsRow B T1 1 v L.length ((List.range L.length).map R) ∧ (∀ i, i < L.length → OwnRow T w B (R i) (nthR L i)) ∧ ∀ i j k, i < j → j < L.length → (R i).ownBlock = some k → (R j).ownBlock ≠ some k := by
  obtain ⟨R, h2, h3, h4, h5⟩ := h
  refine ⟨R, ⟨by simp, ?_⟩, h4, h5⟩
  rcases h3 with ⟨e, e'⟩ | ⟨g, cap, cur, e, hg, hh, l1, l2, hs, hc⟩
  · exact Or.inl ⟨e, by rw [e']; rfl⟩
  · refine Or.inr ⟨g, cap, cur, e, hg, hh, l1, l2, by omega, ?_⟩
    apply List.ext_getElem?
    intro i
    rw [List.getElem?_take, Nat.mul_one]
    by_cases hi : i < L.length
    · rw [if_pos hi]
      have := hc i hi
      simp [hi]
      simpa using this
    · rw [if_neg hi, List.getElem?_eq_none (by simp; omega)]

theorem OwnGrid.of_owns {T T1 : TypeId} {w : World} {B : Nat} {v : Value} {L : List (List Int)} {R : Nat → Value} (hm : L.length ≤ maxLen) (h : w.ownsRow B T1 1 v L.length ((List.range L.length).map R)) (h4 : ∀ i, i < L.length → OwnRow T w B (R i) (nthR L i))
    (h5 : ∀ i j k, i < j → j < L.length → (R i).ownBlock = some k → (R j).ownBlock ≠ some k) : OwnGrid T T1 w B v L := by
  refine ⟨R, hm, ?_, h4, h5⟩
  rcases h.2 with ⟨e, e'⟩ | ⟨g, cap, cur, e, hg, hh, l1, l2, hs, hc⟩
  · exact Or.inl ⟨e, List.length_eq_zero_iff.1 e'⟩
  · refine Or.inr ⟨g, cap, cur, e, hg, hh, l1, l2, by omega, fun i hi => ?_⟩
    have h6 : (cur.toList.take (L.length * 1))[i]? = ((List.range L.length).map R)[i]? := by rw [hc]
    rw [List.getElem?_take, Nat.mul_one, if_pos hi] at h6
    simp [hi] at h6
    simpa using h6

/-- A row stays what it is while another block, of another type, is written or new blocks are laid. -/
theorem OwnRow.grown {T T1 : TypeId} {w w' : World} {B B' : Nat} {v u : Value} {xs : List Int} {n : Nat} {ys : List Value} (h : OwnRow T w B v xs) (hu : w.ownsRow B' T1 1 u n ys) (hT : T ≠ T1) (hg : w.grownBy w' u.ownBlock) : OwnRow T w' B v xs := by
  obtain ⟨h1, h2, h3⟩ := h
  refine ⟨h1, h2, ?_⟩
  rcases h3 with h3 | ⟨g, cap, cur, e, hgB, hh, r⟩
  · exact Or.inl h3
  · refine Or.inr ⟨g, cap, cur, e, hgB, ?_, r⟩
    obtain ⟨hlt, _⟩ := Array.getElem?_eq_some_iff.1 hh
    rw [hg.block g hlt]
    · exact hh
    · intro e2
      rcases hu.2 with ⟨e3, _⟩ | ⟨g', cap', cur', e3, _, hh', _⟩
      · rw [e3] at e2; simp [Value.ownBlock] at e2
      · rw [e3] at e2
        simp [Value.ownBlock] at e2
        subst e2
        rw [hh] at hh'
        simp at hh'
        exact hT hh'.2

theorem OwnRow.one {T : TypeId} {w : World} {B : Nat} {v : Value} {xs : List Int} (h : OwnRow T w B v xs) : v.oneCell' = true := by
  rcases h.2.2 with ⟨e, _⟩ | ⟨g, cap, cur, e, _⟩
  · rw [e]; rfl
  · rw [e]; rfl

/-- A grid of the old world w0, a row laid since: appended, one grid. -/
theorem OwnGrid.snoc {T T1 : TypeId} {w0 w w1 : World} {B n : Nat} {v v' rv : Value} {L : List (List Int)} {xs : List Int} (hT : T ≠ T1) (hb : Below w0.heap.size w0 w) (hB : B ≤ w0.heap.size) (hr : OwnRow T w w0.heap.size rv xs)
    (hm : n = L.length) (hlen : L.length + 1 ≤ maxLen) (R : Nat → Value) (hR : w0.ownsRow B T1 1 v L.length ((List.range L.length).map R)) (hRr : ∀ i, i < L.length → OwnRow T w0 B (R i) (nthR L i)) (hRd : ∀ i j k, i < j → j < L.length → (R i).ownBlock = some k → (R j).ownBlock ≠ some k)
    (hown : w1.ownsRow B T1 1 v' (n + 1) ((List.range L.length).map R ++ [rv])) (hg : w.grownBy w1 v.ownBlock) : OwnGrid T T1 w1 B v' (L ++ [xs]) := by
  subst hm
  have hown0 : w.ownsRow B T1 1 v L.length ((List.range L.length).map R) := by
    refine ⟨hR.1, ?_⟩
    rcases hR.2 with h1 | ⟨g, cap, cur, e, hgB, hh, r⟩
    · exact Or.inl h1
    · obtain ⟨hlt, _⟩ := Array.getElem?_eq_some_iff.1 hh
      exact Or.inr ⟨g, cap, cur, e, hgB, by rw [hb.block g hlt]; exact hh, r⟩
  have eL : (L ++ [xs]).length = L.length + 1 := by simp
  have eR : (List.range (L ++ [xs]).length).map (fun i => if i < L.length then R i else rv) = (List.range L.length).map R ++ [rv] := by
    rw [eL, List.range_succ, List.map_append]
    congr 1
    · apply List.map_congr_left
      intro i hi
      rw [if_pos (by simpa using hi)]
    · simp
  refine OwnGrid.of_owns (R := fun i => if i < L.length then R i else rv) (by rw [eL]; exact hlen) ?_ ?_ ?_
  · rw [eR, eL]; exact hown
  · intro i hi
    rw [eL] at hi
    by_cases h1 : i < L.length
    · simp only [h1, if_true]
      rw [nthR_append_old h1]
      exact ((hRr i h1).keep hb).grown hown0 hT hg
    · obtain rfl : i = L.length := by omega
      simp only [Nat.lt_irrefl, if_false]
      rw [nthR_append_last]
      exact (hr.mono hB).grown hown0 hT hg
  · intro i j k hij hj hk
    rw [eL] at hj
    have hi : i < L.length := by omega
    simp only [hi, if_true] at hk
    by_cases h1 : j < L.length
    · simp only [h1, if_true]
      exact hRd i j k hij h1 hk
    · simp only [h1, if_false]
      intro e
      have := (hRr i hi).lt k hk
      have := hr.lt k e
      omega

end Go.Proofs.Ytikfbfclbmlopaa
