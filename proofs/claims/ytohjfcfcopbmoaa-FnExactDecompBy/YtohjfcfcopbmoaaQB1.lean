/- The texts B1, B2, B3, joined. -/
import Derived.Test.YtohjfcfcopbmoaaQA6
import Derived.Laws.BitsAllLaws

/- Walks: masks. -/
namespace Go.Proofs.Ytohjfcfcopbmoaa
open Go.RowKit

theorem isVertex_any (v n : Int) (w : World) : Calls Try.prog 63 #[.int .i64 v, .int .i64 n] w fun e w' => e = .returned (.bool (decide (0 ≤ v ∧ v < n))) ∧ w = w' := by
  by_cases h1 : 0 ≤ v
  · by_cases h2 : v < n
    · have e : decide (0 ≤ v ∧ v < n) = true := by simp [h1, h2]
      rw [e]
      go_enter Try.func63, Try.ntmps63
      go_wp2
      go_ret
      exact ⟨rfl, rfl⟩
    · have e : decide (0 ≤ v ∧ v < n) = false := by simp [h2]
      have d2 : decide (v < n) = false := by simpa using h2
      rw [e]
      go_enter Try.func63, Try.ntmps63
      go_wp2
      go_ret
      exact ⟨rfl, rfl⟩
  · have e : decide (0 ≤ v ∧ v < n) = false := by simp [h1]
    have d1 : decide (0 ≤ v) = false := by simpa using h1
    rw [e]
    go_enter Try.func63, Try.ntmps63
    go_wp2
    go_ret
    exact ⟨rfl, rfl⟩

theorem sizeOk_any (n : Int) (w : World) : Calls Try.prog 73 #[.int .i64 n] w fun e w' => e = .returned (.bool (inB n 1 16)) ∧ w = w' := by
  by_cases h1 : 1 ≤ n
  · by_cases h2 : n ≤ 16
    · have e : inB n 1 16 = true := by simp [inB, h1, h2]
      rw [e]
      go_enter Try.func73, Try.ntmps73
      go_wp2
      go_ret
      exact ⟨rfl, rfl⟩
    · have e : inB n 1 16 = false := by simp [inB, h2]
      have d2 : decide (n ≤ 16) = false := by simpa using h2
      rw [e]
      go_enter Try.func73, Try.ntmps73
      go_wp2
      go_ret
      exact ⟨rfl, rfl⟩
  · have e : inB n 1 16 = false := by simp [inB, h1]
    have d1 : decide (1 ≤ n) = false := by simpa using h1
    rw [e]
    go_enter Try.func73, Try.ntmps73
    go_wp2
    go_ret
    exact ⟨rfl, rfl⟩

theorem bit_test (M k : Nat) (hM : M < 65536) : (bits BinOp.and IntKind.u32 ((M : Int) / 2 ^ k) 1 == 1) = M.testBit k := by
  have h1 : ((M : Int) / 2 ^ k) = ((M / 2 ^ k : Nat) : Int) := by simp
  have h2 : M / 2 ^ k ≤ M := Nat.div_le_self _ _
  have h3 : (1 : Int) = ((1 : Nat) : Int) := rfl
  rw [h1, h3, u32_and_nat _ _ (by omega) (by omega)]
  rw [Nat.testBit_eq_decide_div_mod_eq, Nat.and_one_is_mod, Bool.eq_iff_iff, beq_iff_eq, decide_eq_true_iff]
  omega

/-- Does mask M hold v? -/
def hasM (M : Nat) (v : Int) : Bool := decide (0 ≤ v ∧ v < 16) && M.testBit v.toNat

theorem has_any (M : Nat) (v : Int) (w : World) (hM : M < 65536) : Calls Try.prog 42 #[.int .u32 M, .int .i64 v] w fun e w' => e = .returned (.bool (hasM M v)) ∧ w = w' := by
  unfold hasM
  by_cases h1 : 0 ≤ v ∧ v < 16
  · have e : decide (0 ≤ v ∧ v < 16) = true := by simpa using h1
    have HE := Lib.hid e
    clear e
    obtain ⟨h2, h3⟩ := h1
    go_enter Try.func42, Try.ntmps42
    go_wp2_with fail
    refine (isVertex_any _ _ _).mono ?_
    rintro e w' ⟨rfl, rfl⟩
    rw [HE.out]
    go_wp2
    go_ret
    exact ⟨ret_bool (by rw [bit_test M _ hM, HE.out]; rfl), rfl⟩
  · have e : decide (0 ≤ v ∧ v < 16) = false := by simpa using h1
    have HE := Lib.hid e
    clear e h1
    go_enter Try.func42, Try.ntmps42
    go_wp2_with fail
    refine (isVertex_any _ _ _).mono ?_
    rintro e w' ⟨rfl, rfl⟩
    rw [HE.out]
    go_wp2
    go_ret
    exact ⟨ret_bool (by rw [HE.out]; rfl), rfl⟩

theorem pow_lt16 {k : Nat} (hk : k < 16) : 2 ^ k < 65536 := Nat.pow_lt_pow_right (by omega) hk
theorem bit_set (M k : Nat) (hM : M < 65536) (hk : k < 16) : bits BinOp.or IntKind.u32 (M : Int) (2 ^ k % 4294967296) = ((M ||| 2 ^ k : Nat) : Int) := by
  have h2 := pow_lt16 hk
  have h1 : ((2 : Int) ^ k % 4294967296) = ((2 ^ k : Nat) : Int) := by
    have : ((2 : Int) ^ k) = ((2 ^ k : Nat) : Int) := by simp
    rw [this]
    generalize 2 ^ k = q at h2
    omega
  rw [h1, u32_or_nat _ _ (by omega) (by omega)]
theorem or_lt16 {M k : Nat} (hM : M < 65536) (hk : k < 16) : M ||| 2 ^ k < 65536 := by
  have h2 := pow_lt16 hk
  exact Nat.or_lt_two_pow (n := 16) hM h2

set_option maxHeartbeats 400000 in
theorem add_any (b o M : Nat) (v : Int) (w : World) (hc : w.cell? ⟨b, o, none⟩ = some (.int .u32 M)) (hf : w.frozen? ⟨b, o, none⟩ = false) (hM : M < 65536) (h1 : 0 ≤ v) (h2 : v < 16) :
    Calls Try.prog 43 #[.pointer (some ⟨b, o, none⟩), .int .i64 v] w fun e w' => e = .returned (.tuple #[]) ∧ Drawn (w.setCell ⟨b, o, none⟩ (.int .u32 ((M ||| 2 ^ v.toNat : Nat) : Int))) w' := by
  have e : decide (0 ≤ v ∧ v < 16) = true := by simp [h1, h2]
  have HE := Lib.hid e
  clear e
  go_enter Try.func43, Try.ntmps43
  go_wp2_with fail
  refine (isVertex_any _ _ _).mono ?_
  rintro e w' ⟨rfl, rfl⟩
  rw [HE.out]
  go_wp2
  go_region
  go_end0
  exact ⟨rfl, by rw [bit_set M _ hM (by omega)]; exact (Drawn.refl _).drew⟩

end Go.Proofs.Ytohjfcfcopbmoaa

/- Walks: the mask of a row. -/
namespace Go.Proofs.Ytohjfcfcopbmoaa
open Go.RowKit

/-- The mask of the first k elements. -/
def maskTo (xs : List Int) : Nat → Nat
  | 0 => 0
  | k + 1 => maskTo xs k ||| 2 ^ (nth xs k).toNat

theorem maskTo_lt {xs : List Int} {n : Int} (h : ∀ j, j < xs.length → 0 ≤ nth xs j ∧ nth xs j ≤ n - 1) (hn : n ≤ 16) : ∀ k, k ≤ xs.length → maskTo xs k < 65536
  | 0, _ => by simp [maskTo]
  | k + 1, hk => or_lt16 (maskTo_lt h hn k (by omega)) (by have := h k (by omega); omega)

theorem maskTo_bit (xs : List Int) (k i : Nat) (h : ∀ j, j < k → 0 ≤ nth xs j) : (maskTo xs k).testBit i = true ↔ ∃ j, j < k ∧ nth xs j = i := by
  induction k with
  | zero => simp [maskTo]
  | succ k ih =>
    have h0 := h k (by omega)
    rw [maskTo, Nat.testBit_or, Bool.or_eq_true, ih (fun j hj => h j (by omega)), Nat.testBit_two_pow, decide_eq_true_iff]
    constructor
    · rintro (⟨j, hj, e⟩ | e)
      · exact ⟨j, by omega, e⟩
      · exact ⟨k, by omega, by omega⟩
    · rintro ⟨j, hj, e⟩
      by_cases hjk : j = k
      · right; subst hjk; omega
      · exact Or.inl ⟨j, by omega, e⟩

/-- What maskOf hands back. -/
def GaveMask (w : World) (xs : List Int) (n : Int) (e : Ending) (w' : World) : Prop :=
  e = .returned (.tuple #[.int .u32 (if SetP xs n then (maskTo xs xs.length : Int) else 0), .bool (decide (SetP xs n))]) ∧ Below w.heap.size w w'

/-- The last element before place k, -1 at the first. -/
def lastTo (xs : List Int) : Nat → Int
  | 0 => -1
  | k + 1 => nth xs k
theorem stepOk_iff (xs : List Int) (n : Int) (k : Nat) (hp : ∀ j, j < k → StepOk xs n j) : StepOk xs n k ↔ lastTo xs k < nth xs k ∧ nth xs k < n := by
  unfold StepOk
  cases k with
  | zero => simp [lastTo]; omega
  | succ k =>
    have := (hp k (by omega)).1
    simp [lastTo]; omega

theorem rowIs_drawn {w w' : World} {b n : Nat} {t : TypeId} {f : Nat → Value} (h : w.rowIs b t n f) (hd : Drawn w w') : w'.rowIs b t n f := h.of_block ((hd.below w.heap.size).block _ h.lt)

set_option maxHeartbeats 800000 in
theorem maskOf_any (v : Value) (xs : List Int) (n : Int) (w : World) (h : RowAt w v xs) (hn0 : 0 ≤ n) (hn1 : n ≤ 16) :
    Calls Try.prog 74 #[v, .int .i64 n] w (GaveMask w xs n) := by
  have hl := h.len
  unfold maxLen at hl
  by_cases h0 : xs.length = 0
  · have e : SetP xs n := by intro i hi; omega
    have HP : Hid (GaveMask w xs n (.returned (.tuple #[.int .u32 0, .bool true])) (w.alloc (.cells #[.int .u32 0] 58))) :=
      ⟨by rw [if_pos e, h0]; simp [e, maskTo], (Below.refl _ _).alloc (Nat.le_refl _) _⟩
    obtain ⟨a, c, rfl⟩ := h.zero h0
    clear h h0 hl e
    go_enter Try.func74, Try.ntmps74
    go_wp2
    refine wp_loop_rounds 1 ?_
    rw [rounds_succ]
    go_wp2
    go_ret2
    exact HP.out
  · obtain ⟨b, o, c, rfl, l1, l2, hc⟩ := h.pos (by omega)
    have HC := Lib.hid hc
    clear hc h0
    go_enter Try.func74, Try.ntmps74
    go_wp2
    go_loopw [7, 12] (fun l i wr => ∃ k : Nat, k ≤ xs.length ∧ i = .int .i64 k ∧ l = .int .i64 (lastTo xs k) ∧ (∀ j, j < k → StepOk xs n j) ∧ wr.rowIs w.heap.size 58 1 (fun _ => .int .u32 (maskTo xs k : Int)) ∧ Below w.heap.size w wr) (fun _ i _ => xs.length - (intOf i).toNat)
    case atStart => exact ⟨0, Nat.zero_le _, rfl, rfl, (fun j hj => absurd hj (by omega)), World.rowIs_alloc _ _ _ _ (fun i hi => by simp at hi; subst hi; rfl), (Below.refl _ _).alloc (Nat.le_refl _) _⟩
    case round =>
      obtain ⟨k, hk, rfl, rfl, he, hr, hb⟩ := hrel
      have HE := Lib.hid he
      have HB := Lib.hid hb
      have HR := Lib.hid hr
      clear he
      by_cases hlt : k < xs.length
      · have hck := cell_keep hb (HC.out k hlt)
        have hmc := hr.cell (i := 0) (by omega)
        have hmf := hr.frozen 0
        have hso := stepOk_iff xs n k HE.out
        have hml : maskTo xs k < 65536 := by
          have : ∀ (j : Nat), j < k → 0 ≤ nth xs j ∧ nth xs j ≤ n - 1 := fun j hj => ⟨(HE.out j hj).1, (HE.out j hj).2.1⟩
          clear HE hso
          have hgen : ∀ q, q ≤ k → maskTo xs q < 65536 := by
            intro q
            induction q with
            | zero => intro _; simp [maskTo]
            | succ q ih => intro hq; exact or_lt16 (ih (by omega)) (by have := this q (by omega); omega)
          exact hgen k (Nat.le_refl _)
        by_cases hok : StepOk xs n k
        · have hok' := hso.1 hok
          obtain ⟨ho1, ho2⟩ := hok'
          have hx0 : 0 ≤ nth xs k := hok.1
          have HO := Lib.hid hok
          have d1 : decide (nth xs k ≤ lastTo xs k) = false := by simp; omega
          have d2 : decide (n ≤ nth xs k) = false := by simp; omega
          clear hok hso hr hb
          go_wp2_with fail
          refine (add_any _ _ _ _ _ hmc hmf hml hx0 (by omega)).mono ?_
          rintro e w2 ⟨rfl, hd2⟩
          go_wp2
          go_roundw
          case rel =>
            refine ⟨k + 1, by omega, by go_num, rfl, (fun j hj => by rcases Nat.lt_succ_iff_lt_or_eq.1 hj with h | h; exact HE.out j h; subst h; exact HO.out), ?_, (HB.out.setCell (Nat.le_refl _) _).trans (hd2.below _)⟩
            exact (rowIs_drawn (HR.out.set 0 _) hd2).congr (fun j hj => by simp [show j = 0 from by omega, maskTo])
          case measure => simp [intOf]; omega
        · have HO := Lib.hid hok
          have HP : Hid (∀ w', Below w.heap.size w w' → GaveMask w xs n (.returned (.tuple #[.int .u32 0, .bool false])) w') := by
            intro w' hw'
            have hns : ¬ SetP xs n := fun hs => hok (hs k hlt)
            exact ⟨by rw [if_neg hns]; simp [hns], hw'⟩
          by_cases hx : nth xs k ≤ lastTo xs k
          · have d1 : decide (nth xs k ≤ lastTo xs k) = true := by simpa using hx
            clear hok hso hr hb
            go_wp2
            go_ret2
            exact HP.out _ HB.out
          · have d1 : decide (nth xs k ≤ lastTo xs k) = false := by simpa using hx
            have hx2 : n ≤ nth xs k := by
              rcases Int.lt_or_le (nth xs k) n with h | h
              · exact absurd (hso.2 ⟨by omega, h⟩) hok
              · exact h
            have d2 : decide (n ≤ nth xs k) = true := by simpa using hx2
            clear hok hso hr hb
            go_wp2
            go_ret2
            exact HP.out _ HB.out
      · obtain rfl : k = xs.length := by omega
        have hmc := hr.cell (i := 0) (by omega)
        have HP : Hid (GaveMask w xs n (.returned (.tuple #[.int .u32 (maskTo xs xs.length : Int), .bool true])) wr) := by
          have hs : SetP xs n := HE.out
          exact ⟨by rw [if_pos hs]; simp [hs], hb⟩
        clear hr hb
        go_wp2
        go_ret2
        exact HP.out

end Go.Proofs.Ytohjfcfcopbmoaa

/- Walks: nets. -/
namespace Go.Proofs.Ytohjfcfcopbmoaa
open Go.RowKit

/-- No vertex is its own neighbour; all neighbours of the first n are mutual. -/
def SimpleAt (M : Nat → Nat) (v : Nat) : Prop := hasM (M v) v = false ∧ ∀ u, u < v → hasM (M u) v = hasM (M v) u
instance (M : Nat → Nat) (v : Nat) : Decidable (SimpleAt M v) := by unfold SimpleAt; infer_instance
def SimpleP (n : Nat) (M : Nat → Nat) : Prop := ∀ v, v < n → SimpleAt M v
instance (n : Nat) (M : Nat → Nat) : Decidable (SimpleP n M) := by unfold SimpleP; infer_instance

/-- Block b holds a net: n vertices, masks M. -/
def NetAt (w : World) (b n : Nat) (M : Nat → Nat) : Prop :=
  w.cell? ⟨b, 0, none⟩ = some (.int .i64 n) ∧ ∀ i, i < 16 → w.cell? ⟨b, 1 + i, none⟩ = some (.int .u32 (M i : Int))
theorem NetAt.keep {w w' : World} {b n : Nat} {M : Nat → Nat} (h : NetAt w b n M) (hb : Below w.heap.size w w') : NetAt w' b n M :=
  ⟨cell_keep hb h.1, fun i hi => cell_keep hb (h.2 i hi)⟩
theorem NetAt.drawn {w w' : World} {b n : Nat} {M : Nat → Nat} (h : NetAt w b n M) (hb : Drawn w w') : NetAt w' b n M := h.keep (hb.below _)

set_option maxHeartbeats 800000 in
theorem simple_any (b n : Nat) (M : Nat → Nat) (w : World) (h : NetAt w b n M) (hn : n ≤ 16) (hM : ∀ i, i < n → M i < 65536) :
    Calls Try.prog 75 #[.pointer (some ⟨b, 0, none⟩)] w fun e w' => e = .returned (.bool (decide (SimpleP n M))) ∧ Drawn w w' := by
  have hn0 := h.1
  have H := Lib.hid h
  have HM := Lib.hid hM
  clear h hM
  go_enter Try.func75, Try.ntmps75
  go_wp2
  go_loopw [9] (fun i wr => ∃ k : Nat, k ≤ n ∧ i = .int .i64 k ∧ (∀ j, j < k → SimpleAt M j) ∧ Drawn w wr) (fun i _ => n - (intOf i).toNat)
  case atStart => exact ⟨0, Nat.zero_le _, rfl, (fun j hj => absurd hj (by omega)), Drawn.refl _⟩
  case round =>
    obtain ⟨k, hk, rfl, he, hd⟩ := hrel
    have HE := Lib.hid he
    clear he hn0
    by_cases hlt : k < n
    · have hck := cell_drawn hd (H.out.2 k (by omega))
      have hk16 : (k : Int) < 16 := by omega
      have hMk := HM.out k hlt
      go_wp2_with fail
      refine (has_any _ _ _ hMk).mono ?_
      rintro e w' ⟨rfl, rfl⟩
      by_cases hs : hasM (M k) k = true
      · have HS := Lib.hid hs
        rw [hs]
        clear hs
        go_wp2
        go_ret
        exact ⟨ret_bool (by symm; rw [decide_eq_false_iff_not]; intro h1; have := (h1 k hlt).1; rw [HS.out] at this; exact absurd this (by simp)), hd⟩
      · have hs' : hasM (M k) k = false := by simpa using hs
        have HS := Lib.hid hs'
        rw [hs']
        clear hs hs'
        have HD := Lib.hid hd
        go_wp2
        go_loopw [21] (fun i w3 => ∃ q : Nat, q ≤ k ∧ i = .int .i64 q ∧ (∀ j, j < q → hasM (M j) k = hasM (M k) j) ∧ Drawn wr w3) (fun i _ => k - (intOf i).toNat)
        case atStart => exact ⟨0, Nat.zero_le _, rfl, (fun j hj => absurd hj (by omega)), Drawn.refl _⟩
        case round =>
          rename World => w3
          obtain ⟨q, hq, rfl, hf, hd3⟩ := hrel
          have HF := Lib.hid hf
          clear hf
          by_cases hql : q < k
          · have hcq := cell_drawn (HD.out.trans hd3) (H.out.2 q (by omega))
            have hck3 := cell_drawn hd3 hck
            have hq16 : (q : Int) < 16 := by omega
            have hMq := HM.out q (by omega)
            have call1 : Hid (∀ m, Calls Try.prog 42 #[.int .u32 (M q : Int), .int .i64 (k : Int)] (w3.drewN m) fun e w4 => e = .returned (.bool (hasM (M q) k)) ∧ w4 = w3.drewN m) :=
              fun m => (has_any _ _ _ hMq).mono fun _ _ ⟨h1, h2⟩ => ⟨h1, h2.symm⟩
            have call2 : Hid (∀ m, Calls Try.prog 42 #[.int .u32 (M k : Int), .int .i64 (q : Int)] (w3.drewN m) fun e w4 => e = .returned (.bool (hasM (M k) q)) ∧ w4 = w3.drewN m) :=
              fun m => (has_any _ _ _ hMk).mono fun _ _ ⟨h1, h2⟩ => ⟨h1, h2.symm⟩
            by_cases hx : hasM (M q) k = hasM (M k) q
            · have hxb : (hasM (M q) k == hasM (M k) q) = true := by rw [hx]; simp
              have HX := Lib.hid hx
              clear hx
              go_wp2
              go_quiet ((first | (go_at_call_of 42 (M q); exact Calls.quiet_of_same (call1.out _)) | (go_at_call_of 42 (M k); exact Calls.quiet_of_same (call2.out _))))
              go_wp2
              go_roundw
              case rel => exact ⟨q + 1, by omega, by go_num, (fun j hj => by rcases Nat.lt_succ_iff_lt_or_eq.1 hj with h | h; exact HF.out j h; subst h; exact HX.out), hd3.more _⟩
              case measure => simp [intOf]; omega
            · have hxb : (hasM (M q) k == hasM (M k) q) = false := by simpa using hx
              have HX := Lib.hid hx
              clear hx
              go_wp2
              go_quiet ((first | (go_at_call_of 42 (M q); exact Calls.quiet_of_same (call1.out _)) | (go_at_call_of 42 (M k); exact Calls.quiet_of_same (call2.out _))))
              go_wp2
              go_ret
              exact ⟨ret_bool (by symm; rw [decide_eq_false_iff_not]; intro h1; exact HX.out ((h1 k hlt).2 q hql)), HD.out.trans (hd3.more _)⟩
          · obtain rfl : q = k := by omega
            go_wp2
            go_roundw
            case rel => exact ⟨q + 1, by omega, by go_num, (fun j hj => by rcases Nat.lt_succ_iff_lt_or_eq.1 hj with h | h; exact HE.out j h; subst h; exact ⟨HS.out, HF.out⟩), HD.out.trans hd3⟩
            case measure => simp [intOf]; omega
    · obtain rfl : k = n := by omega
      go_wp2
      go_ret
      exact ⟨ret_bool (by symm; rw [decide_eq_true_iff]; exact HE.out), hd⟩

end Go.Proofs.Ytohjfcfcopbmoaa
