/- Walks: the mask of a row. -/
import Derived.Test.YtjbfoiolcpigfaaDoorB1
namespace Go.Proofs.YtjbfoiolcpigfaaDoor
open Go.RowKit

/-- The mask of the first k elements. -/
def maskTo (xs : List Int) : Nat → Nat
  | 0 => 0
  | k + 1 => maskTo xs k ||| 2 ^ (nth xs k).toNat

theorem maskTo_lt {xs : List Int} {n : Int} (h : ∀ j, j < xs.length → 0 ≤ nth xs j ∧ nth xs j ≤ n - 1) (hn : n ≤ 16) : ∀ k, k ≤ xs.length → maskTo xs k < 65536
  | 0, _ => by simp [maskTo]
  | k + 1, hk => or_lt16 (maskTo_lt h hn k (by omega)) (by have := h k (by omega); omega)

theorem maskTo_bit (xs : List Int) (k i : Nat) (h : ∀ j, j < k → 0 ≤ nth xs j) : (maskTo xs k).testBit i = true ↔ ∃ j, j < k ∧ nth xs j = i := by
  induction k with
  | zero => simp [maskTo]
  | succ k ih =>
    have h0 := h k (by omega)
    rw [maskTo, Nat.testBit_or, Bool.or_eq_true, ih (fun j hj => h j (by omega)), Nat.testBit_two_pow, decide_eq_true_iff]
    constructor
    · rintro (⟨j, hj, e⟩ | e)
      · exact ⟨j, by omega, e⟩
      · exact ⟨k, by omega, by omega⟩
    · rintro ⟨j, hj, e⟩
      by_cases hjk : j = k
      · right; subst hjk; omega
      · exact Or.inl ⟨j, by omega, e⟩

/-- What maskOf hands back. -/
def GaveMask (w : World) (xs : List Int) (n : Int) (e : Ending) (w' : World) : Prop :=
  e = .returned (.tuple #[.int .u32 (if SetP xs n then (maskTo xs xs.length : Int) else 0), .bool (decide (SetP xs n))]) ∧ Below w.heap.size w w'

/-- The last element before place k, -1 at the first. -/
def lastTo (xs : List Int) : Nat → Int
  | 0 => -1
  | k + 1 => nth xs k
theorem stepOk_iff (xs : List Int) (n : Int) (k : Nat) (hp : ∀ j, j < k → StepOk xs n j) : StepOk xs n k ↔ lastTo xs k < nth xs k ∧ nth xs k < n := by
  unfold StepOk
  cases k with
  | zero => simp [lastTo]; omega
  | succ k =>
    have := (hp k (by omega)).1
    simp [lastTo]; omega

theorem rowIs_drawn {w w' : World} {b n : Nat} {t : TypeId} {f : Nat → Value} (h : w.rowIs b t n f) (hd : Drawn w w') : w'.rowIs b t n f := h.of_block ((hd.below w.heap.size).block _ h.lt)

set_option maxHeartbeats 800000 in
theorem maskOf_any (v : Value) (xs : List Int) (n : Int) (w : World) (h : RowAt w v xs) (hn0 : 0 ≤ n) (hn1 : n ≤ 16) :
    Calls Tryd.prog 95 #[v, .int .i64 n] w (GaveMask w xs n) := by
  have hl := h.len
  unfold maxLen at hl
  by_cases h0 : xs.length = 0
  · have e : SetP xs n := by intro i hi; omega
    have HP : Hid (GaveMask w xs n (.returned (.tuple #[.int .u32 0, .bool true])) (w.alloc (.cells #[.int .u32 0] 71))) :=
      ⟨by rw [if_pos e, h0]; simp [e, maskTo], (Below.refl _ _).alloc (Nat.le_refl _) _⟩
    obtain ⟨a, c, rfl⟩ := h.zero h0
    clear h h0 hl e
    go_enter Tryd.func95, Tryd.ntmps95
    go_wp2
    refine wp_loop_rounds 1 ?_
    rw [rounds_succ]
    go_wp2
    go_ret2
    exact HP.out
  · obtain ⟨b, o, c, rfl, l1, l2, hc⟩ := h.pos (by omega)
    have HC := Lib.hid hc
    clear hc h0
    go_enter Tryd.func95, Tryd.ntmps95
    go_wp2
    go_loopw [7, 12] (fun l i wr => ∃ k : Nat, k ≤ xs.length ∧ i = .int .i64 k ∧ l = .int .i64 (lastTo xs k) ∧ (∀ j, j < k → StepOk xs n j) ∧ wr.rowIs w.heap.size 71 1 (fun _ => .int .u32 (maskTo xs k : Int)) ∧ Below w.heap.size w wr) (fun _ i _ => xs.length - (intOf i).toNat)
    case atStart => exact ⟨0, Nat.zero_le _, rfl, rfl, (fun j hj => absurd hj (by omega)), World.rowIs_alloc _ _ _ _ (fun i hi => by simp at hi; subst hi; rfl), (Below.refl _ _).alloc (Nat.le_refl _) _⟩
    case round =>
      obtain ⟨k, hk, rfl, rfl, he, hr, hb⟩ := hrel
      have HE := Lib.hid he
      have HB := Lib.hid hb
      have HR := Lib.hid hr
      clear he
      by_cases hlt : k < xs.length
      · have hck := cell_keep hb (HC.out k hlt)
        have hmc := hr.cell (i := 0) (by omega)
        have hmf := hr.frozen 0
        have hso := stepOk_iff xs n k HE.out
        have hml : maskTo xs k < 65536 := by
          have : ∀ (j : Nat), j < k → 0 ≤ nth xs j ∧ nth xs j ≤ n - 1 := fun j hj => ⟨(HE.out j hj).1, (HE.out j hj).2.1⟩
          clear HE hso
          have hgen : ∀ q, q ≤ k → maskTo xs q < 65536 := by
            intro q
            induction q with
            | zero => intro _; simp [maskTo]
            | succ q ih => intro hq; exact or_lt16 (ih (by omega)) (by have := this q (by omega); omega)
          exact hgen k (Nat.le_refl _)
        by_cases hok : StepOk xs n k
        · have hok' := hso.1 hok
          obtain ⟨ho1, ho2⟩ := hok'
          have hx0 : 0 ≤ nth xs k := hok.1
          have HO := Lib.hid hok
          have d1 : decide (nth xs k ≤ lastTo xs k) = false := by simp; omega
          have d2 : decide (n ≤ nth xs k) = false := by simp; omega
          clear hok hso hr hb
          go_wp2_with fail
          refine (add_any _ _ _ _ _ hmc hmf hml hx0 (by omega)).mono ?_
          rintro e w2 ⟨rfl, hd2⟩
          go_wp2
          go_roundw
          case rel =>
            refine ⟨k + 1, by omega, by go_num, rfl, (fun j hj => by rcases Nat.lt_succ_iff_lt_or_eq.1 hj with h | h; exact HE.out j h; subst h; exact HO.out), ?_, (HB.out.setCell (Nat.le_refl _) _).trans (hd2.below _)⟩
            exact (rowIs_drawn (HR.out.set 0 _) hd2).congr (fun j hj => by simp [show j = 0 from by omega, maskTo])
          case measure => simp [intOf]; omega
        · have HO := Lib.hid hok
          have HP : Hid (∀ w', Below w.heap.size w w' → GaveMask w xs n (.returned (.tuple #[.int .u32 0, .bool false])) w') := by
            intro w' hw'
            have hns : ¬ SetP xs n := fun hs => hok (hs k hlt)
            exact ⟨by rw [if_neg hns]; simp [hns], hw'⟩
          by_cases hx : nth xs k ≤ lastTo xs k
          · have d1 : decide (nth xs k ≤ lastTo xs k) = true := by simpa using hx
            clear hok hso hr hb
            go_wp2
            go_ret2
            exact HP.out _ HB.out
          · have d1 : decide (nth xs k ≤ lastTo xs k) = false := by simpa using hx
            have hx2 : n ≤ nth xs k := by
              rcases Int.lt_or_le (nth xs k) n with h | h
              · exact absurd (hso.2 ⟨by omega, h⟩) hok
              · exact h
            have d2 : decide (n ≤ nth xs k) = true := by simpa using hx2
            clear hok hso hr hb
            go_wp2
            go_ret2
            exact HP.out _ HB.out
      · obtain rfl : k = xs.length := by omega
        have hmc := hr.cell (i := 0) (by omega)
        have HP : Hid (GaveMask w xs n (.returned (.tuple #[.int .u32 (maskTo xs xs.length : Int), .bool true])) wr) := by
          have hs : SetP xs n := HE.out
          exact ⟨by rw [if_pos hs]; simp [hs], hb⟩
        clear hr hb
        go_wp2
        go_ret2
        exact HP.out

end Go.Proofs.YtjbfoiolcpigfaaDoor
