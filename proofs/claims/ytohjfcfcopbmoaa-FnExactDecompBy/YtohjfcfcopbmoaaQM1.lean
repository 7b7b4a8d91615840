/- The texts M1, M2, M3, joined. -/
import Derived.Test.YtohjfcfcopbmoaaG1
import Derived.Test.YtohjfcfcopbmoaaQGrid
import Derived.Test.YtohjfcfcopbmoaaE1
import Derived.Test.YtohjfcfcopbmoaaQC1
import Derived.Deep.RegionLaw
import Derived.StillTailTactics

/- Plain facts: graphs by who is near whom. -/
namespace Go.Proofs.Ytohjfcfcopbmoaa
open Go.RowKit

/-- The mask of the numbers below k of which p holds. -/
def pmTo (p : Nat → Bool) : Nat → Nat
  | 0 => 0
  | k + 1 => if p k then pmTo p k ||| 2 ^ k else pmTo p k
/-- .. below 16. -/
def pm (p : Nat → Bool) : Nat := pmTo p 16
theorem pmTo_bit (p : Nat → Bool) (k j : Nat) : (pmTo p k).testBit j = (decide (j < k) && p j) := by
  induction k with
  | zero => simp [pmTo]
  | succ k ih =>
    unfold pmTo
    by_cases hp : p k = true
    · rw [if_pos hp, Nat.testBit_or, ih, Nat.testBit_two_pow]
      by_cases e : k = j
      · subst e; simp [hp]
      · by_cases h : j < k
        · simp [h, Nat.lt_succ_of_lt h, e]
        · simp [h, e, show ¬ j < k + 1 from by omega]
    · rw [if_neg hp, ih]
      by_cases e : j = k
      · subst e; simp [hp]
      · by_cases h : j < k
        · simp [h, Nat.lt_succ_of_lt h]
        · simp [h, show ¬ j < k + 1 from by omega]
theorem pm_bit (p : Nat → Bool) (j : Nat) : (pm p).testBit j = (decide (j < 16) && p j) := pmTo_bit p 16 j
theorem pm_lt (p : Nat → Bool) : pm p < 65536 := by
  apply Nat.lt_pow_two_of_testBit (n := 16)
  intro i hi
  rw [pm_bit]
  simp; omega
theorem pm_congr {p q : Nat → Bool} (h : ∀ j, j < 16 → p j = q j) : pm p = pm q := by
  apply Nat.eq_of_testBit_eq
  intro j
  rw [pm_bit, pm_bit]
  by_cases hj : j < 16
  · rw [h j hj]
  · simp [hj]
theorem pm_of {M : Nat} (h : M < 65536) : pm (fun j => M.testBit j) = M := by
  apply Nat.eq_of_testBit_eq
  intro j
  rw [pm_bit]
  by_cases hj : j < 16
  · simp [hj]
  · simp only [hj, decide_false, Bool.false_and]
    symm
    apply Nat.testBit_lt_two_pow
    exact Nat.lt_of_lt_of_le h (Nat.pow_le_pow_right (n := 2) (by omega) (by omega : 16 ≤ j))
theorem pm_false : pm (fun _ => false) = 0 := by
  apply Nat.eq_of_testBit_eq
  intro j
  rw [pm_bit]
  simp

/-- The lists of n vertices by who is near whom. -/
def adjL (n : Nat) (A : Nat → Nat → Bool) : List (List Int) := maskL n (fun i => pm (A i))
theorem adjL_len (n : Nat) (A : Nat → Nat → Bool) : (adjL n A).length = n := maskL_len _ _
theorem adjL_nth {n : Nat} (A : Nat → Nat → Bool) {i : Nat} (hi : i < n) : nthR (adjL n A) i = listM (pm (A i)) := maskL_nth _ hi
theorem adjL_congr {n : Nat} {A A' : Nat → Nat → Bool} (h : ∀ i, i < n → ∀ j, j < 16 → A i j = A' i j) : adjL n A = adjL n A' := by
  apply nthR_ext
  · rw [adjL_len, adjL_len]
  · intro i hi
    rw [adjL_len] at hi
    rw [adjL_nth _ hi, adjL_nth _ hi, pm_congr (h i hi)]
/-- .. with x and y joined. -/
def linkA (A : Nat → Nat → Bool) (x y : Nat) (i j : Nat) : Bool := A i j || (i == x && j == y) || (i == y && j == x)
theorem linkM_pm (A : Nat → Nat → Bool) {x y : Nat} (hx : x < 16) (hy : y < 16) (hxy : x ≠ y) (i : Nat) : linkM (fun i => pm (A i)) x y i = pm (linkA A x y i) := by
  apply Nat.eq_of_testBit_eq
  intro j
  rw [pm_bit]
  unfold linkM linkA
  by_cases e1 : i = y
  · subst e1
    rw [if_pos rfl, Nat.testBit_or, pm_bit, Nat.testBit_two_pow]
    have e : (i == x) = false := by rw [beq_eq_false_iff_ne]; exact fun h => hxy h.symm
    rw [e]
    by_cases e2 : j = x
    · subst e2; simp [hx]
    · have e3 : ¬ x = j := fun h => e2 h.symm
      have e4 : (j == x) = false := by rw [beq_eq_false_iff_ne]; exact e2
      simp [e3, e4]
  · rw [if_neg e1]
    have e : (i == y) = false := by rw [beq_eq_false_iff_ne]; exact e1
    rw [e]
    by_cases e2 : i = x
    · subst e2
      rw [if_pos rfl, Nat.testBit_or, pm_bit, Nat.testBit_two_pow]
      by_cases e3 : j = y
      · subst e3; simp [hy]
      · have e4 : ¬ y = j := fun h => e3 h.symm
        have e5 : (j == y) = false := by rw [beq_eq_false_iff_ne]; exact e3
        simp [e4, e5]
    · rw [if_neg e2, pm_bit]
      have e5 : (i == x) = false := by rw [beq_eq_false_iff_ne]; exact e2
      simp [e5]

/-- Who is near whom in a graph. -/
def adjB (L : List (List Int)) (i j : Nat) : Bool := (rowM L i).testBit j
theorem adjB_range {L : List (List Int)} (hG : GraphP L) {i j : Nat} (h : adjB L i j = true) : i < L.length ∧ j < L.length := by
  unfold adjB rowM at h
  by_cases hi : i < L.length
  · rw [if_pos hi] at h
    have hs := (hG.2.1 i hi).1
    rw [maskTo_bit _ _ _ (fun q hq => (hs q hq).1)] at h
    obtain ⟨q, hq, e⟩ := h
    have := (hs q hq).2.1
    rw [e] at this
    exact ⟨hi, by omega⟩
  · rw [if_neg hi] at h; simp at h
theorem adjB_has {L : List (List Int)} (hG : GraphP L) {i j : Nat} (hi : i < L.length) (hj : j < 16) : hasB (nthR L i) (j : Int) = adjB L i j := by
  have hs : ∀ v, v < L.length → SetP (nthR L v) L.length := fun v hv => (hG.2.1 v hv).1
  rw [← rowM_has hs hi hj]
  unfold hasM adjB
  simp; omega
theorem adjB_self {L : List (List Int)} (hG : GraphP L) (i : Nat) : adjB L i i = false := by
  cases h : adjB L i i with
  | false => rfl
  | true =>
    have hr := adjB_range hG h
    have hz := hG.1
    rw [← adjB_has hG hr.1 (by omega), (hG.2.1 i hr.1).2] at h
    cases h
theorem adjB_sym {L : List (List Int)} (hG : GraphP L) (i j : Nat) : adjB L i j = adjB L j i := by
  have key : ∀ i j, adjB L i j = true → adjB L j i = true := by
    intro i j h
    have hr := adjB_range hG h
    have hz := hG.1
    rw [← adjB_has hG hr.1 (by omega), hasB_iff] at h
    obtain ⟨q, hq, e⟩ := h
    have := hG.2.2 i hr.1 q hq
    rw [e, Int.toNat_natCast] at this
    rw [← adjB_has hG hr.2 (by omega)]
    exact this
  rw [Bool.eq_iff_iff]
  exact ⟨key i j, key j i⟩
theorem rowM_pm {L : List (List Int)} (hG : GraphP L) (i : Nat) : rowM L i = pm (adjB L i) := (pm_of (rowM_lt (by have := hG.1; omega) (fun v hv => (hG.2.1 v hv).1) i)).symm
/-- A graph is the one of its own masks. -/
theorem graph_adjL {L : List (List Int)} (hG : GraphP L) : adjL L.length (adjB L) = L := by
  apply nthR_ext
  · rw [adjL_len]
  · intro i hi
    rw [adjL_len] at hi
    rw [adjL_nth _ hi]
    have hz := hG.1
    have hs := (hG.2.1 i hi).1
    refine sets_eq (listM_set _) (SetP.mk hs.pairwise (fun x hx => by have := hs.bounds x hx; omega)) (fun z => ?_)
    rw [listM_mem]
    constructor
    · rintro ⟨j, hj, hb, rfl⟩
      rw [pm_bit, Bool.and_eq_true] at hb
      rw [← hasB_mem, adjB_has hG hi hj]
      exact hb.2
    · intro hz2
      have hb := hs.bounds z hz2
      obtain ⟨j, rfl⟩ : ∃ j : Nat, z = (j : Int) := ⟨z.toNat, by omega⟩
      have hj : j < 16 := by omega
      refine ⟨j, hj, ?_, rfl⟩
      rw [pm_bit, ← adjB_has hG hi hj, (hasB_mem _ _).2 hz2]
      simp [hj]

/-- A symmetric relation without loops is a graph. -/
theorem adjL_graph {n : Nat} {A : Nat → Nat → Bool} (hn : 1 ≤ n ∧ n ≤ 16) (hr : ∀ i j, A i j = true → j < n) (hs : ∀ i j, A i j = A j i) (hl : ∀ i, A i i = false) : GraphP (adjL n A) := by
  have hmem : ∀ i, i < n → ∀ z : Int, hasB (nthR (adjL n A) i) z = true ↔ ∃ j : Nat, z = (j : Int) ∧ A i j = true := by
    intro i hi z
    rw [hasB_mem, adjL_nth _ hi, listM_mem]
    constructor
    · rintro ⟨j, hj, hb, rfl⟩
      rw [pm_bit, Bool.and_eq_true] at hb
      exact ⟨j, rfl, hb.2⟩
    · rintro ⟨j, rfl, hb⟩
      have := hr i j hb
      refine ⟨j, by omega, ?_, rfl⟩
      rw [pm_bit, hb]; simp; omega
  refine ⟨by rw [adjL_len]; exact hn, fun v hv => ⟨?_, ?_⟩, fun v hv i hi => ?_⟩
  · rw [adjL_len] at hv ⊢
    rw [adjL_nth _ hv]
    refine SetP.mk (listM_set _).pairwise (fun x hx => ?_)
    have := (hmem v hv x).1 (by rw [adjL_nth _ hv]; exact (hasB_mem _ _).2 hx)
    obtain ⟨j, rfl, hb⟩ := this
    have := hr v j hb
    omega
  · rw [adjL_len] at hv
    cases h : hasB (nthR (adjL n A) v) (v : Int) with
    | false => rfl
    | true =>
      obtain ⟨j, e, hb⟩ := (hmem v hv _).1 h
      have : v = j := by omega
      subst this
      rw [hl v] at hb; cases hb
  · rw [adjL_len] at hv
    obtain ⟨j, e, hb⟩ := (hmem v hv _).1 ((hasB_iff _ _).2 ⟨i, hi, rfl⟩)
    rw [e, Int.toNat_natCast]
    exact (hmem j (hr v j hb) _).2 ⟨v, rfl, by rw [hs]; exact hb⟩

/-- A call has handed back a graph of its own make, and a bool. -/
def GaveGB (w : World) (R : List (List Int)) (ok : Bool) (e : Ending) (w' : World) : Prop :=
  ∃ m a c, e = .returned (.tuple #[.agg #[.slice a m c], .bool ok]) ∧ OwnGrid 2 33 w' w.heap.size (.slice a m c) R ∧ Below w.heap.size w w'
theorem GaveGB.no {w : World} {w' : World} (hb : Below w.heap.size w w') : GaveGB w [] false (.returned (.tuple #[.agg #[.slice none 0 0], .bool false])) w' :=
  ⟨0, none, 0, rfl, own_nil _ _, hb⟩

/-- Two vertices joined in the model's graph, as a graph by who is near whom. -/
theorem l1Link_adj (x y g cap B n : Nat) (A : Nat → Nat → Bool) (w : World) (h : OwnGrid 2 33 w B (.slice (some ⟨g, 0, none⟩) n cap) (adjL n A)) (hB : B ≤ w.heap.size) (hx : x < n) (hy : y < n) (hl : n ≤ 16) (hxy : x ≠ y) :
    Calls Try.prog 87 #[.agg #[.slice (some ⟨g, 0, none⟩) n cap], .int .i64 (x : Int), .int .i64 (y : Int)] w
      (fun e w' => e = .returned (.agg #[.slice (some ⟨g, 0, none⟩) n cap]) ∧ OwnGrid 2 33 w' B (.slice (some ⟨g, 0, none⟩) n cap) (adjL n (linkA A x y)) ∧ Below B w w' ∧ ∀ k, k < w.heap.size → k ≠ g → w'.heap[k]? = w.heap[k]?) := by
  have hlen := adjL_len n A
  have := l1Link_own x y g cap B (adjL n A) w (by rw [hlen]; exact h) hB (by rw [hlen]; exact hx) (by rw [hlen]; exact hy) (by rw [hlen]; exact hl) hxy (pm (A x)) (pm (A y)) (adjL_nth _ hx) (adjL_nth _ hy)
  rw [hlen] at this
  have e : ((adjL n A).set x (listM (pm (A x) ||| 2 ^ y))).set y (listM (pm (A y) ||| 2 ^ x)) = adjL n (linkA A x y) := by
    have := maskL_link n (fun i => pm (A i)) x y hxy
    rw [adjL, this, adjL]
    apply nthR_ext
    · rw [maskL_len, maskL_len]
    · intro i hi
      rw [maskL_len] at hi
      rw [maskL_nth _ hi, maskL_nth _ hi, linkM_pm A (by omega) (by omega) hxy]
  rw [e] at this
  exact this

end Go.Proofs.Ytohjfcfcopbmoaa

/- Walks: the model's complement. -/
namespace Go.Proofs.Ytohjfcfcopbmoaa
open Go.RowKit

/-- The boxes of a model's function at work: its graph's, its result's, and that of the graph which it makes. -/
structure Work (w0 : World) (b0 : Nat) (v : Value) (bo n B : Nat) (A : Nat → Nat → Bool) (w : World) : Prop where
  arg : BoxAt w b0 v
  res : BoxAt w (b0 + 1) (.slice none 0 0)
  out : ∃ a c, BoxT 37 w bo (.slice a n c) ∧ OwnGrid 2 33 w B (.slice a n c) (adjL n A)
  bel : Below b0 w0 w
theorem Work.keep {w0 : World} {b0 : Nat} {v : Value} {bo n B : Nat} {A : Nat → Nat → Bool} {w w' : World} (h : Work w0 b0 v bo n B A w) (hb : Below w.heap.size w w') : Work w0 b0 v bo n B A w' := by
  obtain ⟨h1, h2, ⟨a, c, h3, h4⟩, h5⟩ := h
  exact ⟨h1.keep hb, h2.keep hb, ⟨a, c, h3.keep hb, h4.keep hb⟩, h5.trans (hb.mono (Nat.le_of_lt h1.lt))⟩
theorem Work.congr {w0 : World} {b0 : Nat} {v : Value} {bo n B : Nat} {A A' : Nat → Nat → Bool} {w : World} (h : Work w0 b0 v bo n B A w) (e : ∀ i j, A i j = A' i j) : Work w0 b0 v bo n B A' w := by
  obtain rfl : A = A' := by funext i j; exact e i j
  exact h

end Go.Proofs.Ytohjfcfcopbmoaa

/- Walks: the program's complement. -/
namespace Go.Proofs.Ytohjfcfcopbmoaa
open Go.RowKit

/-- A mask without the bits of K. -/
def clrM (M K : Nat) : Nat := M &&& (4294967295 - K)
theorem clrM_bit {M K : Nat} (hM : M < 65536) (hK : K < 65536) (j : Nat) : (clrM M K).testBit j = (M.testBit j && !K.testBit j) := by
  unfold clrM
  rw [Nat.testBit_and]
  have e : 4294967295 - K = 2 ^ 32 - (K + 1) := by omega
  rw [e, Nat.testBit_two_pow_sub_succ (by omega)]
  by_cases hj : j < 32
  · simp [hj]
  · have : M.testBit j = false := Nat.testBit_lt_two_pow (Nat.lt_of_lt_of_le hM (Nat.pow_le_pow_right (n := 2) (by omega) (by omega : 16 ≤ j)))
    simp [this]
/-- All of n vertices. -/
theorem whole_lt {n : Nat} (hn : n ≤ 16) : 2 ^ n - 1 < 65536 := by
  have : 2 ^ n ≤ 2 ^ 16 := Nat.pow_le_pow_right (by omega) hn
  omega
set_option maxHeartbeats 400000 in
theorem wholeMask_any (n : Nat) (w : World) (hn : n ≤ 16) : Calls Try.prog 76 #[.int .i64 (n : Int)] w fun e w' => e = .returned (.int .u32 ((2 ^ n - 1 : Nat) : Int)) ∧ w = w' := by
  have h1 : 1 ≤ 2 ^ n := Nat.one_le_two_pow
  have h2 : 2 ^ n ≤ 65536 := Nat.pow_le_pow_right (n := 2) (by omega) hn
  have HE : Hid (IntKind.u32.wrap ((2 : Int) ^ n % 4294967296 - 1) = ((2 ^ n - 1 : Nat) : Int)) := by
    show IntKind.u32.wrap _ = _
    have e1 : ((2 : Int) ^ n) = ((2 ^ n : Nat) : Int) := by simp
    rw [e1]
    generalize 2 ^ n = q at h1 h2
    have e2 : ((q : Int) % 4294967296 - 1) = ((q - 1 : Nat) : Int) := by omega
    rw [e2]
    simp [IntKind.wrap, IntKind.signed, IntKind.bits]
    omega
  clear h1 h2
  go_enter Try.func76, Try.ntmps76
  go_wp2
  go_ret
  exact ⟨ret_int HE.out, rfl⟩

theorem bit_clr (M k : Nat) (hM : M < 65536) (hk : k < 16) : bits BinOp.andNot IntKind.u32 (M : Int) (2 ^ k % 4294967296) = ((clrM M (2 ^ k) : Nat) : Int) := by
  have h2 := pow_lt16 hk
  have h1 : ((2 : Int) ^ k % 4294967296) = ((2 ^ k : Nat) : Int) := by
    have : ((2 : Int) ^ k) = ((2 ^ k : Nat) : Int) := by simp
    rw [this]
    generalize 2 ^ k = q at h2
    omega
  rw [h1, u32_andNot_nat _ _ (by omega) (by omega)]
  rfl

set_option maxHeartbeats 400000 in
theorem cut_any (b o M : Nat) (v : Int) (w : World) (hc : w.cell? ⟨b, o, none⟩ = some (.int .u32 M)) (hf : w.frozen? ⟨b, o, none⟩ = false) (hM : M < 65536) (h1 : 0 ≤ v) (h2 : v < 16) :
    Calls Try.prog 77 #[.pointer (some ⟨b, o, none⟩), .int .i64 v] w fun e w' => e = .returned (.tuple #[]) ∧ Drawn (w.setCell ⟨b, o, none⟩ (.int .u32 ((clrM M (2 ^ v.toNat) : Nat) : Int))) w' := by
  have e : decide (0 ≤ v ∧ v < 16) = true := by simp [h1, h2]
  have HE := Lib.hid e
  clear e
  go_enter Try.func77, Try.ntmps77
  go_wp2_with fail
  refine (isVertex_any _ _ _).mono ?_
  rintro e w' ⟨rfl, rfl⟩
  rw [HE.out]
  go_wp2
  go_region
  go_end0
  exact ⟨rfl, by rw [bit_clr M _ hM (by omega)]; exact (Drawn.refl _).drew⟩

end Go.Proofs.Ytohjfcfcopbmoaa
