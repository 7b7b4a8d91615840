/- The texts S1, S2, S3, joined. -/
import Derived.Test.YtojbaepcflkgeaaQJ1
import Derived.Test.YtojbaepcflkgeaaQM7
import Derived.Test.YtojbaepcflkgeaaQH0
import Derived.Test.YtojbaepcflkgeaaQJ5

/- Walks: the laws' dice. -/
namespace Go.Proofs.Ytojbaepcflkgeaa
open Go.RowKit

theorem and24_u64 (x : Int) : 0 ≤ bits BinOp.and IntKind.u64 x 16777215 ∧ bits BinOp.and IntKind.u64 x 16777215 ≤ 16777215 := by
  have e : bits BinOp.and IntKind.u64 x 16777215 = IntKind.u64.wrap ((BitVec.ofInt 64 x &&& BitVec.ofInt 64 16777215).toNat : Int) := rfl
  rw [e, BitVec.toNat_and]
  have h1 : (BitVec.ofInt 64 16777215).toNat = 16777215 := by decide
  have h2 : (BitVec.ofInt 64 x).toNat &&& 16777215 ≤ 16777215 := Nat.and_le_right
  rw [h1]
  simp only [IntKind.wrap, IntKind.signed, IntKind.bits]
  generalize (BitVec.ofInt 64 x).toNat &&& 16777215 = y at h2
  simp
  omega

/-- Block d holds dice over the n bytes of bv. -/
def DiceAt (w : World) (d : Nat) (bv : Value) (n : Nat) : Prop := ∃ (i : Nat) (h : Int), i ≤ n ∧ w.heap[d]? = some (.cells #[bv, .int .i64 (i : Int), .int .u64 h] 51 (0, 0))
theorem DiceAt.keepB {w w' : World} {c n B : Nat} {bv : Value} (h : DiceAt w c bv n) (hb : Below B w w') (hB : c < B) : DiceAt w' c bv n := by
  obtain ⟨i, k, hi, hh⟩ := h
  exact ⟨i, k, hi, by rw [hb.block c hB]; exact hh⟩
theorem DiceAt.lt {w : World} {c n : Nat} {bv : Value} (h : DiceAt w c bv n) : c < w.heap.size := by
  obtain ⟨i, k, hi, hh⟩ := h
  exact (Array.getElem?_eq_some_iff.1 hh).1
theorem DiceAt.keep {w w' : World} {c n : Nat} {bv : Value} (h : DiceAt w c bv n) (hb : Below w.heap.size w w') : DiceAt w' c bv n := h.keepB hb h.lt
/-- A number has been rolled: it fulfils p; only the dice have turned. -/
def Rolled (w : World) (d : Nat) (bv : Value) (n : Nat) (p : Int → Prop) (e : Ending) (w' : World) : Prop :=
  ∃ x : Int, e = .returned (.int .i64 x) ∧ p x ∧ DiceAt w' d bv n ∧ OnlyBlk d w w'
theorem dice_set2 {w : World} {c : Nat} {bv : Value} {i h : Int} {T : TypeId} (hh : w.heap[c]? = some (.cells #[bv, .int .i64 i, .int .u64 h] T (0, 0))) (h' : Int) : (w.setCell ⟨c, 2, none⟩ (.int .u64 h')).heap[c]? = some (.cells #[bv, .int .i64 i, .int .u64 h'] T (0, 0)) := heap_setCell_same w c 2 _ _ _ hh
theorem dice_set1 {w : World} {c : Nat} {bv : Value} {i h : Int} {T : TypeId} (hh : w.heap[c]? = some (.cells #[bv, .int .i64 i, .int .u64 h] T (0, 0))) (i' : Int) : (w.setCell ⟨c, 1, none⟩ (.int .i64 i')).heap[c]? = some (.cells #[bv, .int .i64 i', .int .u64 h] T (0, 0)) := heap_setCell_same w c 1 _ _ _ hh

theorem roll_small {y : Int} (h : 0 ≤ y ∧ y ≤ 16777215) : 0 ≤ wrap64 y := by
  unfold wrap64
  omega
theorem roll_small2 {y : Int} {x : Nat} (h : 0 ≤ y ∧ y ≤ 16777215) (hx : x < 256) : 0 ≤ wrap64 (wrap64 y + (x : Int)) := by
  unfold wrap64
  omega

set_option maxHeartbeats 1600000 in
set_option maxRecDepth 100000 in
theorem below_any (c n : Nat) (bv : Value) (m : Int) (w : World) (hc : DiceAt w c bv n) (hb : BytesAt w c bv n) (hm : 1 ≤ m) (hm2 : I64 m) : Calls Try.prog 16 #[.pointer (some ⟨c, 0, none⟩), .int .i64 m] w (Rolled w c bv n (InBelow m)) := by
  obtain ⟨i, h, hi, hh⟩ := hc
  obtain ⟨hn, a, cap, rfl, hbs⟩ := hb
  have k0 : w.cell? ⟨c, 0, none⟩ = some (.slice a n cap) := by rw [cell_of_row w c 0 _ _ _ hh]; rfl
  have k1 : w.cell? ⟨c, 1, none⟩ = some (.int .i64 (i : Int)) := by rw [cell_of_row w c 1 _ _ _ hh]; rfl
  have k2 : w.cell? ⟨c, 2, none⟩ = some (.int .u64 h) := by rw [cell_of_row w c 2 _ _ _ hh]; rfl
  have f1 : w.frozen? ⟨c, 1, none⟩ = false := frozen_of_row w c 1 _ _ hh
  have f2 : w.frozen? ⟨c, 2, none⟩ = false := frozen_of_row w c 2 _ _ hh
  have HH := Lib.hid hh
  have HBS := Lib.hid hbs
  have hm0 : (m == 0) = false := by rw [beq_eq_false_iff_ne]; omega
  unfold I64 at hm2
  clear hh hbs
  by_cases hlt : i < n
  · have hd : decide ((i : Int) < (n : Int)) = true := by simp; omega
    obtain ⟨b, o, rfl, hbc, hcs⟩ := HBS.out (by omega)
    obtain ⟨x, hx, hcx⟩ := hcs i hlt
    have hne : b ≠ c := by omega
    clear hcs
    go_enter Try.func16, Try.ntmps16
    go_wp2
    go_quiet (fail)
    go_wp2
    go_quiet (fail)
    go_wp2
    go_ret
    have ho := ((OnlyBlk.refl c w).setCell 2 (.int .u64 (IntKind.u64.wrap (IntKind.u64.wrap (h * 6364136223846793005) + 1442695040888963407)))).setCell 1 (.int .i64 ((i + 1 : Nat) : Int))
    exact ⟨_, rfl, inBelow_rem (roll_small2 (and24_u64 _) hx) (by omega), ⟨i + 1, _, hlt, dice_set1 (dice_set2 HH.out (IntKind.u64.wrap (IntKind.u64.wrap (h * 6364136223846793005) + 1442695040888963407))) _⟩, ⟨ho.os, ho.tape, ho.output, ho.size, ho.other⟩⟩
  · have hd : decide ((i : Int) < (n : Int)) = false := by simp; omega
    go_enter Try.func16, Try.ntmps16
    go_wp2
    go_quiet (fail)
    go_wp2
    go_ret
    exact ⟨_, rfl, inBelow_rem (roll_small (and24_u64 _)) (by omega), ⟨i, _, hi, dice_set2 HH.out _⟩, ((OnlyBlk.refl c w).setCell 2 _).drewN _⟩

end Go.Proofs.Ytojbaepcflkgeaa

/- Walks: dice made of a code; a set and a graph rolled. -/
namespace Go.Proofs.Ytojbaepcflkgeaa
open Go.RowKit

set_option maxHeartbeats 1600000 in
set_option maxRecDepth 100000 in
theorem roll_any (bv : Value) (n : Nat) (s : Int) (w : World) (hb : BytesAt w w.heap.size bv n) : Calls Try.prog 15 #[bv, .int .u64 s] w (fun e w' => e = .returned (.pointer (some ⟨w.heap.size, 0, none⟩)) ∧ DiceAt w' w.heap.size bv n ∧ Below w.heap.size w w') := by
  obtain ⟨hn, a, cap, rfl, hbs⟩ := hb
  have HBS := Lib.hid hbs
  clear hbs
  go_enter Try.func15, Try.ntmps15
  go_wp2_with fail
  go_loopw [6] (fun i wr => ∃ k : Nat, k ≤ n ∧ i = .int .i64 k ∧ (∃ h : Int, wr.heap[w.heap.size]? = some (.cells #[.slice a n cap, .int .i64 0, .int .u64 h] 51 (0, 0))) ∧ Below w.heap.size w wr) (fun i _ => n - (intOf i).toNat)
  case atStart => exact ⟨0, Nat.zero_le _, rfl, ⟨_, heap_alloc_new _ _⟩, (Below.refl _ _).alloc (Nat.le_refl _) _⟩
  case round =>
    obtain ⟨k, hk, rfl, ⟨h, hh⟩, hb⟩ := hrel
    have HH := Lib.hid hh
    have HB := Lib.hid hb
    have k2 : wr.cell? ⟨w.heap.size, 2, none⟩ = some (.int .u64 h) := by rw [cell_of_row wr w.heap.size 2 _ _ _ hh]; rfl
    have f2 : wr.frozen? ⟨w.heap.size, 2, none⟩ = false := frozen_of_row wr w.heap.size 2 _ _ hh
    clear hh
    by_cases hlt : k < n
    · obtain ⟨b, o, rfl, hbc, hcs⟩ := HBS.out (by omega)
      obtain ⟨x, hx, hcx⟩ := hcs k hlt
      have hck := cell_keep hb hcx
      have hne : b ≠ w.heap.size := by omega
      clear hcs hb hcx
      go_wp2_with fail
      go_region
      all_goals (
        go_wp2
        go_roundw
        case rel => exact ⟨k + 1, by omega, by go_num, ⟨_, dice_set2 HH.out _⟩, (HB.out.setCell (Nat.le_refl _) _).drew⟩
        case measure => simp [intOf]; omega)
    · obtain rfl : k = n := by omega
      clear hb
      go_wp2
      go_ret
      exact ⟨rfl, ⟨0, h, Nat.zero_le _, HH.out⟩, HB.out⟩

/-- A row has been rolled: strictly increasing numbers below m; beside new memory only the dice have turned. -/
def RolledSet (w : World) (d : Nat) (bv : Value) (n m : Nat) (e : Ending) (w' : World) : Prop :=
  ∃ xs a k c, e = .returned (.slice a k c) ∧ SetP xs m ∧ OwnRow 2 w' w.heap.size (.slice a k c) xs ∧ DiceAt w' d bv n ∧ Touched d (d + 1) w w'

theorem SetP.snoc {xs : List Int} {m : Nat} (h : SetP xs m) : SetP (xs ++ [(m : Int)]) ((m + 1 : Nat) : Int) := by
  refine SetP.mk ?_ ?_
  · rw [List.pairwise_append]
    refine ⟨h.pairwise, by simp, fun a ha b hb => ?_⟩
    simp at hb
    have := h.bounds a ha
    omega
  · intro x hx
    rcases List.mem_append.1 hx with hx | hx
    · have := h.bounds x hx; omega
    · simp at hx; omega
theorem SetP.wider {xs : List Int} {m : Nat} (h : SetP xs m) : SetP xs ((m + 1 : Nat) : Int) := SetP.mk h.pairwise (fun x hx => by have := h.bounds x hx; omega)

end Go.Proofs.Ytojbaepcflkgeaa

/- Walks: a graph rolled. -/
namespace Go.Proofs.Ytojbaepcflkgeaa
open Go.RowKit

theorem own_gempty {T T1 : TypeId} (w : World) : OwnGrid T T1 (w.alloc (.cells #[] T1)) w.heap.size (.slice (some ⟨w.heap.size, 0, none⟩) 0 0) [] :=
  ⟨fun _ => .slice none 0 0, by simp, Or.inr ⟨w.heap.size, 0, #[], rfl, Nat.le_refl _, heap_alloc_new _ _, Nat.le_refl _, by simp, rfl, fun i hi => absurd hi (by simp)⟩, fun i hi => absurd hi (by simp), fun i j k _ hj => absurd hj (by simp)⟩

/-- A graph has been rolled: a right one, of at most so many vertices; beside new memory only the dice have turned. -/
def RolledGraph (w : World) (d : Nat) (bv : Value) (n most : Nat) (e : Ending) (w' : World) : Prop :=
  ∃ L m a c, e = .returned (.agg #[.slice a m c]) ∧ GraphP L ∧ L.length ≤ most ∧ OwnGrid 2 35 w' w.heap.size (.slice a m c) L ∧ DiceAt w' d bv n ∧ Touched d (d + 1) w w'

theorem of_right {n : Nat} {E : List (List Int)} (h : OfP (n : Int) E) : GraphP (ofL (n : Int) E) := by
  have hn : 1 ≤ n ∧ n ≤ 16 := by have := h.1; simp [inB] at this; omega
  rw [ofL, if_pos h, Int.toNat_natCast]
  have e : maskL n (edgeM E E.length) = adjL n (fun i j => (edgeM E E.length i).testBit j) := by
    apply nthR_ext
    · rw [maskL_len, adjL_len]
    · intro i hi
      rw [maskL_len] at hi
      rw [maskL_nth _ hi, adjL_nth _ hi, pm_of (edgeM_lt (n := (n : Int)) (by omega) _ h.2.2 i)]
  rw [e]
  have hbit := edgeM_bit (n := (n : Int)) (by omega) E.length h.2.2
  refine adjL_graph hn ?_ ?_ ?_
  · intro i j hb
    obtain ⟨q, hq, hh⟩ := (hbit i j).1 hb
    obtain ⟨_, h1, h2, h3⟩ := h.2.2 q hq
    omega
  · intro i j
    rw [Bool.eq_iff_iff, hbit i j, hbit j i]
    constructor
    · rintro ⟨q, hq, hh⟩; exact ⟨q, hq, hh.symm⟩
    · rintro ⟨q, hq, hh⟩; exact ⟨q, hq, hh.symm⟩
  · intro i
    cases hb : (edgeM E E.length i).testBit i with
    | false => rfl
    | true =>
      obtain ⟨q, hq, hh⟩ := (hbit i i).1 hb
      obtain ⟨_, h1, h2, h3⟩ := h.2.2 q hq
      omega
theorem of_len {n : Nat} {E : List (List Int)} (h : OfP (n : Int) E) : (ofL (n : Int) E).length = n := by rw [ofL, if_pos h, Int.toNat_natCast, maskL_len]

end Go.Proofs.Ytojbaepcflkgeaa
