/- Walks: the laws' dice. -/
import Derived.Test.YtikfbfclbmlopaaJ3
namespace Go.Proofs.Ytikfbfclbmlopaa
open Go.RowKit

theorem and24_u64 (x : Int) : 0 ≤ bits BinOp.and IntKind.u64 x 16777215 ∧ bits BinOp.and IntKind.u64 x 16777215 ≤ 16777215 := by
  have e : bits BinOp.and IntKind.u64 x 16777215 = IntKind.u64.wrap ((BitVec.ofInt 64 x &&& BitVec.ofInt 64 16777215).toNat : Int) := rfl
  rw [e, BitVec.toNat_and]
  have h1 : (BitVec.ofInt 64 16777215).toNat = 16777215 := by decide
  have h2 : (BitVec.ofInt 64 x).toNat &&& 16777215 ≤ 16777215 := Nat.and_le_right
  rw [h1]
  simp only [IntKind.wrap, IntKind.signed, IntKind.bits]
  generalize (BitVec.ofInt 64 x).toNat &&& 16777215 = y at h2
  simp
  omega

/-- Block d holds dice over the n bytes of bv. -/
def DiceAt (w : World) (d : Nat) (bv : Value) (n : Nat) : Prop := ∃ (i : Nat) (h : Int), i ≤ n ∧ w.heap[d]? = some (.cells #[bv, .int .i64 (i : Int), .int .u64 h] 88 (0, 0))
theorem DiceAt.keepB {w w' : World} {c n B : Nat} {bv : Value} (h : DiceAt w c bv n) (hb : Below B w w') (hB : c < B) : DiceAt w' c bv n := by
  obtain ⟨i, k, hi, hh⟩ := h
  exact ⟨i, k, hi, by rw [hb.block c hB]; exact hh⟩
theorem DiceAt.lt {w : World} {c n : Nat} {bv : Value} (h : DiceAt w c bv n) : c < w.heap.size := by
  obtain ⟨i, k, hi, hh⟩ := h
  exact (Array.getElem?_eq_some_iff.1 hh).1
theorem DiceAt.keep {w w' : World} {c n : Nat} {bv : Value} (h : DiceAt w c bv n) (hb : Below w.heap.size w w') : DiceAt w' c bv n := h.keepB hb h.lt
/-- A number has been rolled: it fulfils p; only the dice have turned. -/
def Rolled (w : World) (d : Nat) (bv : Value) (n : Nat) (p : Int → Prop) (e : Ending) (w' : World) : Prop :=
  ∃ x : Int, e = .returned (.int .i64 x) ∧ p x ∧ DiceAt w' d bv n ∧ OnlyBlk d w w'
theorem dice_set2 {w : World} {c : Nat} {bv : Value} {i h : Int} {T : TypeId} (hh : w.heap[c]? = some (.cells #[bv, .int .i64 i, .int .u64 h] T (0, 0))) (h' : Int) : (w.setCell ⟨c, 2, none⟩ (.int .u64 h')).heap[c]? = some (.cells #[bv, .int .i64 i, .int .u64 h'] T (0, 0)) := heap_setCell_same w c 2 _ _ _ hh
theorem dice_set1 {w : World} {c : Nat} {bv : Value} {i h : Int} {T : TypeId} (hh : w.heap[c]? = some (.cells #[bv, .int .i64 i, .int .u64 h] T (0, 0))) (i' : Int) : (w.setCell ⟨c, 1, none⟩ (.int .i64 i')).heap[c]? = some (.cells #[bv, .int .i64 i', .int .u64 h] T (0, 0)) := heap_setCell_same w c 1 _ _ _ hh

theorem roll_small {y : Int} (h : 0 ≤ y ∧ y ≤ 16777215) : 0 ≤ wrap64 y := by
  unfold wrap64
  omega
theorem roll_small2 {y : Int} {x : Nat} (h : 0 ≤ y ∧ y ≤ 16777215) (hx : x < 256) : 0 ≤ wrap64 (wrap64 y + (x : Int)) := by
  unfold wrap64
  omega

set_option maxHeartbeats 1600000 in
set_option maxRecDepth 100000 in
theorem below_any (c n : Nat) (bv : Value) (m : Int) (w : World) (hc : DiceAt w c bv n) (hb : BytesAt w c bv n) (hm : 1 ≤ m) (hm2 : I64 m) : Calls Try.prog 38 #[.pointer (some ⟨c, 0, none⟩), .int .i64 m] w (Rolled w c bv n (InBelow m)) := by
  obtain ⟨i, h, hi, hh⟩ := hc
  obtain ⟨hn, a, cap, rfl, hbs⟩ := hb
  have k0 : w.cell? ⟨c, 0, none⟩ = some (.slice a n cap) := by rw [cell_of_row w c 0 _ _ _ hh]; rfl
  have k1 : w.cell? ⟨c, 1, none⟩ = some (.int .i64 (i : Int)) := by rw [cell_of_row w c 1 _ _ _ hh]; rfl
  have k2 : w.cell? ⟨c, 2, none⟩ = some (.int .u64 h) := by rw [cell_of_row w c 2 _ _ _ hh]; rfl
  have f1 : w.frozen? ⟨c, 1, none⟩ = false := frozen_of_row w c 1 _ _ hh
  have f2 : w.frozen? ⟨c, 2, none⟩ = false := frozen_of_row w c 2 _ _ hh
  have HH := Lib.hid hh
  have HBS := Lib.hid hbs
  have hm0 : (m == 0) = false := by rw [beq_eq_false_iff_ne]; omega
  unfold I64 at hm2
  clear hh hbs
  by_cases hlt : i < n
  · have hd : decide ((i : Int) < (n : Int)) = true := by simp; omega
    obtain ⟨b, o, rfl, hbc, hcs⟩ := HBS.out (by omega)
    obtain ⟨x, hx, hcx⟩ := hcs i hlt
    have hne : b ≠ c := by omega
    clear hcs
    go_enter Try.func38, Try.ntmps38
    go_wp2
    go_quiet (fail)
    go_wp2
    go_quiet (fail)
    go_wp2
    go_ret
    have ho := ((OnlyBlk.refl c w).setCell 2 (.int .u64 (IntKind.u64.wrap (IntKind.u64.wrap (h * 6364136223846793005) + 1442695040888963407)))).setCell 1 (.int .i64 ((i + 1 : Nat) : Int))
    exact ⟨_, rfl, inBelow_rem (roll_small2 (and24_u64 _) hx) (by omega), ⟨i + 1, _, hlt, dice_set1 (dice_set2 HH.out (IntKind.u64.wrap (IntKind.u64.wrap (h * 6364136223846793005) + 1442695040888963407))) _⟩, ⟨ho.os, ho.tape, ho.output, ho.size, ho.other⟩⟩
  · have hd : decide ((i : Int) < (n : Int)) = false := by simp; omega
    go_enter Try.func38, Try.ntmps38
    go_wp2
    go_quiet (fail)
    go_wp2
    go_ret
    exact ⟨_, rfl, inBelow_rem (roll_small (and24_u64 _)) (by omega), ⟨i, _, hi, dice_set2 HH.out _⟩, ((OnlyBlk.refl c w).setCell 2 _).drewN _⟩

end Go.Proofs.Ytikfbfclbmlopaa
