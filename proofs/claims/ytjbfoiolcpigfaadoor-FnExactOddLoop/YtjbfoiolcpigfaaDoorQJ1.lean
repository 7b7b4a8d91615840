/- The texts J1, J2, joined. -/
import Derived.Test.YtjbfoiolcpigfaaDoorG1

/- Walks: the cursor over a code's bytes. -/
namespace Go.Proofs.YtjbfoiolcpigfaaDoor
open Go.RowKit

theorem and255_i64 (x : Int) : 0 ≤ bits BinOp.and IntKind.i64 x 255 ∧ bits BinOp.and IntKind.i64 x 255 ≤ 255 := by
  have e : bits BinOp.and IntKind.i64 x 255 = IntKind.i64.wrap ((BitVec.ofInt 64 x &&& BitVec.ofInt 64 255).toNat : Int) := rfl
  rw [e, BitVec.toNat_and]
  have h1 : (BitVec.ofInt 64 255).toNat = 255 := by decide
  have h2 : (BitVec.ofInt 64 x).toNat &&& 255 ≤ 255 := Nat.and_le_right
  rw [h1, IntKind.wrap_i64]
  omega

/-- Block c holds a cursor over the n bytes of bv. -/
def CurAt (w : World) (c : Nat) (bv : Value) (n : Nat) : Prop := ∃ (i : Nat) (h : Int), i ≤ n ∧ w.heap[c]? = some (.cells #[bv, .int .i64 (i : Int), .int .i64 h] 123 (0, 0))
/-- A slice of n bytes below block c. -/
def BytesAt (w : World) (c : Nat) (bv : Value) (n : Nat) : Prop := n ≤ 4096 ∧ ∃ a cap, bv = .slice a n cap ∧ (0 < n → ∃ b o, a = some ⟨b, o, none⟩ ∧ b < c ∧ ∀ i, i < n → ∃ x : Nat, x < 256 ∧ w.cell? ⟨b, o + i, none⟩ = some (.int .u8 (x : Int)))
theorem BytesAt.keepB {w w' : World} {c n B : Nat} {bv : Value} (h : BytesAt w c bv n) (hb : Below B w w') (hB : c ≤ B) : BytesAt w' c bv n := by
  obtain ⟨h1, a, cap, e, h2⟩ := h
  refine ⟨h1, a, cap, e, fun hn => ?_⟩
  obtain ⟨b, o, ea, hb', hc⟩ := h2 hn
  refine ⟨b, o, ea, hb', fun i hi => ?_⟩
  obtain ⟨x, hx, hcx⟩ := hc i hi
  exact ⟨x, hx, by rw [hb.cell (by simp; omega)]; exact hcx⟩
theorem CurAt.keepB {w w' : World} {c n B : Nat} {bv : Value} (h : CurAt w c bv n) (hb : Below B w w') (hB : c < B) : CurAt w' c bv n := by
  obtain ⟨i, k, hi, hh⟩ := h
  exact ⟨i, k, hi, by rw [hb.block c hB]; exact hh⟩
theorem CurAt.lt {w : World} {c n : Nat} {bv : Value} (h : CurAt w c bv n) : c < w.heap.size := by
  obtain ⟨i, k, hi, hh⟩ := h
  exact (Array.getElem?_eq_some_iff.1 hh).1
theorem OnlyBlk.below {g : Nat} {w w' : World} (h : OnlyBlk g w w') : Below g w w' := ⟨h.os, h.tape, h.output, Nat.le_of_eq h.size.symm, fun k hk => h.other k (by omega)⟩
theorem OnlyBlk.trans {g : Nat} {a b c : World} (h : OnlyBlk g a b) (k : OnlyBlk g b c) : OnlyBlk g a c := ⟨k.os.trans h.os, k.tape.trans h.tape, k.output.trans h.output, k.size.trans h.size, fun j hj => (k.other j hj).trans (h.other j hj)⟩
theorem OnlyBlk.drewN {g : Nat} {w w' : World} (h : OnlyBlk g w w') (n : Nat) : OnlyBlk g w (w'.drewN n) := ⟨h.os, h.tape, h.output, h.size, h.other⟩
theorem OnlyBlk.drawn {g : Nat} {w w' w2 : World} (h : OnlyBlk g w w') (hd : Drawn w' w2) : OnlyBlk g w w2 := by obtain ⟨n, rfl⟩ := hd; exact h.drewN n

/-- A number has been drawn from the cursor: it fulfils p; only the cursor has turned. -/
def Drew (w : World) (c : Nat) (bv : Value) (n : Nat) (p : Int → Prop) (e : Ending) (w' : World) : Prop :=
  ∃ x : Int, e = .returned (.int .i64 x) ∧ p x ∧ CurAt w' c bv n ∧ OnlyBlk c w w'

theorem cur_set2 {w : World} {c : Nat} {bv : Value} {i h : Int} {T : TypeId} (hh : w.heap[c]? = some (.cells #[bv, .int .i64 i, .int .i64 h] T (0, 0))) (h' : Int) : (w.setCell ⟨c, 2, none⟩ (.int .i64 h')).heap[c]? = some (.cells #[bv, .int .i64 i, .int .i64 h'] T (0, 0)) := heap_setCell_same w c 2 _ _ _ hh
theorem cur_set1 {w : World} {c : Nat} {bv : Value} {i h : Int} {T : TypeId} (hh : w.heap[c]? = some (.cells #[bv, .int .i64 i, .int .i64 h] T (0, 0))) (i' : Int) : (w.setCell ⟨c, 1, none⟩ (.int .i64 i')).heap[c]? = some (.cells #[bv, .int .i64 i', .int .i64 h] T (0, 0)) := heap_setCell_same w c 1 _ _ _ hh

set_option maxHeartbeats 1600000 in
theorem l1Byte_any (c n : Nat) (bv : Value) (w : World) (hc : CurAt w c bv n) (hb : BytesAt w c bv n) : Calls Tryd.prog 142 #[.pointer (some ⟨c, 0, none⟩)] w (Drew w c bv n (fun x => 0 ≤ x ∧ x ≤ 255)) := by
  obtain ⟨i, h, hi, hh⟩ := hc
  obtain ⟨hn, a, cap, rfl, hbs⟩ := hb
  have k0 : w.cell? ⟨c, 0, none⟩ = some (.slice a n cap) := by rw [cell_of_row w c 0 _ _ _ hh]; rfl
  have k1 : w.cell? ⟨c, 1, none⟩ = some (.int .i64 (i : Int)) := by rw [cell_of_row w c 1 _ _ _ hh]; rfl
  have k2 : w.cell? ⟨c, 2, none⟩ = some (.int .i64 h) := by rw [cell_of_row w c 2 _ _ _ hh]; rfl
  have f1 : w.frozen? ⟨c, 1, none⟩ = false := frozen_of_row w c 1 _ _ hh
  have f2 : w.frozen? ⟨c, 2, none⟩ = false := frozen_of_row w c 2 _ _ hh
  have HH := Lib.hid hh
  have HBS := Lib.hid hbs
  clear hh hbs
  by_cases hlt : i < n
  · have hd : decide ((i : Int) < (n : Int)) = true := by simp; omega
    obtain ⟨b, o, rfl, hbc, hcs⟩ := HBS.out (by omega)
    obtain ⟨x, hx, hcx⟩ := hcs i hlt
    have hne : b ≠ c := by omega
    clear hcs
    go_enter Tryd.func142, Tryd.ntmps142
    go_wp2
    go_quiet (fail)
    go_wp2
    go_quiet (fail)
    go_wp2
    go_quiet (fail)
    go_wp2
    go_ret
    have e1 : IntKind.i64.wrap ((i : Int) + 1) = ((i + 1 : Nat) : Int) := by rw [IntKind.wrap_i64]; omega
    have ho := ((OnlyBlk.refl c w).setCell 2 (.int .i64 (wrap64 (wrap64 (h * 6364136223846793005) + 1442695040888963407)))).setCell 1 (.int .i64 ((i + 1 : Nat) : Int))
    exact ⟨_, rfl, and255_i64 _, ⟨i + 1, _, hlt, cur_set1 (cur_set2 HH.out (wrap64 (wrap64 (h * 6364136223846793005) + 1442695040888963407))) _⟩, ⟨ho.os, ho.tape, ho.output, ho.size, ho.other⟩⟩
  · have hd : decide ((i : Int) < (n : Int)) = false := by simp; omega
    go_enter Tryd.func142, Tryd.ntmps142
    go_wp2
    go_quiet (fail)
    go_wp2
    go_quiet (fail)
    go_wp2
    go_ret
    exact ⟨_, rfl, and255_i64 _, ⟨i, _, hi, cur_set2 HH.out _⟩, ((OnlyBlk.refl c w).setCell 2 _).drewN _ |>.drewN _⟩

end Go.Proofs.YtjbfoiolcpigfaaDoor

/- Walks: numbers drawn from a cursor. -/
namespace Go.Proofs.YtjbfoiolcpigfaaDoor
open Go.RowKit

theorem OnlyBlk.bytes {c n : Nat} {w w' : World} {bv : Value} (h : OnlyBlk c w w') (hb : BytesAt w c bv n) : BytesAt w' c bv n := hb.keepB h.below (Nat.le_refl _)

/-- What l1Below may give. -/
def InBelow (m x : Int) : Prop := (m ≤ 0 → x = 0) ∧ (0 < m → 0 ≤ x ∧ x < m)
theorem inBelow_mod (y : Int) {m : Int} (hm : 0 < m) : InBelow m (y % m) := ⟨fun h => by omega, fun _ => ⟨Int.emod_nonneg _ (by omega), Int.emod_lt_of_pos _ hm⟩⟩
theorem inBelow_rem {m y : Int} (hy : 0 ≤ y) (hm : 0 < m) : InBelow m (y.tmod m) := by
  refine ⟨fun h => by omega, fun _ => ⟨Int.tmod_nonneg _ hy, Int.tmod_lt_of_pos _ hm⟩⟩

set_option maxHeartbeats 1600000 in
theorem l1Below_any (c n : Nat) (bv : Value) (m : Int) (w : World) (hc : CurAt w c bv n) (hb : BytesAt w c bv n) (hm : I64 m) : Calls Tryd.prog 127 #[.pointer (some ⟨c, 0, none⟩), .int .i64 m] w (Drew w c bv n (InBelow m)) := by
  unfold I64 at hm
  by_cases h0 : m ≤ 0
  · have HC := Lib.hid hc
    have d0 : decide (m ≤ 0) = true := by simpa using h0
    clear hc hb
    go_enter Tryd.func127, Tryd.ntmps127
    go_wp2
    go_ret
    exact ⟨0, rfl, ⟨fun _ => rfl, fun h => by omega⟩, HC.out, OnlyBlk.refl _ _⟩
  · have d0 : decide (m ≤ 0) = false := by simpa using h0
    have HB := Lib.hid hb
    clear hb
    by_cases h1 : m ≤ 256
    · have d1 : decide (m ≤ 256) = true := by simpa using h1
      have hm0 : m ≠ 0 := by omega
      go_enter Tryd.func127, Tryd.ntmps127
      go_wp2_with fail
      refine (l1Byte_any _ _ _ _ hc HB.out).mono ?_
      rintro e w1 ⟨x, rfl, ⟨hx0, hx1⟩, hc1, ho1⟩
      have HC1 := Lib.hid hc1
      have HO1 := Lib.hid ho1
      clear hc hc1 ho1
      go_wp2
      go_ret
      exact ⟨_, rfl, inBelow_mod _ (by omega), HC1.out, HO1.out⟩
    · have d1 : decide (m ≤ 256) = false := by simpa using h1
      have hm0 : m ≠ 0 := by omega
      go_enter Tryd.func127, Tryd.ntmps127
      go_wp2_with fail
      refine (l1Byte_any _ _ _ _ hc HB.out).mono ?_
      rintro e w1 ⟨x, rfl, ⟨hx0, hx1⟩, hc1, ho1⟩
      have HO1 := Lib.hid ho1
      clear hc ho1
      go_wp2_with fail
      refine (l1Byte_any _ _ _ _ hc1 (HO1.out.bytes HB.out)).mono ?_
      rintro e w2 ⟨y, rfl, ⟨hy0, hy1⟩, hc2, ho2⟩
      have HO2 := Lib.hid (HO1.out.trans ho2)
      clear hc1 ho2
      go_wp2_with fail
      refine (l1Byte_any _ _ _ _ hc2 (HO2.out.bytes HB.out)).mono ?_
      rintro e w3 ⟨z, rfl, ⟨hz0, hz1⟩, hc3, ho3⟩
      have HO3 := Lib.hid (HO2.out.trans ho3)
      clear hc2 ho3
      go_wp2_with fail
      refine (l1Byte_any _ _ _ _ hc3 (HO3.out.bytes HB.out)).mono ?_
      rintro e w4 ⟨u, rfl, ⟨hu0, hu1⟩, hc4, ho4⟩
      have HC4 := Lib.hid hc4
      have HO4 := Lib.hid (HO3.out.trans ho4)
      clear hc3 ho4 hc4
      have hs0 : 0 ≤ x * 16777216 + y * 65536 + z * 256 + u := by omega
      go_wp2
      go_ret
      refine ⟨_, rfl, ?_, HC4.out, HO4.out⟩
      exact inBelow_mod _ (by omega)


/-- A coin has been drawn from the cursor. -/
def Coin (w : World) (c : Nat) (bv : Value) (n : Nat) (e : Ending) (w' : World) : Prop :=
  ∃ b : Bool, e = .returned (.bool b) ∧ CurAt w' c bv n ∧ OnlyBlk c w w'
theorem l1Once_any (c n : Nat) (bv : Value) (m : Int) (w : World) (hc : CurAt w c bv n) (hb : BytesAt w c bv n) (hm : I64 m) : Calls Tryd.prog 126 #[.pointer (some ⟨c, 0, none⟩), .int .i64 m] w (Coin w c bv n) := by
  go_enter Tryd.func126, Tryd.ntmps126
  go_wp2_with fail
  refine (l1Below_any _ _ _ _ _ hc hb hm).mono ?_
  rintro e w1 ⟨x, rfl, hx, hc1, ho1⟩
  have HC1 := Lib.hid hc1
  have HO1 := Lib.hid ho1
  clear hc hb hc1 ho1 hx
  go_wp2
  go_ret
  exact ⟨_, rfl, HC1.out, HO1.out⟩

end Go.Proofs.YtjbfoiolcpigfaaDoor
