/- Walks: numbers drawn from a cursor. -/
import Derived.Test.YtikfbfclbmlopaaJ1
namespace Go.Proofs.Ytikfbfclbmlopaa
open Go.RowKit

theorem OnlyBlk.bytes {c n : Nat} {w w' : World} {bv : Value} (h : OnlyBlk c w w') (hb : BytesAt w c bv n) : BytesAt w' c bv n := hb.keepB h.below (Nat.le_refl _)

/-- What l1Below may give. -/
def InBelow (m x : Int) : Prop := (m ≤ 0 → x = 0) ∧ (0 < m → 0 ≤ x ∧ x < m)
theorem inBelow_mod (y : Int) {m : Int} (hm : 0 < m) : InBelow m (y % m) := ⟨fun h => by omega, fun _ => ⟨Int.emod_nonneg _ (by omega), Int.emod_lt_of_pos _ hm⟩⟩
theorem inBelow_rem {m y : Int} (hy : 0 ≤ y) (hm : 0 < m) : InBelow m (y.tmod m) := by
  refine ⟨fun h => by omega, fun _ => ⟨Int.tmod_nonneg _ hy, Int.tmod_lt_of_pos _ hm⟩⟩

set_option maxHeartbeats 1600000 in
theorem l1Below_any (c n : Nat) (bv : Value) (m : Int) (w : World) (hc : CurAt w c bv n) (hb : BytesAt w c bv n) (hm : I64 m) : Calls Try.prog 120 #[.pointer (some ⟨c, 0, none⟩), .int .i64 m] w (Drew w c bv n (InBelow m)) := by
  unfold I64 at hm
  by_cases h0 : m ≤ 0
  · have HC := Lib.hid hc
    have d0 : decide (m ≤ 0) = true := by simpa using h0
    clear hc hb
    go_enter Try.func120, Try.ntmps120
    go_wp2
    go_ret
    exact ⟨0, rfl, ⟨fun _ => rfl, fun h => by omega⟩, HC.out, OnlyBlk.refl _ _⟩
  · have d0 : decide (m ≤ 0) = false := by simpa using h0
    have HB := Lib.hid hb
    clear hb
    by_cases h1 : m ≤ 256
    · have d1 : decide (m ≤ 256) = true := by simpa using h1
      have hm0 : m ≠ 0 := by omega
      go_enter Try.func120, Try.ntmps120
      go_wp2_with fail
      refine (l1Byte_any _ _ _ _ hc HB.out).mono ?_
      rintro e w1 ⟨x, rfl, ⟨hx0, hx1⟩, hc1, ho1⟩
      have HC1 := Lib.hid hc1
      have HO1 := Lib.hid ho1
      clear hc hc1 ho1
      go_wp2
      go_ret
      exact ⟨_, rfl, inBelow_mod _ (by omega), HC1.out, HO1.out⟩
    · have d1 : decide (m ≤ 256) = false := by simpa using h1
      have hm0 : m ≠ 0 := by omega
      go_enter Try.func120, Try.ntmps120
      go_wp2_with fail
      refine (l1Byte_any _ _ _ _ hc HB.out).mono ?_
      rintro e w1 ⟨x, rfl, ⟨hx0, hx1⟩, hc1, ho1⟩
      have HO1 := Lib.hid ho1
      clear hc ho1
      go_wp2_with fail
      refine (l1Byte_any _ _ _ _ hc1 (HO1.out.bytes HB.out)).mono ?_
      rintro e w2 ⟨y, rfl, ⟨hy0, hy1⟩, hc2, ho2⟩
      have HO2 := Lib.hid (HO1.out.trans ho2)
      clear hc1 ho2
      go_wp2_with fail
      refine (l1Byte_any _ _ _ _ hc2 (HO2.out.bytes HB.out)).mono ?_
      rintro e w3 ⟨z, rfl, ⟨hz0, hz1⟩, hc3, ho3⟩
      have HO3 := Lib.hid (HO2.out.trans ho3)
      clear hc2 ho3
      go_wp2_with fail
      refine (l1Byte_any _ _ _ _ hc3 (HO3.out.bytes HB.out)).mono ?_
      rintro e w4 ⟨u, rfl, ⟨hu0, hu1⟩, hc4, ho4⟩
      have HC4 := Lib.hid hc4
      have HO4 := Lib.hid (HO3.out.trans ho4)
      clear hc3 ho4 hc4
      have hs0 : 0 ≤ x * 16777216 + y * 65536 + z * 256 + u := by omega
      go_wp2
      go_ret
      refine ⟨_, rfl, ?_, HC4.out, HO4.out⟩
      exact inBelow_mod _ (by omega)


/-- A coin has been drawn from the cursor. -/
def Coin (w : World) (c : Nat) (bv : Value) (n : Nat) (e : Ending) (w' : World) : Prop :=
  ∃ b : Bool, e = .returned (.bool b) ∧ CurAt w' c bv n ∧ OnlyBlk c w w'
theorem l1Once_any (c n : Nat) (bv : Value) (m : Int) (w : World) (hc : CurAt w c bv n) (hb : BytesAt w c bv n) (hm : I64 m) : Calls Try.prog 119 #[.pointer (some ⟨c, 0, none⟩), .int .i64 m] w (Coin w c bv n) := by
  go_enter Try.func119, Try.ntmps119
  go_wp2_with fail
  refine (l1Below_any _ _ _ _ _ hc hb hm).mono ?_
  rintro e w1 ⟨x, rfl, hx, hc1, ho1⟩
  have HC1 := Lib.hid hc1
  have HO1 := Lib.hid ho1
  clear hc hb hc1 ho1 hx
  go_wp2
  go_ret
  exact ⟨_, rfl, HC1.out, HO1.out⟩

end Go.Proofs.Ytikfbfclbmlopaa
