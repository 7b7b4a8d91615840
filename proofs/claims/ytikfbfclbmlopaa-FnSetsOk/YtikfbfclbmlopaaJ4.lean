/- Walks: l1DrawOf. -/
import Derived.Test.YtikfbfclbmlopaaJ3
namespace Go.Proofs.Ytikfbfclbmlopaa
open Go.RowKit

set_option maxHeartbeats 1600000 in
theorem l1DrawOf_any (c nb n : Nat) (bv : Value) (w : World) (hc : CurAt w c bv nb) (hb : BytesAt w c bv nb) (hn1 : 1 ≤ n) (hn : n ≤ 16) : Calls Try.prog 135 #[.pointer (some ⟨c, 0, none⟩), .int .i64 (n : Int)] w (DrewM w c bv nb) := by
  have hcw := hc.lt
  have HC := Lib.hid hc
  have HBY := Lib.hid hb
  have HB0 : Hid (Below w.heap.size w (w.alloc (.cells #[.slice none 0 0] 26))) := (Below.refl _ _).alloc (Nat.le_refl _) _
  have HBX0 : Hid (BoxAt (w.alloc (.cells #[.slice none 0 0] 26)) w.heap.size (.slice none 0 0)) := BoxAt.new _ _ _
  clear hc hb
  go_enter Try.func135, Try.ntmps135
  go_wp2_with fail
  refine (l1Empty_any n _ (by omega)).mono ?_
  rintro e w2 ⟨n2, a2, c2, rfl, ho2, hb2⟩
  obtain rfl : n2 = n := by
    obtain ⟨a3, c3, e3⟩ := ho2.grid.slice
    simp only [Value.slice.injEq] at e3
    simpa using e3.2.1
  rw [maskL_zero n2 [], size_alloc1] at ho2
  have hs2 : w.heap.size + 1 ≤ w2.heap.size := by have := hb2.size; rw [size_alloc1] at this; exact this
  have hbl2 : Below w.heap.size w w2 := HB0.out.trans (hb2.mono HB0.out.size)
  have hst : Below w2.heap.size w2 (w2.alloc (.cells #[.slice a2 n2 c2] 26)) := (Below.refl _ _).alloc (Nat.le_refl _) _
  have hmid : Midst w c bv nb n2 w2.heap.size (w2.alloc (.cells #[.slice a2 n2 c2] 26)) :=
    ⟨_, a2, c2, BoxT.new _ _ _, ho2.keep hst, (HBX0.out.keep hb2).keep hst, (HC.out.keepB hbl2 hcw).keepB hst (by omega), Touched.ofBelow (hbl2.trans (hst.mono (by omega)))⟩
  have HM := Lib.hid hmid
  have hcur : CurAt (w2.alloc (.cells #[.slice a2 n2 c2] 26)) c bv nb := by obtain ⟨_, _, _, _, _, _, h4, _⟩ := hmid; exact h4
  have hby : BytesAt (w2.alloc (.cells #[.slice a2 n2 c2] 26)) c bv nb := by obtain ⟨_, _, _, _, _, _, _, h5⟩ := hmid; exact h5.bytes HBY.out (by omega)
  have HCU := Lib.hid hcur
  have HBY2 := Lib.hid hby
  clear ho2 hb2 hbl2 hst hmid hcur hby
  go_wp2_with fail
  refine (l1Below_any c nb bv _ _ HCU.out HBY2.out (by unfold I64; omega)).mono ?_
  rintro e w3 ⟨x, rfl, hx, hc3, ho3⟩
  have hx' := hx.2 (by omega)
  have HM3 := Lib.hid (HM.out.only hcw (by omega) ho3 hc3)
  clear hx hc3 ho3 HCU HBY2 HM
  obtain ⟨hx0, hx1⟩ := hx'
  go_wp2_with fail
  go_loopw [7] (fun i wr => ∃ k : Nat, 1 ≤ k ∧ k ≤ n2 ∧ i = .int .i64 k ∧ Midst w c bv nb n2 w2.heap.size wr) (fun i _ => n2 - (intOf i).toNat)
  case atStart => exact ⟨1, Nat.le_refl _, hn1, rfl, HM3.out⟩
  case round =>
    obtain ⟨k, hk1, hk, rfl, hmid⟩ := hrel
    have HM4 := Lib.hid hmid
    by_cases hlt : k < n2
    · clear hmid
      go_wp2
      go_loopw [8] (fun i w5 => ∃ u : Nat, u ≤ k ∧ i = .int .i64 u ∧ Midst w c bv nb n2 w2.heap.size w5) (fun i _ => k - (intOf i).toNat)
      case atStart => exact ⟨0, Nat.zero_le _, rfl, HM4.out⟩
      case round =>
        rename World => w5
        obtain ⟨u, hu, rfl, hmid⟩ := hrel
        have HM5 := Lib.hid hmid
        by_cases hul : u < k
        · have hcur : CurAt w5 c bv nb := by obtain ⟨_, _, _, _, _, _, h4, _⟩ := hmid; exact h4
          have hby : BytesAt w5 c bv nb := by obtain ⟨_, _, _, _, _, _, _, h5⟩ := hmid; exact h5.bytes HBY.out (by omega)
          have HCU := Lib.hid hcur
          have HBY2 := Lib.hid hby
          clear hmid hcur hby
          go_wp2_with fail
          refine (l1Below_any c nb bv _ _ HCU.out HBY2.out (by unfold I64; omega)).mono ?_
          rintro e w6 ⟨y, rfl, hy, hc6, ho6⟩
          have HM6 := Lib.hid (HM5.out.only hcw (by omega) ho6 hc6)
          clear hy hc6 ho6 HCU HBY2
          by_cases hyx : y < 1 + x
          · have dy : decide (y < 1 + x) = true := by simpa using hyx
            obtain ⟨a6, cap6, kb6, hlk⟩ := HM6.out.link hcw (by omega) hn u k (by omega) hlt (by omega)
            have HLK := Lib.hid hlk
            clear hlk
            go_wp2_with fail
            refine HLK.out.mono ?_
            rintro e w7 ⟨rfl, kb7, kf7, hm7⟩
            have HM7 := Lib.hid hm7
            clear hm7
            go_wp2
            go_roundw
            case rel => exact ⟨u + 1, by omega, by go_num, HM7.out⟩
            case measure => simp [intOf]; omega
          · have dy : decide (y < 1 + x) = false := by simpa using hyx
            go_wp2
            go_roundw
            case rel => exact ⟨u + 1, by omega, by go_num, HM6.out⟩
            case measure => simp [intOf]; omega
        · clear hmid
          obtain rfl : u = k := by omega
          go_wp2
          go_roundw
          case rel => exact ⟨u + 1, by omega, by omega, by go_num, HM5.out⟩
          case measure => simp [intOf]; omega
    · obtain rfl : k = n2 := by omega
      obtain ⟨a8, cap8, kb8, k08, f08, q08, hp8⟩ := HM4.out.done hcw hn1 hn
      have HP := Lib.hid hp8
      have HQ := Lib.hid q08
      clear hmid hp8 q08
      go_wp2
      exact bodyPost_ret (v := .agg #[.slice a8 k cap8]) (by simp [results, Try.results135, go_sem, HQ.out]) rfl HP.out

end Go.Proofs.Ytikfbfclbmlopaa
