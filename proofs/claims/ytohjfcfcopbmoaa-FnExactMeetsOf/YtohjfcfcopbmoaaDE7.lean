/- Walks of the laws' own helpers: marks of a decomposition. -/
import Derived.Test.YtohjfcfcopbmoaaQDE1

namespace Go.Proofs.Ytohjfcfcopbmoaa
open Go.RowKit

set_option maxHeartbeats 1000000 in
theorem markDecomp_any (v u : Value) (B K : List (List Int)) (B1 U1 U2 : Nat) (k : Int) (w : World) (h : OwnGridU 2 33 w B1 U1 v B) (h' : OwnGridU 2 33 w U1 U2 u K) (hU : B1 ≤ U1 ∧ U1 ≤ U2 ∧ U2 ≤ w.heap.size) (h0 : 0 ≤ k) (h1 : k ≤ 10000000000000) (hs : Small B) (hs' : Small K) :
    Calls Try.prog 21 #[.agg #[v, u], .int .i64 k] w fun e w' => e = .returned (.int .i64 (k + (totTo B B.length : Int) + (totTo K K.length : Int))) ∧ Touched B1 U2 w w' := by
  obtain ⟨a, c, rfl⟩ := h.read.slice
  obtain ⟨a', c', rfl⟩ := h'.read.slice
  have ha : Below w.heap.size w (w.alloc (.cells #[.slice a B.length c, .slice a' K.length c'] 27)) := (Below.refl _ _).alloc (Nat.le_refl _) _
  have HK := Lib.hid (h.keep ha)
  have HK' := Lib.hid (h'.keep ha)
  have X0 := Lib.hid (Box2.new w (.slice a B.length c) (.slice a' K.length c') 27)
  have HT : Hid (Touched B1 U2 w (w.alloc (.cells #[.slice a B.length c, .slice a' K.length c'] 27))) := Touched.ofBelow ha
  have htb := totTo_le hs.2 B.length (Nat.le_refl _)
  have htk := totTo_le hs'.2 K.length (Nat.le_refl _)
  have hb1 := hs.1
  have hb2 := hs'.1
  have htb2 : 1048576 * B.length ≤ 1048576 * 1048576 := by omega
  have htk2 : 1048576 * K.length ≤ 1048576 * 1048576 := by omega
  clear ha h h'
  go_enter Try.func21, Try.ntmps21
  go_wp2_with fail
  refine (markInt64SS_any _ _ _ _ _ _ HK.out h0 (by omega) hs).mono ?_
  rintro e w1 ⟨rfl, hg1, ht1⟩
  have HL1 := Lib.hid (HK'.out.apart ht1 (by omega))
  have HT1 : Hid (Touched B1 U2 w w1) := HT.out.trans (ht1.wide (Nat.le_refl _) hU.2.1)
  have k1 : w1.cell? ⟨w.heap.size, 1, none⟩ = some (.slice a' K.length c') := cell_apart X0.out.c1 ht1 (by dsimp only; omega)
  clear ht1 hg1
  go_wp2_with fail
  refine (markInt64SS_any _ _ _ _ _ _ HL1.out (by omega) (by omega) hs').mono ?_
  rintro e w2 ⟨rfl, hg2, ht2⟩
  have HT2 : Hid (Touched B1 U2 w w2) := HT1.out.trans (ht2.wide hU.1 (Nat.le_refl _))
  clear ht2 hg2 k1
  go_wp2
  go_ret
  exact ⟨rfl, HT2.out⟩

end Go.Proofs.Ytohjfcfcopbmoaa
