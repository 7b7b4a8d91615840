/- The texts J1, J2, J3, joined. -/
import Derived.Test.YtohjfcfcopbmoaaG1

/- Walks: the cursor over a code's bytes. -/
namespace Go.Proofs.Ytohjfcfcopbmoaa
open Go.RowKit

/-- A slice of n bytes below block c. -/
def BytesAt (w : World) (c : Nat) (bv : Value) (n : Nat) : Prop := n ≤ 4096 ∧ ∃ a cap, bv = .slice a n cap ∧ (0 < n → ∃ b o, a = some ⟨b, o, none⟩ ∧ b < c ∧ ∀ i, i < n → ∃ x : Nat, x < 256 ∧ w.cell? ⟨b, o + i, none⟩ = some (.int .u8 (x : Int)))
theorem BytesAt.keepB {w w' : World} {c n B : Nat} {bv : Value} (h : BytesAt w c bv n) (hb : Below B w w') (hB : c ≤ B) : BytesAt w' c bv n := by
  obtain ⟨h1, a, cap, e, h2⟩ := h
  refine ⟨h1, a, cap, e, fun hn => ?_⟩
  obtain ⟨b, o, ea, hb', hc⟩ := h2 hn
  refine ⟨b, o, ea, hb', fun i hi => ?_⟩
  obtain ⟨x, hx, hcx⟩ := hc i hi
  exact ⟨x, hx, by rw [hb.cell (by simp; omega)]; exact hcx⟩
theorem OnlyBlk.below {g : Nat} {w w' : World} (h : OnlyBlk g w w') : Below g w w' := ⟨h.os, h.tape, h.output, Nat.le_of_eq h.size.symm, fun k hk => h.other k (by omega)⟩
theorem OnlyBlk.trans {g : Nat} {a b c : World} (h : OnlyBlk g a b) (k : OnlyBlk g b c) : OnlyBlk g a c := ⟨k.os.trans h.os, k.tape.trans h.tape, k.output.trans h.output, k.size.trans h.size, fun j hj => (k.other j hj).trans (h.other j hj)⟩
theorem OnlyBlk.drewN {g : Nat} {w w' : World} (h : OnlyBlk g w w') (n : Nat) : OnlyBlk g w (w'.drewN n) := ⟨h.os, h.tape, h.output, h.size, h.other⟩
theorem OnlyBlk.drawn {g : Nat} {w w' w2 : World} (h : OnlyBlk g w w') (hd : Drawn w' w2) : OnlyBlk g w w2 := by obtain ⟨n, rfl⟩ := hd; exact h.drewN n

end Go.Proofs.Ytohjfcfcopbmoaa

/- Walks: numbers drawn from a cursor. -/
namespace Go.Proofs.Ytohjfcfcopbmoaa
open Go.RowKit

theorem OnlyBlk.bytes {c n : Nat} {w w' : World} {bv : Value} (h : OnlyBlk c w w') (hb : BytesAt w c bv n) : BytesAt w' c bv n := hb.keepB h.below (Nat.le_refl _)

end Go.Proofs.Ytohjfcfcopbmoaa

/- Walks: a graph by dice. -/
namespace Go.Proofs.Ytohjfcfcopbmoaa
open Go.RowKit

theorem Touched.under {c B : Nat} {w a b : World} (h : Touched c (c + 1) w a) (hb : Below B a b) (hB : w.heap.size ≤ B) : Touched c (c + 1) w b :=
  ⟨hb.os.trans h.os, hb.tape.trans h.tape, hb.output.trans h.output, Nat.le_trans h.size hb.size, fun j h1 h2 => (hb.block j (by omega)).trans (h.other j h1 h2)⟩
theorem Touched.only {c : Nat} {w a b : World} (h : Touched c (c + 1) w a) (ho : OnlyBlk c a b) : Touched c (c + 1) w b := h.trans (ho.touched (Nat.le_refl _) (by omega))
theorem Touched.bytes {c n : Nat} {w a : World} {bv : Value} (h : Touched c (c + 1) w a) (hb : BytesAt w c bv n) (hc : c ≤ w.heap.size) : BytesAt a c bv n := hb.keepB (h.below hc) (Nat.le_refl _)
theorem BoxT.only {T : TypeId} {c b : Nat} {w w' : World} {v : Value} (h : BoxT T w b v) (ho : OnlyBlk c w w') (hb : b ≠ c) : BoxT T w' b v := by unfold BoxT; rw [ho.other b hb]; exact h
theorem BoxAt.only {c b : Nat} {w w' : World} {v : Value} (h : BoxAt w b v) (ho : OnlyBlk c w w') (hb : b ≠ c) : BoxAt w' b v :=
  ⟨by rw [World.cell?_of_block (w := w) (ho.other b hb)]; exact h.1, by rw [World.frozen?_of_block (w := w) (ho.other b hb)]; exact h.2⟩

end Go.Proofs.Ytohjfcfcopbmoaa
