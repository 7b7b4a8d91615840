/- The texts U2, U3, joined. -/
import Derived.Test.YtohjfcfcopbmoaaQJ7
import Derived.Deep.AppendLies
import Derived.Test.YtohjfcfcopbmoaaM7
import Derived.Deep.RegionLaw

/- Walks: a set of vertices drawn. -/
namespace Go.Proofs.Ytohjfcfcopbmoaa
open Go.RowKit

/-- A row at work: some numbers, at most so many. -/
def RowUp (w : World) (B : Nat) (v : Value) (k : Nat) : Prop := ∃ xs : List Int, xs.length ≤ k ∧ (∀ x ∈ xs, I64 x) ∧ w.ownsRow B 2 1 v xs.length (xs.map (Value.int .i64))
theorem RowUp.only {w w' : World} {B c k : Nat} {v : Value} (h : RowUp w B v k) (ho : OnlyBlk c w w') (hc : c < B) : RowUp w' B v k := by
  obtain ⟨xs, h1, h2, h3⟩ := h
  exact ⟨xs, h1, h2, h3.1, h3.2.imp (fun h => h) (fun ⟨g, cap, cur, e, hgB, hh, r⟩ => ⟨g, cap, cur, e, hgB, by rw [ho.other g (by omega)]; exact hh, r⟩)⟩
theorem RowUp.touched {w w' : World} {B c k : Nat} {v : Value} (h : RowUp w B v k) (ht : Touched c (c + 1) w w') (hc : c < B) : RowUp w' B v k := by
  obtain ⟨xs, h1, h2, h3⟩ := h
  exact ⟨xs, h1, h2, h3.1, h3.2.imp (fun h => h) (fun ⟨g, cap, cur, e, hgB, hh, r⟩ => ⟨g, cap, cur, e, hgB, by rw [ht.other g (Array.getElem?_eq_some_iff.1 hh).1 (Or.inr (by omega))]; exact hh, r⟩)⟩
end Go.Proofs.Ytohjfcfcopbmoaa

/- Walks: an order drawn. -/
namespace Go.Proofs.Ytohjfcfcopbmoaa
open Go.RowKit

theorem OwnRow.cells {T : TypeId} {w : World} {B b n cl : Nat} {xs : List Int} (h : OwnRow T w B (.slice (some ⟨b, 0, none⟩) n cl) xs) : ∀ i, i < xs.length → w.cell? ⟨b, 0 + i, none⟩ = some (.int .i64 (nth xs i)) := by
  obtain ⟨h1, h2, h3⟩ := h
  rcases h3 with ⟨e, _⟩ | ⟨g', cap', cur, e, hgB, hh, l1, l2, hs, hc⟩
  · simp at e
  · simp only [Value.slice.injEq, Option.some.injEq, Addr.mk.injEq, and_true] at e
    obtain ⟨rfl, _, _⟩ := e
    intro i hi
    rw [Nat.zero_add, cell_of_row w b i cur T _ hh]
    exact hc i hi

end Go.Proofs.Ytohjfcfcopbmoaa
