/- Words for the laws of two graphs: what a region leaves that copies both, calls the function and boxes its answer. -/
import Derived.Test.YtikfbfclbmlopaaD3
import Derived.Test.YtikfbfclbmlopaaG1
import Derived.Deep.RegionHeld3
import Derived.Deep.DeepCutAuto
namespace Go.Proofs.Ytikfbfclbmlopaa
open Go.RowKit

/-- The answer lies in a box of its own, made since the world W. -/
def CutRes (W : World) (E : List (List Int)) (ok : Bool) (p b : Value) (wx : World) : Prop :=
  ∃ bo a n c, p = .pointer (some ⟨bo, 0, none⟩) ∧ b = .bool ok ∧ wx.cell? ⟨bo, 0, none⟩ = some (.slice a n c) ∧ OwnGridU 2 34 wx W.heap.size wx.heap.size (.slice a n c) E ∧ Below W.heap.size W wx ∧ bo < wx.heap.size
theorem CutRes.last {W w3 : World} {E : List (List Int)} {ok : Bool} {a : Option Addr} {n c B : Nat} (hb : Below W.heap.size W w3) (ho : OwnGrid 2 34 w3 B (.slice a n c) E) (hB : W.heap.size ≤ B) :
    CutRes W E ok (.pointer (some ⟨w3.heap.size, 0, none⟩)) (.bool ok) (w3.alloc (.cells #[.slice a n c] 26)) :=
  ⟨w3.heap.size, a, n, c, rfl, rfl, (BoxAt.new w3 _ _).1, ((ho.mono hB).keep ((Below.refl _ _).alloc (Nat.le_refl _) _)).under, hb.alloc hb.size _, by rw [size_alloc1]; omega⟩
theorem CutRes.first {W w3 : World} {E : List (List Int)} {ok : Bool} {a : Option Addr} {n c B bo : Nat} (hb : Below W.heap.size W w3) (ho : OwnGrid 2 34 w3 B (.slice a n c) E) (hB : W.heap.size ≤ B) (hx : BoxAt w3 bo (.slice none 0 0)) (hlt : bo < B) (hbo : W.heap.size ≤ bo) :
    CutRes W E ok (.pointer (some ⟨bo, 0, none⟩)) (.bool ok) (w3.setCell ⟨bo, 0, none⟩ (.slice a n c)) :=
  ⟨bo, a, n, c, rfl, rfl, cell_set_same _ hx.1, ((ho.setBelow hlt _).mono hB).under, hb.setCell hbo _, by rw [size_setCell1]; exact hx.lt⟩

end Go.Proofs.Ytikfbfclbmlopaa
