/- Walks: the iterator over all lists. -/
import Derived.Test.YtmfolclpddoplaaQEN1

namespace Go.Proofs.Ytmfolclpddoplaa
open Go.RowKit Go.Shelf

theorem made_row (w : World) (B sz : Nat) (hB : B ≤ w.heap.size) (hm : sz ≤ maxLen) : OwnRow 2 (w.alloc (.cells (madeCells #[.int .i64 0] sz) 2)) B (.slice (some ⟨w.heap.size, 0, none⟩) 0 sz) [] :=
  ⟨by simp, by simp, Or.inr ⟨w.heap.size, sz, madeCells #[.int .i64 0] sz, rfl, hB, World.alloc_heap_new w _, Nat.zero_le _, hm, by simp [size_madeCells], fun i hi => absurd hi (by simp)⟩⟩

end Go.Proofs.Ytmfolclpddoplaa
