/- Walks: the iterator over the parts. -/
import Derived.Test.YtojbaepcflkgeaaQZ1
import Derived.Test.YtojbaepcflkgeaaQX2
import Derived.RangeFuncFrom
import Derived.Deep.RegionHeld3

namespace Go.Proofs.Ytojbaepcflkgeaa
open Go.RowKit Go.Shelf
attribute [local go_sem] Oper.semAt_some

/-- The vertices below k that begin a part. -/
noncomputable def headsTo (A : Nat → Nat → Bool) (n k : Nat) : List Nat := (List.range k).filter (fun v => headN A n v == v)
theorem headsTo_map (A : Nat → Nat → Bool) (n k : Nat) : (headsTo A n k).map (compN A n) = partsM A n k := rfl
theorem headsTo_len (A : Nat → Nat → Bool) (n k : Nat) : (headsTo A n k).length ≤ k := by
  have := List.length_filter_le (fun v => headN A n v == v) (List.range k)
  rwa [List.length_range] at this
theorem headsTo_succ {A : Nat → Nat → Bool} {n k : Nat} (h : headN A n k = k) : headsTo A n (k + 1) = headsTo A n k ++ [k] := by
  unfold headsTo
  rw [List.range_succ, List.filter_append]
  simp [h]
theorem headsTo_same {A : Nat → Nat → Bool} {n i j : Nat} (hij : i ≤ j) (h : ∀ v, i ≤ v → v < j → headN A n v ≠ v) : headsTo A n j = headsTo A n i := by
  induction j with
  | zero => obtain rfl : i = 0 := by omega
            rfl
  | succ j ih =>
    by_cases e : i = j + 1
    · subst e; rfl
    · have : headsTo A n (j + 1) = headsTo A n j := by
        unfold headsTo
        rw [List.range_succ, List.filter_append]
        simp [h j (by omega) (by omega)]
      rw [this]
      exact ih (by omega) (fun v h1 h2 => h v h1 (by omega))

/-- A part, as yield takes it. -/
noncomputable def encM (A : Nat → Nat → Bool) (n v : Nat) : Array Value := #[.int .u32 (compN A n v : Int)]

/-- What the iterator reads. -/
structure PartIn (w : World) (pt bn n : Nat) (M : Nat → Nat) : Prop where
  t : w.cell? ⟨pt, 0, none⟩ = some (.pointer (some ⟨bn, 0, none⟩))
  net : NetAt w bn n M
  tab : TabAt w
theorem PartIn.keep {w w' : World} {pt bn n : Nat} {M : Nat → Nat} (h : PartIn w pt bn n M) (hb : Below w.heap.size w w') : PartIn w' pt bn n M := ⟨cell_keep hb h.t, h.net.keep hb, h.tab.keep hb⟩
theorem PartIn.but {w w' : World} {pt bn n : Nat} {M : Nat → Nat} (h : PartIn w pt bn n M) (hb : KeepsBut (fun k => k ≠ pt ∧ k ≠ bn ∧ k ≠ 0) w w') : PartIn w' pt bn n M :=
  ⟨hb.cell (fun h => h.1 rfl) h.t, ⟨hb.cell (fun h => h.2.1 rfl) h.net.1, fun i hi => hb.cell (fun h => h.2.1 rfl) (h.net.2 i hi)⟩, fun i hi => hb.cell (fun h => h.2.2 rfl) (h.tab i hi)⟩

theorem grown_of_below {A B : World} (h : Below A.heap.size A B) : A.grownBy B none := ⟨h.os, h.tape, h.output, h.size, fun k hk _ => h.block k hk⟩

end Go.Proofs.Ytojbaepcflkgeaa
