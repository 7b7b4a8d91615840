/- The texts Later, C4, C5, joined. -/
import Derived.Test.YtojbaepcflkgeaaDoorBase
import Derived.Test.YtojbaepcflkgeaaDoorQC1
import Derived.Deep.RegionHeld3

/- A class of worlds for regions that draw their order and call what makes memory but hands back a plain value: all worlds in which nothing that was there has turned. -/
namespace Go.Proofs.YtojbaepcflkgeaaDoor
open Go.RowKit

/-- A world in which all of w is as it was. -/
def Later (w : World) : Type := { w' : World // Below w.heap.size w w' }
instance (w : World) : Nonempty (Later w) := ⟨⟨w, Below.refl _ _⟩⟩
def Later.at {w : World} (x : Later w) : World := x.1
theorem Later.bel {w : World} (x : Later w) : Below w.heap.size w x.at := x.2
theorem Later.cell {w : World} {a : Addr} {v : Value} (h : w.cell? a = some v) (x : Later w) : x.at.cell? a = some v := cell_keep x.bel h

theorem wp_region_later {P : Program} {id : Nat} {Q : Exit → Act → World → Prop} {a : Act} {w : World} {l : List Oper} (hm : P.follows .mixedOrders = true) (hB : Region.lexB .any l.toArray = true)
    (h : wpQuiet P l.toArray (fun w' => ∃ x : Later w, w' = x.at) (fun a' => ∀ w', (∃ x : Later w, w' = x.at) → Q .normal a' w') l a) : (Code.region id l.toArray true).wp P Q a w :=
  wp_region_quiet (C := fun w' => ∃ x : Later w, w' = x.at) hm hB ⟨⟨w.drew, (Below.refl _ _).drew⟩, rfl⟩ (by simpa using h)

theorem Calls.later {P : Program} {f : FuncId} {args : Array Value} {w : World} {x : Later w} {v : Value}
    (h : Calls P f args x.at fun e w' => e = .returned v ∧ Below x.at.heap.size x.at w') : Calls P f args x.at fun e w'' => e = .returned v ∧ ∃ y : Later w, w'' = y.at :=
  h.mono fun _ w' ⟨he, hb⟩ => ⟨he, ⟨w', x.bel.trans (hb.mono x.bel.size)⟩, rfl⟩
theorem Calls.later_same {P : Program} {f : FuncId} {args : Array Value} {w : World} {x : Later w} {v : Value}
    (h : Calls P f args x.at fun e w' => e = .returned v ∧ x.at = w') : Calls P f args x.at fun e w'' => e = .returned v ∧ ∃ y : Later w, w'' = y.at :=
  h.mono fun _ _ ⟨he, hb⟩ => ⟨he, x, hb.symm⟩
theorem Calls.later_drawn {P : Program} {f : FuncId} {args : Array Value} {w : World} {x : Later w} {v : Value}
    (h : Calls P f args x.at fun e w' => e = .returned v ∧ Drawn x.at w') : Calls P f args x.at fun e w'' => e = .returned v ∧ ∃ y : Later w, w'' = y.at :=
  Calls.later (h.mono fun _ _ ⟨he, hd⟩ => ⟨he, hd.below _⟩)

end Go.Proofs.YtojbaepcflkgeaaDoor

/- Walks: OrderOk. -/
namespace Go.Proofs.YtojbaepcflkgeaaDoor
open Go.RowKit

/-- Element k is a vertex below n that is not among the first k. -/
def OrdAt (xs : List Int) (n : Nat) (k : Nat) : Prop := inB (nth xs k) 0 ((n : Int) - 1) = true ∧ hasB (xs.take k) (nth xs k) = false
instance (xs : List Int) (n k : Nat) : Decidable (OrdAt xs n k) := by unfold OrdAt; infer_instance
/-- The list names each of n vertices once. -/
def OrdP (xs : List Int) (n : Nat) : Prop := xs.length = n ∧ ∀ k, k < xs.length → OrdAt xs n k
instance (xs : List Int) (n : Nat) : Decidable (OrdP xs n) := by unfold OrdP; infer_instance

theorem nth_take {xs : List Int} {k i : Nat} (h : i < k) : nth (xs.take k) i = nth xs i := by simp [nth, h]
theorem hasB_take {xs : List Int} {k : Nat} (hk : k ≤ xs.length) (x : Int) : hasB (xs.take k) x = true ↔ ∃ j, j < k ∧ nth xs j = x := by
  rw [hasB_iff]
  constructor
  · rintro ⟨i, hi, e⟩
    have hi' : i < k := by simp at hi; omega
    exact ⟨i, hi', by rw [← nth_take hi']; exact e⟩
  · rintro ⟨i, hi, e⟩
    exact ⟨i, by simp; omega, by rw [nth_take hi]; exact e⟩

theorem RowAt.take {w : World} {b o c : Nat} {xs : List Int} {n : Nat} (h : RowAt w (.slice (some ⟨b, o, none⟩) n c) xs) (hc : ∀ i, i < xs.length → w.cell? ⟨b, o + i, none⟩ = some (.int .i64 (nth xs i))) (hcm : c ≤ maxLen) (hcx : xs.length ≤ c) (k : Nat) (hk : k ≤ xs.length) :
    RowAt w (.slice (some ⟨b, o, none⟩) k c) (xs.take k) := by
  have e : (xs.take k).length = k := by simp; omega
  refine ⟨fun x hx => h.1 x (List.mem_of_mem_take hx), by rw [e]; exact Nat.le_trans hk h.2.1, Or.inr ⟨b, o, c, by rw [e], by omega, hcm, fun i hi => ?_⟩⟩
  rw [e] at hi
  rw [nth_take hi]
  exact hc i (by omega)

end Go.Proofs.YtojbaepcflkgeaaDoor

/- Walks: OrderOk, of the model and of the program. -/
namespace Go.Proofs.YtojbaepcflkgeaaDoor
open Go.RowKit

/-- What OrderOk answers. -/
def orderB (L : List (List Int)) (xs : List Int) : Bool := decide (GraphP L) && decide (OrdP xs L.length)

theorem inB_vertex (x : Int) (n : Nat) : inB x 0 ((n : Int) - 1) = decide (0 ≤ x ∧ x < (n : Int)) := by
  unfold inB
  rw [Bool.eq_iff_iff, decide_eq_true_iff, decide_eq_true_iff]
  omega

theorem maskTo_small {xs : List Int} {n : Nat} (hn : n ≤ 16) {k : Nat} (h : ∀ j, j < k → inB (nth xs j) 0 ((n : Int) - 1) = true) : maskTo xs k < 65536 := by
  induction k with
  | zero => simp [maskTo]
  | succ k ih =>
    have h1 := h k (by omega)
    simp [inB] at h1
    exact or_lt16 (ih (fun j hj => h j (by omega))) (by omega)

end Go.Proofs.YtojbaepcflkgeaaDoor
