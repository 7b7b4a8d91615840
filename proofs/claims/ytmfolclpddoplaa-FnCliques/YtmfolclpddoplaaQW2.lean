/- The texts W2, W3, W4, joined. -/
import Derived.Test.YtmfolclpddoplaaW1
import Derived.Test.YtmfolclpddoplaaQM7
import Derived.Test.YtmfolclpddoplaaQF1
import Derived.Deep.AppendLies
import Derived.Test.YtmfolclpddoplaaQV1
import Derived.Deep.RegionHeld3

/- Walks: the model's distances. -/
namespace Go.Proofs.Ytmfolclpddoplaa
open Go.RowKit

theorem OwnRow.far' {T : TypeId} {w w' : World} {B : Nat} {v : Value} {xs : List Int} {r : Option Nat} (h : OwnRow T w B v xs) (hg : w.grownBy w' r) (hne : ∀ k, v.ownBlock = some k → some k ≠ r) : OwnRow T w' B v xs := by
  obtain ⟨h1, h2, h3⟩ := h
  refine ⟨h1, h2, ?_⟩
  rcases h3 with h3 | ⟨g, cap, cur, e, hgB, hh, rest⟩
  · exact Or.inl h3
  · refine Or.inr ⟨g, cap, cur, e, hgB, ?_, rest⟩
    rw [hg.block g (Array.getElem?_eq_some_iff.1 hh).1 (hne g (by rw [e]; rfl))]
    exact hh

theorem OwnRow.laidAt' {T : TypeId} {w : World} {B g cap n : Nat} {ys : List Int} (h : OwnRow T w B (.slice (some ⟨g, 0, none⟩) n cap) ys) (hn : ys.length = n) {k : Nat} (hk : k < n) {z : Int} (hz : I64 z) :
    OwnRow T (w.setCell ⟨g, k, none⟩ (.int .i64 z)) B (.slice (some ⟨g, 0, none⟩) n cap) (ys.set k z) ∧ w.cell? ⟨g, k, none⟩ = some (.int .i64 (nth ys k)) ∧ w.frozen? ⟨g, k, none⟩ = false ∧ B ≤ g := by
  subst hn
  obtain ⟨h1, h2, h3⟩ := h
  rcases h3 with ⟨e, _⟩ | ⟨g', cap', cur, e, hgB, hh, l1, l2, hs, hc⟩
  · simp at e
  · simp only [Value.slice.injEq, Option.some.injEq, Addr.mk.injEq, and_true, true_and] at e
    obtain ⟨rfl, rfl⟩ := e
    have hlen : (ys.set k z).length = ys.length := List.length_set
    refine ⟨⟨fun x hx => ?_, by rw [hlen]; exact h2, Or.inr ⟨g, cap, cur.set! k (.int .i64 z), by rw [hlen], hgB, heap_setCell_same w g k _ _ _ hh, by rw [hlen]; exact l1, l2, by simp [hs], fun i hi => ?_⟩⟩, by rw [cell_of_row w g k cur T _ hh]; exact hc k hk, ?_, hgB⟩
    · rcases List.mem_or_eq_of_mem_set hx with h | rfl
      · exact h1 x h
      · exact hz
    · have hi' : i < ys.length := by rw [hlen] at hi; exact hi
      rw [nth_eq hi, List.getElem_set]
      by_cases e : k = i
      · subst e; have hks : k < cur.size := by omega
        simp [hks]
      · rw [if_neg e, ← nth_eq hi', ← hc i hi']; simp [e]
    · exact frozen_of_row w g k cur T hh
theorem OwnRow.cells' {T : TypeId} {w : World} {B b n cl : Nat} {xs : List Int} (h : OwnRow T w B (.slice (some ⟨b, 0, none⟩) n cl) xs) : ∀ i, i < xs.length → w.cell? ⟨b, i, none⟩ = some (.int .i64 (nth xs i)) := by
  obtain ⟨h1, h2, h3⟩ := h
  rcases h3 with ⟨e, _⟩ | ⟨g', cap', cur, e, hgB, hh, l1, l2, hs, hc⟩
  · simp at e
  · simp only [Value.slice.injEq, Option.some.injEq, Addr.mk.injEq, and_true] at e
    obtain ⟨rfl, _, _⟩ := e
    intro i hi
    rw [cell_of_row w b i cur T _ hh]
    exact hc i hi
/-- A row of one's own that is not empty lies in a block. -/
theorem OwnRow.posB {T : TypeId} {w : World} {B : Nat} {v : Value} {xs : List Int} (h : OwnRow T w B v xs) (h0 : 0 < xs.length) : ∃ g cap, v = .slice (some ⟨g, 0, none⟩) xs.length cap ∧ B ≤ g ∧ g < w.heap.size ∧ xs.length ≤ cap ∧ cap ≤ maxLen := by
  rcases h.2.2 with ⟨_, e⟩ | ⟨g, cap, cur, e, hgB, hh, l1, l2, hs, hc⟩
  · rw [e] at h0; simp at h0
  · exact ⟨g, cap, e, hgB, (Array.getElem?_eq_some_iff.1 hh).1, l1, l2⟩

/-- Who is near whom. -/
def nearB (L : List (List Int)) (a b : Nat) : Bool := hasB (nthR L a) (b : Int)
/-- Who is in a list. -/
def inS (xs : List Int) (u : Nat) : Bool := hasB xs (u : Int)

/-- The two rows of a search: the distances so far, and who was met. -/
structure Seek (W : World) (g cap n : Nat) (out met : List Int) (vm : Value) (wr : World) : Prop where
  out : OwnRow 2 wr W.heap.size (.slice (some ⟨g, 0, none⟩) n cap) out
  met : OwnRow 2 wr W.heap.size vm met
  ne : ∀ k, vm.ownBlock = some k → k ≠ g
  bel : Below W.heap.size W wr
theorem Seek.later {W : World} {g cap n : Nat} {out met : List Int} {vm : Value} {wr w' : World} (h : Seek W g cap n out met vm wr) (hb : Below wr.heap.size wr w') : Seek W g cap n out met vm w' :=
  ⟨h.out.keep hb, h.met.keep hb, h.ne, h.bel.trans (hb.mono h.bel.size)⟩
theorem Seek.put {W : World} {g cap n : Nat} {out met : List Int} {vm : Value} {wr : World} (h : Seek W g cap n out met vm wr) (hn : out.length = n) {k : Nat} (hk : k < n) {z : Int} (hz : I64 z) : Seek W g cap n (out.set k z) met vm (wr.setCell ⟨g, k, none⟩ (.int .i64 z)) :=
  ⟨(h.out.laidAt' hn hk hz).1, h.met.setCell (fun e => h.ne _ e rfl) _, h.ne, h.bel.setCell (p := ⟨g, k, none⟩) (h.out.laidAt' hn hk hz).2.2.2 _⟩
theorem Seek.more {W : World} {g cap n : Nat} {out met : List Int} {vm : Value} {wr : World} (h : Seek W g cap n out met vm wr) {o : Obj} {v' : Value} {w' : World} {x : Int} (hx : I64 x) (hm : met.length + 1 ≤ maxLen)
    (hown : w'.ownsRow W.heap.size 2 1 v' (met.length + 1) (met.map (Value.int .i64) ++ [.int .i64 x])) (hgrow : (wr.alloc o).grownBy w' vm.ownBlock) (hv' : ∀ k, v'.ownBlock = some k → vm.ownBlock = some k ∨ wr.heap.size ≤ k) :
    Seek W g cap n out (met ++ [x]) v' w' := by
  have hbA : Below wr.heap.size wr (wr.alloc o) := (Below.refl _ _).alloc (Nat.le_refl _) _
  have hlt := (h.out.lt g rfl).2
  refine ⟨(h.out.keep hbA).far' hgrow ?_, OwnRow.of_ownsRow (n := met.length + 1) (by simpa using hown) (by simpa using hm) (fun y hy => ?_), fun k hk => ?_, ?_⟩
  · intro k hk e
    simp [Value.ownBlock] at hk
    subst hk
    exact h.ne _ e.symm rfl
  · rcases List.mem_append.1 hy with hy | hy
    · exact h.met.1 y hy
    · simp at hy; subst hy; exact hx
  · rcases hv' k hk with h1 | h1
    · exact h.ne k h1
    · intro e; omega
  · exact ((h.bel.trans (hbA.mono h.bel.size))).grown hgrow (by simp; have := h.bel.size; omega) (fun j hj => (h.met.lt j hj).1)

end Go.Proofs.Ytmfolclpddoplaa

/- Walks: the model's distances, the walk. -/
namespace Go.Proofs.Ytmfolclpddoplaa
open Go.RowKit

theorem wkS {xs : List Int} {n : Nat} (h : ∀ x ∈ xs, 0 ≤ x ∧ x < (n : Int)) : ∀ u, inS xs u = true → u < n := by
  intro u hu
  obtain ⟨i, hi, e⟩ := (hasB_iff _ _).1 hu
  have := h _ (nth_mem hi)
  omega

end Go.Proofs.Ytmfolclpddoplaa

/- Walks: DistancesFrom, of the model. -/
namespace Go.Proofs.Ytmfolclpddoplaa
open Go.RowKit

/-- All vertices. -/
def allS (n : Nat) (u : Nat) : Bool := inS (allL n) u
theorem allS_iff (n u : Nat) : allS n u = true ↔ u < n := by
  show hasB _ _ = true ↔ _
  rw [hasB_iff]
  constructor
  · rintro ⟨i, hi, e⟩
    rw [allL_len] at hi
    have := nth_mem (xs := allL n) (i := i) (by rw [allL_len]; exact hi)
    rw [allL_mem] at this
    obtain ⟨k, hk, e2⟩ := this
    omega
  · intro h
    obtain ⟨i, hi, e⟩ := List.getElem_of_mem ((allL_mem n (u : Int)).2 ⟨u, h, rfl⟩)
    exact ⟨i, hi, by rw [nth_eq hi]; exact e⟩
theorem allL_rng (n : Nat) : ∀ x ∈ allL n, 0 ≤ x ∧ x < (n : Int) := by
  intro x hx
  obtain ⟨i, hi, rfl⟩ := (allL_mem n x).1 hx
  omega
/-- Whether there is an answer. -/
def dfB (L : List (List Int)) (x : Int) : Bool := decide (GraphP L) && inB x 0 ((L.length : Int) - 1)
/-- What DistancesFrom answers. -/
noncomputable def dfL (L : List (List Int)) (x : Int) : List Int := if dfB L x = true then distL L.length (nearB L) (allS L.length) x.toNat else []
theorem dfL_no {L : List (List Int)} {x : Int} (h : dfB L x = false) : dfL L x = [] := by unfold dfL; rw [if_neg (by rw [h]; exact Bool.false_ne_true)]
theorem dfL_small (L : List (List Int)) (x : Int) : (dfL L x).length ≤ 1048576 := by
  unfold dfL
  split
  · rename_i h
    rw [distL_len]
    simp only [dfB, Bool.and_eq_true, decide_eq_true_iff] at h
    have := h.1.1
    omega
  · simp

theorem gaveNone {w w' : World} (h : Below w.heap.size w w') : GaveRow w [] (.returned (.slice (some ⟨w'.heap.size, 0, none⟩) 0 0)) (w'.alloc (.cells #[] 2)) :=
  ⟨0, _, 0, rfl, OwnRow.of_ownsRow (n := 0) (World.ownsRow_lit w' #[] 0 h.size (Nat.zero_le _) rfl) (Nat.zero_le _) (fun x hx => absurd hx (by simp)), h.alloc h.size _⟩

end Go.Proofs.Ytmfolclpddoplaa
