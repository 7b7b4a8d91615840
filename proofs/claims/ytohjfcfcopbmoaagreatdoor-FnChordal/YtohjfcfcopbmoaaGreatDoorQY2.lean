/- The texts Y2, Y4, Z1, Z2, Z3, Z4, FP2, joined. -/
import Derived.Test.YtohjfcfcopbmoaaGreatDoorQY1
import Derived.Test.YtohjfcfcopbmoaaGreatDoorQW2
import Derived.Test.YtohjfcfcopbmoaaGreatDoorQC1
import Derived.Deep.RegionHeld3
import Derived.Test.YtohjfcfcopbmoaaGreatDoorQV1
import Derived.Test.YtohjfcfcopbmoaaGreatDoorQGrid
import Derived.Test.YtohjfcfcopbmoaaGreatDoorQX2
import Derived.RangeFuncFrom
import Derived.Test.YtohjfcfcopbmoaaGreatDoorQE1
import Derived.Test.YtohjfcfcopbmoaaGreatDoorQF6
import Derived.Test.YtohjfcfcopbmoaaGreatDoorQF4
import Derived.Test.YtohjfcfcopbmoaaGreatDoorQK2

/- Walks: what can be reached. -/
namespace Go.Proofs.YtohjfcfcopbmoaaGreatDoor
open Go.RowKit Go.Shelf
attribute [local go_sem] Oper.semAt_some

/-- The mask of those that have come. -/
def gotN (pre : List (Nat × Nat)) : Nat := pre.foldl (fun m p => m ||| 2 ^ p.1) 0
theorem gotN_snoc (pre : List (Nat × Nat)) (p : Nat × Nat) : gotN (pre ++ [p]) = gotN pre ||| 2 ^ p.1 := by simp [gotN]
theorem gotN_bit (pre : List (Nat × Nat)) (u : Nat) : (gotN pre).testBit u = true ↔ ∃ p, p ∈ pre ∧ p.1 = u := by
  have key : ∀ (pre : List (Nat × Nat)) (m : Nat), (pre.foldl (fun m p => m ||| 2 ^ p.1) m).testBit u = true ↔ m.testBit u = true ∨ ∃ p, p ∈ pre ∧ p.1 = u := by
    intro pre
    induction pre with
    | nil => intro m; simp
    | cons q pre ih =>
      intro m
      rw [List.foldl_cons, ih, Nat.testBit_or, Nat.testBit_two_pow, Bool.or_eq_true, decide_eq_true_iff]
      constructor
      · rintro ((h | h) | ⟨p, hp, e⟩)
        · exact .inl h
        · exact .inr ⟨q, by simp, h⟩
        · exact .inr ⟨p, by simp [hp], e⟩
      · rintro (h | ⟨p, hp, e⟩)
        · exact .inl (.inl h)
        · rcases List.mem_cons.1 hp with rfl | hp
          · exact .inl (.inr e)
          · exact .inr ⟨p, hp, e⟩
  unfold gotN
  rw [key]
  simp
end Go.Proofs.YtohjfcfcopbmoaaGreatDoor

/- Plain facts: sets and masks, parts and masks; ConnectedIn, of the model. -/
namespace Go.Proofs.YtohjfcfcopbmoaaGreatDoor
open Go.RowKit

theorem SetP.first {xs : List Int} {n : Int} (h : SetP xs n) {j : Nat} (hj : j < xs.length) : nth xs 0 ≤ nth xs j := by
  by_cases e : j = 0
  · subst e; exact Int.le_refl _
  · have := List.pairwise_iff_getElem.1 h.pairwise 0 j (by omega) hj (by omega)
    rw [nth_eq hj, nth_eq (by omega)]; omega
end Go.Proofs.YtohjfcfcopbmoaaGreatDoor

/- Plain facts: parts of a graph. -/
namespace Go.Proofs.YtohjfcfcopbmoaaGreatDoor

section
variable {A : Nat → Nat → Bool} {S : Nat → Bool}
theorem wk_trans {v u : Nat} {k : Nat} (h : Wk A S v k u) : ∀ {j x : Nat}, Wk A S u j x → Wk A S v (k + j) x := by
  intro j
  induction j with
  | zero => rintro x ⟨rfl, _⟩; exact h
  | succ j ih => rintro x ⟨hs, w, hw, ha⟩; exact ⟨hs, w, ih hw, ha⟩
theorem wk_symm (hA : ∀ a b, A a b = A b a) {v : Nat} : ∀ {k u : Nat}, Wk A S v k u → Wk A S u k v := by
  intro k
  induction k with
  | zero => rintro u ⟨rfl, h⟩; exact ⟨rfl, h⟩
  | succ k ih =>
    rintro u ⟨hs, w, hw, ha⟩
    have h1 : Wk A S u 1 w := ⟨wk_in hw, u, ⟨rfl, hs⟩, by rw [hA]; exact ha⟩
    have := wk_trans h1 (ih hw)
    rwa [Nat.add_comm] at this
/-- One can come from v to u. -/
def Reach (A : Nat → Nat → Bool) (S : Nat → Bool) (v u : Nat) : Prop := ∃ k, Wk A S v k u
theorem Reach.trans {v u x : Nat} (h : Reach A S v u) (h' : Reach A S u x) : Reach A S v x := by obtain ⟨k, h⟩ := h; obtain ⟨j, h'⟩ := h'; exact ⟨_, wk_trans h h'⟩
theorem Reach.symm (hA : ∀ a b, A a b = A b a) {v u : Nat} (h : Reach A S v u) : Reach A S u v := by obtain ⟨k, h⟩ := h; exact ⟨k, wk_symm hA h⟩
theorem Reach.refl {v : Nat} (h : S v = true) : Reach A S v v := ⟨0, rfl, h⟩
theorem Reach.mem {v u : Nat} (h : Reach A S v u) : S u = true := by obtain ⟨k, h⟩ := h; exact wk_in h
end

section
variable {A : Nat → Nat → Bool} {n : Nat}
end
theorem nearB_symm {L : List (List Int)} (hG : GraphP L) : ∀ a b, nearB L a b = nearB L b a := by
  intro a b
  have key : ∀ a b, nearB L a b = true → nearB L b a = true := by
    intro a b h
    unfold nearB at h ⊢
    by_cases ha : a < L.length
    · obtain ⟨i, hi, e⟩ := (hasB_iff _ _).1 h
      have hb := (hG.2.1 a ha).1 i hi
      have := hasB_back hG (u := (a : Int)) (x := (b : Int)) (by omega) (by have := hb.1; have := hb.2.1; omega) (by simpa using h)
      simpa using this
    · have e2 : nthR L a = [] := by unfold nthR; rw [List.getD_eq_getElem?_getD, List.getElem?_eq_none (by omega)]; rfl
      rw [e2] at h
      simp [hasB] at h
  rw [Bool.eq_iff_iff]
  exact ⟨key a b, key b a⟩

end Go.Proofs.YtohjfcfcopbmoaaGreatDoor

/- Walks: PartsOf, of the model. -/
namespace Go.Proofs.YtohjfcfcopbmoaaGreatDoor
open Go.RowKit

/-- A grid of one's own, and a row of one's own beside it. -/
structure GridD (w : World) (B : Nat) (o d : Value) (L : List (List Int)) (ds : List Int) (R : Nat → Value) : Prop where
  len : L.length ≤ 16
  outer : w.ownsRow B 33 1 o L.length ((List.range L.length).map R)
  rows : ∀ i, i < L.length → OwnRow 2 w B (R i) (nthR L i)
  apart : ∀ i j k, i < j → j < L.length → (R i).ownBlock = some k → (R j).ownBlock ≠ some k
  row : OwnRow 2 w B d ds
  off : ∀ i k, i < L.length → (R i).ownBlock = some k → d.ownBlock ≠ some k
theorem GridD.grid {w : World} {B : Nat} {o d : Value} {L : List (List Int)} {ds : List Int} {R : Nat → Value} (h : GridD w B o d L ds R) : OwnGrid 2 33 w B o L :=
  OwnGrid.of_owns (by have := h.len; unfold maxLen; omega) h.outer h.rows h.apart
theorem ownsRow_keep {w w' : World} {B : Nat} {T : TypeId} {v : Value} {n : Nat} {xs : List Value} (h : w.ownsRow B T 1 v n xs) (hb : Below w.heap.size w w') : w'.ownsRow B T 1 v n xs := by
  refine ⟨h.1, ?_⟩
  rcases h.2 with h1 | ⟨g, cap, cur, e, hgB, hh, r⟩
  · exact Or.inl h1
  · obtain ⟨hlt, _⟩ := Array.getElem?_eq_some_iff.1 hh
    exact Or.inr ⟨g, cap, cur, e, hgB, by rw [hb.block g hlt]; exact hh, r⟩
theorem GridD.keep {w w' : World} {B : Nat} {o d : Value} {L : List (List Int)} {ds : List Int} {R : Nat → Value} (h : GridD w B o d L ds R) (hb : Below w.heap.size w w') : GridD w' B o d L ds R :=
  ⟨h.len, ownsRow_keep h.outer hb, fun i hi => (h.rows i hi).keep hb, h.apart, h.row.keep hb, h.off⟩
/-- A row laid since is appended to the grid. -/
theorem GridD.snoc {w0 w w1 : World} {B : Nat} {o d o' rv : Value} {L : List (List Int)} {ds xs : List Int} {R : Nat → Value} (h : GridD w0 B o d L ds R) (hb : Below w0.heap.size w0 w) (hB : B ≤ w0.heap.size) (hr : OwnRow 2 w w0.heap.size rv xs) (hl : L.length + 1 ≤ 16)
    (hown : w1.ownsRow B 33 1 o' (L.length + 1) ((List.range L.length).map R ++ [rv])) (hg : w.grownBy w1 o.ownBlock) : GridD w1 B o' d (L ++ [xs]) ds (fun i => if i < L.length then R i else rv) := by
  have hT : 2 ≠ 33 := by decide
  have hown0 := ownsRow_keep h.outer hb
  have eL : (L ++ [xs]).length = L.length + 1 := by simp
  have eR : (List.range (L ++ [xs]).length).map (fun i => if i < L.length then R i else rv) = (List.range L.length).map R ++ [rv] := by
    rw [eL, List.range_succ, List.map_append]
    congr 1
    · apply List.map_congr_left
      intro i hi
      rw [if_pos (by simpa using hi)]
    · simp
  refine ⟨by rw [eL]; exact hl, by rw [eR, eL]; exact hown, ?_, ?_, (h.row.keep hb).grown hown0 hT hg, ?_⟩
  · intro i hi
    rw [eL] at hi
    by_cases h1 : i < L.length
    · simp only [h1, if_true]
      rw [nthR_append_old h1]
      exact ((h.rows i h1).keep hb).grown hown0 hT hg
    · obtain rfl : i = L.length := by omega
      simp only [Nat.lt_irrefl, if_false]
      rw [nthR_append_last]
      exact (hr.mono hB).grown hown0 hT hg
  · intro i j k hij hj hk
    rw [eL] at hj
    have hi : i < L.length := by omega
    simp only [hi, if_true] at hk
    by_cases h1 : j < L.length
    · simp only [h1, if_true]
      exact h.apart i j k hij h1 hk
    · simp only [h1, if_false]
      intro e
      have := (h.rows i hi).lt k hk
      have := hr.lt k e
      omega
  · intro i k hi hk hd
    rw [eL] at hi
    by_cases h1 : i < L.length
    · simp only [h1, if_true] at hk
      exact h.off i k h1 hk hd
    · simp only [h1, if_false] at hk
      have := (h.row.lt k hd).2
      have := (hr.lt k hk).1
      omega
/-- Numbers are appended to the row. -/
theorem GridD.more {w w1 : World} {B g cap : Nat} {o d : Value} {L : List (List Int)} {ds ns : List Int} {R : Nat → Value} (h : GridD w B o d L ds R) (hm : ds.length + ns.length ≤ maxLen) (hi : ∀ x ∈ ns, I64 x)
    (hown : w1.ownsRow B 2 1 (.slice (some ⟨g, 0, none⟩) (ds.length + ns.length) cap) (ds.length + ns.length) (ds.map (Value.int .i64) ++ ns.map (Value.int .i64))) (hg : w.grownBy w1 d.ownBlock) (hat : d.ownBlock = some g ∨ g = w.heap.size) : GridD w1 B o (.slice (some ⟨g, 0, none⟩) (ds.length + ns.length) cap) L (ds ++ ns) R := by
  have hoth : ∀ k cs T fr, w.heap[k]? = some (.cells cs T fr) → some k ≠ d.ownBlock → w1.heap[k]? = some (.cells cs T fr) := fun k cs T fr hk hne => (hg.block k (Array.getElem?_eq_some_iff.1 hk).1 hne).trans hk
  refine ⟨h.len, ?_, fun i hi => (h.rows i hi).far' hg (fun k hk e => h.off i k hi hk e.symm), h.apart, OwnRow.of_ownsRow (n := ds.length + ns.length) (by rw [List.map_append]; exact hown) (by simpa using hm) (fun x hx => ?_), ?_⟩
  · refine ⟨h.outer.1, ?_⟩
    rcases h.outer.2 with h1 | ⟨g', cap', cur', e, hgB, hh, r⟩
    · exact Or.inl h1
    · refine Or.inr ⟨g', cap', cur', e, hgB, hoth _ _ _ _ hh (fun e2 => ?_), r⟩
      rcases h.row.2.2 with ⟨e3, _⟩ | ⟨g3, cap3, cur3, e3, _, hh3, _⟩
      · rw [e3] at e2; simp [Value.ownBlock] at e2
      · rw [e3] at e2
        simp [Value.ownBlock] at e2
        subst e2
        rw [hh] at hh3
        simp at hh3
  · rcases List.mem_append.1 hx with hx | hx
    · exact h.row.1 x hx
    · exact hi x hx
  · intro i k hil hk hd
    simp only [Value.ownBlock, Option.some.injEq] at hd
    subst hd
    rcases hat with hat | hat
    · exact h.off i g hil hk hat
    · have := ((h.rows i hil).lt g hk).2
      omega

end Go.Proofs.YtohjfcfcopbmoaaGreatDoor

/- Walks: the iterator over the parts. -/
namespace Go.Proofs.YtohjfcfcopbmoaaGreatDoor
open Go.RowKit Go.Shelf
attribute [local go_sem] Oper.semAt_some

/-- What the iterator reads. -/
structure PartIn (w : World) (pt bn n : Nat) (M : Nat → Nat) : Prop where
  t : w.cell? ⟨pt, 0, none⟩ = some (.pointer (some ⟨bn, 0, none⟩))
  net : NetAt w bn n M
  tab : TabAt w
theorem PartIn.keep {w w' : World} {pt bn n : Nat} {M : Nat → Nat} (h : PartIn w pt bn n M) (hb : Below w.heap.size w w') : PartIn w' pt bn n M := ⟨cell_keep hb h.t, h.net.keep hb, h.tab.keep hb⟩
theorem PartIn.but {w w' : World} {pt bn n : Nat} {M : Nat → Nat} (h : PartIn w pt bn n M) (hb : KeepsBut (fun k => k ≠ pt ∧ k ≠ bn ∧ k ≠ 4) w w') : PartIn w' pt bn n M :=
  ⟨hb.cell (fun h => h.1 rfl) h.t, ⟨hb.cell (fun h => h.2.1 rfl) h.net.1, fun i hi => hb.cell (fun h => h.2.1 rfl) (h.net.2 i hi)⟩, fun i hi => hb.cell (fun h => h.2.2 rfl) (h.tab i hi)⟩

end Go.Proofs.YtohjfcfcopbmoaaGreatDoor

/- Walks: PartsOf, of the program. -/
namespace Go.Proofs.YtohjfcfcopbmoaaGreatDoor
open Go.RowKit Go.Shelf
attribute [local go_sem] Oper.semAt_some

theorem OwnRow.kept {T : TypeId} {w w' : World} {B : Nat} {v : Value} {xs : List Int} (h : OwnRow T w B v xs) (hk : ∀ (k : Nat) (cs : Array Value) (fr : Nat × Nat), w.heap[k]? = some (Obj.cells cs T fr) → w'.heap[k]? = some (Obj.cells cs T fr)) : OwnRow T w' B v xs := by
  obtain ⟨h1, h2, h3⟩ := h
  refine ⟨h1, h2, ?_⟩
  rcases h3 with h3 | ⟨g, cap, cur, e, hg, hh, r⟩
  · exact Or.inl h3
  · exact Or.inr ⟨g, cap, cur, e, hg, hk _ _ _ hh, r⟩
theorem OwnGrid.kept {T T1 : TypeId} {w w' : World} {B : Nat} {v : Value} {L : List (List Int)} (h : OwnGrid T T1 w B v L) (hk : ∀ (k : Nat) (cs : Array Value) (U : TypeId) (fr : Nat × Nat), U = T ∨ U = T1 → w.heap[k]? = some (Obj.cells cs U fr) → w'.heap[k]? = some (Obj.cells cs U fr)) : OwnGrid T T1 w' B v L := by
  obtain ⟨R, h2, h3, h4, h5⟩ := h
  refine ⟨R, h2, ?_, fun i hi => (h4 i hi).kept (fun k cs fr h => hk k cs T fr (.inl rfl) h), h5⟩
  rcases h3 with h3 | ⟨g, cap, cur, e, hg, hh, r⟩
  · exact Or.inl h3
  · exact Or.inr ⟨g, cap, cur, e, hg, hk _ _ _ _ (.inr rfl) hh, r⟩

/-- The program's list of parts, half done. -/
def PI (w : World) (bx B bn : Nat) (L : List (List Int)) (W : World) : Prop :=
  W.heap[bx + 1]? = some (.cells #[.pointer (some ⟨bn, 0, none⟩)] 191 (0, 0)) ∧ (∃ val, W.heap[bx]? = some (.cells #[val] 24 (0, 0)) ∧ OwnGrid 2 33 W B val L) ∧ Below w.heap.size w W
theorem PI.own {β : Type} (w : World) (bx B bn C : Nat) (f : β → List (List Int)) (hC : w.heap.size ≤ C) : OwnFrom C (fun s W => PI w bx B bn (f s) W) := by
  rintro s W W' row ⟨hpt, ⟨val, hb, hg⟩, hbel⟩ hgr hr
  have hk : ∀ (k : Nat) (cs : Array Value) (U : TypeId) (fr : Nat × Nat), W.heap[k]? = some (Obj.cells cs U fr) → W'.heap[k]? = some (Obj.cells cs U fr) := fun k cs U fr h => by
    refine (hgr.block k (Array.getElem?_eq_some_iff.1 h).1 ?_).trans h
    intro e
    obtain ⟨_, o, ho, hc⟩ := hr k e.symm
    rw [h] at ho; cases ho; simp [Obj.isCells] at hc
  refine ⟨hk _ _ _ _ hpt, ⟨val, hk _ _ _ _ hb, hg.kept (fun k cs U fr _ h => hk k cs U fr h)⟩, ?_⟩
  exact hbel.trans ⟨hgr.os, hgr.tape, hgr.output, hgr.size, fun k hk' => hgr.block k (by have := hbel.size; omega) (fun e => by have := (hr k e.symm).1; omega)⟩

section
variable {F : Fence} {n : Nat} {P : Program} {ops : Array Oper} {Q : Exit → Act → World → Prop}
theorem anyIn_one {fuel : Nat} {listed : Array Bool} {a : Act} {w : World} (i : Nat) (hr : Region.ready .any ops listed = [i]) (h : wpOpIn F n P ops Q i (wpAnyIn F n P .any ops Q fuel (listed.setIfInBounds i true)) a w) : wpAnyIn F n P .any ops Q (fuel + 1) listed a w := by
  refine ⟨fun h0 => (by rw [hr] at h0; cases h0), fun k hk => ?_⟩
  rw [hr] at hk
  simp at hk
  subst hk
  exact h
theorem anyIn_two {fuel : Nat} {listed : Array Bool} {a : Act} {w : World} (i j : Nat) (hr : Region.ready .any ops listed = [i, j]) (h : wpOpIn F n P ops Q i (wpAnyIn F n P .any ops Q fuel (listed.setIfInBounds i true)) a w)
    (h' : wpOpIn F n P ops Q j (wpAnyIn F n P .any ops Q fuel (listed.setIfInBounds j true)) a w) : wpAnyIn F n P .any ops Q (fuel + 1) listed a w := by
  refine ⟨fun h0 => (by rw [hr] at h0; cases h0), fun k hk => ?_⟩
  rw [hr] at hk
  simp at hk
  rcases hk with rfl | rfl
  · exact h
  · exact h'
theorem opIn_at {i : Nat} {o : Oper} {K : Act → World → Prop} {a : Act} {w : World} (ho : ops[i]? = some o) (hg : o.guard = none) (h : o.wpIn F n P a w K Q) : wpOpIn F n P ops Q i K a w := by
  unfold wpOpIn
  rw [ho]
  have hw : Region.wanted o (yielded ops a.tmps) = true := by simp [Region.wanted, hg]
  simp only [hw, if_true]
  exact h
end

end Go.Proofs.YtohjfcfcopbmoaaGreatDoor

/- Walks: what is in one of both; a graph drawn. -/
namespace Go.Proofs.YtohjfcfcopbmoaaGreatDoor
open Go.RowKit

theorem lit_one (w : World) (x : Int) (T : TypeId) : ∀ j u, ([Value.int .i64 x] : List Value)[j]? = some u → (w.alloc (.cells #[.int .i64 x] T)).cell? ((⟨w.heap.size, 0, none⟩ : Addr).add j) = some u := by
  intro j u hj
  match j, hj with
  | 0, hj => simp at hj; subst hj; simp [Addr.add]
theorem one_one (x : Int) : ∀ u ∈ ([Value.int .i64 x] : List Value), u.oneCell' = true := by
  intro u hu; simp at hu; subst hu; rfl

end Go.Proofs.YtohjfcfcopbmoaaGreatDoor
