/- The texts M9, N1, N2, joined. -/
import Derived.Test.YtohjfcfcopbmoaaDoorQG1
import Derived.Deep.AppendLies
import Derived.Deep.RegionLaw
import Derived.Test.YtohjfcfcopbmoaaDoorQM4
import Derived.StillTailTactics

/- Walks: the model's copy of a graph. -/
namespace Go.Proofs.YtohjfcfcopbmoaaDoor
open Go.RowKit

/-- The boxes of the model's copy at work. -/
structure CopyWork (w0 : World) (v : Value) (L : List (List Int)) (k : Nat) (w : World) : Prop where
  arg : BoxAt w w0.heap.size v
  res : BoxAt w (w0.heap.size + 1) (.slice none 0 0)
  out : ∃ a c, BoxAt w (w0.heap.size + 1 + 1) (.slice a k c) ∧ OwnGrid 2 26 w (w0.heap.size + 1 + 1 + 1) (.slice a k c) (L.take k)
  bel : Below w0.heap.size w0 w
  size : w0.heap.size + 1 + 1 + 1 ≤ w.heap.size

theorem take_snocR {L : List (List Int)} {k : Nat} (h : k < L.length) : L.take (k + 1) = L.take k ++ [nthR L k] := by
  rw [List.take_succ_eq_append_getElem h, nthR_eq h]

/-- A row laid, its box laid, the grid grown by it, put back: the copy has one row more. -/
theorem CopyWork.grow {w0 w w2 w7 : World} {v : Value} {L : List (List Int)} {k g cap : Nat} {a : Option Addr} {c : Nat} {rv : Value} {R : Nat → Value} (h : CopyWork w0 v L k w) (hk : k < L.length) (hl : L.length ≤ 1048576) (hb : Below w.heap.size w w2) (hr : OwnRow 2 w2 w.heap.size rv (nthR L k))
    (hbx : BoxAt w (w0.heap.size + 1 + 1) (.slice a k c)) (hR : w.ownsRow (w0.heap.size + 1 + 1 + 1) 26 1 (.slice a k c) k ((List.range k).map R)) (hRr : ∀ i, i < k → OwnRow 2 w (w0.heap.size + 1 + 1 + 1) (R i) (nthR (L.take k) i)) (hRd : ∀ i j q, i < j → j < k → (R i).ownBlock = some q → (R j).ownBlock ≠ some q)
    (hown : w7.ownsRow (w0.heap.size + 1 + 1 + 1) 26 1 (.slice (some ⟨g, 0, none⟩) (k + 1) cap) (k + 1) ((List.range k).map R ++ [rv])) (hgrow : (w2.alloc (.cells #[rv] 26)).grownBy w7 (Value.slice a k c).ownBlock) :
    BoxAt w7 (w0.heap.size + 1 + 1) (.slice a k c) ∧ CopyWork w0 v L (k + 1) (w7.setCell ⟨w0.heap.size + 1 + 1, 0, none⟩ (.slice (some ⟨g, 0, none⟩) (k + 1) cap)) := by
  have hsz := h.size
  have htl : (L.take k).length = k := by rw [List.length_take]; omega
  have hW : Below w.heap.size w (w2.alloc (.cells #[rv] 26)) := hb.alloc hb.size _
  have hbw : Below (w0.heap.size + 1 + 1 + 1) w w7 := (hW.mono hsz).grown hgrow (by rw [size_alloc1]; have := hb.size; omega) (fun j hj => (hR.lt j hj).1)
  have hog : OwnGrid 2 26 w7 (w0.heap.size + 1 + 1 + 1) (.slice (some ⟨g, 0, none⟩) (k + 1) cap) (L.take k ++ [nthR L k]) := by
    refine OwnGrid.snoc (w0 := w) (w := w2.alloc (.cells #[rv] 26)) (rv := rv) (n := k) (v := .slice a k c) (by decide) hW hsz ?_ htl.symm (by rw [htl]; unfold maxLen; omega) R (by rw [htl]; exact hR) (by rw [htl]; exact hRr) (by rw [htl]; exact hRd) (by rw [htl]; exact hown) hgrow
    exact hr.keep ((Below.refl _ _).alloc (Nat.le_refl _) _)
  rw [← take_snocR hk] at hog
  have hbx7 := hbx.keepB hbw (by omega)
  exact ⟨hbx7, (h.arg.keepB hbw (by omega)).setOther (by simp; omega) _, (h.res.keepB hbw (by omega)).setOther (by simp) _, ⟨_, cap, hbx7.set _, hog.setBelow (by simp) _⟩, (h.bel.trans (hbw.mono (by omega))).setCell (by simp; omega) _, by rw [size_setCell1]; exact Nat.le_trans hsz hbw.size⟩

end Go.Proofs.YtohjfcfcopbmoaaDoor

/- Walks: an edge contracted. -/
namespace Go.Proofs.YtohjfcfcopbmoaaDoor
open Go.RowKit

/-- Who is near whom when a has been joined to the vertices of ys but itself. -/
def conA (L : List (List Int)) (a : Nat) (ys : List Int) (i j : Nat) : Bool := adjB L i j || (i == a && j != a && hasB ys (j : Int)) || (j == a && i != a && hasB ys (i : Int))
theorem conA_nil (L : List (List Int)) (a i j : Nat) : conA L a [] i j = adjB L i j := by
  unfold conA
  have : ∀ z : Int, hasB [] z = false := fun z => by cases h : hasB [] z with | false => rfl | true => (rw [hasB_iff] at h; obtain ⟨q, hq, _⟩ := h; simp at hq)
  rw [this, this]; simp
theorem hasB_snoc (xs : List Int) (y z : Int) : hasB (xs ++ [y]) z = (hasB xs z || z == y) := by
  rw [Bool.eq_iff_iff, hasB_mem, Bool.or_eq_true, hasB_mem, beq_iff_eq]
  simp
theorem conA_same (L : List (List Int)) (a : Nat) (ys : List Int) (i j : Nat) : conA L a (ys ++ [(a : Int)]) i j = conA L a ys i j := by
  unfold conA
  rw [hasB_snoc, hasB_snoc]
  by_cases h1 : j = a
  · subst h1
    by_cases h2 : i = j
    · subst h2; simp
    · have e : ((i : Int) == (j : Int)) = false := by rw [beq_eq_false_iff_ne]; omega
      rw [e]; simp
  · have e : ((j : Int) == (a : Int)) = false := by rw [beq_eq_false_iff_ne]; omega
    have e1 : (j == a) = false := by rw [beq_eq_false_iff_ne]; exact h1
    rw [e, e1]; simp
theorem conA_link (L : List (List Int)) {a y : Nat} (ys : List Int) (hy : y ≠ a) (i j : Nat) : conA L a (ys ++ [(y : Int)]) i j = linkA (conA L a ys) a y i j := by
  unfold linkA conA
  rw [hasB_snoc, hasB_snoc]
  have c1 : ((j : Int) == (y : Int)) = (j == y) := by rw [Bool.eq_iff_iff, beq_iff_eq, beq_iff_eq]; omega
  have c2 : ((i : Int) == (y : Int)) = (i == y) := by rw [Bool.eq_iff_iff, beq_iff_eq, beq_iff_eq]; omega
  rw [c1, c2]
  have d1 : j = y → (j != a) = true := fun h => by rw [bne_iff_ne]; omega
  have d2 : i = y → (i != a) = true := fun h => by rw [bne_iff_ne]; omega
  by_cases h1 : j = y
  · have e := d1 h1
    have f : (j == a) = false := by rw [beq_eq_false_iff_ne]; omega
    have g : (j == y) = true := by rw [beq_iff_eq]; exact h1
    rw [e, f, g]
    cases adjB L i j <;> cases (i == a) <;> cases hasB ys (j : Int) <;> simp
  · have g : (j == y) = false := by rw [beq_eq_false_iff_ne]; exact h1
    rw [g]
    by_cases h2 : i = y
    · have e := d2 h2
      have f : (i == a) = false := by rw [beq_eq_false_iff_ne]; omega
      have g : (i == y) = true := by rw [beq_iff_eq]; exact h2
      rw [e, f, g]
      cases adjB L i j <;> cases (j == a) <;> cases hasB ys (i : Int) <;> simp
    · have g : (i == y) = false := by rw [beq_eq_false_iff_ne]; exact h2
      rw [g]; simp

/-- The graph in which the edge is contracted, but for the vertex that goes. -/
def conG (L : List (List Int)) (a b : Nat) : List (List Int) := adjL L.length (conA L a (nthR L b))
theorem conG_graph {L : List (List Int)} (hG : GraphP L) {a b : Nat} (ha : a < L.length) (hb : b < L.length) : GraphP (conG L a b) := by
  have hr : ∀ z : Nat, hasB (nthR L b) (z : Int) = true → z < L.length := by
    intro z hz
    obtain ⟨q, hq, e⟩ := (hasB_iff _ _).1 hz
    have := ((hG.2.1 b hb).1 q hq).2.1
    rw [e] at this
    omega
  refine adjL_graph hG.1 ?_ ?_ ?_
  · intro i j h
    unfold conA at h
    simp only [Bool.or_eq_true, Bool.and_eq_true, beq_iff_eq] at h
    rcases h with (h | h) | h
    · exact (adjB_range hG h).2
    · exact hr j h.2
    · omega
  · intro i j
    unfold conA
    rw [adjB_sym hG i j]
    cases adjB L j i <;> cases (i == a && j != a && hasB (nthR L b) (j : Int)) <;> cases (j == a && i != a && hasB (nthR L b) (i : Int)) <;> rfl
  · intro i
    unfold conA
    rw [adjB_self hG]
    by_cases h : i = a
    · subst h; simp
    · have : (i == a) = false := by rw [beq_eq_false_iff_ne]; exact h
      rw [this]; simp
theorem conG_len (L : List (List Int)) (a b : Nat) : (conG L a b).length = L.length := adjL_len _ _
theorem adjB_adjL {n : Nat} {A : Nat → Nat → Bool} (hG : GraphP (adjL n A)) {i j : Nat} (hi : i < n) (hj : j < 16) : adjB (adjL n A) i j = A i j := by
  rw [← adjB_has hG (by rw [adjL_len]; exact hi) hj, adjL_nth _ hi, Bool.eq_iff_iff, hasB_mem, listM_mem]
  constructor
  · rintro ⟨q, h1, h2, h3⟩
    have : q = j := by omega
    subst this
    rw [pm_bit, Bool.and_eq_true] at h2
    exact h2.2
  · intro h
    exact ⟨j, hj, by rw [pm_bit, h]; simp [hj], rfl⟩
theorem rowM_adjL {n : Nat} {A : Nat → Nat → Bool} (hG : GraphP (adjL n A)) {i : Nat} (hi : i < n) : rowM (adjL n A) i = pm (A i) := by
  rw [rowM_pm hG]
  exact pm_congr (fun j hj => adjB_adjL hG hi hj)
theorem row_list {L : List (List Int)} (hG : GraphP L) {b : Nat} (hb : b < L.length) : listM (rowM L b) = nthR L b := by
  have h : nthR (adjL L.length (adjB L)) b = nthR L b := by rw [graph_adjL hG]
  rw [adjL_nth _ hb] at h
  rw [rowM_pm hG]
  exact h

/-- The answer. -/
def conL (L : List (List Int)) (u x : Int) : List (List Int) := pickL (conG L (min u x).toNat (max u x).toNat) (restL L.length (max u x).toNat) (edgeB L u x)
theorem conL_small (L : List (List Int)) (u x : Int) : Small (conL L u x) := pickL_small (fun _ => restL_len _ _)
theorem conL_no {L : List (List Int)} {u x : Int} (h : edgeB L u x = false) : conL L u x = [] := by rw [conL, h]; rfl
/-- The two ends of an edge, the lesser first. -/
theorem edgeB_ends {L : List (List Int)} {u x : Int} (h : edgeB L u x = true) : GraphP L ∧ ∃ a b : Nat, ((u = (a : Int) ∧ x = (b : Int)) ∨ (u = (b : Int) ∧ x = (a : Int))) ∧ a < b ∧ b < L.length := by
  unfold edgeB inB at h
  simp at h
  obtain ⟨⟨⟨hG, hu⟩, hx⟩, hh⟩ := h
  have hne : u ≠ x := by
    intro e
    subst e
    have := (hG.2.1 u.toNat (by omega)).2
    rw [Int.toNat_of_nonneg hu.1, hh] at this
    cases this
  exact ⟨hG, (min u x).toNat, (max u x).toNat, by omega, by omega, by omega⟩

theorem OwnRow.put {T T2 : TypeId} {w w' : World} {B g n : Nat} {M : Nat → Nat} {v : Value} {xs : List Int} (h : OwnRow T w B v xs) (hp : NetPut T2 w w' g n M) (hg : g < B) : OwnRow T w' B v xs := by
  obtain ⟨h1, h2, h3⟩ := h
  refine ⟨h1, h2, ?_⟩
  rcases h3 with h3 | ⟨g', cap, cur, e, hg', hh, r⟩
  · exact Or.inl h3
  · exact Or.inr ⟨g', cap, cur, e, hg', by rw [hp.other g' (by omega)]; exact hh, r⟩
theorem Two.putG {T : TypeId} {w0 : World} {v : Value} {w w' : World} {g n : Nat} {M : Nat → Nat} (h : Two w0 v w) (hp : NetPut T w w' g n M) (hg : w0.heap.size + 1 < g) : Two w0 v w' :=
  ⟨h.arg.keepB hp.below (by omega), h.res.keepB hp.below hg, h.bel.trans (hp.below.mono (by omega))⟩
theorem conG_pick {L : List (List Int)} (hG : GraphP L) {a b : Nat} (ha : a < L.length) (hb : b < L.length) : ∀ i j, i < (restL L.length b).length → j < (restL L.length b).length → pickA (conG L a b) (restL L.length b) i j = hasM (pm (conA L a (nthR L b) (nth (restL L.length b) i).toNat)) (nth (restL L.length b) j) := by
  intro i j hi hj
  have hz := hG.1
  have hGc := conG_graph hG ha hb
  have hin := restL_in hz.2 hb
  rw [pickA_impl hGc (fun i hi => by rw [conG_len]; exact hin i hi) i j hi hj]
  have := hin i hi
  unfold conG at hGc ⊢
  rw [rowM_adjL hGc (by omega)]

end Go.Proofs.YtohjfcfcopbmoaaDoor

/- Walks: the model's contraction. -/
namespace Go.Proofs.YtohjfcfcopbmoaaDoor
open Go.RowKit

theorem graph_small {L : List (List Int)} (hG : GraphP L) : Small L := by
  rw [← graph_adjL hG]
  exact adjL_small _ _ hG.1.2

end Go.Proofs.YtohjfcfcopbmoaaDoor
