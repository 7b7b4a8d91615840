/- From what a row's form reads as data to our words: a slice of int64, a slice of such slices, a graph. -/
import Derived.Test.YtohjfcfcopbmoaaRows
import Derived.Test.YtohjfcfcopbmoaaBase
import Derived.ProofKit
import Derived.OpenShut
import Derived.ShutString
import Derived.ChangeOld
import Derived.Deep.Matrix

namespace Go.Proofs.Ytohjfcfcopbmoaa
open Go.ChangeShapes Go.WideShapes Go.ChangeAt Go.RowKit Go.Deep

theorem own : ownKnob Try.prog.godebug = none := by kernel_rfl
theorem laidOut : laidOutB Try.prog = true := by kernel_rfl

theorem i64_wf {n : Int} (h : (Lit.int .i64 n).wf = true) : I64 n := by
  have := bounds_i64 h
  unfold I64
  omega

section
variable {H : Type} {enc : TypeId × Value → H} {P : Program} {w : World} {base : Nat} {held : Bool}

theorem addr_none {a : Addr} {i : Nat} {v : Value} (h : w.cell? (a.add i) = some v) (hp : i = 0) : a.spot = none := by
  subst hp
  simpa [Addr.add] using World.cell?_spot h

theorem addr_form {a : Addr} (h : a.spot = none) (i : Nat) : a.add i = ⟨a.block, a.off + i, none⟩ := by
  obtain ⟨b, o, s⟩ := a
  simp at h
  subst h
  unfold Addr.add
  split
  · rename_i e; subst e; rfl
  · rfl

theorem rowAt_of {A : Option Addr} {n c : Nat} {zs : List Int} (hlen : zs.length = n) (hm : n ≤ maxLen) (hc : n ≤ c) (hcm : c ≤ maxLen) (hi : ∀ z ∈ zs, I64 z) (h0 : A = none → c = 0) (hcell : ∀ a, A = some a → ∀ i, i < n → w.cell? (a.add i) = some (.int .i64 (nth zs i))) : RowAt w (.slice A n c) zs := by
  refine ⟨hi, by omega, ?_⟩
  by_cases hz : n = 0
  · subst hz
    exact Or.inl ⟨List.length_eq_zero_iff.1 hlen, A, c, rfl, h0⟩
  · cases A with
    | none => exact absurd (h0 rfl) (by omega)
    | some a =>
      have hs := addr_none (hcell a rfl 0 (by omega)) rfl
      refine Or.inr ⟨a.block, a.off, c, ?_, by omega, hcm, fun i hi' => ?_⟩
      · obtain ⟨b, o, s⟩ := a
        simp at hs
        subst hs
        rw [hlen]
      · rw [← addr_form hs]
        exact hcell a rfl i (by omega)

theorem row_of_trod {t e : TypeId} {fuel : Nat} {v : Value} {x : DataW H × List MemPlace} (ht : P.underlying t = some (.slice e)) (he : P.underlying e = some (.int .i64)) (ce : P.cellsOf e = 1)
    (h : DataW.trod enc P w base (fun _ => true) held fuel t [v] = some x) : ∃ xs, RowAt w v xs := by
  rcases open_ints ht he ce h with ⟨hcs, _⟩ | ⟨a, l, c, zs, hcs, _, hl, hm, hz, _, hcell, hwz⟩
  · simp at hcs
    subst hcs
    exact ⟨[], by simp, by simp, Or.inl ⟨rfl, none, 0, rfl, fun _ => rfl⟩⟩
  · simp at hcs
    subst hcs
    simp only [if_true] at hz
    refine ⟨zs.take l, rowAt_of (by simp; omega) (by omega) hl hm (fun z hzz => i64_wf (hwz z (List.mem_of_mem_take hzz))) (by simp) (fun a' e i hi => ?_)⟩
    cases e
    rw [hcell i (by omega)]
    simp [nth, hi]

theorem grid_of_trod {t e q : TypeId} {fuel : Nat} {v : Value} {x : DataW H × List MemPlace} (ht : P.underlying t = some (.slice e)) (he : P.underlying e = some (.slice q)) (hq : P.underlying q = some (.int .i64)) (ce : P.cellsOf e = 1) (cq : P.cellsOf q = 1)
    (h : DataW.trod enc P w base (fun _ => true) held fuel t [v] = some x) : ∃ L, GridAt w v L := by
  rcases open_int_rows ht he hq ce cq h with ⟨hcs, _⟩ | ⟨a, len, cap, A, Ln, C, Z, hcs, _, hl, hm, _, hr⟩
  · simp at hcs
    subst hcs
    exact ⟨[], by simp, Or.inl ⟨rfl, none, 0, rfl, fun _ => rfl⟩⟩
  · simp at hcs
    subst hcs
    refine ⟨(List.range len).map (fun r => (Z r).take (Ln r)), by simp; omega, ?_⟩
    by_cases h0 : len = 0
    · subst h0
      exact Or.inl ⟨by simp, _, cap, rfl, fun h => by cases h⟩
    · have hs := addr_none (hr 0 (by omega)).1 rfl
      refine Or.inr ⟨a.block, a.off, cap, ?_, by simp; exact hl, hm, fun i hi => ?_⟩
      · obtain ⟨b, o, s⟩ := a
        simp at hs
        subst hs
        simp
      · have hi' : i < len := by simpa using hi
        obtain ⟨r1, r2, r3, r4, r5, r6, r7⟩ := hr i (by omega)
        refine ⟨.slice (A i) (Ln i) (C i), by rw [← addr_form hs]; exact r1, ?_⟩
        have e1 : nthR ((List.range len).map (fun r => (Z r).take (Ln r))) i = (Z i).take (Ln i) := by simp [nthR, hi']
        rw [e1]
        refine rowAt_of (by simp; omega) (by omega) r2 r3 (fun z hzz => i64_wf (r5 z (List.mem_of_mem_take hzz))) (fun e => r6 e) (fun a' e j hj => ?_)
        rw [(r7 a' e).2 j (by omega)]
        simp [nth, hj]

/-- A struct of one field of one cell, by value. -/
theorem open_agg1 {spare : Nat → Bool} {r : Go.Reach} {b0 : Nat} {t : TypeId} {f0 : Field} {v : Value} {d : DataW H} {p : List MemPlace} (hs : P.underlying t = some (.struct #[f0])) (h0 : f0.offset = 0) (h1 : P.cellsOf f0.type = 1) (hC : P.cellsOf t = 1)
    (hv : Value.okWide P w r b0 t v) (h : DataW.Trod enc P w base spare held t v d p) :
    ∃ (v0 : Value) (y0 : DataW H × List MemPlace) (n : Nat), v = .agg #[v0] ∧ DataW.trod enc P w base spare held n f0.type [v0] = some y0 := by
  obtain ⟨cs, rfl, hsz⟩ := okWide_struct hs hv
  have h2 : cs.size = 1 := hsz.trans hC
  obtain ⟨c0, rfl⟩ : ∃ c, cs = #[c] := by
    obtain ⟨l⟩ := cs
    match l, h2 with
    | [c], _ => exact ⟨c, rfl⟩
  obtain ⟨fuel, hf⟩ := h
  obtain ⟨y0, n, _, _, h3⟩ := trod_struct1 hs hf
  exact ⟨c0, y0, n, rfl, by simpa [Value.cells, h0, h1] using h3⟩

end

theorem Try.cells24 : Try.prog.cellsOf 22 = 1 := by kernel_rfl
theorem Try.cells34 : Try.prog.cellsOf 33 = 1 := by kernel_rfl
theorem Try.cells2 : Try.prog.cellsOf 2 = 1 := by kernel_rfl
theorem Try.cells38 : Try.prog.cellsOf 32 = 1 := by kernel_rfl

set_option maxRecDepth 100000 in
/-- An argument of type laws.Graph, opened. -/
theorem open_graph {H : Type} {enc : TypeId × Value → H} {W : World} {b0 : Nat} {v : Value} {d : DataW H} {p : List MemPlace} (hv : Value.okWide Try.prog W .any b0 32 v) (h : DataW.Trod enc Try.prog W 0 (fun _ => true) true 32 v d p) :
    ∃ g L, v = .agg #[g] ∧ GridAt W g L := by
  obtain ⟨g, y0, n, rfl, h0⟩ := open_agg1 Try.underlying32 rfl Try.cells24 Try.cells38 hv h
  obtain ⟨L, hL⟩ := grid_of_trod Try.underlying22 Try.underlying33 Try.underlying2 Try.cells34 Try.cells2 h0
  exact ⟨g, L, rfl, hL⟩

set_option maxRecDepth 100000 in
/-- An argument of type []int64, opened. -/
theorem open_row {H : Type} {enc : TypeId × Value → H} {W : World} {b0 : Nat} {v : Value} {d : DataW H} {p : List MemPlace} (hv : Value.okWide Try.prog W .any b0 33 v) (h : DataW.Trod enc Try.prog W 0 (fun _ => true) true 33 v d p) :
    ∃ L, RowAt W v L := by
  obtain ⟨a0, len, cap, rfl⟩ := okWide_slice Try.underlying33 hv
  obtain ⟨fuel, hf⟩ := h
  obtain ⟨L, hL⟩ := row_of_trod Try.underlying33 Try.underlying2 Try.cells2 hf
  exact ⟨L, hL⟩

end Go.Proofs.Ytohjfcfcopbmoaa
