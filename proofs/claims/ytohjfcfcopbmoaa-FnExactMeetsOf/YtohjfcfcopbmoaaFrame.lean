/- From what a row's form reads as data to our words: a slice of int64, a slice of such slices, a graph. -/
import Derived.Test.YtohjfcfcopbmoaaRows
import Derived.Test.YtohjfcfcopbmoaaBase
import Derived.ProofKit
import Derived.OpenShut
import Derived.ShutString
import Derived.ChangeOld
import Derived.Deep.Matrix

namespace Go.Proofs.Ytohjfcfcopbmoaa
open Go.ChangeShapes Go.WideShapes Go.ChangeAt Go.RowKit Go.Deep

theorem own : ownKnob Try.prog.godebug = none := by kernel_rfl
theorem laidOut : laidOutB Try.prog = true := by kernel_rfl

theorem i64_wf {n : Int} (h : (Lit.int .i64 n).wf = true) : I64 n := by
  have := bounds_i64 h
  unfold I64
  omega

section
variable {H : Type} {enc : TypeId × Value → H} {P : Program} {w : World} {base : Nat} {held : Bool}

theorem addr_none {a : Addr} {i : Nat} {v : Value} (h : w.cell? (a.add i) = some v) (hp : i = 0) : a.spot = none := by
  subst hp
  simpa [Addr.add] using World.cell?_spot h

theorem addr_form {a : Addr} (h : a.spot = none) (i : Nat) : a.add i = ⟨a.block, a.off + i, none⟩ := by
  obtain ⟨b, o, s⟩ := a
  simp at h
  subst h
  unfold Addr.add
  split
  · rename_i e; subst e; rfl
  · rfl

theorem rowAt_of {A : Option Addr} {n c : Nat} {zs : List Int} (hlen : zs.length = n) (hm : n ≤ maxLen) (hc : n ≤ c) (hcm : c ≤ maxLen) (hi : ∀ z ∈ zs, I64 z) (h0 : A = none → c = 0) (hcell : ∀ a, A = some a → ∀ i, i < n → w.cell? (a.add i) = some (.int .i64 (nth zs i))) : RowAt w (.slice A n c) zs := by
  refine ⟨hi, by omega, ?_⟩
  by_cases hz : n = 0
  · subst hz
    exact Or.inl ⟨List.length_eq_zero_iff.1 hlen, A, c, rfl, h0⟩
  · cases A with
    | none => exact absurd (h0 rfl) (by omega)
    | some a =>
      have hs := addr_none (hcell a rfl 0 (by omega)) rfl
      refine Or.inr ⟨a.block, a.off, c, ?_, by omega, hcm, fun i hi' => ?_⟩
      · obtain ⟨b, o, s⟩ := a
        simp at hs
        subst hs
        rw [hlen]
      · rw [← addr_form hs]
        exact hcell a rfl i (by omega)

theorem grid_of_trod {t e q : TypeId} {fuel : Nat} {v : Value} {x : DataW H × List MemPlace} (ht : P.underlying t = some (.slice e)) (he : P.underlying e = some (.slice q)) (hq : P.underlying q = some (.int .i64)) (ce : P.cellsOf e = 1) (cq : P.cellsOf q = 1)
    (h : DataW.trod enc P w base (fun _ => true) held fuel t [v] = some x) : ∃ L, GridAt w v L := by
  rcases open_int_rows ht he hq ce cq h with ⟨hcs, _⟩ | ⟨a, len, cap, A, Ln, C, Z, hcs, _, hl, hm, _, hr⟩
  · simp at hcs
    subst hcs
    exact ⟨[], by simp, Or.inl ⟨rfl, none, 0, rfl, fun _ => rfl⟩⟩
  · simp at hcs
    subst hcs
    refine ⟨(List.range len).map (fun r => (Z r).take (Ln r)), by simp; omega, ?_⟩
    by_cases h0 : len = 0
    · subst h0
      exact Or.inl ⟨by simp, _, cap, rfl, fun h => by cases h⟩
    · have hs := addr_none (hr 0 (by omega)).1 rfl
      refine Or.inr ⟨a.block, a.off, cap, ?_, by simp; exact hl, hm, fun i hi => ?_⟩
      · obtain ⟨b, o, s⟩ := a
        simp at hs
        subst hs
        simp
      · have hi' : i < len := by simpa using hi
        obtain ⟨r1, r2, r3, r4, r5, r6, r7⟩ := hr i (by omega)
        refine ⟨.slice (A i) (Ln i) (C i), by rw [← addr_form hs]; exact r1, ?_⟩
        have e1 : nthR ((List.range len).map (fun r => (Z r).take (Ln r))) i = (Z i).take (Ln i) := by simp [nthR, hi']
        rw [e1]
        refine rowAt_of (by simp; omega) (by omega) r2 r3 (fun z hzz => i64_wf (r5 z (List.mem_of_mem_take hzz))) (fun e => r6 e) (fun a' e j hj => ?_)
        rw [(r7 a' e).2 j (by omega)]
        simp [nth, hj]

end

theorem Try.cells34 : Try.prog.cellsOf 33 = 1 := by kernel_rfl
theorem Try.cells2 : Try.prog.cellsOf 2 = 1 := by kernel_rfl
end Go.Proofs.Ytohjfcfcopbmoaa
