/- For every argument that can be read, the law FnExactMeetsOf returns true and its argument reads afterwards as it read before: impl.MeetsOf answers as its model, changes no argument, and its answer owns its memory. No other condition. -/
import Derived.Test.YtohjfcfcopbmoaaRows
import Derived.Test.YtohjfcfcopbmoaaLawMeetsOf
import Derived.Test.YtohjfcfcopbmoaaFrame
import Derived.Test.YtohjfcfcopbmoaaFrameDec

namespace Go.Proofs.Ytohjfcfcopbmoaa
open Go.ChangeShapes Go.WideShapes Go.ChangeAt Go.RowKit
set_option linter.unusedVariables false

set_option maxRecDepth 100000 in
theorem liftedFnExactMeetsOf (os : Os) (started : os.Started) (H : Type) (enc : TypeId × Value → H) :
    ReturnsInHanded {} Try.checked os 6 .any (Rows.fnExactMeetsOfSpec.pre6 enc Try.prog Try.f6 Rows.fnExactMeetsOfRow.domain false) (Rows.fnExactMeetsOfSpec.post enc Try.prog Try.f6 false true false false) := by
  refine returnsInHanded_of_change (C := Try.checked) own started (by kernel_rfl) Try.func6
    (ChangeSpec.witness6 (enc := enc) (C := Try.checked) false ⟨#[], #[.agg #[.slice none 0 0, .slice none 0 0]], []⟩ 8 (by kernel_rfl) (by kernel_rfl) (by kernel_rfl) (by kernel_rfl)) ?_
  intro W base args ds gs before hval0 hW hcnd _
  have hval : ∀ (j : Nat) t v, Try.f6.params[j]? = some t → args[j]? = some v → Value.okWide Try.prog W .any base t v := hval0
  have hW' := hW
  obtain ⟨p, q, hA0, hV, rfl, hfz, hnd⟩ := hW
  have hA : DataW.TrodAll enc Try.prog W 0 (fun _ => true) true Try.f6.params.toList args.toList ds p := hA0
  rw [Try.params6] at hA hval
  obtain ⟨v0, vs0, d0, ds0, p0, q0, hargs, rfl, rfl, h0, r0⟩ := trodAll_cons hA
  obtain ⟨rfl, rfl, rfl⟩ := trodAll_nil r0
  obtain rfl : args = #[v0] := by cases args; simp_all
  obtain ⟨rfl, rfl⟩ := trodVars_none hV
  have lt0 : ∀ x ∈ p0, x.block < W.heap.size := by obtain ⟨m, hm⟩ := h0; exact DataW.trod_lt m _ _ _ hm
  obtain ⟨g0, k0, L0, K0, e0, hL0, hK0⟩ := open_decomp (hval 0 24 v0 rfl rfl) h0
  subst e0
  clear hA0 hval0
  refine (lawMeetsOf g0 k0 L0 K0 W hL0 hK0).mono fun e W' ⟨he, bel⟩ => ?_
  subst he
  exact ⟨_, rfl, _, _, _, [], _, [], hW', trodAll_mk1 (shut_bool Try.underlying4 _), (trodAll_cons_mk (Below.trod laidOut (by kernel_rfl) (of_decide_eq_true (by kernel_rfl)) h0 bel lt0) trodAll_mk0), rfl, bel.frame _, fun h => by cases h⟩

theorem overFnExactMeetsOf : Rows.fnExactMeetsOfRow.holds Try.pinned (OpenSpec.ofChange Rows.fnExactMeetsOfSpec) :=
  OpenClaim.holds_of_wide 6 Try.f6 rfl rfl rfl rfl rfl rfl rfl ⟨rfl, rfl, rfl, rfl, rfl⟩ rfl rfl rfl rfl rfl (by kernel_rfl) Try.func6 (by kernel_rfl)
    (of_decide_eq_true (by kernel_rfl)) (by unfold Func.isWrapper; first | (rw [if_pos (by decide +kernel)]; kernel_rfl) | (rw [if_neg (by decide +kernel)]; exact ⟨rfl, rfl⟩))
    (fun os started H enc _ => liftedFnExactMeetsOf os started H enc)

/-- The statement. -/
theorem fnExactMeetsOf_holds : Rows.FnExactMeetsOfSaid := overFnExactMeetsOf
#print axioms fnExactMeetsOf_holds
end Go.Proofs.Ytohjfcfcopbmoaa
