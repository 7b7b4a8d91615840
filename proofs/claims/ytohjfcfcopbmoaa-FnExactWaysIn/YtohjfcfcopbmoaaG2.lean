/- The graph of a list of edges: the two contracts as the law's walk takes them. -/
import Derived.Test.YtohjfcfcopbmoaaG1

namespace Go.Proofs.Ytohjfcfcopbmoaa
open Go.RowKit

theorem implGraphOf_c (v : Value) (n : Int) (E : List (List Int)) (w : World) (_ : I64 n) (h : GridAt w v E) : Calls Try.prog 67 #[.int .i64 n, v] w (GaveOf w n E) := implGraphOf_any v n E w h
theorem ofL_small (n : Int) (E : List (List Int)) : Small (ofL n E) := by
  unfold ofL
  by_cases h : OfP n E
  · rw [if_pos h]
    have hn : 1 ≤ n ∧ n ≤ 16 := by simpa [inB] using h.1
    refine ⟨by rw [maskL_len]; omega, fun i hi => ?_⟩
    rw [maskL_len] at hi
    rw [maskL_nth _ hi]
    have := listM_len (edgeM E E.length i)
    omega
  · rw [if_neg h]
    exact ⟨by simp, fun i hi => absurd hi (by simp)⟩

end Go.Proofs.Ytohjfcfcopbmoaa
