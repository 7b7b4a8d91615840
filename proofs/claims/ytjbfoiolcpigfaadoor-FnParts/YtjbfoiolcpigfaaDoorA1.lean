/- Walks of the laws' own helpers: sizes. -/
import Derived.Test.YtjbfoiolcpigfaaDoorProg
import Derived.Test.YtjbfoiolcpigfaaDoorBase
namespace Go.Proofs.YtjbfoiolcpigfaaDoor
open Go.RowKit

/-- What szInt64S answers. -/
def szRow (n : Nat) (left : Int) : Int := if left - n < 0 then -1 else left - n
/-- After k rows. -/
def szTo (L : List (List Int)) (left : Int) : Nat → Int
  | 0 => left
  | k + 1 => szRow (nthR L k).length (szTo L left k)

theorem szInt64S_any (a : Option Addr) (n c : Nat) (left : Int) (w : World) (hn : n ≤ maxLen) (h0 : 0 ≤ left) (h1 : left ≤ 1048576) :
    Calls Tryd.prog 138 #[.slice a n c, .int .i64 left] w fun e w' => e = .returned (.int .i64 (szRow n left)) ∧ w = w' := by
  unfold maxLen at hn
  by_cases h : left - n < 0
  · have hs : szRow n left = -1 := by simp [szRow, h]
    rw [hs]
    go_enter Tryd.func138, Tryd.ntmps138
    go_wp2
    go_ret
    exact ⟨rfl, rfl⟩
  · have hs : szRow n left = left - n := by simp [szRow, h]
    rw [hs]
    go_enter Tryd.func138, Tryd.ntmps138
    go_wp2
    go_ret
    exact ⟨rfl, rfl⟩

end Go.Proofs.YtjbfoiolcpigfaaDoor
