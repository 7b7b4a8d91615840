/- Walks: WidthOf, of both sides. -/
import Derived.Test.YtohjfcfcopbmoaaDE2
import Derived.IntWalk

namespace Go.Proofs.Ytohjfcfcopbmoaa
open Go.RowKit

theorem l1MaxD_any (x y : Int) (w : World) : Calls Try.prog 31 #[.int .i64 x, .int .i64 y] w fun e w' => e = .returned (.int .i64 (max x y)) ∧ w = w' := by
  by_cases h : x > y
  · have h' : y < x := h
    have e : Hid (max x y = x) := by show _ = _; omega
    clear h
    go_enter Try.func31, Try.ntmps31
    go_wp2
    go_ret
    exact ⟨ret_int e.out.symm, rfl⟩
  · have h' : ¬ y < x := h
    have e : Hid (max x y = y) := by show _ = _; omega
    clear h
    go_enter Try.func31, Try.ntmps31
    go_wp2
    go_ret
    exact ⟨ret_int e.out.symm, rfl⟩

end Go.Proofs.Ytohjfcfcopbmoaa
