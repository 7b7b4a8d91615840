/- The shelf contract of slices.Compact laid at the function of the program (written by tools/layplain.py: SlLaysN.n43 Slgn 43; anew for each seat). -/
import Derived.Shelf.SlicesG.CompactI
import Derived.Test.YtohjfcfcopbmoaaChecked

namespace Go.Proofs.Ytohjfcfcopbmoaa
open Go.Shelf

def Try.lcompact_ren : Go.Shelf.Ren := ⟨fun | 43 => 85 | n => n, fun | 22 => 33 | 23 => 2 | 3 => 3 | 4 => 4 | 0 => 0 | n => n, fun | n => n⟩
theorem Try.lcompact : Go.Proofs.SlLaysN.n43 Try.prog Try.lcompact_ren := {
  mixed := by kernel_rfl
  f43 := ⟨Try.f85.name, by decide, Try.func85.trans (congrArg some (by kernel_rfl))⟩
  t0 := Try.underlying0
  a0 := Try.isAgg0
  z0 := Try.sizeOf0
  v0 := Try.zeroValue0
  t3 := Try.underlying3
  a3 := Try.isAgg3
  z3 := Try.sizeOf3
  v3 := Try.zeroValue3
  t4 := Try.underlying4
  a4 := Try.isAgg4
  z4 := Try.sizeOf4
  v4 := Try.zeroValue4
  t22 := Try.underlying33
  a22 := Try.isAgg33
  z22 := Try.sizeOf33
  v22 := Try.zeroValue33
  t23 := Try.underlying2
  a23 := Try.isAgg2
  z23 := Try.sizeOf2
  v23 := Try.zeroValue2
  i23 := by kernel_rfl }

end Go.Proofs.Ytohjfcfcopbmoaa
