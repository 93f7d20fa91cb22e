/-
  Layings of the library functions that the program calls, at this dump.
-/
import Derived.Shelf.SlMaps.Equal
import Derived.Ground.SlmeProg
import Derived.Shelf.SlGeneric
import Derived.Test.YtmnhhfhdaagmhaaProg
namespace Go.Proofs
open Go.Shelf
def Try.eqM_ren : Go.Shelf.Ren := ⟨fun | 6 => 14 | n => n, fun | 23 => 27 | 24 => 27 | 26 => 3 | 27 => 3 | 4 => 4 | 3 => 3 | 0 => 0 | 36 => 49 | n => n, fun | n => n⟩
theorem Try.eqM : Go.Proofs.SlLaysEq.n6 Try.prog Try.eqM_ren := {
  mixed := by kernel_rfl
  f6 := ⟨Try.f14.name, by decide, Try.func14.trans (congrArg some (by kernel_rfl))⟩
  t0 := Try.underlying0
  a0 := Try.isAgg0
  z0 := Try.sizeOf0
  v0 := Try.zeroValue0
  t3 := Try.underlying3
  a3 := Try.isAgg3
  z3 := Try.sizeOf3
  v3 := Try.zeroValue3
  t4 := Try.underlying4
  a4 := Try.isAgg4
  z4 := Try.sizeOf4
  v4 := Try.zeroValue4
  t23 := Try.underlying27
  a23 := Try.isAgg27
  z23 := Try.sizeOf27
  v23 := Try.zeroValue27
  t24 := Try.underlying27
  a24 := Try.isAgg27
  z24 := Try.sizeOf27
  v24 := Try.zeroValue27
  a26 := Try.isAgg3
  z26 := Try.sizeOf3
  a27 := Try.isAgg3
  z27 := Try.sizeOf3
  t36 := Try.underlying49
  a36 := Try.isAgg49
  z36 := Try.sizeOf49 }
end Go.Proofs
