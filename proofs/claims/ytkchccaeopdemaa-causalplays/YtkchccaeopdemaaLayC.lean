/-
  Layings of library contracts at this program: plain text.
-/
import Derived.Test.YtkchccaeopdemaaRows
import Derived.Shelf.Lays2
import Derived.Shelf.SlGeneric
import Derived.KernelRfl
namespace Go.Proofs.Ytkchccaeopdemaa
open Go.Shelf Go.Proofs

def insL_ren : Go.Shelf.Ren := ⟨fun | 21 => 25 | 27 => 30 | 28 => 31 | 35 => 37 | 39 => 38 | n => n, fun | 22 => 37 | 3 => 3 | 4 => 4 | 0 => 0 | n => n, fun | n => n⟩

theorem insL : Go.Proofs.Lays2.n21 Try.prog insL_ren := {
  mixed := by kernel_rfl
  f21 := Try.func25.trans (congrArg some (by kernel_rfl))
  f27 := Try.func30.trans (congrArg some (by kernel_rfl))
  f28 := Try.func31.trans (congrArg some (by kernel_rfl))
  f35 := Try.func37.trans (congrArg some (by kernel_rfl))
  f39 := Try.func38.trans (congrArg some (by kernel_rfl))
  t0 := Try.underlying0
  a0 := Try.isAgg0
  z0 := Try.sizeOf0
  v0 := Try.zeroValue0
  t3 := Try.underlying3
  a3 := Try.isAgg3
  z3 := Try.sizeOf3
  v3 := Try.zeroValue3
  t4 := Try.underlying4
  a4 := Try.isAgg4
  z4 := Try.sizeOf4
  v4 := Try.zeroValue4
  t22 := Try.underlying37
  a22 := Try.isAgg37
  z22 := Try.sizeOf37
  v22 := Try.zeroValue37
  i3 := by kernel_rfl }

def delL_ren : Go.Shelf.Ren := ⟨fun | 23 => 35 | n => n, fun | 22 => 37 | 3 => 3 | 4 => 4 | 0 => 0 | n => n, fun | n => n⟩

theorem delL : Go.Proofs.Lays2.n23 Try.prog delL_ren := {
  mixed := by kernel_rfl
  f23 := Try.func35.trans (congrArg some (by kernel_rfl))
  t0 := Try.underlying0
  a0 := Try.isAgg0
  z0 := Try.sizeOf0
  v0 := Try.zeroValue0
  t3 := Try.underlying3
  a3 := Try.isAgg3
  z3 := Try.sizeOf3
  v3 := Try.zeroValue3
  t4 := Try.underlying4
  a4 := Try.isAgg4
  z4 := Try.sizeOf4
  v4 := Try.zeroValue4
  t22 := Try.underlying37
  a22 := Try.isAgg37
  z22 := Try.sizeOf37
  v22 := Try.zeroValue37
  i3 := by kernel_rfl }

def bsL_ren : Go.Shelf.Ren := ⟨fun | 25 => 23 | 31 => 27 | 32 => 28 | 37 => 36 | n => n, fun | 22 => 37 | 3 => 3 | 4 => 4 | 40 => 64 | 0 => 0 | n => n, fun | n => n⟩

theorem bsL : Go.Proofs.Lays2.n25 Try.prog bsL_ren := {
  mixed := by kernel_rfl
  f25 := Try.func23.trans (congrArg some (by kernel_rfl))
  f31 := Try.func27.trans (congrArg some (by kernel_rfl))
  f32 := Try.func28.trans (congrArg some (by kernel_rfl))
  f37 := Try.func36.trans (congrArg some (by kernel_rfl))
  t0 := Try.underlying0
  a0 := Try.isAgg0
  z0 := Try.sizeOf0
  v0 := Try.zeroValue0
  t3 := Try.underlying3
  a3 := Try.isAgg3
  z3 := Try.sizeOf3
  v3 := Try.zeroValue3
  t4 := Try.underlying4
  a4 := Try.isAgg4
  z4 := Try.sizeOf4
  v4 := Try.zeroValue4
  t22 := Try.underlying37
  a22 := Try.isAgg37
  z22 := Try.sizeOf37
  v22 := Try.zeroValue37
  t40 := Try.underlying64
  a40 := Try.isAgg64
  z40 := Try.sizeOf64
  v40 := Try.zeroValue64 }

end Go.Proofs.Ytkchccaeopdemaa
