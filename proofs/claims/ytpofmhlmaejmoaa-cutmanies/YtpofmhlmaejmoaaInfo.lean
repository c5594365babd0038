/-
  Rows of the program's table of types.
-/
import Derived.Test.YtpofmhlmaejmoaaRows
import Derived.KernelRfl
namespace Go.Proofs.Ytpofmhlmaejmoaa

theorem info4 : (Try.prog.info? 4).map (fun i => (i.zero, i.size, i.bytes)) = some (some (.bool false), 1, 1) := by kernel_rfl

end Go.Proofs.Ytpofmhlmaejmoaa
