/- From a row's reading to the walks, where no variable is listed. -/
import Derived.Test.YthhbaccbhfngbaaMb00
import Derived.OpenShut
import Derived.ShutString
import Derived.ChangeOld
namespace Go.Proofs.Ythhbaccbhfngbaa
theorem own : ownKnob Try.prog.godebug = none := by kernel_rfl
theorem laidOut : laidOutB Try.prog = true := by kernel_rfl
end Go.Proofs.Ythhbaccbhfngbaa
