/-
  What spec.DrawFarMarks leaves: some network and a number.
-/
import Derived.Test.YtcaamhoakhgnhaaNetsAll
import Derived.Test.YtcaamhoakhgnhaaFarSp
namespace Go.Proofs.Ytcaamhoakhgnhaa
open Go.RowKit Go.Deep

end Go.Proofs.Ytcaamhoakhgnhaa
