/-
  What impl.SameDists computes.
-/
import Derived.Test.YtdobiapnkdgjoaaSameD
namespace Go.Proofs.Ytdobiapnkdgjoaa
open Go.RowKit Go.Deep

end Go.Proofs.Ytdobiapnkdgjoaa
