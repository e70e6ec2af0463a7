/-
  What impl.SameDists computes.
-/
import Derived.Test.YtbmfjfglkjhlnaaSameD
namespace Go.Proofs.Ytbmfjfglkjhlnaa
open Go.RowKit Go.Deep

end Go.Proofs.Ytbmfjfglkjhlnaa
