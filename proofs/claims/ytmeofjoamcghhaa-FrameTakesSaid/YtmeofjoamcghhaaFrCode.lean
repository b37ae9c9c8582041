/-
  The code's own functions: Sum, Wrap, Take.
-/
import Derived.Test.YtmeofjoamcghhaaFcTake
import Derived.Test.YtmeofjoamcghhaaBySame
namespace Go.Proofs.Ytmeofjoamcghhaa
end Go.Proofs.Ytmeofjoamcghhaa
