/-
  The sort of the library: not in this seat.
-/
import Derived.Test.YtjclbfjjakfjiaaProg
namespace Go.Proofs.Ytjclbfjjakfjiaa
end Go.Proofs.Ytjclbfjjakfjiaa
