/-
  assumed.
-/
import Derived.Test.YtbljkbdbiceokaaPropO
import Derived.Test.YtbljkbdbiceokaaCnfF
namespace Go.Proofs.Ytbljkbdbiceokaa
open Go.RowKit Go.Lib
open Go.RowKit (Below)

end Go.Proofs.Ytbljkbdbiceokaa
