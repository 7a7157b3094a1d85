import Derived.Test.YtalflecmadacaaaGreatZBF
import Derived.Test.YtalflecmadacaaaGreatZAY
import Derived.BigQuiet
import Derived.Test.YtalflecmadacaaaGreatZAB
import Derived.Test.YtalflecmadacaaaGreatZBC
import Derived.Test.YtalflecmadacaaaGreatZAS
set_option maxRecDepth 100000
set_option maxHeartbeats 8000000
namespace Go.Proofs.YtalflecmadacaaaGreat
open Go Go.Proofs Go.RowKit
section
variable {N : Nat} {r : List (List Int)}
end
section
variable {N : Nat} {l : List Ed} {r : List (List Int)}
end
def exR : List (List Int) := [[1, 2], [2, 0], [0, 1]]
end Go.Proofs.YtalflecmadacaaaGreat
