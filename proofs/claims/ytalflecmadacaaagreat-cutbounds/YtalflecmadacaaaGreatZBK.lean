import Derived.Test.YtalflecmadacaaaGreatZBI
import Derived.Test.YtalflecmadacaaaGreatZAY
import Derived.Test.YtalflecmadacaaaGreatZAX
import Derived.Test.YtalflecmadacaaaGreatZAG
import Derived.Test.YtalflecmadacaaaGreatZBJ
set_option maxRecDepth 100000
set_option maxHeartbeats 8000000
namespace Go.Proofs.YtalflecmadacaaaGreat
open Go Go.Proofs Go.RowKit
theorem QmJ {N:Nat}{l:List Ed}(hR:RightG (N:Int) l)(r:List (List Int)):(stF l r N 0).1=QaJ N l r:=by
 unfold stF QaJ
 rw [QjA hR,Qek _ _ _ YA,List.take_length]
end Go.Proofs.YtalflecmadacaaaGreat
