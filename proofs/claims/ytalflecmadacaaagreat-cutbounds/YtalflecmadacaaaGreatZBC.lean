import Derived.Test.YtalflecmadacaaaGreatZBB
import Derived.Test.YtalflecmadacaaaGreatZAW
import Derived.BigQuiet
import Derived.Test.YtalflecmadacaaaGreatZAZ
import Derived.Test.YtalflecmadacaaaGreatZAQ
import Derived.Laws.ResultCell
import Derived.Deep.RegionHeld3
import Derived.Test.YtalflecmadacaaaGreatZAY
import Derived.Test.YtalflecmadacaaaGreatZBA
import Derived.Test.YtalflecmadacaaaGreatZAG
set_option maxRecDepth 100000
set_option maxHeartbeats 8000000
namespace Go.Proofs.YtalflecmadacaaaGreat
open Go Go.Proofs Go.RowKit
section
variable {N:Nat} {r:List (List Int)}
end
section
variable {N:Nat} {l:List Ed} {r:List (List Int)}
end
def exR:List (List Int):=[[1,2],[2,0],[0,1]]
theorem QmJ {N:Nat}{l:List Ed}(hR:RightG (N:Int) l)(r:List (List Int)):(stF l r N 0).1=QaJ N l r:=by
 unfold stF QaJ
 rw [QjA hR,Qek _ _ _ YA,List.take_length]
end Go.Proofs.YtalflecmadacaaaGreat
