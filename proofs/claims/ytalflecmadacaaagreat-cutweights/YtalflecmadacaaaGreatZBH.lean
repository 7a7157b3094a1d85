import Derived.Laws.ResultCell
import Derived.Deep.RegionHeld3
import Derived.Test.YtalflecmadacaaaGreatZBG
import Derived.Test.YtalflecmadacaaaGreatZBB
import Derived.Test.YtalflecmadacaaaGreatZBD
set_option maxRecDepth 100000
set_option maxHeartbeats 8000000
namespace Go.Proofs.YtalflecmadacaaaGreat
open Go Go.Proofs Go.RowKit
theorem facesL_st {N : Nat} {l : List Ed} (hR : RightG (N : Int) l) (r : List (List Int)) : (stF l r N 0).1 = facesL N l r := by
 unfold stF facesL
 rw [stsAt_zero hR, rounds_fold _ _ _ (Nat.le_refl _), List.take_length]
end Go.Proofs.YtalflecmadacaaaGreat
