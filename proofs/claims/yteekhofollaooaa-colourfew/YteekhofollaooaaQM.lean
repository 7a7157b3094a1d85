/-
  The chapter's example: alive.
-/
import Derived.Test.YteekhofollaooaaQL
namespace Go.Proofs.Yteekhofollaooaa
open Go Go.Proofs Go.RowKit

def exT : List Ed := [(0, 1, 0), (0, 2, 0), (1, 2, 0)]
def exR : List (List Int) := [[1, 2], [2, 0], [0, 1]]
theorem ex_right : RightG (3 : Int) exT := right_iff.1 (by decide)
theorem ex_sys : SysR 3 exT exR := by
  refine ⟨rfl, fun v hv => ?_⟩
  match v, hv with
  | 0, _ => decide
  | 1, _ => decide
  | 2, _ => decide
theorem ex_faces : facesL 3 exT exR = [[(0, 1), (1, 2), (2, 0)], [(0, 2), (2, 1), (1, 0)]] := by kernel_rfl
theorem ex_nums : numsL 3 exT exR = [2] := by kernel_rfl

end Go.Proofs.Yteekhofollaooaa
