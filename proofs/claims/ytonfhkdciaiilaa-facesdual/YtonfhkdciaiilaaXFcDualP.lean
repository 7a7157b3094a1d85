/-
  The contract of faces.Dual at a system in the plane.
-/
import Derived.Test.YtonfhkdciaiilaaXFcDual
import Derived.Test.YtonfhkdciaiilaaXRFaceM
import Derived.Test.YtonfhkdciaiilaaXRFacesLaw
namespace Go.Proofs.Ytonfhkdciaiilaa
open Go Go.Proofs Go.RowKit

theorem dual_plane (N : Nat) (l : List Ed) (hR : RightG (N : Int) l) (r : List (List Int)) (hS : SysR N l r) (hP : planeK (numsL N l r) = 0) (sv rv : Value) (w : World) (hl : Edges w.heap.size w sv l) (hr : Lsts w.heap.size w rv r) :
    Calls Try.prog 11 #[.agg #[.int .i64 (N : Int), sv], rv] w fun e w' => ∃ gv, e = .returned (.tuple #[.agg #[.int .i64 ((facesL N l r).length : Int), gv], .int .i64 0]) ∧ Edges w'.heap.size w' gv (dualL (facesL N l r) l) ∧ Below w.heap.size w w' := by
  have hm := hR.m1
  have h1 := facesL_few hR r
  refine dual_any (N : Int) l (by omega) (facesL N l r) (by omega) (fun f hf => ?_) (faces_dec hR hS).nodup sv rv w hl (fun W h => inPlane_any N l hR r hS hP sv rv W (hl.go h) (hr.go h))
  have := facesL_each N l r f hf
  omega
end Go.Proofs.Ytonfhkdciaiilaa
