import Derived.Test.YtalflecmadacaaaGreatZBD
import Derived.Test.YtalflecmadacaaaGreatZAL
set_option maxRecDepth 100000
set_option maxHeartbeats 8000000
namespace Go.Proofs.YtalflecmadacaaaGreat
open Go Go.Proofs
section
variable {nx : Dt → Dt}
structure Dec (nx : Dt → Dt) (P : Dt → Prop) (C : List (List Dt)) : Prop where
 rnd : ∀ f ∈ C, Rnd nx f
 nodup : C.flatten.Nodup
 mem : ∀ x, x ∈ C.flatten ↔ P x
end
section
variable {N : Nat} {l1 l2 : List Ed} {e : Ed} {r : List (List Int)}
variable {a b : Nat}
end
end Go.Proofs.YtalflecmadacaaaGreat
