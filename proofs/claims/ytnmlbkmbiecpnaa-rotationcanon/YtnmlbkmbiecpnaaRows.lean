/-
  No cell of these rows narrows 'for every input' (looked for: loops, veiled, ifaces, maps, wideKeys, modest, calm, conditions, laid).
  DERIVED. THE GIVEN ROWS OF THIS SEAT. 6 by the template 'for every input the law returns true; each argument reads behind the call as it read before'; 0 by the template 'total and deterministic' (their statements: YtnmlbkmbiecpnaaTotals.lean).
  GIVEN WITH THE SEED: the statements are not yours to turn. If you find one false, say at which input.
  Laid BY PROGRAM, IN A SANDBOX (cutbox-rows.mjs): the forced cells as the released guide's own fill.sh prints them over the translation e506feac95161791… (all of the seat's roots in one cut). By AI agents, Wed Nov 11 2026. No macro, syntax, notation, axiom, sorry.
-/
import Derived.Test.YtnmlbkmbiecpnaaChecked
import GoSem.Claim
import GoSem.ClaimJoined
import GoSem.ClaimMapViews
import Derived.JoinedTies
import Derived.KernelRfl
namespace Go.Proofs.Ytnmlbkmbiecpnaa
/- THE CELL 'sum', in the pinned program and in every row, IS THE sha256 OF THE DUMP (.gsa) THAT YtnmlbkmbiecpnaaProg.lean LOADS. Nothing in Lean hashes anything: it is a label: what it is worth is what the hold of that sum in a sandbox is worth. -/
noncomputable def Try.pinned : Pinned := { name := "ytnmlbkmbiecpnaa", sum := "e506feac9516179190aa7e7a631311d09da2271a14c125ba4d5946f53ba4fadf", checked := Try.checked }
namespace Rows
def none {H : Type} : Left H := { results := [], args := [] }

/-- 'filigreelaw07.RotationRight': WHATEVER THE INPUT: true; the input reads as it did. -/
def rotationRightSpec : ChangeSpec := { name := "rotationRight", fn := fun _ => fun
  | [d1, d2, d3] => { results := [.lit (.bool true)], args := [d1, d2, d3] }
  | _ => none }
def rotationRightRow : OpenClaim := { program := "ytnmlbkmbiecpnaa", sum := "e506feac9516179190aa7e7a631311d09da2271a14c125ba4d5946f53ba4fadf", func := "filigree/filigreelaw07.RotationRight", spec := "rotationRight", unfollowed := true, recurses := true, plainKeys := false, apart := false }
def RotationRightSaid : Prop := rotationRightRow.holds Try.pinned (OpenSpec.ofChange rotationRightSpec)

/-- ITS FALSE NEIGHBOUR: 'it returns false'. Refute it at one input. -/
def rotationRightWrong : ChangeSpec := { name := "rotationRight", fn := fun _ => fun
  | [d1, d2, d3] => { results := [.lit (.bool false)], args := [d1, d2, d3] }
  | _ => none }
def RotationRightWrongFalsely : Prop := rotationRightRow.holds Try.pinned (OpenSpec.ofChange rotationRightWrong)

/-- 'filigreelaw07.RotationFaces': WHATEVER THE INPUT: true; the input reads as it did. -/
def rotationFacesSpec : ChangeSpec := { name := "rotationFaces", fn := fun _ => fun
  | [d1, d2] => { results := [.lit (.bool true)], args := [d1, d2] }
  | _ => none }
def rotationFacesRow : OpenClaim := { program := "ytnmlbkmbiecpnaa", sum := "e506feac9516179190aa7e7a631311d09da2271a14c125ba4d5946f53ba4fadf", func := "filigree/filigreelaw07.RotationFaces", spec := "rotationFaces", unfollowed := true, recurses := true, plainKeys := false, apart := false }
def RotationFacesSaid : Prop := rotationFacesRow.holds Try.pinned (OpenSpec.ofChange rotationFacesSpec)

/-- ITS FALSE NEIGHBOUR: 'it returns false'. Refute it at one input. -/
def rotationFacesWrong : ChangeSpec := { name := "rotationFaces", fn := fun _ => fun
  | [d1, d2] => { results := [.lit (.bool false)], args := [d1, d2] }
  | _ => none }
def RotationFacesWrongFalsely : Prop := rotationFacesRow.holds Try.pinned (OpenSpec.ofChange rotationFacesWrong)

/-- 'filigreelaw07.RotationEuler': WHATEVER THE INPUT: true; the input reads as it did. -/
def rotationEulerSpec : ChangeSpec := { name := "rotationEuler", fn := fun _ => fun
  | [d1, d2] => { results := [.lit (.bool true)], args := [d1, d2] }
  | _ => none }
def rotationEulerRow : OpenClaim := { program := "ytnmlbkmbiecpnaa", sum := "e506feac9516179190aa7e7a631311d09da2271a14c125ba4d5946f53ba4fadf", func := "filigree/filigreelaw07.RotationEuler", spec := "rotationEuler", unfollowed := true, recurses := true, plainKeys := false, apart := false }
def RotationEulerSaid : Prop := rotationEulerRow.holds Try.pinned (OpenSpec.ofChange rotationEulerSpec)

/-- ITS FALSE NEIGHBOUR: 'it returns false'. Refute it at one input. -/
def rotationEulerWrong : ChangeSpec := { name := "rotationEuler", fn := fun _ => fun
  | [d1, d2] => { results := [.lit (.bool false)], args := [d1, d2] }
  | _ => none }
def RotationEulerWrongFalsely : Prop := rotationEulerRow.holds Try.pinned (OpenSpec.ofChange rotationEulerWrong)

/-- 'filigreelaw07.RotationCanon': WHATEVER THE INPUT: true; the input reads as it did. -/
def rotationCanonSpec : ChangeSpec := { name := "rotationCanon", fn := fun _ => fun
  | [d1, d2] => { results := [.lit (.bool true)], args := [d1, d2] }
  | _ => none }
def rotationCanonRow : OpenClaim := { program := "ytnmlbkmbiecpnaa", sum := "e506feac9516179190aa7e7a631311d09da2271a14c125ba4d5946f53ba4fadf", func := "filigree/filigreelaw07.RotationCanon", spec := "rotationCanon", unfollowed := true, recurses := true, plainKeys := false, apart := false }
def RotationCanonSaid : Prop := rotationCanonRow.holds Try.pinned (OpenSpec.ofChange rotationCanonSpec)

/-- ITS FALSE NEIGHBOUR: 'it returns false'. Refute it at one input. -/
def rotationCanonWrong : ChangeSpec := { name := "rotationCanon", fn := fun _ => fun
  | [d1, d2] => { results := [.lit (.bool false)], args := [d1, d2] }
  | _ => none }
def RotationCanonWrongFalsely : Prop := rotationCanonRow.holds Try.pinned (OpenSpec.ofChange rotationCanonWrong)

/-- 'filigreelaw07.RotationDarts': WHATEVER THE INPUT: true; the input reads as it did. -/
def rotationDartsSpec : ChangeSpec := { name := "rotationDarts", fn := fun _ => fun
  | [d1, d2] => { results := [.lit (.bool true)], args := [d1, d2] }
  | _ => none }
def rotationDartsRow : OpenClaim := { program := "ytnmlbkmbiecpnaa", sum := "e506feac9516179190aa7e7a631311d09da2271a14c125ba4d5946f53ba4fadf", func := "filigree/filigreelaw07.RotationDarts", spec := "rotationDarts", unfollowed := true, recurses := true, plainKeys := false, apart := false }
def RotationDartsSaid : Prop := rotationDartsRow.holds Try.pinned (OpenSpec.ofChange rotationDartsSpec)

/-- ITS FALSE NEIGHBOUR: 'it returns false'. Refute it at one input. -/
def rotationDartsWrong : ChangeSpec := { name := "rotationDarts", fn := fun _ => fun
  | [d1, d2] => { results := [.lit (.bool false)], args := [d1, d2] }
  | _ => none }
def RotationDartsWrongFalsely : Prop := rotationDartsRow.holds Try.pinned (OpenSpec.ofChange rotationDartsWrong)

/-- 'filigreelaw07.RotationGenus': WHATEVER THE INPUT: true; the input reads as it did. -/
def rotationGenusSpec : ChangeSpec := { name := "rotationGenus", fn := fun _ => fun
  | [d1, d2] => { results := [.lit (.bool true)], args := [d1, d2] }
  | _ => none }
def rotationGenusRow : OpenClaim := { program := "ytnmlbkmbiecpnaa", sum := "e506feac9516179190aa7e7a631311d09da2271a14c125ba4d5946f53ba4fadf", func := "filigree/filigreelaw07.RotationGenus", spec := "rotationGenus", unfollowed := true, recurses := true, plainKeys := false, apart := false }
def RotationGenusSaid : Prop := rotationGenusRow.holds Try.pinned (OpenSpec.ofChange rotationGenusSpec)

/-- ITS FALSE NEIGHBOUR: 'it returns false'. Refute it at one input. -/
def rotationGenusWrong : ChangeSpec := { name := "rotationGenus", fn := fun _ => fun
  | [d1, d2] => { results := [.lit (.bool false)], args := [d1, d2] }
  | _ => none }
def RotationGenusWrongFalsely : Prop := rotationGenusRow.holds Try.pinned (OpenSpec.ofChange rotationGenusWrong)

/- THE SECOND FORM. 'bulk': how many values and letters a reading holds, each counted each time it is reached (what is shared counts as often as it is met; a slice's spare places count too). A statement '..UptoSaid' is the law's where the arguments, and the package variables that the reading takes, are together of bulk at most 1048576: NARROWER than '..Said'. Prove '..Said' where nothing that the law and all that it calls make is longer than what came in: it says more and counts as full. Else prove '..UptoSaid'. A law counts once. -/
mutual
def uptoBulk {H : Type} : DataW H → Nat
  | .lit (.string bytes) => bytes.length + 1
  | .lit _ => 1
  | .nil => 1
  | .ptr d => uptoBulk d + 1
  | .slice elems spare => uptoBulkAll elems + uptoBulkAll spare + 1
  | .agg parts => uptoBulkAll parts + 1
  | .iface _ d => uptoBulk d + 1
  | .map entries => uptoBulkEntries entries + 1
  | .held _ => 1
def uptoBulkAll {H : Type} : List (DataW H) → Nat
  | [] => 0
  | d :: r => uptoBulk d + uptoBulkAll r
def uptoBulkEntries {H : Type} : List (Lit × DataW H) → Nat
  | [] => 0
  | x :: r => uptoBulkEntry x + uptoBulkEntries r
def uptoBulkEntry {H : Type} : Lit × DataW H → Nat
  | (.string bytes, d) => bytes.length + uptoBulk d + 1
  | (_, d) => uptoBulk d + 1
 end
def uptoSmall : (H : Type) → List (DataW H) → Bool := fun _ ds => decide (uptoBulkAll ds ≤ 1048576)
def OpenSpec.upto (s : _root_.Go.ChangeSpec) : _root_.Go.OpenSpec := { _root_.Go.OpenSpec.ofChange s with cond := some uptoSmall }

/-- 'filigreelaw07.RotationRight', WHERE WHAT IT READS IS OF BULK AT MOST 1048576: true; the input reads as it did. -/
def rotationRightUptoRow : OpenClaim := { program := "ytnmlbkmbiecpnaa", sum := "e506feac9516179190aa7e7a631311d09da2271a14c125ba4d5946f53ba4fadf", func := "filigree/filigreelaw07.RotationRight", spec := "rotationRight", unfollowed := true, recurses := true, plainKeys := false, apart := false, narrowed := true }
def RotationRightUptoSaid : Prop := rotationRightUptoRow.holds Try.pinned (OpenSpec.upto rotationRightSpec)

/-- 'filigreelaw07.RotationFaces', WHERE WHAT IT READS IS OF BULK AT MOST 1048576: true; the input reads as it did. -/
def rotationFacesUptoRow : OpenClaim := { program := "ytnmlbkmbiecpnaa", sum := "e506feac9516179190aa7e7a631311d09da2271a14c125ba4d5946f53ba4fadf", func := "filigree/filigreelaw07.RotationFaces", spec := "rotationFaces", unfollowed := true, recurses := true, plainKeys := false, apart := false, narrowed := true }
def RotationFacesUptoSaid : Prop := rotationFacesUptoRow.holds Try.pinned (OpenSpec.upto rotationFacesSpec)

/-- 'filigreelaw07.RotationEuler', WHERE WHAT IT READS IS OF BULK AT MOST 1048576: true; the input reads as it did. -/
def rotationEulerUptoRow : OpenClaim := { program := "ytnmlbkmbiecpnaa", sum := "e506feac9516179190aa7e7a631311d09da2271a14c125ba4d5946f53ba4fadf", func := "filigree/filigreelaw07.RotationEuler", spec := "rotationEuler", unfollowed := true, recurses := true, plainKeys := false, apart := false, narrowed := true }
def RotationEulerUptoSaid : Prop := rotationEulerUptoRow.holds Try.pinned (OpenSpec.upto rotationEulerSpec)

/-- 'filigreelaw07.RotationCanon', WHERE WHAT IT READS IS OF BULK AT MOST 1048576: true; the input reads as it did. -/
def rotationCanonUptoRow : OpenClaim := { program := "ytnmlbkmbiecpnaa", sum := "e506feac9516179190aa7e7a631311d09da2271a14c125ba4d5946f53ba4fadf", func := "filigree/filigreelaw07.RotationCanon", spec := "rotationCanon", unfollowed := true, recurses := true, plainKeys := false, apart := false, narrowed := true }
def RotationCanonUptoSaid : Prop := rotationCanonUptoRow.holds Try.pinned (OpenSpec.upto rotationCanonSpec)

/-- 'filigreelaw07.RotationDarts', WHERE WHAT IT READS IS OF BULK AT MOST 1048576: true; the input reads as it did. -/
def rotationDartsUptoRow : OpenClaim := { program := "ytnmlbkmbiecpnaa", sum := "e506feac9516179190aa7e7a631311d09da2271a14c125ba4d5946f53ba4fadf", func := "filigree/filigreelaw07.RotationDarts", spec := "rotationDarts", unfollowed := true, recurses := true, plainKeys := false, apart := false, narrowed := true }
def RotationDartsUptoSaid : Prop := rotationDartsUptoRow.holds Try.pinned (OpenSpec.upto rotationDartsSpec)

/-- 'filigreelaw07.RotationGenus', WHERE WHAT IT READS IS OF BULK AT MOST 1048576: true; the input reads as it did. -/
def rotationGenusUptoRow : OpenClaim := { program := "ytnmlbkmbiecpnaa", sum := "e506feac9516179190aa7e7a631311d09da2271a14c125ba4d5946f53ba4fadf", func := "filigree/filigreelaw07.RotationGenus", spec := "rotationGenus", unfollowed := true, recurses := true, plainKeys := false, apart := false, narrowed := true }
def RotationGenusUptoSaid : Prop := rotationGenusUptoRow.holds Try.pinned (OpenSpec.upto rotationGenusSpec)

end Rows
end Go.Proofs.Ytnmlbkmbiecpnaa
