/-
  No cell of these rows narrows 'for every input' (looked for: loops, veiled, ifaces, maps, wideKeys, modest, calm, conditions, laid).
  DERIVED. THE GIVEN ROWS OF THIS SEAT. 4 by the template 'for every input the law returns true; each argument reads behind the call as it read before'; 0 by the template 'total and deterministic' (their statements: YtonfhkdciaiilaaTotals.lean).
  GIVEN WITH THE SEED: the statements are not yours to turn. If you find one false, say at which input.
  Laid BY PROGRAM, IN A SANDBOX (cutbox-rows.mjs): the forced cells as the released guide's own fill.sh prints them over the translation a5610538ffbbbf4d… (all of the seat's roots in one cut). By AI agents, Wed Nov 11 2026. No macro, syntax, notation, axiom, sorry.
-/
import Derived.Test.YtonfhkdciaiilaaChecked
import GoSem.Claim
import GoSem.ClaimJoined
import GoSem.ClaimMapViews
import Derived.JoinedTies
import Derived.KernelRfl
namespace Go.Proofs.Ytonfhkdciaiilaa
/- THE CELL 'sum', in the pinned program and in every row, IS THE sha256 OF THE DUMP (.gsa) THAT YtonfhkdciaiilaaProg.lean LOADS. Nothing in Lean hashes anything: it is a label: what it is worth is what the hold of that sum in a sandbox is worth. -/
noncomputable def Try.pinned : Pinned := { name := "ytonfhkdciaiilaa", sum := "a5610538ffbbbf4d0ca399b028f10d01870c50fe3574714aefaab1f64f2256f5", checked := Try.checked }
namespace Rows
def none {H : Type} : Left H := { results := [], args := [] }

/-- 'filigreelaw10.FacesDual': WHATEVER THE INPUT: true; the input reads as it did. -/
def facesDualSpec : ChangeSpec := { name := "facesDual", fn := fun _ => fun
  | [d1, d2] => { results := [.lit (.bool true)], args := [d1, d2] }
  | _ => none }
def facesDualRow : OpenClaim := { program := "ytonfhkdciaiilaa", sum := "a5610538ffbbbf4d0ca399b028f10d01870c50fe3574714aefaab1f64f2256f5", func := "filigree/filigreelaw10.FacesDual", spec := "facesDual", unfollowed := true, recurses := true, plainKeys := false, apart := false }
def FacesDualSaid : Prop := facesDualRow.holds Try.pinned (OpenSpec.ofChange facesDualSpec)

/-- ITS FALSE NEIGHBOUR: 'it returns false'. Refute it at one input. -/
def facesDualWrong : ChangeSpec := { name := "facesDual", fn := fun _ => fun
  | [d1, d2] => { results := [.lit (.bool false)], args := [d1, d2] }
  | _ => none }
def FacesDualWrongFalsely : Prop := facesDualRow.holds Try.pinned (OpenSpec.ofChange facesDualWrong)

/-- 'filigreelaw10.FacesBridges': WHATEVER THE INPUT: true; the input reads as it did. -/
def facesBridgesSpec : ChangeSpec := { name := "facesBridges", fn := fun _ => fun
  | [d1, d2] => { results := [.lit (.bool true)], args := [d1, d2] }
  | _ => none }
def facesBridgesRow : OpenClaim := { program := "ytonfhkdciaiilaa", sum := "a5610538ffbbbf4d0ca399b028f10d01870c50fe3574714aefaab1f64f2256f5", func := "filigree/filigreelaw10.FacesBridges", spec := "facesBridges", unfollowed := true, recurses := true, plainKeys := false, apart := false }
def FacesBridgesSaid : Prop := facesBridgesRow.holds Try.pinned (OpenSpec.ofChange facesBridgesSpec)

/-- ITS FALSE NEIGHBOUR: 'it returns false'. Refute it at one input. -/
def facesBridgesWrong : ChangeSpec := { name := "facesBridges", fn := fun _ => fun
  | [d1, d2] => { results := [.lit (.bool false)], args := [d1, d2] }
  | _ => none }
def FacesBridgesWrongFalsely : Prop := facesBridgesRow.holds Try.pinned (OpenSpec.ofChange facesBridgesWrong)

/-- 'filigreelaw10.FacesWhole': WHATEVER THE INPUT: true; the input reads as it did. -/
def facesWholeSpec : ChangeSpec := { name := "facesWhole", fn := fun _ => fun
  | [d1, d2] => { results := [.lit (.bool true)], args := [d1, d2] }
  | _ => none }
def facesWholeRow : OpenClaim := { program := "ytonfhkdciaiilaa", sum := "a5610538ffbbbf4d0ca399b028f10d01870c50fe3574714aefaab1f64f2256f5", func := "filigree/filigreelaw10.FacesWhole", spec := "facesWhole", unfollowed := true, recurses := true, plainKeys := false, apart := false }
def FacesWholeSaid : Prop := facesWholeRow.holds Try.pinned (OpenSpec.ofChange facesWholeSpec)

/-- ITS FALSE NEIGHBOUR: 'it returns false'. Refute it at one input. -/
def facesWholeWrong : ChangeSpec := { name := "facesWhole", fn := fun _ => fun
  | [d1, d2] => { results := [.lit (.bool false)], args := [d1, d2] }
  | _ => none }
def FacesWholeWrongFalsely : Prop := facesWholeRow.holds Try.pinned (OpenSpec.ofChange facesWholeWrong)

/-- 'filigreelaw10.FacesEuler': WHATEVER THE INPUT: true; the input reads as it did. -/
def facesEulerSpec : ChangeSpec := { name := "facesEuler", fn := fun _ => fun
  | [d1, d2] => { results := [.lit (.bool true)], args := [d1, d2] }
  | _ => none }
def facesEulerRow : OpenClaim := { program := "ytonfhkdciaiilaa", sum := "a5610538ffbbbf4d0ca399b028f10d01870c50fe3574714aefaab1f64f2256f5", func := "filigree/filigreelaw10.FacesEuler", spec := "facesEuler", unfollowed := true, recurses := true, plainKeys := false, apart := false }
def FacesEulerSaid : Prop := facesEulerRow.holds Try.pinned (OpenSpec.ofChange facesEulerSpec)

/-- ITS FALSE NEIGHBOUR: 'it returns false'. Refute it at one input. -/
def facesEulerWrong : ChangeSpec := { name := "facesEuler", fn := fun _ => fun
  | [d1, d2] => { results := [.lit (.bool false)], args := [d1, d2] }
  | _ => none }
def FacesEulerWrongFalsely : Prop := facesEulerRow.holds Try.pinned (OpenSpec.ofChange facesEulerWrong)

/- THE SECOND FORM. 'bulk': how many values and letters a reading holds, each counted each time it is reached (what is shared counts as often as it is met; a slice's spare places count too). A statement '..UptoSaid' is the law's where the arguments, and the package variables that the reading takes, are together of bulk at most 1048576: NARROWER than '..Said'. Prove '..Said' where nothing that the law and all that it calls make is longer than what came in: it says more and counts as full. Else prove '..UptoSaid'. A law counts once. -/
mutual
def uptoBulk {H : Type} : DataW H → Nat
  | .lit (.string bytes) => bytes.length + 1
  | .lit _ => 1
  | .nil => 1
  | .ptr d => uptoBulk d + 1
  | .slice elems spare => uptoBulkAll elems + uptoBulkAll spare + 1
  | .agg parts => uptoBulkAll parts + 1
  | .iface _ d => uptoBulk d + 1
  | .map entries => uptoBulkEntries entries + 1
  | .held _ => 1
def uptoBulkAll {H : Type} : List (DataW H) → Nat
  | [] => 0
  | d :: r => uptoBulk d + uptoBulkAll r
def uptoBulkEntries {H : Type} : List (Lit × DataW H) → Nat
  | [] => 0
  | x :: r => uptoBulkEntry x + uptoBulkEntries r
def uptoBulkEntry {H : Type} : Lit × DataW H → Nat
  | (.string bytes, d) => bytes.length + uptoBulk d + 1
  | (_, d) => uptoBulk d + 1
 end
def uptoSmall : (H : Type) → List (DataW H) → Bool := fun _ ds => decide (uptoBulkAll ds ≤ 1048576)
def OpenSpec.upto (s : _root_.Go.ChangeSpec) : _root_.Go.OpenSpec := { _root_.Go.OpenSpec.ofChange s with cond := some uptoSmall }

/-- 'filigreelaw10.FacesDual', WHERE WHAT IT READS IS OF BULK AT MOST 1048576: true; the input reads as it did. -/
def facesDualUptoRow : OpenClaim := { program := "ytonfhkdciaiilaa", sum := "a5610538ffbbbf4d0ca399b028f10d01870c50fe3574714aefaab1f64f2256f5", func := "filigree/filigreelaw10.FacesDual", spec := "facesDual", unfollowed := true, recurses := true, plainKeys := false, apart := false, narrowed := true }
def FacesDualUptoSaid : Prop := facesDualUptoRow.holds Try.pinned (OpenSpec.upto facesDualSpec)

/-- 'filigreelaw10.FacesBridges', WHERE WHAT IT READS IS OF BULK AT MOST 1048576: true; the input reads as it did. -/
def facesBridgesUptoRow : OpenClaim := { program := "ytonfhkdciaiilaa", sum := "a5610538ffbbbf4d0ca399b028f10d01870c50fe3574714aefaab1f64f2256f5", func := "filigree/filigreelaw10.FacesBridges", spec := "facesBridges", unfollowed := true, recurses := true, plainKeys := false, apart := false, narrowed := true }
def FacesBridgesUptoSaid : Prop := facesBridgesUptoRow.holds Try.pinned (OpenSpec.upto facesBridgesSpec)

/-- 'filigreelaw10.FacesWhole', WHERE WHAT IT READS IS OF BULK AT MOST 1048576: true; the input reads as it did. -/
def facesWholeUptoRow : OpenClaim := { program := "ytonfhkdciaiilaa", sum := "a5610538ffbbbf4d0ca399b028f10d01870c50fe3574714aefaab1f64f2256f5", func := "filigree/filigreelaw10.FacesWhole", spec := "facesWhole", unfollowed := true, recurses := true, plainKeys := false, apart := false, narrowed := true }
def FacesWholeUptoSaid : Prop := facesWholeUptoRow.holds Try.pinned (OpenSpec.upto facesWholeSpec)

/-- 'filigreelaw10.FacesEuler', WHERE WHAT IT READS IS OF BULK AT MOST 1048576: true; the input reads as it did. -/
def facesEulerUptoRow : OpenClaim := { program := "ytonfhkdciaiilaa", sum := "a5610538ffbbbf4d0ca399b028f10d01870c50fe3574714aefaab1f64f2256f5", func := "filigree/filigreelaw10.FacesEuler", spec := "facesEuler", unfollowed := true, recurses := true, plainKeys := false, apart := false, narrowed := true }
def FacesEulerUptoSaid : Prop := facesEulerUptoRow.holds Try.pinned (OpenSpec.upto facesEulerSpec)

end Rows
end Go.Proofs.Ytonfhkdciaiilaa
