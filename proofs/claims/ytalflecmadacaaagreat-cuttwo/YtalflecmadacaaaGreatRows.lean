/-
  No cell of these rows narrows 'for every input' (looked for: loops, veiled, ifaces, maps, wideKeys, modest, calm, conditions, laid).
  DERIVED. THE GIVEN ROWS OF THIS SEAT. 6 by the template 'for every input the law returns true; each argument reads behind the call as it read before'; 0 by the template 'total and deterministic' (their statements: YtalflecmadacaaaGreatTotals.lean).
  GIVEN WITH THE SEED: the statements are not yours to turn. If you find one false, say at which input.
  Laid BY PROGRAM, IN A SANDBOX (cutbox-rows.mjs): the forced cells as the released guide's own fill.sh prints them over the translation 949c24996aa089b7… (all of the seat's roots in one cut). By AI agents, Wed Nov 11 2026. No macro, syntax, notation, axiom, sorry.
-/
import Derived.Test.YtalflecmadacaaaGreatChecked
import GoSem.Claim
import GoSem.ClaimJoined
import GoSem.ClaimMapViews
import Derived.JoinedTies
import Derived.KernelRfl
namespace Go.Proofs.YtalflecmadacaaaGreat
/- THE CELL 'sum', in the pinned program and in every row, IS THE sha256 OF THE DUMP (.gsa) THAT YtalflecmadacaaaGreatProg.lean LOADS. Nothing in Lean hashes anything: it is a label: what it is worth is what the hold of that sum in a sandbox is worth. -/
noncomputable def Tryz.pinned : Pinned := { name := "ytalflecmadacaaagreat", sum := "949c24996aa089b785af397ddeabe4acbfb472f519f9621e1751115e2f39d994", checked := Tryz.checked }
namespace Rows
def none {H : Type} : Left H := { results := [], args := [] }

/-- 'filigreelaw15.CutWeights': WHATEVER THE INPUT: true; the input reads as it did. -/
def cutWeightsSpec : ChangeSpec := { name := "cutWeights", fn := fun _ => fun
  | [d1, d2] => { results := [.lit (.bool true)], args := [d1, d2] }
  | _ => none }
def cutWeightsRow : OpenClaim := { program := "ytalflecmadacaaagreat", sum := "949c24996aa089b785af397ddeabe4acbfb472f519f9621e1751115e2f39d994", func := "filigree/filigreelaw15.CutWeights", spec := "cutWeights", unfollowed := true, recurses := true, plainKeys := false, apart := false }
def CutWeightsSaid : Prop := cutWeightsRow.holds Tryz.pinned (OpenSpec.ofChange cutWeightsSpec)

/-- ITS FALSE NEIGHBOUR: 'it returns false'. Refute it at one input. -/
def cutWeightsWrong : ChangeSpec := { name := "cutWeights", fn := fun _ => fun
  | [d1, d2] => { results := [.lit (.bool false)], args := [d1, d2] }
  | _ => none }
def CutWeightsWrongFalsely : Prop := cutWeightsRow.holds Tryz.pinned (OpenSpec.ofChange cutWeightsWrong)

/-- 'filigreelaw15.CutMost': WHATEVER THE INPUT: true; the input reads as it did. -/
def cutMostSpec : ChangeSpec := { name := "cutMost", fn := fun _ => fun
  | [d1, d2] => { results := [.lit (.bool true)], args := [d1, d2] }
  | _ => none }
def cutMostRow : OpenClaim := { program := "ytalflecmadacaaagreat", sum := "949c24996aa089b785af397ddeabe4acbfb472f519f9621e1751115e2f39d994", func := "filigree/filigreelaw15.CutMost", spec := "cutMost", unfollowed := true, recurses := true, plainKeys := false, apart := false }
def CutMostSaid : Prop := cutMostRow.holds Tryz.pinned (OpenSpec.ofChange cutMostSpec)

/-- ITS FALSE NEIGHBOUR: 'it returns false'. Refute it at one input. -/
def cutMostWrong : ChangeSpec := { name := "cutMost", fn := fun _ => fun
  | [d1, d2] => { results := [.lit (.bool false)], args := [d1, d2] }
  | _ => none }
def CutMostWrongFalsely : Prop := cutMostRow.holds Tryz.pinned (OpenSpec.ofChange cutMostWrong)

/-- 'filigreelaw15.CutGreat': WHATEVER THE INPUT: true; the input reads as it did. -/
def cutGreatSpec : ChangeSpec := { name := "cutGreat", fn := fun _ => fun
  | [d1, d2, d3] => { results := [.lit (.bool true)], args := [d1, d2, d3] }
  | _ => none }
def cutGreatRow : OpenClaim := { program := "ytalflecmadacaaagreat", sum := "949c24996aa089b785af397ddeabe4acbfb472f519f9621e1751115e2f39d994", func := "filigree/filigreelaw15.CutGreat", spec := "cutGreat", unfollowed := true, recurses := true, plainKeys := false, apart := false }
def CutGreatSaid : Prop := cutGreatRow.holds Tryz.pinned (OpenSpec.ofChange cutGreatSpec)

/-- ITS FALSE NEIGHBOUR: 'it returns false'. Refute it at one input. -/
def cutGreatWrong : ChangeSpec := { name := "cutGreat", fn := fun _ => fun
  | [d1, d2, d3] => { results := [.lit (.bool false)], args := [d1, d2, d3] }
  | _ => none }
def CutGreatWrongFalsely : Prop := cutGreatRow.holds Tryz.pinned (OpenSpec.ofChange cutGreatWrong)

/-- 'filigreelaw15.CutBounds': WHATEVER THE INPUT: true; the input reads as it did. -/
def cutBoundsSpec : ChangeSpec := { name := "cutBounds", fn := fun _ => fun
  | [d] => { results := [.lit (.bool true)], args := [d] }
  | _ => none }
def cutBoundsRow : OpenClaim := { program := "ytalflecmadacaaagreat", sum := "949c24996aa089b785af397ddeabe4acbfb472f519f9621e1751115e2f39d994", func := "filigree/filigreelaw15.CutBounds", spec := "cutBounds", unfollowed := true, recurses := true, plainKeys := false, apart := false }
def CutBoundsSaid : Prop := cutBoundsRow.holds Tryz.pinned (OpenSpec.ofChange cutBoundsSpec)

/-- ITS FALSE NEIGHBOUR: 'it returns false'. Refute it at one input. -/
def cutBoundsWrong : ChangeSpec := { name := "cutBounds", fn := fun _ => fun
  | [d] => { results := [.lit (.bool false)], args := [d] }
  | _ => none }
def CutBoundsWrongFalsely : Prop := cutBoundsRow.holds Tryz.pinned (OpenSpec.ofChange cutBoundsWrong)

/-- 'filigreelaw15.CutHalf': WHATEVER THE INPUT: true; the input reads as it did. -/
def cutHalfSpec : ChangeSpec := { name := "cutHalf", fn := fun _ => fun
  | [d1, d2] => { results := [.lit (.bool true)], args := [d1, d2] }
  | _ => none }
def cutHalfRow : OpenClaim := { program := "ytalflecmadacaaagreat", sum := "949c24996aa089b785af397ddeabe4acbfb472f519f9621e1751115e2f39d994", func := "filigree/filigreelaw15.CutHalf", spec := "cutHalf", unfollowed := true, recurses := true, plainKeys := false, apart := false }
def CutHalfSaid : Prop := cutHalfRow.holds Tryz.pinned (OpenSpec.ofChange cutHalfSpec)

/-- ITS FALSE NEIGHBOUR: 'it returns false'. Refute it at one input. -/
def cutHalfWrong : ChangeSpec := { name := "cutHalf", fn := fun _ => fun
  | [d1, d2] => { results := [.lit (.bool false)], args := [d1, d2] }
  | _ => none }
def CutHalfWrongFalsely : Prop := cutHalfRow.holds Tryz.pinned (OpenSpec.ofChange cutHalfWrong)

/-- 'filigreelaw15.CutTwo': WHATEVER THE INPUT: true; the input reads as it did. -/
def cutTwoSpec : ChangeSpec := { name := "cutTwo", fn := fun _ => fun
  | [d1, d2, d3] => { results := [.lit (.bool true)], args := [d1, d2, d3] }
  | _ => none }
def cutTwoRow : OpenClaim := { program := "ytalflecmadacaaagreat", sum := "949c24996aa089b785af397ddeabe4acbfb472f519f9621e1751115e2f39d994", func := "filigree/filigreelaw15.CutTwo", spec := "cutTwo", unfollowed := true, recurses := true, plainKeys := false, apart := false }
def CutTwoSaid : Prop := cutTwoRow.holds Tryz.pinned (OpenSpec.ofChange cutTwoSpec)

/-- ITS FALSE NEIGHBOUR: 'it returns false'. Refute it at one input. -/
def cutTwoWrong : ChangeSpec := { name := "cutTwo", fn := fun _ => fun
  | [d1, d2, d3] => { results := [.lit (.bool false)], args := [d1, d2, d3] }
  | _ => none }
def CutTwoWrongFalsely : Prop := cutTwoRow.holds Tryz.pinned (OpenSpec.ofChange cutTwoWrong)

/- THE SECOND FORM. 'bulk': how many values and letters a reading holds, each counted each time it is reached (what is shared counts as often as it is met; a slice's spare places count too). A statement '..UptoSaid' is the law's where the arguments, and the package variables that the reading takes, are together of bulk at most 1048576: NARROWER than '..Said'. Prove '..Said' where nothing that the law and all that it calls make is longer than what came in: it says more and counts as full. Else prove '..UptoSaid'. A law counts once. -/
mutual
def uptoBulk {H : Type} : DataW H → Nat
  | .lit (.string bytes) => bytes.length + 1
  | .lit _ => 1
  | .nil => 1
  | .ptr d => uptoBulk d + 1
  | .slice elems spare => uptoBulkAll elems + uptoBulkAll spare + 1
  | .agg parts => uptoBulkAll parts + 1
  | .iface _ d => uptoBulk d + 1
  | .map entries => uptoBulkEntries entries + 1
  | .held _ => 1
def uptoBulkAll {H : Type} : List (DataW H) → Nat
  | [] => 0
  | d :: r => uptoBulk d + uptoBulkAll r
def uptoBulkEntries {H : Type} : List (Lit × DataW H) → Nat
  | [] => 0
  | x :: r => uptoBulkEntry x + uptoBulkEntries r
def uptoBulkEntry {H : Type} : Lit × DataW H → Nat
  | (.string bytes, d) => bytes.length + uptoBulk d + 1
  | (_, d) => uptoBulk d + 1
 end
def uptoSmall : (H : Type) → List (DataW H) → Bool := fun _ ds => decide (uptoBulkAll ds ≤ 1048576)
def OpenSpec.upto (s : _root_.Go.ChangeSpec) : _root_.Go.OpenSpec := { _root_.Go.OpenSpec.ofChange s with cond := some uptoSmall }

/-- 'filigreelaw15.CutWeights', WHERE WHAT IT READS IS OF BULK AT MOST 1048576: true; the input reads as it did. -/
def cutWeightsUptoRow : OpenClaim := { program := "ytalflecmadacaaagreat", sum := "949c24996aa089b785af397ddeabe4acbfb472f519f9621e1751115e2f39d994", func := "filigree/filigreelaw15.CutWeights", spec := "cutWeights", unfollowed := true, recurses := true, plainKeys := false, apart := false, narrowed := true }
def CutWeightsUptoSaid : Prop := cutWeightsUptoRow.holds Tryz.pinned (OpenSpec.upto cutWeightsSpec)

/-- 'filigreelaw15.CutMost', WHERE WHAT IT READS IS OF BULK AT MOST 1048576: true; the input reads as it did. -/
def cutMostUptoRow : OpenClaim := { program := "ytalflecmadacaaagreat", sum := "949c24996aa089b785af397ddeabe4acbfb472f519f9621e1751115e2f39d994", func := "filigree/filigreelaw15.CutMost", spec := "cutMost", unfollowed := true, recurses := true, plainKeys := false, apart := false, narrowed := true }
def CutMostUptoSaid : Prop := cutMostUptoRow.holds Tryz.pinned (OpenSpec.upto cutMostSpec)

/-- 'filigreelaw15.CutGreat', WHERE WHAT IT READS IS OF BULK AT MOST 1048576: true; the input reads as it did. -/
def cutGreatUptoRow : OpenClaim := { program := "ytalflecmadacaaagreat", sum := "949c24996aa089b785af397ddeabe4acbfb472f519f9621e1751115e2f39d994", func := "filigree/filigreelaw15.CutGreat", spec := "cutGreat", unfollowed := true, recurses := true, plainKeys := false, apart := false, narrowed := true }
def CutGreatUptoSaid : Prop := cutGreatUptoRow.holds Tryz.pinned (OpenSpec.upto cutGreatSpec)

/-- 'filigreelaw15.CutBounds', WHERE WHAT IT READS IS OF BULK AT MOST 1048576: true; the input reads as it did. -/
def cutBoundsUptoRow : OpenClaim := { program := "ytalflecmadacaaagreat", sum := "949c24996aa089b785af397ddeabe4acbfb472f519f9621e1751115e2f39d994", func := "filigree/filigreelaw15.CutBounds", spec := "cutBounds", unfollowed := true, recurses := true, plainKeys := false, apart := false, narrowed := true }
def CutBoundsUptoSaid : Prop := cutBoundsUptoRow.holds Tryz.pinned (OpenSpec.upto cutBoundsSpec)

/-- 'filigreelaw15.CutHalf', WHERE WHAT IT READS IS OF BULK AT MOST 1048576: true; the input reads as it did. -/
def cutHalfUptoRow : OpenClaim := { program := "ytalflecmadacaaagreat", sum := "949c24996aa089b785af397ddeabe4acbfb472f519f9621e1751115e2f39d994", func := "filigree/filigreelaw15.CutHalf", spec := "cutHalf", unfollowed := true, recurses := true, plainKeys := false, apart := false, narrowed := true }
def CutHalfUptoSaid : Prop := cutHalfUptoRow.holds Tryz.pinned (OpenSpec.upto cutHalfSpec)

/-- 'filigreelaw15.CutTwo', WHERE WHAT IT READS IS OF BULK AT MOST 1048576: true; the input reads as it did. -/
def cutTwoUptoRow : OpenClaim := { program := "ytalflecmadacaaagreat", sum := "949c24996aa089b785af397ddeabe4acbfb472f519f9621e1751115e2f39d994", func := "filigree/filigreelaw15.CutTwo", spec := "cutTwo", unfollowed := true, recurses := true, plainKeys := false, apart := false, narrowed := true }
def CutTwoUptoSaid : Prop := cutTwoUptoRow.holds Tryz.pinned (OpenSpec.upto cutTwoSpec)

end Rows
end Go.Proofs.YtalflecmadacaaaGreat
