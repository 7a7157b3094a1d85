/-
  No cell of these rows narrows 'for every input' (looked for: loops, veiled, ifaces, maps, wideKeys, modest, calm, conditions, laid).
  DERIVED. THE GIVEN ROWS OF THIS SEAT. 4 by the template 'for every input the law returns true; each argument reads behind the call as it read before'; 0 by the template 'total and deterministic' (their statements: YtgjaikekpgdehaaTotals.lean).
  GIVEN WITH THE SEED: the statements are not yours to turn. If you find one false, say at which input.
  Laid BY PROGRAM, IN A SANDBOX (cutbox-rows.mjs): the forced cells as the released guide's own fill.sh prints them over the translation 7021fa99d805c219… (all of the seat's roots in one cut). By AI agents, Wed Nov 11 2026. No macro, syntax, notation, axiom, sorry.
-/
import Derived.Test.YtgjaikekpgdehaaChecked
import GoSem.Claim
import GoSem.ClaimJoined
import GoSem.ClaimMapViews
import Derived.JoinedTies
import Derived.KernelRfl
namespace Go.Proofs.Ytgjaikekpgdehaa
/- THE CELL 'sum', in the pinned program and in every row, IS THE sha256 OF THE DUMP (.gsa) THAT YtgjaikekpgdehaaProg.lean LOADS. Nothing in Lean hashes anything: it is a label: what it is worth is what the hold of that sum in a sandbox is worth. -/
noncomputable def Try.pinned : Pinned := { name := "ytgjaikekpgdehaa", sum := "7021fa99d805c219245d56e90d126cb3b35b0eb412a22dd7273fd08e21d9d552", checked := Try.checked }
namespace Rows
def none {H : Type} : Left H := { results := [], args := [] }

/-- 'filigreelaw08.KuratowskiWays': WHATEVER THE INPUT: true; the input reads as it did. -/
def kuratowskiWaysSpec : ChangeSpec := { name := "kuratowskiWays", fn := fun _ => fun
  | [d1, d2] => { results := [.lit (.bool true)], args := [d1, d2] }
  | _ => none }
def kuratowskiWaysRow : OpenClaim := { program := "ytgjaikekpgdehaa", sum := "7021fa99d805c219245d56e90d126cb3b35b0eb412a22dd7273fd08e21d9d552", func := "filigree/filigreelaw08.KuratowskiWays", spec := "kuratowskiWays", unfollowed := true, recurses := true, plainKeys := false, apart := false }
def KuratowskiWaysSaid : Prop := kuratowskiWaysRow.holds Try.pinned (OpenSpec.ofChange kuratowskiWaysSpec)

/-- ITS FALSE NEIGHBOUR: 'it returns false'. Refute it at one input. -/
def kuratowskiWaysWrong : ChangeSpec := { name := "kuratowskiWays", fn := fun _ => fun
  | [d1, d2] => { results := [.lit (.bool false)], args := [d1, d2] }
  | _ => none }
def KuratowskiWaysWrongFalsely : Prop := kuratowskiWaysRow.holds Try.pinned (OpenSpec.ofChange kuratowskiWaysWrong)

/-- 'filigreelaw08.KuratowskiClass': WHATEVER THE INPUT: true; the input reads as it did. -/
def kuratowskiClassSpec : ChangeSpec := { name := "kuratowskiClass", fn := fun _ => fun
  | [d1, d2] => { results := [.lit (.bool true)], args := [d1, d2] }
  | _ => none }
def kuratowskiClassRow : OpenClaim := { program := "ytgjaikekpgdehaa", sum := "7021fa99d805c219245d56e90d126cb3b35b0eb412a22dd7273fd08e21d9d552", func := "filigree/filigreelaw08.KuratowskiClass", spec := "kuratowskiClass", unfollowed := true, recurses := true, plainKeys := false, apart := false }
def KuratowskiClassSaid : Prop := kuratowskiClassRow.holds Try.pinned (OpenSpec.ofChange kuratowskiClassSpec)

/-- ITS FALSE NEIGHBOUR: 'it returns false'. Refute it at one input. -/
def kuratowskiClassWrong : ChangeSpec := { name := "kuratowskiClass", fn := fun _ => fun
  | [d1, d2] => { results := [.lit (.bool false)], args := [d1, d2] }
  | _ => none }
def KuratowskiClassWrongFalsely : Prop := kuratowskiClassRow.holds Try.pinned (OpenSpec.ofChange kuratowskiClassWrong)

/-- 'filigreelaw08.KuratowskiLeast': WHATEVER THE INPUT: true; the input reads as it did. -/
def kuratowskiLeastSpec : ChangeSpec := { name := "kuratowskiLeast", fn := fun _ => fun
  | [d1, d2, d3, d4] => { results := [.lit (.bool true)], args := [d1, d2, d3, d4] }
  | _ => none }
def kuratowskiLeastRow : OpenClaim := { program := "ytgjaikekpgdehaa", sum := "7021fa99d805c219245d56e90d126cb3b35b0eb412a22dd7273fd08e21d9d552", func := "filigree/filigreelaw08.KuratowskiLeast", spec := "kuratowskiLeast", unfollowed := true, recurses := true, plainKeys := false, apart := false }
def KuratowskiLeastSaid : Prop := kuratowskiLeastRow.holds Try.pinned (OpenSpec.ofChange kuratowskiLeastSpec)

/-- ITS FALSE NEIGHBOUR: 'it returns false'. Refute it at one input. -/
def kuratowskiLeastWrong : ChangeSpec := { name := "kuratowskiLeast", fn := fun _ => fun
  | [d1, d2, d3, d4] => { results := [.lit (.bool false)], args := [d1, d2, d3, d4] }
  | _ => none }
def KuratowskiLeastWrongFalsely : Prop := kuratowskiLeastRow.holds Try.pinned (OpenSpec.ofChange kuratowskiLeastWrong)

/-- 'filigreelaw08.KuratowskiLonger': WHATEVER THE INPUT: true; the input reads as it did. -/
def kuratowskiLongerSpec : ChangeSpec := { name := "kuratowskiLonger", fn := fun _ => fun
  | [d1, d2, d3] => { results := [.lit (.bool true)], args := [d1, d2, d3] }
  | _ => none }
def kuratowskiLongerRow : OpenClaim := { program := "ytgjaikekpgdehaa", sum := "7021fa99d805c219245d56e90d126cb3b35b0eb412a22dd7273fd08e21d9d552", func := "filigree/filigreelaw08.KuratowskiLonger", spec := "kuratowskiLonger", unfollowed := true, recurses := true, plainKeys := false, apart := false }
def KuratowskiLongerSaid : Prop := kuratowskiLongerRow.holds Try.pinned (OpenSpec.ofChange kuratowskiLongerSpec)

/-- ITS FALSE NEIGHBOUR: 'it returns false'. Refute it at one input. -/
def kuratowskiLongerWrong : ChangeSpec := { name := "kuratowskiLonger", fn := fun _ => fun
  | [d1, d2, d3] => { results := [.lit (.bool false)], args := [d1, d2, d3] }
  | _ => none }
def KuratowskiLongerWrongFalsely : Prop := kuratowskiLongerRow.holds Try.pinned (OpenSpec.ofChange kuratowskiLongerWrong)

/- THE SECOND FORM. 'bulk': how many values and letters a reading holds, each counted each time it is reached (what is shared counts as often as it is met; a slice's spare places count too). A statement '..UptoSaid' is the law's where the arguments, and the package variables that the reading takes, are together of bulk at most 1048576: NARROWER than '..Said'. Prove '..Said' where nothing that the law and all that it calls make is longer than what came in: it says more and counts as full. Else prove '..UptoSaid'. A law counts once. -/
mutual
def uptoBulk {H : Type} : DataW H → Nat
  | .lit (.string bytes) => bytes.length + 1
  | .lit _ => 1
  | .nil => 1
  | .ptr d => uptoBulk d + 1
  | .slice elems spare => uptoBulkAll elems + uptoBulkAll spare + 1
  | .agg parts => uptoBulkAll parts + 1
  | .iface _ d => uptoBulk d + 1
  | .map entries => uptoBulkEntries entries + 1
  | .held _ => 1
def uptoBulkAll {H : Type} : List (DataW H) → Nat
  | [] => 0
  | d :: r => uptoBulk d + uptoBulkAll r
def uptoBulkEntries {H : Type} : List (Lit × DataW H) → Nat
  | [] => 0
  | x :: r => uptoBulkEntry x + uptoBulkEntries r
def uptoBulkEntry {H : Type} : Lit × DataW H → Nat
  | (.string bytes, d) => bytes.length + uptoBulk d + 1
  | (_, d) => uptoBulk d + 1
 end
def uptoSmall : (H : Type) → List (DataW H) → Bool := fun _ ds => decide (uptoBulkAll ds ≤ 1048576)
def OpenSpec.upto (s : _root_.Go.ChangeSpec) : _root_.Go.OpenSpec := { _root_.Go.OpenSpec.ofChange s with cond := some uptoSmall }

/-- 'filigreelaw08.KuratowskiWays', WHERE WHAT IT READS IS OF BULK AT MOST 1048576: true; the input reads as it did. -/
def kuratowskiWaysUptoRow : OpenClaim := { program := "ytgjaikekpgdehaa", sum := "7021fa99d805c219245d56e90d126cb3b35b0eb412a22dd7273fd08e21d9d552", func := "filigree/filigreelaw08.KuratowskiWays", spec := "kuratowskiWays", unfollowed := true, recurses := true, plainKeys := false, apart := false, narrowed := true }
def KuratowskiWaysUptoSaid : Prop := kuratowskiWaysUptoRow.holds Try.pinned (OpenSpec.upto kuratowskiWaysSpec)

/-- 'filigreelaw08.KuratowskiClass', WHERE WHAT IT READS IS OF BULK AT MOST 1048576: true; the input reads as it did. -/
def kuratowskiClassUptoRow : OpenClaim := { program := "ytgjaikekpgdehaa", sum := "7021fa99d805c219245d56e90d126cb3b35b0eb412a22dd7273fd08e21d9d552", func := "filigree/filigreelaw08.KuratowskiClass", spec := "kuratowskiClass", unfollowed := true, recurses := true, plainKeys := false, apart := false, narrowed := true }
def KuratowskiClassUptoSaid : Prop := kuratowskiClassUptoRow.holds Try.pinned (OpenSpec.upto kuratowskiClassSpec)

/-- 'filigreelaw08.KuratowskiLeast', WHERE WHAT IT READS IS OF BULK AT MOST 1048576: true; the input reads as it did. -/
def kuratowskiLeastUptoRow : OpenClaim := { program := "ytgjaikekpgdehaa", sum := "7021fa99d805c219245d56e90d126cb3b35b0eb412a22dd7273fd08e21d9d552", func := "filigree/filigreelaw08.KuratowskiLeast", spec := "kuratowskiLeast", unfollowed := true, recurses := true, plainKeys := false, apart := false, narrowed := true }
def KuratowskiLeastUptoSaid : Prop := kuratowskiLeastUptoRow.holds Try.pinned (OpenSpec.upto kuratowskiLeastSpec)

/-- 'filigreelaw08.KuratowskiLonger', WHERE WHAT IT READS IS OF BULK AT MOST 1048576: true; the input reads as it did. -/
def kuratowskiLongerUptoRow : OpenClaim := { program := "ytgjaikekpgdehaa", sum := "7021fa99d805c219245d56e90d126cb3b35b0eb412a22dd7273fd08e21d9d552", func := "filigree/filigreelaw08.KuratowskiLonger", spec := "kuratowskiLonger", unfollowed := true, recurses := true, plainKeys := false, apart := false, narrowed := true }
def KuratowskiLongerUptoSaid : Prop := kuratowskiLongerUptoRow.holds Try.pinned (OpenSpec.upto kuratowskiLongerSpec)

end Rows
end Go.Proofs.Ytgjaikekpgdehaa
