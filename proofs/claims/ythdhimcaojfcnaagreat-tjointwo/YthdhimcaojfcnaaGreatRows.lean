/-
  No cell of these rows narrows 'for every input' (looked for: loops, veiled, ifaces, maps, wideKeys, modest, calm, conditions, laid).
  DERIVED. THE GIVEN ROWS OF THIS SEAT. 5 by the template 'for every input the law returns true; each argument reads behind the call as it read before'; 0 by the template 'total and deterministic' (their statements: YthdhimcaojfcnaaGreatTotals.lean).
  GIVEN WITH THE SEED: the statements are not yours to turn. If you find one false, say at which input.
  Laid BY PROGRAM, IN A SANDBOX (cutbox-rows.mjs): the forced cells as the released guide's own fill.sh prints them over the translation 77fa1206a0b642b6… (all of the seat's roots in one cut). By AI agents, Wed Nov 11 2026. No macro, syntax, notation, axiom, sorry.
-/
import Derived.Test.YthdhimcaojfcnaaGreatChecked
import GoSem.Claim
import GoSem.ClaimJoined
import GoSem.ClaimMapViews
import Derived.JoinedTies
import Derived.KernelRfl
namespace Go.Proofs.YthdhimcaojfcnaaGreat
/- THE CELL 'sum', in the pinned program and in every row, IS THE sha256 OF THE DUMP (.gsa) THAT YthdhimcaojfcnaaGreatProg.lean LOADS. Nothing in Lean hashes anything: it is a label: what it is worth is what the hold of that sum in a sandbox is worth. -/
noncomputable def Tryz.pinned : Pinned := { name := "ythdhimcaojfcnaagreat", sum := "77fa1206a0b642b6ee09b714b4e1bbbb59511629ac2b4ce3f25b055f8ab4afd3", checked := Tryz.checked }
namespace Rows
def none {H : Type} : Left H := { results := [], args := [] }

/-- 'filigreelaw14.TjoinChecks': WHATEVER THE INPUT: true; the input reads as it did. -/
def tjoinChecksSpec : ChangeSpec := { name := "tjoinChecks", fn := fun _ => fun
  | [d1, d2, d3] => { results := [.lit (.bool true)], args := [d1, d2, d3] }
  | _ => none }
def tjoinChecksRow : OpenClaim := { program := "ythdhimcaojfcnaagreat", sum := "77fa1206a0b642b6ee09b714b4e1bbbb59511629ac2b4ce3f25b055f8ab4afd3", func := "filigree/filigreelaw14.TjoinChecks", spec := "tjoinChecks", unfollowed := true, recurses := true, apart := false }
def TjoinChecksSaid : Prop := tjoinChecksRow.holds Tryz.pinned (OpenSpec.ofChange tjoinChecksSpec)

/-- ITS FALSE NEIGHBOUR: 'it returns false'. Refute it at one input. -/
def tjoinChecksWrong : ChangeSpec := { name := "tjoinChecks", fn := fun _ => fun
  | [d1, d2, d3] => { results := [.lit (.bool false)], args := [d1, d2, d3] }
  | _ => none }
def TjoinChecksWrongFalsely : Prop := tjoinChecksRow.holds Tryz.pinned (OpenSpec.ofChange tjoinChecksWrong)

/-- 'filigreelaw14.TjoinLeast': WHATEVER THE INPUT: true; the input reads as it did. -/
def tjoinLeastSpec : ChangeSpec := { name := "tjoinLeast", fn := fun _ => fun
  | [d1, d2] => { results := [.lit (.bool true)], args := [d1, d2] }
  | _ => none }
def tjoinLeastRow : OpenClaim := { program := "ythdhimcaojfcnaagreat", sum := "77fa1206a0b642b6ee09b714b4e1bbbb59511629ac2b4ce3f25b055f8ab4afd3", func := "filigree/filigreelaw14.TjoinLeast", spec := "tjoinLeast", unfollowed := true, recurses := true, apart := false }
def TjoinLeastSaid : Prop := tjoinLeastRow.holds Tryz.pinned (OpenSpec.ofChange tjoinLeastSpec)

/-- ITS FALSE NEIGHBOUR: 'it returns false'. Refute it at one input. -/
def tjoinLeastWrong : ChangeSpec := { name := "tjoinLeast", fn := fun _ => fun
  | [d1, d2] => { results := [.lit (.bool false)], args := [d1, d2] }
  | _ => none }
def TjoinLeastWrongFalsely : Prop := tjoinLeastRow.holds Tryz.pinned (OpenSpec.ofChange tjoinLeastWrong)

/-- 'filigreelaw14.TjoinGreat': WHATEVER THE INPUT: true; the input reads as it did. -/
def tjoinGreatSpec : ChangeSpec := { name := "tjoinGreat", fn := fun _ => fun
  | [d1, d2, d3] => { results := [.lit (.bool true)], args := [d1, d2, d3] }
  | _ => none }
def tjoinGreatRow : OpenClaim := { program := "ythdhimcaojfcnaagreat", sum := "77fa1206a0b642b6ee09b714b4e1bbbb59511629ac2b4ce3f25b055f8ab4afd3", func := "filigree/filigreelaw14.TjoinGreat", spec := "tjoinGreat", unfollowed := true, recurses := true, apart := false }
def TjoinGreatSaid : Prop := tjoinGreatRow.holds Tryz.pinned (OpenSpec.ofChange tjoinGreatSpec)

/-- ITS FALSE NEIGHBOUR: 'it returns false'. Refute it at one input. -/
def tjoinGreatWrong : ChangeSpec := { name := "tjoinGreat", fn := fun _ => fun
  | [d1, d2, d3] => { results := [.lit (.bool false)], args := [d1, d2, d3] }
  | _ => none }
def TjoinGreatWrongFalsely : Prop := tjoinGreatRow.holds Tryz.pinned (OpenSpec.ofChange tjoinGreatWrong)

/-- 'filigreelaw14.TjoinTwo': WHATEVER THE INPUT: true; the input reads as it did. -/
def tjoinTwoSpec : ChangeSpec := { name := "tjoinTwo", fn := fun _ => fun
  | [d1, d2, d3] => { results := [.lit (.bool true)], args := [d1, d2, d3] }
  | _ => none }
def tjoinTwoRow : OpenClaim := { program := "ythdhimcaojfcnaagreat", sum := "77fa1206a0b642b6ee09b714b4e1bbbb59511629ac2b4ce3f25b055f8ab4afd3", func := "filigree/filigreelaw14.TjoinTwo", spec := "tjoinTwo", unfollowed := true, recurses := true, apart := false }
def TjoinTwoSaid : Prop := tjoinTwoRow.holds Tryz.pinned (OpenSpec.ofChange tjoinTwoSpec)

/-- ITS FALSE NEIGHBOUR: 'it returns false'. Refute it at one input. -/
def tjoinTwoWrong : ChangeSpec := { name := "tjoinTwo", fn := fun _ => fun
  | [d1, d2, d3] => { results := [.lit (.bool false)], args := [d1, d2, d3] }
  | _ => none }
def TjoinTwoWrongFalsely : Prop := tjoinTwoRow.holds Tryz.pinned (OpenSpec.ofChange tjoinTwoWrong)

/-- 'filigreelaw14.TjoinTurn': WHATEVER THE INPUT: true; the input reads as it did. -/
def tjoinTurnSpec : ChangeSpec := { name := "tjoinTurn", fn := fun _ => fun
  | [d1, d2, d3] => { results := [.lit (.bool true)], args := [d1, d2, d3] }
  | _ => none }
def tjoinTurnRow : OpenClaim := { program := "ythdhimcaojfcnaagreat", sum := "77fa1206a0b642b6ee09b714b4e1bbbb59511629ac2b4ce3f25b055f8ab4afd3", func := "filigree/filigreelaw14.TjoinTurn", spec := "tjoinTurn", unfollowed := true, recurses := true, apart := false }
def TjoinTurnSaid : Prop := tjoinTurnRow.holds Tryz.pinned (OpenSpec.ofChange tjoinTurnSpec)

/-- ITS FALSE NEIGHBOUR: 'it returns false'. Refute it at one input. -/
def tjoinTurnWrong : ChangeSpec := { name := "tjoinTurn", fn := fun _ => fun
  | [d1, d2, d3] => { results := [.lit (.bool false)], args := [d1, d2, d3] }
  | _ => none }
def TjoinTurnWrongFalsely : Prop := tjoinTurnRow.holds Tryz.pinned (OpenSpec.ofChange tjoinTurnWrong)

/- THE SECOND FORM. 'bulk': how many values and letters a reading holds, each counted each time it is reached (what is shared counts as often as it is met; a slice's spare places count too). A statement '..UptoSaid' is the law's where the arguments, and the package variables that the reading takes, are together of bulk at most 1048576: NARROWER than '..Said'. Prove '..Said' where nothing that the law and all that it calls make is longer than what came in: it says more and counts as full. Else prove '..UptoSaid'. A law counts once. -/
mutual
def uptoBulk {H : Type} : DataW H → Nat
  | .lit (.string bytes) => bytes.length + 1
  | .lit _ => 1
  | .nil => 1
  | .ptr d => uptoBulk d + 1
  | .slice elems spare => uptoBulkAll elems + uptoBulkAll spare + 1
  | .agg parts => uptoBulkAll parts + 1
  | .iface _ d => uptoBulk d + 1
  | .map entries => uptoBulkEntries entries + 1
  | .held _ => 1
def uptoBulkAll {H : Type} : List (DataW H) → Nat
  | [] => 0
  | d :: r => uptoBulk d + uptoBulkAll r
def uptoBulkEntries {H : Type} : List (Lit × DataW H) → Nat
  | [] => 0
  | x :: r => uptoBulkEntry x + uptoBulkEntries r
def uptoBulkEntry {H : Type} : Lit × DataW H → Nat
  | (.string bytes, d) => bytes.length + uptoBulk d + 1
  | (_, d) => uptoBulk d + 1
 end
def uptoSmall : (H : Type) → List (DataW H) → Bool := fun _ ds => decide (uptoBulkAll ds ≤ 1048576)
def OpenSpec.upto (s : _root_.Go.ChangeSpec) : _root_.Go.OpenSpec := { _root_.Go.OpenSpec.ofChange s with cond := some uptoSmall }

/-- 'filigreelaw14.TjoinChecks', WHERE WHAT IT READS IS OF BULK AT MOST 1048576: true; the input reads as it did. -/
def tjoinChecksUptoRow : OpenClaim := { program := "ythdhimcaojfcnaagreat", sum := "77fa1206a0b642b6ee09b714b4e1bbbb59511629ac2b4ce3f25b055f8ab4afd3", func := "filigree/filigreelaw14.TjoinChecks", spec := "tjoinChecks", unfollowed := true, recurses := true, apart := false, narrowed := true }
def TjoinChecksUptoSaid : Prop := tjoinChecksUptoRow.holds Tryz.pinned (OpenSpec.upto tjoinChecksSpec)

/-- 'filigreelaw14.TjoinLeast', WHERE WHAT IT READS IS OF BULK AT MOST 1048576: true; the input reads as it did. -/
def tjoinLeastUptoRow : OpenClaim := { program := "ythdhimcaojfcnaagreat", sum := "77fa1206a0b642b6ee09b714b4e1bbbb59511629ac2b4ce3f25b055f8ab4afd3", func := "filigree/filigreelaw14.TjoinLeast", spec := "tjoinLeast", unfollowed := true, recurses := true, apart := false, narrowed := true }
def TjoinLeastUptoSaid : Prop := tjoinLeastUptoRow.holds Tryz.pinned (OpenSpec.upto tjoinLeastSpec)

/-- 'filigreelaw14.TjoinGreat', WHERE WHAT IT READS IS OF BULK AT MOST 1048576: true; the input reads as it did. -/
def tjoinGreatUptoRow : OpenClaim := { program := "ythdhimcaojfcnaagreat", sum := "77fa1206a0b642b6ee09b714b4e1bbbb59511629ac2b4ce3f25b055f8ab4afd3", func := "filigree/filigreelaw14.TjoinGreat", spec := "tjoinGreat", unfollowed := true, recurses := true, apart := false, narrowed := true }
def TjoinGreatUptoSaid : Prop := tjoinGreatUptoRow.holds Tryz.pinned (OpenSpec.upto tjoinGreatSpec)

/-- 'filigreelaw14.TjoinTwo', WHERE WHAT IT READS IS OF BULK AT MOST 1048576: true; the input reads as it did. -/
def tjoinTwoUptoRow : OpenClaim := { program := "ythdhimcaojfcnaagreat", sum := "77fa1206a0b642b6ee09b714b4e1bbbb59511629ac2b4ce3f25b055f8ab4afd3", func := "filigree/filigreelaw14.TjoinTwo", spec := "tjoinTwo", unfollowed := true, recurses := true, apart := false, narrowed := true }
def TjoinTwoUptoSaid : Prop := tjoinTwoUptoRow.holds Tryz.pinned (OpenSpec.upto tjoinTwoSpec)

/-- 'filigreelaw14.TjoinTurn', WHERE WHAT IT READS IS OF BULK AT MOST 1048576: true; the input reads as it did. -/
def tjoinTurnUptoRow : OpenClaim := { program := "ythdhimcaojfcnaagreat", sum := "77fa1206a0b642b6ee09b714b4e1bbbb59511629ac2b4ce3f25b055f8ab4afd3", func := "filigree/filigreelaw14.TjoinTurn", spec := "tjoinTurn", unfollowed := true, recurses := true, apart := false, narrowed := true }
def TjoinTurnUptoSaid : Prop := tjoinTurnUptoRow.holds Tryz.pinned (OpenSpec.upto tjoinTurnSpec)

end Rows
end Go.Proofs.YthdhimcaojfcnaaGreat
