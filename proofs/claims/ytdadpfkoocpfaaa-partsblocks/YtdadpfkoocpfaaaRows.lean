/-
  No cell of these rows narrows 'for every input' (looked for: loops, veiled, ifaces, maps, wideKeys, modest, calm, conditions, laid).
  DERIVED. THE GIVEN ROWS OF THIS SEAT. 5 by the template 'for every input the law returns true; each argument reads behind the call as it read before'; 0 by the template 'total and deterministic' (their statements: YtdadpfkoocpfaaaTotals.lean).
  GIVEN WITH THE SEED: the statements are not yours to turn. If you find one false, say at which input.
  Laid BY PROGRAM, IN A SANDBOX (cutbox-rows.mjs): the forced cells as the released guide's own fill.sh prints them over the translation 0c09bca93cfc337a… (all of the seat's roots in one cut). By AI agents, Wed Nov 11 2026. No macro, syntax, notation, axiom, sorry.
-/
import Derived.Test.YtdadpfkoocpfaaaChecked
import GoSem.Claim
import GoSem.ClaimJoined
import GoSem.ClaimMapViews
import Derived.JoinedTies
import Derived.KernelRfl
namespace Go.Proofs.Ytdadpfkoocpfaaa
/- THE CELL 'sum', in the pinned program and in every row, IS THE sha256 OF THE DUMP (.gsa) THAT YtdadpfkoocpfaaaProg.lean LOADS. Nothing in Lean hashes anything: it is a label: what it is worth is what the hold of that sum in a sandbox is worth. -/
noncomputable def Try.pinned : Pinned := { name := "ytdadpfkoocpfaaa", sum := "0c09bca93cfc337ac64550c005ddd800819c2a223a26aeefe9b30ba82de091c7", checked := Try.checked }
namespace Rows
def none {H : Type} : Left H := { results := [], args := [] }

/-- 'filigreelaw06.PartsComponents': WHATEVER THE INPUT: true; the input reads as it did. -/
def partsComponentsSpec : ChangeSpec := { name := "partsComponents", fn := fun _ => fun
  | [d] => { results := [.lit (.bool true)], args := [d] }
  | _ => none }
def partsComponentsRow : OpenClaim := { program := "ytdadpfkoocpfaaa", sum := "0c09bca93cfc337ac64550c005ddd800819c2a223a26aeefe9b30ba82de091c7", func := "filigree/filigreelaw06.PartsComponents", spec := "partsComponents", unfollowed := true, recurses := true, apart := false }
def PartsComponentsSaid : Prop := partsComponentsRow.holds Try.pinned (OpenSpec.ofChange partsComponentsSpec)

/-- ITS FALSE NEIGHBOUR: 'it returns false'. Refute it at one input. -/
def partsComponentsWrong : ChangeSpec := { name := "partsComponents", fn := fun _ => fun
  | [d] => { results := [.lit (.bool false)], args := [d] }
  | _ => none }
def PartsComponentsWrongFalsely : Prop := partsComponentsRow.holds Try.pinned (OpenSpec.ofChange partsComponentsWrong)

/-- 'filigreelaw06.PartsCuts': WHATEVER THE INPUT: true; the input reads as it did. -/
def partsCutsSpec : ChangeSpec := { name := "partsCuts", fn := fun _ => fun
  | [d] => { results := [.lit (.bool true)], args := [d] }
  | _ => none }
def partsCutsRow : OpenClaim := { program := "ytdadpfkoocpfaaa", sum := "0c09bca93cfc337ac64550c005ddd800819c2a223a26aeefe9b30ba82de091c7", func := "filigree/filigreelaw06.PartsCuts", spec := "partsCuts", unfollowed := true, recurses := true, apart := false }
def PartsCutsSaid : Prop := partsCutsRow.holds Try.pinned (OpenSpec.ofChange partsCutsSpec)

/-- ITS FALSE NEIGHBOUR: 'it returns false'. Refute it at one input. -/
def partsCutsWrong : ChangeSpec := { name := "partsCuts", fn := fun _ => fun
  | [d] => { results := [.lit (.bool false)], args := [d] }
  | _ => none }
def PartsCutsWrongFalsely : Prop := partsCutsRow.holds Try.pinned (OpenSpec.ofChange partsCutsWrong)

/-- 'filigreelaw06.PartsBlocks': WHATEVER THE INPUT: true; the input reads as it did. -/
def partsBlocksSpec : ChangeSpec := { name := "partsBlocks", fn := fun _ => fun
  | [d] => { results := [.lit (.bool true)], args := [d] }
  | _ => none }
def partsBlocksRow : OpenClaim := { program := "ytdadpfkoocpfaaa", sum := "0c09bca93cfc337ac64550c005ddd800819c2a223a26aeefe9b30ba82de091c7", func := "filigree/filigreelaw06.PartsBlocks", spec := "partsBlocks", unfollowed := true, recurses := true, apart := false }
def PartsBlocksSaid : Prop := partsBlocksRow.holds Try.pinned (OpenSpec.ofChange partsBlocksSpec)

/-- ITS FALSE NEIGHBOUR: 'it returns false'. Refute it at one input. -/
def partsBlocksWrong : ChangeSpec := { name := "partsBlocks", fn := fun _ => fun
  | [d] => { results := [.lit (.bool false)], args := [d] }
  | _ => none }
def PartsBlocksWrongFalsely : Prop := partsBlocksRow.holds Try.pinned (OpenSpec.ofChange partsBlocksWrong)

/-- 'filigreelaw06.PartsTwo': WHATEVER THE INPUT: true; the input reads as it did. -/
def partsTwoSpec : ChangeSpec := { name := "partsTwo", fn := fun _ => fun
  | [d] => { results := [.lit (.bool true)], args := [d] }
  | _ => none }
def partsTwoRow : OpenClaim := { program := "ytdadpfkoocpfaaa", sum := "0c09bca93cfc337ac64550c005ddd800819c2a223a26aeefe9b30ba82de091c7", func := "filigree/filigreelaw06.PartsTwo", spec := "partsTwo", unfollowed := true, recurses := true, apart := false }
def PartsTwoSaid : Prop := partsTwoRow.holds Try.pinned (OpenSpec.ofChange partsTwoSpec)

/-- ITS FALSE NEIGHBOUR: 'it returns false'. Refute it at one input. -/
def partsTwoWrong : ChangeSpec := { name := "partsTwo", fn := fun _ => fun
  | [d] => { results := [.lit (.bool false)], args := [d] }
  | _ => none }
def PartsTwoWrongFalsely : Prop := partsTwoRow.holds Try.pinned (OpenSpec.ofChange partsTwoWrong)

/-- 'filigreelaw06.PartsAll': WHATEVER THE INPUT: true; the input reads as it did. -/
def partsAllSpec : ChangeSpec := { name := "partsAll", fn := fun _ => fun
  | [d] => { results := [.lit (.bool true)], args := [d] }
  | _ => none }
def partsAllRow : OpenClaim := { program := "ytdadpfkoocpfaaa", sum := "0c09bca93cfc337ac64550c005ddd800819c2a223a26aeefe9b30ba82de091c7", func := "filigree/filigreelaw06.PartsAll", spec := "partsAll", unfollowed := true, recurses := true, apart := false }
def PartsAllSaid : Prop := partsAllRow.holds Try.pinned (OpenSpec.ofChange partsAllSpec)

/-- ITS FALSE NEIGHBOUR: 'it returns false'. Refute it at one input. -/
def partsAllWrong : ChangeSpec := { name := "partsAll", fn := fun _ => fun
  | [d] => { results := [.lit (.bool false)], args := [d] }
  | _ => none }
def PartsAllWrongFalsely : Prop := partsAllRow.holds Try.pinned (OpenSpec.ofChange partsAllWrong)

/- THE SECOND FORM. 'bulk': how many values and letters a reading holds, each counted each time it is reached (what is shared counts as often as it is met; a slice's spare places count too). A statement '..UptoSaid' is the law's where the arguments, and the package variables that the reading takes, are together of bulk at most 1048576: NARROWER than '..Said'. Prove '..Said' where nothing that the law and all that it calls make is longer than what came in: it says more and counts as full. Else prove '..UptoSaid'. A law counts once. -/
mutual
def uptoBulk {H : Type} : DataW H → Nat
  | .lit (.string bytes) => bytes.length + 1
  | .lit _ => 1
  | .nil => 1
  | .ptr d => uptoBulk d + 1
  | .slice elems spare => uptoBulkAll elems + uptoBulkAll spare + 1
  | .agg parts => uptoBulkAll parts + 1
  | .iface _ d => uptoBulk d + 1
  | .map entries => uptoBulkEntries entries + 1
  | .held _ => 1
def uptoBulkAll {H : Type} : List (DataW H) → Nat
  | [] => 0
  | d :: r => uptoBulk d + uptoBulkAll r
def uptoBulkEntries {H : Type} : List (Lit × DataW H) → Nat
  | [] => 0
  | x :: r => uptoBulkEntry x + uptoBulkEntries r
def uptoBulkEntry {H : Type} : Lit × DataW H → Nat
  | (.string bytes, d) => bytes.length + uptoBulk d + 1
  | (_, d) => uptoBulk d + 1
 end
def uptoSmall : (H : Type) → List (DataW H) → Bool := fun _ ds => decide (uptoBulkAll ds ≤ 1048576)
def OpenSpec.upto (s : _root_.Go.ChangeSpec) : _root_.Go.OpenSpec := { _root_.Go.OpenSpec.ofChange s with cond := some uptoSmall }

/-- 'filigreelaw06.PartsComponents', WHERE WHAT IT READS IS OF BULK AT MOST 1048576: true; the input reads as it did. -/
def partsComponentsUptoRow : OpenClaim := { program := "ytdadpfkoocpfaaa", sum := "0c09bca93cfc337ac64550c005ddd800819c2a223a26aeefe9b30ba82de091c7", func := "filigree/filigreelaw06.PartsComponents", spec := "partsComponents", unfollowed := true, recurses := true, apart := false, narrowed := true }
def PartsComponentsUptoSaid : Prop := partsComponentsUptoRow.holds Try.pinned (OpenSpec.upto partsComponentsSpec)

/-- 'filigreelaw06.PartsCuts', WHERE WHAT IT READS IS OF BULK AT MOST 1048576: true; the input reads as it did. -/
def partsCutsUptoRow : OpenClaim := { program := "ytdadpfkoocpfaaa", sum := "0c09bca93cfc337ac64550c005ddd800819c2a223a26aeefe9b30ba82de091c7", func := "filigree/filigreelaw06.PartsCuts", spec := "partsCuts", unfollowed := true, recurses := true, apart := false, narrowed := true }
def PartsCutsUptoSaid : Prop := partsCutsUptoRow.holds Try.pinned (OpenSpec.upto partsCutsSpec)

/-- 'filigreelaw06.PartsBlocks', WHERE WHAT IT READS IS OF BULK AT MOST 1048576: true; the input reads as it did. -/
def partsBlocksUptoRow : OpenClaim := { program := "ytdadpfkoocpfaaa", sum := "0c09bca93cfc337ac64550c005ddd800819c2a223a26aeefe9b30ba82de091c7", func := "filigree/filigreelaw06.PartsBlocks", spec := "partsBlocks", unfollowed := true, recurses := true, apart := false, narrowed := true }
def PartsBlocksUptoSaid : Prop := partsBlocksUptoRow.holds Try.pinned (OpenSpec.upto partsBlocksSpec)

/-- 'filigreelaw06.PartsTwo', WHERE WHAT IT READS IS OF BULK AT MOST 1048576: true; the input reads as it did. -/
def partsTwoUptoRow : OpenClaim := { program := "ytdadpfkoocpfaaa", sum := "0c09bca93cfc337ac64550c005ddd800819c2a223a26aeefe9b30ba82de091c7", func := "filigree/filigreelaw06.PartsTwo", spec := "partsTwo", unfollowed := true, recurses := true, apart := false, narrowed := true }
def PartsTwoUptoSaid : Prop := partsTwoUptoRow.holds Try.pinned (OpenSpec.upto partsTwoSpec)

/-- 'filigreelaw06.PartsAll', WHERE WHAT IT READS IS OF BULK AT MOST 1048576: true; the input reads as it did. -/
def partsAllUptoRow : OpenClaim := { program := "ytdadpfkoocpfaaa", sum := "0c09bca93cfc337ac64550c005ddd800819c2a223a26aeefe9b30ba82de091c7", func := "filigree/filigreelaw06.PartsAll", spec := "partsAll", unfollowed := true, recurses := true, apart := false, narrowed := true }
def PartsAllUptoSaid : Prop := partsAllUptoRow.holds Try.pinned (OpenSpec.upto partsAllSpec)

end Rows
end Go.Proofs.Ytdadpfkoocpfaaa
