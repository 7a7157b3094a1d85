/-
  The walk of parts, as a function over lists: what walked learns. No program in this text.
-/
import Derived.ProofKit
import Derived.Test.YtdgecflljgnobaaXPGather
namespace Go.Proofs.Ytdgecflljgnobaa
open Go Go.Proofs

/-- The links of a vertex: the other end and the place, in the edges' order. -/
def linkOf (v : Int) : Nat → List Ed → List (Int × Int)
  | _, [] => []
  | p, e :: l => (if e.1 = v then [(e.2.1, (p : Int))] else if e.2.1 = v then [(e.1, (p : Int))] else []) ++ linkOf v (p + 1) l
def linksL (N : Nat) (l : List Ed) : List (List (Int × Int)) := (List.range N).map fun (v : Nat) => linkOf (v : Int) 0 l
/-- A vertex on the way: it, the edge that led there, which link is next, the least depth that is led back to, how many edges were open. -/
structure Stp where
  v : Int
  by_ : Int
  next : Nat
  low : Int
  opn : Nat
structure WS where
  root : List Int
  from_ : List Int
  depth : List Int
  block : List Int
  path : List Stp
  opn : List Int
def at_ (l : List Int) (v : Int) : Int := l.getD v.toNat 0
/-- look: a link of the vertex on top, whose next one has been counted up. -/
def lookW (s : WS) (init : List Stp) (top : Stp) (lk : Int × Int) : WS :=
  if at_ s.depth lk.1 < 0 then { s with root := s.root.set lk.1.toNat (at_ s.root top.v), from_ := s.from_.set lk.1.toNat top.v, depth := s.depth.set lk.1.toNat (at_ s.depth top.v + 1), path := init ++ [top] ++ [⟨lk.1, lk.2, 0, at_ s.depth top.v, s.opn.length⟩] }
  else if at_ s.depth lk.1 < at_ s.depth top.v then { s with path := init ++ [{ top with low := min top.low (at_ s.depth lk.1) }], opn := s.opn ++ [lk.2] }
  else { s with path := init ++ [top] }
/-- leave: back from the vertex on top. -/
def leaveW (s : WS) (init : List Stp) (last : Stp) : WS :=
  match init.getLast? with
  | none => { s with path := [] }
  | some top => if last.low < at_ s.depth top.v then { s with path := init.dropLast ++ [{ top with low := min top.low last.low }] }
    else { s with path := init, block := (s.opn.drop last.opn).foldl (fun b p => b.set p.toNat last.by_) s.block, opn := s.opn.take last.opn }
def stepW (lk : List (List (Int × Int))) (s : WS) : WS :=
  match s.path.getLast? with
  | none => s
  | some top => if top.next = (lk.getD top.v.toNat []).length then leaveW s s.path.dropLast top else lookW s s.path.dropLast { top with next := top.next + 1 } ((lk.getD top.v.toNat []).getD top.next (0, 0))
def runW (lk : List (List (Int × Int))) : Nat → WS → WS
  | 0, s => s
  | k + 1, s => runW lk k (stepW lk s)
/-- start: over the component of a vertex that has not been seen. -/
def startW (lk : List (List (Int × Int))) (fuel : Nat) (s : WS) (r : Nat) : WS :=
  if 0 ≤ s.depth.getD r 0 then s else runW lk fuel { s with root := s.root.set r (r : Int), from_ := s.from_.set r (-1), depth := s.depth.set r 0, path := s.path ++ [⟨(r : Int), -1, 0, 0, 0⟩] }
def freshW (N M : Nat) : WS := ⟨List.replicate N 0, List.replicate N 0, List.replicate N (-1), List.replicate M 0, [], []⟩
def walkW (N : Nat) (l : List Ed) : WS := (List.range N).foldl (startW (linksL N l) (4 * (N + l.length) + 4)) (freshW N l.length)

/-- The chapter's example. -/
def exE : List Ed := [(0, 1, 0), (0, 2, 0), (1, 2, 0), (2, 3, 0), (2, 4, 0), (3, 4, 0)]
theorem ex_root : (walkW 5 exE).root = [0, 0, 0, 0, 0] := by kernel_rfl
theorem ex_block : (walkW 5 exE).block = [0, 0, 0, 3, 3, 3] := by kernel_rfl
end Go.Proofs.Ytdgecflljgnobaa
