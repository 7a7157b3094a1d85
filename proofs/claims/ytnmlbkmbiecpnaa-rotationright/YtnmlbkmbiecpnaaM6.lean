/-
  The walk of parts, as a function over lists: what walked learns. No program in this text.
-/
import Derived.ProofKit
import Derived.Test.YtnmlbkmbiecpnaaPGather
import Derived.Test.YtnmlbkmbiecpnaaPGrp
import Derived.Deep.QuietTactic
import Derived.BigQuiet
namespace Go.Proofs.Ytnmlbkmbiecpnaa
open Go Go.Proofs

/-- The links of a vertex: the other end and the place, in the edges' order. -/
def linkOf (v : Int) : Nat → List Ed → List (Int × Int)
  | _, [] => []
  | p, e :: l => (if e.1 = v then [(e.2.1, (p : Int))] else if e.2.1 = v then [(e.1, (p : Int))] else []) ++ linkOf v (p + 1) l
def linksL (N : Nat) (l : List Ed) : List (List (Int × Int)) := (List.range N).map fun (v : Nat) => linkOf (v : Int) 0 l
/-- A vertex on the way: it, the edge that led there, which link is next, the least depth that is led back to, how many edges were open. -/
structure Stp where
  v : Int
  by_ : Int
  next : Nat
  low : Int
  opn : Nat
structure WS where
  root : List Int
  from_ : List Int
  depth : List Int
  block : List Int
  path : List Stp
  opn : List Int
def at_ (l : List Int) (v : Int) : Int := l.getD v.toNat 0
/-- look: a link of the vertex on top, whose next one has been counted up. -/
def lookW (s : WS) (init : List Stp) (top : Stp) (lk : Int × Int) : WS :=
  if at_ s.depth lk.1 < 0 then { s with root := s.root.set lk.1.toNat (at_ s.root top.v), from_ := s.from_.set lk.1.toNat top.v, depth := s.depth.set lk.1.toNat (at_ s.depth top.v + 1), path := init ++ [top] ++ [⟨lk.1, lk.2, 0, at_ s.depth top.v, s.opn.length⟩] }
  else if at_ s.depth lk.1 < at_ s.depth top.v then { s with path := init ++ [{ top with low := min top.low (at_ s.depth lk.1) }], opn := s.opn ++ [lk.2] }
  else { s with path := init ++ [top] }
/-- leave: back from the vertex on top. -/
def leaveW (s : WS) (init : List Stp) (last : Stp) : WS :=
  match init.getLast? with
  | none => { s with path := [] }
  | some top => if last.low < at_ s.depth top.v then { s with path := init.dropLast ++ [{ top with low := min top.low last.low }] }
    else { s with path := init, block := (s.opn.drop last.opn).foldl (fun b p => b.set p.toNat last.by_) s.block, opn := s.opn.take last.opn }
def stepW (lk : List (List (Int × Int))) (s : WS) : WS :=
  match s.path.getLast? with
  | none => s
  | some top => if top.next = (lk.getD top.v.toNat []).length then leaveW s s.path.dropLast top else lookW s s.path.dropLast { top with next := top.next + 1 } ((lk.getD top.v.toNat []).getD top.next (0, 0))
def runW (lk : List (List (Int × Int))) : Nat → WS → WS
  | 0, s => s
  | k + 1, s => runW lk k (stepW lk s)
/-- start: over the component of a vertex that has not been seen. -/
def startW (lk : List (List (Int × Int))) (fuel : Nat) (s : WS) (r : Nat) : WS :=
  if 0 ≤ s.depth.getD r 0 then s else runW lk fuel { s with root := s.root.set r (r : Int), from_ := s.from_.set r (-1), depth := s.depth.set r 0, path := s.path ++ [⟨(r : Int), -1, 0, 0, 0⟩] }
def freshW (N M : Nat) : WS := ⟨List.replicate N 0, List.replicate N 0, List.replicate N (-1), List.replicate M 0, [], []⟩
def walkW (N : Nat) (l : List Ed) : WS := (List.range N).foldl (startW (linksL N l) (4 * (N + l.length) + 4)) (freshW N l.length)

/-- The chapter's example. -/
def exE : List Ed := [(0, 1, 0), (0, 2, 0), (1, 2, 0), (2, 3, 0), (2, 4, 0), (3, 4, 0)]
theorem ex_root : (walkW 5 exE).root = [0, 0, 0, 0, 0] := by kernel_rfl
theorem ex_block : (walkW 5 exE).block = [0, 0, 0, 3, 3, 3] := by kernel_rfl
end Go.Proofs.Ytnmlbkmbiecpnaa

namespace Go.Proofs.Ytnmlbkmbiecpnaa
open Go Go.Proofs Go.RowKit

def encS (t : Stp) : List Value := [.int .i64 t.v, .int .i64 t.by_, .int .i64 (t.next : Int), .int .i64 t.low, .int .i64 (t.opn : Int)]
def flatP (P : List Stp) : List Value := P.flatMap encS
theorem flatP_len : ∀ P : List Stp, (flatP P).length = P.length * 5
  | [] => rfl
  | t :: P => by
    have := flatP_len P
    simp only [flatP, List.flatMap_cons, List.length_append, List.length_cons] at this ⊢
    have h : (encS t).length = 5 := rfl
    omega
theorem flatP_app (P Q : List Stp) : flatP (P ++ Q) = flatP P ++ flatP Q := by simp [flatP]
/-- Where the walk lies. -/
structure Lay where
  N : Nat
  M : Nat
  wb : Nat
  rb : Nat
  fb : Nat
  db : Nat
  kb : Nat
  h0 : Nat
structure LayOK (a : Lay) : Prop where
  w0 : a.wb < a.h0
  r0 : a.rb < a.h0
  f0 : a.fb < a.h0
  d0 : a.db < a.h0
  k0 : a.kb < a.h0
  wr : a.wb ≠ a.rb
  wf : a.wb ≠ a.fb
  wd : a.wb ≠ a.db
  wk : a.wb ≠ a.kb
  rf : a.rb ≠ a.fb
  rd : a.rb ≠ a.db
  rk : a.rb ≠ a.kb
  fd : a.fb ≠ a.db
  fk : a.fb ≠ a.kb
  dk : a.db ≠ a.kb
def cellsW (a : Lay) (lv pv ov : Value) : List Value := [lv, .slice (some ⟨a.rb, 0, none⟩) a.N a.N, .slice (some ⟨a.fb, 0, none⟩) a.N a.N, .slice (some ⟨a.db, 0, none⟩) a.N a.N, .slice (some ⟨a.kb, 0, none⟩) a.M a.M, pv, ov]
structure WB (a : Lay) (lv pv ov : Value) (s : WS) (W : World) : Prop where
  blk : Blk 88 W a.wb (cellsW a lv pv ov)
  root : Blk 3 W a.rb (s.root.map (Value.int .i64))
  frm : Blk 3 W a.fb (s.from_.map (Value.int .i64))
  dep : Blk 3 W a.db (s.depth.map (Value.int .i64))
  bls : Blk 3 W a.kb (s.block.map (Value.int .i64))
  way : W.ownsRow a.h0 120 5 pv s.path.length (flatP s.path)
  opn : W.ownsRow a.h0 3 1 ov s.opn.length (s.opn.map (Value.int .i64))
theorem WB.go {a : Lay} {lv pv ov : Value} {s : WS} {A B : World} (h : WB a lv pv ov s A) (hb : Below A.heap.size A B) : WB a lv pv ov s B := by
  have hk : ∀ {e : TypeId} {size : Nat} {v : Value} {n : Nat} {xs : List Value}, A.ownsRow a.h0 e size v n xs → B.ownsRow a.h0 e size v n xs := fun {e size v n xs} ho => by
    refine owns_keep ho (grown_below' hb none) ?_
    cases v.ownBlock with
    | none => exact .inl rfl
    | some k => exact .inr (by simp)
  exact ⟨h.blk.go hb, h.root.go hb, h.frm.go hb, h.dep.go hb, h.bls.go hb, hk h.way, hk h.opn⟩
theorem WB.setRoot {a : Lay} {lv pv ov : Value} {s : WS} {W : World} (h : WB a lv pv ov s W) (hL : LayOK a) (i : Nat) (x : Int) : WB a lv pv ov { s with root := s.root.set i x } (W.setCell ⟨a.rb, i, none⟩ (.int .i64 x)) := by
  have hr := h.root.set i (.int .i64 x)
  rw [← List.map_set] at hr
  exact ⟨h.blk.other hL.wr _, hr, h.frm.other (Ne.symm hL.rf) _, h.dep.other (Ne.symm hL.rd) _, h.bls.other (Ne.symm hL.rk) _, owns_lowset h.way hL.r0 _, owns_lowset h.opn hL.r0 _⟩
theorem WB.setFrom {a : Lay} {lv pv ov : Value} {s : WS} {W : World} (h : WB a lv pv ov s W) (hL : LayOK a) (i : Nat) (x : Int) : WB a lv pv ov { s with from_ := s.from_.set i x } (W.setCell ⟨a.fb, i, none⟩ (.int .i64 x)) := by
  have hr := h.frm.set i (.int .i64 x)
  rw [← List.map_set] at hr
  exact ⟨h.blk.other hL.wf _, h.root.other hL.rf _, hr, h.dep.other (Ne.symm hL.fd) _, h.bls.other (Ne.symm hL.fk) _, owns_lowset h.way hL.f0 _, owns_lowset h.opn hL.f0 _⟩
theorem WB.setDepth {a : Lay} {lv pv ov : Value} {s : WS} {W : World} (h : WB a lv pv ov s W) (hL : LayOK a) (i : Nat) (x : Int) : WB a lv pv ov { s with depth := s.depth.set i x } (W.setCell ⟨a.db, i, none⟩ (.int .i64 x)) := by
  have hr := h.dep.set i (.int .i64 x)
  rw [← List.map_set] at hr
  exact ⟨h.blk.other hL.wd _, h.root.other hL.rd _, h.frm.other hL.fd _, hr, h.bls.other (Ne.symm hL.dk) _, owns_lowset h.way hL.d0 _, owns_lowset h.opn hL.d0 _⟩
theorem WB.setBlock {a : Lay} {lv pv ov : Value} {s : WS} {W : World} (h : WB a lv pv ov s W) (hL : LayOK a) (i : Nat) (x : Int) : WB a lv pv ov { s with block := s.block.set i x } (W.setCell ⟨a.kb, i, none⟩ (.int .i64 x)) := by
  have hr := h.bls.set i (.int .i64 x)
  rw [← List.map_set] at hr
  exact ⟨h.blk.other hL.wk _, h.root.other hL.rk _, h.frm.other hL.fk _, h.dep.other hL.dk _, hr, owns_lowset h.way hL.k0 _, owns_lowset h.opn hL.k0 _⟩
end Go.Proofs.Ytnmlbkmbiecpnaa

namespace Go.Proofs.Ytnmlbkmbiecpnaa
open Go Go.Proofs Go.RowKit

set_option maxRecDepth 100000 in
set_option maxHeartbeats 4000000 in
theorem start_seen (a : Lay) (lv pv ov : Value) (s : WS) (r : Nat) (hr : r < a.N) (hN : a.N ≤ 1048576) (hD : s.depth.length = a.N) (hpos : 0 ≤ s.depth.getD r 0) (w : World) (h : WB a lv pv ov s w) :
    Calls Try.prog 91 #[.pointer (some ⟨a.wb, 0, none⟩), .int .i64 (r : Int)] w fun e w' => e = .returned (.tuple #[]) ∧ w' = w := by
  have b3 := h.blk.cell (j := 3) rfl
  have hrN : (r : Int) < (a.N : Int) := by omega
  have t0 : w.cell? ⟨a.db, r, none⟩ = some (.int .i64 (s.depth.getD r 0)) := h.dep.cell (by rw [List.getElem?_map, List.getElem?_eq_getElem (by omega)]; simp [show r < s.depth.length by omega])
  obtain ⟨N, M, wb, rb, fb, db, kb, h0⟩ := a
  simp only at *
  generalize s.depth.getD r 0 = d at *
  clear h hD
  go_enter Try.func91, Try.ntmps91
  go_wp2
  (try simp only [Exit.inBlock, Exit.then])
  refine bodyPost_ret (results_none rfl _ _ _) rfl ?_
  exact ⟨rfl, rfl⟩
end Go.Proofs.Ytnmlbkmbiecpnaa
