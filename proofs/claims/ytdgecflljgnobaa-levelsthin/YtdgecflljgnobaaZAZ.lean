/-
  The walk in memory: its struct, its four rows, its two stacks.
-/
import Derived.Test.YtdgecflljgnobaaXPWalk
import Derived.Test.YtdgecflljgnobaaXPGrp
import Derived.Deep.QuietTactic
import Derived.BigQuiet
namespace Go.Proofs.Ytdgecflljgnobaa
open Go Go.Proofs Go.RowKit

def encS (t : Stp) : List Value := [.int .i64 t.v, .int .i64 t.by_, .int .i64 (t.next : Int), .int .i64 t.low, .int .i64 (t.opn : Int)]
def flatP (P : List Stp) : List Value := P.flatMap encS
theorem flatP_len : ∀ P : List Stp, (flatP P).length = P.length * 5
  | [] => rfl
  | t :: P => by
    have := flatP_len P
    simp only [flatP, List.flatMap_cons, List.length_append, List.length_cons] at this ⊢
    have h : (encS t).length = 5 := rfl
    omega
theorem flatP_app (P Q : List Stp) : flatP (P ++ Q) = flatP P ++ flatP Q := by simp [flatP]
/-- Where the walk lies. -/
structure Lay where
  N : Nat
  M : Nat
  wb : Nat
  rb : Nat
  fb : Nat
  db : Nat
  kb : Nat
  h0 : Nat
structure LayOK (a : Lay) : Prop where
  w0 : a.wb < a.h0
  r0 : a.rb < a.h0
  f0 : a.fb < a.h0
  d0 : a.db < a.h0
  k0 : a.kb < a.h0
  wr : a.wb ≠ a.rb
  wf : a.wb ≠ a.fb
  wd : a.wb ≠ a.db
  wk : a.wb ≠ a.kb
  rf : a.rb ≠ a.fb
  rd : a.rb ≠ a.db
  rk : a.rb ≠ a.kb
  fd : a.fb ≠ a.db
  fk : a.fb ≠ a.kb
  dk : a.db ≠ a.kb
def cellsW (a : Lay) (lv pv ov : Value) : List Value := [lv, .slice (some ⟨a.rb, 0, none⟩) a.N a.N, .slice (some ⟨a.fb, 0, none⟩) a.N a.N, .slice (some ⟨a.db, 0, none⟩) a.N a.N, .slice (some ⟨a.kb, 0, none⟩) a.M a.M, pv, ov]
structure WB (a : Lay) (lv pv ov : Value) (s : WS) (W : World) : Prop where
  blk : Blk 61 W a.wb (cellsW a lv pv ov)
  root : Blk 3 W a.rb (s.root.map (Value.int .i64))
  frm : Blk 3 W a.fb (s.from_.map (Value.int .i64))
  dep : Blk 3 W a.db (s.depth.map (Value.int .i64))
  bls : Blk 3 W a.kb (s.block.map (Value.int .i64))
  way : W.ownsRow a.h0 77 5 pv s.path.length (flatP s.path)
  opn : W.ownsRow a.h0 3 1 ov s.opn.length (s.opn.map (Value.int .i64))
theorem WB.go {a : Lay} {lv pv ov : Value} {s : WS} {A B : World} (h : WB a lv pv ov s A) (hb : Below A.heap.size A B) : WB a lv pv ov s B := by
  have hk : ∀ {e : TypeId} {size : Nat} {v : Value} {n : Nat} {xs : List Value}, A.ownsRow a.h0 e size v n xs → B.ownsRow a.h0 e size v n xs := fun {e size v n xs} ho => by
    refine owns_keep ho (grown_below' hb none) ?_
    cases v.ownBlock with
    | none => exact .inl rfl
    | some k => exact .inr (by simp)
  exact ⟨h.blk.go hb, h.root.go hb, h.frm.go hb, h.dep.go hb, h.bls.go hb, hk h.way, hk h.opn⟩
theorem WB.setRoot {a : Lay} {lv pv ov : Value} {s : WS} {W : World} (h : WB a lv pv ov s W) (hL : LayOK a) (i : Nat) (x : Int) : WB a lv pv ov { s with root := s.root.set i x } (W.setCell ⟨a.rb, i, none⟩ (.int .i64 x)) := by
  have hr := h.root.set i (.int .i64 x)
  rw [← List.map_set] at hr
  exact ⟨h.blk.other hL.wr _, hr, h.frm.other (Ne.symm hL.rf) _, h.dep.other (Ne.symm hL.rd) _, h.bls.other (Ne.symm hL.rk) _, owns_lowset h.way hL.r0 _, owns_lowset h.opn hL.r0 _⟩
theorem WB.setFrom {a : Lay} {lv pv ov : Value} {s : WS} {W : World} (h : WB a lv pv ov s W) (hL : LayOK a) (i : Nat) (x : Int) : WB a lv pv ov { s with from_ := s.from_.set i x } (W.setCell ⟨a.fb, i, none⟩ (.int .i64 x)) := by
  have hr := h.frm.set i (.int .i64 x)
  rw [← List.map_set] at hr
  exact ⟨h.blk.other hL.wf _, h.root.other hL.rf _, hr, h.dep.other (Ne.symm hL.fd) _, h.bls.other (Ne.symm hL.fk) _, owns_lowset h.way hL.f0 _, owns_lowset h.opn hL.f0 _⟩
theorem WB.setDepth {a : Lay} {lv pv ov : Value} {s : WS} {W : World} (h : WB a lv pv ov s W) (hL : LayOK a) (i : Nat) (x : Int) : WB a lv pv ov { s with depth := s.depth.set i x } (W.setCell ⟨a.db, i, none⟩ (.int .i64 x)) := by
  have hr := h.dep.set i (.int .i64 x)
  rw [← List.map_set] at hr
  exact ⟨h.blk.other hL.wd _, h.root.other hL.rd _, h.frm.other hL.fd _, hr, h.bls.other (Ne.symm hL.dk) _, owns_lowset h.way hL.d0 _, owns_lowset h.opn hL.d0 _⟩
theorem WB.setBlock {a : Lay} {lv pv ov : Value} {s : WS} {W : World} (h : WB a lv pv ov s W) (hL : LayOK a) (i : Nat) (x : Int) : WB a lv pv ov { s with block := s.block.set i x } (W.setCell ⟨a.kb, i, none⟩ (.int .i64 x)) := by
  have hr := h.bls.set i (.int .i64 x)
  rw [← List.map_set] at hr
  exact ⟨h.blk.other hL.wk _, h.root.other hL.rk _, h.frm.other hL.fk _, h.dep.other hL.dk _, hr, owns_lowset h.way hL.k0 _, owns_lowset h.opn hL.k0 _⟩
end Go.Proofs.Ytdgecflljgnobaa

namespace Go.Proofs.Ytdgecflljgnobaa
open Go Go.Proofs Go.RowKit

/-- The cells of the step on top. -/
theorem WB.top {a : Lay} {lv ov : Value} {s : WS} {W : World} {pb cap : Nat} {init : List Stp} {top : Stp} (h : WB a lv (.slice (some ⟨pb, 0, none⟩) s.path.length cap) ov s W) (hp : s.path = init ++ [top]) :
    W.cell? ⟨pb, init.length * 5, none⟩ = some (.int .i64 top.v) ∧ W.cell? ⟨pb, init.length * 5 + 1, none⟩ = some (.int .i64 top.by_) ∧ W.cell? ⟨pb, init.length * 5 + 2, none⟩ = some (.int .i64 (top.next : Int)) ∧ W.cell? ⟨pb, init.length * 5 + 3, none⟩ = some (.int .i64 top.low) ∧ W.cell? ⟨pb, init.length * 5 + 4, none⟩ = some (.int .i64 (top.opn : Int)) := by
  have hl : s.path.length = init.length + 1 := by rw [hp]; simp
  have hx : flatP s.path = flatP init ++ encS top := by rw [hp, flatP_app]; simp [flatP]
  have hfl := flatP_len init
  have at5 : ∀ (j : Nat) (u : Value), (encS top)[j]? = some u → W.cell? ⟨pb, init.length * 5 + j, none⟩ = some u := fun j u hu => by
    have hj := (List.getElem?_eq_some_iff.1 hu).1
    have h5 : (encS top).length = 5 := rfl
    have := h.way.cellAt (init.length * 5 + j) (by omega)
    rw [this, hx, List.getElem?_append_right (by omega), hfl, Nat.add_sub_cancel_left]
    exact hu
  exact ⟨at5 0 _ rfl, at5 1 _ rfl, at5 2 _ rfl, at5 3 _ rfl, at5 4 _ rfl⟩

set_option maxRecDepth 100000 in
set_option maxHeartbeats 4000000 in
theorem look_idle (a : Lay) (lv ov : Value) (s : WS) (init : List Stp) (top : Stp) (pb cap v u : Nat) (pl : Int) (hp : s.path = init ++ [top]) (hv : top.v = (v : Int)) (hvN : v < a.N) (huN : u < a.N) (hN : a.N ≤ 1048576) (hD : s.depth.length = a.N) (h1 : 0 ≤ s.depth.getD u 0) (h2 : s.depth.getD v 0 ≤ s.depth.getD u 0) (w : World) (h : WB a lv (.slice (some ⟨pb, 0, none⟩) s.path.length cap) ov s w) :
    Calls Try.prog 51 #[.pointer (some ⟨a.wb, 0, none⟩), .pointer (some ⟨pb, init.length * 5, none⟩), .agg #[.int .i64 (u : Int), .int .i64 pl]] w fun e w' => e = .returned (.tuple #[]) ∧ Below w.heap.size w w' := by
  have hmix := mixed
  have hb1 : Below w.heap.size w (w.alloc (.cells #[.int .i64 (u : Int), .int .i64 pl] 75)) := (Below.refl _ _).alloc (Nat.le_refl _) _
  have hX : Blk 75 (w.alloc (.cells #[.int .i64 (u : Int), .int .i64 pl] 75)) w.heap.size [.int .i64 (u : Int), .int .i64 pl] := heap_alloc_new w _
  have h' := h.go hb1
  have b3 := h'.blk.cell (j := 3) rfl
  obtain ⟨p0, -, -, -, -⟩ := h'.top hp
  rw [hv] at p0
  have x0 := hX.cell (j := 0) rfl
  have hvN' : (v : Int) < (a.N : Int) := by omega
  have huN' : (u : Int) < (a.N : Int) := by omega
  have t0 : (w.alloc (.cells #[.int .i64 (u : Int), .int .i64 pl] 75)).cell? ⟨a.db, v, none⟩ = some (.int .i64 (s.depth.getD v 0)) := h'.dep.cell (by rw [List.getElem?_map, List.getElem?_eq_getElem (by omega)]; simp [show v < s.depth.length by omega])
  have t1 : (w.alloc (.cells #[.int .i64 (u : Int), .int .i64 pl] 75)).cell? ⟨a.db, u, none⟩ = some (.int .i64 (s.depth.getD u 0)) := h'.dep.cell (by rw [List.getElem?_map, List.getElem?_eq_getElem (by omega)]; simp [show u < s.depth.length by omega])
  obtain ⟨N, M, wb, rb, fb, db, kb, h0⟩ := a
  simp only at *
  generalize s.depth.getD u 0 = du at *
  generalize s.depth.getD v 0 = dv at *
  have h1' : ¬ du < 0 := by omega
  have h2' : ¬ du < dv := by omega
  generalize init.length * 5 = off at *
  clear h h' hD hX hp hv
  go_enter Try.func51, Try.ntmps51
  go_wp2
  go_quiet (fail)
  have hbq : Below w.heap.size w ((w.alloc (.cells #[.int .i64 (u : Int), .int .i64 pl] 75)).drewN nq) := below_drewN hb1 nq
  generalize (w.alloc (.cells #[.int .i64 (u : Int), .int .i64 pl] 75)).drewN nq = w5 at hbq ⊢
  go_wp2
  refine bodyPost_end (results_none rfl _ _ _) rfl ?_
  exact ⟨rfl, hbq⟩

end Go.Proofs.Ytdgecflljgnobaa
