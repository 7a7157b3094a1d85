/-
  The contract of parts.fromEach, over any invariant that a call of start carries on.
-/
import Derived.Test.YteekhofollaooaaQB
import Derived.Test.YteekhofollaooaaQC
import Derived.Deep.QuietTactic
import Derived.BigQuiet
import Derived.Deep.RegionHeld3
import Derived.Deep.DrawnRows
import Derived.Maps.AppendAt
import Derived.Test.YteekhofollaooaaQA
namespace Go.Proofs.Yteekhofollaooaa
open Go Go.Proofs Go.RowKit

theorem enters_start (args : Array Value) (W : World) : (callFunc 81 args).run Try.prog W = .ok (.enter 81 args) W := by kernel_rfl

set_option maxRecDepth 100000 in
set_option maxHeartbeats 2000000 in
theorem fromEach_any (N : Nat) (hN : N ≤ 1048576) (wb : Nat) (Inv : Nat → World → Prop) (hcall : ∀ k W, k < N → Inv k W → Calls Try.prog 81 #[.pointer (some ⟨wb, 0, none⟩), .int .i64 (k : Int)] W fun e w' => e = .returned (.tuple #[]) ∧ Inv (k + 1) w') (w : World) (h0 : Inv 0 w) :
    Calls Try.prog 80 #[.int .i64 (N : Int), .func (.func 81) #[.pointer (some ⟨wb, 0, none⟩)] #[]] w fun e w' => e = .returned (.tuple #[]) ∧ Inv N w' := by
  go_enter Try.func80, Try.ntmps80
  go_wp2
  go_loopw [6] (fun i wr => ∃ j : Nat, j ≤ N ∧ i = .int .i64 j ∧ Inv j wr) (fun i _ => N - (intOf i).toNat)
  case atStart => exact ⟨0, Nat.zero_le _, rfl, h0⟩
  case round =>
    obtain ⟨j, hj, rfl, hI⟩ := hrel
    by_cases hlt : j < N
    · have hjl : (j : Int) < (N : Int) := by omega
      have hc := hcall j wr hlt hI
      have hent := enters_start
      go_wp2_with fail
      refine hc.mono ?_
      rintro e w2 ⟨rfl, h2⟩
      go_wp2
      exact ⟨⟨j + 1, by omega, by go_num, h2⟩, by simp [intOf]; omega⟩
    · obtain rfl : j = N := by omega
      have hjl : ¬ (j : Int) < (j : Int) := by omega
      go_wp2
      (try simp only [Exit.inBlock, Exit.then])
      refine bodyPost_end (results_none rfl _ _ _) rfl ?_
      exact ⟨rfl, hI⟩
end Go.Proofs.Yteekhofollaooaa

namespace Go.Proofs.Yteekhofollaooaa
open Go Go.Proofs Go.RowKit

def lightB (n : Int) (l : List Ed) (c : Int) : Bool := decide (n ≤ c) && decide ((l.length : Int) ≤ 4 * c)
theorem lightB_true {n : Int} {l : List Ed} {c : Int} (h : lightB n l c = true) : n ≤ c ∧ (l.length : Int) ≤ 4 * c := by simpa [lightB] using h
set_option maxRecDepth 100000 in
theorem light_any (n : Int) (l : List Ed) (c : Int) (h0 : 0 ≤ c) (h1 : c ≤ 1000) (sv : Value) (w : World) (hl : Edges w.heap.size w sv l) :
    Calls Try.prog 6 #[.agg #[.int .i64 n, sv], .int .i64 c] w fun r w' => r = .returned (.bool (lightB n l c)) ∧ Grew w w' := by
  unfold lightB
  obtain ⟨p, q, rfl⟩ := hl.len
  go_enter Try.func6, Try.ntmps6
  go_wp2
  all_goals go_ret
  all_goals refine ⟨?_, (Grew.refl w).alloc _⟩
  all_goals simp
  all_goals first | done | omega | (simp_all <;> omega)
end Go.Proofs.Yteekhofollaooaa

namespace Go.Proofs.Yteekhofollaooaa
open Go Go.Proofs Go.RowKit

def encS (t : Stp) : List Value := [.int .i64 t.v, .int .i64 t.by_, .int .i64 (t.next : Int), .int .i64 t.low, .int .i64 (t.opn : Int)]
def flatP (P : List Stp) : List Value := P.flatMap encS
theorem flatP_len : ∀ P : List Stp, (flatP P).length = P.length * 5
  | [] => rfl
  | t :: P => by
    have := flatP_len P
    simp only [flatP, List.flatMap_cons, List.length_append, List.length_cons] at this ⊢
    have h : (encS t).length = 5 := rfl
    omega
theorem flatP_app (P Q : List Stp) : flatP (P ++ Q) = flatP P ++ flatP Q := by simp [flatP]
/-- Where the walk lies. -/
structure Lay where
  N : Nat
  M : Nat
  wb : Nat
  rb : Nat
  fb : Nat
  db : Nat
  kb : Nat
  h0 : Nat
structure LayOK (a : Lay) : Prop where
  w0 : a.wb < a.h0
  r0 : a.rb < a.h0
  f0 : a.fb < a.h0
  d0 : a.db < a.h0
  k0 : a.kb < a.h0
  wr : a.wb ≠ a.rb
  wf : a.wb ≠ a.fb
  wd : a.wb ≠ a.db
  wk : a.wb ≠ a.kb
  rf : a.rb ≠ a.fb
  rd : a.rb ≠ a.db
  rk : a.rb ≠ a.kb
  fd : a.fb ≠ a.db
  fk : a.fb ≠ a.kb
  dk : a.db ≠ a.kb
def cellsW (a : Lay) (lv pv ov : Value) : List Value := [lv, .slice (some ⟨a.rb, 0, none⟩) a.N a.N, .slice (some ⟨a.fb, 0, none⟩) a.N a.N, .slice (some ⟨a.db, 0, none⟩) a.N a.N, .slice (some ⟨a.kb, 0, none⟩) a.M a.M, pv, ov]
structure WB (a : Lay) (lv pv ov : Value) (s : WS) (W : World) : Prop where
  blk : Blk 115 W a.wb (cellsW a lv pv ov)
  root : Blk 3 W a.rb (s.root.map (Value.int .i64))
  frm : Blk 3 W a.fb (s.from_.map (Value.int .i64))
  dep : Blk 3 W a.db (s.depth.map (Value.int .i64))
  bls : Blk 3 W a.kb (s.block.map (Value.int .i64))
  way : W.ownsRow a.h0 142 5 pv s.path.length (flatP s.path)
  opn : W.ownsRow a.h0 3 1 ov s.opn.length (s.opn.map (Value.int .i64))
theorem WB.go {a : Lay} {lv pv ov : Value} {s : WS} {A B : World} (h : WB a lv pv ov s A) (hb : Below A.heap.size A B) : WB a lv pv ov s B := by
  have hk : ∀ {e : TypeId} {size : Nat} {v : Value} {n : Nat} {xs : List Value}, A.ownsRow a.h0 e size v n xs → B.ownsRow a.h0 e size v n xs := fun {e size v n xs} ho => by
    refine owns_keep ho (grown_below' hb none) ?_
    cases v.ownBlock with
    | none => exact .inl rfl
    | some k => exact .inr (by simp)
  exact ⟨h.blk.go hb, h.root.go hb, h.frm.go hb, h.dep.go hb, h.bls.go hb, hk h.way, hk h.opn⟩
theorem WB.setRoot {a : Lay} {lv pv ov : Value} {s : WS} {W : World} (h : WB a lv pv ov s W) (hL : LayOK a) (i : Nat) (x : Int) : WB a lv pv ov { s with root := s.root.set i x } (W.setCell ⟨a.rb, i, none⟩ (.int .i64 x)) := by
  have hr := h.root.set i (.int .i64 x)
  rw [← List.map_set] at hr
  exact ⟨h.blk.other hL.wr _, hr, h.frm.other (Ne.symm hL.rf) _, h.dep.other (Ne.symm hL.rd) _, h.bls.other (Ne.symm hL.rk) _, owns_lowset h.way hL.r0 _, owns_lowset h.opn hL.r0 _⟩
theorem WB.setFrom {a : Lay} {lv pv ov : Value} {s : WS} {W : World} (h : WB a lv pv ov s W) (hL : LayOK a) (i : Nat) (x : Int) : WB a lv pv ov { s with from_ := s.from_.set i x } (W.setCell ⟨a.fb, i, none⟩ (.int .i64 x)) := by
  have hr := h.frm.set i (.int .i64 x)
  rw [← List.map_set] at hr
  exact ⟨h.blk.other hL.wf _, h.root.other hL.rf _, hr, h.dep.other (Ne.symm hL.fd) _, h.bls.other (Ne.symm hL.fk) _, owns_lowset h.way hL.f0 _, owns_lowset h.opn hL.f0 _⟩
theorem WB.setDepth {a : Lay} {lv pv ov : Value} {s : WS} {W : World} (h : WB a lv pv ov s W) (hL : LayOK a) (i : Nat) (x : Int) : WB a lv pv ov { s with depth := s.depth.set i x } (W.setCell ⟨a.db, i, none⟩ (.int .i64 x)) := by
  have hr := h.dep.set i (.int .i64 x)
  rw [← List.map_set] at hr
  exact ⟨h.blk.other hL.wd _, h.root.other hL.rd _, h.frm.other hL.fd _, hr, h.bls.other (Ne.symm hL.dk) _, owns_lowset h.way hL.d0 _, owns_lowset h.opn hL.d0 _⟩
theorem WB.setBlock {a : Lay} {lv pv ov : Value} {s : WS} {W : World} (h : WB a lv pv ov s W) (hL : LayOK a) (i : Nat) (x : Int) : WB a lv pv ov { s with block := s.block.set i x } (W.setCell ⟨a.kb, i, none⟩ (.int .i64 x)) := by
  have hr := h.bls.set i (.int .i64 x)
  rw [← List.map_set] at hr
  exact ⟨h.blk.other hL.wk _, h.root.other hL.rk _, h.frm.other hL.fk _, h.dep.other hL.dk _, hr, owns_lowset h.way hL.k0 _, owns_lowset h.opn hL.k0 _⟩
end Go.Proofs.Yteekhofollaooaa

namespace Go.Proofs.Yteekhofollaooaa
open Go Go.Proofs Go.RowKit

set_option maxRecDepth 100000 in
set_option maxHeartbeats 4000000 in
theorem start_seen (a : Lay) (lv pv ov : Value) (s : WS) (r : Nat) (hr : r < a.N) (hN : a.N ≤ 1048576) (hD : s.depth.length = a.N) (hpos : 0 ≤ s.depth.getD r 0) (w : World) (h : WB a lv pv ov s w) :
    Calls Try.prog 81 #[.pointer (some ⟨a.wb, 0, none⟩), .int .i64 (r : Int)] w fun e w' => e = .returned (.tuple #[]) ∧ w' = w := by
  have b3 := h.blk.cell (j := 3) rfl
  have hrN : (r : Int) < (a.N : Int) := by omega
  have t0 : w.cell? ⟨a.db, r, none⟩ = some (.int .i64 (s.depth.getD r 0)) := h.dep.cell (by rw [List.getElem?_map, List.getElem?_eq_getElem (by omega)]; simp [show r < s.depth.length by omega])
  obtain ⟨N, M, wb, rb, fb, db, kb, h0⟩ := a
  simp only at *
  generalize s.depth.getD r 0 = d at *
  clear h hD
  go_enter Try.func81, Try.ntmps81
  go_wp2
  (try simp only [Exit.inBlock, Exit.then])
  refine bodyPost_ret (results_none rfl _ _ _) rfl ?_
  exact ⟨rfl, rfl⟩
end Go.Proofs.Yteekhofollaooaa

namespace Go.Proofs.Yteekhofollaooaa
open Go Go.Proofs Go.RowKit

/-- The cells of the step on top. -/
theorem WB.top {a : Lay} {lv ov : Value} {s : WS} {W : World} {pb cap : Nat} {init : List Stp} {top : Stp} (h : WB a lv (.slice (some ⟨pb, 0, none⟩) s.path.length cap) ov s W) (hp : s.path = init ++ [top]) :
    W.cell? ⟨pb, init.length * 5, none⟩ = some (.int .i64 top.v) ∧ W.cell? ⟨pb, init.length * 5 + 1, none⟩ = some (.int .i64 top.by_) ∧ W.cell? ⟨pb, init.length * 5 + 2, none⟩ = some (.int .i64 (top.next : Int)) ∧ W.cell? ⟨pb, init.length * 5 + 3, none⟩ = some (.int .i64 top.low) ∧ W.cell? ⟨pb, init.length * 5 + 4, none⟩ = some (.int .i64 (top.opn : Int)) := by
  have hl : s.path.length = init.length + 1 := by rw [hp]; simp
  have hx : flatP s.path = flatP init ++ encS top := by rw [hp, flatP_app]; simp [flatP]
  have hfl := flatP_len init
  have at5 : ∀ (j : Nat) (u : Value), (encS top)[j]? = some u → W.cell? ⟨pb, init.length * 5 + j, none⟩ = some u := fun j u hu => by
    have hj := (List.getElem?_eq_some_iff.1 hu).1
    have h5 : (encS top).length = 5 := rfl
    have := h.way.cellAt (init.length * 5 + j) (by omega)
    rw [this, hx, List.getElem?_append_right (by omega), hfl, Nat.add_sub_cancel_left]
    exact hu
  exact ⟨at5 0 _ rfl, at5 1 _ rfl, at5 2 _ rfl, at5 3 _ rfl, at5 4 _ rfl⟩

set_option maxRecDepth 100000 in
set_option maxHeartbeats 4000000 in
theorem look_idle (a : Lay) (lv ov : Value) (s : WS) (init : List Stp) (top : Stp) (pb cap v u : Nat) (pl : Int) (hp : s.path = init ++ [top]) (hv : top.v = (v : Int)) (hvN : v < a.N) (huN : u < a.N) (hN : a.N ≤ 1048576) (hD : s.depth.length = a.N) (h1 : 0 ≤ s.depth.getD u 0) (h2 : s.depth.getD v 0 ≤ s.depth.getD u 0) (w : World) (h : WB a lv (.slice (some ⟨pb, 0, none⟩) s.path.length cap) ov s w) :
    Calls Try.prog 95 #[.pointer (some ⟨a.wb, 0, none⟩), .pointer (some ⟨pb, init.length * 5, none⟩), .agg #[.int .i64 (u : Int), .int .i64 pl]] w fun e w' => e = .returned (.tuple #[]) ∧ Below w.heap.size w w' := by
  have hmix := mixed
  have hb1 : Below w.heap.size w (w.alloc (.cells #[.int .i64 (u : Int), .int .i64 pl] 140)) := (Below.refl _ _).alloc (Nat.le_refl _) _
  have hX : Blk 140 (w.alloc (.cells #[.int .i64 (u : Int), .int .i64 pl] 140)) w.heap.size [.int .i64 (u : Int), .int .i64 pl] := heap_alloc_new w _
  have h' := h.go hb1
  have b3 := h'.blk.cell (j := 3) rfl
  obtain ⟨p0, -, -, -, -⟩ := h'.top hp
  rw [hv] at p0
  have x0 := hX.cell (j := 0) rfl
  have hvN' : (v : Int) < (a.N : Int) := by omega
  have huN' : (u : Int) < (a.N : Int) := by omega
  have t0 : (w.alloc (.cells #[.int .i64 (u : Int), .int .i64 pl] 140)).cell? ⟨a.db, v, none⟩ = some (.int .i64 (s.depth.getD v 0)) := h'.dep.cell (by rw [List.getElem?_map, List.getElem?_eq_getElem (by omega)]; simp [show v < s.depth.length by omega])
  have t1 : (w.alloc (.cells #[.int .i64 (u : Int), .int .i64 pl] 140)).cell? ⟨a.db, u, none⟩ = some (.int .i64 (s.depth.getD u 0)) := h'.dep.cell (by rw [List.getElem?_map, List.getElem?_eq_getElem (by omega)]; simp [show u < s.depth.length by omega])
  obtain ⟨N, M, wb, rb, fb, db, kb, h0⟩ := a
  simp only at *
  generalize s.depth.getD u 0 = du at *
  generalize s.depth.getD v 0 = dv at *
  have h1' : ¬ du < 0 := by omega
  have h2' : ¬ du < dv := by omega
  generalize init.length * 5 = off at *
  clear h h' hD hX hp hv
  go_enter Try.func95, Try.ntmps95
  go_wp2
  go_quiet (fail)
  have hbq : Below w.heap.size w ((w.alloc (.cells #[.int .i64 (u : Int), .int .i64 pl] 140)).drewN nq) := below_drewN hb1 nq
  generalize (w.alloc (.cells #[.int .i64 (u : Int), .int .i64 pl] 140)).drewN nq = w5 at hbq ⊢
  go_wp2
  refine bodyPost_end (results_none rfl _ _ _) rfl ?_
  exact ⟨rfl, hbq⟩

end Go.Proofs.Yteekhofollaooaa

namespace Go.Proofs.Yteekhofollaooaa
open Go Go.Proofs Go.RowKit

/-- What a slice brings to an append. -/
def Src (W : World) (xv : Value) (m size : Nat) (news : List Value) : Prop :=
  ((∃ c, xv = .slice none 0 c) ∧ m = 0 ∧ news = []) ∨ ∃ ad c, xv = .slice (some ad) m c ∧ news.length = m * size ∧ (∀ j u, news[j]? = some u → W.cell? (ad.add j) = some u) ∧ ∀ u ∈ news, u.oneCell' = true
theorem run_append_src {P : Program} (w : World) (base : Nat) (t ty e : TypeId) (i : TypeInfo) (z : Value) (size bytes : Nat) (ht : P.underlying t = some (.slice e)) (hi : P.info? e = some i) (hz : i.zero = some z)
    (hsize : i.size = size) (hby : i.bytes = bytes) (hzs : z.cells.size = size) (hsz : 0 < size)
    (v : Value) (n : Nat) (xs : List Value) (hown : w.ownsRow base e size v n xs) (xv : Value) (m : Nat) (news : List Value) (hsrc : Src w xv m size news)
    (h63 : n + m ≤ maxLen) (hbytes : (n + m) * bytes ≤ 140737488355328) (hbase : base ≤ w.heap.size) :
    ∃ v' w', (Builtin.append_ #[t, t] ty #[v, xv]).run P w = .ok v' w' ∧ w'.ownsRow base e size v' (n + m) (xs ++ news) ∧ w.grownBy w' v.ownBlock ∧ (v'.ownBlock = v.ownBlock ∨ v'.ownBlock = some w.heap.size) := by
  rcases hsrc with ⟨⟨c, rfl⟩, rfl, rfl⟩ | ⟨ad, c, rfl, hl, hnews, h1⟩
  · refine ⟨v, w, ?_, by simpa using hown, ⟨rfl, rfl, rfl, Nat.le_refl _, fun _ _ _ => rfl⟩, .inl rfl⟩
    rcases hown.2 with ⟨rfl, rfl⟩ | ⟨g, cap, cur, rfl, hbg, hg, hnc, _⟩
    · simp [Builtin.append_, run_underlying ht, sizeOf, typeInfo, hi, Builtin.lenOf, Builtin.firstCells]
    · have hnc' : n ≤ cap := hnc
      simp [Builtin.append_, run_underlying ht, sizeOf, typeInfo, hi, Builtin.lenOf, Builtin.firstCells, hnc', storeCells]
  · obtain ⟨v', w', h2, h3, h4, _, h5⟩ := run_append_own_at (P := P) w base t ty e i z size bytes ht hi hz hsize hby hzs hsz v n xs hown ad m c news hl hnews h1 h63 hbytes hbase
    exact ⟨v', w', h2, h3, h4, h5⟩
/-- append, as one step of a region that draws its order. -/
theorem step_append_src {P : Program} {ops : Array Oper} {o : Oper} {a : Act} {w : World} {K : Act → World → Prop} {Q : Exit → Act → World → Prop} {E : Prop}
    (hgd : o.guard = none) (s x : Operand) (t : TypeId) (ho : o.op = .call { callee := .builtin .append, args := #[s, x], argTypes := #[t, t] })
    (base : Nat) (e : TypeId) (i : TypeInfo) (z : Value) (size bytes : Nat) (ht : P.underlying t = some (.slice e)) (hi : P.info? e = some i) (hz : i.zero = some z)
    (hsize : i.size = size) (hby : i.bytes = bytes) (hzs : z.cells.size = size) (hsz : 0 < size)
    (v : Value) (n : Nat) (xs : List Value) (hs : a.eval s = v) (hown : w.ownsRow base e size v n xs)
    (xv : Value) (m : Nat) (news : List Value) (hx : a.eval x = xv) (hsrc : Src w xv m size news)
    (h63 : n + m ≤ maxLen) (hbytes : (n + m) * bytes ≤ 140737488355328) (hbase : base ≤ w.heap.size)
    (h : ∀ v' w', w'.ownsRow base e size v' (n + m) (xs ++ news) → w.grownBy w' v.ownBlock → (v'.ownBlock = v.ownBlock ∨ v'.ownBlock = some w.heap.size) → K (a.put o.dst v') w') :
    if Region.wanted o (yielded ops a.tmps) = true then Oper.wp P o a w K Q else E := by
  have hw : Region.wanted o (yielded ops a.tmps) = true := by simp [Region.wanted, hgd]
  rw [if_pos hw]
  obtain ⟨v', w', hr, h2, h3, h5⟩ := run_append_src (P := P) w base t o.type e i z size bytes ht hi hz hsize hby hzs hsz v n xs hown xv m news hsrc h63 hbytes hbase
  unfold Oper.wp
  simp [execOp, ho, resolve, invoke, builtin, hs, hx, hr, Result.andThen]
  exact h v' w' h2 h3 h5

end Go.Proofs.Yteekhofollaooaa

namespace Go.Proofs.Yteekhofollaooaa
open Go Go.Proofs Go.RowKit

theorem flatP_low (init : List Stp) (top : Stp) (x : Int) : (flatP (init ++ [top])).set (init.length * 5 + 3) (.int .i64 x) = flatP (init ++ [{ top with low := x }]) := by
  rw [flatP_app, flatP_app, List.set_append_right _ _ (by rw [flatP_len]; omega), flatP_len, Nat.add_sub_cancel_left]
  rfl
theorem flatP_next (init : List Stp) (top : Stp) (x : Nat) : (flatP (init ++ [top])).set (init.length * 5 + 2) (.int .i64 (x : Int)) = flatP (init ++ [{ top with next := x }]) := by
  rw [flatP_app, flatP_app, List.set_append_right _ _ (by rw [flatP_len]; omega), flatP_len, Nat.add_sub_cancel_left]
  rfl
/-- The two stacks lie apart. -/
def Apart2 (pv ov : Value) : Prop := (pv.ownBlock = none ∨ pv.ownBlock ≠ ov.ownBlock) ∧ (ov.ownBlock = none ∨ ov.ownBlock ≠ pv.ownBlock)
theorem WB.setWay {a : Lay} {lv ov : Value} {s : WS} {W : World} {pb cap : Nat} (h : WB a lv (.slice (some ⟨pb, 0, none⟩) s.path.length cap) ov s W) (hL : LayOK a) (hA : Apart2 (.slice (some ⟨pb, 0, none⟩) s.path.length cap) ov) {j : Nat} {u : Value} {P : List Stp} (hP : (flatP s.path).set j u = flatP P) (hl : P.length = s.path.length) : WB a lv (.slice (some ⟨pb, 0, none⟩) P.length cap) ov { s with path := P } (W.setCell ⟨pb, j, none⟩ u) := by
  obtain ⟨h1, h2⟩ := h.way.stored j u
  have hb := h.way.lt pb rfl
  rw [hP] at h1
  have hlo : ∀ {t : TypeId} {b : Nat} {vs : List Value}, Blk t W b vs → b < a.h0 → Blk t (W.setCell ⟨pb, j, none⟩ u) b vs := fun hB hlt => hB.other (by simp only; omega) _
  refine ⟨hlo h.blk hL.w0 |> fun x => ?_, hlo h.root hL.r0, hlo h.frm hL.f0, hlo h.dep hL.d0, hlo h.bls hL.k0, by rw [hl]; exact h1, owns_keep h.opn h2 hA.2⟩
  rw [hl]
  exact x
theorem WB.setOpn {a : Lay} {lv pv ov ov' : Value} {s : WS} {A B : World} {P : List Int} (h : WB a lv pv ov s A) (hL : LayOK a) (hA : Apart2 pv ov) (hg : A.grownBy B ov.ownBlock) (hlow : ∀ k, ov.ownBlock = some k → a.h0 ≤ k) (hB : B.ownsRow a.h0 3 1 ov' P.length (P.map (Value.int .i64))) : WB a lv pv ov' { s with opn := P } (B.setCell ⟨a.wb, 6, none⟩ ov') := by
  have hb : ∀ {t : TypeId} {b : Nat} {vs : List Value}, Blk t A b vs → b < a.h0 → Blk t B b vs := fun {t b vs} hB hlt => (hg.block b hB.lt (fun e => by have := hlow b e.symm; omega)).trans hB
  have hbl := (hb h.blk hL.w0).set 6 ov'
  exact ⟨hbl, (hb h.root hL.r0).other (Ne.symm hL.wr) _, (hb h.frm hL.f0).other (Ne.symm hL.wf) _, (hb h.dep hL.d0).other (Ne.symm hL.wd) _, (hb h.bls hL.k0).other (Ne.symm hL.wk) _, owns_lowset (owns_keep h.way hg hA.1) hL.w0 _, owns_lowset hB hL.w0 _⟩
end Go.Proofs.Yteekhofollaooaa

namespace Go.Proofs.Yteekhofollaooaa
open Go Go.Proofs Go.RowKit

def Lay.five (a : Lay) (k : Nat) : Prop := k = a.wb ∨ k = a.rb ∨ k = a.fb ∨ k = a.db ∨ k = a.kb
structure Wk (a : Lay) (A B : World) : Prop where
  os : B.os = A.os
  tape : B.tape = A.tape
  output : B.output = A.output
  size : A.heap.size ≤ B.heap.size
  block : ∀ k, k < a.h0 → ¬ a.five k → B.heap[k]? = A.heap[k]?
theorem Wk.refl (a : Lay) (A : World) : Wk a A A := ⟨rfl, rfl, rfl, Nat.le_refl _, fun _ _ _ => rfl⟩
theorem Wk.trans {a : Lay} {A B C : World} (h : Wk a A B) (k : Wk a B C) : Wk a A C :=
  ⟨k.os.trans h.os, k.tape.trans h.tape, k.output.trans h.output, Nat.le_trans h.size k.size, fun i hi hn => (k.block i hi hn).trans (h.block i hi hn)⟩
theorem Wk.of_below {a : Lay} {n : Nat} {A B : World} (h : Below n A B) (hn : a.h0 ≤ n) : Wk a A B := ⟨h.os, h.tape, h.output, h.size, fun k hk _ => h.block k (by omega)⟩
theorem Wk.grown {a : Lay} {A B : World} {row : Option Nat} (h : A.grownBy B row) (hs : a.h0 ≤ A.heap.size) (hr : ∀ k, row = some k → a.h0 ≤ k) : Wk a A B :=
  ⟨h.os, h.tape, h.output, h.size, fun k hk _ => h.block k (by omega) (fun e => by have := hr k e.symm; omega)⟩
theorem Wk.set {a : Lay} {A B : World} (h : Wk a A B) {p : Addr} (hp : a.five p.block ∨ a.h0 ≤ p.block) (u : Value) : Wk a A (B.setCell p u) :=
  h.trans ⟨rfl, rfl, rfl, by simp, fun k hk hn => Below.heap_setCell _ _ _ _ (fun e => by
    rcases hp with h1 | h1
    · exact hn (e ▸ h1)
    · omega)⟩
theorem Wk.below {a : Lay} {n : Nat} {A B : World} (h : Wk a A B) (hn : n ≤ a.h0) (h5 : ∀ k, k < n → ¬ a.five k) : Below n A B := ⟨h.os, h.tape, h.output, h.size, fun k hk => h.block k (by omega) (h5 k hk)⟩
theorem Wk.blk {a : Lay} {A B : World} {t : TypeId} {g : Nat} {vs : List Value} (h : Wk a A B) (hB : Blk t A g vs) (hg : g < a.h0) (hn : ¬ a.five g) : Blk t B g vs := (h.block g hg hn).trans hB
/-- The links in memory: a list of lists, all cut of one. -/
structure LK (a : Lay) (lv : Value) (lk : List (List (Int × Int))) (W : World) : Prop where
  ex : ∃ (lb sb : Nat) (svs cs : List Value), lv = .slice (some ⟨lb, 0, none⟩) a.N a.N ∧ lb < a.h0 ∧ ¬ a.five lb ∧ sb < a.h0 ∧ ¬ a.five sb ∧ lk.length = a.N ∧ Blk 138 W lb svs ∧ Blk 140 W sb cs ∧
    ∀ (v : Nat) (xs : List (Int × Int)), lk[v]? = some xs → ∃ off c, svs[v]? = some (.slice (some ⟨sb, off, none⟩) xs.length c) ∧ ∀ (j : Nat) (x : Int × Int), xs[j]? = some x → cs[off + j * 2]? = some (.int .i64 x.1) ∧ cs[off + j * 2 + 1]? = some (.int .i64 x.2)
theorem LK.go {a : Lay} {lv : Value} {lk : List (List (Int × Int))} {A B : World} (h : LK a lv lk A) (k : Wk a A B) : LK a lv lk B := by
  obtain ⟨lb, sb, svs, cs, h1, h2, h3, h4, h5, h6, h7, h8, h9⟩ := h.ex
  exact ⟨lb, sb, svs, cs, h1, h2, h3, h4, h5, h6, k.blk h7 h2 h3, k.blk h8 h4 h5, h9⟩
end Go.Proofs.Yteekhofollaooaa

namespace Go.Proofs.Yteekhofollaooaa
open Go Go.Proofs Go.RowKit

theorem WB.setPth {a : Lay} {lv pv pv' ov : Value} {s : WS} {A B : World} {P : List Stp} (h : WB a lv pv ov s A) (hL : LayOK a) (hA : Apart2 pv ov) (hg : A.grownBy B pv.ownBlock) (hlow : ∀ k, pv.ownBlock = some k → a.h0 ≤ k) (hB : B.ownsRow a.h0 142 5 pv' P.length (flatP P)) : WB a lv pv' ov { s with path := P } (B.setCell ⟨a.wb, 5, none⟩ pv') := by
  have hb : ∀ {t : TypeId} {b : Nat} {vs : List Value}, Blk t A b vs → b < a.h0 → Blk t B b vs := fun {t b vs} hB hlt => (hg.block b hB.lt (fun e => by have := hlow b e.symm; omega)).trans hB
  have hbl := (hb h.blk hL.w0).set 5 pv'
  exact ⟨hbl, (hb h.root hL.r0).other (Ne.symm hL.wr) _, (hb h.frm hL.f0).other (Ne.symm hL.wf) _, (hb h.dep hL.d0).other (Ne.symm hL.wd) _, (hb h.bls hL.k0).other (Ne.symm hL.wk) _, owns_lowset hB hL.w0 _, owns_lowset (owns_keep h.opn hg hA.2) hL.w0 _⟩
theorem apart_grown {pv pv' ov : Value} {n : Nat} (hA : Apart2 pv ov) (hat : pv'.ownBlock = pv.ownBlock ∨ pv'.ownBlock = some n) (hov : ∀ k, ov.ownBlock = some k → k < n) : Apart2 pv' ov := by
  rcases hat with h | h
  · unfold Apart2; rw [h]; exact hA
  · refine ⟨.inr ?_, ?_⟩
    · rw [h]
      intro e
      have := hov n e.symm
      omega
    · rw [h]
      cases ho : ov.ownBlock with
      | none => exact .inl rfl
      | some k =>
        have := hov k ho
        exact .inr (by simp; omega)
theorem apart_swap {pv ov : Value} (h : Apart2 pv ov) : Apart2 ov pv := ⟨h.2, h.1⟩
theorem infoSt : (Try.prog.info? 142).map (fun i => (i.zero, i.size, i.bytes)) = some (some (.agg #[.int .i64 0, .int .i64 0, .int .i64 0, .int .i64 0, .int .i64 0]), 5, 40) := by kernel_rfl
theorem news_step (W : World) (y0 y1 y2 y3 y4 : Value) (h0 : y0.oneCell' = true) (h1 : y1.oneCell' = true) (h2 : y2.oneCell' = true) (h3 : y3.oneCell' = true) (h4 : y4.oneCell' = true) : Src (W.alloc (.cells #[y0, y1, y2, y3, y4] 142)).drew (.slice (some ⟨W.heap.size, 0, none⟩) 1 1) 1 5 [y0, y1, y2, y3, y4] := by
  refine .inr ⟨⟨W.heap.size, 0, none⟩, 1, rfl, rfl, fun j u hu => ?_, fun u hu => ?_⟩
  · have hb : Blk 142 (W.alloc (.cells #[y0, y1, y2, y3, y4] 142)).drew W.heap.size [y0, y1, y2, y3, y4] := heap_alloc_new W _
    have e : (⟨W.heap.size, 0, none⟩ : Addr).add j = ⟨W.heap.size, j, none⟩ := by
      simp only [Addr.add]
      by_cases h : j = 0
      · subst h; rfl
      · simp [h]
    rw [e]
    exact hb.cell hu
  · simp at hu
    rcases hu with rfl | rfl | rfl | rfl | rfl <;> assumption
theorem news_step' (W : World) (y0 y1 y2 y3 y4 : Value) (h0 : y0.oneCell' = true) (h1 : y1.oneCell' = true) (h2 : y2.oneCell' = true) (h3 : y3.oneCell' = true) (h4 : y4.oneCell' = true) : Src (W.alloc (.cells #[y0, y1, y2, y3, y4] 142)) (.slice (some ⟨W.heap.size, 0, none⟩) 1 1) 1 5 [y0, y1, y2, y3, y4] := by
  refine .inr ⟨⟨W.heap.size, 0, none⟩, 1, rfl, rfl, fun j u hu => ?_, fun u hu => ?_⟩
  · have hb : Blk 142 (W.alloc (.cells #[y0, y1, y2, y3, y4] 142)) W.heap.size [y0, y1, y2, y3, y4] := heap_alloc_new W _
    have e : (⟨W.heap.size, 0, none⟩ : Addr).add j = ⟨W.heap.size, j, none⟩ := by
      simp only [Addr.add]
      by_cases h : j = 0
      · subst h; rfl
      · simp [h]
    rw [e]
    exact hb.cell hu
  · simp at hu
    rcases hu with rfl | rfl | rfl | rfl | rfl <;> assumption
end Go.Proofs.Yteekhofollaooaa

namespace Go.Proofs.Yteekhofollaooaa
open Go Go.Proofs

section
variable {P : Program} {ops : Array Oper} {Q : Exit → Act → World → Prop} {md : Region.Mode} {S : World → Prop}

/-- All have come up. -/
def allB (ops : Array Oper) (listed : Array Bool) : Bool := (List.range ops.size).all fun k => listed.getD k false
/-- What has come up: what it waits for has, too. -/
def closedB (md : Region.Mode) (ops : Array Oper) (listed : Array Bool) : Bool := (List.range ops.size).all fun k => !(listed.getD k false) || ((ops[k]?).map fun o => o.after.all fun e => !Region.binds md e || listed.getD e.on false).getD true
/-- Another one waits for number i. -/
def nextB (md : Region.Mode) (ops : Array Oper) (i : Nat) : Bool := (List.range ops.size).any fun k => k != i && ((ops[k]?).map fun o => o.after.any fun e => Region.binds md e && e.on == i).getD false

def Closed (md : Region.Mode) (ops : Array Oper) (listed : Array Bool) : Prop := ∀ (k : Nat) (o : Oper), ops[k]? = some o → listed.getD k false = true → ∀ e ∈ o.after, Region.binds md e = true → listed.getD e.on false = true
theorem closed_spec {listed : Array Bool} (h : closedB md ops listed = true) : Closed md ops listed := by
  intro k o ho hk e he hb
  have hlt : k < ops.size := (Array.getElem?_eq_some_iff.1 ho).1
  have h1 := List.all_eq_true.1 h k (List.mem_range.2 hlt)
  rw [hk, ho] at h1
  have h2 : (o.after.all fun e => !Region.binds md e || listed.getD e.on false) = true := by simpa using h1
  rw [Array.all_eq_true_iff_forall_mem] at h2
  have h3 := h2 e he
  rw [hb] at h3
  simpa using h3
theorem next_spec {i : Nat} (h : nextB md ops i = true) : ∃ (k : Nat) (o : Oper), ops[k]? = some o ∧ k ≠ i ∧ ∃ e ∈ o.after, Region.binds md e = true ∧ e.on = i := by
  obtain ⟨k, hk, h1⟩ := List.any_eq_true.1 h
  simp only [Bool.and_eq_true, bne_iff_ne, ne_eq] at h1
  obtain ⟨hne, h2⟩ := h1
  cases ho : ops[k]? with
  | none => rw [ho] at h2; cases h2
  | some o =>
    rw [ho] at h2
    have h3 : (o.after.any fun e => Region.binds md e && e.on == i) = true := h2
    rw [Array.any_eq_true] at h3
    obtain ⟨j, hj, h4⟩ := h3
    simp only [Bool.and_eq_true, beq_iff_eq] at h4
    exact ⟨k, o, ho, hne, _, Array.getElem_mem hj, h4.1, h4.2⟩
theorem all_spec {listed : Array Bool} (h : allB ops listed = true) {k : Nat} (hk : k < ops.size) : listed.getD k false = true := List.all_eq_true.1 h k (List.mem_range.2 hk)
theorem Closed.set {listed : Array Bool} {j : Nat} (hc : Closed md ops listed) (hj : j ∈ Region.ready md ops listed) : Closed md ops (listed.setIfInBounds j true) := by
  intro k o ho hk e he hb
  by_cases hjk : j = k
  · subst hjk
    obtain ⟨_, o', ho', hall⟩ := mem_ready.1 hj
    rw [ho] at ho'
    cases ho'
    exact getD_set_true (hall e he hb)
  · rw [getD_set_ne false hjk] at hk
    exact getD_set_true (hc k o ho hk e he hb)

/-- Whatever order is picked from here on, and S holds behind every operation but the last. -/
def wpAnyL (P : Program) (md : Region.Mode) (ops : Array Oper) (Q : Exit → Act → World → Prop) (S : World → Prop) : Nat → Array Bool → Act → World → Prop
  | 0, listed, a, w => Region.ready md ops listed = [] ∧ Q .normal a w
  | fuel + 1, listed, a, w =>
    (Region.ready md ops listed = [] → Q .normal a w) ∧
    ∀ i ∈ Region.ready md ops listed, wpOp P ops Q i (fun a' w' => (allB ops (listed.setIfInBounds i true) = true ∨ S w') ∧ wpAnyL P md ops Q S fuel (listed.setIfInBounds i true) a' w') a w
theorem wpAny_of_last : ∀ (fuel : Nat) (listed : Array Bool) (a : Act) (w : World), wpAnyL P md ops Q S fuel listed a w → wpAny P md ops Q fuel listed a w
  | 0, _, _, _, h => h
  | fuel + 1, _, _, _, h => ⟨h.1, fun i hi => wpOp_mono (fun a' w' h' => wpAny_of_last fuel _ a' w' h'.2) (h.2 i hi)⟩
theorem wpAnyL_first {i : Nat} {oi : Oper} {v : Value} (hi : ops[i]? = some oi) (hsel : ∀ (j : Nat) (o : Oper) cs b, ops[j]? = some o → o.op ≠ .select cs b)
    (hQ : ∀ c a w, Q (.panic c) (a.put oi.dst v) w → Q (.panic c) a w) (hnx : nextB md ops i = true) :
    ∀ (fuel : Nat) (listed : Array Bool) (a : Act) (w : World),
      (∀ j oj, ops[j]? = some oj → j ≠ i → listed.getD j true = false → (∀ e ∈ oj.after, Region.binds md e = true → e.on ≠ i) → oi.apart ops oj = true) → Closed md ops listed →
      i ∈ Region.ready md ops listed → YieldsIf P ops S oi v a → S w →
      wpAnyL P md ops Q S fuel (listed.setIfInBounds i true) (a.put oi.dst v) w → wpAnyL P md ops Q S (fuel + 1) listed a w := by
  intro fuel
  induction fuel with
  | zero =>
    intro listed a w _ _ hr hy hS H
    refine ⟨fun h => (by rw [h] at hr; cases hr), fun j hj => ?_⟩
    by_cases hji : j = i
    · subst hji; exact hy.wpOp hi hS ⟨.inr hS, H⟩
    · have := ready_mono hj hji
      rw [H.1] at this
      cases this
  | succ fuel ih =>
    intro listed a w hfree hcl hr hy hS H
    refine ⟨fun h => (by rw [h] at hr; cases hr), fun j hj => ?_⟩
    by_cases hji : j = i
    · subst hji; exact hy.wpOp hi hS ⟨.inr hS, H⟩
    · have h1 := H.2 j (ready_mono hj hji)
      obtain ⟨hjun, oj, hoj, hall⟩ := mem_ready.1 hj
      have hun : ¬ listed.getD i false = true := fun h1 => by
        have h0 := (mem_ready.1 hr).1
        rcases Nat.lt_or_ge i listed.size with h' | h'
        · simp [h'] at h0 h1; rw [h0] at h1; cases h1
        · simp [Array.getElem?_eq_none h'] at h1
      have hnot : ∀ e ∈ oj.after, Region.binds md e = true → e.on ≠ i := fun e he hb heq => hun (heq ▸ hall e he hb)
      have h2 := wpOp_putIf hoj (hfree j oj hoj hji hjun hnot) (fun cs b => hsel i oi cs b hi) (fun cs b => hsel j oj cs b hoj) hQ hy h1
      have hfree' : ∀ k ok, ops[k]? = some ok → k ≠ i → (listed.setIfInBounds j true).getD k true = false →
          (∀ e ∈ ok.after, Region.binds md e = true → e.on ≠ i) → oi.apart ops ok = true := fun k ok hk hki hun hno => by
        refine hfree k ok hk hki ?_ hno
        by_cases hjk : j = k
        · subst hjk; exact hjun
        · rw [getD_set_ne true hjk] at hun; exact hun
      refine wpOp_mono (fun a' w' h3 => ?_) h2
      obtain ⟨h4, h5, h6⟩ := h3
      rcases h5 with h5 | h5
      · obtain ⟨k, ok, hok, hki, e, he, hb, heq⟩ := next_spec hnx
        have hk := all_spec h5 (Array.getElem?_eq_some_iff.1 hok).1
        by_cases hjk : j = k
        · subst hjk
          rw [hoj] at hok
          cases hok
          exact absurd heq (hnot e he hb)
        · rw [getD_set_ne false hjk, getD_set_ne false (Ne.symm hki)] at hk
          exact absurd (heq ▸ hcl k ok hok hk e he hb) hun
      · refine ⟨.inr h5, ih (listed.setIfInBounds j true) a' w' hfree' (hcl.set hj) (ready_mono hr (Ne.symm hji)) h4 h5 ?_⟩
        rw [Array.setIfInBounds_comm _ _ hji]
        exact h6
theorem wpAnyL_take {i : Nat} {oi : Oper} {v : Value} {fuel : Nat} {listed : Array Bool} {a : Act} {w : World} (hi : ops[i]? = some oi)
    (hs : Region.noSelect ops = true) (hf : Region.free md ops listed i = true) (hr : (Region.ready md ops listed).contains i = true) (hc : (nextB md ops i && closedB md ops listed) = true)
    (hQ : ∀ c a w, Q (.panic c) (a.put oi.dst v) w → Q (.panic c) a w) (hy : YieldsIf P ops S oi v a) (hS : S w)
    (h : wpAnyL P md ops Q S fuel (listed.setIfInBounds i true) (a.put oi.dst v) w) : wpAnyL P md ops Q S (fuel + 1) listed a w := by
  rw [Bool.and_eq_true] at hc
  exact wpAnyL_first hi (Region.noSelect_spec hs) hQ hc.1 fuel listed a w (Region.free_spec hi hf) (closed_spec hc.2) (by simpa using hr) hy hS h
theorem wpAnyL_done {listed : Array Bool} {a : Act} {w : World} (hr : Region.ready md ops listed = []) (h : Q .normal a w) : ∀ fuel, wpAnyL P md ops Q S fuel listed a w
  | 0 => ⟨hr, h⟩
  | _ + 1 => ⟨fun _ => h, by rw [hr]; simp⟩
def AllReadyL (P : Program) (md : Region.Mode) (ops : Array Oper) (Q : Exit → Act → World → Prop) (S : World → Prop) (fuel : Nat) (listed : Array Bool) (a : Act) (w : World) (rs : List Nat) : Prop :=
  ∀ i ∈ rs, wpOp P ops Q i (fun a' w' => (allB ops (listed.setIfInBounds i true) = true ∨ S w') ∧ wpAnyL P md ops Q S fuel (listed.setIfInBounds i true) a' w') a w
theorem AllReadyL.nil {fuel : Nat} {listed : Array Bool} {a : Act} {w : World} : AllReadyL P md ops Q S fuel listed a w [] := fun _ h => by cases h
theorem AllReadyL.cons {fuel : Nat} {listed : Array Bool} {a : Act} {w : World} {i : Nat} {o : Oper} {rs : List Nat} (ho : ops[i]? = some o)
    (h : ∀ K' : Act → World → Prop, Shut (∀ a w, S w → (S w → wpAnyL P md ops Q S fuel (listed.setIfInBounds i true) a w) → K' a w) → if Region.wanted o (yielded ops a.tmps) = true then Oper.wp P o a w K' Q else K' (a.put o.dst undef) w)
    (hs : AllReadyL P md ops Q S fuel listed a w rs) : AllReadyL P md ops Q S fuel listed a w (i :: rs) := fun j hj => by
  rcases List.mem_cons.1 hj with rfl | hj
  · exact wpOp_step ho (fun K' hK => h K' (fun a w hS hW => hK a w ⟨.inr hS, hW hS⟩))
  · exact hs j hj
/-- The last one: nothing is to be held behind it. -/
theorem AllReadyL.last {fuel : Nat} {listed : Array Bool} {a : Act} {w : World} {i : Nat} {o : Oper} (ho : ops[i]? = some o) (ha : allB ops (listed.setIfInBounds i true) = true)
    (h : ∀ K' : Act → World → Prop, Shut (∀ a w, wpAnyL P md ops Q S fuel (listed.setIfInBounds i true) a w → K' a w) → if Region.wanted o (yielded ops a.tmps) = true then Oper.wp P o a w K' Q else K' (a.put o.dst undef) w) : AllReadyL P md ops Q S fuel listed a w [i] := fun j hj => by
  obtain rfl := List.mem_singleton.1 hj
  exact wpOp_step ho (fun K' hK => h K' (fun a w hW => hK a w ⟨.inl ha, hW⟩))
theorem wpAnyL_ready {rs : List Nat} {fuel : Nat} {listed : Array Bool} {a : Act} {w : World} (hr : Region.ready md ops listed = rs) (hne : rs ≠ [])
    (h : AllReadyL P md ops Q S fuel listed a w rs) : wpAnyL P md ops Q S (fuel + 1) listed a w := ⟨fun h0 => absurd (hr ▸ h0) hne, hr ▸ h⟩
theorem wp_region_last {id : Nat} {a : Act} {w : World} (hm : P.follows .mixedOrders = true) (hS : S w.drew)
    (h : S w.drew → wpAnyL P .any ops Q S ops.size (Array.replicate ops.size false) a w.drew) : (Code.region id ops true).wp P Q a w :=
  wp_region_any hm (wpAny_of_last _ _ _ _ (h hS))
end

end Go.Proofs.Yteekhofollaooaa
