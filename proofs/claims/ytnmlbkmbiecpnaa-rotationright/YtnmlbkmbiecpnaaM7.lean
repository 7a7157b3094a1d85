/-
  (*walk).look: a link that leads to a vertex that is as deep, or deeper: nothing is done.
-/
import Derived.Deep.QuietTactic
import Derived.BigQuiet
import Derived.Test.YtnmlbkmbiecpnaaM6
namespace Go.Proofs.Ytnmlbkmbiecpnaa
open Go Go.Proofs Go.RowKit

/-- The cells of the step on top. -/
theorem WB.top {a : Lay} {lv ov : Value} {s : WS} {W : World} {pb cap : Nat} {init : List Stp} {top : Stp} (h : WB a lv (.slice (some ⟨pb, 0, none⟩) s.path.length cap) ov s W) (hp : s.path = init ++ [top]) :
    W.cell? ⟨pb, init.length * 5, none⟩ = some (.int .i64 top.v) ∧ W.cell? ⟨pb, init.length * 5 + 1, none⟩ = some (.int .i64 top.by_) ∧ W.cell? ⟨pb, init.length * 5 + 2, none⟩ = some (.int .i64 (top.next : Int)) ∧ W.cell? ⟨pb, init.length * 5 + 3, none⟩ = some (.int .i64 top.low) ∧ W.cell? ⟨pb, init.length * 5 + 4, none⟩ = some (.int .i64 (top.opn : Int)) := by
  have hl : s.path.length = init.length + 1 := by rw [hp]; simp
  have hx : flatP s.path = flatP init ++ encS top := by rw [hp, flatP_app]; simp [flatP]
  have hfl := flatP_len init
  have at5 : ∀ (j : Nat) (u : Value), (encS top)[j]? = some u → W.cell? ⟨pb, init.length * 5 + j, none⟩ = some u := fun j u hu => by
    have hj := (List.getElem?_eq_some_iff.1 hu).1
    have h5 : (encS top).length = 5 := rfl
    have := h.way.cellAt (init.length * 5 + j) (by omega)
    rw [this, hx, List.getElem?_append_right (by omega), hfl, Nat.add_sub_cancel_left]
    exact hu
  exact ⟨at5 0 _ rfl, at5 1 _ rfl, at5 2 _ rfl, at5 3 _ rfl, at5 4 _ rfl⟩

set_option maxRecDepth 100000 in
set_option maxHeartbeats 4000000 in
theorem look_idle (a : Lay) (lv ov : Value) (s : WS) (init : List Stp) (top : Stp) (pb cap v u : Nat) (pl : Int) (hp : s.path = init ++ [top]) (hv : top.v = (v : Int)) (hvN : v < a.N) (huN : u < a.N) (hN : a.N ≤ 1048576) (hD : s.depth.length = a.N) (h1 : 0 ≤ s.depth.getD u 0) (h2 : s.depth.getD v 0 ≤ s.depth.getD u 0) (w : World) (h : WB a lv (.slice (some ⟨pb, 0, none⟩) s.path.length cap) ov s w) :
    Calls Try.prog 99 #[.pointer (some ⟨a.wb, 0, none⟩), .pointer (some ⟨pb, init.length * 5, none⟩), .agg #[.int .i64 (u : Int), .int .i64 pl]] w fun e w' => e = .returned (.tuple #[]) ∧ Below w.heap.size w w' := by
  have hmix := mixed
  have hb1 : Below w.heap.size w (w.alloc (.cells #[.int .i64 (u : Int), .int .i64 pl] 118)) := (Below.refl _ _).alloc (Nat.le_refl _) _
  have hX : Blk 118 (w.alloc (.cells #[.int .i64 (u : Int), .int .i64 pl] 118)) w.heap.size [.int .i64 (u : Int), .int .i64 pl] := heap_alloc_new w _
  have h' := h.go hb1
  have b3 := h'.blk.cell (j := 3) rfl
  obtain ⟨p0, -, -, -, -⟩ := h'.top hp
  rw [hv] at p0
  have x0 := hX.cell (j := 0) rfl
  have hvN' : (v : Int) < (a.N : Int) := by omega
  have huN' : (u : Int) < (a.N : Int) := by omega
  have t0 : (w.alloc (.cells #[.int .i64 (u : Int), .int .i64 pl] 118)).cell? ⟨a.db, v, none⟩ = some (.int .i64 (s.depth.getD v 0)) := h'.dep.cell (by rw [List.getElem?_map, List.getElem?_eq_getElem (by omega)]; simp [show v < s.depth.length by omega])
  have t1 : (w.alloc (.cells #[.int .i64 (u : Int), .int .i64 pl] 118)).cell? ⟨a.db, u, none⟩ = some (.int .i64 (s.depth.getD u 0)) := h'.dep.cell (by rw [List.getElem?_map, List.getElem?_eq_getElem (by omega)]; simp [show u < s.depth.length by omega])
  obtain ⟨N, M, wb, rb, fb, db, kb, h0⟩ := a
  simp only at *
  generalize s.depth.getD u 0 = du at *
  generalize s.depth.getD v 0 = dv at *
  have h1' : ¬ du < 0 := by omega
  have h2' : ¬ du < dv := by omega
  generalize init.length * 5 = off at *
  clear h h' hD hX hp hv
  go_enter Try.func99, Try.ntmps99
  go_wp2
  go_quiet (fail)
  have hbq : Below w.heap.size w ((w.alloc (.cells #[.int .i64 (u : Int), .int .i64 pl] 118)).drewN nq) := below_drewN hb1 nq
  generalize (w.alloc (.cells #[.int .i64 (u : Int), .int .i64 pl] 118)).drewN nq = w5 at hbq ⊢
  go_wp2
  refine bodyPost_end (results_none rfl _ _ _) rfl ?_
  exact ⟨rfl, hbq⟩

end Go.Proofs.Ytnmlbkmbiecpnaa

namespace Go.Proofs.Ytnmlbkmbiecpnaa
open Go Go.Proofs Go.RowKit

theorem flatP_low (init : List Stp) (top : Stp) (x : Int) : (flatP (init ++ [top])).set (init.length * 5 + 3) (.int .i64 x) = flatP (init ++ [{ top with low := x }]) := by
  rw [flatP_app, flatP_app, List.set_append_right _ _ (by rw [flatP_len]; omega), flatP_len, Nat.add_sub_cancel_left]
  rfl
theorem flatP_next (init : List Stp) (top : Stp) (x : Nat) : (flatP (init ++ [top])).set (init.length * 5 + 2) (.int .i64 (x : Int)) = flatP (init ++ [{ top with next := x }]) := by
  rw [flatP_app, flatP_app, List.set_append_right _ _ (by rw [flatP_len]; omega), flatP_len, Nat.add_sub_cancel_left]
  rfl
/-- The two stacks lie apart. -/
def Apart2 (pv ov : Value) : Prop := (pv.ownBlock = none ∨ pv.ownBlock ≠ ov.ownBlock) ∧ (ov.ownBlock = none ∨ ov.ownBlock ≠ pv.ownBlock)
theorem WB.setWay {a : Lay} {lv ov : Value} {s : WS} {W : World} {pb cap : Nat} (h : WB a lv (.slice (some ⟨pb, 0, none⟩) s.path.length cap) ov s W) (hL : LayOK a) (hA : Apart2 (.slice (some ⟨pb, 0, none⟩) s.path.length cap) ov) {j : Nat} {u : Value} {P : List Stp} (hP : (flatP s.path).set j u = flatP P) (hl : P.length = s.path.length) : WB a lv (.slice (some ⟨pb, 0, none⟩) P.length cap) ov { s with path := P } (W.setCell ⟨pb, j, none⟩ u) := by
  obtain ⟨h1, h2⟩ := h.way.stored j u
  have hb := h.way.lt pb rfl
  rw [hP] at h1
  have hlo : ∀ {t : TypeId} {b : Nat} {vs : List Value}, Blk t W b vs → b < a.h0 → Blk t (W.setCell ⟨pb, j, none⟩ u) b vs := fun hB hlt => hB.other (by simp only; omega) _
  refine ⟨hlo h.blk hL.w0 |> fun x => ?_, hlo h.root hL.r0, hlo h.frm hL.f0, hlo h.dep hL.d0, hlo h.bls hL.k0, by rw [hl]; exact h1, owns_keep h.opn h2 hA.2⟩
  rw [hl]
  exact x
theorem WB.setOpn {a : Lay} {lv pv ov ov' : Value} {s : WS} {A B : World} {P : List Int} (h : WB a lv pv ov s A) (hL : LayOK a) (hA : Apart2 pv ov) (hg : A.grownBy B ov.ownBlock) (hlow : ∀ k, ov.ownBlock = some k → a.h0 ≤ k) (hB : B.ownsRow a.h0 3 1 ov' P.length (P.map (Value.int .i64))) : WB a lv pv ov' { s with opn := P } (B.setCell ⟨a.wb, 6, none⟩ ov') := by
  have hb : ∀ {t : TypeId} {b : Nat} {vs : List Value}, Blk t A b vs → b < a.h0 → Blk t B b vs := fun {t b vs} hB hlt => (hg.block b hB.lt (fun e => by have := hlow b e.symm; omega)).trans hB
  have hbl := (hb h.blk hL.w0).set 6 ov'
  exact ⟨hbl, (hb h.root hL.r0).other (Ne.symm hL.wr) _, (hb h.frm hL.f0).other (Ne.symm hL.wf) _, (hb h.dep hL.d0).other (Ne.symm hL.wd) _, (hb h.bls hL.k0).other (Ne.symm hL.wk) _, owns_lowset (owns_keep h.way hg hA.1) hL.w0 _, owns_lowset hB hL.w0 _⟩
end Go.Proofs.Ytnmlbkmbiecpnaa

namespace Go.Proofs.Ytnmlbkmbiecpnaa
open Go Go.Proofs Go.RowKit

def Lay.five (a : Lay) (k : Nat) : Prop := k = a.wb ∨ k = a.rb ∨ k = a.fb ∨ k = a.db ∨ k = a.kb
structure Wk (a : Lay) (A B : World) : Prop where
  os : B.os = A.os
  tape : B.tape = A.tape
  output : B.output = A.output
  size : A.heap.size ≤ B.heap.size
  block : ∀ k, k < a.h0 → ¬ a.five k → B.heap[k]? = A.heap[k]?
theorem Wk.refl (a : Lay) (A : World) : Wk a A A := ⟨rfl, rfl, rfl, Nat.le_refl _, fun _ _ _ => rfl⟩
theorem Wk.trans {a : Lay} {A B C : World} (h : Wk a A B) (k : Wk a B C) : Wk a A C :=
  ⟨k.os.trans h.os, k.tape.trans h.tape, k.output.trans h.output, Nat.le_trans h.size k.size, fun i hi hn => (k.block i hi hn).trans (h.block i hi hn)⟩
theorem Wk.of_below {a : Lay} {n : Nat} {A B : World} (h : Below n A B) (hn : a.h0 ≤ n) : Wk a A B := ⟨h.os, h.tape, h.output, h.size, fun k hk _ => h.block k (by omega)⟩
theorem Wk.grown {a : Lay} {A B : World} {row : Option Nat} (h : A.grownBy B row) (hs : a.h0 ≤ A.heap.size) (hr : ∀ k, row = some k → a.h0 ≤ k) : Wk a A B :=
  ⟨h.os, h.tape, h.output, h.size, fun k hk _ => h.block k (by omega) (fun e => by have := hr k e.symm; omega)⟩
theorem Wk.set {a : Lay} {A B : World} (h : Wk a A B) {p : Addr} (hp : a.five p.block ∨ a.h0 ≤ p.block) (u : Value) : Wk a A (B.setCell p u) :=
  h.trans ⟨rfl, rfl, rfl, by simp, fun k hk hn => Below.heap_setCell _ _ _ _ (fun e => by
    rcases hp with h1 | h1
    · exact hn (e ▸ h1)
    · omega)⟩
theorem Wk.below {a : Lay} {n : Nat} {A B : World} (h : Wk a A B) (hn : n ≤ a.h0) (h5 : ∀ k, k < n → ¬ a.five k) : Below n A B := ⟨h.os, h.tape, h.output, h.size, fun k hk => h.block k (by omega) (h5 k hk)⟩
theorem Wk.blk {a : Lay} {A B : World} {t : TypeId} {g : Nat} {vs : List Value} (h : Wk a A B) (hB : Blk t A g vs) (hg : g < a.h0) (hn : ¬ a.five g) : Blk t B g vs := (h.block g hg hn).trans hB
/-- The links in memory: a list of lists, all cut of one. -/
structure LK (a : Lay) (lv : Value) (lk : List (List (Int × Int))) (W : World) : Prop where
  ex : ∃ (lb sb : Nat) (svs cs : List Value), lv = .slice (some ⟨lb, 0, none⟩) a.N a.N ∧ lb < a.h0 ∧ ¬ a.five lb ∧ sb < a.h0 ∧ ¬ a.five sb ∧ lk.length = a.N ∧ Blk 116 W lb svs ∧ Blk 118 W sb cs ∧
    ∀ (v : Nat) (xs : List (Int × Int)), lk[v]? = some xs → ∃ off c, svs[v]? = some (.slice (some ⟨sb, off, none⟩) xs.length c) ∧ ∀ (j : Nat) (x : Int × Int), xs[j]? = some x → cs[off + j * 2]? = some (.int .i64 x.1) ∧ cs[off + j * 2 + 1]? = some (.int .i64 x.2)
theorem LK.go {a : Lay} {lv : Value} {lk : List (List (Int × Int))} {A B : World} (h : LK a lv lk A) (k : Wk a A B) : LK a lv lk B := by
  obtain ⟨lb, sb, svs, cs, h1, h2, h3, h4, h5, h6, h7, h8, h9⟩ := h.ex
  exact ⟨lb, sb, svs, cs, h1, h2, h3, h4, h5, h6, k.blk h7 h2 h3, k.blk h8 h4 h5, h9⟩
end Go.Proofs.Ytnmlbkmbiecpnaa
