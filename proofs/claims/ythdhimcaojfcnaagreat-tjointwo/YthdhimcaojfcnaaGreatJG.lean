/-
  Of two vertices with one edge: the forest in memory, fifteen blocks.
-/
import Derived.Test.YthdhimcaojfcnaaGreatJF
import Derived.OwnWalk
import Derived.Test.YthdhimcaojfcnaaGreatXWaGrp
import Derived.Deep.QuietTactic
import Derived.BigQuiet
import Derived.Deep.RegionHeld3
namespace Go.Proofs.YthdhimcaojfcnaaGreat
open Go Go.Proofs Go.RowKit

/-- The blocks' types. -/
def tyF (i : Nat) : TypeId := if i = 0 then 105 else if i = 1 then 109 else if i = 2 then 2 else if i = 3 then 3 else if i = 4 then 3 else if i = 5 then 25 else if i = 6 then 3 else if i = 7 then 3 else if i = 8 then 41 else if i = 9 then 2 else if i = 10 then 2 else if i = 11 then 107 else 102
def sl2 (b : Nat) : Value := .slice (some ⟨b, 0, none⟩) 2 2
def sl3 (b : Nat) : Value := .slice (some ⟨b, 0, none⟩) 3 3
def nodeV (s vf vt nf nt h b : Int) : List Value := [.int .i64 s, .int .i64 vf, .int .i64 vt, .int .i64 nf, .int .i64 nt, .int .i64 h, .int .i64 b, .slice none 0 0, .slice none 0 0, .int .i64 0]
/-- What turns in the course of things. -/
structure FV where
  sp : Value
  nd : List Value
  y : List Value
  mt : List Value
  tp : List Value
  t0 : List Value
  t1 : List Value
  e0 : List Value
  e1 : List Value
  e2 : List Value
/-- The blocks' cells. -/
def ctF (Bk : Nat → Nat) (ev : Value) (V : FV) (i : Nat) : List Value :=
  if i = 0 then [.int .i64 2, ev, .slice (some ⟨Bk 1, 0, none⟩) 3 3, V.sp, .slice (some ⟨Bk 2, 0, none⟩) 2 2, .slice (some ⟨Bk 3, 0, none⟩) 2 2, .slice (some ⟨Bk 4, 0, none⟩) 2 2, .slice (some ⟨Bk 5, 0, none⟩) 2 2, .slice (some ⟨Bk 8, 0, none⟩) 2 2, .slice (some ⟨Bk 11, 0, none⟩) 3 3]
  else if i = 1 then V.nd else if i = 2 then V.y else if i = 3 then V.mt else if i = 4 then V.tp
  else if i = 5 then [.slice (some ⟨Bk 6, 0, none⟩) 2 2, .slice (some ⟨Bk 7, 0, none⟩) 2 2] else if i = 6 then [.int .i64 (-1), .int .i64 0] else if i = 7 then [.int .i64 0, .int .i64 (-1)]
  else if i = 8 then [.slice (some ⟨Bk 9, 0, none⟩) 2 2, .slice (some ⟨Bk 10, 0, none⟩) 2 2] else if i = 9 then V.t0 else if i = 10 then V.t1
  else if i = 11 then [.slice (some ⟨Bk 12, 0, none⟩) 3 3, .slice (some ⟨Bk 13, 0, none⟩) 3 3, .slice (some ⟨Bk 14, 0, none⟩) 3 3] else if i = 12 then V.e0 else if i = 13 then V.e1 else V.e2
/-- What stays. -/
structure FP (x : Nat) (w0 : World) (Bk : Nat → Nat) (b off c : Nat) : Prop where
  inj : ∀ i j, i < 15 → j < 15 → Bk i = Bk j → i = j
  lo : ∀ i, i < 15 → x ≤ Bk i
  edge : ∀ W', Below x w0 W' → W'.cell? ⟨b, off, none⟩ = some (.int .i64 1) ∧ W'.cell? ⟨b, off + 1, none⟩ = some (.int .i64 0) ∧ W'.cell? ⟨b, off + 2, none⟩ = some (.int .i64 (c : Int))
  small : c < 1099511627776
  below : b < x
theorem FP.ne {x : Nat} {w0 : World} {Bk : Nat → Nat} {b off c : Nat} (h : FP x w0 Bk b off c) {i j : Nat} (hi : i < 15) (hj : j < 15) (hne : i ≠ j) : Bk i ≠ Bk j := fun e => hne (h.inj i j hi hj e)
structure FM (x : Nat) (w0 : World) (Bk : Nat → Nat) (ev : Value) (V : FV) (W : World) : Prop where
  mem : ∀ i, i < 15 → Blk (tyF i) W (Bk i) (ctF Bk ev V i)
  bel : Below x w0 W
theorem FM.go {x : Nat} {w0 : World} {Bk : Nat → Nat} {ev : Value} {V : FV} {W W' : World} (h : FM x w0 Bk ev V W) (hx : x ≤ W.heap.size) (hb : Below W.heap.size W W') : FM x w0 Bk ev V W' :=
  ⟨fun i hi => (h.mem i hi).go hb, h.bel.trans (hb.mono hx)⟩
theorem FM.drewN {x : Nat} {w0 : World} {Bk : Nat → Nat} {ev : Value} {V : FV} {W : World} (h : FM x w0 Bk ev V W) (n : Nat) : FM x w0 Bk ev V (W.drewN n) := ⟨h.mem, below_drewN h.bel n⟩
theorem FM.drew {x : Nat} {w0 : World} {Bk : Nat → Nat} {ev : Value} {V : FV} {W : World} (h : FM x w0 Bk ev V W) : FM x w0 Bk ev V W.drew := ⟨h.mem, below_drewN h.bel 1⟩
theorem FM.cell {x : Nat} {w0 : World} {Bk : Nat → Nat} {ev : Value} {V : FV} {W : World} (h : FM x w0 Bk ev V W) (i k : Nat) (hi : i < 15) {v : Value} (hv : (ctF Bk ev V i)[k]? = some v) : W.cell? ⟨Bk i, k, none⟩ = some v := (h.mem i hi).cell hv
theorem FM.frozen {x : Nat} {w0 : World} {Bk : Nat → Nat} {ev : Value} {V : FV} {W : World} (h : FM x w0 Bk ev V W) (i k : Nat) (hi : i < 15) : W.frozen? ⟨Bk i, k, none⟩ = false := (h.mem i hi).frozen k
theorem FM.lt {x : Nat} {w0 : World} {Bk : Nat → Nat} {ev : Value} {V : FV} {W : World} (h : FM x w0 Bk ev V W) (i : Nat) (hi : i < 15) : Bk i < W.heap.size := (h.mem i hi).lt
/-- A cell of block i is set. -/
theorem FM.set {x : Nat} {w0 : World} {Bk : Nat → Nat} {b off c : Nat} {ev : Value} {V V' : FV} {W : World} (h : FM x w0 Bk ev V W) (P : FP x w0 Bk b off c) (i k : Nat) (v : Value) (hi : i < 15) (hs : ∀ j, j < 15 → ctF Bk ev V' j = if j = i then (ctF Bk ev V i).set k v else ctF Bk ev V j) : FM x w0 Bk ev V' (W.setCell ⟨Bk i, k, none⟩ v) := by
  refine ⟨fun j hj => ?_, h.bel.setCell (p := ⟨Bk i, k, none⟩) (P.lo i hi) _⟩
  rw [hs j hj]
  by_cases e : j = i
  · subst e; rw [if_pos rfl]; exact (h.mem j hj).set k v
  · rw [if_neg e]; exact (h.mem j hj).other (p := ⟨Bk i, k, none⟩) (P.ne hj hi e) v
section
variable {x : Nat} {w0 : World} {Bk : Nat → Nat} {b off c : Nat} {ev : Value} {W : World} {sp : Value} {nd y mt tp t0 t1 e0 e1 e2 : List Value}
theorem cases15 {p : Nat → Prop} (h0 : p 0) (h1 : p 1) (h2 : p 2) (h3 : p 3) (h4 : p 4) (h5 : p 5) (h6 : p 6) (h7 : p 7) (h8 : p 8) (h9 : p 9) (h10 : p 10) (h11 : p 11) (h12 : p 12) (h13 : p 13) (h14 : p 14) : ∀ j, j < 15 → p j := by
  intro j hj
  have : j = 0 ∨ j = 1 ∨ j = 2 ∨ j = 3 ∨ j = 4 ∨ j = 5 ∨ j = 6 ∨ j = 7 ∨ j = 8 ∨ j = 9 ∨ j = 10 ∨ j = 11 ∨ j = 12 ∨ j = 13 ∨ j = 14 := by omega
  rcases this with rfl | rfl | rfl | rfl | rfl | rfl | rfl | rfl | rfl | rfl | rfl | rfl | rfl | rfl | rfl <;> assumption
theorem FM.setSp (h : FM x w0 Bk ev ⟨sp, nd, y, mt, tp, t0, t1, e0, e1, e2⟩ W) (P : FP x w0 Bk b off c) (v : Value) : FM x w0 Bk ev ⟨v, nd, y, mt, tp, t0, t1, e0, e1, e2⟩ (W.setCell ⟨Bk 0, 3, none⟩ v) := h.set P 0 3 v (by omega) (cases15 rfl rfl rfl rfl rfl rfl rfl rfl rfl rfl rfl rfl rfl rfl rfl)
theorem FM.setN (h : FM x w0 Bk ev ⟨sp, nd, y, mt, tp, t0, t1, e0, e1, e2⟩ W) (P : FP x w0 Bk b off c) (k : Nat) (v : Value) : FM x w0 Bk ev ⟨sp, nd.set k v, y, mt, tp, t0, t1, e0, e1, e2⟩ (W.setCell ⟨Bk 1, k, none⟩ v) := h.set P 1 k v (by omega) (cases15 rfl rfl rfl rfl rfl rfl rfl rfl rfl rfl rfl rfl rfl rfl rfl)
theorem FM.setY (h : FM x w0 Bk ev ⟨sp, nd, y, mt, tp, t0, t1, e0, e1, e2⟩ W) (P : FP x w0 Bk b off c) (k : Nat) (v : Value) : FM x w0 Bk ev ⟨sp, nd, y.set k v, mt, tp, t0, t1, e0, e1, e2⟩ (W.setCell ⟨Bk 2, k, none⟩ v) := h.set P 2 k v (by omega) (cases15 rfl rfl rfl rfl rfl rfl rfl rfl rfl rfl rfl rfl rfl rfl rfl)
theorem FM.setM (h : FM x w0 Bk ev ⟨sp, nd, y, mt, tp, t0, t1, e0, e1, e2⟩ W) (P : FP x w0 Bk b off c) (k : Nat) (v : Value) : FM x w0 Bk ev ⟨sp, nd, y, mt.set k v, tp, t0, t1, e0, e1, e2⟩ (W.setCell ⟨Bk 3, k, none⟩ v) := h.set P 3 k v (by omega) (cases15 rfl rfl rfl rfl rfl rfl rfl rfl rfl rfl rfl rfl rfl rfl rfl)
theorem FM.setT (h : FM x w0 Bk ev ⟨sp, nd, y, mt, tp, t0, t1, e0, e1, e2⟩ W) (P : FP x w0 Bk b off c) (k : Nat) (v : Value) : FM x w0 Bk ev ⟨sp, nd, y, mt, tp.set k v, t0, t1, e0, e1, e2⟩ (W.setCell ⟨Bk 4, k, none⟩ v) := h.set P 4 k v (by omega) (cases15 rfl rfl rfl rfl rfl rfl rfl rfl rfl rfl rfl rfl rfl rfl rfl)
theorem FM.setT0 (h : FM x w0 Bk ev ⟨sp, nd, y, mt, tp, t0, t1, e0, e1, e2⟩ W) (P : FP x w0 Bk b off c) (k : Nat) (v : Value) : FM x w0 Bk ev ⟨sp, nd, y, mt, tp, t0.set k v, t1, e0, e1, e2⟩ (W.setCell ⟨Bk 9, k, none⟩ v) := h.set P 9 k v (by omega) (cases15 rfl rfl rfl rfl rfl rfl rfl rfl rfl rfl rfl rfl rfl rfl rfl)
theorem FM.setT1 (h : FM x w0 Bk ev ⟨sp, nd, y, mt, tp, t0, t1, e0, e1, e2⟩ W) (P : FP x w0 Bk b off c) (k : Nat) (v : Value) : FM x w0 Bk ev ⟨sp, nd, y, mt, tp, t0, t1.set k v, e0, e1, e2⟩ (W.setCell ⟨Bk 10, k, none⟩ v) := h.set P 10 k v (by omega) (cases15 rfl rfl rfl rfl rfl rfl rfl rfl rfl rfl rfl rfl rfl rfl rfl)
theorem FM.setE0 (h : FM x w0 Bk ev ⟨sp, nd, y, mt, tp, t0, t1, e0, e1, e2⟩ W) (P : FP x w0 Bk b off c) (k : Nat) (v : Value) : FM x w0 Bk ev ⟨sp, nd, y, mt, tp, t0, t1, e0.set k v, e1, e2⟩ (W.setCell ⟨Bk 12, k, none⟩ v) := h.set P 12 k v (by omega) (cases15 rfl rfl rfl rfl rfl rfl rfl rfl rfl rfl rfl rfl rfl rfl rfl)
theorem FM.setE1 (h : FM x w0 Bk ev ⟨sp, nd, y, mt, tp, t0, t1, e0, e1, e2⟩ W) (P : FP x w0 Bk b off c) (k : Nat) (v : Value) : FM x w0 Bk ev ⟨sp, nd, y, mt, tp, t0, t1, e0, e1.set k v, e2⟩ (W.setCell ⟨Bk 13, k, none⟩ v) := h.set P 13 k v (by omega) (cases15 rfl rfl rfl rfl rfl rfl rfl rfl rfl rfl rfl rfl rfl rfl rfl)
end
/-! ### The states on the way -/
def NA : List Value := nodeV 0 0 0 0 0 (-1) 0
def NB : List Value := nodeV 0 0 0 0 0 (-1) 1
def NC : List Value := nodeV 0 0 0 0 0 (-2) 0
def VI (c : Nat) (sp : Value) (nd tp t0 t1 e0 e1 : List Value) : FV := ⟨sp, nd, [.int .i64 (-(c : Int)), .int .i64 (-(c : Int))], [.int .i64 (-1), .int .i64 (-1)], tp, t0, t1, e0, e1, linkN⟩
def z2 : List Value := [.int .i64 0, .int .i64 0]
def w01 : List Value := [.int .i64 0, .int .i64 1]
/-- As it is made; with one vertex, with two; with the spare number; laid. -/
def V0 (c : Nat) : FV := VI c (.slice none 0 0) (nodeZ ++ (nodeZ ++ nodeZ)) z2 z2 z2 linkN linkN
def V1 (c : Nat) : FV := VI c (.slice none 0 0) (NA ++ (nodeZ ++ nodeZ)) z2 z2 z2 linkN linkN
def V2 (c : Nat) : FV := VI c (.slice none 0 0) (NA ++ (NB ++ nodeZ)) w01 z2 z2 linkN linkN
def V3 (c : Nat) (sp : Value) : FV := VI c sp (NA ++ (NB ++ NC)) w01 z2 z2 linkN linkN
def eA : List Value := [.int .i64 (-1), .int .i64 (-1), .int .i64 0, .int .i64 1, .int .i64 (-1), .int .i64 (-1)]
def eB : List Value := [.int .i64 1, .int .i64 0, .int .i64 (-1), .int .i64 (-1), .int .i64 (-1), .int .i64 (-1)]
def V3a (c : Nat) (sp : Value) : FV := VI c sp (NA ++ (NB ++ NC)) w01 [.int .i64 0, .int .i64 (2 * (c : Int))] z2 eA linkN
def V4 (c : Nat) (sp : Value) : FV := VI c sp (NA ++ (NB ++ NC)) w01 [.int .i64 0, .int .i64 (2 * (c : Int))] [.int .i64 (2 * (c : Int)), .int .i64 0] eA eB
/-- Where the blocks lie, by their numbers. -/
def bkF (fb nb yb mb tb pb p0 p1 wb w0 w1 bb b0 b1 b2 : Nat) (i : Nat) : Nat := if i = 0 then fb else if i = 1 then nb else if i = 2 then yb else if i = 3 then mb else if i = 4 then tb else if i = 5 then pb else if i = 6 then p0 else if i = 7 then p1 else if i = 8 then wb else if i = 9 then w0 else if i = 10 then w1 else if i = 11 then bb else if i = 12 then b0 else if i = 13 then b1 else b2
/-- Which tag each block bears; among those of one tag the numbers rise. -/
def tgF (i : Nat) : Nat := if i = 0 then 25 else if i = 1 then 2 else if i = 2 then 8 else if i = 3 then 12 else if i = 4 then 15 else if i < 8 then 17 else if i < 11 then 20 else 23
theorem inj_of {Bk tg : Nat → Nat} (ht : ∀ i, i < 15 → tg (Bk i) = tgF i) (h5 : Bk 5 < Bk 6) (h6 : Bk 6 < Bk 7) (h8 : Bk 8 < Bk 9) (h9 : Bk 9 < Bk 10) (h11 : Bk 11 < Bk 12) (h12 : Bk 12 < Bk 13) (h13 : Bk 13 < Bk 14) : ∀ i j, i < 15 → j < 15 → Bk i = Bk j → i = j := by
  intro i j hi hj e
  have e1 : tgF i = tgF j := by rw [← ht i hi, ← ht j hj, e]
  by_cases hij : i = j
  · exact hij
  · exfalso
    unfold tgF at e1
    have hi' : i = 0 ∨ i = 1 ∨ i = 2 ∨ i = 3 ∨ i = 4 ∨ i = 5 ∨ i = 6 ∨ i = 7 ∨ i = 8 ∨ i = 9 ∨ i = 10 ∨ i = 11 ∨ i = 12 ∨ i = 13 ∨ i = 14 := by omega
    have hj' : j = 0 ∨ j = 1 ∨ j = 2 ∨ j = 3 ∨ j = 4 ∨ j = 5 ∨ j = 6 ∨ j = 7 ∨ j = 8 ∨ j = 9 ∨ j = 10 ∨ j = 11 ∨ j = 12 ∨ j = 13 ∨ j = 14 := by omega
    rcases hi' with rfl | rfl | rfl | rfl | rfl | rfl | rfl | rfl | rfl | rfl | rfl | rfl | rfl | rfl | rfl <;> rcases hj' with rfl | rfl | rfl | rfl | rfl | rfl | rfl | rfl | rfl | rfl | rfl | rfl | rfl | rfl | rfl <;> first | (exact absurd e1 (by decide)) | omega
end Go.Proofs.YthdhimcaojfcnaaGreat

namespace Go.Proofs.YthdhimcaojfcnaaGreat
open Go Go.Proofs Go.RowKit

set_option maxRecDepth 100000 in
set_option maxHeartbeats 8000000 in
theorem retire_any (x : Nat) (w0 : World) (Bk : Nat → Nat) (b off c q : Nat) (hP : FP x w0 Bk b off c) (w : World) (hM : FM x w0 Bk (.slice (some ⟨b, off, none⟩) 1 q) (V2 c) w) :
    Calls Tryz.prog 65 #[.pointer (some ⟨Bk 0, 0, none⟩), .int .i64 2] w fun e w' => e = .returned (.tuple #[]) ∧ ∃ sp, FM x w0 Bk (.slice (some ⟨b, off, none⟩) 1 q) (V3 c sp) w' := by
  obtain ⟨i0, hi, hz0, hz1, hz2⟩ := info_parts infoI
  have g2 := hM.cell 0 2 (by omega) rfl
  have g3 : w.cell? ⟨Bk 0, 3, none⟩ = some (.slice none 0 0) := hM.cell 0 3 (by omega) rfl
  have h3 := hM.frozen 0 3 (by omega)
  have n20 := hM.cell 1 20 (by omega) rfl
  have f20 := hM.frozen 1 20 (by omega)
  have n21 := hM.cell 1 21 (by omega) rfl
  have f21 := hM.frozen 1 21 (by omega)
  have n22 := hM.cell 1 22 (by omega) rfl
  have f22 := hM.frozen 1 22 (by omega)
  have n23 := hM.cell 1 23 (by omega) rfl
  have f23 := hM.frozen 1 23 (by omega)
  have n24 := hM.cell 1 24 (by omega) rfl
  have f24 := hM.frozen 1 24 (by omega)
  have n25 := hM.cell 1 25 (by omega) rfl
  have f25 := hM.frozen 1 25 (by omega)
  have n26 := hM.cell 1 26 (by omega) rfl
  have f26 := hM.frozen 1 26 (by omega)
  have n27 := hM.cell 1 27 (by omega) rfl
  have f27 := hM.frozen 1 27 (by omega)
  have n28 := hM.cell 1 28 (by omega) rfl
  have f28 := hM.frozen 1 28 (by omega)
  have n29 := hM.cell 1 29 (by omega) rfl
  have f29 := hM.frozen 1 29 (by omega)
  have d1 : Bk 0 ≠ Bk 1 := hP.ne (by omega) (by omega) (by omega)
  have HM1 : Hid (FM x w0 Bk (.slice (some ⟨b, off, none⟩) 1 q) (V3 c (.slice none 0 0)) ((((((((((w.setCell ⟨Bk 1, 20, none⟩ (.int .i64 0)).setCell ⟨Bk 1, 21, none⟩ (.int .i64 0)).setCell ⟨Bk 1, 22, none⟩ (.int .i64 0)).setCell ⟨Bk 1, 23, none⟩ (.int .i64 0)).setCell ⟨Bk 1, 24, none⟩ (.int .i64 0)).setCell ⟨Bk 1, 25, none⟩ (.int .i64 (-2))).setCell ⟨Bk 1, 26, none⟩ (.int .i64 0)).setCell ⟨Bk 1, 27, none⟩ (.slice none 0 0)).setCell ⟨Bk 1, 28, none⟩ (.slice none 0 0)).setCell ⟨Bk 1, 29, none⟩ (.int .i64 0))) := ((((((((((hM.setN hP 20 (.int .i64 0)).setN hP 21 (.int .i64 0)).setN hP 22 (.int .i64 0)).setN hP 23 (.int .i64 0)).setN hP 24 (.int .i64 0)).setN hP 25 (.int .i64 (-2))).setN hP 26 (.int .i64 0)).setN hP 27 (.slice none 0 0)).setN hP 28 (.slice none 0 0)).setN hP 29 (.int .i64 0))
  have HSZ : Hid (((((((((((w.setCell ⟨Bk 1, 20, none⟩ (.int .i64 0)).setCell ⟨Bk 1, 21, none⟩ (.int .i64 0)).setCell ⟨Bk 1, 22, none⟩ (.int .i64 0)).setCell ⟨Bk 1, 23, none⟩ (.int .i64 0)).setCell ⟨Bk 1, 24, none⟩ (.int .i64 0)).setCell ⟨Bk 1, 25, none⟩ (.int .i64 (-2))).setCell ⟨Bk 1, 26, none⟩ (.int .i64 0)).setCell ⟨Bk 1, 27, none⟩ (.slice none 0 0)).setCell ⟨Bk 1, 28, none⟩ (.slice none 0 0)).setCell ⟨Bk 1, 29, none⟩ (.int .i64 0)).heap.size = w.heap.size) := by show _ = _; simp
  have HX : Hid (x ≤ w.heap.size) := by have h1 := hM.lt 0 (by omega); have h2 := hP.lo 0 (by omega); show _ ≤ _; omega
  have hfb := hM.lt 0 (by omega)
  have HP : Hid _ := hP
  clear hM hP
  go_enter Tryz.func65, Tryz.ntmps65
  go_wp2_with (at_builtin; have hnews := one_cell ((((((((((w.setCell ⟨Bk 1, 20, none⟩ (.int .i64 0)).setCell ⟨Bk 1, 21, none⟩ (.int .i64 0)).setCell ⟨Bk 1, 22, none⟩ (.int .i64 0)).setCell ⟨Bk 1, 23, none⟩ (.int .i64 0)).setCell ⟨Bk 1, 24, none⟩ (.int .i64 0)).setCell ⟨Bk 1, 25, none⟩ (.int .i64 (-2))).setCell ⟨Bk 1, 26, none⟩ (.int .i64 0)).setCell ⟨Bk 1, 27, none⟩ (.slice none 0 0)).setCell ⟨Bk 1, 28, none⟩ (.slice none 0 0)).setCell ⟨Bk 1, 29, none⟩ (.int .i64 0)) (.int .i64 2) 3; refine wpList_append_own_at _ rfl _ _ 25 rfl w.heap.size 3 i0 (.int .i64 0) 1 8 Tryz.underlying25 hi hz0 hz1 hz2 rfl (by decide) (.slice none 0 0) 0 [] rfl (World.ownsRow_nil _ _ _ _) ⟨w.heap.size, 0, none⟩ 1 1 [.int .i64 2] rfl rfl ?_ (by intro u hu; rw [List.mem_singleton.1 hu]; rfl) (by unfold maxLen; omega) (by omega) (by simp) ?_)
  · have := hnews
    rw [HSZ.out] at this
    exact this
  · intro v6 w6 hown6 hg6 hnil6 hat6
    obtain ⟨a6, m6, c6, rfl⟩ := owns_slice hown6
    have HO6 : Hid _ := hown6
    have hb7 : Below w.heap.size ((((((((((w.setCell ⟨Bk 1, 20, none⟩ (.int .i64 0)).setCell ⟨Bk 1, 21, none⟩ (.int .i64 0)).setCell ⟨Bk 1, 22, none⟩ (.int .i64 0)).setCell ⟨Bk 1, 23, none⟩ (.int .i64 0)).setCell ⟨Bk 1, 24, none⟩ (.int .i64 0)).setCell ⟨Bk 1, 25, none⟩ (.int .i64 (-2))).setCell ⟨Bk 1, 26, none⟩ (.int .i64 0)).setCell ⟨Bk 1, 27, none⟩ (.slice none 0 0)).setCell ⟨Bk 1, 28, none⟩ (.slice none 0 0)).setCell ⟨Bk 1, 29, none⟩ (.int .i64 0)) w6 := ((Below.refl w.heap.size _).alloc (by rw [HSZ.out]; exact Nat.le_refl _) _).grown hg6 (by simp) (fun k e => by cases e)
    have hM7 : FM x w0 Bk (.slice (some ⟨b, off, none⟩) 1 q) (V3 c (.slice none 0 0)) w6 := HM1.out.go (by rw [HSZ.out]; exact HX.out) (by rw [HSZ.out]; exact hb7)
    have HM8 : Hid (FM x w0 Bk (.slice (some ⟨b, off, none⟩) 1 q) (V3 c (.slice a6 m6 c6)) (w6.setCell ⟨Bk 0, 3, none⟩ (.slice a6 m6 c6))) := hM7.setSp HP.out _
    have k3 : w6.cell? ⟨Bk 0, 3, none⟩ = some (.slice none 0 0) := hM7.cell 0 3 (by omega) rfl
    have l3 := hM7.frozen 0 3 (by omega)
    clear hown6 hg6 hnil6 hat6 hnews hb7 hM7 HM1 HSZ
    go_wp2
    exact bodyPost_end (results_none rfl _ _ _) rfl ⟨rfl, _, HM8.out⟩
set_option maxRecDepth 100000 in
set_option maxHeartbeats 8000000 in
theorem lay_any (x : Nat) (w0 : World) (Bk : Nat → Nat) (b off c q : Nat) (sp : Value) (hP : FP x w0 Bk b off c) (w : World) (hM : FM x w0 Bk (.slice (some ⟨b, off, none⟩) 1 q) (V3 c sp) w) :
    Calls Tryz.prog 66 #[.pointer (some ⟨Bk 0, 0, none⟩)] w fun e w' => e = .returned (.tuple #[]) ∧ FM x w0 Bk (.slice (some ⟨b, off, none⟩) 1 q) (V4 c sp) w' := by
  have hmix := mixed
  have hc := hP.small
  have HP : Hid _ := hP
  have h05 := hM.cell 0 7 (by omega) rfl
  clear hP
  go_enter Tryz.func66, Tryz.ntmps66
  go_wp2
  go_loopw [11] (fun i wr => (i = .int .i64 0 ∧ FM x w0 Bk (.slice (some ⟨b, off, none⟩) 1 q) (V3 c sp) wr) ∨ (i = .int .i64 1 ∧ FM x w0 Bk (.slice (some ⟨b, off, none⟩) 1 q) (V3a c sp) wr) ∨ (i = .int .i64 2 ∧ FM x w0 Bk (.slice (some ⟨b, off, none⟩) 1 q) (V4 c sp) wr)) (fun i _ => 2 - (intOf i).toNat)
  case atStart => exact .inl ⟨rfl, hM⟩
  case round =>
    clear hM h05
    rcases hrel with ⟨rfl, hM⟩ | ⟨rfl, hM⟩ | ⟨rfl, hM⟩
    · have g5 := hM.cell 5 0 (by omega) rfl
      have HM : Hid (FM x w0 Bk (.slice (some ⟨b, off, none⟩) 1 q) (V3 c sp) wr) := hM
      clear hM
      go_wp2
      go_loopw [18] (fun i wr => (i = .int .i64 0 ∧ FM x w0 Bk (.slice (some ⟨b, off, none⟩) 1 q) (V3 c sp) wr) ∨ (i = .int .i64 1 ∧ FM x w0 Bk (.slice (some ⟨b, off, none⟩) 1 q) (V3 c sp) wr) ∨ (i = .int .i64 2 ∧ FM x w0 Bk (.slice (some ⟨b, off, none⟩) 1 q) (V3a c sp) wr)) (fun i _ => 2 - (intOf i).toNat)
      case atStart => exact .inl ⟨rfl, HM.out⟩
      case round =>
        clear HM g5
        rcases hrel with ⟨rfl, hM⟩ | ⟨rfl, hM⟩ | ⟨rfl, hM⟩
        · have g5 := hM.cell 6 0 (by omega) rfl
          have HM1 : Hid (FM x w0 Bk (.slice (some ⟨b, off, none⟩) 1 q) (V3 c sp) wr) := hM
          clear hM
          go_wp2
          exact ⟨.inr (.inl ⟨rfl, HM1.out⟩), by simp [intOf]⟩
        · have g5 := hM.cell 6 1 (by omega) rfl
          have g8 := hM.cell 0 8 (by omega) rfl
          have g1 := hM.cell 0 1 (by omega) rfl
          have g9 := hM.cell 0 9 (by omega) rfl
          have k8 := hM.cell 8 0 (by omega) rfl
          have k11 := hM.cell 11 0 (by omega) rfl
          have t0 := hM.cell 9 1 (by omega) rfl
          have f0 := hM.frozen 9 1 (by omega)
          obtain ⟨c0, c1, c2⟩ := HP.out.edge wr hM.bel
          have HM1 : Hid (FM x w0 Bk (.slice (some ⟨b, off, none⟩) 1 q) (VI c sp (NA ++ (NB ++ NC)) w01 [.int .i64 0, .int .i64 (2 * (c : Int))] z2 linkN linkN) (wr.setCell ⟨Bk 9, 1, none⟩ (.int .i64 (2 * (c : Int))))) := hM.setT0 HP.out 1 _
          have hqn : (0 : Int) < 1 := by omega
          clear hM
          go_wp2
          go_big_region_o
          obtain ⟨wz, hwz⟩ : ∃ W, (wr.setCell ⟨Bk 9, 1, none⟩ (.int .i64 (2 * (c : Int)))).drew = W := ⟨_, rfl⟩
          have hM2 : FM x w0 Bk (.slice (some ⟨b, off, none⟩) 1 q) (VI c sp (NA ++ (NB ++ NC)) w01 [.int .i64 0, .int .i64 (2 * (c : Int))] z2 linkN linkN) wz := by rw [← hwz]; exact HM1.out.drew
          rw [hwz]
          clear hwz HM1 g5 g8 g1 g9 k8 k11 t0 f0 c0 c1 c2
          have g9 := hM2.cell 0 9 (by omega) rfl
          have k11 := hM2.cell 11 0 (by omega) rfl
          have a0 := hM2.cell 12 2 (by omega) rfl
          have a1 := hM2.cell 12 3 (by omega) rfl
          have b0 := hM2.frozen 12 2 (by omega)
          have b1 := hM2.frozen 12 3 (by omega)
          have HM3 : Hid (FM x w0 Bk (.slice (some ⟨b, off, none⟩) 1 q) (V3a c sp) ((wz.setCell ⟨Bk 12, 2, none⟩ (.int .i64 0)).setCell ⟨Bk 12, 3, none⟩ (.int .i64 1))) := (hM2.setE0 HP.out 2 _).setE0 HP.out 3 _
          clear hM2
          go_wp2
          exact ⟨.inr (.inr ⟨rfl, HM3.out⟩), by simp [intOf]⟩
        · have HM1 : Hid (FM x w0 Bk (.slice (some ⟨b, off, none⟩) 1 q) (V3a c sp) wr) := hM
          clear hM
          go_wp2
          exact ⟨.inr (.inl ⟨rfl, HM1.out⟩), by simp [intOf]⟩
    · have g5 := hM.cell 5 1 (by omega) rfl
      have HM : Hid (FM x w0 Bk (.slice (some ⟨b, off, none⟩) 1 q) (V3a c sp) wr) := hM
      clear hM
      go_wp2
      go_loopw [18] (fun i wr => (i = .int .i64 0 ∧ FM x w0 Bk (.slice (some ⟨b, off, none⟩) 1 q) (V3a c sp) wr) ∨ (i = .int .i64 1 ∧ FM x w0 Bk (.slice (some ⟨b, off, none⟩) 1 q) (V4 c sp) wr) ∨ (i = .int .i64 2 ∧ FM x w0 Bk (.slice (some ⟨b, off, none⟩) 1 q) (V4 c sp) wr)) (fun i _ => 2 - (intOf i).toNat)
      case atStart => exact .inl ⟨rfl, HM.out⟩
      case round =>
        clear HM g5
        rcases hrel with ⟨rfl, hM⟩ | ⟨rfl, hM⟩ | ⟨rfl, hM⟩
        · have g5 := hM.cell 7 0 (by omega) rfl
          have g8 := hM.cell 0 8 (by omega) rfl
          have g1 := hM.cell 0 1 (by omega) rfl
          have g9 := hM.cell 0 9 (by omega) rfl
          have k8 := hM.cell 8 1 (by omega) rfl
          have k11 := hM.cell 11 1 (by omega) rfl
          have t0 := hM.cell 10 0 (by omega) rfl
          have f0 := hM.frozen 10 0 (by omega)
          obtain ⟨c0, c1, c2⟩ := HP.out.edge wr hM.bel
          have HM1 : Hid (FM x w0 Bk (.slice (some ⟨b, off, none⟩) 1 q) (VI c sp (NA ++ (NB ++ NC)) w01 [.int .i64 0, .int .i64 (2 * (c : Int))] [.int .i64 (2 * (c : Int)), .int .i64 0] eA linkN) (wr.setCell ⟨Bk 10, 0, none⟩ (.int .i64 (2 * (c : Int))))) := hM.setT1 HP.out 0 _
          have hqn : (0 : Int) < 1 := by omega
          clear hM
          go_wp2
          go_big_region_o
          obtain ⟨wz, hwz⟩ : ∃ W, (wr.setCell ⟨Bk 10, 0, none⟩ (.int .i64 (2 * (c : Int)))).drew = W := ⟨_, rfl⟩
          have hM2 : FM x w0 Bk (.slice (some ⟨b, off, none⟩) 1 q) (VI c sp (NA ++ (NB ++ NC)) w01 [.int .i64 0, .int .i64 (2 * (c : Int))] [.int .i64 (2 * (c : Int)), .int .i64 0] eA linkN) wz := by rw [← hwz]; exact HM1.out.drew
          rw [hwz]
          clear hwz HM1 g5 g8 g1 g9 k8 k11 t0 f0 c0 c1 c2
          have g9 := hM2.cell 0 9 (by omega) rfl
          have k11 := hM2.cell 11 1 (by omega) rfl
          have a0 := hM2.cell 13 0 (by omega) rfl
          have a1 := hM2.cell 13 1 (by omega) rfl
          have b0 := hM2.frozen 13 0 (by omega)
          have b1 := hM2.frozen 13 1 (by omega)
          have HM3 : Hid (FM x w0 Bk (.slice (some ⟨b, off, none⟩) 1 q) (V4 c sp) ((wz.setCell ⟨Bk 13, 0, none⟩ (.int .i64 1)).setCell ⟨Bk 13, 1, none⟩ (.int .i64 0))) := (hM2.setE1 HP.out 0 _).setE1 HP.out 1 _
          clear hM2
          go_wp2
          exact ⟨.inr (.inl ⟨rfl, HM3.out⟩), by simp [intOf]⟩
        · have g5 := hM.cell 7 1 (by omega) rfl
          have HM1 : Hid (FM x w0 Bk (.slice (some ⟨b, off, none⟩) 1 q) (V4 c sp) wr) := hM
          clear hM
          go_wp2
          exact ⟨.inr (.inr ⟨rfl, HM1.out⟩), by simp [intOf]⟩
        · have HM1 : Hid (FM x w0 Bk (.slice (some ⟨b, off, none⟩) 1 q) (V4 c sp) wr) := hM
          clear hM
          go_wp2
          exact ⟨.inr (.inr ⟨rfl, HM1.out⟩), by simp [intOf]⟩
    · go_wp2
      exact bodyPost_end (results_none rfl _ _ _) rfl ⟨rfl, hM⟩
end Go.Proofs.YthdhimcaojfcnaaGreat

namespace Go.Proofs.YthdhimcaojfcnaaGreat
open Go Go.Proofs Go.RowKit

/-- A node's numbers. -/
structure ND where
  s : Int
  vf : Int
  vt : Int
  nf : Int
  nt : Int
  h : Int
  b : Int
def ND.l (A : ND) : List Value := nodeV A.s A.vf A.vt A.nf A.nt A.h A.b
/-- A state: three nodes, numbers, partners. -/
def VS (c : Nat) (sp : Value) (A B C : ND) (y0 y1 m0 m1 : Int) : FV := ⟨sp, A.l ++ (B.l ++ C.l), [.int .i64 y0, .int .i64 y1], [.int .i64 m0, .int .i64 m1], w01, [.int .i64 0, .int .i64 (2 * (c : Int))], [.int .i64 (2 * (c : Int)), .int .i64 0], eA, eB, linkN⟩
def nA : ND := ⟨0, 0, 0, 0, 0, -1, 0⟩
def nB : ND := ⟨0, 0, 0, 0, 0, -1, 1⟩
def nC : ND := ⟨0, 0, 0, 0, 0, -2, 0⟩
theorem V4_eq (c : Nat) (sp : Value) : V4 c sp = VS c sp nA nB nC (-(c : Int)) (-(c : Int)) (-1) (-1) := rfl

set_option maxRecDepth 100000 in
theorem isThere_any (a b : Int) (w : World) : Calls Tryz.prog 97 #[.agg #[.int .i64 a, .int .i64 b]] w fun e w' => e = .returned (.bool (a != -1)) ∧ Grew w w' := by
  have hg1 : Grew w (w.alloc (.cells #[.int .i64 a, .int .i64 b] 102)) := (Grew.refl w).alloc _
  go_enter Tryz.func97, Tryz.ntmps97
  go_wp2
  go_ret
  exact ⟨rfl, hg1⟩
set_option maxRecDepth 100000 in
theorem isTop_at (fb nb x : Nat) (h : Int) (hx : x < 3) (w : World) (h2 : w.cell? ⟨fb, 2, none⟩ = some (.slice (some ⟨nb, 0, none⟩) 3 3)) (h5 : w.cell? ⟨nb, x * 10 + 5, none⟩ = some (.int .i64 h)) : Calls Tryz.prog 84 #[.pointer (some ⟨fb, 0, none⟩), .int .i64 (x : Int)] w fun e w' => e = .returned (.bool (h == -1)) ∧ w' = w := by
  have hx' : (x : Int) < 3 := by omega
  go_enter Tryz.func84, Tryz.ntmps84
  go_wp2
  go_ret
  exact ⟨rfl, rfl⟩
section
variable (x : Nat) (w0 : World) (Bk : Nat → Nat) (b off c q : Nat) (sp : Value) (A B C : ND) (y0 y1 m0 m1 : Int)
theorem isTop0 (w : World) (hM : FM x w0 Bk (.slice (some ⟨b, off, none⟩) 1 q) (VS c sp A B C y0 y1 m0 m1) w) : Calls Tryz.prog 84 #[.pointer (some ⟨Bk 0, 0, none⟩), .int .i64 0] w fun e w' => e = .returned (.bool (A.h == -1)) ∧ w' = w :=
  isTop_at (Bk 0) (Bk 1) 0 A.h (by omega) w (hM.cell 0 2 (by omega) rfl) (hM.cell 1 5 (by omega) rfl)
theorem isTop1 (w : World) (hM : FM x w0 Bk (.slice (some ⟨b, off, none⟩) 1 q) (VS c sp A B C y0 y1 m0 m1) w) : Calls Tryz.prog 84 #[.pointer (some ⟨Bk 0, 0, none⟩), .int .i64 1] w fun e w' => e = .returned (.bool (B.h == -1)) ∧ w' = w :=
  isTop_at (Bk 0) (Bk 1) 1 B.h (by omega) w (hM.cell 0 2 (by omega) rfl) (hM.cell 1 15 (by omega) rfl)
theorem isTop2 (w : World) (hM : FM x w0 Bk (.slice (some ⟨b, off, none⟩) 1 q) (VS c sp A B C y0 y1 m0 m1) w) : Calls Tryz.prog 84 #[.pointer (some ⟨Bk 0, 0, none⟩), .int .i64 2] w fun e w' => e = .returned (.bool (C.h == -1)) ∧ w' = w :=
  isTop_at (Bk 0) (Bk 1) 2 C.h (by omega) w (hM.cell 0 2 (by omega) rfl) (hM.cell 1 25 (by omega) rfl)
set_option maxRecDepth 100000 in
set_option maxHeartbeats 4000000 in
theorem slack10 (hc : c < 1099511627776) (w : World) (hM : FM x w0 Bk (.slice (some ⟨b, off, none⟩) 1 q) (VS c sp A B C (-(c : Int)) (-(c : Int)) m0 m1) w) (hx : x ≤ w.heap.size) : Calls Tryz.prog 98 #[.pointer (some ⟨Bk 0, 0, none⟩), .agg #[.int .i64 1, .int .i64 0]] w fun e w' => e = .returned (.int .i64 0) ∧ Below w.heap.size w w' := by
  have hmix := mixed
  have hal : Below w.heap.size w (w.alloc (.cells #[.int .i64 1, .int .i64 0] 102)) := (Below.refl _ _).alloc (Nat.le_refl _) _
  have hL : Blk 102 (w.alloc (.cells #[.int .i64 1, .int .i64 0] 102)) w.heap.size [.int .i64 1, .int .i64 0] := heap_alloc_new w _
  have hN := hM.go hx hal
  have k4 := hN.cell 0 4 (by omega) rfl
  have k8 := hN.cell 0 8 (by omega) rfl
  have a0 := hN.cell 2 0 (by omega) rfl
  have a1 := hN.cell 2 1 (by omega) rfl
  have b1 := hN.cell 8 1 (by omega) rfl
  have t0 := hN.cell 10 0 (by omega) rfl
  have l0 := hL.cell (j := 0) rfl
  have l1 := hL.cell (j := 1) rfl
  have HAL : Hid _ := hal
  clear hM hN hL hal
  go_enter Tryz.func98, Tryz.ntmps98
  go_wp2
  go_quiet (fail)
  go_wp2
  go_ret
  refine ⟨?_, below_drewN HAL.out nq⟩
  show Ending.returned (.int .i64 _) = _
  congr 2
  omega
set_option maxRecDepth 100000 in
set_option maxHeartbeats 4000000 in
theorem slack01 (hc : c < 1099511627776) (w : World) (hM : FM x w0 Bk (.slice (some ⟨b, off, none⟩) 1 q) (VS c sp A B C (-(c : Int)) (-(c : Int)) m0 m1) w) (hx : x ≤ w.heap.size) : Calls Tryz.prog 98 #[.pointer (some ⟨Bk 0, 0, none⟩), .agg #[.int .i64 0, .int .i64 1]] w fun e w' => e = .returned (.int .i64 0) ∧ Below w.heap.size w w' := by
  have hmix := mixed
  have hal : Below w.heap.size w (w.alloc (.cells #[.int .i64 0, .int .i64 1] 102)) := (Below.refl _ _).alloc (Nat.le_refl _) _
  have hL : Blk 102 (w.alloc (.cells #[.int .i64 0, .int .i64 1] 102)) w.heap.size [.int .i64 0, .int .i64 1] := heap_alloc_new w _
  have hN := hM.go hx hal
  have k4 := hN.cell 0 4 (by omega) rfl
  have k8 := hN.cell 0 8 (by omega) rfl
  have a0 := hN.cell 2 0 (by omega) rfl
  have a1 := hN.cell 2 1 (by omega) rfl
  have b1 := hN.cell 8 0 (by omega) rfl
  have t0 := hN.cell 9 1 (by omega) rfl
  have l0 := hL.cell (j := 0) rfl
  have l1 := hL.cell (j := 1) rfl
  have HAL : Hid _ := hal
  clear hM hN hL hal
  go_enter Tryz.func98, Tryz.ntmps98
  go_wp2
  go_quiet (fail)
  go_wp2
  go_ret
  refine ⟨?_, below_drewN HAL.out nq⟩
  show Ending.returned (.int .i64 _) = _
  congr 2
  omega
end
end Go.Proofs.YthdhimcaojfcnaaGreat
