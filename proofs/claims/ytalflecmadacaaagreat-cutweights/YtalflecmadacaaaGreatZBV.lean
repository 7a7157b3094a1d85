import Derived.Test.YtalflecmadacaaaGreatXM2P
import Derived.Laws.OwnMore
import Derived.OwnWalk
import Derived.WalkSmall
import Derived.Lib.SmallJoins
import Derived.Stop.Asserts
import Derived.Test.YtalflecmadacaaaGreatZAH
import Derived.Test.YtalflecmadacaaaGreatZAB
import Derived.Test.YtalflecmadacaaaGreatZAI
import Derived.Test.YtalflecmadacaaaGreatZAA
set_option maxRecDepth 100000
set_option maxHeartbeats 8000000
namespace Go.Proofs.YtalflecmadacaaaGreat
open Go Go.Proofs Go.RowKit
section
variable (x : Nat) (w0 : World) (Bk : Nat → Nat) (b off c q : Nat) (sp : Value)
theorem proof_any2 (hP : FP x w0 Bk b off c) (w : World) (hM : FM x w0 Bk (.slice (some ⟨b, off, none⟩) 1 q) (VS c sp A2 B2 C0 (-(c : Int)) (-(c : Int)) 1 0) w) : Calls Tryz.prog 115 #[.pointer (some ⟨Bk 0, 0, none⟩)] w fun e w' => e = .returned (.agg #[.slice (some ⟨Bk 2, 0, none⟩) 2 2, .slice none 0 0]) ∧ Below w.heap.size w w' := by
 have hmix := mixed
 have hxw := FP.le x w0 Bk b off c hP hM
 have HM : Hid (FM x w0 Bk (.slice (some ⟨b, off, none⟩) 1 q) (VS c sp A2 B2 C0 (-(c : Int)) (-(c : Int)) 1 0) w) := hM
 have k4 := hM.cell 0 4 (by omega) rfl
 have k2 := hM.cell 0 2 (by omega) rfl
 have z0 : w.cell? ⟨Bk 1, 9, none⟩ = some (.int .i64 0) := hM.cell 1 9 (by omega) rfl
 have z1 : w.cell? ⟨Bk 1, 19, none⟩ = some (.int .i64 0) := hM.cell 1 19 (by omega) rfl
 have zZ : w.cell? ⟨Bk 1, 29, none⟩ = some (.int .i64 0) := hM.cell 1 29 (by omega) rfl
 have hlt0 := hM.lt 0 (by omega)
 have hlt1 := hM.lt 1 (by omega)
 clear hM hP HM
 go_enter Tryz.func115, Tryz.ntmps115
 go_wp2
 obtain ⟨w1, hw1⟩ : ∃ W, ((w.alloc (.cells #[.slice none 0 0, .slice none 0 0] 114)).alloc (.cells #[.slice (some ⟨Bk 2, 0, none⟩) 2 2, .slice none 0 0] 114)) = W := ⟨_, rfl⟩
 have hb1 : Below w.heap.size w w1 := by rw [← hw1]; exact ((Below.refl _ _).alloc (Nat.le_refl _) _).alloc (by simp only [World.size_alloc]; omega) _
 have k2' := cell_keepW hb1 k2
 have z0' := cell_keepW hb1 z0
 have z1' := cell_keepW hb1 z1
 have zZ' := cell_keepW hb1 zZ
 have h2 : Blk 114 w1 (w.heap.size + 1) [.slice (some ⟨Bk 2, 0, none⟩) 2 2, .slice none 0 0] := by
  have hs : (w.alloc (.cells #[.slice none 0 0, .slice none 0 0] 114)).heap.size = w.heap.size + 1 := by simp
  rw [← hw1, ← hs]; exact heap_alloc_new (w.alloc (.cells #[.slice none 0 0, .slice none 0 0] 114)) _
 have h1 : Blk 114 w1 w.heap.size [.slice none 0 0, .slice none 0 0] := by
  have hh : Blk 114 (w.alloc (.cells #[.slice none 0 0, .slice none 0 0] 114)) w.heap.size [.slice none 0 0, .slice none 0 0] := heap_alloc_new w _
  rw [← hw1]; exact hh.go ((Below.refl _ _).alloc (Nat.le_refl _) _)
 rw [hw1]
 clear hw1 k2 k4 z0 z1 zZ hlt0 hlt1
 have q0 := h2.cell (j := 0) rfl
 have q1 := h2.cell (j := 1) rfl
 have r0 := h1.cell (j := 0) rfl
 have r1 := h1.cell (j := 1) rfl
 have H1 : Hid (Blk 114 w1 w.heap.size [.slice none 0 0, .slice none 0 0]) := h1
 have f0 := h1.frozen 0
 have f1 := h1.frozen 1
 have HB1 : Hid (Below w.heap.size w w1) := hb1
 have hl1 := h1.lt
 clear h1 h2 hb1
 go_loopw [16] (fun i wr => (i = .int .i64 0 ∨ i = .int .i64 1 ∨ i = .int .i64 2 ∨ i = .int .i64 3) ∧ wr = w1) (fun i _ => 3 - (intOf i).toNat)
 case atStart => exact ⟨.inl rfl, rfl⟩
 case round =>
  obtain ⟨rfl | rfl | rfl | rfl, rfl⟩ := hrel
  ·go_wp2
   exact ⟨⟨.inr (.inl rfl), trivial⟩, by simp [intOf]⟩
  ·go_wp2
   exact ⟨⟨.inr (.inr (.inl rfl)), trivial⟩, by simp [intOf]⟩
  ·go_wp2
   exact ⟨⟨.inr (.inr (.inr rfl)), trivial⟩, by simp [intOf]⟩
  ·go_wp2
   have hR := (H1.out.set 0 (.slice (some ⟨Bk 2, 0, none⟩) 2 2)).set 1 (.slice none 0 0)
   refine bodyPost_ret (results_cell_row rfl _ _ w.heap.size 114 #[.slice (some ⟨Bk 2, 0, none⟩) 2 2, .slice none 0 0] _ _ rfl hR Tryz.underlying114 rfl rfl) rfl ?_
   exact ⟨rfl, (HB1.out.setCell (Nat.le_refl _) _).setCell (Nat.le_refl _) _⟩
end
theorem ret_perf {fn : Func} {a p u : Tmp} (h : fn.results = #[.tmp a, .cell p 114, .tmp u]) {tmps : Array Value} {w : World} {b : Nat} {x y : Value} (hp : tmps.getD p undef = .pointer (some ⟨b, 0, none⟩)) (h0 : w.cell? ⟨b, 0, none⟩ = some x) (h1 : w.cell? ⟨b, 1, none⟩ = some y) :
  (results fn tmps).run Tryz.prog w = .ok (.tuple #[tmps.getD a undef, .agg #[x, y], tmps.getD u undef]) w := by
 have hp' : tmps[p]?.getD undef = .pointer (some ⟨b, 0, none⟩) := by simpa using hp
 have a1 := Tryz.isAgg114
 have a2 := Tryz.sizeOf114
 simp [results, h, hp', asAddr]
 go_simp
theorem perfect_two (c : Nat) (hc : c < 1099511627776) (p : Option Addr) (q : Nat) (w : World) (hl : Edges w.heap.size w (.slice p 1 q) ((L2 c).map edE)) : Calls Tryz.prog 87 #[.agg #[.int .i64 2, .slice p 1 q]] w fun r w' => ∃ g cap px, r = .returned (.tuple #[.slice (some ⟨g, 0, none⟩) 1 cap, .agg #[.slice (some ⟨px, 0, none⟩) 2 2, .slice none 0 0], .int .i64 0]) ∧ w'.cell? ⟨g, 0, none⟩ = some (.int .i64 0) ∧ w.heap.size ≤ g ∧ 1 ≤ cap ∧ Below w.heap.size w w' := by
 obtain ⟨w1, hw1⟩ : ∃ W, ((w.alloc (.cells #[.int .i64 2, .slice p 1 q] 24)).alloc (.cells #[.slice none 0 0, .slice none 0 0] 114)) = W := ⟨_, rfl⟩
 have hb1 : Below w.heap.size w w1 := by rw [← hw1]; exact ((Below.refl _ _).alloc (Nat.le_refl _) _).alloc (by simp only [World.size_alloc]; omega) _
 have hX : Blk 24 w1 w.heap.size [.int .i64 2, .slice p 1 q] := by
  have hh : Blk 24 (w.alloc (.cells #[.int .i64 2, .slice p 1 q] 24)) w.heap.size [.int .i64 2, .slice p 1 q] := heap_alloc_new w _
  rw [← hw1]; exact hh.go ((Below.refl _ _).alloc (Nat.le_refl _) _)
 have hP : Blk 114 w1 (w.heap.size + 1) [.slice none 0 0, .slice none 0 0] := by
  have hs : (w.alloc (.cells #[.int .i64 2, .slice p 1 q] 24)).heap.size = w.heap.size + 1 := by simp
  rw [← hw1, ← hs]; exact heap_alloc_new (w.alloc (.cells #[.int .i64 2, .slice p 1 q] 24)) _
 have hl1 : Edges w1.heap.size w1 (.slice p 1 q) ((L2 c).map edE) := hl.go hb1
 have x0 := hX.cell (j := 0) rfl
 have x1 := hX.cell (j := 1) rfl
 have HX : Hid (Blk 24 w1 w.heap.size [.int .i64 2, .slice p 1 q]) := hX
 have HPr : Hid (Blk 114 w1 (w.heap.size + 1) [.slice none 0 0, .slice none 0 0]) := hP
 have HB1 : Hid (Below w.heap.size w w1) := hb1
 have HL1 : Hid (Edges w1.heap.size w1 (.slice p 1 q) ((L2 c).map edE)) := hl1
 have hsz := hb1.size
 have hlP := hP.lt
 clear hX hP hb1 hl1 hl
 go_enter Tryz.func87, Tryz.ntmps87
 have hri := mRight_any c hc p q w1 HL1.out
 go_wp2_with fail
 clear hw1
 refine hri.mono ?_
 rintro e w2 ⟨rfl, hb2⟩
 clear hri
 have hX2 := HX.out.go hb2
 have hP2 := HPr.out.go hb2
 have x0 := hX2.cell (j := 0) rfl
 have x1 := hX2.cell (j := 1) rfl
 have HX2 : Hid (Blk 24 w2 w.heap.size [.int .i64 2, .slice p 1 q]) := hX2
 have HP2 : Hid (Blk 114 w2 (w.heap.size + 1) [.slice none 0 0, .slice none 0 0]) := hP2
 have HB2 : Hid (Below w.heap.size w w2) := HB1.out.trans (hb2.mono HB1.out.size)
 have hnf := newForest_any c hc p q w2 (HL1.out.go hb2)
 have hlP2 := hP2.lt
 clear hX2 hP2 hb2 HX HPr HB1 HL1
 go_wp2_with fail
 refine hnf.mono ?_
 rintro e w3 ⟨b, off, x, wA, Bk, sp, rfl, rfl, hbA, hx, hFP, hM3⟩
 clear hnf
 have hle3 := FP.le x wA Bk b off c hFP hM3
 have hb23 : Below w2.heap.size w2 w3 := hbA.trans (hM3.bel.mono hx)
 have hX3 := HX2.out.go hb23
 have x0 := hX3.cell (j := 0) rfl
 have HFP : Hid (FP x wA Bk b off c) := hFP
 have HM3 : Hid (FM x wA Bk (.slice (some ⟨b, off, none⟩) 1 q) (V4 c sp) w3) := hM3
 have HbA : Hid (Below w2.heap.size w2 wA) := hbA
 have Hx : Hid (w2.heap.size ≤ x) := hx
 have HlP : Hid (w.heap.size + 1 < w2.heap.size) := hlP2
 clear hFP hM3 hbA hx hb23 x1 hX3 hlP2 hle3 hc
 go_wp2
 go_loopw [23] (fun i wr => (i = .int .i64 0 ∧ FM x wA Bk (.slice (some ⟨b, off, none⟩) 1 q) (V4 c sp) wr) ∨ (i = .int .i64 1 ∧ FM x wA Bk (.slice (some ⟨b, off, none⟩) 1 q) (VS c sp A2 B2 C0 (-(c : Int)) (-(c : Int)) 1 0) wr)) (fun i _ => 1 - (intOf i).toNat)
 case atStart => exact .inl ⟨rfl, HM3.out⟩
 case round =>
  clear x0
  rcases hrel with ⟨rfl, hMr⟩ | ⟨rfl, hMr⟩
  ·have hau := augment_any x wA Bk b off c q sp HFP.out wr hMr
   clear hMr
   go_wp2_with fail
   refine hau.mono ?_
   rintro e w4 ⟨rfl, hM4⟩
   have HM4 : Hid (FM x wA Bk (.slice (some ⟨b, off, none⟩) 1 q) (VS c sp A2 B2 C0 (-(c : Int)) (-(c : Int)) 1 0) w4) := hM4
   clear hau hM4
   go_wp2
   exact ⟨.inr ⟨rfl, HM4.out⟩, by simp [intOf]⟩
  ·have hma := matching_any2 x wA Bk b off c q sp HFP.out wr hMr
   have HMr : Hid (FM x wA Bk (.slice (some ⟨b, off, none⟩) 1 q) (VS c sp A2 B2 C0 (-(c : Int)) (-(c : Int)) 1 0) wr) := hMr
   clear hMr
   go_wp2_with fail
   refine hma.mono ?_
   rintro e w5 ⟨g, cap, rfl, hg0, hgr, hcap, hb5⟩
   clear hma
   have hM5 := HMr.out.go (FP.le x wA Bk b off c HFP.out HMr.out) hb5
   have hpr := proof_any2 x wA Bk b off c q sp HFP.out w5 hM5
   clear hM5
   go_wp2_with fail
   refine hpr.mono ?_
   rintro e w6 ⟨rfl, hb6⟩
   clear hpr
   have hg6 := cell_keepW hb6 hg0
   have hbr : Below w2.heap.size w2 wr := HbA.out.trans (HMr.out.bel.mono Hx.out)
   have hb26 : Below w2.heap.size w2 w6 := hbr.trans ((hb5.mono hbr.size).trans (hb6.mono (by have := hbr.size; have := hb5.size; omega)))
   have hP6 := HP2.out.go hb26
   have HP6 : Hid (Blk 114 w6 (w.heap.size + 1) [.slice none 0 0, .slice none 0 0]) := hP6
   have HB6 : Hid (Below w.heap.size w w6) := HB2.out.trans (hb26.mono HB2.out.size)
   have f0 := hP6.frozen 0
   have f1 := hP6.frozen 1
   have r0 := hP6.cell (j := 0) rfl
   have r1 := hP6.cell (j := 1) rfl
   have hgn : w.heap.size + 1 < g := by have := HlP.out; have := hbr.size; omega
   clear hP6 hb26 hbr hb5 hb6 hg0
   go_wp2
   have hR := (HP6.out.set 0 (.slice (some ⟨Bk 2, 0, none⟩) 2 2)).set 1 (.slice none 0 0)
   refine bodyPost_ret (ret_perf rfl rfl (hR.cell (j := 0) rfl) (hR.cell (j := 1) rfl)) rfl ?_
   refine ⟨g, cap, _, rfl, ?_, by omega, hcap, (HB6.out.setCell (p := ⟨w.heap.size + 1, 0, none⟩) (by show _ ≤ w.heap.size + 1; omega) _).setCell (p := ⟨w.heap.size + 1, 1, none⟩) (by show _ ≤ w.heap.size + 1; omega) _⟩
   rw [World.cell?_setCell_far _ _ _ _ (by show w.heap.size + 1 ≠ g; omega), World.cell?_setCell_far _ _ _ _ (by show w.heap.size + 1 ≠ g; omega)]
   exact hg6
theorem method_push (a : Addr) (w : World) : (method 358 189 (.pointer (some a)) "Push").run Tryz.prog w = .ok (236, .pointer (some a)) w := by kernel_rfl
theorem method_pop (a : Addr) (w : World) : (method 358 189 (.pointer (some a)) "Pop").run Tryz.prog w = .ok (235, .pointer (some a)) w := by kernel_rfl
theorem loadVar_q (a : Addr) (w : World) (v : Value) (h : w.cell? a = some v) : (loadVar 155 a).run Tryz.prog w = .ok v w := by
 go_simp
theorem recv_q (a : Addr) (w : World) (v : Value) (nm : String) (h : w.cell? a = some v) : (receiverAt 189 (.val (.pointer (some a))) false (some nm)).run Tryz.prog w = .ok v w := by
 have u := Tryz.underlying189
 have hl := loadVar_q a w v h
 have hn : (Builtin.ssaWrapNilChk_ #[189] 189 #[.pointer (some a), strVal "", strVal nm]).run Tryz.prog w = .ok (.pointer (some a)) w := by rfl
 simp [receiverAt, run_underlying u, Place.get, hn, Sem.run_bind, Result.andThen, asAddr, hl]
theorem method_at (a : Addr) (w : World) (v : Value) (nm : String) (f : Nat) (h : w.cell? a = some v) (hf : (Tryz.prog.info? 189).bind (fun i => (i.methods.find? (·.name == nm)).map fun m => (m.path.toList, m.func)) = some ([], some (f, false))) :
  (method 358 189 (.pointer (some a)) nm).run Tryz.prog w = .ok (f, v) w := by
 cases hi : Tryz.prog.info? 189 with
 | none => rw [hi] at hf; cases hf
 | some i =>
  rw [hi] at hf
  simp only [Option.bind_some] at hf
  cases hm : i.methods.find? (·.name == nm) with
  | none => rw [hm] at hf; cases hf
  | some m =>
   rw [hm] at hf
   simp only [Option.map_some, Option.some.injEq, Prod.mk.injEq] at hf
   obtain ⟨h1, h2⟩ := hf
   have h3 : m.path.isEmpty = true := by simpa using h1
   unfold method
   simp only [typeInfo, Sem.run_bind, run_program, Result.andThen_ok, hi]
   simp [hm, h1, h2, h3, follow, Result.andThen]
   rw [recv_q a w v _ h]
theorem method_len (a : Addr) (w : World) (v : Value) (h : w.cell? a = some v) : (method 358 189 (.pointer (some a)) "Len").run Tryz.prog w = .ok (129, v) w := method_at a w v "Len" _ h (by kernel_rfl)
theorem method_less (a : Addr) (w : World) (v : Value) (h : w.cell? a = some v) : (method 358 189 (.pointer (some a)) "Less").run Tryz.prog w = .ok (233, v) w := method_at a w v "Less" _ h (by kernel_rfl)
theorem method_swap (a : Addr) (w : World) (v : Value) (h : w.cell? a = some v) : (method 358 189 (.pointer (some a)) "Swap").run Tryz.prog w = .ok (234, v) w := method_at a w v "Swap" _ h (by kernel_rfl)
abbrev StpT := Nat × Nat
def encQ (x : StpT) : List Value := [.int .i64 (x.1 : Int), .int .i64 (x.2 : Int)]
def flatQ (L : List StpT) : List Value := L.flatMap encQ
theorem flatQ_cons (x : StpT) (L : List StpT) : flatQ (x :: L) = .int .i64 (x.1 : Int) :: .int .i64 (x.2 : Int) :: flatQ L := rfl
theorem flatQ_snoc (L : List StpT) (d : StpT) : flatQ (L ++ [d]) = flatQ L ++ encQ d := by simp [flatQ]
theorem flatQ_len : ∀ L : List StpT, (flatQ L).length = L.length * 2
 | [] => rfl
 | x :: L => by rw [flatQ_cons]; simp [flatQ_len L]; omega
theorem flatQ_at : ∀ {L : List StpT} {j : Nat} {x : StpT}, L[j]? = some x → (flatQ L)[j * 2]? = some (.int .i64 (x.1 : Int)) ∧ (flatQ L)[j * 2 + 1]? = some (.int .i64 (x.2 : Int))
 | [], j, x, h => by simp at h
 | y :: L, 0, x, h => by simp at h; subst h; rw [flatQ_cons]; simp
 | y :: L, j + 1, x, h => by
  rw [flatQ_cons, show (j + 1) * 2 = j * 2 + 1 + 1 by omega]
  simpa using flatQ_at (L := L) (j := j) (by simpa using h)
theorem flatQ_set : ∀ (L : List StpT) (j : Nat) (x : StpT), ((flatQ L).set (j * 2) (.int .i64 (x.1 : Int))).set (j * 2 + 1) (.int .i64 (x.2 : Int)) = flatQ (L.set j x)
 | [], j, x => by simp [flatQ]
 | y :: L, 0, x => by simp [flatQ_cons]
 | y :: L, j + 1, x => by
  rw [flatQ_cons, List.set_cons_succ, flatQ_cons, ← flatQ_set L j x, show (j + 1) * 2 = j * 2 + 1 + 1 by omega]
  simp
abbrev QO (W : World) (base : Nat) (v : Value) (L : List StpT) : Prop := W.ownsRow base 161 2 v L.length (flatQ L)
theorem QO.cell {W : World} {base g cap : Nat} {L : List StpT} (h : QO W base (.slice (some ⟨g, 0, none⟩) L.length cap) L) {j : Nat} (hj : j < L.length) : W.cell? ⟨g, j * 2, none⟩ = some (.int .i64 (L[j].1 : Int)) ∧ W.cell? ⟨g, j * 2 + 1, none⟩ = some (.int .i64 (L[j].2 : Int)) := by
 obtain ⟨h1, h2⟩ := flatQ_at (List.getElem?_eq_getElem hj)
 exact ⟨(World.ownsRow.cellAt h (j * 2) (by omega)).trans h1, (World.ownsRow.cellAt h (j * 2 + 1) (by omega)).trans h2⟩
theorem QO.put {W : World} {base g cap : Nat} {L : List StpT} (h : QO W base (.slice (some ⟨g, 0, none⟩) L.length cap) L) (j : Nat) (x : StpT) :
  QO ((W.setCell ⟨g, j * 2, none⟩ (.int .i64 (x.1 : Int))).setCell ⟨g, j * 2 + 1, none⟩ (.int .i64 (x.2 : Int))) base (.slice (some ⟨g, 0, none⟩) L.length cap) (L.set j x) ∧ W.grownBy ((W.setCell ⟨g, j * 2, none⟩ (.int .i64 (x.1 : Int))).setCell ⟨g, j * 2 + 1, none⟩ (.int .i64 (x.2 : Int))) (some g) := by
 obtain ⟨a1, a2⟩ := World.ownsRow.stored h (j * 2) (.int .i64 (x.1 : Int))
 obtain ⟨b1, b2⟩ := World.ownsRow.stored a1 (j * 2 + 1) (.int .i64 (x.2 : Int))
 refine ⟨?_, ⟨b2.os.trans a2.os, b2.tape.trans a2.tape, b2.output.trans a2.output, Nat.le_trans a2.size b2.size, fun k hk hne => (b2.block k (Nat.lt_of_lt_of_le hk a2.size) hne).trans (a2.block k hk hne)⟩⟩
 unfold QO
 rw [List.length_set, ← flatQ_set]
 exact b1
theorem grown_trans {a b c : World} {r : Option Nat} (h : a.grownBy b r) (h' : b.grownBy c r) : a.grownBy c r :=
 ⟨h'.os.trans h.os, h'.tape.trans h.tape, h'.output.trans h.output, Nat.le_trans h.size h'.size, fun k hk hne => (h'.block k (Nat.lt_of_lt_of_le hk h.size) hne).trans (h.block k hk hne)⟩
theorem grown_refl (a : World) (r : Option Nat) : a.grownBy a r := ⟨rfl, rfl, rfl, Nat.le_refl _, fun _ _ _ => rfl⟩
theorem grown_drewN {a b : World} {r : Option Nat} (h : a.grownBy b r) (k : Nat) : a.grownBy (b.drewN k) r := ⟨h.os, h.tape, h.output, h.size, h.block⟩
theorem qlen_any (p : Option Addr) (n c : Nat) (w : World) : Calls Tryz.prog 129 #[.slice p n c] w fun e w' => e = .returned (.int .i64 (n : Int)) ∧ w' = w := by
 go_enter Tryz.func129, Tryz.ntmps129
 go_wp2
 go_ret
 exact ⟨rfl, rfl⟩
theorem qless_any (base g cap : Nat) (L : List StpT) (i j : Nat) (w : World) (h : QO w base (.slice (some ⟨g, 0, none⟩) L.length cap) L) (hi : i < L.length) (hj : j < L.length) :
  Calls Tryz.prog 233 #[.slice (some ⟨g, 0, none⟩) L.length cap, .int .i64 (i : Int), .int .i64 (j : Int)] w fun e w' => (∃ b, e = .returned (.bool b)) ∧ ∃ q, w' = w.drewN q := by
 obtain ⟨a0, a1⟩ := h.cell hi
 obtain ⟨b0, b1⟩ := h.cell hj
 have hi' : (i : Int) < (L.length : Int) := by omega
 have hj' : (j : Int) < (L.length : Int) := by omega
 clear h
 go_enter Tryz.func233, Tryz.ntmps233
 go_wp2
 go_quiet (fail)
 go_wp2
 go_ret
 exact ⟨⟨_, rfl⟩, _, rfl⟩
theorem qswap_any (base g cap : Nat) (L : List StpT) (i j : Nat) (w : World) (h : QO w base (.slice (some ⟨g, 0, none⟩) L.length cap) L) (hi : i < L.length) (hj : j < L.length) :
  Calls Tryz.prog 234 #[.slice (some ⟨g, 0, none⟩) L.length cap, .int .i64 (i : Int), .int .i64 (j : Int)] w fun e w' => e = .returned (.tuple #[]) ∧ w.grownBy w' (some g) ∧ QO w' base (.slice (some ⟨g, 0, none⟩) L.length cap) ((L.set i L[j]).set j L[i]) := by
 obtain ⟨a0, a1⟩ := h.cell hi
 obtain ⟨b0, b1⟩ := h.cell hj
 have hi' : (i : Int) < (L.length : Int) := by omega
 have hj' : (j : Int) < (L.length : Int) := by omega
 have hfz := fun k => World.ownsRow.frozenAt h k
 have hmix := mixed
 have HQ : Hid _ := h
 clear h
 obtain ⟨x0, X0⟩ : ∃ x : Int, Hid ((L[i].1 : Int) = x) := ⟨(L[i].1 : Int), show Hid _ from rfl⟩
 obtain ⟨x1, X1⟩ : ∃ x : Int, Hid ((L[i].2 : Int) = x) := ⟨(L[i].2 : Int), show Hid _ from rfl⟩
 obtain ⟨y0, Y0⟩ : ∃ x : Int, Hid ((L[j].1 : Int) = x) := ⟨(L[j].1 : Int), show Hid _ from rfl⟩
 obtain ⟨y1, Y1⟩ : ∃ x : Int, Hid ((L[j].2 : Int) = x) := ⟨(L[j].2 : Int), show Hid _ from rfl⟩
 rw [X0.out] at a0
 rw [X1.out] at a1
 rw [Y0.out] at b0
 rw [Y1.out] at b1
 by_cases hij : i = j
 ·subst hij
  go_enter Tryz.func234, Tryz.ntmps234
  go_wp2
  go_big_region_o
  go_wp2
  have h1 := QO.put HQ.out i L[i]
  have h2 := QO.put (L := L.set i L[i]) (by rw [List.length_set]; exact h1.1) i L[i]
  rw [List.length_set, X0.out, X1.out] at h2
  rw [X0.out, X1.out] at h1
  exact bodyPost_end (results_none rfl _ _ _) rfl ⟨rfl, grown_drewN (grown_trans h1.2 h2.2) 1, h2.1⟩
 ·have n0 : ¬ j * 2 = i * 2 := by omega
  have n1 : ¬ j * 2 = i * 2 + 1 := by omega
  have n2 : ¬ j * 2 + 1 = i * 2 := by omega
  have n3 : ¬ j * 2 + 1 = i * 2 + 1 := by omega
  have m0 : ¬ i * 2 = j * 2 := by omega
  have m1 : ¬ i * 2 = j * 2 + 1 := by omega
  have m2 : ¬ i * 2 + 1 = j * 2 := by omega
  have m3 : ¬ i * 2 + 1 = j * 2 + 1 := by omega
  go_enter Tryz.func234, Tryz.ntmps234
  go_wp2
  go_big_region_o
  go_wp2
  have h1 := QO.put HQ.out i L[j]
  have h2 := QO.put (L := L.set i L[j]) (by rw [List.length_set]; exact h1.1) j L[i]
  rw [List.length_set, X0.out, X1.out] at h2
  rw [Y0.out, Y1.out] at h1 h2
  exact bodyPost_end (results_none rfl _ _ _) rfl ⟨rfl, grown_drewN (grown_trans h1.2 h2.2) 1, h2.1⟩
theorem swap_perm {α : Type} {L : List α} {i j : Nat} (hi : i < L.length) (hj : j < L.length) : ((L.set i L[j]).set j L[i]).Perm L := List.set_set_perm hi hj
structure QI (W : World) (sb base g cap : Nat) (L : List StpT) : Prop where
 cell : W.cell? ⟨sb, 5, none⟩ = some (.slice (some ⟨g, 0, none⟩) L.length cap)
 own : QO W base (.slice (some ⟨g, 0, none⟩) L.length cap) L
 ne : sb ≠ g
theorem QI.grown {W W' : World} {sb base g cap : Nat} {L L' : List StpT} (h : QI W sb base g cap L) (hg : W.grownBy W' (some g)) (hl : L'.length = L.length) (ho : QO W' base (.slice (some ⟨g, 0, none⟩) L.length cap) L') : QI W' sb base g cap L' := by
 refine ⟨?_, ?_, h.ne⟩
 ·rw [hl]; exact hg.cell h.cell (fun e => h.ne (Option.some.inj e))
 ·rw [hl]; exact ho
theorem qswap_at (base g cap : Nat) (L : List StpT) (i j m : Nat) (w : World) (hm : L.length = m) (h : QO w base (.slice (some ⟨g, 0, none⟩) m cap) L) (hi : i < m) (hj : j < m) :
  Calls Tryz.prog 234 #[.slice (some ⟨g, 0, none⟩) m cap, .int .i64 (i : Int), .int .i64 (j : Int)] w fun e w' => e = .returned (.tuple #[]) ∧ ∃ L', L'.length = m ∧ L'.Perm L ∧ (∀ k, k ≠ i → k ≠ j → L'[k]? = L[k]?) ∧ (L'[j]? = L[i]?) ∧ w.grownBy w' (some g) ∧ QO w' base (.slice (some ⟨g, 0, none⟩) m cap) L' := by
 subst hm
 refine (qswap_any base g cap L i j w h hi hj).mono ?_
 rintro e w' ⟨rfl, h1, h2⟩
 refine ⟨rfl, _, by simp, swap_perm hi hj, fun k k1 k2 => ?_, ?_, h1, h2⟩
 ·rw [List.getElem?_set_ne (Ne.symm k2), List.getElem?_set_ne (Ne.symm k1)]
 ·rw [List.getElem?_set_self (by simpa using hj), List.getElem?_eq_getElem hi]
def RetB (e : Ending) : Prop := ∃ b, e = .returned (.bool b)
def SameQ (sb base g cap n : Nat) (L : List StpT) (w w' : World) : Prop := ∃ L', L'.Perm L ∧ L'[n]? = L[n]? ∧ w.grownBy w' (some g) ∧ QI w' sb base g cap L'
theorem up_any (sb base g cap : Nat) (L : List StpT) (j : Nat) (w : World) (h : QI w sb base g cap L) (hj : j < L.length) (hm : L.length ≤ 8796093022208) :
  Calls Tryz.prog 170 #[.iface 189 (.pointer (some ⟨sb, 5, none⟩)), .int .i64 (j : Int)] w fun e w' => e = .returned (.tuple #[]) ∧ ∃ L', L'.Perm L ∧ w.grownBy w' (some g) ∧ QI w' sb base g cap L' := by
 go_enter Tryz.func170, Tryz.ntmps170
 go_wp2
 go_loopw [1] (fun iv wr => ∃ (i : Nat) (Lr : List StpT), iv = .int .i64 i ∧ i < L.length ∧ Hid (Lr.length = L.length) ∧ Lr.Perm L ∧ w.grownBy wr (some g) ∧ QI wr sb base g cap Lr) (fun iv _ => (intOf iv).toNat)
 case atStart => exact ⟨j, L, rfl, hj, rfl, List.Perm.refl _, grown_refl _ _, h⟩
 case round =>
  obtain ⟨i, Lr, rfl, hi, HL, hp, hg, hq⟩ := hrel
  have hc := hq.cell
  rw [HL.out] at hc
  have m1 := method_less ⟨sb, 5, none⟩ wr _ hc
  by_cases h0 : i = 0
  ·subst h0
   go_wp2
   exact bodyPost_end (results_none rfl _ _ _) rfl ⟨rfl, Lr, hp, hg, hq⟩
  ·have hi1 : (1 : Int) ≤ (i : Int) := by omega
   have hi2 : (i : Int) ≤ 8796093022208 := by omega
   obtain ⟨k, hk⟩ : ∃ k : Nat, ((i : Int) - 1) / 2 = (k : Int) := ⟨(i - 1) / 2, by omega⟩
   have hki : k < i := by omega
   have hne : ¬ ((i : Int) - 1) / 2 = (i : Int) := by omega
   have hl : Calls Tryz.prog 233 #[.slice (some ⟨g, 0, none⟩) L.length cap, .int .i64 (i : Int), .int .i64 (((i : Int) - 1) / 2)] wr fun e w' => (∃ b, e = .returned (.bool b)) ∧ ∃ q, w' = wr.drewN q := by
    have := qless_any base g cap Lr i k wr hq.own (by rw [HL.out]; exact hi) (by rw [HL.out]; omega)
    rw [HL.out] at this
    rw [hk]; exact this
   have HK : Hid _ := hk
   clear hk
   go_wp2_with fail
   refine hl.mono ?_
   rintro e w1 ⟨⟨b, rfl⟩, q, rfl⟩
   clear hl m1
   have hq1 : QI (wr.drewN q) sb base g cap Lr := ⟨hq.cell, hq.own, hq.ne⟩
   have hg1 := grown_drewN hg q
   have hc1 : (wr.drewN q).cell? ⟨sb, 5, none⟩ = some (.slice (some ⟨g, 0, none⟩) L.length cap) := hc
   generalize wr.drewN q = w1 at hq1 hg1 hc1 ⊢
   clear hc hq hg
   cases b with
   | false =>
    go_wp2
    exact bodyPost_end (results_none rfl _ _ _) rfl ⟨rfl, Lr, hp, hg1, hq1⟩
   | true =>
    have m2 := method_swap ⟨sb, 5, none⟩ w1 _ hc1
    have hs : Calls Tryz.prog 234 #[.slice (some ⟨g, 0, none⟩) L.length cap, .int .i64 (((i : Int) - 1) / 2), .int .i64 (i : Int)] w1 fun e w' => e = .returned (.tuple #[]) ∧ ∃ L', Hid (L'.length = L.length) ∧ L'.Perm L ∧ w1.grownBy w' (some g) ∧ QI w' sb base g cap L' := by
     have h0 := hq1.own
     rw [HL.out] at h0
     rw [HK.out]
     refine (qswap_at base g cap Lr k i L.length w1 HL.out h0 (by omega) hi).mono ?_
     rintro e w' ⟨rfl, L', k1, k2, _, _, h2, h3⟩
     exact ⟨rfl, L', k1, k2.trans hp, h2, hq1.grown h2 (k1.trans HL.out.symm) (by rw [HL.out]; exact h3)⟩
    go_wp2_with fail
    refine hs.mono ?_
    rintro e w2 ⟨rfl, L2, HL2, hp2, hg2, hq2⟩
    clear hs m2 hc1
    go_wp2
    exact ⟨⟨k, L2, by rw [HK.out], by omega, HL2, hp2, grown_trans hg1 hg2, hq2⟩, by have := HK.out; simp [intOf]; omega⟩
theorem down_any (sb base g cap : Nat) (L : List StpT) (n : Nat) (w : World) (h : QI w sb base g cap L) (hn : n < L.length) (hm : L.length ≤ 8796093022208) :
  Calls Tryz.prog 171 #[.iface 189 (.pointer (some ⟨sb, 5, none⟩)), .int .i64 0, .int .i64 (n : Int)] w fun e w' => RetB e ∧ SameQ sb base g cap n L w w' := by
 go_enter Tryz.func171, Tryz.ntmps171
 go_wp2
 go_loopw [7] (fun iv wr => ∃ (i : Nat) (Lr : List StpT), iv = .int .i64 i ∧ i < L.length ∧ Hid (Lr.length = L.length) ∧ Lr.Perm L ∧ Hid (Lr[n]? = L[n]?) ∧ w.grownBy wr (some g) ∧ QI wr sb base g cap Lr) (fun iv _ => L.length - (intOf iv).toNat)
 case atStart => exact ⟨0, L, rfl, by omega, rfl, List.Perm.refl _, rfl, grown_refl _ _, h⟩
 case round =>
  obtain ⟨i, Lr, rfl, hi, HL, hp, HN, hg, hq⟩ := hrel
  have hi2 : (i : Int) ≤ 8796093022208 := by omega
  have hc := hq.cell
  rw [HL.out] at hc
  have hless : ∀ (W : World) (x y : Nat), QI W sb base g cap Lr → x < L.length → y < L.length → Calls Tryz.prog 233 #[.slice (some ⟨g, 0, none⟩) L.length cap, .int .i64 (x : Int), .int .i64 (y : Int)] W fun e w' => (∃ b, e = .returned (.bool b)) ∧ ∃ q, w' = W.drewN q := by
   intro W x y hW hx hy
   have := qless_any base g cap Lr x y W hW.own (by rw [HL.out]; exact hx) (by rw [HL.out]; exact hy)
   rwa [HL.out] at this
  have hend : ∀ W : World, w.grownBy W (some g) → QI W sb base g cap Lr → SameQ sb base g cap n L w W := fun W hW hQ => ⟨Lr, hp, HN.out, hW, hQ⟩
  by_cases h1 : 2 * i + 1 < n
  ·have h1z : ¬ (n : Int) ≤ 2 * (i : Int) + 1 := by omega
   have h1y : ¬ 2 * (i : Int) + 1 < 0 := by omega
   have hrest : ∀ (W : World) (k : Nat), QI W sb base g cap Lr → i < k → k < n → w.grownBy W (some g) →
     (Calls Tryz.prog 233 #[.slice (some ⟨g, 0, none⟩) L.length cap, .int .i64 (k : Int), .int .i64 (i : Int)] W fun e w' => (∃ b, e = .returned (.bool b)) ∧ ∃ q, w' = W.drewN q) ∧
     ∀ q, Calls Tryz.prog 234 #[.slice (some ⟨g, 0, none⟩) L.length cap, .int .i64 (i : Int), .int .i64 (k : Int)] (W.drewN q) fun e w' => e = .returned (.tuple #[]) ∧ ∃ L', Hid (L'.length = L.length) ∧ L'.Perm L ∧ Hid (L'[n]? = L[n]?) ∧ w.grownBy w' (some g) ∧ QI w' sb base g cap L' := by
    intro W k hW hik hkn hgW
    refine ⟨hless W k i hW (by omega) (by omega), fun q => ?_⟩
    have hq1 : QI (W.drewN q) sb base g cap Lr := ⟨hW.cell, hW.own, hW.ne⟩
    have h0 := hq1.own
    rw [HL.out] at h0
    refine (qswap_at base g cap Lr i k L.length (W.drewN q) HL.out h0 (by omega) (by omega)).mono ?_
    rintro e w' ⟨rfl, L', k1, k2, k3, _, h2, h3⟩
    exact ⟨rfl, L', k1, k2.trans hp, (k3 n (by omega) (by omega)).trans HN.out, grown_trans (grown_drewN hgW q) h2, hq1.grown h2 (k1.trans HL.out.symm) (by rw [HL.out]; exact h3)⟩
   have m1 := method_less ⟨sb, 5, none⟩ wr _ hc
   by_cases h2 : 2 * i + 2 < n
   ·have h2z : 2 * (i : Int) + 1 + 1 < (n : Int) := by omega
    have hl : Calls Tryz.prog 233 #[.slice (some ⟨g, 0, none⟩) L.length cap, .int .i64 (2 * (i : Int) + 1 + 1), .int .i64 (2 * (i : Int) + 1)] wr fun e w' => (∃ b, e = .returned (.bool b)) ∧ ∃ q, w' = wr.drewN q := by
     have := hless wr (2 * i + 2) (2 * i + 1) hq (by omega) (by omega)
     rwa [show ((2 * i + 2 : Nat) : Int) = 2 * (i : Int) + 1 + 1 by omega, show ((2 * i + 1 : Nat) : Int) = 2 * (i : Int) + 1 by omega] at this
    have HR : Hid _ := hrest
    clear hless hrest
    go_wp2_with fail
    refine hl.mono ?_
    rintro e w1 ⟨⟨b, rfl⟩, q, rfl⟩
    clear hl m1
    have hq1 : QI (wr.drewN q) sb base g cap Lr := ⟨hq.cell, hq.own, hq.ne⟩
    have hg1 := grown_drewN hg q
    have hc1 : (wr.drewN q).cell? ⟨sb, 5, none⟩ = some (.slice (some ⟨g, 0, none⟩) L.length cap) := hc
    generalize wr.drewN q = w1 at hq1 hg1 hc1 ⊢
    clear hc hq hg
    have m1 := method_less ⟨sb, 5, none⟩ w1 _ hc1
    cases b with
    | false =>
     obtain ⟨r1, r2⟩ := HR.out w1 (2 * i + 1) hq1 (by omega) (by omega) hg1
     rw [show ((2 * i + 1 : Nat) : Int) = 2 * (i : Int) + 1 by omega] at r1 r2
     go_wp2_with fail
     refine r1.mono ?_
     rintro e w2 ⟨⟨b, rfl⟩, q2, rfl⟩
     clear r1 m1
     replace r2 := r2 q2
     have hq2 : QI (w1.drewN q2) sb base g cap Lr := ⟨hq1.cell, hq1.own, hq1.ne⟩
     have hg2 := grown_drewN hg1 q2
     have hc2 : (w1.drewN q2).cell? ⟨sb, 5, none⟩ = some (.slice (some ⟨g, 0, none⟩) L.length cap) := hc1
     generalize w1.drewN q2 = w2 at hq2 hg2 hc2 r2 ⊢
     clear hc1 hq1 hg1
     cases b with
     | false =>
      go_wp2
      go_ret
      exact ⟨⟨_, rfl⟩, hend _ hg2 hq2⟩
     | true =>
      have m2 := method_swap ⟨sb, 5, none⟩ w2 _ hc2
      go_wp2_with fail
      refine r2.mono ?_
      rintro e w3 ⟨rfl, L3, HL3, hp3, HN3, hg3, hq3⟩
      clear r2 m2 hc2
      go_wp2
      exact ⟨⟨2 * i + 1, L3, by go_num, by omega, HL3, hp3, HN3, hg3, hq3⟩, by simp [intOf]; omega⟩
    | true =>
     obtain ⟨r1, r2⟩ := HR.out w1 (2 * i + 2) hq1 (by omega) (by omega) hg1
     rw [show ((2 * i + 2 : Nat) : Int) = 2 * (i : Int) + 1 + 1 by omega] at r1 r2
     go_wp2_with fail
     refine r1.mono ?_
     rintro e w2 ⟨⟨b, rfl⟩, q2, rfl⟩
     clear r1 m1
     replace r2 := r2 q2
     have hq2 : QI (w1.drewN q2) sb base g cap Lr := ⟨hq1.cell, hq1.own, hq1.ne⟩
     have hg2 := grown_drewN hg1 q2
     have hc2 : (w1.drewN q2).cell? ⟨sb, 5, none⟩ = some (.slice (some ⟨g, 0, none⟩) L.length cap) := hc1
     generalize w1.drewN q2 = w2 at hq2 hg2 hc2 r2 ⊢
     clear hc1 hq1 hg1
     cases b with
     | false =>
      go_wp2
      go_ret
      exact ⟨⟨_, rfl⟩, hend _ hg2 hq2⟩
     | true =>
      have m2 := method_swap ⟨sb, 5, none⟩ w2 _ hc2
      go_wp2_with fail
      refine r2.mono ?_
      rintro e w3 ⟨rfl, L3, HL3, hp3, HN3, hg3, hq3⟩
      clear r2 m2 hc2
      go_wp2
      exact ⟨⟨2 * i + 2, L3, by go_num, by omega, HL3, hp3, HN3, hg3, hq3⟩, by simp [intOf]; omega⟩
   ·have h2z : ¬ 2 * (i : Int) + 1 + 1 < (n : Int) := by omega
    obtain ⟨r1, r2⟩ := hrest wr (2 * i + 1) hq (by omega) (by omega) hg
    rw [show ((2 * i + 1 : Nat) : Int) = 2 * (i : Int) + 1 by omega] at r1 r2
    clear hless hrest
    go_wp2_with fail
    refine r1.mono ?_
    rintro e w2 ⟨⟨b, rfl⟩, q2, rfl⟩
    clear r1 m1
    replace r2 := r2 q2
    have hq2 : QI (wr.drewN q2) sb base g cap Lr := ⟨hq.cell, hq.own, hq.ne⟩
    have hg2 := grown_drewN hg q2
    have hc2 : (wr.drewN q2).cell? ⟨sb, 5, none⟩ = some (.slice (some ⟨g, 0, none⟩) L.length cap) := hc
    generalize wr.drewN q2 = w2 at hq2 hg2 hc2 r2 ⊢
    clear hc hq hg
    cases b with
    | false =>
     go_wp2
     go_ret
     exact ⟨⟨_, rfl⟩, hend _ hg2 hq2⟩
    | true =>
     have m2 := method_swap ⟨sb, 5, none⟩ w2 _ hc2
     go_wp2_with fail
     refine r2.mono ?_
     rintro e w3 ⟨rfl, L3, HL3, hp3, HN3, hg3, hq3⟩
     clear r2 m2 hc2
     go_wp2
     exact ⟨⟨2 * i + 1, L3, by go_num, by omega, HL3, hp3, HN3, hg3, hq3⟩, by simp [intOf]; omega⟩
  ·have h1z : (n : Int) ≤ 2 * (i : Int) + 1 := by omega
   go_wp2
   go_ret
   exact ⟨⟨_, rfl⟩, hend _ hg hq⟩
end Go.Proofs.YtalflecmadacaaaGreat
