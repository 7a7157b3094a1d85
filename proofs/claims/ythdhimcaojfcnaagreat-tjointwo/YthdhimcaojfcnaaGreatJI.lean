/-
  Of two vertices with one edge: proof.
-/
import Derived.Test.YthdhimcaojfcnaaGreatXM2P
namespace Go.Proofs.YthdhimcaojfcnaaGreat
open Go Go.Proofs Go.RowKit

section
variable (x : Nat) (w0 : World) (Bk : Nat → Nat) (b off c q : Nat) (sp : Value)
set_option maxRecDepth 100000 in
set_option maxHeartbeats 4000000 in
theorem proof_any2 (hP : FP x w0 Bk b off c) (w : World) (hM : FM x w0 Bk (.slice (some ⟨b, off, none⟩) 1 q) (VS c sp A2 B2 C0 (-(c : Int)) (-(c : Int)) 1 0) w) : Calls Tryz.prog 50 #[.pointer (some ⟨Bk 0, 0, none⟩)] w fun e w' => e = .returned (.agg #[.slice (some ⟨Bk 2, 0, none⟩) 2 2, .slice none 0 0]) ∧ Below w.heap.size w w' := by
  have hmix := mixed
  have hxw := FP.le x w0 Bk b off c hP hM
  have HM : Hid (FM x w0 Bk (.slice (some ⟨b, off, none⟩) 1 q) (VS c sp A2 B2 C0 (-(c : Int)) (-(c : Int)) 1 0) w) := hM
  have k4 := hM.cell 0 4 (by omega) rfl
  have k2 := hM.cell 0 2 (by omega) rfl
  have z0 : w.cell? ⟨Bk 1, 9, none⟩ = some (.int .i64 0) := hM.cell 1 9 (by omega) rfl
  have z1 : w.cell? ⟨Bk 1, 19, none⟩ = some (.int .i64 0) := hM.cell 1 19 (by omega) rfl
  have z2 : w.cell? ⟨Bk 1, 29, none⟩ = some (.int .i64 0) := hM.cell 1 29 (by omega) rfl
  have hlt0 := hM.lt 0 (by omega)
  have hlt1 := hM.lt 1 (by omega)
  clear hM hP HM
  go_enter Tryz.func50, Tryz.ntmps50
  go_wp2
  obtain ⟨w1, hw1⟩ : ∃ W, ((w.alloc (.cells #[.slice none 0 0, .slice none 0 0] 67)).alloc (.cells #[.slice (some ⟨Bk 2, 0, none⟩) 2 2, .slice none 0 0] 67)) = W := ⟨_, rfl⟩
  have hb1 : Below w.heap.size w w1 := by rw [← hw1]; exact ((Below.refl _ _).alloc (Nat.le_refl _) _).alloc (by simp only [World.size_alloc]; omega) _
  have k2' := cell_keepW hb1 k2
  have z0' := cell_keepW hb1 z0
  have z1' := cell_keepW hb1 z1
  have z2' := cell_keepW hb1 z2
  have h2 : Blk 67 w1 (w.heap.size + 1) [.slice (some ⟨Bk 2, 0, none⟩) 2 2, .slice none 0 0] := by
    have hs : (w.alloc (.cells #[.slice none 0 0, .slice none 0 0] 67)).heap.size = w.heap.size + 1 := by simp
    rw [← hw1, ← hs]; exact heap_alloc_new (w.alloc (.cells #[.slice none 0 0, .slice none 0 0] 67)) _
  have h1 : Blk 67 w1 w.heap.size [.slice none 0 0, .slice none 0 0] := by
    have hh : Blk 67 (w.alloc (.cells #[.slice none 0 0, .slice none 0 0] 67)) w.heap.size [.slice none 0 0, .slice none 0 0] := heap_alloc_new w _
    rw [← hw1]; exact hh.go ((Below.refl _ _).alloc (Nat.le_refl _) _)
  rw [hw1]
  clear hw1 k2 k4 z0 z1 z2 hlt0 hlt1
  have q0 := h2.cell (j := 0) rfl
  have q1 := h2.cell (j := 1) rfl
  have r0 := h1.cell (j := 0) rfl
  have r1 := h1.cell (j := 1) rfl
  have H1 : Hid (Blk 67 w1 w.heap.size [.slice none 0 0, .slice none 0 0]) := h1
  have f0 := h1.frozen 0
  have f1 := h1.frozen 1
  have HB1 : Hid (Below w.heap.size w w1) := hb1
  have hl1 := h1.lt
  clear h1 h2 hb1
  go_loopw [16] (fun i wr => (i = .int .i64 0 ∨ i = .int .i64 1 ∨ i = .int .i64 2 ∨ i = .int .i64 3) ∧ wr = w1) (fun i _ => 3 - (intOf i).toNat)
  case atStart => exact ⟨.inl rfl, rfl⟩
  case round =>
    obtain ⟨rfl | rfl | rfl | rfl, rfl⟩ := hrel
    · go_wp2
      exact ⟨⟨.inr (.inl rfl), trivial⟩, by simp [intOf]⟩
    · go_wp2
      exact ⟨⟨.inr (.inr (.inl rfl)), trivial⟩, by simp [intOf]⟩
    · go_wp2
      exact ⟨⟨.inr (.inr (.inr rfl)), trivial⟩, by simp [intOf]⟩
    · go_wp2
      have hR := (H1.out.set 0 (.slice (some ⟨Bk 2, 0, none⟩) 2 2)).set 1 (.slice none 0 0)
      refine bodyPost_ret (results_cell_row rfl _ _ w.heap.size 67 #[.slice (some ⟨Bk 2, 0, none⟩) 2 2, .slice none 0 0] _ _ rfl hR Tryz.underlying67 rfl rfl) rfl ?_
      exact ⟨rfl, (HB1.out.setCell (Nat.le_refl _) _).setCell (Nat.le_refl _) _⟩
end
theorem ret_perf {fn : Func} {a p u : Tmp} (h : fn.results = #[.tmp a, .cell p 67, .tmp u]) {tmps : Array Value} {w : World} {b : Nat} {x y : Value} (hp : tmps.getD p undef = .pointer (some ⟨b, 0, none⟩)) (h0 : w.cell? ⟨b, 0, none⟩ = some x) (h1 : w.cell? ⟨b, 1, none⟩ = some y) :
    (results fn tmps).run Tryz.prog w = .ok (.tuple #[tmps.getD a undef, .agg #[x, y], tmps.getD u undef]) w := by
  have hp' : tmps[p]?.getD undef = .pointer (some ⟨b, 0, none⟩) := by simpa using hp
  have a1 := Tryz.isAgg67
  have a2 := Tryz.sizeOf67
  simp [results, h, hp', asAddr]
  go_simp
end Go.Proofs.YthdhimcaojfcnaaGreat

namespace Go.Proofs.YthdhimcaojfcnaaGreat
open Go Go.Proofs Go.RowKit

set_option maxRecDepth 100000 in
set_option maxHeartbeats 4000000 in
theorem perfect_two (c : Nat) (hc : c < 1099511627776) (p : Option Addr) (q : Nat) (w : World) (hl : Edges w.heap.size w (.slice p 1 q) ((L2 c).map edE)) : Calls Tryz.prog 41 #[.agg #[.int .i64 2, .slice p 1 q]] w fun r w' => ∃ g cap px, r = .returned (.tuple #[.slice (some ⟨g, 0, none⟩) 1 cap, .agg #[.slice (some ⟨px, 0, none⟩) 2 2, .slice none 0 0], .int .i64 0]) ∧ w'.cell? ⟨g, 0, none⟩ = some (.int .i64 0) ∧ w.heap.size ≤ g ∧ 1 ≤ cap ∧ Below w.heap.size w w' := by
  obtain ⟨w1, hw1⟩ : ∃ W, ((w.alloc (.cells #[.int .i64 2, .slice p 1 q] 24)).alloc (.cells #[.slice none 0 0, .slice none 0 0] 67)) = W := ⟨_, rfl⟩
  have hb1 : Below w.heap.size w w1 := by rw [← hw1]; exact ((Below.refl _ _).alloc (Nat.le_refl _) _).alloc (by simp only [World.size_alloc]; omega) _
  have hX : Blk 24 w1 w.heap.size [.int .i64 2, .slice p 1 q] := by
    have hh : Blk 24 (w.alloc (.cells #[.int .i64 2, .slice p 1 q] 24)) w.heap.size [.int .i64 2, .slice p 1 q] := heap_alloc_new w _
    rw [← hw1]; exact hh.go ((Below.refl _ _).alloc (Nat.le_refl _) _)
  have hP : Blk 67 w1 (w.heap.size + 1) [.slice none 0 0, .slice none 0 0] := by
    have hs : (w.alloc (.cells #[.int .i64 2, .slice p 1 q] 24)).heap.size = w.heap.size + 1 := by simp
    rw [← hw1, ← hs]; exact heap_alloc_new (w.alloc (.cells #[.int .i64 2, .slice p 1 q] 24)) _
  have hl1 : Edges w1.heap.size w1 (.slice p 1 q) ((L2 c).map edE) := hl.go hb1
  have x0 := hX.cell (j := 0) rfl
  have x1 := hX.cell (j := 1) rfl
  have HX : Hid (Blk 24 w1 w.heap.size [.int .i64 2, .slice p 1 q]) := hX
  have HPr : Hid (Blk 67 w1 (w.heap.size + 1) [.slice none 0 0, .slice none 0 0]) := hP
  have HB1 : Hid (Below w.heap.size w w1) := hb1
  have HL1 : Hid (Edges w1.heap.size w1 (.slice p 1 q) ((L2 c).map edE)) := hl1
  have hsz := hb1.size
  have hlP := hP.lt
  clear hX hP hb1 hl1 hl
  go_enter Tryz.func41, Tryz.ntmps41
  have hri := mRight_any c hc p q w1 HL1.out
  go_wp2_with fail
  clear hw1
  refine hri.mono ?_
  rintro e w2 ⟨rfl, hb2⟩
  clear hri
  have hX2 := HX.out.go hb2
  have hP2 := HPr.out.go hb2
  have x0 := hX2.cell (j := 0) rfl
  have x1 := hX2.cell (j := 1) rfl
  have HX2 : Hid (Blk 24 w2 w.heap.size [.int .i64 2, .slice p 1 q]) := hX2
  have HP2 : Hid (Blk 67 w2 (w.heap.size + 1) [.slice none 0 0, .slice none 0 0]) := hP2
  have HB2 : Hid (Below w.heap.size w w2) := HB1.out.trans (hb2.mono HB1.out.size)
  have hnf := newForest_any c hc p q w2 (HL1.out.go hb2)
  have hlP2 := hP2.lt
  clear hX2 hP2 hb2 HX HPr HB1 HL1
  go_wp2_with fail
  refine hnf.mono ?_
  rintro e w3 ⟨b, off, x, wA, Bk, sp, rfl, rfl, hbA, hx, hFP, hM3⟩
  clear hnf
  have hle3 := FP.le x wA Bk b off c hFP hM3
  have hb23 : Below w2.heap.size w2 w3 := hbA.trans (hM3.bel.mono hx)
  have hX3 := HX2.out.go hb23
  have x0 := hX3.cell (j := 0) rfl
  have HFP : Hid (FP x wA Bk b off c) := hFP
  have HM3 : Hid (FM x wA Bk (.slice (some ⟨b, off, none⟩) 1 q) (V4 c sp) w3) := hM3
  have HbA : Hid (Below w2.heap.size w2 wA) := hbA
  have Hx : Hid (w2.heap.size ≤ x) := hx
  have HlP : Hid (w.heap.size + 1 < w2.heap.size) := hlP2
  clear hFP hM3 hbA hx hb23 x1 hX3 hlP2 hle3 hc
  go_wp2
  go_loopw [23] (fun i wr => (i = .int .i64 0 ∧ FM x wA Bk (.slice (some ⟨b, off, none⟩) 1 q) (V4 c sp) wr) ∨ (i = .int .i64 1 ∧ FM x wA Bk (.slice (some ⟨b, off, none⟩) 1 q) (VS c sp A2 B2 C0 (-(c : Int)) (-(c : Int)) 1 0) wr)) (fun i _ => 1 - (intOf i).toNat)
  case atStart => exact .inl ⟨rfl, HM3.out⟩
  case round =>
    clear x0
    rcases hrel with ⟨rfl, hMr⟩ | ⟨rfl, hMr⟩
    · have hau := augment_any x wA Bk b off c q sp HFP.out wr hMr
      clear hMr
      go_wp2_with fail
      refine hau.mono ?_
      rintro e w4 ⟨rfl, hM4⟩
      have HM4 : Hid (FM x wA Bk (.slice (some ⟨b, off, none⟩) 1 q) (VS c sp A2 B2 C0 (-(c : Int)) (-(c : Int)) 1 0) w4) := hM4
      clear hau hM4
      go_wp2
      exact ⟨.inr ⟨rfl, HM4.out⟩, by simp [intOf]⟩
    · have hma := matching_any2 x wA Bk b off c q sp HFP.out wr hMr
      have HMr : Hid (FM x wA Bk (.slice (some ⟨b, off, none⟩) 1 q) (VS c sp A2 B2 C0 (-(c : Int)) (-(c : Int)) 1 0) wr) := hMr
      clear hMr
      go_wp2_with fail
      refine hma.mono ?_
      rintro e w5 ⟨g, cap, rfl, hg0, hgr, hcap, hb5⟩
      clear hma
      have hM5 := HMr.out.go (FP.le x wA Bk b off c HFP.out HMr.out) hb5
      have hpr := proof_any2 x wA Bk b off c q sp HFP.out w5 hM5
      clear hM5
      go_wp2_with fail
      refine hpr.mono ?_
      rintro e w6 ⟨rfl, hb6⟩
      clear hpr
      have hg6 := cell_keepW hb6 hg0
      have hbr : Below w2.heap.size w2 wr := HbA.out.trans (HMr.out.bel.mono Hx.out)
      have hb26 : Below w2.heap.size w2 w6 := hbr.trans ((hb5.mono hbr.size).trans (hb6.mono (by have := hbr.size; have := hb5.size; omega)))
      have hP6 := HP2.out.go hb26
      have HP6 : Hid (Blk 67 w6 (w.heap.size + 1) [.slice none 0 0, .slice none 0 0]) := hP6
      have HB6 : Hid (Below w.heap.size w w6) := HB2.out.trans (hb26.mono HB2.out.size)
      have f0 := hP6.frozen 0
      have f1 := hP6.frozen 1
      have r0 := hP6.cell (j := 0) rfl
      have r1 := hP6.cell (j := 1) rfl
      have hgn : w.heap.size + 1 < g := by have := HlP.out; have := hbr.size; omega
      clear hP6 hb26 hbr hb5 hb6 hg0
      go_wp2
      have hR := (HP6.out.set 0 (.slice (some ⟨Bk 2, 0, none⟩) 2 2)).set 1 (.slice none 0 0)
      refine bodyPost_ret (ret_perf rfl rfl (hR.cell (j := 0) rfl) (hR.cell (j := 1) rfl)) rfl ?_
      refine ⟨g, cap, _, rfl, ?_, by omega, hcap, (HB6.out.setCell (p := ⟨w.heap.size + 1, 0, none⟩) (by show _ ≤ w.heap.size + 1; omega) _).setCell (p := ⟨w.heap.size + 1, 1, none⟩) (by show _ ≤ w.heap.size + 1; omega) _⟩
      rw [World.cell?_setCell_far _ _ _ _ (by show w.heap.size + 1 ≠ g; omega), World.cell?_setCell_far _ _ _ _ (by show w.heap.size + 1 ≠ g; omega)]
      exact hg6
end Go.Proofs.YthdhimcaojfcnaaGreat
