/-
  Of two vertices with one edge: offer, lead.
-/
import Derived.Test.YthdhimcaojfcnaaGreatXM2H
namespace Go.Proofs.YthdhimcaojfcnaaGreat
open Go Go.Proofs Go.RowKit

section
variable (x : Nat) (w0 : World) (Bk : Nat → Nat) (b off c q : Nat) (sp : Value) (A B C : ND) (y0 y1 m0 m1 : Int)
set_option maxRecDepth 100000 in
set_option maxHeartbeats 4000000 in
theorem offer0 (hP : FP x w0 Bk b off c) (hA1 : A.nf = -1) (hA2 : A.nt = -1) (w : World) (hM : FM x w0 Bk (.slice (some ⟨b, off, none⟩) 1 q) (VS c sp A B C y0 y1 m0 m1) w) : Calls Tryz.prog 96 #[.pointer (some ⟨Bk 0, 0, none⟩), .int .i64 0, .agg #[.int .i64 1, .int .i64 0]] w fun e w' => e = .returned (.tuple #[]) ∧ FM x w0 Bk (.slice (some ⟨b, off, none⟩) 1 q) (VS c sp { A with nf := 1, nt := 0 } B C y0 y1 m0 m1) w' := by
  have hmix := mixed
  have hx : x ≤ w.heap.size := by have h1 := hM.lt 0 (by omega); have h2 := hP.lo 0 (by omega); omega
  have hal : Below w.heap.size w (w.alloc (.cells #[.int .i64 1, .int .i64 0] 102)) := (Below.refl _ _).alloc (Nat.le_refl _) _
  have hL : Blk 102 (w.alloc (.cells #[.int .i64 1, .int .i64 0] 102)) w.heap.size [.int .i64 1, .int .i64 0] := heap_alloc_new w _
  have hN := hM.go hx hal
  have hfl := hM.lt 1 (by omega)
  obtain ⟨s0, vf0, vt0, nf0, nt0, h0, b0⟩ := A
  simp only at hA1 hA2
  subst hA1 hA2
  have HP : Hid _ := hP
  clear hM hP hal
  go_enter Tryz.func96, Tryz.ntmps96
  go_wp2
  obtain ⟨W1, hW1⟩ : ∃ W, w.alloc (.cells #[.int .i64 1, .int .i64 0] 102) = W := ⟨_, rfl⟩
  rw [hW1] at hN hL ⊢
  obtain ⟨lb, hlb⟩ : ∃ n, w.heap.size = n := ⟨_, rfl⟩
  rw [hlb] at hL hfl hx ⊢
  clear hW1 hlb
  have l0 := hL.cell (j := 0) rfl
  have l1 := hL.cell (j := 1) rfl
  have k2 := hN.cell 0 2 (by omega) rfl
  have a3 := hN.cell 1 3 (by omega) rfl
  have a4 := hN.cell 1 4 (by omega) rfl
  have hlt := hL.lt
  have e0 := cell_grown (a := ⟨lb, 0, none⟩) hlt l0
  have e1 := cell_grown (a := ⟨lb, 1, none⟩) hlt l1
  have e2 := cell_grown (a := ⟨Bk 0, 2, none⟩) (hN.lt 0 (by omega)) k2
  have e3 := cell_grown (a := ⟨Bk 1, 3, none⟩) (hN.lt 1 (by omega)) a3
  have e4 := cell_grown (a := ⟨Bk 1, 4, none⟩) (hN.lt 1 (by omega)) a4
  clear l0 l1 k2 a3 a4
  have HN : Hid (FM x w0 Bk (.slice (some ⟨b, off, none⟩) 1 q) (VS c sp ⟨s0, vf0, vt0, -1, -1, h0, b0⟩ B C y0 y1 m0 m1) W1) := hN
  have HL : Hid (Blk 102 W1 lb [.int .i64 1, .int .i64 0]) := hL
  clear hN hL
  go_quiet_grown (first | (go_at_call 116; refine Calls.grown_of (isBetter_yes _ 1 0 rfl _)))
  obtain ⟨W2, hW2⟩ : ∃ W, Go.Sort.grow (W1.drewN nq) osq = W := ⟨_, rfl⟩
  have hg2 : Below W1.heap.size W1 W2 := Grew.below ⟨nq, osq, hW2.symm⟩
  have hM2 : FM x w0 Bk (.slice (some ⟨b, off, none⟩) 1 q) (VS c sp ⟨s0, vf0, vt0, -1, -1, h0, b0⟩ B C y0 y1 m0 m1) W2 := HN.out.go (by omega) hg2
  have hL2 : Blk 102 W2 lb [.int .i64 1, .int .i64 0] := HL.out.go hg2
  show Exit.then _ _ Exit.normal _ (Go.Sort.grow (W1.drewN nq) osq)
  rw [hW2]
  clear hW2 hg2 e0 e1 e2 e3 e4 HN HL
  have l0 := hL2.cell (j := 0) rfl
  have l1 := hL2.cell (j := 1) rfl
  have k2 := hM2.cell 0 2 (by omega) rfl
  have a3 := hM2.cell 1 3 (by omega) rfl
  have a4 := hM2.cell 1 4 (by omega) rfl
  have f3 := hM2.frozen 1 3 (by omega)
  have f4 := hM2.frozen 1 4 (by omega)
  have d1 : Bk 0 ≠ Bk 1 := HP.out.ne (by omega) (by omega) (by omega)
  have d2 : lb ≠ Bk 1 := by omega
  have HM3 : Hid (FM x w0 Bk (.slice (some ⟨b, off, none⟩) 1 q) (VS c sp ⟨s0, vf0, vt0, 1, 0, h0, b0⟩ B C y0 y1 m0 m1) ((W2.setCell ⟨Bk 1, 3, none⟩ (.int .i64 1)).setCell ⟨Bk 1, 4, none⟩ (.int .i64 0))) := (hM2.setN HP.out 3 _).setN HP.out 4 _
  clear hM2 hL2
  go_wp2
  go_big_region_o
  go_wp2
  exact bodyPost_end (results_none rfl _ _ _) rfl ⟨rfl, HM3.out.drew⟩
set_option maxRecDepth 100000 in
set_option maxHeartbeats 4000000 in
theorem offer1 (hP : FP x w0 Bk b off c) (hA1 : B.nf = -1) (hA2 : B.nt = -1) (w : World) (hM : FM x w0 Bk (.slice (some ⟨b, off, none⟩) 1 q) (VS c sp A B C y0 y1 m0 m1) w) : Calls Tryz.prog 96 #[.pointer (some ⟨Bk 0, 0, none⟩), .int .i64 1, .agg #[.int .i64 0, .int .i64 1]] w fun e w' => e = .returned (.tuple #[]) ∧ FM x w0 Bk (.slice (some ⟨b, off, none⟩) 1 q) (VS c sp A { B with nf := 0, nt := 1 } C y0 y1 m0 m1) w' := by
  have hmix := mixed
  have hx : x ≤ w.heap.size := by have h1 := hM.lt 0 (by omega); have h2 := hP.lo 0 (by omega); omega
  have hal : Below w.heap.size w (w.alloc (.cells #[.int .i64 0, .int .i64 1] 102)) := (Below.refl _ _).alloc (Nat.le_refl _) _
  have hL : Blk 102 (w.alloc (.cells #[.int .i64 0, .int .i64 1] 102)) w.heap.size [.int .i64 0, .int .i64 1] := heap_alloc_new w _
  have hN := hM.go hx hal
  have hfl := hM.lt 1 (by omega)
  obtain ⟨s0, vf0, vt0, nf0, nt0, h0, b0⟩ := B
  simp only at hA1 hA2
  subst hA1 hA2
  have HP : Hid _ := hP
  clear hM hP hal
  go_enter Tryz.func96, Tryz.ntmps96
  go_wp2
  obtain ⟨W1, hW1⟩ : ∃ W, w.alloc (.cells #[.int .i64 0, .int .i64 1] 102) = W := ⟨_, rfl⟩
  rw [hW1] at hN hL ⊢
  obtain ⟨lb, hlb⟩ : ∃ n, w.heap.size = n := ⟨_, rfl⟩
  rw [hlb] at hL hfl hx ⊢
  clear hW1 hlb
  have l0 := hL.cell (j := 0) rfl
  have l1 := hL.cell (j := 1) rfl
  have k2 := hN.cell 0 2 (by omega) rfl
  have a3 := hN.cell 1 13 (by omega) rfl
  have a4 := hN.cell 1 14 (by omega) rfl
  have hlt := hL.lt
  have e0 := cell_grown (a := ⟨lb, 0, none⟩) hlt l0
  have e1 := cell_grown (a := ⟨lb, 1, none⟩) hlt l1
  have e2 := cell_grown (a := ⟨Bk 0, 2, none⟩) (hN.lt 0 (by omega)) k2
  have e3 := cell_grown (a := ⟨Bk 1, 13, none⟩) (hN.lt 1 (by omega)) a3
  have e4 := cell_grown (a := ⟨Bk 1, 14, none⟩) (hN.lt 1 (by omega)) a4
  clear l0 l1 k2 a3 a4
  have HN : Hid (FM x w0 Bk (.slice (some ⟨b, off, none⟩) 1 q) (VS c sp A ⟨s0, vf0, vt0, -1, -1, h0, b0⟩ C y0 y1 m0 m1) W1) := hN
  have HL : Hid (Blk 102 W1 lb [.int .i64 0, .int .i64 1]) := hL
  clear hN hL
  go_quiet_grown (first | (go_at_call 116; refine Calls.grown_of (isBetter_yes _ 0 1 rfl _)))
  obtain ⟨W2, hW2⟩ : ∃ W, Go.Sort.grow (W1.drewN nq) osq = W := ⟨_, rfl⟩
  have hg2 : Below W1.heap.size W1 W2 := Grew.below ⟨nq, osq, hW2.symm⟩
  have hM2 : FM x w0 Bk (.slice (some ⟨b, off, none⟩) 1 q) (VS c sp A ⟨s0, vf0, vt0, -1, -1, h0, b0⟩ C y0 y1 m0 m1) W2 := HN.out.go (by omega) hg2
  have hL2 : Blk 102 W2 lb [.int .i64 0, .int .i64 1] := HL.out.go hg2
  show Exit.then _ _ Exit.normal _ (Go.Sort.grow (W1.drewN nq) osq)
  rw [hW2]
  clear hW2 hg2 e0 e1 e2 e3 e4 HN HL
  have l0 := hL2.cell (j := 0) rfl
  have l1 := hL2.cell (j := 1) rfl
  have k2 := hM2.cell 0 2 (by omega) rfl
  have a3 := hM2.cell 1 13 (by omega) rfl
  have a4 := hM2.cell 1 14 (by omega) rfl
  have f3 := hM2.frozen 1 13 (by omega)
  have f4 := hM2.frozen 1 14 (by omega)
  have d1 : Bk 0 ≠ Bk 1 := HP.out.ne (by omega) (by omega) (by omega)
  have d2 : lb ≠ Bk 1 := by omega
  have HM3 : Hid (FM x w0 Bk (.slice (some ⟨b, off, none⟩) 1 q) (VS c sp A ⟨s0, vf0, vt0, 0, 1, h0, b0⟩ C y0 y1 m0 m1) ((W2.setCell ⟨Bk 1, 13, none⟩ (.int .i64 0)).setCell ⟨Bk 1, 14, none⟩ (.int .i64 1))) := (hM2.setN HP.out 13 _).setN HP.out 14 _
  clear hM2 hL2
  go_wp2
  go_big_region_o
  go_wp2
  exact bodyPost_end (results_none rfl _ _ _) rfl ⟨rfl, HM3.out.drew⟩
end
end Go.Proofs.YthdhimcaojfcnaaGreat
