/-
  The chapter's example: alive.
-/
import Derived.Test.YtdgecflljgnobaaXLvRefP
import Derived.Test.YtdgecflljgnobaaXPLight
namespace Go.Proofs.Ytdgecflljgnobaa
open Go Go.Proofs Go.RowKit

def exL : List Ed := [(0, 1, 0), (1, 2, 0), (2, 3, 0)]
theorem exL_right : RightG (4 : Int) exL := right_iff.1 (by decide)
theorem exL_lev {L : List Int} (h : Lev 4 exL L) : L = [0, 1, 2, 3] := by
  rw [← lev_ref (right_ends exL_right) h]
  decide
theorem exL_pieces : piecesL 4 exL (staysL [0, 1, 2, 3] 1 0) = [[1], [3]] := by decide

set_option maxRecDepth 100000 in
set_option maxHeartbeats 4000000 in
theorem alive_any (w : World) : Calls Try.prog 8 #[] w fun e w' => e = .returned (.bool true) ∧ Below w.heap.size w w' := by
  have hB : Blk 47 (w.alloc (.cells #[.int .i64 0, .int .i64 1, .int .i64 0, .int .i64 1, .int .i64 2, .int .i64 0, .int .i64 2, .int .i64 3, .int .i64 0] 47)) w.heap.size (flat exL) := heap_alloc_new w _
  obtain ⟨w0, hw0⟩ : ∃ W, (w.alloc (.cells #[.int .i64 0, .int .i64 1, .int .i64 0, .int .i64 1, .int .i64 2, .int .i64 0, .int .i64 2, .int .i64 3, .int .i64 0] 47)) = W := ⟨_, rfl⟩
  have hb0 : Below w.heap.size w w0 := by rw [← hw0]; exact (Below.refl _ _).alloc (Nat.le_refl _) _
  have hs0 : w0.heap.size = w.heap.size + 1 := by rw [← hw0]; simp
  rw [hw0] at hB
  obtain ⟨w1, hw1⟩ : ∃ W, (w0.alloc (.cells #[.int .i64 4, .slice (some ⟨w.heap.size, 0, none⟩) 3 3] 24)) = W := ⟨_, rfl⟩
  have hb1 : Below w0.heap.size w0 w1 := by rw [← hw1]; exact (Below.refl _ _).alloc (Nat.le_refl _) _
  have hG1 : Blk 24 w1 (w.heap.size + 1) [.int .i64 4, .slice (some ⟨w.heap.size, 0, none⟩) 3 3] := by
    rw [← hw1, ← hs0]; exact heap_alloc_new w0 _
  have hE1 : Edges w1.heap.size w1 (.slice (some ⟨w.heap.size, 0, none⟩) 3 3) exL := hB.edges.go hb1
  have hbw1 : Below w.heap.size w w1 := hb0.trans (hb1.mono hb0.size)
  have g0 := hG1.cell (j := 0) rfl
  have g1 := hG1.cell (j := 1) rfl
  have hof := of_any 4 exL exL_right _ w1 hE1
  clear hB hb0 hb1
  go_enter Try.func8, Try.ntmps8
  go_wp2_with fail
  refine hof.mono ?_
  rintro e w2 ⟨gl, L, rfl, hgl, hBL, hL, hb2⟩
  obtain rfl := exL_lev hL
  have hE2 := hE1.go hb2
  have hG2 := hG1.go hb2
  have hbw2 := hbw1.trans (hb2.mono hbw1.size)
  clear hof hE1 hG1 hbw1 hb2 g0 g1
  have g0 := hG2.cell (j := 0) rfl
  have g1 := hG2.cell (j := 1) rfl
  have hpc := pieces_any 4 exL exL_right 1 0 (by omega) (by omega) (by omega) (by omega) _ w2 hE2
  go_wp2_with fail
  refine hpc.mono ?_
  rintro e w3 ⟨rv, D, rfl, hLp, hD, hb3⟩
  obtain rfl := exL_lev hD
  rw [exL_pieces] at hLp
  have hBL3 := hBL.go hb3
  have hbw3 := hbw2.trans (hb3.mono hbw2.size)
  obtain ⟨pr, cr, rfl⟩ := hLp.len
  clear hpc hE2 hG2 hbw2 hb3 g0 g1 hBL
  have hbA : Below w3.heap.size w3 (w3.alloc (.cells #[.int .i64 0, .int .i64 1, .int .i64 2, .int .i64 3] 3)) := (Below.refl _ _).alloc (Nat.le_refl _) _
  have hI4 : Ints (w3.alloc (.cells #[.int .i64 0, .int .i64 1, .int .i64 2, .int .i64 3] 3)).heap.size (w3.alloc (.cells #[.int .i64 0, .int .i64 1, .int .i64 2, .int .i64 3] 3)) (.slice (some ⟨w3.heap.size, 0, none⟩) 4 4) [0, 1, 2, 3] := Blk.ints (l := [0, 1, 2, 3]) (t := 3) (heap_alloc_new w3 _)
  have hri := refInts_any [0, 1, 2, 3] [0, 1, 2, 3] (by decide) _ _ _ (hBL3.ints.go hbA) hI4
  have hLp4 := hLp.go hbA
  have hbw4 := hbw3.trans (hbA.mono hbw3.size)
  clear hI4 hbA hBL3 hLp hbw3
  go_wp2_with fail
  refine hri.mono ?_
  rintro e w4 ⟨rfl, hg4⟩
  have hLp5 := hLp4.go hg4.below
  have hbw5 := hbw4.trans (hg4.below.mono hbw4.size)
  clear hri hLp4 hbw4 hg4
  obtain ⟨w5, hw5⟩ : ∃ W, (((w4.alloc (.cells #[.int .i64 1] 3)).alloc (.cells #[.int .i64 3] 3)).alloc (.cells #[.slice (some ⟨w4.heap.size, 0, none⟩) 1 1, .slice (some ⟨w4.heap.size + 1, 0, none⟩) 1 1] 27)) = W := ⟨_, rfl⟩
  have hb5 : Below w4.heap.size w4 w5 := by rw [← hw5]; exact (((Below.refl _ _).alloc (Nat.le_refl _) _).alloc (by simp) _).alloc (by simp; omega) _
  have hs5 : w5.heap.size = w4.heap.size + 3 := by rw [← hw5]; simp
  have c0 : w5.cell? ⟨w4.heap.size, 0, none⟩ = some (.int .i64 1) := by
    rw [← hw5, World.cell?_alloc_old _ _ _ (by simp; omega), World.cell?_alloc_old _ _ _ (by simp), World.cell?_alloc_at _ _ _ _ rfl]; rfl
  have c1 : w5.cell? ⟨w4.heap.size + 1, 0, none⟩ = some (.int .i64 3) := by
    rw [← hw5, World.cell?_alloc_old _ _ _ (by simp), World.cell?_alloc_at _ _ _ _ (by simp)]; rfl
  have r0 : w5.cell? ⟨w4.heap.size + 2, 0, none⟩ = some (.slice (some ⟨w4.heap.size, 0, none⟩) 1 1) := by
    rw [← hw5, World.cell?_alloc_at _ _ _ _ (by simp)]; rfl
  have r1 : w5.cell? ⟨w4.heap.size + 2, 1, none⟩ = some (.slice (some ⟨w4.heap.size + 1, 0, none⟩) 1 1) := by
    rw [← hw5, World.cell?_alloc_at _ _ _ _ (by simp)]; rfl
  have hLl : Lsts w5.heap.size w5 (.slice (some ⟨w4.heap.size + 2, 0, none⟩) 2 2) [[1], [3]] := by
    refine .inr ⟨w4.heap.size + 2, 0, 2, rfl, by omega, Nat.le_refl _, fun j x hx => ?_⟩
    match j, hx with
    | 0, hx =>
      simp at hx; subst hx
      refine ⟨_, r0, .inr ⟨w4.heap.size, 0, 1, rfl, by omega, Nat.le_refl _, fun i y hy => ?_⟩⟩
      match i, hy with
      | 0, hy => simp at hy; subst hy; exact c0
    | 1, hx =>
      simp at hx; subst hx
      refine ⟨_, r1, .inr ⟨w4.heap.size + 1, 0, 1, rfl, by omega, Nat.le_refl _, fun i y hy => ?_⟩⟩
      match i, hy with
      | 0, hy => simp at hy; subst hy; exact c1
  have hrl := refLists_any [[1], [3]] [[1], [3]] (by decide) (by decide) _ _ _ (hLp5.go hb5) hLl
  have hbw6 := hbw5.trans (hb5.mono hbw5.size)
  clear c0 c1 r0 r1 hLl hLp5 hb5 hbw5
  simp only [decide_true]
  go_wp2_with fail
  refine hrl.mono ?_
  rintro e w6 ⟨rfl, hg6⟩
  have hbw7 := hbw6.trans (hg6.below.mono hbw6.size)
  clear hrl hbw6 hg6
  simp only [decide_true]
  go_wp2
  go_ret
  exact ⟨rfl, hbw7⟩
end Go.Proofs.Ytdgecflljgnobaa
