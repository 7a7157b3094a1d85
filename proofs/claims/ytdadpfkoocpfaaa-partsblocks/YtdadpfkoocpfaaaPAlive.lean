/-
  The chapter's example: alive.
-/
import Derived.Test.YtdadpfkoocpfaaaPParts
import Derived.Test.YtdadpfkoocpfaaaPLight
namespace Go.Proofs.Ytdadpfkoocpfaaa
open Go Go.Proofs Go.RowKit

theorem ex_right : RightG (5 : Int) exE := right_iff.1 (by decide)
theorem ex_comp : (gath (walkW 5 exE).root (walkW 5 exE).root.length).2.length = 1 := by rw [ex_root]; decide
theorem ex_blocks : (gath (walkW 5 exE).block (walkW 5 exE).block.length).2.length = 2 := by rw [ex_block]; decide
theorem ex_cuts : thoseL (cutB (linksL 5 exE) (walkW 5 exE).block) 5 = [2] := by rw [ex_block]; decide
theorem ex_bridges : thoseL (bridgeB (walkW 5 exE).block) 6 = [] := by rw [ex_block]; decide
theorem ex_labR : Labels (walkW 5 exE).root := by rw [ex_root]; unfold Labels; decide
theorem ex_labB : Labels (walkW 5 exE).block := by rw [ex_block]; unfold Labels; decide
theorem ex_lenR : (walkW 5 exE).root.length = 5 := by rw [ex_root]; rfl
theorem ex_lenB : (walkW 5 exE).block.length = 6 := by rw [ex_block]; rfl

set_option maxRecDepth 100000 in
set_option maxHeartbeats 4000000 in
theorem alive_any (w : World) : Calls Try.prog 9 #[] w fun e w' => e = .returned (.bool true) ∧ Below w.heap.size w w' := by
  have hB : Blk 43 (w.alloc (.cells #[.int .i64 0, .int .i64 1, .int .i64 0, .int .i64 0, .int .i64 2, .int .i64 0, .int .i64 1, .int .i64 2, .int .i64 0, .int .i64 2, .int .i64 3, .int .i64 0, .int .i64 2, .int .i64 4, .int .i64 0, .int .i64 3, .int .i64 4, .int .i64 0] 43)) w.heap.size (flat exE) := heap_alloc_new w _
  have hb0 : Below w.heap.size w (w.alloc (.cells #[.int .i64 0, .int .i64 1, .int .i64 0, .int .i64 0, .int .i64 2, .int .i64 0, .int .i64 1, .int .i64 2, .int .i64 0, .int .i64 2, .int .i64 3, .int .i64 0, .int .i64 2, .int .i64 4, .int .i64 0, .int .i64 3, .int .i64 4, .int .i64 0] 43)) := (Below.refl _ _).alloc (Nat.le_refl _) _
  go_enter Try.func9, Try.ntmps9
  go_wp2_with fail
  have hb1 : Below (w.alloc (.cells #[.int .i64 0, .int .i64 1, .int .i64 0, .int .i64 0, .int .i64 2, .int .i64 0, .int .i64 1, .int .i64 2, .int .i64 0, .int .i64 2, .int .i64 3, .int .i64 0, .int .i64 2, .int .i64 4, .int .i64 0, .int .i64 3, .int .i64 4, .int .i64 0] 43)).heap.size (w.alloc (.cells #[.int .i64 0, .int .i64 1, .int .i64 0, .int .i64 0, .int .i64 2, .int .i64 0, .int .i64 1, .int .i64 2, .int .i64 0, .int .i64 2, .int .i64 3, .int .i64 0, .int .i64 2, .int .i64 4, .int .i64 0, .int .i64 3, .int .i64 4, .int .i64 0] 43)) ((w.alloc (.cells #[.int .i64 0, .int .i64 1, .int .i64 0, .int .i64 0, .int .i64 2, .int .i64 0, .int .i64 1, .int .i64 2, .int .i64 0, .int .i64 2, .int .i64 3, .int .i64 0, .int .i64 2, .int .i64 4, .int .i64 0, .int .i64 3, .int .i64 4, .int .i64 0] 43)).alloc (.cells #[.int .i64 5, .slice (some ⟨w.heap.size, 0, none⟩) 6 6] 24)) := (Below.refl _ _).alloc (Nat.le_refl _) _
  have hE1 : Edges ((w.alloc (.cells #[.int .i64 0, .int .i64 1, .int .i64 0, .int .i64 0, .int .i64 2, .int .i64 0, .int .i64 1, .int .i64 2, .int .i64 0, .int .i64 2, .int .i64 3, .int .i64 0, .int .i64 2, .int .i64 4, .int .i64 0, .int .i64 3, .int .i64 4, .int .i64 0] 43)).alloc (.cells #[.int .i64 5, .slice (some ⟨w.heap.size, 0, none⟩) 6 6] 24)).heap.size ((w.alloc (.cells #[.int .i64 0, .int .i64 1, .int .i64 0, .int .i64 0, .int .i64 2, .int .i64 0, .int .i64 1, .int .i64 2, .int .i64 0, .int .i64 2, .int .i64 3, .int .i64 0, .int .i64 2, .int .i64 4, .int .i64 0, .int .i64 3, .int .i64 4, .int .i64 0] 43)).alloc (.cells #[.int .i64 5, .slice (some ⟨w.heap.size, 0, none⟩) 6 6] 24)) (.slice (some ⟨w.heap.size, 0, none⟩) 6 6) exE := hB.edges.go hb1
  have hbw1 : Below w.heap.size w ((w.alloc (.cells #[.int .i64 0, .int .i64 1, .int .i64 0, .int .i64 0, .int .i64 2, .int .i64 0, .int .i64 1, .int .i64 2, .int .i64 0, .int .i64 2, .int .i64 3, .int .i64 0, .int .i64 2, .int .i64 4, .int .i64 0, .int .i64 3, .int .i64 4, .int .i64 0] 43)).alloc (.cells #[.int .i64 5, .slice (some ⟨w.heap.size, 0, none⟩) 6 6] 24)) := hb0.trans (hb1.mono hb0.size)
  have hG1 : Blk 24 ((w.alloc (.cells #[.int .i64 0, .int .i64 1, .int .i64 0, .int .i64 0, .int .i64 2, .int .i64 0, .int .i64 1, .int .i64 2, .int .i64 0, .int .i64 2, .int .i64 3, .int .i64 0, .int .i64 2, .int .i64 4, .int .i64 0, .int .i64 3, .int .i64 4, .int .i64 0] 43)).alloc (.cells #[.int .i64 5, .slice (some ⟨w.heap.size, 0, none⟩) 6 6] 24)) (w.heap.size + 1) [.int .i64 5, .slice (some ⟨w.heap.size, 0, none⟩) 6 6] := by
    have := heap_alloc_new (w.alloc (.cells #[.int .i64 0, .int .i64 1, .int .i64 0, .int .i64 0, .int .i64 2, .int .i64 0, .int .i64 1, .int .i64 2, .int .i64 0, .int .i64 2, .int .i64 3, .int .i64 0, .int .i64 2, .int .i64 4, .int .i64 0, .int .i64 3, .int .i64 4, .int .i64 0] 43)) (.cells #[.int .i64 5, .slice (some ⟨w.heap.size, 0, none⟩) 6 6] 24)
    rw [World.size_alloc] at this
    exact this
  generalize ((w.alloc (.cells #[.int .i64 0, .int .i64 1, .int .i64 0, .int .i64 0, .int .i64 2, .int .i64 0, .int .i64 1, .int .i64 2, .int .i64 0, .int .i64 2, .int .i64 3, .int .i64 0, .int .i64 2, .int .i64 4, .int .i64 0, .int .i64 3, .int .i64 4, .int .i64 0] 43)).alloc (.cells #[.int .i64 5, .slice (some ⟨w.heap.size, 0, none⟩) 6 6] 24)) = w1 at hE1 hbw1 hG1 ⊢
  clear hB hb0 hb1
  refine (components_any 5 exE ex_right ex_labR ex_lenR _ _ hE1).mono ?_
  rintro e w2 ⟨lv2, svs2, h2, rfl, hGr2, hb2⟩
  have hls := hGr2.lsts.len
  rw [ex_comp] at hls
  obtain ⟨p2, c2, rfl⟩ := hls
  have hE2 := hE1.go hb2
  have hG2 := hG1.go hb2
  have hbw2 := hbw1.trans (hb2.mono hbw1.size)
  clear hGr2 hE1 hG1 hbw1 hb2
  have g0 := hG2.cell (j := 0) rfl
  have g1 := hG2.cell (j := 1) rfl
  go_wp2_with fail
  refine (cuts_any 5 exE ex_right _ _ hE2).mono ?_
  rintro e w3 ⟨lv3, rfl, hI3, hb3⟩
  rw [ex_cuts] at hI3
  have hE3 := hE2.go hb3
  have hG3 := hG2.go hb3
  have hbw3 := hbw2.trans (hb3.mono hbw2.size)
  clear hE2 hG2 hbw2 hb3 g0 g1
  have hbA : Below w3.heap.size w3 (w3.alloc (.cells #[.int .i64 2] 3)) := (Below.refl _ _).alloc (Nat.le_refl _) _
  have hI2 : Ints (w3.alloc (.cells #[.int .i64 2] 3)).heap.size (w3.alloc (.cells #[.int .i64 2] 3)) (.slice (some ⟨w3.heap.size, 0, none⟩) 1 1) [2] := Blk.ints (l := [2]) (t := 3) (heap_alloc_new w3 _)
  have hri := refInts_any [2] [2] (by decide) _ _ _ (hI3.go hbA) hI2
  have hE4 := hE3.go hbA
  have hG4 := hG3.go hbA
  have hbw4 := hbw3.trans (hbA.mono hbw3.size)
  obtain ⟨p3, c3, rfl⟩ := hI3.len
  clear hI3 hI2 hE3 hG3 hbw3 hbA
  go_wp2_with fail
  refine hri.mono ?_
  rintro e w4 ⟨rfl, hg4⟩
  have hE5 := hE4.go hg4.below
  have hG5 := hG4.go hg4.below
  have hbw5 := hbw4.trans (hg4.below.mono hbw4.size)
  have g0 := hG5.cell (j := 0) rfl
  have g1 := hG5.cell (j := 1) rfl
  clear hri hE4 hG4 hbw4 hg4
  simp only [decide_true]
  go_wp2_with fail
  refine (bridges_any 5 exE ex_right ex_labB _ _ hE5).mono ?_
  rintro e w5 ⟨lv5, rfl, hI5, hb5⟩
  rw [show exE.length = 6 from rfl, ex_bridges] at hI5
  obtain ⟨p5, c5, rfl⟩ := hI5.len
  have hE6 := hE5.go hb5
  have hG6 := hG5.go hb5
  have hbw6 := hbw5.trans (hb5.mono hbw5.size)
  clear hE5 hG5 hbw5 hb5 g0 g1 hI5
  have g0 := hG6.cell (j := 0) rfl
  have g1 := hG6.cell (j := 1) rfl
  go_wp2_with fail
  refine (blocks_any 5 exE ex_right ex_labB ex_lenB _ _ hE6).mono ?_
  rintro e w6 ⟨lv6, svs6, h6, rfl, hGr6, hb6⟩
  have hls := hGr6.lsts.len
  rw [ex_blocks] at hls
  obtain ⟨p6, c6, rfl⟩ := hls
  have hbw7 := hbw6.trans (hb6.mono hbw6.size)
  clear hGr6 hE6 hG6 hbw6 hb6 g0 g1
  go_wp2
  go_ret
  exact ⟨rfl, hbw7⟩
end Go.Proofs.Ytdadpfkoocpfaaa
