/-
  Of two vertices with one edge: is an edge better than none?
-/
import Derived.Test.YthdhimcaojfcnaaGreatJG
namespace Go.Proofs.YthdhimcaojfcnaaGreat
open Go Go.Proofs Go.RowKit

theorem two_links {w W' : World} {a0 a1 b0 b1 : Value} {ta tb : TypeId} (h : Grew ((w.alloc (.cells #[a0, a1] ta)).alloc (.cells #[b0, b1] tb)) W') : W'.cell? ⟨w.heap.size, 0, none⟩ = some a0 ∧ W'.cell? ⟨w.heap.size, 1, none⟩ = some a1 ∧ W'.cell? ⟨w.heap.size + 1, 0, none⟩ = some b0 ∧ W'.cell? ⟨w.heap.size + 1, 1, none⟩ = some b1 := by
  have h1 : Blk ta (w.alloc (.cells #[a0, a1] ta)) w.heap.size [a0, a1] := heap_alloc_new w _
  have h2 : Blk tb ((w.alloc (.cells #[a0, a1] ta)).alloc (.cells #[b0, b1] tb)) (w.alloc (.cells #[a0, a1] ta)).heap.size [b0, b1] := heap_alloc_new _ _
  have h3 := (h1.go ((Below.refl _ _).alloc (Nat.le_refl _) _ : Below _ _ ((w.alloc (.cells #[a0, a1] ta)).alloc (.cells #[b0, b1] tb)))).go h.below
  have h4 := h2.go h.below
  have e : (w.alloc (.cells #[a0, a1] ta)).heap.size = w.heap.size + 1 := by simp
  rw [e] at h4
  exact ⟨h3.cell (j := 0) rfl, h3.cell (j := 1) rfl, h4.cell (j := 0) rfl, h4.cell (j := 1) rfl⟩
set_option maxRecDepth 100000 in
set_option maxHeartbeats 4000000 in
theorem isBetter_yes (f : Value) (a b : Int) (ha : (a != -1) = true) (w : World) : Calls Tryz.prog 116 #[f, .agg #[.int .i64 a, .int .i64 b], .agg #[.int .i64 (-1), .int .i64 (-1)]] w fun e w' => e = .returned (.bool true) ∧ Grew w w' := by
  have hmix := mixed
  have hg0 : Grew w ((w.alloc (.cells #[.int .i64 a, .int .i64 b] 102)).alloc (.cells #[.int .i64 (-1), .int .i64 (-1)] 102)) := ((Grew.refl w).alloc _).alloc _
  obtain ⟨x0, x1, y0, y1⟩ := two_links (w := w) (a0 := .int .i64 a) (a1 := .int .i64 b) (b0 := .int .i64 (-1)) (b1 := .int .i64 (-1)) (ta := 102) (tb := 102) (Grew.refl _)
  have hsz : ((w.alloc (.cells #[.int .i64 a, .int .i64 b] 102)).alloc (.cells #[.int .i64 (-1), .int .i64 (-1)] 102)).heap.size = w.heap.size + 1 + 1 := by simp
  go_enter Tryz.func116, Tryz.ntmps116
  go_wp2
  obtain ⟨W1, hW1⟩ : ∃ W, (w.alloc (.cells #[.int .i64 a, .int .i64 b] 102)).alloc (.cells #[.int .i64 (-1), .int .i64 (-1)] 102) = W := ⟨_, rfl⟩
  rw [hW1] at x0 x1 y0 y1 hsz hg0 ⊢
  clear hW1
  have g0 := cell_grown (a := ⟨w.heap.size, 0, none⟩) (by show w.heap.size < _; omega) x0
  have g1 := cell_grown (a := ⟨w.heap.size, 1, none⟩) (by show w.heap.size < _; omega) x1
  have g2 := cell_grown (a := ⟨w.heap.size + 1, 0, none⟩) (by show w.heap.size + 1 < _; omega) y0
  have g3 := cell_grown (a := ⟨w.heap.size + 1, 1, none⟩) (by show w.heap.size + 1 < _; omega) y1
  clear x0 x1 y0 y1 hsz
  go_quiet_grown (first | (go_at_call 97; refine Calls.grown_of (isThere_any _ _ _)))
  go_wp2
  go_ret
  exact ⟨rfl, hg0.trans ⟨nq, osq, rfl⟩⟩
end Go.Proofs.YthdhimcaojfcnaaGreat
