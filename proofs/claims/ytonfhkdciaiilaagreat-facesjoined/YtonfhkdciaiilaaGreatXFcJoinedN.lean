/-
  faces.Joined of what is not in the plane.
-/
import Derived.Test.YtonfhkdciaiilaaGreatXFcJoined
namespace Go.Proofs.YtonfhkdciaiilaaGreat
open Go Go.Proofs Go.RowKit

set_option maxRecDepth 100000 in
set_option maxHeartbeats 2000000 in
theorem joined_no (n : Int) (k : Int) (hk : k ≠ 0) (sv rv : Value) (w : World)
    (hP : ∀ W, Below w.heap.size w W → Calls Tryz.prog 13 #[.agg #[.int .i64 n, sv], rv] W fun e w' => e = .returned (.int .i64 k) ∧ Below W.heap.size W w') :
    Calls Tryz.prog 6 #[.agg #[.int .i64 n, sv], rv] w fun e w' => e = .returned (.tuple #[.agg #[.int .i64 0, .slice none 0 0], .slice none 0 0, .int .i64 k]) ∧ Below w.heap.size w w' := by
  have hbA : Below w.heap.size w (w.alloc (.cells #[.int .i64 n, sv] 24)) := (Below.refl _ _).alloc (Nat.le_refl _) _
  have hX : Blk 24 (w.alloc (.cells #[.int .i64 n, sv] 24)) w.heap.size [.int .i64 n, sv] := heap_alloc_new w _
  have hs1 : (w.alloc (.cells #[.int .i64 n, sv] 24)).heap.size = w.heap.size + 1 := by simp
  generalize hw1 : w.alloc (.cells #[.int .i64 n, sv] 24) = w1 at *
  have hbB : Below w1.heap.size w1 (w1.alloc (.cells #[.int .i64 0, .slice none 0 0] 24)) := (Below.refl _ _).alloc (Nat.le_refl _) _
  have hY : Blk 24 (w1.alloc (.cells #[.int .i64 0, .slice none 0 0] 24)) w1.heap.size [.int .i64 0, .slice none 0 0] := heap_alloc_new w1 _
  have hX1 := hX.go hbB
  rw [hs1] at hY
  have q0 := hX1.cell (j := 0) rfl
  have q1 := hX1.cell (j := 1) rfl
  have hbw2 : Below w.heap.size w (w1.alloc (.cells #[.int .i64 0, .slice none 0 0] 24)) := hbA.trans (hbB.mono hbA.size)
  have hpl := hP _ hbw2
  have HY : Hid (Blk 24 (w1.alloc (.cells #[.int .i64 0, .slice none 0 0] 24)) (w.heap.size + 1) [.int .i64 0, .slice none 0 0]) := hY
  have HB2 : Hid (Below w.heap.size w (w1.alloc (.cells #[.int .i64 0, .slice none 0 0] 24))) := hbw2
  have hk' : (k == 0) = false := by rw [beq_eq_false_iff_ne]; exact hk
  clear hX hX1 hY hbA hbB hbw2 hP hk
  go_enter Tryz.func6, Tryz.ntmps6
  go_wp2_with fail
  generalize w1.alloc (.cells #[.int .i64 0, .slice none 0 0] 24) = w2 at *
  refine hpl.mono ?_
  clear hpl
  rintro e w3 ⟨rfl, hb3⟩
  have hY3 := HY.out.go hb3
  have HB3 : Hid (Below w.heap.size w w3) := HB2.out.trans (hb3.mono HB2.out.size)
  have y0 := hY3.cell (j := 0) rfl
  have y1 := hY3.cell (j := 1) rfl
  have f0 := hY3.frozen 0
  have f1 := hY3.frozen 1
  have hYF := (hY3.set 0 (.int .i64 0)).set 1 (.slice none 0 0)
  have z0 := hYF.cell (j := 0) rfl
  have z1 := hYF.cell (j := 1) rfl
  clear q0 q1 HY HB2 hb3 hY3 hYF
  go_wp2
  refine bodyPost_ret (ret_joined rfl rfl z0 z1) rfl ?_
  exact ⟨rfl, (HB3.out.setCell (p := ⟨w.heap.size + 1, 0, none⟩) (by simp) _).setCell (p := ⟨w.heap.size + 1, 1, none⟩) (by simp) _⟩
end Go.Proofs.YtonfhkdciaiilaaGreat
