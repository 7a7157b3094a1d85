/-
  faces.Dual where the system is not in the plane.
-/
import Derived.Test.YtonfhkdciaiilaaXFcDual
namespace Go.Proofs.Ytonfhkdciaiilaa
open Go Go.Proofs Go.RowKit

set_option maxRecDepth 100000 in
set_option maxHeartbeats 2000000 in
theorem dual_no (n : Int) (k : Int) (hk : k ≠ 0) (sv rv : Value) (w : World)
    (hP : ∀ W, Below w.heap.size w W → Calls Try.prog 24 #[.agg #[.int .i64 n, sv], rv] W fun e w' => e = .returned (.tuple #[.slice none 0 0, .int .i64 k]) ∧ Below W.heap.size W w') :
    Calls Try.prog 11 #[.agg #[.int .i64 n, sv], rv] w fun e w' => e = .returned (.tuple #[.agg #[.int .i64 0, .slice none 0 0], .int .i64 k]) ∧ Below w.heap.size w w' := by
  have hbA : Below w.heap.size w (w.alloc (.cells #[.int .i64 n, sv] 24)) := (Below.refl _ _).alloc (Nat.le_refl _) _
  have hX : Blk 24 (w.alloc (.cells #[.int .i64 n, sv] 24)) w.heap.size [.int .i64 n, sv] := heap_alloc_new w _
  have hs1 : (w.alloc (.cells #[.int .i64 n, sv] 24)).heap.size = w.heap.size + 1 := by simp
  generalize hw1 : w.alloc (.cells #[.int .i64 n, sv] 24) = w1 at *
  have hbB : Below w1.heap.size w1 (w1.alloc (.cells #[.int .i64 0, .slice none 0 0] 24)) := (Below.refl _ _).alloc (Nat.le_refl _) _
  have hY : Blk 24 (w1.alloc (.cells #[.int .i64 0, .slice none 0 0] 24)) w1.heap.size [.int .i64 0, .slice none 0 0] := heap_alloc_new w1 _
  have hX1 := hX.go hbB
  rw [hs1] at hY
  have q0 := hX1.cell (j := 0) rfl
  have q1 := hX1.cell (j := 1) rfl
  have hbw2 : Below w.heap.size w (w1.alloc (.cells #[.int .i64 0, .slice none 0 0] 24)) := hbA.trans (hbB.mono hbA.size)
  have hip := hP _ hbw2
  have HY : Hid (Blk 24 (w1.alloc (.cells #[.int .i64 0, .slice none 0 0] 24)) (w.heap.size + 1) [.int .i64 0, .slice none 0 0]) := hY
  have HB2 : Hid (Below w.heap.size w (w1.alloc (.cells #[.int .i64 0, .slice none 0 0] 24))) := hbw2
  clear hP hX hX1 hY hbA hbB hbw2
  go_enter Try.func11, Try.ntmps11
  go_wp2_with fail
  generalize w1.alloc (.cells #[.int .i64 0, .slice none 0 0] 24) = w2 at *
  refine hip.mono ?_
  clear hip
  rintro e w3 ⟨rfl, hb3⟩
  have hY3 := HY.out.go hb3
  have hB3 : Below w.heap.size w w3 := HB2.out.trans (hb3.mono HB2.out.size)
  have y0 := hY3.cell (j := 0) rfl
  have y1 := hY3.cell (j := 1) rfl
  have f0 := hY3.frozen 0
  have f1 := hY3.frozen 1
  have hY7 := (hY3.set 0 (.int .i64 0)).set 1 (.slice none 0 0)
  have z0 := hY7.cell (j := 0) rfl
  have z1 := hY7.cell (j := 1) rfl
  have HBF : Hid (Below w.heap.size w ((w3.setCell ⟨w.heap.size + 1, 0, none⟩ (.int .i64 0)).setCell ⟨w.heap.size + 1, 1, none⟩ (.slice none 0 0))) := (hB3.setCell (p := ⟨w.heap.size + 1, 0, none⟩) (by simp) _).setCell (p := ⟨w.heap.size + 1, 1, none⟩) (by simp) _
  clear hY3 hY7 hb3 hB3 HY HB2 q0 q1
  go_wp2
  refine bodyPost_ret (ret_graph2 rfl rfl z0 z1) rfl ?_
  exact ⟨rfl, HBF.out⟩
end Go.Proofs.Ytonfhkdciaiilaa
