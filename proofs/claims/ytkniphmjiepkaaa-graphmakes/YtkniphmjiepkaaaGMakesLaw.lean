/-
  The walk of filigreelaw04.GraphMakes.
-/
import Derived.Test.YtkniphmjiepkaaaGRefMake
import Derived.Test.YtkniphmjiepkaaaGSame
import Derived.Test.YtkniphmjiepkaaaGAlive
namespace Go.Proofs.Ytkniphmjiepkaaa
open Go Go.Proofs Go.RowKit

theorem makeL_len (n : Int) (l : List Ed) : (makeL n l).length ≤ l.length := by
  unfold makeL
  split
  · rw [srt_len, List.length_map]; exact Nat.le_refl _
  · simp

set_option maxRecDepth 100000 in
set_option maxHeartbeats 4000000 in
theorem makes_walk (n : Int) (l : List Ed) (sv : Value) (w : World) (hl : Edges w.heap.size w sv l) :
    Calls Try.prog 4 #[.int .i64 n, sv] w fun r w' => r = .returned (.bool true) ∧ Below w.heap.size w w' := by
  obtain ⟨p, c, rfl⟩ := hl.len
  by_cases hal : (500 : Int) < (l.length : Int)
  · go_enter Try.func4, Try.ntmps4
    go_wp2_with fail
    refine (alive_any _).mono ?_
    rintro e w3 ⟨rfl, hb3⟩
    go_wp2
    go_ret
    exact ⟨rfl, hb3⟩
  · have hl5 : l.length ≤ 500 := by omega
    have hd : decide ((500 : Int) < (l.length : Int)) = false := by simpa using hal
    have hml := makeL_len n l
    have hmk := make_any n l _ _ hl
    have hrk := fun W h => refMake_any n l hl5 (.slice p l.length c) W h
    generalize makeN n l = N at hmk hrk
    generalize makeK n l = k at hmk hrk
    generalize makeL n l = L at hmk hrk hml
    clear hal
    go_enter Try.func4, Try.ntmps4
    go_wp2_with fail
    refine hmk.mono ?_
    rintro e w1 ⟨gv, rfl, hg1, hb1⟩
    clear hmk
    obtain ⟨pg, cg, rfl⟩ := hg1.len
    have hb2 : Below w.heap.size w (w1.alloc (.cells #[.int .i64 N, .slice pg L.length cg] 24)) := hb1.alloc hb1.size _
    have hl2 := hl.go hb2
    have hga : Below w1.heap.size w1 (w1.alloc (.cells #[.int .i64 N, .slice pg L.length cg] 24)) := (Below.refl _ _).alloc (Nat.le_refl _) _
    have hg2 := hg1.go hga
    have x0 : (w1.alloc (.cells #[.int .i64 N, .slice pg L.length cg] 24)).cell? ⟨w1.heap.size, 0, none⟩ = some (.int .i64 N) := by simp
    have x1 : (w1.alloc (.cells #[.int .i64 N, .slice pg L.length cg] 24)).cell? ⟨w1.heap.size, 1, none⟩ = some (.slice pg L.length cg) := by simp
    go_wp2_with fail
    refine (hrk _ hl2).mono ?_
    rintro e w3 ⟨hv, rfl, hh3, hb3⟩
    clear hrk
    obtain ⟨ph, ch, rfl⟩ := hh3.len
    have hbw3 := below_keep hb3 hb2 (Nat.le_refl _)
    have hg3 := hg2.go hb3
    replace x0 := cell_keep hb3 x0
    replace x1 := cell_keep hb3 x1
    have hba : Below w3.heap.size w3 (w3.alloc (.cells #[.int .i64 N, .slice ph L.length ch] 24)) := (Below.refl _ _).alloc (Nat.le_refl _) _
    replace x0 := cell_keep hba x0
    replace x1 := cell_keep hba x1
    have hs := refSame_any N N L L (by omega) _ _ _ (hg3.go hba) (hh3.go hba)
    have ht : decide (N = N ∧ L = L) = true := by simp
    rw [ht] at hs
    have hbw4 := below_keep hba hbw3 (Nat.le_refl _)
    clear ht
    go_wp2_with fail
    refine hs.mono ?_
    rintro e w5 ⟨rfl, hg5⟩
    have hbw5 := below_keep hg5.below hbw4 (Nat.le_refl _)
    clear hs x0 x1
    go_wp2_with fail
    refine (alive_any _).mono ?_
    rintro e w6 ⟨rfl, hb6⟩
    go_wp2
    go_ret
    exact ⟨rfl, below_keep hb6 hbw5 (Nat.le_refl _)⟩

end Go.Proofs.Ytkniphmjiepkaaa
