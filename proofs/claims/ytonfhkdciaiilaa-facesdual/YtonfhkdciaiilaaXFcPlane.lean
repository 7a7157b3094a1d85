/-
  The contract of faces.inPlane.
-/
import Derived.Test.YtonfhkdciaiilaaQL
import Derived.Test.YtonfhkdciaiilaaXRBad
namespace Go.Proofs.Ytonfhkdciaiilaa
open Go Go.Proofs Go.RowKit

set_option maxRecDepth 100000 in
set_option maxHeartbeats 2000000 in
theorem inPlane_any (N : Nat) (l : List Ed) (hR : RightG (N : Int) l) (r : List (List Int)) (hS : SysR N l r) (hP : planeK (numsL N l r) = 0) (sv rv : Value) (w : World) (hl : Edges w.heap.size w sv l) (hr : Lsts w.heap.size w rv r) :
    Calls Try.prog 24 #[.agg #[.int .i64 (N : Int), sv], rv] w fun e w' => ∃ lv svs, e = .returned (.tuple #[lv, .int .i64 0]) ∧ GrpD w.heap.size lv svs (facesL N l r) w' ∧ Below w.heap.size w w' := by
  have hbA : Below w.heap.size w (w.alloc (.cells #[.int .i64 (N : Int), sv] 24)) := (Below.refl _ _).alloc (Nat.le_refl _) _
  have hX : Blk 24 (w.alloc (.cells #[.int .i64 (N : Int), sv] 24)) w.heap.size [.int .i64 (N : Int), sv] := heap_alloc_new w _
  have q0 := hX.cell (j := 0) rfl
  have q1 := hX.cell (j := 1) rfl
  have hrc := plane_any N l hR r hS sv rv _ (hl.go hbA) (hr.go hbA)
  rw [hP] at hrc
  have HX : Hid (Blk 24 (w.alloc (.cells #[.int .i64 (N : Int), sv] 24)) w.heap.size [.int .i64 (N : Int), sv]) := hX
  have HN : Hid (∀ W, Below w.heap.size w W → Calls Try.prog 39 #[.agg #[.int .i64 (N : Int), sv], rv] W fun e w' => ∃ lv svs, e = .returned (.tuple #[lv, .int .i64 0]) ∧ GrpD W.heap.size lv svs (facesL N l r) w' ∧ Below W.heap.size W w') := fun W h => faces_any N l hR r hS sv rv W (hl.go h) (hr.go h)
  have HBA : Hid _ := hbA
  clear hX hl hr hbA hR hS
  go_enter Try.func24, Try.ntmps24
  go_wp2_with fail
  generalize w.alloc (.cells #[.int .i64 (N : Int), sv] 24) = w1 at *
  refine hrc.mono ?_
  clear hrc
  rintro e w2 ⟨rfl, hb2⟩
  have hX2 := HX.out.go hb2
  have hB2 : Below w.heap.size w w2 := HBA.out.trans (hb2.mono HBA.out.size)
  have y0 := hX2.cell (j := 0) rfl
  have y1 := hX2.cell (j := 1) rfl
  have hn := HN.out w2 hB2
  have HB2 : Hid (Below w.heap.size w w2) := hB2
  clear hX2 HX HN q0 q1 hb2 hB2
  go_wp2_with fail
  refine hn.mono ?_
  clear hn
  rintro e w3 ⟨lv, svs, rfl, hG, hb3⟩
  have HB3 : Hid (Below w.heap.size w w3) := HB2.out.trans (hb3.mono HB2.out.size)
  have HG : Hid (GrpD w.heap.size lv svs (facesL N l r) w3) := hG.base HB2.out.size
  clear hb3 y0 y1 hG
  go_wp2
  refine bodyPost_ret (results_tmp2 rfl _ _ _) rfl ?_
  exact ⟨lv, svs, rfl, HG.out, HB3.out⟩

set_option maxRecDepth 100000 in
set_option maxHeartbeats 2000000 in
theorem inPlane_no (n : Int) (k : Int) (hk : k ≠ 0) (sv rv : Value) (w : World)
    (hP : ∀ W, Below w.heap.size w W → Calls Try.prog 32 #[.agg #[.int .i64 n, sv], rv] W fun e w' => e = .returned (.int .i64 k) ∧ Below W.heap.size W w') :
    Calls Try.prog 24 #[.agg #[.int .i64 n, sv], rv] w fun e w' => e = .returned (.tuple #[.slice none 0 0, .int .i64 k]) ∧ Below w.heap.size w w' := by
  have hbA : Below w.heap.size w (w.alloc (.cells #[.int .i64 n, sv] 24)) := (Below.refl _ _).alloc (Nat.le_refl _) _
  have hX : Blk 24 (w.alloc (.cells #[.int .i64 n, sv] 24)) w.heap.size [.int .i64 n, sv] := heap_alloc_new w _
  have q0 := hX.cell (j := 0) rfl
  have q1 := hX.cell (j := 1) rfl
  have hrc := hP _ hbA
  have HBA : Hid _ := hbA
  clear hX hbA hP
  go_enter Try.func24, Try.ntmps24
  go_wp2_with fail
  generalize w.alloc (.cells #[.int .i64 n, sv] 24) = w1 at *
  refine hrc.mono ?_
  clear hrc
  rintro e w2 ⟨rfl, hb2⟩
  have HB2 : Hid (Below w.heap.size w w2) := HBA.out.trans (hb2.mono HBA.out.size)
  clear hb2 q0 q1
  go_wp2
  refine bodyPost_ret (results_tmp2 rfl _ _ _) rfl ?_
  exact ⟨rfl, HB2.out⟩
end Go.Proofs.Ytonfhkdciaiilaa
