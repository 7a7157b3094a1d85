/-
  What Greedy and the reference's Greedy refuse.
-/
import Derived.Test.YteekhofollaooaaXCRefGr
namespace Go.Proofs.Yteekhofollaooaa
open Go Go.Proofs Go.RowKit

set_option maxRecDepth 100000 in
set_option maxHeartbeats 2000000 in
theorem greedy_bad1 (n : Int) (l : List Ed) (P : List Int) (hk : rightK n l ≠ 0) (sv ov : Value) (w : World) (hl : Edges w.heap.size w sv l) (ho : Ints w.heap.size w ov P) :
    Calls Try.prog 10 #[.agg #[.int .i64 n, sv], ov] w fun e w' => e = .returned (.tuple #[.slice none 0 0, .int .i64 1]) ∧ Below w.heap.size w w' := by
  obtain ⟨p, c, rfl⟩ := hl.len
  obtain ⟨q, d, rfl⟩ := ho.len
  have hbA : Below w.heap.size w (w.alloc (.cells #[.int .i64 n, .slice p l.length c] 24)) := (Below.refl _ _).alloc (Nat.le_refl _) _
  have hX : Blk 24 (w.alloc (.cells #[.int .i64 n, .slice p l.length c] 24)) w.heap.size [.int .i64 n, .slice p l.length c] := heap_alloc_new w _
  have q0 := hX.cell (j := 0) rfl
  have q1 := hX.cell (j := 1) rfl
  have hrc := right_any n l (.slice p l.length c) _ (hl.go hbA)
  have HBA : Hid (Below w.heap.size w (w.alloc (.cells #[.int .i64 n, .slice p l.length c] 24))) := hbA
  have hk' : (rightK n l != 0) = true := by simpa using hk
  clear hl ho hX hbA hk
  generalize rightK n l = kk at *
  go_enter Try.func10, Try.ntmps10
  go_wp2_with fail
  generalize w.alloc (.cells #[.int .i64 n, .slice p l.length c] 24) = w1 at *
  refine hrc.mono ?_
  clear hrc
  rintro e w2 ⟨rfl, hg2⟩
  have HB2 : Hid (Below w.heap.size w w2) := HBA.out.trans (hg2.below.mono HBA.out.size)
  clear q0 q1 HBA hg2
  go_wp2
  refine bodyPost_ret (results_tmp2 rfl _ _ _) rfl ?_
  exact ⟨rfl, HB2.out⟩

set_option maxRecDepth 100000 in
set_option maxHeartbeats 2000000 in
theorem refGreedy_bad1 (n : Int) (l : List Ed) (P : List Int) (hk : rightK n l ≠ 0) (sv ov : Value) (w : World) (hl : Edges w.heap.size w sv l) (ho : Ints w.heap.size w ov P) :
    Calls Try.prog 11 #[.agg #[.int .i64 n, sv], ov] w fun e w' => e = .returned (.tuple #[.slice none 0 0, .int .i64 1]) ∧ Below w.heap.size w w' := by
  obtain ⟨p, c, rfl⟩ := hl.len
  obtain ⟨q, d, rfl⟩ := ho.len
  have hbA : Below w.heap.size w (w.alloc (.cells #[.int .i64 n, .slice p l.length c] 24)) := (Below.refl _ _).alloc (Nat.le_refl _) _
  have hX : Blk 24 (w.alloc (.cells #[.int .i64 n, .slice p l.length c] 24)) w.heap.size [.int .i64 n, .slice p l.length c] := heap_alloc_new w _
  have q0 := hX.cell (j := 0) rfl
  have q1 := hX.cell (j := 1) rfl
  have hrc := refRight_any n l (.slice p l.length c) _ (hl.go hbA)
  have HBA : Hid (Below w.heap.size w (w.alloc (.cells #[.int .i64 n, .slice p l.length c] 24))) := hbA
  have hk' : (rightK n l != 0) = true := by simpa using hk
  clear hl ho hX hbA hk
  generalize rightK n l = kk at *
  go_enter Try.func11, Try.ntmps11
  go_wp2_with fail
  generalize w.alloc (.cells #[.int .i64 n, .slice p l.length c] 24) = w1 at *
  refine hrc.mono ?_
  clear hrc
  rintro e w2 ⟨rfl, hg2⟩
  have HB2 : Hid (Below w.heap.size w w2) := HBA.out.trans (hg2.below.mono HBA.out.size)
  clear q0 q1 HBA hg2
  go_wp2
  refine bodyPost_ret (results_tmp2 rfl _ _ _) rfl ?_
  exact ⟨rfl, HB2.out⟩

set_option maxRecDepth 100000 in
set_option maxHeartbeats 2000000 in
theorem greedy_bad2 (N : Nat) (l : List Ed) (hR : RightG (N : Int) l) (P : List Int) (hk : ordB P (N : Int) = false) (sv ov : Value) (w : World) (hl : Edges w.heap.size w sv l) (ho : Ints w.heap.size w ov P) :
    Calls Try.prog 10 #[.agg #[.int .i64 (N : Int), sv], ov] w fun e w' => e = .returned (.tuple #[.slice none 0 0, .int .i64 1]) ∧ Below w.heap.size w w' := by
  obtain ⟨p, c, rfl⟩ := hl.len
  obtain ⟨q, d, rfl⟩ := ho.len
  have hn1 := hR.n1
  have hbA : Below w.heap.size w (w.alloc (.cells #[.int .i64 (N : Int), .slice p l.length c] 24)) := (Below.refl _ _).alloc (Nat.le_refl _) _
  have hX : Blk 24 (w.alloc (.cells #[.int .i64 (N : Int), .slice p l.length c] 24)) w.heap.size [.int .i64 (N : Int), .slice p l.length c] := heap_alloc_new w _
  have q0 := hX.cell (j := 0) rfl
  have q1 := hX.cell (j := 1) rfl
  have hrc := right_any (N : Int) l (.slice p l.length c) _ (hl.go hbA)
  rw [right_iff.2 hR] at hrc
  have HO : Hid (Ints w.heap.size w (.slice q P.length d) P) := ho
  have HX : Hid (Blk 24 (w.alloc (.cells #[.int .i64 (N : Int), .slice p l.length c] 24)) w.heap.size [.int .i64 (N : Int), .slice p l.length c]) := hX
  have HBA : Hid (Below w.heap.size w (w.alloc (.cells #[.int .i64 (N : Int), .slice p l.length c] 24))) := hbA
  clear hl ho hX hbA hR
  go_enter Try.func10, Try.ntmps10
  go_wp2_with fail
  generalize w.alloc (.cells #[.int .i64 (N : Int), .slice p l.length c] 24) = w1 at *
  refine hrc.mono ?_
  clear hrc
  rintro e w2 ⟨rfl, hg2⟩
  have HB2 : Hid (Below w.heap.size w w2) := HBA.out.trans (hg2.below.mono HBA.out.size)
  have HX2 : Hid (Blk 24 w2 w.heap.size [.int .i64 (N : Int), .slice p l.length c]) := HX.out.go hg2.below
  clear q0 q1 HBA HX hg2
  have q0 := HX2.out.cell (j := 0) rfl
  have hio := isOrderC_any P N (by omega) (.slice q P.length d) w2 (HO.out.go HB2.out)
  rw [hk] at hio
  go_wp2_with fail
  refine hio.mono ?_
  clear hio
  rintro e w3 ⟨rfl, hb3⟩
  have HB3 : Hid (Below w.heap.size w w3) := HB2.out.trans (hb3.mono HB2.out.size)
  clear hb3 q0
  go_wp2
  refine bodyPost_ret (results_tmp2 rfl _ _ _) rfl ?_
  exact ⟨rfl, HB3.out⟩

set_option maxRecDepth 100000 in
set_option maxHeartbeats 2000000 in
theorem refGreedy_bad2 (N : Nat) (l : List Ed) (hR : RightG (N : Int) l) (P : List Int) (hk : P.length ≠ N) (sv ov : Value) (w : World) (hl : Edges w.heap.size w sv l) (ho : Ints w.heap.size w ov P) :
    Calls Try.prog 11 #[.agg #[.int .i64 (N : Int), sv], ov] w fun e w' => e = .returned (.tuple #[.slice none 0 0, .int .i64 1]) ∧ Below w.heap.size w w' := by
  obtain ⟨p, c, rfl⟩ := hl.len
  obtain ⟨q, d, rfl⟩ := ho.len
  have hn1 := hR.n1
  have hbA : Below w.heap.size w (w.alloc (.cells #[.int .i64 (N : Int), .slice p l.length c] 24)) := (Below.refl _ _).alloc (Nat.le_refl _) _
  have hX : Blk 24 (w.alloc (.cells #[.int .i64 (N : Int), .slice p l.length c] 24)) w.heap.size [.int .i64 (N : Int), .slice p l.length c] := heap_alloc_new w _
  have q0 := hX.cell (j := 0) rfl
  have q1 := hX.cell (j := 1) rfl
  have hrc := refRight_any (N : Int) l (.slice p l.length c) _ (hl.go hbA)
  rw [right_iff.2 hR] at hrc
  have HO : Hid (Ints w.heap.size w (.slice q P.length d) P) := ho
  have HX : Hid (Blk 24 (w.alloc (.cells #[.int .i64 (N : Int), .slice p l.length c] 24)) w.heap.size [.int .i64 (N : Int), .slice p l.length c]) := hX
  have HBA : Hid (Below w.heap.size w (w.alloc (.cells #[.int .i64 (N : Int), .slice p l.length c] 24))) := hbA
  clear hl ho hX hbA hR
  go_enter Try.func11, Try.ntmps11
  go_wp2_with fail
  generalize w.alloc (.cells #[.int .i64 (N : Int), .slice p l.length c] 24) = w1 at *
  refine hrc.mono ?_
  clear hrc
  rintro e w2 ⟨rfl, hg2⟩
  have HB2 : Hid (Below w.heap.size w w2) := HBA.out.trans (hg2.below.mono HBA.out.size)
  have HX2 : Hid (Blk 24 w2 w.heap.size [.int .i64 (N : Int), .slice p l.length c]) := HX.out.go hg2.below
  clear q0 q1 HBA HX hg2
  have q0 := HX2.out.cell (j := 0) rfl
  have hk' : ((P.length : Int) != (N : Int)) = true := by simp; omega
  have HB3 : Hid (Below w.heap.size w w2) := HB2.out
  clear hk
  go_wp2
  refine bodyPost_ret (results_tmp2 rfl _ _ _) rfl ?_
  exact ⟨rfl, HB3.out⟩
end Go.Proofs.Yteekhofollaooaa
