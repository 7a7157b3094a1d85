/-
  The walk of filigreelaw10.FacesEuler.
-/
import Derived.Test.YtonfhkdciaiilaaGreatXFcAlive
import Derived.Test.YtonfhkdciaiilaaGreatXREulerLaw
import Derived.Test.YtonfhkdciaiilaaGreatXRRefNear
import Derived.Test.YtonfhkdciaiilaaGreatQM
namespace Go.Proofs.YtonfhkdciaiilaaGreat
open Go Go.Proofs Go.RowKit

set_option maxRecDepth 100000 in
set_option maxHeartbeats 2000000 in
theorem refPlane_bad (n : Int) (l : List Ed) (r : List (List Int)) (hk : sysK n l r ≠ 0) (sv rv : Value) (w : World) (hl : Edges w.heap.size w sv l) (hr : Lsts w.heap.size w rv r) :
    Calls Tryz.prog 7 #[.agg #[.int .i64 n, sv], rv] w fun e w' => e = .returned (.int .i64 (sysK n l r)) ∧ Below w.heap.size w w' := by
  have hbA : Below w.heap.size w (w.alloc (.cells #[.int .i64 n, sv] 24)) := (Below.refl _ _).alloc (Nat.le_refl _) _
  have hX : Blk 24 (w.alloc (.cells #[.int .i64 n, sv] 24)) w.heap.size [.int .i64 n, sv] := heap_alloc_new w _
  have q0 := hX.cell (j := 0) rfl
  have q1 := hX.cell (j := 1) rfl
  have hrc := refSys_any n l r sv rv _ (hl.go hbA) (hr.go hbA)
  have HBA : Hid _ := hbA
  clear hX hl hr hbA
  generalize sysK n l r = k at *
  go_enter Tryz.func7, Tryz.ntmps7
  go_wp2_with fail
  generalize w.alloc (.cells #[.int .i64 n, sv] 24) = w1 at *
  refine hrc.mono ?_
  clear hrc
  rintro e w2 ⟨rfl, hb2⟩
  have HB2 : Hid (Below w.heap.size w w2) := HBA.out.trans (hb2.mono HBA.out.size)
  clear hb2 q0 q1
  go_wp2
  go_ret
  exact ⟨rfl, HB2.out⟩

/-- How many of the first v vertices have an edge. -/
def cntV (l : List Ed) (v : Nat) : Nat := (List.range v).countP fun (u : Nat) => !(nb l (u : Int)).isEmpty
theorem cntV_yes {l : List Ed} {v : Nat} (h : 0 < (nb l (v : Int)).length) : cntV l (v + 1) = cntV l v + 1 := by
  unfold cntV
  rw [List.range_succ, List.countP_append, List.countP_singleton, if_pos]
  rw [List.isEmpty_eq_false_iff.2 (List.length_pos_iff.1 h)]
  rfl
theorem cntV_no {l : List Ed} {v : Nat} (h : ¬ 0 < (nb l (v : Int)).length) : cntV l (v + 1) = cntV l v := by
  unfold cntV
  rw [List.range_succ, List.countP_append, List.countP_singleton, if_neg]
  · rfl
  · have : nb l (v : Int) = [] := List.eq_nil_of_length_eq_zero (by omega)
    rw [this]
    decide
theorem cntV_le (l : List Ed) (v : Nat) : cntV l v ≤ v := by
  have := List.countP_le_length (p := fun (u : Nat) => !(nb l (u : Int)).isEmpty) (l := List.range v)
  rw [List.length_range] at this
  exact this
theorem cntV_all (N : Nat) (l : List Ed) : cntV l N = N - isoN N l := by
  have := List.length_eq_countP_add_countP (fun (u : Nat) => (nb l (u : Int)).isEmpty) (l := List.range N)
  rw [List.length_range] at this
  have e : cntV l N = (List.range N).countP fun (a : Nat) => decide ¬ ((nb l (a : Int)).isEmpty = true) := List.countP_congr fun (u : Nat) _ => by simp
  unfold isoN
  omega
def cntC (C : List (List Int)) (k : Nat) : Nat := (C.take k).countP fun x => decide (1 < x.length)
theorem cntC_step {C : List (List Int)} {k : Nat} (h : k < C.length) : cntC C (k + 1) = cntC C k + if 1 < C[k].length then 1 else 0 := by
  unfold cntC
  rw [List.take_add_one, List.getElem?_eq_getElem h, List.countP_append]
  simp [List.countP_cons]
theorem cntC_le (C : List (List Int)) (k : Nat) : cntC C k ≤ C.length := by
  unfold cntC
  have h1 := List.countP_le_length (p := fun x : List Int => decide (1 < x.length)) (l := C.take k)
  rw [List.length_take] at h1
  omega

end Go.Proofs.YtonfhkdciaiilaaGreat
