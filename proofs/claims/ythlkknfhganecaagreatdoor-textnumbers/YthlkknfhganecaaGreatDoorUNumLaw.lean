/-
  The walk of filigreelaw05.TextNumbers.
-/
import Derived.Test.YthlkknfhganecaaGreatDoorURefNum
import Derived.Test.YthlkknfhganecaaGreatDoorUAlive
namespace Go.Proofs.YthlkknfhganecaaGreatDoor
open Go Go.Proofs Go.RowKit

set_option maxRecDepth 100000 in
set_option maxHeartbeats 2000000 in
theorem textNumbers_walk (s : ByteArray) (hs : s.size ≤ 140737488355328) (w : World) (hE : Env w) :
    Calls Tryz.prog 3 #[.string s] w fun r w' => r = .returned (.bool true) ∧ Below w.heap.size w w' := by
  have hn := number_any s (by omega) w hE
  have hr := fun W => refNumber_any s hs W
  have hv : numV s = refV s := by unfold numV refV; rw [numO_ref]
  have hk : numK s = refK s := by unfold numK refK; rw [numO_ref]
  rw [hv, hk] at hn
  clear hv hk
  generalize refV s = v at hn hr
  generalize refK s = k at hn hr
  have e1 : (v == v) = true := by simp
  have e2 : (k == k) = true := by simp
  go_enter Tryz.func3, Tryz.ntmps3
  go_wp2_with fail
  refine hn.mono ?_
  rintro e w2 ⟨rfl, hb2⟩
  clear hn
  go_wp2_with fail
  refine (hr _).mono ?_
  rintro e w3 ⟨rfl, rfl⟩
  clear hr
  go_wp2_with fail
  refine (alive_any _ (hE.go hb2)).mono ?_
  rintro e w4 ⟨rfl, hb4⟩
  go_wp2
  go_ret
  exact ⟨rfl, hb2.trans (hb4.mono hb2.size)⟩

end Go.Proofs.YthlkknfhganecaaGreatDoor
