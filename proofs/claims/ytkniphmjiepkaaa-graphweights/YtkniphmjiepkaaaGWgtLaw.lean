/-
  The walk of filigreelaw04.GraphWeights.
-/
import Derived.Test.YtkniphmjiepkaaaGWgt
import Derived.Test.YtkniphmjiepkaaaGAlive
namespace Go.Proofs.Ytkniphmjiepkaaa
open Go Go.Proofs Go.RowKit

set_option maxRecDepth 100000 in
set_option maxHeartbeats 2000000 in
theorem weights_walk (n : Int) (l : List Ed) (a : List Int) (sv sa : Value) (w : World) (hl : Edges w.heap.size w sv l) (hA : Ints w.heap.size w sa a) :
    Calls Try.prog 7 #[.agg #[.int .i64 n, sv], sa] w fun r w' => r = .returned (.bool true) ∧ Below w.heap.size w w' := by
  have hg1 : Grew w (w.alloc (.cells #[.int .i64 n, sv] 24)) := (Grew.refl w).alloc _
  have hl1 := hl.go hg1.below
  have hA1 := hA.go hg1.below
  obtain ⟨p, c, rfl⟩ := hl.len
  obtain ⟨pa, ca, rfl⟩ := hA.len
  have hlt := light_any n l 60 (by omega) (by omega) _ _ hl1
  cases hli : lightB n l 60 with
  | false =>
    rw [hli] at hlt
    go_enter Try.func7, Try.ntmps7
    go_wp2_with fail
    refine hlt.mono ?_
    rintro e w2 ⟨rfl, hg2⟩
    go_wp2_with fail
    refine (alive_any _).mono ?_
    rintro e w3 ⟨rfl, hb3⟩
    go_wp2
    go_ret
    exact ⟨rfl, (hg1.trans hg2).below.trans (hb3.mono (hg1.trans hg2).below.size)⟩
  | true =>
    rw [hli] at hlt
    obtain ⟨hn60, hl60⟩ := lightB_true hli
    by_cases hal : (500 : Int) < (a.length : Int)
    · go_enter Try.func7, Try.ntmps7
      go_wp2_with fail
      refine hlt.mono ?_
      rintro e w2 ⟨rfl, hg2⟩
      go_wp2_with fail
      refine (alive_any _).mono ?_
      rintro e w3 ⟨rfl, hb3⟩
      go_wp2
      go_ret
      exact ⟨rfl, (hg1.trans hg2).below.trans (hb3.mono (hg1.trans hg2).below.size)⟩
    · have ha : a.length ≤ 4194304 := by omega
      have hd : decide ((500 : Int) < (a.length : Int)) = false := by simpa using hal
      go_enter Try.func7, Try.ntmps7
      go_wp2_with fail
      refine hlt.mono ?_
      rintro e w2 ⟨rfl, hg2⟩
      have hl2 := hl1.go hg2.below
      have hA2 := hA1.go hg2.below
      have q0 := (box2 _ hg2).1
      have q1 := (box2 _ hg2).2
      have hbw2 := (hg1.trans hg2).below
      have hbx := box2_lt hg2
      clear hlt hl1 hA1 hli
      go_wp2_with fail
      refine (weight_any n l a ha _ _ _ hl2 hA2).mono ?_
      rintro e w3 ⟨rfl, hb3⟩
      have hl3 := hl2.go hb3
      have hA3 := hA2.go hb3
      replace q0 := cell_keep hb3 q0
      replace q1 := cell_keep hb3 q1
      have hbw3 := below_keep hb3 hbw2 (Nat.le_refl _)
      have hrr := refRight_any n l _ _ hl3
      clear hl2 hA2 hb3 hg2
      by_cases hr : rightK n l = 0
      · have hR := right_iff.1 hr
        have e1 : wgtV n l a = wV l a := if_pos hr
        have e2 : wgtK n l a = wK l a := if_pos hr
        rw [e1, e2]
        rw [hr] at hrr
        clear e1 e2 hr
        go_wp2_with fail
        refine hrr.mono ?_
        rintro e w4 ⟨rfl, hg4⟩
        have hl4 := hl3.go hg4.below
        have hA4 := hA3.go hg4.below
        replace q0 := cell_keep hg4.below q0
        replace q1 := cell_keep hg4.below q1
        have hbw4 := below_keep hg4.below hbw3 (Nat.le_refl _)
        clear hl3 hA3 hrr
        go_wp2_with fail
        refine (refWeight_any n l hR a ha _ _ _ hl4 hA4).mono ?_
        rintro e w5 ⟨rfl, hg5⟩
        have hbw5 := below_keep hg5.below hbw4 (Nat.le_refl _)
        clear hl4 hA4 q0 q1
        generalize wV l a = x
        generalize wK l a = k
        go_wp2_with fail
        refine (alive_any _).mono ?_
        rintro e w6 ⟨rfl, hb6⟩
        go_wp2
        go_ret
        exact ⟨rfl, below_keep hb6 hbw5 (Nat.le_refl _)⟩
      · have e1 : wgtV n l a = 0 := if_neg hr
        have e2 : wgtK n l a = 1 := if_neg hr
        rw [e1, e2]
        generalize rightK n l = k at hrr hr
        have hk : (k == 0) = false := by simpa using hr
        clear e1 e2 hr
        go_wp2_with fail
        refine hrr.mono ?_
        rintro e w4 ⟨rfl, hg4⟩
        have hbw4 := below_keep hg4.below hbw3 (Nat.le_refl _)
        clear hl3 hA3 hrr q0 q1
        go_wp2_with fail
        refine (alive_any _).mono ?_
        rintro e w6 ⟨rfl, hb6⟩
        go_wp2
        go_ret
        exact ⟨rfl, below_keep hb6 hbw4 (Nat.le_refl _)⟩

end Go.Proofs.Ytkniphmjiepkaaa
