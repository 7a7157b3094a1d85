/-
  The walk of filigreelaw05.TextPrints.
-/
import Derived.Deep.RegionWith
import Derived.Test.YthlkknfhganecaaGreatDoorUPrint
namespace Go.Proofs.YthlkknfhganecaaGreatDoor
open Go Go.Proofs Go.RowKit

set_option maxRecDepth 100000 in
set_option maxHeartbeats 4000000 in
theorem textPrints_walk (n : Int) (l : List Ed) (sv : Value) (w : World) (hE : Env w) (hl : Edges w.heap.size w sv l) :
    Calls Tryz.prog 5 #[.agg #[.int .i64 n, sv]] w fun r w' => r = .returned (.bool true) ∧ Below w.heap.size w w' := by
  have hmix := mixed
  obtain ⟨p, q, rfl⟩ := hl.len
  have hb1 : Below w.heap.size w (w.alloc (.cells #[.int .i64 n, .slice p l.length q] 30)) := (Below.refl _ _).alloc (Nat.le_refl _) _
  have hX1 : Blk 30 (w.alloc (.cells #[.int .i64 n, .slice p l.length q] 30)) w.heap.size [.int .i64 n, .slice p l.length q] := heap_alloc_new w _
  have q0 := hX1.cell (j := 0) rfl
  have q1 := hX1.cell (j := 1) rfl
  have hE1 := hE.go hb1
  have hl1 := hl.go hb1
  by_cases hlong : (500 : Int) < (l.length : Int)
  · have hd : decide ((500 : Int) < (l.length : Int)) = true := by simpa using hlong
    have hal := alive_any _ hE1
    go_enter Tryz.func5, Tryz.ntmps5
    go_wp2_with fail
    refine hal.mono ?_
    rintro e w2 ⟨rfl, hb2⟩
    go_wp2
    go_ret
    exact ⟨rfl, hb1.trans (hb2.mono hb1.size)⟩
  · have hd : decide ((500 : Int) < (l.length : Int)) = false := by simpa using hlong
    by_cases hR0 : rightK n l = 0
    · have hR := right_iff.1 hR0
      have hpr := print_good n l hR _ _ hE1 hl1
      go_enter Tryz.func5, Tryz.ntmps5
      go_wp2_with fail
      refine hpr.mono ?_
      clear hpr
      rintro e w2 ⟨bv, rfl, hB2, hb2⟩
      have hX2 := hX1.go hb2
      have r0 := hX2.cell (j := 0) rfl
      have r1 := hX2.cell (j := 1) rfl
      have hl2 := hl1.go hb2
      have hrr := refRight_any n l _ _ hl2
      rw [hR0] at hrr
      obtain ⟨pb, cb, rfl⟩ := hB2.len
      go_wp2_with fail
      refine hrr.mono ?_
      clear hrr
      rintro e w3 ⟨rfl, hg3⟩
      have hb3 := hg3.below
      have hX3 := hX2.go hb3
      have s0 := hX3.cell (j := 0) rfl
      have s1 := hX3.cell (j := 1) rfl
      have hl3 := hl2.go hb3
      have hB3 := hB2.go hb3
      have hw3 : Below w.heap.size w w3 := (hb1.trans (hb2.mono hb1.size)).trans (hb3.mono (Nat.le_trans hb1.size hb2.size))
      have hI := right64 hR
      have hn64 : In64 n := by have := hR.n0; have := hR.n1; unfold In64; omega
      have hxl : ((printL n l).map fun b => (b.toNat : Int)).length = (printL n l).length := List.length_map _
      rw [hxl] at hB3
      have hpP : ∀ W, Below w3.heap.size w3 W → Calls Tryz.prog 17 #[.agg #[.int .i64 n, .slice p l.length q]] W fun e w' => ∃ bv, e = .returned bv ∧ Bytes w'.heap.size w' bv ((printL n l).map fun b => (b.toNat : Int)) ∧ Below W.heap.size W w' := fun W h => by
        have := refPrint_any n hn64 l hR.m1 hI _ W (hl3.go h)
        rw [printB_list] at this
        exact this
      have hal : ∀ W, Below w3.heap.size w3 W → Calls Tryz.prog 10 #[] W fun e w' => e = .returned (.bool true) ∧ Below W.heap.size W w' := fun W h => alive_any W ((hE.go hw3).go h)
      have hcv : ∀ W, Below w3.heap.size w3 W → (convert 27 9 (.slice pb (printL n l).length cb)).run Tryz.prog W = .ok (.string (strOfNums ((printL n l).map fun b => (b.toNat : Int)))) W := fun W h => conv_any (hB3.below h)
      have hc3 := hcv w3 (Below.refl _ _)
      have hB33 : Below w3.heap.size w3 w3 := Below.refl _ _
      have hc3d := hcv w3.drew (below_drew1 (Below.refl _ _))
      generalize hX : strOfNums ((printL n l).map fun b => (b.toNat : Int)) = X at hcv hc3 hc3d
      have HX : Hid _ := hX
      clear hX
      go_wp2
      go_region_with (first | (go_at_call 17; refine (hpP _ (below_drew1 (Below.refl _ _))).mono ?_; rintro e wP ⟨bv, rfl, hBP, hbP⟩; have hbP3 := below_keep hbP (below_drew1 (Below.refl w3.heap.size w3)) (Nat.le_refl _); have hcP := conv_any hBP; rw [HX.out] at hcP; have hcQ := hcv wP hbP3) | (go_at_call 10; refine (hal _ hbP3).mono ?_; rintro e wA ⟨rfl, hbA⟩))
      all_goals (go_wp2; go_ret; exact ⟨rfl, (hw3.trans (hbP3.mono hw3.size)).trans (hbA.mono (Nat.le_trans hw3.size hbP3.size))⟩)
    · have hpr := print_bad n l hR0 _ _ hl1
      go_enter Tryz.func5, Tryz.ntmps5
      go_wp2_with fail
      refine hpr.mono ?_
      clear hpr
      rintro e w2 ⟨ev, rfl, ⟨_, b, rfl, hF2⟩, hb2⟩
      have hX2 := hX1.go hb2
      have r0 := hX2.cell (j := 0) rfl
      have r1 := hX2.cell (j := 1) rfl
      have hl2 := hl1.go hb2
      have hrr := refRight_any n l _ _ hl2
      have hk0 : (rightK n l == 0) = false := by simpa using hR0
      go_wp2_with fail
      refine hrr.mono ?_
      clear hrr
      rintro e w3 ⟨rfl, hg3⟩
      have hb3 := hg3.below
      have hF3 : FB w3 b graphB 0 (.iface 22 (.int .i64 (rightK n l))) := (hb3.block b hF2.lt).trans hF2
      have hw3 : Below w.heap.size w w3 := (hb1.trans (hb2.mono hb1.size)).trans (hb3.mono (Nat.le_trans hb1.size hb2.size))
      have hsy := says_some graphB 0 (rightK n l) hR0 b w3 (hE.go hw3) hF3
      go_wp2_with fail
      refine hsy.mono ?_
      clear hsy
      rintro e w4 ⟨rfl, hb4⟩
      have hw4 := hw3.trans (hb4.mono hw3.size)
      have hal := alive_any w4 (hE.go hw4)
      go_wp2_with fail
      refine hal.mono ?_
      rintro e w5 ⟨rfl, hb5⟩
      go_wp2
      go_ret
      exact ⟨rfl, hw4.trans (hb5.mono hw4.size)⟩
end Go.Proofs.YthlkknfhganecaaGreatDoor
