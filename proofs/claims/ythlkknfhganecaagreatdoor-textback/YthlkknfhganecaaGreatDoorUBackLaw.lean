/-
  The walk of filigreelaw05.TextBack.
-/
import Derived.Deep.RegionWith
import Derived.Test.YthlkknfhganecaaGreatDoorUBackMath
import Derived.Test.YthlkknfhganecaaGreatDoorUSays
import Derived.Test.YthlkknfhganecaaGreatDoorGSame
namespace Go.Proofs.YthlkknfhganecaaGreatDoor
open Go Go.Proofs Go.RowKit

theorem print_short {n : Int} {l : List Ed} (h : RightG n l) (hl : l.length ≤ 20000) : (printL n l).length ≤ 1440100 := by
  have h1 := edges_len l (right64 h)
  have h2 := lineL_len graphB [n, (l.length : Int)] (by
    intro x hx
    simp at hx
    have := h.n0
    have := h.n1
    unfold In64
    omega)
  have e1 : graphB.size = 5 := rfl
  have e2 : [n, (l.length : Int)].length = 2 := rfl
  rw [printL, List.length_append, tellH]
  omega

set_option maxRecDepth 100000 in
set_option maxHeartbeats 8000000 in
theorem textBack_walk (n : Int) (l : List Ed) (sv : Value) (xs : List Int) (hxl : xs.length ≤ 140737488355328) (_ : ∀ x ∈ xs, 0 ≤ x ∧ x ≤ 255) (bv : Value) (w : World) (hE : Env w) (hl : Edges w.heap.size w sv l) (hB : Bytes w.heap.size w bv xs) :
    Calls Tryz.prog 6 #[.agg #[.int .i64 n, sv], bv] w fun r w' => r = .returned (.bool true) ∧ Below w.heap.size w w' := by
  have hmix := mixed
  obtain ⟨p, q, rfl⟩ := hl.len
  obtain ⟨pb, cb, rfl⟩ := hB.len
  have hb1 : Below w.heap.size w (w.alloc (.cells #[.int .i64 n, .slice p l.length q] 30)) := (Below.refl _ _).alloc (Nat.le_refl _) _
  have hX1 : Blk 30 (w.alloc (.cells #[.int .i64 n, .slice p l.length q] 30)) w.heap.size [.int .i64 n, .slice p l.length q] := heap_alloc_new w _
  have q0 := hX1.cell (j := 0) rfl
  have q1 := hX1.cell (j := 1) rfl
  have hE1 := hE.go hb1
  have hl1 := hl.go hb1
  have hB1 := hB.go hb1
  by_cases hlong : (500 : Int) < (l.length : Int) ∨ (20000 : Int) < (xs.length : Int)
  · have hal := alive_any _ hE1
    rcases (by omega : (500 : Int) < (l.length : Int) ∨ (l.length : Int) ≤ 500 ∧ (20000 : Int) < (xs.length : Int)) with hd | ⟨hd, hd2⟩
    · go_enter Tryz.func6, Tryz.ntmps6
      go_wp2_with fail
      refine hal.mono ?_
      rintro e w2 ⟨rfl, hb2⟩
      go_wp2
      go_ret
      exact ⟨rfl, hb1.trans (hb2.mono hb1.size)⟩
    · have hd1 : ¬ (500 : Int) < (l.length : Int) := by omega
      go_enter Tryz.func6, Tryz.ntmps6
      go_wp2_with fail
      refine hal.mono ?_
      rintro e w2 ⟨rfl, hb2⟩
      go_wp2
      go_ret
      exact ⟨rfl, hb1.trans (hb2.mono hb1.size)⟩
  · have hd1 : ¬ (500 : Int) < (l.length : Int) := by omega
    have hd2 : ¬ (20000 : Int) < (xs.length : Int) := by omega
    by_cases hR0 : rightK n l = 0
    · have hR := right_iff.1 hR0
      have hpr := print_good n l hR _ _ hE1 hl1
      go_enter Tryz.func6, Tryz.ntmps6
      go_wp2_with fail
      refine hpr.mono ?_
      clear hpr
      rintro e w2 ⟨tv, rfl, hT2, hb2⟩
      have hpm := parse_print hR (by omega)
      have hsm : ((printL n l).map fun b => (b.toNat : Int)).length ≤ 140737488355328 := by
        have := print_short hR (by omega : l.length ≤ 20000)
        rw [List.length_map]
        omega
      generalize ((printL n l).map fun b => (b.toNat : Int)) = X at hT2 hpm hsm
      obtain ⟨pt, ct, rfl⟩ := hT2.len
      have hw2 := hb1.trans (hb2.mono hb1.size)
      have hpt := parse_any X hsm _ _ (hE.go hw2) hT2
      rw [hpm] at hpt
      clear hpm
      go_wp2_with fail
      refine hpt.mono ?_
      clear hpt
      rintro e w3 ⟨gh, eh, rfl, hh3, rfl, hb3⟩
      obtain ⟨ph, ch, rfl⟩ := hh3.len
      have hb4 : Below w3.heap.size w3 (w3.alloc (.cells #[.int .i64 n, .slice ph l.length ch] 30)) := (Below.refl _ _).alloc (Nat.le_refl _) _
      have hH4 : Blk 30 (w3.alloc (.cells #[.int .i64 n, .slice ph l.length ch] 30)) w3.heap.size [.int .i64 n, .slice ph l.length ch] := heap_alloc_new w3 _
      have hX4 := ((hX1.go hb2).go hb3).go hb4
      have hw3 := hw2.trans (hb3.mono hw2.size)
      have hw4 := hw3.trans (hb4.mono hw3.size)
      have h0 := hH4.cell (j := 0) rfl
      have h1 := hH4.cell (j := 1) rfl
      have g0 := hX4.cell (j := 0) rfl
      have g1 := hX4.cell (j := 1) rfl
      have hss := refSame_any n n l l hR.m1 _ _ _ (((hl1.go hb2).go hb3).go hb4) (hh3.go hb4)
      rw [decide_eq_true (⟨rfl, rfl⟩ : n = n ∧ l = l)] at hss
      have hlt : w.heap.size < w3.heap.size := by have := hb2.size; have := hb3.size; simp only [World.size_alloc] at *; omega
      go_wp2_with fail
      refine hss.mono ?_
      clear hss
      rintro e wc ⟨rfl, hgc⟩
      have hwc := hw4.trans (hgc.below.mono hw4.size)
      have hEc := hE.go hwc
      have hBc := hB.go hwc
      clear g0 g1 h0 h1 q0 q1
      have hpx := parse_any xs hxl _ _ hEc hBc
      rcases parse_told xs with ⟨nx, lx, hpm, hRx, hlx⟩ | ⟨px, hpm⟩
      · rw [hpm] at hpx
        clear hpm
        go_wp2_with fail
        refine hpx.mono ?_
        clear hpx
        rintro e w5 ⟨gx, ex, rfl, hx5, rfl, hb5⟩
        obtain ⟨px5, cx5, rfl⟩ := hx5.len
        have hb6 : Below w5.heap.size w5 (w5.alloc (.cells #[.int .i64 nx, .slice px5 lx.length cx5] 30)) := (Below.refl _ _).alloc (Nat.le_refl _) _
        have hX6 : Blk 30 (w5.alloc (.cells #[.int .i64 nx, .slice px5 lx.length cx5] 30)) w5.heap.size [.int .i64 nx, .slice px5 lx.length cx5] := heap_alloc_new w5 _
        have hx6 := hx5.go hb6
        have hw5 := hwc.trans (hb5.mono hwc.size)
        have hw6 := hw5.trans (hb6.mono hw5.size)
        have hE6 := hE.go hw6
        have x0 := hX6.cell (j := 0) rfl
        have x1 := hX6.cell (j := 1) rfl
        have hpr := print_good nx lx hRx _ _ hE6 hx6
        go_wp2_with fail
        refine hpr.mono ?_
        clear hpr
        rintro e w7 ⟨bu, rfl, hU7, hb7⟩
        have hpy := parse_print hRx (by omega)
        have hsy : ((printL nx lx).map fun b => (b.toNat : Int)).length ≤ 140737488355328 := by
          have := print_short hRx (by omega : lx.length ≤ 20000)
          rw [List.length_map]
          omega
        generalize ((printL nx lx).map fun b => (b.toNat : Int)) = Y at hU7 hpy hsy
        obtain ⟨pu, cu, rfl⟩ := hU7.len
        have hw7 := hw6.trans (hb7.mono hw6.size)
        have hpp := parse_any Y hsy _ _ (hE.go hw7) hU7
        rw [hpy] at hpp
        go_wp2_with fail
        refine hpp.mono ?_
        clear hpp
        rintro e w8 ⟨gy, ey, rfl, hy8, rfl, hb8⟩
        obtain ⟨py, cy, rfl⟩ := hy8.len
        have hw8 := hw7.trans (hb8.mono hw7.size)
        have hb9 : Below w8.heap.size w8 (w8.alloc (.cells #[.int .i64 nx, .slice py lx.length cy] 30)) := (Below.refl _ _).alloc (Nat.le_refl _) _
        have hY9 : Blk 30 (w8.alloc (.cells #[.int .i64 nx, .slice py lx.length cy] 30)) w8.heap.size [.int .i64 nx, .slice py lx.length cy] := heap_alloc_new w8 _
        have hw9 := hw8.trans (hb9.mono hw8.size)
        have hX9 := ((hX6.go hb7).go hb8).go hb9
        have hx9 := ((hx6.go hb7).go hb8).go hb9
        have hy9 := hy8.go hb9
        have hE9 := hE.go hw9
        have y0 := hY9.cell (j := 0) rfl
        have y1 := hY9.cell (j := 1) rfl
        have z0 := hX9.cell (j := 0) rfl
        have z1 := hX9.cell (j := 1) rfl
        have hlt9 : w5.heap.size < w8.heap.size := by have := hb7.size; have := hb8.size; simp only [World.size_alloc] at *; omega
        generalize hw9e : w8.alloc (.cells #[.int .i64 nx, .slice py lx.length cy] 30) = w9 at *
        have hrr : ∀ W, Below w9.heap.size w9 W → Calls Tryz.prog 16 #[.agg #[.int .i64 nx, .slice px5 lx.length cx5]] W fun e w' => e = .returned (.int .i64 0) ∧ Below W.heap.size W w' := fun W h => by
          have := refRight_any nx lx _ W (hx9.go h)
          rw [right_iff.2 hRx] at this
          exact this.mono fun e w' ⟨a, b⟩ => ⟨a, b.below⟩
        have hss : ∀ W, Below w9.heap.size w9 W → Calls Tryz.prog 13 #[.agg #[.int .i64 nx, .slice px5 lx.length cx5], .agg #[.int .i64 nx, .slice py lx.length cy]] W fun e w' => e = .returned (.bool true) ∧ Below W.heap.size W w' := fun W h => by
          have := refSame_any nx nx lx lx hRx.m1 _ _ W (hx9.go h) (hy9.go h)
          rw [decide_eq_true (⟨rfl, rfl⟩ : nx = nx ∧ lx = lx)] at this
          exact this.mono fun e w' ⟨a, b⟩ => ⟨a, b.below⟩
        have hal : ∀ W, Below w9.heap.size w9 W → Calls Tryz.prog 10 #[] W fun e w' => e = .returned (.bool true) ∧ Below W.heap.size W w' := fun W h => alive_any W (hE9.go h)
        go_wp2_with fail
        refine (hrr _ (Below.refl _ _)).mono ?_
        clear hrr
        rintro e wR ⟨rfl, hbR⟩
        have yR0 := cell_keep hbR y0
        have yR1 := cell_keep hbR y1
        have zR0 := cell_keep hbR z0
        have zR1 := cell_keep hbR z1
        clear y0 y1 z0 z1
        go_wp2_with fail
        refine (hss _ hbR).mono ?_
        clear hss yR0 yR1 zR0 zR1
        rintro e wS ⟨rfl, hbS⟩
        have hbS9 := below_keep hbS hbR (Nat.le_refl _)
        go_wp2_with fail
        refine (hal _ hbS9).mono ?_
        rintro e wA ⟨rfl, hbA⟩
        have hbA9 := below_keep hbA hbS9 (Nat.le_refl _)
        go_wp2
        go_ret
        exact ⟨rfl, hw9.trans (hbA9.mono hw9.size)⟩
      · rw [hpm] at hpx
        clear hpm
        go_wp2_with fail
        refine hpx.mono ?_
        clear hpx
        rintro e w5 ⟨gx, ex, rfl, hx5, ⟨_, b5, rfl, hF5⟩, hb5⟩
        obtain ⟨px5, cx5, rfl⟩ := hx5.len
        have hb6 : Below w5.heap.size w5 (w5.alloc (.cells #[.int .i64 0, .slice px5 0 cx5] 30)) := (Below.refl _ _).alloc (Nat.le_refl _) _
        have hX6 : Blk 30 (w5.alloc (.cells #[.int .i64 0, .slice px5 0 cx5] 30)) w5.heap.size [.int .i64 0, .slice px5 0 cx5] := heap_alloc_new w5 _
        have hx6 := hx5.go hb6
        have hw5 := hwc.trans (hb5.mono hwc.size)
        have hw6 := hw5.trans (hb6.mono hw5.size)
        have hE6 := hE.go hw6
        have x0 := hX6.cell (j := 0) rfl
        have x1 := hX6.cell (j := 1) rfl
        have hss := refSame_any 0 0 [] [] (by simp) _ (.slice none 0 0) _ hx6 (Edges.nil _ _ _ _)
        rw [decide_eq_true (⟨rfl, rfl⟩ : (0 : Int) = 0 ∧ ([] : List Ed) = [])] at hss
        go_wp2_with fail
        refine hss.mono ?_
        clear hss
        rintro e w7 ⟨rfl, hg7⟩
        have hw7 := hw6.trans (hg7.below.mono hw6.size)
        have hal := alive_any w7 (hE.go hw7)
        go_wp2_with fail
        refine hal.mono ?_
        rintro e w8 ⟨rfl, hb8⟩
        go_wp2
        go_ret
        exact ⟨rfl, hw7.trans (hb8.mono hw7.size)⟩
    · have hpr := print_bad n l hR0 _ _ hl1
      go_enter Tryz.func6, Tryz.ntmps6
      go_wp2_with fail
      refine hpr.mono ?_
      clear hpr
      rintro e wc ⟨ev, rfl, ⟨_, b, rfl, hF2⟩, hb2⟩
      have hwc := hb1.trans (hb2.mono hb1.size)
      have hEc := hE.go hwc
      have hBc := hB.go hwc
      clear q0 q1
      have hpx := parse_any xs hxl _ _ hEc hBc
      rcases parse_told xs with ⟨nx, lx, hpm, hRx, hlx⟩ | ⟨px, hpm⟩
      · rw [hpm] at hpx
        clear hpm
        go_wp2_with fail
        refine hpx.mono ?_
        clear hpx
        rintro e w5 ⟨gx, ex, rfl, hx5, rfl, hb5⟩
        obtain ⟨px5, cx5, rfl⟩ := hx5.len
        have hb6 : Below w5.heap.size w5 (w5.alloc (.cells #[.int .i64 nx, .slice px5 lx.length cx5] 30)) := (Below.refl _ _).alloc (Nat.le_refl _) _
        have hX6 : Blk 30 (w5.alloc (.cells #[.int .i64 nx, .slice px5 lx.length cx5] 30)) w5.heap.size [.int .i64 nx, .slice px5 lx.length cx5] := heap_alloc_new w5 _
        have hx6 := hx5.go hb6
        have hw5 := hwc.trans (hb5.mono hwc.size)
        have hw6 := hw5.trans (hb6.mono hw5.size)
        have hE6 := hE.go hw6
        have x0 := hX6.cell (j := 0) rfl
        have x1 := hX6.cell (j := 1) rfl
        have hpr := print_good nx lx hRx _ _ hE6 hx6
        go_wp2_with fail
        refine hpr.mono ?_
        clear hpr
        rintro e w7 ⟨bu, rfl, hU7, hb7⟩
        have hpy := parse_print hRx (by omega)
        have hsy : ((printL nx lx).map fun b => (b.toNat : Int)).length ≤ 140737488355328 := by
          have := print_short hRx (by omega : lx.length ≤ 20000)
          rw [List.length_map]
          omega
        generalize ((printL nx lx).map fun b => (b.toNat : Int)) = Y at hU7 hpy hsy
        obtain ⟨pu, cu, rfl⟩ := hU7.len
        have hw7 := hw6.trans (hb7.mono hw6.size)
        have hpp := parse_any Y hsy _ _ (hE.go hw7) hU7
        rw [hpy] at hpp
        go_wp2_with fail
        refine hpp.mono ?_
        clear hpp
        rintro e w8 ⟨gy, ey, rfl, hy8, rfl, hb8⟩
        obtain ⟨py, cy, rfl⟩ := hy8.len
        have hw8 := hw7.trans (hb8.mono hw7.size)
        have hb9 : Below w8.heap.size w8 (w8.alloc (.cells #[.int .i64 nx, .slice py lx.length cy] 30)) := (Below.refl _ _).alloc (Nat.le_refl _) _
        have hY9 : Blk 30 (w8.alloc (.cells #[.int .i64 nx, .slice py lx.length cy] 30)) w8.heap.size [.int .i64 nx, .slice py lx.length cy] := heap_alloc_new w8 _
        have hw9 := hw8.trans (hb9.mono hw8.size)
        have hX9 := ((hX6.go hb7).go hb8).go hb9
        have hx9 := ((hx6.go hb7).go hb8).go hb9
        have hy9 := hy8.go hb9
        have hE9 := hE.go hw9
        have y0 := hY9.cell (j := 0) rfl
        have y1 := hY9.cell (j := 1) rfl
        have z0 := hX9.cell (j := 0) rfl
        have z1 := hX9.cell (j := 1) rfl
        have hlt9 : w5.heap.size < w8.heap.size := by have := hb7.size; have := hb8.size; simp only [World.size_alloc] at *; omega
        generalize hw9e : w8.alloc (.cells #[.int .i64 nx, .slice py lx.length cy] 30) = w9 at *
        have hrr : ∀ W, Below w9.heap.size w9 W → Calls Tryz.prog 16 #[.agg #[.int .i64 nx, .slice px5 lx.length cx5]] W fun e w' => e = .returned (.int .i64 0) ∧ Below W.heap.size W w' := fun W h => by
          have := refRight_any nx lx _ W (hx9.go h)
          rw [right_iff.2 hRx] at this
          exact this.mono fun e w' ⟨a, b⟩ => ⟨a, b.below⟩
        have hss : ∀ W, Below w9.heap.size w9 W → Calls Tryz.prog 13 #[.agg #[.int .i64 nx, .slice px5 lx.length cx5], .agg #[.int .i64 nx, .slice py lx.length cy]] W fun e w' => e = .returned (.bool true) ∧ Below W.heap.size W w' := fun W h => by
          have := refSame_any nx nx lx lx hRx.m1 _ _ W (hx9.go h) (hy9.go h)
          rw [decide_eq_true (⟨rfl, rfl⟩ : nx = nx ∧ lx = lx)] at this
          exact this.mono fun e w' ⟨a, b⟩ => ⟨a, b.below⟩
        have hal : ∀ W, Below w9.heap.size w9 W → Calls Tryz.prog 10 #[] W fun e w' => e = .returned (.bool true) ∧ Below W.heap.size W w' := fun W h => alive_any W (hE9.go h)
        go_wp2_with fail
        refine (hrr _ (Below.refl _ _)).mono ?_
        clear hrr
        rintro e wR ⟨rfl, hbR⟩
        have yR0 := cell_keep hbR y0
        have yR1 := cell_keep hbR y1
        have zR0 := cell_keep hbR z0
        have zR1 := cell_keep hbR z1
        clear y0 y1 z0 z1
        go_wp2_with fail
        refine (hss _ hbR).mono ?_
        clear hss yR0 yR1 zR0 zR1
        rintro e wS ⟨rfl, hbS⟩
        have hbS9 := below_keep hbS hbR (Nat.le_refl _)
        go_wp2_with fail
        refine (hal _ hbS9).mono ?_
        rintro e wA ⟨rfl, hbA⟩
        have hbA9 := below_keep hbA hbS9 (Nat.le_refl _)
        go_wp2
        go_ret
        exact ⟨rfl, hw9.trans (hbA9.mono hw9.size)⟩
      · rw [hpm] at hpx
        clear hpm
        go_wp2_with fail
        refine hpx.mono ?_
        clear hpx
        rintro e w5 ⟨gx, ex, rfl, hx5, ⟨_, b5, rfl, hF5⟩, hb5⟩
        obtain ⟨px5, cx5, rfl⟩ := hx5.len
        have hb6 : Below w5.heap.size w5 (w5.alloc (.cells #[.int .i64 0, .slice px5 0 cx5] 30)) := (Below.refl _ _).alloc (Nat.le_refl _) _
        have hX6 : Blk 30 (w5.alloc (.cells #[.int .i64 0, .slice px5 0 cx5] 30)) w5.heap.size [.int .i64 0, .slice px5 0 cx5] := heap_alloc_new w5 _
        have hx6 := hx5.go hb6
        have hw5 := hwc.trans (hb5.mono hwc.size)
        have hw6 := hw5.trans (hb6.mono hw5.size)
        have hE6 := hE.go hw6
        have x0 := hX6.cell (j := 0) rfl
        have x1 := hX6.cell (j := 1) rfl
        have hss := refSame_any 0 0 [] [] (by simp) _ (.slice none 0 0) _ hx6 (Edges.nil _ _ _ _)
        rw [decide_eq_true (⟨rfl, rfl⟩ : (0 : Int) = 0 ∧ ([] : List Ed) = [])] at hss
        go_wp2_with fail
        refine hss.mono ?_
        clear hss
        rintro e w7 ⟨rfl, hg7⟩
        have hw7 := hw6.trans (hg7.below.mono hw6.size)
        have hal := alive_any w7 (hE.go hw7)
        go_wp2_with fail
        refine hal.mono ?_
        rintro e w8 ⟨rfl, hb8⟩
        go_wp2
        go_ret
        exact ⟨rfl, hw7.trans (hb8.mono hw7.size)⟩
end Go.Proofs.YthlkknfhganecaaGreatDoor
