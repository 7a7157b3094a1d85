/-
  The walk of filigreelaw04.GraphNear.
-/
import Derived.Test.YtkniphmjiepkaaaGNear2
import Derived.Test.YtkniphmjiepkaaaGRefNear
import Derived.Test.YtkniphmjiepkaaaGAlive
namespace Go.Proofs.Ytkniphmjiepkaaa
open Go Go.Proofs Go.RowKit

theorem degs_at {n : Nat} {w : World} {p : Option Addr} {c N : Nat} {l : List Ed} (h : Ints n w (.slice p N c) (degL N l l.length)) {j : Nat} (hj : j < N) :
    ∃ b off, p = some ⟨b, off, none⟩ ∧ b < n ∧ N ≤ c ∧ w.cell? ⟨b, off + j, none⟩ = some (.int .i64 ((nb l (j : Int)).length : Int)) := by
  rcases h with ⟨_, h0⟩ | ⟨b, off, cap, h1, h2, h3, h4⟩
  · have := congrArg List.length h0; rw [degL_len] at this; simp at this; omega
  · rw [degL_len] at h1 h3
    simp only [Value.slice.injEq] at h1
    obtain ⟨rfl, _, rfl⟩ := h1
    exact ⟨b, off, rfl, h2, h3, h4 j _ (by rw [degL_at hj, List.take_length])⟩
theorem near_at {n : Nat} {w : World} {p : Option Addr} {c N : Nat} {l : List Ed} (h : Lsts n w (.slice p N c) (nearL N l)) {j : Nat} (hj : j < N) :
    ∃ b off, p = some ⟨b, off, none⟩ ∧ b < n ∧ N ≤ c ∧ ∃ px cx, w.cell? ⟨b, off + j, none⟩ = some (.slice px (nb l (j : Int)).length cx) := by
  rcases h with ⟨_, h0⟩ | ⟨b, off, cap, h1, h2, h3, h4⟩
  · have := congrArg List.length h0; rw [nearL_len] at this; simp at this; omega
  · rw [nearL_len] at h1 h3
    simp only [Value.slice.injEq] at h1
    obtain ⟨rfl, _, rfl⟩ := h1
    obtain ⟨sx, h5, h6⟩ := h4 j _ (nearL_at hj)
    obtain ⟨px, cx, rfl⟩ := h6.len
    exact ⟨b, off, rfl, h2, h3, px, cx, h5⟩

set_option maxRecDepth 100000 in
set_option maxHeartbeats 8000000 in
theorem near_walk (n : Int) (l : List Ed) (u v : Int) (sv : Value) (w : World) (hl : Edges w.heap.size w sv l) :
    Calls Try.prog 5 #[.agg #[.int .i64 n, sv], .int .i64 u, .int .i64 v] w fun r w' => r = .returned (.bool true) ∧ Below w.heap.size w w' := by
  have hmix := mixed
  have hg1 : Grew w (w.alloc (.cells #[.int .i64 n, sv] 24)) := (Grew.refl w).alloc _
  have hl1 := hl.go hg1.below
  obtain ⟨p, c, rfl⟩ := hl.len
  have hlt := light_any n l 60 (by omega) (by omega) _ _ hl1
  by_cases hli : lightB n l 60 = true
  · rw [hli] at hlt
    obtain ⟨hn60, hl60⟩ := lightB_true hli
    have hrc := refRight_any n l (.slice p l.length c)
    by_cases hr : rightK n l = 0
    · have hR := right_iff.1 hr
      rw [hr] at hrc
      obtain ⟨N, rfl⟩ : ∃ N : Nat, n = (N : Int) := ⟨n.toNat, by have := hR.n0; omega⟩
      have hN3 : N ≤ 60 := by omega
      have HFK : Hid (findK (N : Int) l u v = findP l u v) := if_pos hr
      go_enter Try.func5, Try.ntmps5
      go_wp2_with fail
      refine hlt.mono ?_
      rintro e w2 ⟨rfl, hg2⟩
      have hl2 := hl1.go hg2.below
      have q0 := (box2 _ hg2).1
      have q1 := (box2 _ hg2).2
      clear hlt
      go_wp2_with fail
      refine (hrc _ hl2).mono ?_
      rintro e w3 ⟨rfl, hg3⟩
      replace q0 := cell_keep hg3.below q0
      replace q1 := cell_keep hg3.below q1
      have hbw := ((hg1.trans hg2).trans hg3).below
      have hl3 := hl2.go hg3.below
      clear hrc hl1 hl2 hg2 hg3 hr hg1
      go_wp2_with fail
      refine (refNear_any N l hR _ _ hl3).mono ?_
      rintro e w4 ⟨rv, rfl, hrL, hb4⟩
      replace q0 := cell_keep hb4 q0
      replace q1 := cell_keep hb4 q1
      replace hbw := below_keep hb4 hbw (Nat.le_refl _)
      have hl4 := hl3.go hb4
      obtain ⟨pr, cr, hrv⟩ := hrL.len
      rw [nearL_len] at hrv
      subst hrv
      clear hl3 hb4
      go_wp2_with fail
      refine (degrees_any N l hR _ _ hl4).mono ?_
      rintro e w5 ⟨dv, rfl, hdI, ⟨gd, rfl, -⟩, hb5⟩
      replace q0 := cell_keep hb5 q0
      replace q1 := cell_keep hb5 q1
      replace hbw := below_keep hb5 hbw (Nat.le_refl _)
      have hl5 := hl4.go hb5
      have hrL5 := hrL.go hb5
      clear hl4 hb5 hrL
      have hE : ∀ W', Below w5.heap.size w5 W' → Calls Try.prog 17 #[.agg #[.int .i64 (N : Int), .slice p l.length c]] W' fun r w' => ∃ nv, r = .returned nv ∧ Lsts w'.heap.size w' nv (nearL N l) ∧ Below W'.heap.size W' w' := fun W' h => near_any N l hR _ W' (hl5.go h)
      have hF : ∀ W', Below w5.heap.size w5 W' → Calls Try.prog 16 #[.agg #[.int .i64 (N : Int), .slice p l.length c], .int .i64 u, .int .i64 v] W' fun r w' => r = .returned (.int .i64 (findP l u v)) ∧ Below W'.heap.size W' w' := fun W' h => (find_any (N : Int) l u v _ W' (hl5.go h)).mono fun _ _ ⟨h1, h2⟩ => ⟨by rw [h1, HFK.out], h2.below⟩
      have hG : ∀ W', Below w5.heap.size w5 W' → Calls Try.prog 21 #[.agg #[.int .i64 (N : Int), .slice p l.length c], .int .i64 u, .int .i64 v] W' fun r w' => r = .returned (.int .i64 (findP l u v)) ∧ Below W'.heap.size W' w' := fun W' h => (refFind_any (N : Int) l hR.m1 u v _ W' (hl5.go h)).mono fun _ _ ⟨h1, h2⟩ => ⟨h1, h2.below⟩
      have hLs : ∀ W' nv, Below w5.heap.size w5 W' → Lsts W'.heap.size W' nv (nearL N l) → Calls Try.prog 20 #[nv, .slice pr N cr] W' fun r w' => r = .returned (.bool true) ∧ Below W'.heap.size W' w' := fun W' nv h hL => (refLists_any (nearL N l) (nearL N l) (by rw [nearL_len]; omega) (fun x hx => by
        obtain ⟨i, _, rfl⟩ := List.mem_map.1 hx
        have := nb_len (i : Int) l; omega) nv _ W' hL (hrL5.go h)).mono fun _ _ ⟨h1, h2⟩ => ⟨by rw [h1]; simp, h2.below⟩
      have hb0 := Below.refl w5.heap.size w5
      have hnn : ((N : Int) != (N : Int)) = false := by simp
      generalize findP l u v = fv at hF hG
      have hff : (fv != fv) = false := by simp
      go_wp2
      go_region_held3 (fun w' => w'.cell? ⟨w.heap.size, 0, none⟩ = some (.int .i64 (N : Int)) ∧ w'.cell? ⟨w.heap.size, 1, none⟩ = some (.slice p l.length c) ∧ Below w5.heap.size w5 w') (((try go_split_ands); refine ⟨?_, ?_, ?_⟩ <;> first | assumption | (simp only [World.cell?_drew]; assumption) | exact below_drew1 (by assumption) | exact cell_keep hbF (by assumption) | exact below_keep hbF (by assumption) (Nat.le_refl _) | exact cell_keep hbG (by assumption) | exact below_keep hbG (by assumption) (Nat.le_refl _) | exact cell_keep hbL (by assumption) | exact below_keep hbL (by assumption) (Nat.le_refl _) | exact cell_keep hbN (by assumption) | exact below_keep hbN (by assumption) (Nat.le_refl _))) (first | (go_at_call 17; refine (hE _ (by go_split_ands; assumption)).mono ?_; rintro e wN ⟨nv, rfl, hnL, hbN⟩; obtain ⟨pn, cn, hnv⟩ := hnL.len; rw [nearL_len] at hnv; subst hnv) | (go_at_call 20; refine (hLs _ _ (by go_split_ands; assumption) (by assumption)).mono ?_; rintro e wL ⟨rfl, hbL⟩) | (go_at_call 16; refine (hF _ (by go_split_ands; assumption)).mono ?_; rintro e wF ⟨rfl, hbF⟩) | (go_at_call 21; refine (hG _ (by go_split_ands; assumption)).mono ?_; rintro e wG ⟨rfl, hbG⟩))
      all_goals go_split_ands
      all_goals rename_i x0 x1 hb6
      all_goals clear hE hF hG hLs hb0 q0 q1 hl5
      all_goals go_wp2
      all_goals go_loopw [9] (fun i wr => ∃ j : Nat, j ≤ N ∧ i = .int .i64 j ∧ wr.cell? ⟨w.heap.size, 0, none⟩ = some (.int .i64 (N : Int)) ∧ Below w5.heap.size w5 wr) (fun i _ => N - (intOf i).toNat)
      all_goals (first | exact ⟨0, Nat.zero_le _, rfl, x0, hb6⟩ | skip)
      all_goals
        obtain ⟨j, hj, rfl, y0, hb7⟩ := hrel
        by_cases hlt : j < N
        · obtain ⟨bd, offd, hbd, hbdl, hcd, c0⟩ := degs_at (hdI.go hb7) hlt
          obtain ⟨bn, offn, rfl, hbnl, hcn, px, cx, c1⟩ := near_at (hrL5.go hb7) hlt
          simp only [Option.some.injEq, Addr.mk.injEq] at hbd
          obtain ⟨rfl, rfl, -⟩ := hbd
          rw [Nat.zero_add] at c0
          have hjl : (j : Int) < (N : Int) := by omega
          generalize (nb l (j : Int)).length = ln at c0 c1
          have hnl : ((ln : Int) != (ln : Int)) = false := by simp
          go_wp2
          go_quiet (fail)
          have hb8 := below_drewN hb7 nq
          have z0 : (wr.drewN nq).cell? ⟨w.heap.size, 0, none⟩ = some (.int .i64 (N : Int)) := y0
          generalize wr.drewN nq = w8 at hb8 z0 ⊢
          clear c0 c1 y0
          go_wp2
          exact ⟨⟨j + 1, by omega, by go_num, z0, hb8⟩, by simp [intOf]; omega⟩
        · obtain rfl : j = N := by omega
          go_wp2_with fail
          refine (alive_any _).mono ?_
          rintro e w9 ⟨rfl, hb9⟩
          go_wp2
          go_ret
          exact ⟨rfl, below_keep hb9 (below_keep hb7 hbw (Nat.le_refl _)) (Nat.le_refl _)⟩
    · have HFK : Hid (findK n l u v = -1) := if_neg hr
      have hD0 := fun W h => degrees_bad n l hr (.slice p l.length c) W h
      have hN0 := fun W h => near_bad n l hr (.slice p l.length c) W h
      have hF0 := fun W h => find_any n l u v (.slice p l.length c) W h
      rw [HFK.out] at hF0
      have hk : (rightK n l == 0) = false := by simpa using hr
      generalize rightK n l = k at hrc hk
      clear hr HFK
      go_enter Try.func5, Try.ntmps5
      go_wp2_with fail
      refine hlt.mono ?_
      rintro e w2 ⟨rfl, hg2⟩
      have hl2 := hl1.go hg2.below
      have q0 := (box2 _ hg2).1
      have q1 := (box2 _ hg2).2
      clear hlt
      go_wp2_with fail
      refine (hrc _ hl2).mono ?_
      rintro e w3 ⟨rfl, hg3⟩
      replace q0 := cell_keep hg3.below q0
      replace q1 := cell_keep hg3.below q1
      have hbw := ((hg1.trans hg2).trans hg3).below
      have hl3 := hl2.go hg3.below
      have hD : ∀ W', Below w3.heap.size w3 W' → Calls Try.prog 18 #[.agg #[.int .i64 n, .slice p l.length c]] W' fun r w' => r = .returned (.slice none 0 0) ∧ Below W'.heap.size W' w' := fun W' h => (hD0 W' (hl3.go h)).mono fun _ _ ⟨h1, h2⟩ => ⟨h1, h2.below⟩
      have hE : ∀ W', Below w3.heap.size w3 W' → Calls Try.prog 17 #[.agg #[.int .i64 n, .slice p l.length c]] W' fun r w' => r = .returned (.slice none 0 0) ∧ Below W'.heap.size W' w' := fun W' h => (hN0 W' (hl3.go h)).mono fun _ _ ⟨h1, h2⟩ => ⟨h1, h2.below⟩
      have hF : ∀ W', Below w3.heap.size w3 W' → Calls Try.prog 16 #[.agg #[.int .i64 n, .slice p l.length c], .int .i64 u, .int .i64 v] W' fun r w' => r = .returned (.int .i64 (-1)) ∧ Below W'.heap.size W' w' := fun W' h => (hF0 W' (hl3.go h)).mono fun _ _ ⟨h1, h2⟩ => ⟨h1, h2.below⟩
      have hb0 := Below.refl w3.heap.size w3
      clear hrc hD0 hN0 hF0 hl1 hl2 hl3 hg1 hg2 hg3
      go_wp2
      go_region_held3 (fun w' => w'.cell? ⟨w.heap.size, 0, none⟩ = some (.int .i64 n) ∧ w'.cell? ⟨w.heap.size, 1, none⟩ = some (.slice p l.length c) ∧ Below w3.heap.size w3 w') (((try go_split_ands); refine ⟨?_, ?_, ?_⟩ <;> first | assumption | (simp only [World.cell?_drew]; assumption) | exact below_drew1 (by assumption) | exact cell_keep hbA (by assumption) | exact below_keep hbA (by assumption) (Nat.le_refl _) | exact cell_keep hbD (by assumption) | exact below_keep hbD (by assumption) (Nat.le_refl _) | exact cell_keep hbN (by assumption) | exact below_keep hbN (by assumption) (Nat.le_refl _) | exact cell_keep hbF (by assumption) | exact below_keep hbF (by assumption) (Nat.le_refl _))) (first | (go_at_call 16; refine (hF _ (by go_split_ands; assumption)).mono ?_; rintro e wF ⟨rfl, hbF⟩) | (go_at_call 17; refine (hE _ (by go_split_ands; assumption)).mono ?_; rintro e wN ⟨rfl, hbN⟩) | (go_at_call 18; refine (hD _ (by go_split_ands; assumption)).mono ?_; rintro e wD ⟨rfl, hbD⟩) | (go_at_call 11; refine (alive_any _).mono ?_; rintro e wA ⟨rfl, hbA⟩))
      all_goals go_split_ands
      all_goals rename_i hb6
      all_goals go_wp2
      all_goals go_ret
      all_goals exact ⟨rfl, below_keep hb6 hbw (Nat.le_refl _)⟩
  · rw [Bool.not_eq_true] at hli
    rw [hli] at hlt
    go_enter Try.func5, Try.ntmps5
    go_wp2_with fail
    refine hlt.mono ?_
    rintro e w2 ⟨rfl, hg2⟩
    go_wp2_with fail
    refine (alive_any _).mono ?_
    rintro e w3 ⟨rfl, hb3⟩
    go_wp2
    go_ret
    exact ⟨rfl, below_keep hb3 (hg1.trans hg2).below (Nat.le_refl _)⟩

end Go.Proofs.Ytkniphmjiepkaaa
