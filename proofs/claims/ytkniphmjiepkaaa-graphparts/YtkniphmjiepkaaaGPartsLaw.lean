/-
  The walk of filigreelaw04.GraphParts.
-/
import Derived.Test.YtkniphmjiepkaaaGRefLess
import Derived.Test.YtkniphmjiepkaaaGSame
namespace Go.Proofs.Ytkniphmjiepkaaa
open Go Go.Proofs Go.RowKit

theorem keepL_le (l : List Ed) (pred : Nat → Bool) : (keepL l pred l.length).length ≤ l.length := keepL_len l pred l.length

set_option maxRecDepth 100000 in
set_option maxHeartbeats 4000000 in
theorem parts_walk (n : Int) (l : List Ed) (m : Int) (k : List Ed) (kp : List Bool) (a : List Int) (sl sk sp sa : Value) (w : World) (hl : Edges w.heap.size w sl l) (hk : Edges w.heap.size w sk k) (hK : Bools w.heap.size w sp kp) (hA : Ints w.heap.size w sa a) :
    Calls Try.prog 6 #[.agg #[.int .i64 n, sl], .agg #[.int .i64 m, sk], sp, sa] w fun r w' => r = .returned (.bool true) ∧ Below w.heap.size w w' := by
  have hmix := mixed
  have hg1 : Grew w ((w.alloc (.cells #[.int .i64 n, sl] 24)).alloc (.cells #[.int .i64 m, sk] 24)) := ((Grew.refl w).alloc _).alloc _
  have hl1 := hl.go hg1.below
  obtain ⟨p, c, rfl⟩ := hl.len
  obtain ⟨p2, c2, rfl⟩ := hk.len
  obtain ⟨pp, cp, rfl⟩ := hK.len
  obtain ⟨pa, ca, rfl⟩ := hA.len
  have hB0 : ∀ W', Grew ((w.alloc (.cells #[.int .i64 n, .slice p l.length c] 24)).alloc (.cells #[.int .i64 m, .slice p2 k.length c2] 24)) W' → W'.cell? ⟨w.heap.size, 0, none⟩ = some (.int .i64 n) ∧ W'.cell? ⟨w.heap.size, 1, none⟩ = some (.slice p l.length c) ∧ W'.cell? ⟨w.heap.size + 1, 0, none⟩ = some (.int .i64 m) ∧ W'.cell? ⟨w.heap.size + 1, 1, none⟩ = some (.slice p2 k.length c2) := fun W' h => by
    obtain ⟨x0, x1⟩ := box2 _ (((Grew.refl _).alloc _).trans h)
    obtain ⟨y0, y1⟩ := box2 _ h
    exact ⟨x0, x1, by simpa using y0, by simpa using y1⟩
  have hlt := light_any n l 60 (by omega) (by omega) _ _ hl1
  by_cases hgo : lightB n l 60 = true ∧ (k.length : Int) ≤ 1000 ∧ (a.length : Int) ≤ 500
  · obtain ⟨hli, hk1, ha1⟩ := hgo
    rw [hli] at hlt
    obtain ⟨hn60, hl60⟩ := lightB_true hli
    have hd1 : decide ((1000 : Int) < (k.length : Int)) = false := by simpa using hk1
    have hd2 : decide ((500 : Int) < (a.length : Int)) = false := by simpa using ha1
    have hls : l.length ≤ 4194304 := by omega
    have ha : a.length ≤ 4194304 := by omega
    go_enter Try.func6, Try.ntmps6
    go_wp2_with fail
    refine hlt.mono ?_
    rintro e w2 ⟨rfl, hg2⟩
    obtain ⟨q0, q1, q2, q3⟩ := hB0 _ hg2
    have hbw2 := (hg1.trans hg2).below
    clear hlt hl1 hg2 hg1 hB0
    go_wp2
    have hS1 : ∀ W', Below w.heap.size w W' → Calls Try.prog 22 #[.agg #[.int .i64 n, .slice p l.length c], .agg #[.int .i64 m, .slice p2 k.length c2]] W' fun r w' => r = .returned (.bool (decide (n = m ∧ l = k))) ∧ Grew W' w' := fun W' h => same_any n m l k hls _ _ W' (hl.go h) (hk.go h)
    have hS2 : ∀ W', Below w.heap.size w W' → Calls Try.prog 14 #[.agg #[.int .i64 n, .slice p l.length c], .agg #[.int .i64 m, .slice p2 k.length c2]] W' fun r w' => r = .returned (.bool (decide (n = m ∧ l = k))) ∧ Grew W' w' := fun W' h => refSame_any n m l k hls _ _ W' (hl.go h) (hk.go h)
    generalize decide (n = m ∧ l = k) = same at hS1 hS2
    go_region_held3 (fun w' => w'.cell? ⟨w.heap.size, 0, none⟩ = some (.int .i64 n) ∧ w'.cell? ⟨w.heap.size, 1, none⟩ = some (.slice p l.length c) ∧ w'.cell? ⟨w.heap.size + 1, 0, none⟩ = some (.int .i64 m) ∧ w'.cell? ⟨w.heap.size + 1, 1, none⟩ = some (.slice p2 k.length c2) ∧ Below w.heap.size w w') (((try go_split_ands); refine ⟨?_, ?_, ?_, ?_, ?_⟩ <;> first | assumption | (simp only [World.cell?_drew]; assumption) | exact below_drew1 (by assumption) | exact cell_keep hb (by assumption) | exact below_keep hb (by assumption) (Nat.le_refl _))) (first | (go_at_call 22; refine (hS1 _ (by go_split_ands; assumption)).mono ?_; rintro e w3 ⟨rfl, hg⟩; have hb := hg.below) | (go_at_call 14; refine (hS2 _ (by go_split_ands; assumption)).mono ?_; rintro e w3 ⟨rfl, hg⟩; have hb := hg.below))
    go_split_ands
    clear q0 q1 q2 q3 hbw2 hS1 hS2
    rename_i x0 x1 x2 x3 hbw3
    have hrr := refRight_any n l _ w3 (hl.go hbw3)
    have hSm : ∀ (K : List Ed) (g1 g2 : Value) (W : World), K.length ≤ 4194304 → Edges W.heap.size W g1 K → Edges W.heap.size W g2 K → Calls Try.prog 14 #[.agg #[.int .i64 n, g1], .agg #[.int .i64 n, g2]] W fun r w' => r = .returned (.bool true) ∧ Grew W w' := fun K g1 g2 W hc h1 h2 => by
      have h := refSame_any n n K K hc g1 g2 W h1 h2
      rwa [show decide (n = n ∧ K = K) = true by simp] at h
    by_cases hr : rightK n l = 0
    · have hR := right_iff.1 hr
      have e1 : stayN n l = n := if_pos hr
      have e2 : ∀ pr, stayL n l pr = keepL l pr l.length := fun pr => if_pos hr
      have hco : (keepL l (onlyP l kp) l.length).length ≤ 4194304 := Nat.le_trans (keepL_le _ _) hls
      have hcl : (keepL l (lessP a) l.length).length ≤ 4194304 := Nat.le_trans (keepL_le _ _) hls
      have hOa : ∀ W', Below w.heap.size w W' → Calls Try.prog 23 #[.agg #[.int .i64 n, .slice p l.length c], .slice pp kp.length cp] W' fun r w' => ∃ gv, r = .returned (.agg #[.int .i64 n, gv]) ∧ Edges w'.heap.size w' gv (keepL l (onlyP l kp) l.length) ∧ Below W'.heap.size W' w' := fun W' h => by
        have h1 := only_any n l kp _ _ W' (hl.go h) (hK.go h)
        rwa [e1, e2] at h1
      have hOb : ∀ W', Below w.heap.size w W' → Calls Try.prog 25 #[.agg #[.int .i64 n, .slice p l.length c], .slice pp kp.length cp] W' fun r w' => ∃ gv, r = .returned (.agg #[.int .i64 n, gv]) ∧ Edges w'.heap.size w' gv (keepL l (onlyP l kp) l.length) ∧ Below W'.heap.size W' w' := fun W' h => refOnly_any n l hR kp _ _ W' (hl.go h) (hK.go h)
      have hLa : ∀ W', Below w.heap.size w W' → Calls Try.prog 24 #[.agg #[.int .i64 n, .slice p l.length c], .slice pa a.length ca] W' fun r w' => ∃ gv, r = .returned (.agg #[.int .i64 n, gv]) ∧ Edges w'.heap.size w' gv (keepL l (lessP a) l.length) ∧ Below W'.heap.size W' w' := fun W' h => by
        have h1 := less_any n l a ha _ _ W' (hl.go h) (hA.go h)
        rwa [e1, e2] at h1
      have hLb : ∀ W', Below w.heap.size w W' → Calls Try.prog 26 #[.agg #[.int .i64 n, .slice p l.length c], .slice pa a.length ca] W' fun r w' => ∃ gv, r = .returned (.agg #[.int .i64 n, gv]) ∧ Edges w'.heap.size w' gv (keepL l (lessP a) l.length) ∧ Below W'.heap.size W' w' := fun W' h => refLess_any n l hR a ha _ _ W' (hl.go h) (hA.go h)
      rw [hr] at hrr
      clear hr e1 e2
      go_wp2_with fail
      refine hrr.mono ?_
      rintro e w4 ⟨rfl, hg4⟩
      have y0 := cell_keep hg4.below x0
      have y1 := cell_keep hg4.below x1
      have hbw4 := below_keep hg4.below hbw3 (Nat.le_refl _)
      clear hrr x0 x1 x2 x3 hg4 hbw3
      go_wp2
      go_region_held3 (fun w' => w'.cell? ⟨w.heap.size, 0, none⟩ = some (.int .i64 n) ∧ w'.cell? ⟨w.heap.size, 1, none⟩ = some (.slice p l.length c) ∧ Below w.heap.size w w') (((try go_split_ands); refine ⟨?_, ?_, ?_⟩ <;> first | assumption | (simp only [World.cell?_drew]; assumption) | exact below_drew1 (by assumption) | exact cell_keep hbZ (by assumption) | exact below_keep hbZ (by assumption) (Nat.le_refl _) | exact cell_keep hbY (by assumption) | exact below_keep hbY (by assumption) (Nat.le_refl _) | exact cell_keep hbD (by assumption) | exact below_keep hbD (by assumption) (Nat.le_refl _) | exact cell_keep hbC (by assumption) | exact below_keep hbC (by assumption) (Nat.le_refl _) | exact cell_keep hbX (by assumption) | exact below_keep hbX (by assumption) (Nat.le_refl _) | exact cell_keep hbB (by assumption) | exact below_keep hbB (by assumption) (Nat.le_refl _) | exact cell_keep hbA (by assumption) | exact below_keep hbA (by assumption) (Nat.le_refl _))) (first | (go_at_call 23; refine (hOa _ (by go_split_ands; assumption)).mono ?_; rintro e wA ⟨gvA, rfl, hEA, hbA⟩) | (go_at_call 25; refine (hOb _ (by go_split_ands; assumption)).mono ?_; rintro e wB ⟨gvB, rfl, hEB, hbB⟩) | (go_at_call 24; refine (hLa _ (by go_split_ands; assumption)).mono ?_; rintro e wC ⟨gvC, rfl, hEC, hbC⟩) | (go_at_call 26; refine (hLb _ (by go_split_ands; assumption)).mono ?_; rintro e wD ⟨gvD, rfl, hED, hbD⟩) | (go_at_call 14; with_reducible (refine (hSm _ gvC gvD _ hcl (hEC.go hbD) hED).mono ?_); rintro e wY ⟨rfl, hgY⟩; have hbY := hgY.below) | (go_at_call 14; with_reducible (refine (hSm _ gvA gvB _ hco (hEA.go hbB) hEB).mono ?_); rintro e wX ⟨rfl, hgX⟩; have hbX := hgX.below) | (go_at_call 11; refine (alive_any _).mono ?_; rintro e wZ ⟨rfl, hbZ⟩))
      go_split_ands
      go_wp2
      go_ret
      exact ⟨rfl, by assumption⟩
    · have e1 : stayN n l = 0 := if_neg hr
      have e2 : ∀ pr, stayL n l pr = [] := fun pr => if_neg hr
      have hk0 : (rightK n l == 0) = false := by simpa using hr
      have hO := fun W' h => only_any n l kp _ _ W' (hl.go h) (hK.go h)
      have hL := fun W' h => less_any n l a ha _ _ W' (hl.go h) (hA.go h)
      rw [e1] at hO hL
      rw [e2] at hO hL
      have hS0 : ∀ (g1 g2 : Value) (W : World), Edges W.heap.size W g1 [] → Edges W.heap.size W g2 [] → Calls Try.prog 14 #[.agg #[.int .i64 0, g1], .agg #[.int .i64 0, g2]] W fun r w' => r = .returned (.bool true) ∧ Grew W w' := fun g1 g2 W h1 h2 => by
        have h := refSame_any 0 0 [] [] (by simp) g1 g2 W h1 h2
        rwa [show decide ((0 : Int) = 0 ∧ ([] : List Ed) = []) = true by simp] at h
      generalize rightK n l = kk at hrr hk0
      clear hr e1 e2 hSm
      go_wp2_with fail
      refine hrr.mono ?_
      rintro e w4 ⟨rfl, hg4⟩
      have y0 := cell_keep hg4.below x0
      have y1 := cell_keep hg4.below x1
      have hbw4 := below_keep hg4.below hbw3 (Nat.le_refl _)
      clear hrr x0 x1 x2 x3 hg4 hbw3
      go_wp2_with fail
      refine (hO _ hbw4).mono ?_
      rintro e w5 ⟨gv, rfl, hE5, hb5⟩
      replace y0 := cell_keep hb5 y0
      replace y1 := cell_keep hb5 y1
      have hbw5 := below_keep hb5 hbw4 (Nat.le_refl _)
      go_wp2_with fail
      refine (hS0 _ _ _ hE5 (Edges.nil _ _ _ _)).mono ?_
      rintro e w6 ⟨rfl, hg6⟩
      replace y0 := cell_keep hg6.below y0
      replace y1 := cell_keep hg6.below y1
      have hbw6 := below_keep hg6.below hbw5 (Nat.le_refl _)
      clear hE5 hb5 hbw5 hbw4
      go_wp2_with fail
      refine (hL _ hbw6).mono ?_
      rintro e w7 ⟨gv7, rfl, hE7, hb7⟩
      have hbw7 := below_keep hb7 hbw6 (Nat.le_refl _)
      clear y0 y1
      go_wp2_with fail
      refine (hS0 _ _ _ hE7 (Edges.nil _ _ _ _)).mono ?_
      rintro e w8 ⟨rfl, hg8⟩
      have hbw8 := below_keep hg8.below hbw7 (Nat.le_refl _)
      go_wp2_with fail
      refine (alive_any _).mono ?_
      rintro e w9 ⟨rfl, hb9⟩
      go_wp2
      go_ret
      exact ⟨rfl, below_keep hb9 hbw8 (Nat.le_refl _)⟩
  · have hcase : lightB n l 60 = false ∨ (lightB n l 60 = true ∧ (1000 : Int) < (k.length : Int)) ∨ (lightB n l 60 = true ∧ (k.length : Int) ≤ 1000 ∧ (500 : Int) < (a.length : Int)) := by
      cases h : lightB n l 60 with
      | false => exact .inl rfl
      | true =>
        by_cases h2 : (1000 : Int) < (k.length : Int)
        · exact .inr (.inl ⟨rfl, h2⟩)
        · refine .inr (.inr ⟨rfl, by omega, ?_⟩)
          by_cases h3 : (500 : Int) < (a.length : Int)
          · exact h3
          · exact absurd ⟨h, by omega, by omega⟩ hgo
    clear hgo
    rcases hcase with hc | ⟨hc, h1⟩ | ⟨hc, h1, h2⟩
    · rw [hc] at hlt
      go_enter Try.func6, Try.ntmps6
      go_wp2_with fail
      refine hlt.mono ?_
      rintro e w2 ⟨rfl, hg2⟩
      go_wp2_with fail
      refine (alive_any _).mono ?_
      rintro e w3 ⟨rfl, hb3⟩
      go_wp2
      go_ret
      exact ⟨rfl, below_keep hb3 (hg1.trans hg2).below (Nat.le_refl _)⟩
    · rw [hc] at hlt
      have hd1 : decide ((1000 : Int) < (k.length : Int)) = true := by simpa using h1
      go_enter Try.func6, Try.ntmps6
      go_wp2_with fail
      refine hlt.mono ?_
      rintro e w2 ⟨rfl, hg2⟩
      obtain ⟨q0, q1, q2, q3⟩ := hB0 _ hg2
      go_wp2_with fail
      refine (alive_any _).mono ?_
      rintro e w3 ⟨rfl, hb3⟩
      go_wp2
      go_ret
      exact ⟨rfl, below_keep hb3 (hg1.trans hg2).below (Nat.le_refl _)⟩
    · rw [hc] at hlt
      have hd1 : decide ((1000 : Int) < (k.length : Int)) = false := by simpa using h1
      have hd2 : decide ((500 : Int) < (a.length : Int)) = true := by simpa using h2
      go_enter Try.func6, Try.ntmps6
      go_wp2_with fail
      refine hlt.mono ?_
      rintro e w2 ⟨rfl, hg2⟩
      obtain ⟨q0, q1, q2, q3⟩ := hB0 _ hg2
      go_wp2_with fail
      refine (alive_any _).mono ?_
      rintro e w3 ⟨rfl, hb3⟩
      go_wp2
      go_ret
      exact ⟨rfl, below_keep hb3 (hg1.trans hg2).below (Nat.le_refl _)⟩

end Go.Proofs.Ytkniphmjiepkaaa
