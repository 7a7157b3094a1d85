/-
  The walk of filigreelaw04.GraphHands.
-/
import Derived.Test.YtkniphmjiepkaaaGNear2
namespace Go.Proofs.Ytkniphmjiepkaaa
open Go Go.Proofs Go.RowKit

theorem degL_full {N : Nat} {l : List Ed} {v : Nat} (h : v < N) : (degL N l l.length)[v]? = some ((nb l (v : Int)).length : Int) := by rw [degL_at h, List.take_length]
theorem degS_succ (l : List Ed) (v : Nat) : degS l (v + 1) = degS l v + (nb l (v : Int)).length := rfl

theorem Lsts.open {n : Nat} {w : World} {p : Option Addr} {c N : Nat} {l : List Ed} (h : Lsts n w (.slice p N c) (nearL N l)) {j : Nat} (hj : j < N) :
    ∃ b off, p = some ⟨b, off, none⟩ ∧ N ≤ c ∧ ∀ (i : Nat), i < N → ∃ px cx, w.cell? ⟨b, off + i, none⟩ = some (.slice px (nb l (i : Int)).length cx) ∧ Ints n w (.slice px (nb l (i : Int)).length cx) (nb l (i : Int)) := by
  rcases h with ⟨_, h0⟩ | ⟨b, off, cap, h1, h2, h3, h4⟩
  · have := congrArg List.length h0; rw [nearL_len] at this; simp at this; omega
  · rw [nearL_len] at h1 h3
    simp only [Value.slice.injEq] at h1
    obtain ⟨rfl, _, rfl⟩ := h1
    refine ⟨b, off, rfl, h3, fun i hi => ?_⟩
    obtain ⟨sx, h5, h6⟩ := h4 i _ (nearL_at hi)
    obtain ⟨px, cx, rfl⟩ := h6.len
    exact ⟨px, cx, h5, h6⟩
theorem degs_open {n : Nat} {w : World} {p : Option Addr} {c N : Nat} {l : List Ed} (h : Ints n w (.slice p N c) (degL N l l.length)) {j : Nat} (hj : j < N) :
    ∃ b off, p = some ⟨b, off, none⟩ ∧ N ≤ c ∧ w.cell? ⟨b, off + j, none⟩ = some (.int .i64 ((nb l (j : Int)).length : Int)) := by
  rcases h with ⟨_, h0⟩ | ⟨b, off, cap, h1, h2, h3, h4⟩
  · have := congrArg List.length h0; rw [degL_len] at this; simp at this; omega
  · rw [degL_len] at h1 h3
    simp only [Value.slice.injEq] at h1
    obtain ⟨rfl, _, rfl⟩ := h1
    exact ⟨b, off, rfl, h3, h4 j _ (degL_full hj)⟩

set_option maxRecDepth 100000 in
set_option maxHeartbeats 8000000 in
theorem hands_walk (n : Int) (l : List Ed) (sv : Value) (w : World) (hl : Edges w.heap.size w sv l) :
    Calls Try.prog 8 #[.agg #[.int .i64 n, sv]] w fun r w' => r = .returned (.bool true) ∧ Below w.heap.size w w' := by
  have hmix := mixed
  have hg1 : Grew w (w.alloc (.cells #[.int .i64 n, sv] 24)) := (Grew.refl w).alloc _
  have hl1 := hl.go hg1.below
  obtain ⟨p, c, rfl⟩ := hl.len
  have hlt := light_any n l 300 (by omega) (by omega) _ _ hl1
  by_cases hli : lightB n l 300 = true
  · rw [hli] at hlt
    obtain ⟨hn300, hl300⟩ := lightB_true hli
    have hrc := right_any n l (.slice p l.length c)
    by_cases hr : rightK n l = 0
    · have hR := right_iff.1 hr
      rw [hr] at hrc
      obtain ⟨N, rfl⟩ : ∃ N : Nat, n = (N : Int) := ⟨n.toNat, by have := hR.n0; omega⟩
      have HDS : Hid (degS l N = 2 * l.length) := degS_all fun e he => (hR.each e he).1
      have hN3 : N ≤ 300 := by omega
      go_enter Try.func8, Try.ntmps8
      go_wp2_with fail
      refine hlt.mono ?_
      rintro e w2 ⟨rfl, hg2⟩
      have hl2 := hl1.go hg2.below
      have q0 := (box2 _ hg2).1
      have q1 := (box2 _ hg2).2
      clear hlt
      go_wp2_with fail
      refine (hrc _ hl2).mono ?_
      rintro e w3 ⟨rfl, hg3⟩
      replace q0 := cell_keep hg3.below q0
      replace q1 := cell_keep hg3.below q1
      have hbw := ((hg1.trans hg2).trans hg3).below
      have hl3 := hl2.go hg3.below
      clear hrc hl1 hl2 hg2 hg3 hr hg1
      have hD : ∀ W', Below w3.heap.size w3 W' → Calls Try.prog 18 #[.agg #[.int .i64 (N : Int), .slice p l.length c]] W' fun r w' => ∃ dv, r = .returned dv ∧ Ints w'.heap.size w' dv (degL N l l.length) ∧ Below W'.heap.size W' w' := fun W' h => (degrees_any N l hR _ W' (hl3.go h)).mono fun _ _ ⟨dv, h1, h2, _, h3⟩ => ⟨dv, h1, h2, h3⟩
      have hE : ∀ W', Below w3.heap.size w3 W' → Calls Try.prog 17 #[.agg #[.int .i64 (N : Int), .slice p l.length c]] W' fun r w' => ∃ nv, r = .returned nv ∧ Lsts w'.heap.size w' nv (nearL N l) ∧ Below W'.heap.size W' w' := fun W' h => near_any N l hR _ W' (hl3.go h)
      have hb0 := Below.refl w3.heap.size w3
      go_wp2
      go_region_held3 (fun w' => w'.cell? ⟨w.heap.size, 0, none⟩ = some (.int .i64 (N : Int)) ∧ w'.cell? ⟨w.heap.size, 1, none⟩ = some (.slice p l.length c) ∧ Below w3.heap.size w3 w') (((try go_split_ands); refine ⟨?_, ?_, ?_⟩ <;> first | assumption | (simp only [World.cell?_drew]; assumption) | exact below_drew1 (by assumption) | exact cell_keep hbN (by assumption) | exact below_keep hbN (by assumption) (Nat.le_refl _) | exact cell_keep hbD (by assumption) | exact below_keep hbD (by assumption) (Nat.le_refl _))) (first | (go_at_call 18; refine (hD _ (by go_split_ands; assumption)).mono ?_; rintro e wD ⟨dv, rfl, hdI, hbD⟩; obtain ⟨pd, cd, hdv⟩ := hdI.len; rw [degL_len] at hdv; subst hdv) | (go_at_call 17; refine (hE _ (by go_split_ands; assumption)).mono ?_; rintro e wN ⟨nv, rfl, hnL, hbN⟩; obtain ⟨pn, cn, hnv⟩ := hnL.len; rw [nearL_len] at hnv; subst hnv))
      go_split_ands
      rename_i x0 x1 hb4
      have hbw4 := below_keep hb4 hbw (Nat.le_refl _)
      have hdX : Ints wN.heap.size wN (.slice pd N cd) (degL N l l.length) := hdI.go hbN
      clear hdI hbD hbN hD hE hb0 hl3 q0 q1 hbw hb4
      go_wp2
      go_loopw [5, 6] (fun s i wr => ∃ u : Nat, u ≤ N ∧ i = .int .i64 u ∧ s = .int .i64 ((degS l u : Nat) : Int) ∧ wr = wN) (fun _ i _ => N - (intOf i).toNat)
      case atStart => exact ⟨0, Nat.zero_le _, rfl, rfl, rfl⟩
      case round =>
        obtain ⟨u, hu, rfl, rfl, hwr⟩ := hrel
        subst hwr
        by_cases hlt : u < N
        · obtain ⟨bd, offd, rfl, hcd, c0⟩ := degs_open hdX hlt
          obtain ⟨bn, offn, rfl, hcn, hrows⟩ := hnL.open hlt
          obtain ⟨pu, cu, r0, hIu⟩ := hrows u hlt
          have HRows : Hid _ := hrows
          have hul : (u : Int) < (N : Int) := by omega
          have HS : Hid (degS l (u + 1) = degS l u + (nb l (u : Int)).length) := degS_succ l u
          have hbd1 : degS l u + (nb l (u : Int)).length ≤ 2400 := by
            have h1 := degS_le (l := l) (v := u + 1) (n := N) (by omega)
            rw [HDS.out, HS.out] at h1
            omega
          have HMu : Hid (∀ y, y ∈ nb l (u : Int) → (u : Int) ∈ nb l y ∧ 0 ≤ y ∧ y < (N : Int) ∧ y ≠ (u : Int)) := fun y hy => nb_mutual hR hy
          have HRi : Hid ((nb l (u : Int)).Pairwise (· < ·)) := nb_rise hR _
          have HLn : Hid (∀ x, (nb l x).length ≤ 4194304) := fun x => by have := nb_len x l; omega
          have HSn : Hid (Value.int .i64 (((degS l u : Nat) : Int) + (((nb l (u : Int)).length : Nat) : Int)) = .int .i64 ((degS l (u + 1) : Nat) : Int)) := by
            unfold Hid; rw [HS.out]; simp
          generalize degS l u = du at *
          generalize hnb : nb l (u : Int) = L at *
          clear hrows hdX
          go_wp2
          go_loopw [7] (fun i w5 => ∃ k : Nat, k ≤ L.length ∧ i = .int .i64 k ∧ w5 = wr) (fun i _ => L.length - (intOf i).toNat)
          case atStart => exact ⟨0, Nat.zero_le _, rfl, rfl⟩
          case round =>
            obtain ⟨k, hk, rfl, hw5⟩ := hrel
            subst hw5
            by_cases hkl : k < L.length
            · obtain ⟨bu, offu, rfl, hbu, hcu, hcell⟩ := hIu.open hkl
              have c1 := hcell _ (Below.refl _ _) k hkl
              have hkI : (k : Int) < (L.length : Int) := by omega
              obtain ⟨hm1, hm2, hm3, hm4⟩ := HMu.out L[k] (List.getElem_mem hkl)
              obtain ⟨v, hv⟩ : ∃ v : Nat, L[k] = (v : Int) := ⟨L[k].toNat, by omega⟩
              rw [hv] at c1 hm1 hm2 hm3 hm4
              have hvN : v < N := by omega
              obtain ⟨pv, cv, rv, hIv⟩ := HRows.out v hvN
              have hhas := has_any (nb l (v : Int)) (HLn.out _) (u : Int) (.slice pv (nb l (v : Int)).length cv) _ _ hIv
              rw [inB_true.2 hm1] at hhas
              have hd2 : decide ((N : Int) ≤ (v : Int)) = false := by simp; omega
              have hd3 : ((v : Int) == (u : Int)) = false := by simp; omega
              have hd4 : decide ((v : Int) < 0) = false := by simp
              have HC : Hid _ := hcell
              have HV : Hid _ := hv
              generalize (nb l (v : Int)).length = lv at rv hhas
              clear hcell hm1 hm4 hIv hv
              by_cases hk0 : k = 0
              · subst hk0
                rw [Nat.add_zero] at c1
                go_wp2_with fail
                refine hhas.mono ?_
                rintro e w6 ⟨rfl, rfl⟩
                go_wp2
                exact ⟨⟨1, by omega, by go_num, by first | rfl | trivial⟩, by simp [intOf]; omega⟩
              · obtain ⟨m, rfl⟩ : ∃ m, k = m + 1 := ⟨k - 1, by omega⟩
                have c2 := HC.out _ (Below.refl _ _) m (by omega)
                have hrise : L[m] < (v : Int) := by
                  have h := List.pairwise_iff_getElem.1 HRi.out m (m + 1) (by omega) hkl (by omega)
                  rw [HV.out] at h
                  exact h
                have hd5 : decide ((v : Int) ≤ L[m]) = false := by simp; omega
                generalize L[m] = y at *
                go_wp2_with fail
                refine hhas.mono ?_
                rintro e w6 ⟨rfl, rfl⟩
                go_wp2
                exact ⟨⟨m + 2, by omega, by go_num, by first | rfl | trivial⟩, by simp [intOf]; omega⟩
            · obtain rfl : k = L.length := by omega
              go_wp2
              exact ⟨⟨u + 1, by omega, by go_num, HSn.out, by first | rfl | trivial⟩, by simp [intOf]; omega⟩
        · obtain rfl : u = N := by omega
          have hS2 : Hid (((degS l u : Nat) : Int) = 2 * (l.length : Int)) := by unfold Hid; rw [HDS.out]; simp
          have heq : (((degS l u : Nat) : Int) == 2 * (l.length : Int)) = true := by rw [hS2.out]; simp
          have hds : degS l u ≤ 2400 := by have := HDS.out; omega
          generalize ((degS l u : Nat) : Int) = sm at *
          go_wp2_with fail
          refine (alive_any _).mono ?_
          rintro e w6 ⟨rfl, hb6⟩
          go_wp2
          go_ret
          exact ⟨rfl, below_keep hb6 hbw4 (Nat.le_refl _)⟩
    · have hk : (rightK n l == 0) = false := by simpa using hr
      generalize rightK n l = k at hrc hk
      clear hr
      go_enter Try.func8, Try.ntmps8
      go_wp2_with fail
      refine hlt.mono ?_
      rintro e w2 ⟨rfl, hg2⟩
      have hl2 := hl1.go hg2.below
      have q0 := (box2 _ hg2).1
      have q1 := (box2 _ hg2).2
      clear hlt
      go_wp2_with fail
      refine (hrc _ hl2).mono ?_
      rintro e w3 ⟨rfl, hg3⟩
      clear hrc
      go_wp2_with fail
      refine (alive_any _).mono ?_
      rintro e w4 ⟨rfl, hb4⟩
      go_wp2
      go_ret
      exact ⟨rfl, below_keep hb4 ((hg1.trans hg2).trans hg3).below (Nat.le_refl _)⟩
  · rw [Bool.not_eq_true] at hli
    rw [hli] at hlt
    go_enter Try.func8, Try.ntmps8
    go_wp2_with fail
    refine hlt.mono ?_
    rintro e w2 ⟨rfl, hg2⟩
    go_wp2_with fail
    refine (alive_any _).mono ?_
    rintro e w3 ⟨rfl, hb3⟩
    go_wp2
    go_ret
    exact ⟨rfl, below_keep hb3 (hg1.trans hg2).below (Nat.le_refl _)⟩

end Go.Proofs.Ytkniphmjiepkaaa
