/-
  The walk of KuratowskiLeast.
-/
import Derived.Test.YtgjaikekpgdehaaXKSrc
import Derived.Test.YtgjaikekpgdehaaQC
import Derived.Test.YtgjaikekpgdehaaQD
import Derived.Test.YtgjaikekpgdehaaXGHeldL
namespace Go.Proofs.Ytgjaikekpgdehaa
open Go Go.Proofs Go.RowKit

set_option maxRecDepth 100000 in
set_option maxHeartbeats 4000000 in
theorem least_walk (n : Int) (l : List Ed) (a : List Int) (at' more : Int) (sv av : Value) (w : World) (hl : Edges w.heap.size w sv l) (hA : Ints w.heap.size w av a) :
    Calls Try.prog 5 #[.agg #[.int .i64 n, sv], av, .int .i64 at', .int .i64 more] w fun r w' => r = .returned (.bool true) ∧ Below w.heap.size w w' := by
  have hmix := mixed
  obtain ⟨p, q, rfl⟩ := hl.len
  obtain ⟨pa, ca, rfl⟩ := hA.len
  have hg1 : Grew w (w.alloc (.cells #[.int .i64 n, .slice p l.length q] 24)) := (Grew.refl w).alloc _
  have q0 := (box2 _ (Grew.refl (w.alloc (.cells #[.int .i64 n, .slice p l.length q] 24)))).1
  have q1 := (box2 _ (Grew.refl (w.alloc (.cells #[.int .i64 n, .slice p l.length q] 24)))).2
  have hlt := light_any n l 30 (by omega) (by omega) (.slice p l.length q) _ (hl.go hg1.below)
  cases hli : lightB n l 30 with
  | false =>
    rw [hli] at hlt
    go_enter Try.func5, Try.ntmps5
    go_wp2_with fail
    refine hlt.mono ?_
    rintro e w2 ⟨rfl, hg2⟩
    go_wp2_with fail
    refine (alive_any _).mono ?_
    rintro e w3 ⟨rfl, hb3⟩
    go_wp2
    go_ret
    exact ⟨rfl, (hg1.trans hg2).below.trans (hb3.mono (hg1.trans hg2).below.size)⟩
  | true =>
    rw [hli] at hlt
    by_cases h1 : (100 : Int) < (a.length : Int)
    · go_enter Try.func5, Try.ntmps5
      go_wp2_with fail
      refine hlt.mono ?_
      rintro e w2 ⟨rfl, hg2⟩
      go_wp2_with fail
      refine (alive_any _).mono ?_
      rintro e w3 ⟨rfl, hb3⟩
      go_wp2
      go_ret
      exact ⟨rfl, (hg1.trans hg2).below.trans (hb3.mono (hg1.trans hg2).below.size)⟩
    · have h1d : decide ((100 : Int) < (a.length : Int)) = false := by simp; omega
      have HCK : Hid (∀ (b : List Int) (bv : Value), b.length ≤ 101 → ∀ W, Below w.heap.size w W → Ints W.heap.size W bv b → Calls Try.prog 14 #[.agg #[.int .i64 n, .slice p l.length q], bv] W fun r w' => r = .returned (.int .i64 (clsK n l b)) ∧ Below W.heap.size W w') := fun b bv hb W hW hI => check_any n l b (by omega) _ bv W (hl.go hW) hI
      have ha100 : a.length ≤ 100 := by omega
      have HA : Hid _ := hA
      go_enter Try.func5, Try.ntmps5
      go_wp2_with fail
      refine hlt.mono ?_
      rintro e w1 ⟨rfl, hg2⟩
      clear q0 q1
      have q0 := (box2 _ hg2).1
      have q1 := (box2 _ hg2).2
      have hB1 := (hg1.trans hg2).below
      have hck := HCK.out a _ (by omega) w1 hB1 (hA.go hB1)
      clear hlt hg1 hg2 hl hA
      go_wp2_with fail
      refine hck.mono ?_
      rintro e w2 ⟨rfl, hb2⟩
      have hB2 := hB1.trans (hb2.mono hB1.size)
      have q0 := cell_keep hb2 q0
      have q1 := cell_keep hb2 q1
      clear hck hb2 hB1
      by_cases hk : clsK n l a = 0
      · have h9 := wit_nine hk
        rw [hk]
        have HK : Hid _ := hk
        clear hk
        by_cases hat : 0 ≤ at' ∧ at' < (a.length : Int)
        · obtain ⟨i, rfl⟩ : ∃ i : Nat, at' = (i : Int) := ⟨at'.toNat, by omega⟩
          have hi : i < a.length := by omega
          obtain ⟨b, off, rfl, hbb, hcap, -⟩ := Vals.open HA.out hi
          have hIA := HA.out
          have ht9 : decide ((a.length : Int) < 9) = false := by simp; omega
          have ht9' : decide (a.length < 9) = false := by simp; omega
          have hi0 : decide ((i : Int) < 0) = false := by simp
          have hil : decide ((a.length : Int) ≤ (i : Int)) = false := by simp; omega
          have hil' : decide (a.length ≤ i) = false := by simp; omega
          obtain ⟨qd, hsd, hqd⟩ := slice_from b off a.length ca (i + 1) (by omega) hcap (by omega)
          have hst := slice_to b off a.length ca i (by omega) hcap (by omega)
          have HTK : Hid (Ints w.heap.size w (.slice (some ⟨b, off, none⟩) i ca) (a.take i)) := by
            have := ints_take hIA (k := i) (by omega)
            rwa [show (a.take i).length = i by simp; omega] at this
          have HDR : Hid (Ints w.heap.size w (.slice qd (a.length - (i + 1)) (ca - (i + 1))) (a.drop (i + 1))) := by
            have := ints_drop hIA (k := i + 1) hqd (by omega)
            rwa [show (a.drop (i + 1)).length = a.length - (i + 1) by simp] at this
          have hsd' : ∀ W : World, (Instr.sliceAt 25 (.slice (some ⟨b, off, none⟩) a.length ca) (some (.int .i64 ((i : Int) + 1))) none none).run Try.prog W = .ok (.slice qd (a.length - (i + 1)) (ca - (i + 1))) W := hsd
          have HLS : Hid _ := wit_less HK.out hi
          have HTL : Hid ((a.take i).length = i ∧ (a.drop (i + 1)).length = a.length - (i + 1)) := ⟨by simp; omega, by simp⟩
          obtain ⟨T, hT⟩ : ∃ T, T = a.take i := ⟨_, rfl⟩
          obtain ⟨D, hD⟩ : ∃ D, D = a.drop (i + 1) := ⟨_, rfl⟩
          rw [← hT, ← hD] at HTL HLS
          rw [← hT] at HTK
          rw [← hD] at HDR
          obtain ⟨Z, hZ⟩ : ∃ Z, T ++ D = Z := ⟨_, rfl⟩
          rw [hZ] at HLS
          have HZ : Hid (T ++ D = Z) := hZ
          have HZL : Hid (Z.length ≤ 101) := by unfold Hid; rw [← hZ, List.length_append, HTL.out.1, HTL.out.2]; omega
          clear hT hD hZ
          have HMR : Hid _ := wit_more HK.out more
          obtain ⟨Y, hY⟩ : ∃ Y, a ++ [more] = Y := ⟨_, rfl⟩
          rw [hY] at HMR
          have HY : Hid (a ++ [more] = Y) := hY
          have HYL : Hid (Y.length ≤ 101) := by unfold Hid; rw [← hY]; simp; omega
          clear hY
          have hwr : IntKind.i64.wrap ((i : Int) + 1) = (i : Int) + 1 := wrap_i _ (by omega) (by omega)
          clear hsd hqd
          have HI : Hid (i < a.length) := hi
          clear hi hat h9 h1 hIA hbb hcap
          go_wp2_with fail
          have hbd : Below w2.heap.size w2 w2.drew := below_drewN (Below.refl _ _) 1
          have hB5 := hB2.trans (hbd.mono hB2.size)
          have q0 := cell_keep hbd q0
          have q1 := cell_keep hbd q1
          refine wp_region_last (S := (fun w' : World => Below w2.drew.heap.size w2.drew w')) (by kernel_rfl) ?_ (fun hHeld => ?_)
          · exact Below.refl _ _
          refine wpAnyL_take (i := 1) (v := ?_) rfl (by kernel_rfl) (by kernel_rfl) (by kernel_rfl) (by kernel_rfl) (fun _ _ _ h => h) (Or.inl ⟨by rfl, ?_⟩) (by assumption) ?_
          rotate_left
          · intro w hSw; (try dsimp only at hSw); go_simp; (try with_reducible rfl)
          try simp only [Act.put, List.setIfInBounds_toArray]
          refine wpAnyL_take (i := 2) (v := ?_) rfl (by kernel_rfl) (by kernel_rfl) (by kernel_rfl) (by kernel_rfl) (fun _ _ _ h => h) (Or.inl ⟨by rfl, ?_⟩) (by assumption) ?_
          rotate_left
          · intro w hSw; (try dsimp only at hSw); go_simp; (try with_reducible rfl)
          try simp only [Act.put]
          refine wpAnyL_take (i := 3) (v := ?_) rfl (by kernel_rfl) (by kernel_rfl) (by kernel_rfl) (by kernel_rfl) (fun _ _ _ h => h) (Or.inl ⟨by rfl, ?_⟩) (by assumption) ?_
          rotate_left
          · intro w hSw; (try dsimp only at hSw); go_simp; (try with_reducible rfl)
          try simp only [Act.put]
          try simp only [List.getElem_toArray, List.getElem_cons_zero, List.getElem_cons_succ, List.setIfInBounds_toArray, List.set_cons_zero, List.set_cons_succ]
          refine wpAnyL_take (i := 5) (v := ?_) rfl (by kernel_rfl) (by kernel_rfl) (by kernel_rfl) (by kernel_rfl) (fun _ _ _ h => h) (Or.inl ⟨by rfl, ?_⟩) (by assumption) ?_
          rotate_left
          · intro w hSw; (try dsimp only at hSw); go_simp; (try with_reducible rfl)
          try simp only [Act.put]
          refine wpAnyL_take (i := 6) (v := ?_) rfl (by kernel_rfl) (by kernel_rfl) (by kernel_rfl) (by kernel_rfl) (fun _ _ _ h => h) (Or.inl ⟨by rfl, ?_⟩) (by assumption) ?_
          rotate_left
          · intro w hSw; (try dsimp only at hSw); go_simp; (try with_reducible rfl)
          try simp only [Act.put]
          refine wpAnyL_take (i := 7) (v := ?_) rfl (by kernel_rfl) (by kernel_rfl) (by kernel_rfl) (by kernel_rfl) (fun _ _ _ h => h) (Or.inl ⟨by rfl, ?_⟩) (by assumption) ?_
          rotate_left
          · intro w hSw; (try dsimp only at hSw); go_simp; (try with_reducible rfl)
          try simp only [Act.put]
          refine wpAnyL_take (i := 8) (v := ?_) rfl (by kernel_rfl) (by kernel_rfl) (by kernel_rfl) (by kernel_rfl) (fun _ _ _ h => h) (Or.inl ⟨by rfl, ?_⟩) (by assumption) ?_
          rotate_left
          · intro w hSw; (try dsimp only at hSw); go_simp; (try with_reducible rfl)
          try simp only [Act.put]
          try simp only [List.getElem_toArray, List.getElem_cons_zero, List.getElem_cons_succ, List.setIfInBounds_toArray, List.set_cons_zero, List.set_cons_succ]
          clear hbd hB2
          generalize w2.drew = w5 at *
          have hbA : Below w5.heap.size w5 (w5.alloc (.cells #[] 3)) := (Below.refl _ _).alloc (Nat.le_refl _) _
          have hoA := own0K w5
          refine wpAnyL_ready (rs := [0]) (by kernel_rfl) (by simp) ?_
          refine AllReadyL.cons rfl (fun K hK => ?_) AllReadyL.nil
          go_simp
          refine hK.out _ _ hbA (fun hHeld6 => ?_)
          clear hK K
          try simp only [Act.put, List.setIfInBounds_toArray, List.set_cons_zero, List.set_cons_succ]
          have hTK : Src (w5.alloc (.cells #[] 3)) (.slice (some ⟨b, off, none⟩) i ca) T.length 1 (T.map (Value.int .i64)) := by
            exact Src.intsM HTL.out.1 (Vals.go (Vals.go HTK.out hB5) hbA)
          refine wpAnyL_ready (rs := [4]) (by kernel_rfl) (by simp) ?_
          refine AllReadyL.cons rfl (fun K hK => ?_) AllReadyL.nil
          refine step_appK rfl _ _ rfl w5 hHeld6 [] (.slice (some ⟨w5.heap.size, 0, none⟩) 0 0) rfl hoA T (.slice (some ⟨b, off, none⟩) i ca) rfl hTK T rfl (by have := HI.out; have := HTL.out.1; simp; omega) ?_
          intro p6 c6 w6 ho6 hb6 hg6
          refine hK.out _ _ hb6 (fun hHeld7 => ?_)
          clear hK K hoA hTK hbA hHeld6 hHeld hg6
          try simp only [Act.put, List.setIfInBounds_toArray]
          have hDR : Src w6 (.slice qd (a.length - (i + 1)) (ca - (i + 1))) D.length 1 (D.map (Value.int .i64)) := by
            exact Src.intsM HTL.out.2 (Vals.go (Vals.go HDR.out hB5) hb6)
          refine wpAnyL_ready (rs := [9]) (by kernel_rfl) (by simp) ?_
          refine AllReadyL.cons rfl (fun K hK => ?_) AllReadyL.nil
          refine step_appK rfl _ _ rfl w5 hb6 T (.slice p6 T.length c6) rfl ho6 D (.slice qd (a.length - (i + 1)) (ca - (i + 1))) rfl hDR Z HZ.out (by have := HI.out; have := HTL.out.1; have := HTL.out.2; omega) ?_
          intro p7 c7 w7 ho7 hb7 hg7
          refine hK.out _ _ hb7 (fun hHeld8 => ?_)
          clear hK K ho6 hDR hHeld7 hg7 hb6
          try simp only [Act.put]
          refine wpAnyL_ready (rs := [10]) (by kernel_rfl) (by simp) ?_
          refine AllReadyL.cons rfl (fun K hK => ?_) AllReadyL.nil
          go_simp
          refine hK.out _ _ hb7 (fun hHeld9 => ?_)
          clear hK K hHeld8 hHeld9
          try simp only [Act.put, List.setIfInBounds_toArray, List.set_cons_zero, List.set_cons_succ]
          refine wpAnyL_done (by kernel_rfl) ?_ _
          try simp only [List.getElem_toArray, List.getElem_cons_zero, List.getElem_cons_succ, List.setIfInBounds_toArray, List.set_cons_zero, List.set_cons_succ]
          have hB7 := hB5.trans (hb7.mono hB5.size)
          have q0 := cell_keep hb7 q0
          have q1 := cell_keep hb7 q1
          have hck := HCK.out Z _ HZL.out w7 hB7 (owns_intsK ho7)
          rw [HLS.out] at hck
          clear hst HTK HDR hsd' HLS hwr hB5 hb7 ho7 hi0 hil hil' ht9 ht9'
          clear HZ HZL HTL
          generalize Z.length = m7 at *
          go_wp2_with fail
          refine hck.mono ?_
          rintro e w8 ⟨rfl, hb8⟩
          have hB8 := hB7.trans (hb8.mono hB7.size)
          have q0 := cell_keep hb8 q0
          have q1 := cell_keep hb8 q1
          clear hck hb8 hB7
          go_wp2_with fail
          have hbd : Below w8.heap.size w8 w8.drew := below_drewN (Below.refl _ _) 1
          have hB9 := hB8.trans (hbd.mono hB8.size)
          have q0 := cell_keep hbd q0
          have q1 := cell_keep hbd q1
          refine wp_region_last (S := (fun w' : World => w'.cell? ⟨w.heap.size, 0, none⟩ = some (.int .i64 n) ∧ w'.cell? ⟨w.heap.size, 1, none⟩ = some (.slice p l.length q) ∧ Below w8.drew.heap.size w8.drew w')) (by kernel_rfl) ?_ (fun hHeld => ?_)
          · exact ⟨q0, q1, Below.refl _ _⟩
          refine wpAnyL_take (i := 0) (v := ?_) rfl (by kernel_rfl) (by kernel_rfl) (by kernel_rfl) (by kernel_rfl) (fun _ _ _ h => h) (Or.inl ⟨by rfl, ?_⟩) (by assumption) ?_
          rotate_left
          · intro w hSw; (try dsimp only at hSw); go_simp; (try with_reducible rfl)
          try simp only [Act.put, List.setIfInBounds_toArray]
          refine wpAnyL_take (i := 2) (v := ?_) rfl (by kernel_rfl) (by kernel_rfl) (by kernel_rfl) (by kernel_rfl) (fun _ _ _ h => h) (Or.inl ⟨by rfl, ?_⟩) (by assumption) ?_
          rotate_left
          · intro w hSw; (try dsimp only at hSw); go_simp; (try with_reducible rfl)
          try simp only [Act.put]
          refine wpAnyL_take (i := 4) (v := ?_) rfl (by kernel_rfl) (by kernel_rfl) (by kernel_rfl) (by kernel_rfl) (fun _ _ _ h => h) (Or.inl ⟨by rfl, ?_⟩) (by assumption) ?_
          rotate_left
          · intro w hSw; (try dsimp only at hSw); go_simp; (try with_reducible rfl)
          try simp only [Act.put]
          try simp only [List.getElem_toArray, List.getElem_cons_zero, List.getElem_cons_succ, List.setIfInBounds_toArray, List.set_cons_zero, List.set_cons_succ]
          clear hbd hB8
          generalize w8.drew = w9 at *
          have keep : ∀ W, Below w9.heap.size w9 W → W.cell? ⟨w.heap.size, 0, none⟩ = some (.int .i64 n) ∧ W.cell? ⟨w.heap.size, 1, none⟩ = some (.slice p l.length q) ∧ Below w9.heap.size w9 W := fun W hW => ⟨cell_keep hW q0, cell_keep hW q1, hW⟩
          have HKEEP : Hid _ := keep
          have HIA : Hid (∀ W, Below w9.heap.size w9 W → Src W (.slice (some ⟨b, off, none⟩) a.length ca) a.length 1 (a.map (Value.int .i64))) := fun W hW => Src.intsK (Vals.go (Vals.go HA.out hB9) hW)
          clear keep
          refine wpAnyL_ready (rs := [1, 5]) (by kernel_rfl) (by simp) ?_
          refine AllReadyL.cons rfl (fun K hK => ?_) (AllReadyL.cons rfl (fun K hK => ?_) AllReadyL.nil)
          · go_simp
            refine hK.out _ _ (HKEEP.out _ ((Below.refl _ _).alloc (Nat.le_refl _) _)) (fun hHeld6 => ?_)
            clear hK K
            refine wpAnyL_ready (rs := [3, 5]) (by kernel_rfl) (by simp) ?_
            refine AllReadyL.cons rfl (fun K hK => ?_) (AllReadyL.cons rfl (fun K hK => ?_) AllReadyL.nil)
            · refine step_appK rfl _ _ rfl w9 hHeld6.2.2 [] (.slice (some ⟨w9.heap.size, 0, none⟩) 0 0) rfl (own0K w9) a (.slice (some ⟨b, off, none⟩) a.length ca) rfl (HIA.out _ hHeld6.2.2) a rfl (by simp; omega) ?_
              intro pA cA wA hoA hbA hgA
              refine hK.out _ _ (HKEEP.out _ hbA) (fun hHeld7 => ?_)
              clear hK K
              refine wpAnyL_ready (rs := [5]) (by kernel_rfl) (by simp) ?_
              refine AllReadyL.cons rfl (fun K hK => ?_) AllReadyL.nil
              go_simp
              refine hK.out _ _ (HKEEP.out _ (hbA.alloc hbA.size _)) (fun hHeld5 => ?_)
              clear hK K
              refine wpAnyL_ready (rs := [6]) (by kernel_rfl) (by simp) ?_
              refine AllReadyL.cons rfl (fun K hK => ?_) AllReadyL.nil
              refine step_appK rfl _ _ rfl w9 hHeld5.2.2 a (.slice pA a.length cA) rfl (hoA.alloc _) [more] (.slice (some ⟨wA.heap.size, 0, none⟩) 1 1) rfl (one_srcK wA more) Y HY.out (by simp; omega) ?_
              intro pB cB wB hoB hbB hgB
              refine hK.out _ _ (HKEEP.out _ hbB) (fun hHeldB => ?_)
              clear hK K
              obtain ⟨o1, o2⟩ : Below w.heap.size w wB ∧ Ints wB.heap.size wB (.slice pB Y.length cB) Y := ⟨hB9.trans (hbB.mono hB9.size), owns_intsK hoB⟩
              have hck := HCK.out Y _ HYL.out wB o1 o2
              clear hoB hgB o2
              refine wpAnyL_ready (rs := [7]) (by kernel_rfl) (by simp) ?_
              refine AllReadyL.cons rfl (fun K hK => ?_) AllReadyL.nil
              go_simp
              refine hck.mono ?_
              rintro e wC ⟨rfl, hbC⟩
              refine hK.out _ _ (HKEEP.out _ (hbB.trans (hbC.mono hbB.size))) (fun hHeldC => ?_)
              clear hK K hck hHeldB
              have o3 := o1.trans (hbC.mono o1.size)
              clear hbC o1
              refine wpAnyL_ready (rs := [8]) (by kernel_rfl) (by simp) ?_
              refine AllReadyL.cons rfl (fun K hK => ?_) AllReadyL.nil
              go_simp
              refine hK.out _ _ hHeldC (fun hHeldD => ?_)
              clear hK K
              obtain ⟨q0, q1, -⟩ := hHeldC
              clear hHeldD
              refine wpAnyL_done (by kernel_rfl) ?_ _
              try simp only [Act.put, List.getElem_toArray, List.getElem_cons_zero, List.getElem_cons_succ, List.setIfInBounds_toArray, List.set_cons_zero, List.set_cons_succ]
              have hal := alive_any wC
              by_cases hm0 : more < 0
              · have e : clsK n l Y = 1 := by rw [HMR.out]; exact if_neg fun h => by omega
                have hm1 : decide (more < 0) = true := decide_eq_true hm0
                rw [e]
                clear hm0 HMR
                go_wp2_with fail
                refine hal.mono ?_
                rintro e wD ⟨rfl, hbD⟩
                have HBD : Hid (Below w.heap.size w wD) := o3.trans (hbD.mono o3.size)
                clear hbD hal
                go_wp2
                go_ret
                exact ⟨rfl, HBD.out⟩
              · have hm1 : decide (more < 0) = false := decide_eq_false hm0
                by_cases hmL : (l.length : Int) ≤ more
                · have e : clsK n l Y = 1 := by rw [HMR.out]; exact if_neg fun h => by omega
                  have hm2 : decide ((l.length : Int) ≤ more) = true := decide_eq_true hmL
                  rw [e]
                  clear hm0 hmL HMR
                  go_wp2_with fail
                  refine hal.mono ?_
                  rintro e wD ⟨rfl, hbD⟩
                  have HBD : Hid (Below w.heap.size w wD) := o3.trans (hbD.mono o3.size)
                  clear hbD hal
                  go_wp2
                  go_ret
                  exact ⟨rfl, HBD.out⟩
                · have hm2 : decide ((l.length : Int) ≤ more) = false := decide_eq_false hmL
                  have hhs := has_any a (by omega) more (.slice (some ⟨b, off, none⟩) a.length ca) wC.heap.size wC (Vals.go HA.out o3)
                  cases hin : inB a more with
                  | true =>
                    have e : clsK n l Y = 1 := by rw [HMR.out]; exact if_neg fun h => h.2.2 (inB_true.1 hin)
                    rw [e]
                    rw [hin] at hhs
                    clear hm0 hmL HMR hin
                    go_wp2_with fail
                    refine hhs.mono ?_
                    rintro e wE ⟨rfl, rfl⟩
                    clear hhs
                    go_wp2_with fail
                    refine hal.mono ?_
                    rintro e wD ⟨rfl, hbD⟩
                    have HBD : Hid (Below w.heap.size w wD) := o3.trans (hbD.mono o3.size)
                    clear hbD hal
                    go_wp2
                    go_ret
                    exact ⟨rfl, HBD.out⟩
                  | false =>
                    have e : clsK n l Y = 13 := by rw [HMR.out]; exact if_pos ⟨by omega, by omega, inB_false.1 hin⟩
                    rw [e]
                    rw [hin] at hhs
                    clear hm0 hmL HMR hin
                    go_wp2_with fail
                    refine hhs.mono ?_
                    rintro e wE ⟨rfl, rfl⟩
                    clear hhs
                    go_wp2_with fail
                    refine hal.mono ?_
                    rintro e wD ⟨rfl, hbD⟩
                    have HBD : Hid (Below w.heap.size w wD) := o3.trans (hbD.mono o3.size)
                    clear hbD hal
                    go_wp2
                    go_ret
                    exact ⟨rfl, HBD.out⟩
            · go_simp
              have hM := one_srcK (w9.alloc (.cells #[] 3)) more
              rw [World.size_alloc] at hM
              have hb5 : Below w9.heap.size w9 ((w9.alloc (.cells #[] 3)).alloc (.cells #[.int .i64 more] 3)) := ((Below.refl _ _).alloc (Nat.le_refl _) _).alloc (by simp) _
              refine hK.out _ _ (HKEEP.out _ hb5) (fun hHeld5 => ?_)
              clear hK K
              refine wpAnyL_ready (rs := [3]) (by kernel_rfl) (by simp) ?_
              refine AllReadyL.cons rfl (fun K hK => ?_) AllReadyL.nil
              refine step_appK rfl _ _ rfl w9 hHeld5.2.2 [] (.slice (some ⟨w9.heap.size, 0, none⟩) 0 0) rfl ((own0K w9).alloc _) a (.slice (some ⟨b, off, none⟩) a.length ca) rfl (HIA.out _ hHeld5.2.2) a rfl (by simp; omega) ?_
              intro pA cA wA hoA hbA hgA
              refine hK.out _ _ (HKEEP.out _ hbA) (fun hHeld7 => ?_)
              clear hK K
              have hM' := src_grown hM hgA (fun e => by simp [Value.ownBlock] at e)
              refine wpAnyL_ready (rs := [6]) (by kernel_rfl) (by simp) ?_
              refine AllReadyL.cons rfl (fun K hK => ?_) AllReadyL.nil
              refine step_appK rfl _ _ rfl w9 hHeld7.2.2 a (.slice pA a.length cA) rfl hoA [more] (.slice (some ⟨w9.heap.size + 1, 0, none⟩) 1 1) rfl hM' Y HY.out (by simp; omega) ?_
              intro pB cB wB hoB hbB hgB
              refine hK.out _ _ (HKEEP.out _ hbB) (fun hHeldB => ?_)
              clear hK K
              obtain ⟨o1, o2⟩ : Below w.heap.size w wB ∧ Ints wB.heap.size wB (.slice pB Y.length cB) Y := ⟨hB9.trans (hbB.mono hB9.size), owns_intsK hoB⟩
              have hck := HCK.out Y _ HYL.out wB o1 o2
              clear hoB hgB o2
              refine wpAnyL_ready (rs := [7]) (by kernel_rfl) (by simp) ?_
              refine AllReadyL.cons rfl (fun K hK => ?_) AllReadyL.nil
              go_simp
              refine hck.mono ?_
              rintro e wC ⟨rfl, hbC⟩
              refine hK.out _ _ (HKEEP.out _ (hbB.trans (hbC.mono hbB.size))) (fun hHeldC => ?_)
              clear hK K hck hHeldB
              have o3 := o1.trans (hbC.mono o1.size)
              clear hbC o1
              refine wpAnyL_ready (rs := [8]) (by kernel_rfl) (by simp) ?_
              refine AllReadyL.cons rfl (fun K hK => ?_) AllReadyL.nil
              go_simp
              refine hK.out _ _ hHeldC (fun hHeldD => ?_)
              clear hK K
              obtain ⟨q0, q1, -⟩ := hHeldC
              clear hHeldD
              refine wpAnyL_done (by kernel_rfl) ?_ _
              try simp only [Act.put, List.getElem_toArray, List.getElem_cons_zero, List.getElem_cons_succ, List.setIfInBounds_toArray, List.set_cons_zero, List.set_cons_succ]
              have hal := alive_any wC
              by_cases hm0 : more < 0
              · have e : clsK n l Y = 1 := by rw [HMR.out]; exact if_neg fun h => by omega
                have hm1 : decide (more < 0) = true := decide_eq_true hm0
                rw [e]
                clear hm0 HMR
                go_wp2_with fail
                refine hal.mono ?_
                rintro e wD ⟨rfl, hbD⟩
                have HBD : Hid (Below w.heap.size w wD) := o3.trans (hbD.mono o3.size)
                clear hbD hal
                go_wp2
                go_ret
                exact ⟨rfl, HBD.out⟩
              · have hm1 : decide (more < 0) = false := decide_eq_false hm0
                by_cases hmL : (l.length : Int) ≤ more
                · have e : clsK n l Y = 1 := by rw [HMR.out]; exact if_neg fun h => by omega
                  have hm2 : decide ((l.length : Int) ≤ more) = true := decide_eq_true hmL
                  rw [e]
                  clear hm0 hmL HMR
                  go_wp2_with fail
                  refine hal.mono ?_
                  rintro e wD ⟨rfl, hbD⟩
                  have HBD : Hid (Below w.heap.size w wD) := o3.trans (hbD.mono o3.size)
                  clear hbD hal
                  go_wp2
                  go_ret
                  exact ⟨rfl, HBD.out⟩
                · have hm2 : decide ((l.length : Int) ≤ more) = false := decide_eq_false hmL
                  have hhs := has_any a (by omega) more (.slice (some ⟨b, off, none⟩) a.length ca) wC.heap.size wC (Vals.go HA.out o3)
                  cases hin : inB a more with
                  | true =>
                    have e : clsK n l Y = 1 := by rw [HMR.out]; exact if_neg fun h => h.2.2 (inB_true.1 hin)
                    rw [e]
                    rw [hin] at hhs
                    clear hm0 hmL HMR hin
                    go_wp2_with fail
                    refine hhs.mono ?_
                    rintro e wE ⟨rfl, rfl⟩
                    clear hhs
                    go_wp2_with fail
                    refine hal.mono ?_
                    rintro e wD ⟨rfl, hbD⟩
                    have HBD : Hid (Below w.heap.size w wD) := o3.trans (hbD.mono o3.size)
                    clear hbD hal
                    go_wp2
                    go_ret
                    exact ⟨rfl, HBD.out⟩
                  | false =>
                    have e : clsK n l Y = 13 := by rw [HMR.out]; exact if_pos ⟨by omega, by omega, inB_false.1 hin⟩
                    rw [e]
                    rw [hin] at hhs
                    clear hm0 hmL HMR hin
                    go_wp2_with fail
                    refine hhs.mono ?_
                    rintro e wE ⟨rfl, rfl⟩
                    clear hhs
                    go_wp2_with fail
                    refine hal.mono ?_
                    rintro e wD ⟨rfl, hbD⟩
                    have HBD : Hid (Below w.heap.size w wD) := o3.trans (hbD.mono o3.size)
                    clear hbD hal
                    go_wp2
                    go_ret
                    exact ⟨rfl, HBD.out⟩
          · go_simp
            refine hK.out _ _ (HKEEP.out _ ((Below.refl _ _).alloc (Nat.le_refl _) _)) (fun hHeld6 => ?_)
            clear hK K
            have hM := one_srcK w9 more
            refine wpAnyL_ready (rs := [1]) (by kernel_rfl) (by simp) ?_
            refine AllReadyL.cons rfl (fun K hK => ?_) AllReadyL.nil
            go_simp
            have hb5 : Below w9.heap.size w9 ((w9.alloc (.cells #[.int .i64 more] 3)).alloc (.cells #[] 3)) := ((Below.refl _ _).alloc (Nat.le_refl _) _).alloc (by simp) _
            refine hK.out _ _ (HKEEP.out _ hb5) (fun hHeld5 => ?_)
            clear hK K
            have ho0 := own1K w9 (.cells #[.int .i64 more] 3)
            have hM2 := src_alloc hM (.cells #[] 3)
            refine wpAnyL_ready (rs := [3]) (by kernel_rfl) (by simp) ?_
            refine AllReadyL.cons rfl (fun K hK => ?_) AllReadyL.nil
            refine step_appK rfl _ _ rfl w9 hHeld5.2.2 [] (.slice (some ⟨w9.heap.size + 1, 0, none⟩) 0 0) rfl ho0 a (.slice (some ⟨b, off, none⟩) a.length ca) rfl (HIA.out _ hHeld5.2.2) a rfl (by simp; omega) ?_
            intro pA cA wA hoA hbA hgA
            refine hK.out _ _ (HKEEP.out _ hbA) (fun hHeld7 => ?_)
            clear hK K
            have hM' := src_grown hM2 hgA (fun e => by simp [Value.ownBlock] at e)
            refine wpAnyL_ready (rs := [6]) (by kernel_rfl) (by simp) ?_
            refine AllReadyL.cons rfl (fun K hK => ?_) AllReadyL.nil
            refine step_appK rfl _ _ rfl w9 hHeld7.2.2 a (.slice pA a.length cA) rfl hoA [more] (.slice (some ⟨w9.heap.size, 0, none⟩) 1 1) rfl hM' Y HY.out (by simp; omega) ?_
            intro pB cB wB hoB hbB hgB
            refine hK.out _ _ (HKEEP.out _ hbB) (fun hHeldB => ?_)
            clear hK K
            obtain ⟨o1, o2⟩ : Below w.heap.size w wB ∧ Ints wB.heap.size wB (.slice pB Y.length cB) Y := ⟨hB9.trans (hbB.mono hB9.size), owns_intsK hoB⟩
            have hck := HCK.out Y _ HYL.out wB o1 o2
            clear hoB hgB o2
            refine wpAnyL_ready (rs := [7]) (by kernel_rfl) (by simp) ?_
            refine AllReadyL.cons rfl (fun K hK => ?_) AllReadyL.nil
            go_simp
            refine hck.mono ?_
            rintro e wC ⟨rfl, hbC⟩
            refine hK.out _ _ (HKEEP.out _ (hbB.trans (hbC.mono hbB.size))) (fun hHeldC => ?_)
            clear hK K hck hHeldB
            have o3 := o1.trans (hbC.mono o1.size)
            clear hbC o1
            refine wpAnyL_ready (rs := [8]) (by kernel_rfl) (by simp) ?_
            refine AllReadyL.cons rfl (fun K hK => ?_) AllReadyL.nil
            go_simp
            refine hK.out _ _ hHeldC (fun hHeldD => ?_)
            clear hK K
            obtain ⟨q0, q1, -⟩ := hHeldC
            clear hHeldD
            refine wpAnyL_done (by kernel_rfl) ?_ _
            try simp only [Act.put, List.getElem_toArray, List.getElem_cons_zero, List.getElem_cons_succ, List.setIfInBounds_toArray, List.set_cons_zero, List.set_cons_succ]
            have hal := alive_any wC
            by_cases hm0 : more < 0
            · have e : clsK n l Y = 1 := by rw [HMR.out]; exact if_neg fun h => by omega
              have hm1 : decide (more < 0) = true := decide_eq_true hm0
              rw [e]
              clear hm0 HMR
              go_wp2_with fail
              refine hal.mono ?_
              rintro e wD ⟨rfl, hbD⟩
              have HBD : Hid (Below w.heap.size w wD) := o3.trans (hbD.mono o3.size)
              clear hbD hal
              go_wp2
              go_ret
              exact ⟨rfl, HBD.out⟩
            · have hm1 : decide (more < 0) = false := decide_eq_false hm0
              by_cases hmL : (l.length : Int) ≤ more
              · have e : clsK n l Y = 1 := by rw [HMR.out]; exact if_neg fun h => by omega
                have hm2 : decide ((l.length : Int) ≤ more) = true := decide_eq_true hmL
                rw [e]
                clear hm0 hmL HMR
                go_wp2_with fail
                refine hal.mono ?_
                rintro e wD ⟨rfl, hbD⟩
                have HBD : Hid (Below w.heap.size w wD) := o3.trans (hbD.mono o3.size)
                clear hbD hal
                go_wp2
                go_ret
                exact ⟨rfl, HBD.out⟩
              · have hm2 : decide ((l.length : Int) ≤ more) = false := decide_eq_false hmL
                have hhs := has_any a (by omega) more (.slice (some ⟨b, off, none⟩) a.length ca) wC.heap.size wC (Vals.go HA.out o3)
                cases hin : inB a more with
                | true =>
                  have e : clsK n l Y = 1 := by rw [HMR.out]; exact if_neg fun h => h.2.2 (inB_true.1 hin)
                  rw [e]
                  rw [hin] at hhs
                  clear hm0 hmL HMR hin
                  go_wp2_with fail
                  refine hhs.mono ?_
                  rintro e wE ⟨rfl, rfl⟩
                  clear hhs
                  go_wp2_with fail
                  refine hal.mono ?_
                  rintro e wD ⟨rfl, hbD⟩
                  have HBD : Hid (Below w.heap.size w wD) := o3.trans (hbD.mono o3.size)
                  clear hbD hal
                  go_wp2
                  go_ret
                  exact ⟨rfl, HBD.out⟩
                | false =>
                  have e : clsK n l Y = 13 := by rw [HMR.out]; exact if_pos ⟨by omega, by omega, inB_false.1 hin⟩
                  rw [e]
                  rw [hin] at hhs
                  clear hm0 hmL HMR hin
                  go_wp2_with fail
                  refine hhs.mono ?_
                  rintro e wE ⟨rfl, rfl⟩
                  clear hhs
                  go_wp2_with fail
                  refine hal.mono ?_
                  rintro e wD ⟨rfl, hbD⟩
                  have HBD : Hid (Below w.heap.size w wD) := o3.trans (hbD.mono o3.size)
                  clear hbD hal
                  go_wp2
                  go_ret
                  exact ⟨rfl, HBD.out⟩
        · have h9t : decide ((a.length : Int) < 9) = false := by simp; omega
          have h9t' : decide (a.length < 9) = false := by simp; omega
          have h9g : decide (9 ≤ (a.length : Int)) = true := by simp; omega
          have h9g' : decide (9 ≤ a.length) = true := by simp; omega
          have hal := alive_any w2
          by_cases hm0 : at' < 0
          · have hm1 : decide (at' < 0) = true := decide_eq_true hm0
            clear hm0 hat h9 h1
            go_wp2_with fail
            refine hal.mono ?_
            rintro e wD ⟨rfl, hbD⟩
            have HBD : Hid (Below w.heap.size w wD) := hB2.trans (hbD.mono hB2.size)
            clear hbD hal
            go_wp2
            go_ret
            exact ⟨rfl, HBD.out⟩
          · have hm1 : decide (at' < 0) = false := decide_eq_false hm0
            have hm2 : decide ((a.length : Int) ≤ at') = true := decide_eq_true (by omega)
            clear hm0 hat h9 h1
            go_wp2_with fail
            refine hal.mono ?_
            rintro e wD ⟨rfl, hbD⟩
            have HBD : Hid (Below w.heap.size w wD) := hB2.trans (hbD.mono hB2.size)
            clear hbD hal
            go_wp2
            go_ret
            exact ⟨rfl, HBD.out⟩
      · have hk' : (clsK n l a != 0) = true := by simpa using hk
        have hal := alive_any w2
        clear hk
        generalize clsK n l a = kk at *
        go_wp2_with fail
        refine hal.mono ?_
        rintro e wD ⟨rfl, hbD⟩
        have HBD : Hid (Below w.heap.size w wD) := hB2.trans (hbD.mono hB2.size)
        clear hbD hal
        go_wp2
        go_ret
        exact ⟨rfl, HBD.out⟩
end Go.Proofs.Ytgjaikekpgdehaa
