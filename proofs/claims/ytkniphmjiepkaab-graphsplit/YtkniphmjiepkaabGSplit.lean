/-
  The walk of filigreelaw04.GraphSplit.
-/
import Derived.Test.YtkniphmjiepkaabGSplBase
namespace Go.Proofs.Ytkniphmjiepkaab
open Go Go.Proofs Go.RowKit

theorem inA_at {t : List Bool} {j : Nat} (h : j < t.length) : inA t j = t[j] := by simp [inA, h]
theorem inA_far {t : List Bool} {j : Nat} (h : ¬ j < t.length) : inA t j = false := by simp [inA, h]

set_option maxRecDepth 100000 in
set_option maxHeartbeats 40000000 in
theorem split_walk (n : Int) (l : List Ed) (t : List Bool) (sv st : Value) (w : World) (hl : Edges w.heap.size w sv l) (hT : Bools w.heap.size w st t) :
    Calls Try.prog 4 #[.agg #[.int .i64 n, sv], st] w fun r w' => r = .returned (.bool true) ∧ Below w.heap.size w w' := by
  have hg1 : Grew w (w.alloc (.cells #[.int .i64 n, sv] 24)) := (Grew.refl w).alloc _
  have hl1 := hl.go hg1.below
  obtain ⟨p, c, rfl⟩ := hl.len
  obtain ⟨pt, ct, rfl⟩ := hT.len
  have hlt := light_any n l 200 (by omega) (by omega) _ _ hl1
  by_cases hli : lightB n l 200 = true
  · rw [hli] at hlt
    obtain ⟨hn200, hl200⟩ := lightB_true hli
    have hrc := right_any n l (.slice p l.length c)
    by_cases hr : rightK n l = 0
    · have hR := right_iff.1 hr
      obtain ⟨i0, hi, hz0, hz1, hz2⟩ := info_parts infoN
      have HW : Hid (SplitW n l (pl t true l.length) (pl t false l.length)) := split_w hr t
      have HL : Hid (SplitL n l (stayL n l (lessP (pl t true l.length))) (stayL n l (lessP (pl t false l.length))) (pl t false l.length)) := split_l hR t
      have HN : Hid (stayN n l = n) := if_pos hr
      rw [hr] at hrc
      go_enter Try.func4, Try.ntmps4
      go_wp2_with fail
      refine hlt.mono ?_
      rintro e w2 ⟨rfl, hg2⟩
      have hl2 := hl1.go hg2.below
      have q0 := (box2 _ hg2).1
      have q1 := (box2 _ hg2).2
      clear hlt
      go_wp2_with fail
      refine (hrc _ hl2).mono ?_
      rintro e w3 ⟨rfl, hg3⟩
      replace q0 := cell_keep hg3.below q0
      replace q1 := cell_keep hg3.below q1
      have hbw := ((hg1.trans hg2).trans hg3).below
      have hbx := box2_lt (hg2.trans hg3)
      clear hrc hl1 hl2 hg2 hg3 hr hg1
      go_wp2
      go_loopw [5, 6, 7] (fun s s2 i wr => ∃ j : Nat, j ≤ l.length ∧ i = .int .i64 j ∧ wr.ownsRow w3.heap.size 3 1 s (pl t true j).length ((pl t true j).map (Value.int .i64)) ∧ wr.ownsRow w3.heap.size 3 1 s2 (pl t false j).length ((pl t false j).map (Value.int .i64)) ∧ Apart s s2 ∧ Below w3.heap.size w3 wr) (fun _ _ i _ => l.length - (intOf i).toNat)
      case atStart => exact ⟨0, Nat.zero_le _, rfl, owns_noneI _ _ _, owns_noneI _ _ _, Apart.none _, Below.refl _ _⟩
      case round =>
        obtain ⟨j, hj, rfl, ho1, ho2, hap, hb⟩ := hrel
        have d0 := cell_keep hb q0
        have d1 := cell_keep hb q1
        have hbwr := below_keep hb hbw (Nat.le_refl _)
        by_cases hlt : j < l.length
        · have hjl : (j : Int) < (l.length : Int) := by omega
          have hk1 := pl_len t true j
          have hk2 := pl_len t false j
          have hszr := hb.size
          have hnw := newsI (w := wr) (t := 3) (.int .i64 (j : Int))
          have hone : ∀ u ∈ [Value.int .i64 (j : Int)], u.oneCell' = true := by intro u hu; simp at hu; subst hu; rfl
          have hbs : w3.heap.size ≤ (wr.alloc (.cells #[.int .i64 (j : Int)] 3)).heap.size := by simp; omega
          have hba := hb.alloc hszr (.cells #[.int .i64 (j : Int)] 3)
          have ho1' := ho1.alloc (.cells #[.int .i64 (j : Int)] 3)
          have ho2' := ho2.alloc (.cells #[.int .i64 (j : Int)] 3)
          have hlow1 : ∀ k, u5.ownBlock = some k → w3.heap.size ≤ k := fun k e => (ho1.lt k e).1
          have hlow2 : ∀ k, u6.ownBlock = some k → w3.heap.size ≤ k := fun k e => (ho2.lt k e).1
          have hmx1 : (pl t true j).length + 1 ≤ maxLen := by unfold maxLen; omega
          have hmx2 : (pl t false j).length + 1 ≤ maxLen := by unfold maxLen; omega
          have hby1 : ((pl t true j).length + 1) * 8 ≤ 140737488355328 := by omega
          have hby2 : ((pl t false j).length + 1) * 8 ≤ 140737488355328 := by omega
          clear ho1 ho2
          have hout : Hid (inA t j = false) → (∀ (u5' u6' : Value) (W' : World), W'.ownsRow w3.heap.size 3 1 u5' (pl t true j).length ((pl t true j).map (Value.int .i64)) → W'.ownsRow w3.heap.size 3 1 u6' ((pl t false j).length + 1) ((pl t false j).map (Value.int .i64) ++ [.int .i64 (j : Int)]) → W'.ownsRow w3.heap.size 3 1 u5' (pl t true (j + 1)).length ((pl t true (j + 1)).map (Value.int .i64)) ∧ W'.ownsRow w3.heap.size 3 1 u6' (pl t false (j + 1)).length ((pl t false (j + 1)).map (Value.int .i64))) := fun hin u5' u6' W' h1 h2 => by
            rw [pl_in hin.out, pl_out (c := true) (by rw [hin.out]; simp), List.length_append, List.map_append]
            exact ⟨h1, h2⟩
          by_cases hjt : j < t.length
          · obtain ⟨bt, offt, rfl, hbt, hcapt, hct⟩ := hT.open hjt
            have c0 := hct wr hbwr j hjt
            have hjt' : (j : Int) < (t.length : Int) := by omega
            cases hin : t[j] with
            | true =>
              have HI : Hid (inA t j = true) := by unfold Hid; rw [inA_at hjt, hin]
              rw [hin] at c0
              clear hct hin hout
              go_wp2_with (at_builtin; refine wpList_append_own_at _ rfl _ _ 25 rfl w3.heap.size 3 i0 (.int .i64 0) 1 8 Try.underlying25 hi hz0 hz1 hz2 (by simp [Value.cells]) (by decide) u5 _ _ rfl ho1' ⟨wr.heap.size, 0, none⟩ 1 1 [.int .i64 (j : Int)] rfl rfl hnw hone hmx1 hby1 hbs ?_; intro v6 w6 hown6 hgrow6 hnil6 hat6)
              refine ⟨⟨j + 1, by omega, by go_num, ?_, ?_, hap.step ho2' hat6, hba.grown hgrow6 hbs hlow1⟩, by simp [intOf]; omega⟩
              · rw [pl_in HI.out, List.length_append, List.map_append]; exact hown6
              · rw [pl_out (c := false) (by rw [HI.out]; simp)]; exact hap.kept ho2' hgrow6
            | false =>
              have HI : Hid (inA t j = false) := by unfold Hid; rw [inA_at hjt, hin]
              have hout' := hout HI
              rw [hin] at c0
              clear hct hin hout
              go_wp2_with (at_builtin; refine wpList_append_own_at _ rfl _ _ 25 rfl w3.heap.size 3 i0 (.int .i64 0) 1 8 Try.underlying25 hi hz0 hz1 hz2 (by simp [Value.cells]) (by decide) u6 _ _ rfl ho2' ⟨wr.heap.size, 0, none⟩ 1 1 [.int .i64 (j : Int)] rfl rfl hnw hone hmx2 hby2 hbs ?_; intro v6 w6 hown6 hgrow6 hnil6 hat6)
              obtain ⟨x1, x2⟩ := hout' _ _ _ (hap.symm.kept ho1' hgrow6) hown6
              exact ⟨⟨j + 1, by omega, by go_num, x1, x2, (hap.symm.step ho1' hat6).symm, hba.grown hgrow6 hbs hlow2⟩, by simp [intOf]; omega⟩
          · have HI : Hid (inA t j = false) := by unfold Hid; rw [inA_far hjt]
            have hout' := hout HI
            have hjt' : ¬ (j : Int) < (t.length : Int) := by omega
            clear hout
            go_wp2_with (at_builtin; refine wpList_append_own_at _ rfl _ _ 25 rfl w3.heap.size 3 i0 (.int .i64 0) 1 8 Try.underlying25 hi hz0 hz1 hz2 (by simp [Value.cells]) (by decide) u6 _ _ rfl ho2' ⟨wr.heap.size, 0, none⟩ 1 1 [.int .i64 (j : Int)] rfl rfl hnw hone hmx2 hby2 hbs ?_; intro v6 w6 hown6 hgrow6 hnil6 hat6)
            obtain ⟨x1, x2⟩ := hout' _ _ _ (hap.symm.kept ho1' hgrow6) hown6
            exact ⟨⟨j + 1, by omega, by go_num, x1, x2, (hap.symm.step ho1' hat6).symm, hba.grown hgrow6 hbs hlow2⟩, by simp [intOf]; omega⟩
        · obtain rfl : j = l.length := by omega
          have hA := Ints.of_owns ho1
          have hB := Ints.of_owns ho2
          obtain ⟨pa, ca, rfl⟩ := hA.len
          obtain ⟨pb, cb, rfl⟩ := hB.len
          have hla := pl_len t true l.length
          have hlb := pl_len t false l.length
          have hlr := hl.go hbwr
          have hjl : ¬ (l.length : Int) < (l.length : Int) := by omega
          generalize pl t true l.length = A at *
          generalize pl t false l.length = B at *
          have hLa : ∀ W', Below wr.heap.size wr W' → Calls Try.prog 11 #[.agg #[.int .i64 n, .slice p l.length c], .slice pa A.length ca] W' fun r w' => ∃ gv, r = .returned (.agg #[.int .i64 n, gv]) ∧ Edges w'.heap.size w' gv (stayL n l (lessP A)) ∧ Above W'.heap.size gv ∧ Below W'.heap.size W' w' := fun W' h => by
            have h1 := less_at n l A (by omega) _ _ W' (hlr.go h) (hA.go h)
            rwa [HN.out] at h1
          have hLb : ∀ W', Below wr.heap.size wr W' → Calls Try.prog 11 #[.agg #[.int .i64 n, .slice p l.length c], .slice pb B.length cb] W' fun r w' => ∃ gv, r = .returned (.agg #[.int .i64 n, gv]) ∧ Edges w'.heap.size w' gv (stayL n l (lessP B)) ∧ Above W'.heap.size gv ∧ Below W'.heap.size W' w' := fun W' h => by
            have h1 := less_at n l B (by omega) _ _ W' (hlr.go h) (hB.go h)
            rwa [HN.out] at h1
          clear ho1 ho2 hap q0 q1 hb hl hT
          have hbr := Below.refl wr.heap.size wr
          go_wp2
          generalize hXd : stayL n l (lessP A) = X at *
          generalize hYd : stayL n l (lessP B) = Y at *
          have hs0 : wr.heap.size ≤ wr.heap.size := Nat.le_refl _
          have HLR : Hid (Edges wr.heap.size wr (.slice p l.length c) l) := hlr
          have HA : Hid (Ints wr.heap.size wr (.slice pa A.length ca) A) := hA
          have HB : Hid (Ints wr.heap.size wr (.slice pb B.length cb) B) := hB
          clear hlr hA hB
          refine wp_cutN (fun _ => R10 wr X Y (fun k8 k9 z52 z53 z54 z55 z56 z57 => { tmps := #[.agg #[.int .i64 n, .slice p l.length c], .slice pt t.length ct, .pointer (some ⟨w.heap.size, 0, none⟩), undef, .bool false, .slice pa A.length ca, .slice pb B.length cb, .int .i64 l.length, .pointer (some ⟨k8, 0, none⟩), .pointer (some ⟨k9, 0, none⟩), undef, undef, undef, undef, undef, undef, undef, undef, .agg #[.int .i64 n, .slice p l.length c], .bool true, .bool false, .bool false, .agg #[.int .i64 n, .slice p l.length c], .int .i64 0, .bool false, .bool false, undef, .int .i64 l.length, .pointer (some ⟨w.heap.size, 1, none⟩), .slice p l.length c, .int .i64 l.length, .bool false, u32, u33, u34, u35, u36, u37, u38, u39, u40, u41, u42, u43, u44, u45, u46, u47, u48, u49, u50, u51, z52, z53, z54, z55, z56, z57, undef, undef, undef, undef, undef, undef, undef, undef, undef, undef, undef, undef, undef, undef, undef, undef, undef, undef, undef, undef, undef, undef, undef, undef, undef, undef, undef, undef, undef, undef, undef, undef, undef, undef, undef, undef, undef, undef, undef, undef, undef, undef, undef, undef, undef, undef, undef, undef, undef, undef, undef, undef, undef, undef, undef, undef, undef, undef, undef, undef, undef, undef, undef, undef, undef, undef, undef, undef, undef, undef, undef, undef], defers := [] })) ?_ ?_
          · go_region_held3 (fun w' => w'.cell? ⟨w.heap.size, 0, none⟩ = some (.int .i64 n) ∧ w'.cell? ⟨w.heap.size, 1, none⟩ = some (.slice p l.length c) ∧ Below wr.heap.size wr w') (((try go_split_ands); refine keepS d0 d1 ?_; (repeat first | assumption | refine below_keep hbZ ?_ (Nat.le_refl _) | refine below_keep hbY ?_ (Nat.le_refl _) | refine below_allocK ?_ _ | refine below_drew1 ?_ | refine Below.setCell ?_ (by first | (simp; done) | (simp; omega)) _))) (first | (go_at_call 11; with_reducible (refine Calls.mono (hLa _ ?hb) ?_); (case hb => go_split_ands; assumption); rintro e wY ⟨xv, rfl, hEX, hAX, hbY⟩; have hsY := hbY.size; (try simp at hsY); obtain ⟨px, cx, rfl⟩ := hEX.len; (try (have nY0 : wr.heap.size < wY.heap.size := by omega)); (try (have mY0 : wr.heap.size < wY.heap.size + 1 := by omega)); (try (have nY1 : wr.heap.size + 1 < wY.heap.size := by omega)); (try (have mY1 : wr.heap.size + 1 < wY.heap.size + 1 := by omega)); (try (have hKa := Blk.go (Blk.drew (blk_new _ _ _ _)) hbY; have hKa0 := hKa.cell (j := 0) rfl; have hKa1 := hKa.cell (j := 1) rfl; have hKa2 := hKa.frozen 0; have hKa3 := hKa.frozen 1; (try simp at hKa0); (try simp at hKa1); (try simp at hKa2); (try simp at hKa3))); (try (have hKb := Blk.go (Blk.drew (blk_old (blk_new _ _ _ _) _)) hbY; have hKb0 := hKb.cell (j := 0) rfl; have hKb1 := hKb.cell (j := 1) rfl; have hKb2 := hKb.frozen 0; have hKb3 := hKb.frozen 1; (try simp at hKb0); (try simp at hKb1); (try simp at hKb2); (try simp at hKb3)))) | (go_at_call 11; with_reducible (refine Calls.mono (hLb _ ?hb) ?_); (case hb => go_split_ands; assumption); rintro e wZ ⟨yv, rfl, hEY, hAY, hbZ⟩; have hsZ := hbZ.size; (try simp at hsZ); obtain ⟨py, cy, rfl⟩ := hEY.len; (try (have nZ0 : wr.heap.size < wZ.heap.size := by omega)); (try (have mZ0 : wr.heap.size < wZ.heap.size + 1 := by omega)); (try (have nZ1 : wr.heap.size + 1 < wZ.heap.size := by omega)); (try (have mZ1 : wr.heap.size + 1 < wZ.heap.size + 1 := by omega)); (try (have nZ2 : wY.heap.size < wZ.heap.size := by omega)); (try (have mZ2 : wY.heap.size < wZ.heap.size + 1 := by omega)); (try (have nZ3 : wY.heap.size + 1 < wZ.heap.size := by omega)); (try (have mZ3 : wY.heap.size + 1 < wZ.heap.size + 1 := by omega)); (try (have nZ4 : wr.heap.size < wY.heap.size := by omega)); (try (have mZ4 : wr.heap.size < wY.heap.size + 1 := by omega)); (try (have hKc := Blk.go (blk_new _ _ _ _) hbZ; have hKc0 := hKc.cell (j := 0) rfl; have hKc1 := hKc.cell (j := 1) rfl; have hKc2 := hKc.frozen 0; have hKc3 := hKc.frozen 1; (try simp at hKc0); (try simp at hKc1); (try simp at hKc2); (try simp at hKc3))); (try (have hKd := Blk.go (blk_old (blk_new _ _ _ _) _) hbZ; have hKd0 := hKd.cell (j := 0) rfl; have hKd1 := hKd.cell (j := 1) rfl; have hKd2 := hKd.frozen 0; have hKd3 := hKd.frozen 1; (try simp at hKd0); (try simp at hKd1); (try simp at hKd2); (try simp at hKd3))); (try (have hKe := Blk.go hKa hbZ; have hKe0 := hKe.cell (j := 0) rfl; have hKe1 := hKe.cell (j := 1) rfl; have hKe2 := hKe.frozen 0; have hKe3 := hKe.frozen 1; (try simp at hKe0); (try simp at hKe1); (try simp at hKe2); (try simp at hKe3))); (try (have hKe := Blk.go (blk_old hKa _) hbZ; have hKe0 := hKe.cell (j := 0) rfl; have hKe1 := hKe.cell (j := 1) rfl; have hKe2 := hKe.frozen 0; have hKe3 := hKe.frozen 1; (try simp at hKe0); (try simp at hKe1); (try simp at hKe2); (try simp at hKe3))); (try (have hKf := Blk.go hKb hbZ; have hKf0 := hKf.cell (j := 0) rfl; have hKf1 := hKf.cell (j := 1) rfl; have hKf2 := hKf.frozen 0; have hKf3 := hKf.frozen 1; (try simp at hKf0); (try simp at hKf1); (try simp at hKf2); (try simp at hKf3))); (try (have hKf := Blk.go (blk_old hKb _) hbZ; have hKf0 := hKf.cell (j := 0) rfl; have hKf1 := hKf.cell (j := 1) rfl; have hKf2 := hKf.frozen 0; have hKf3 := hKf.frozen 1; (try simp at hKf0); (try simp at hKf1); (try simp at hKf2); (try simp at hKf3)))))
            all_goals go_split_ands
            all_goals
              (refine ⟨_, _, .slice px X.length cx, .slice py Y.length cy, _, _, _, _, _, _, rfl, ?_, ?_, ?_, ?_, by assumption⟩
               · clear hEX hEY hAX hAY hLa hLb; go_simp
               · clear hEX hEY hAX hAY hLa hLb; go_simp
               · refine Edges.mono (n := wY.heap.size) ?_ (by first | omega | (simp; done) | (simp; omega)); (repeat first | (with_reducible exact hEX) | (with_reducible refine Edges.put2 ?_ hAX ?_ _ _; rotate_left; focus (first | omega | (left; simp; done) | (left; simp; omega) | (right; simp; done) | (right; simp; omega))) | (with_reducible refine Edges.allocK ?_ ?_ _; rotate_left; focus (first | omega | (simp; done) | (simp; omega))) | (with_reducible refine Edges.belowK ?_ hbZ ?_; rotate_left; focus (first | omega | (simp; done) | (simp; omega)))); done
               · refine Edges.mono (n := wZ.heap.size) ?_ (by first | omega | (simp; done) | (simp; omega)); (repeat first | (with_reducible exact hEY) | (with_reducible refine Edges.put2 ?_ hAY ?_ _ _; rotate_left; focus (first | omega | (left; simp; done) | (left; simp; omega) | (right; simp; done) | (right; simp; omega))) | (with_reducible refine Edges.allocK ?_ ?_ _; rotate_left; focus (first | omega | (simp; done) | (simp; omega)))); done)
          · rintro a' w7 ⟨k8, k9, xv, yv, z52, z53, z54, z55, z56, z57, rfl, c8, c9, hEX, hEY, hb7⟩
            replace d0 := cell_keep hb7 d0
            replace d1 := cell_keep hb7 d1
            have hlr := Edges.go HLR.out hb7
            have hA := Vals.go HA.out hb7
            have hB := Vals.go HB.out hb7
            have hbw7 := below_keep hb7 hbwr (Nat.le_refl _)
            clear HLR HA HB hLa hLb hb7 hbwr hbr hs0
            obtain ⟨px, cx, rfl⟩ := hEX.len
            obtain ⟨py, cy, rfl⟩ := hEY.len
            have hM : ∀ W sv, Edges W.heap.size W sv (X ++ Y) → Calls Try.prog 8 #[.int .i64 n, sv] W fun r w' => ∃ gv, r = .returned (.tuple #[.agg #[.int .i64 n, gv], .int .i64 0]) ∧ Edges w'.heap.size w' gv l ∧ Above W.heap.size gv ∧ Below W.heap.size W w' := fun W sv h => by
              obtain ⟨e1, e2, e3⟩ := HL.out.shuf.made hR
              have h1 := make_at n (X ++ Y) sv W h
              rw [e1, e2, e3] at h1
              exact h1
            have hX1 := HL.out.lx
            have hY1 := HL.out.ly
            have hX0 : ([] : List Ed).length + X.length ≤ 1000000 := by simp; omega
            have hXY : X.length + Y.length ≤ 1000000 := by omega
            have hb0 := Below.refl w7.heap.size w7
            obtain ⟨Z, HZ⟩ : ∃ Z, Hid (X ++ Y = Z) := ⟨_, rfl⟩
            rw [HZ.out] at hM
            go_wp2
            refine wp_cutN (fun _ => R11 w7 n l (fun k10 y58 y59 y60 y61 y62 y63 y64 y65 y66 y67 y68 y69 y70 => { tmps := #[.agg #[.int .i64 n, .slice p l.length c], .slice pt t.length ct, .pointer (some ⟨w.heap.size, 0, none⟩), undef, .bool false, .slice pa A.length ca, .slice pb B.length cb, .int .i64 l.length, .pointer (some ⟨k8, 0, none⟩), .pointer (some ⟨k9, 0, none⟩), .pointer (some ⟨k10, 0, none⟩), .int .i64 0, undef, undef, undef, undef, undef, undef, .agg #[.int .i64 n, .slice p l.length c], .bool true, .bool false, .bool false, .agg #[.int .i64 n, .slice p l.length c], .int .i64 0, .bool false, .bool false, undef, .int .i64 l.length, .pointer (some ⟨w.heap.size, 1, none⟩), .slice p l.length c, .int .i64 l.length, .bool false, u32, u33, u34, u35, u36, u37, u38, u39, u40, u41, u42, u43, u44, u45, u46, u47, u48, u49, u50, u51, z52, z53, z54, z55, z56, z57, y58, y59, y60, y61, y62, y63, y64, y65, y66, y67, y68, y69, y70, undef, undef, undef, undef, undef, undef, undef, undef, undef, undef, undef, undef, undef, undef, undef, undef, undef, undef, undef, undef, undef, undef, undef, undef, undef, undef, undef, undef, undef, undef, undef, undef, undef, undef, undef, undef, undef, undef, undef, undef, undef, undef, undef, undef, undef, undef, undef, undef, undef, undef, undef, undef, undef, undef, undef, undef, undef, undef, undef], defers := [] })) ?_ ?_
            · go_region_held3 (fun w' => w'.cell? ⟨w.heap.size, 0, none⟩ = some (.int .i64 n) ∧ w'.cell? ⟨k8, 1, none⟩ = some (.slice px X.length cx) ∧ w'.cell? ⟨k9, 1, none⟩ = some (.slice py Y.length cy) ∧ Below w7.heap.size w7 w') (((try go_split_ands); refine keepS3 d0 c8 c9 ?_; (repeat first | assumption | refine below_keep hb9 ?_ (Nat.le_refl _) | refine below_allocK ?_ _ | refine below_drew1 ?_ | refine Below.setCell ?_ (by first | omega | (simp; done) | (simp; omega)) _))) (first | (refine step_append_edges rfl _ _ rfl w7 (by go_split_ands; assumption) X (.slice p6 X.length c6) rfl (by first | exact hown6 | exact hown6.alloc _) Y (.slice py Y.length cy) rfl hEY Z HZ.out hXY ?_; intro p8 e8 w8 hown8 hb8 hc8; have hs8 := hb8.size; (try (have hKbN := hc8 _ _ _ hKa hNa; have hKb := hKbN.1; have hNb := hKbN.2)); (try (have hKbN := hc8 _ _ _ (blk_new _ _ _ _) (fun e => by have := (hown6.lt _ e).2; omega); have hKb := hKbN.1; have hNb := hKbN.2))) | (refine step_append_edges rfl _ _ rfl w7 (by go_split_ands; assumption) [] (.slice (some ⟨w7.heap.size, 0, none⟩) 0 0) rfl (by first | exact own0 _ | exact own0a _ _) X (.slice px X.length cx) rfl hEX X rfl hX0 ?_; intro p6 c6 w6 hown6 hb6 hc6; have hs6 := hb6.size; (try (have hKaN := hc6 _ _ _ (Blk.drew (blk_old (blk_new _ _ _ _) _)) (by simp [Value.ownBlock]); have hKa := hKaN.1; have hNa := hKaN.2)); (try (have hKaN := hc6 _ _ _ (Blk.drew (blk_new _ _ _ _)) (by simp [Value.ownBlock]); have hKa := hKaN.1; have hNa := hKaN.2))) | (refine step_append_edges rfl _ _ rfl w7 (by go_split_ands; assumption) [] (.slice (some ⟨w7.heap.size + 1, 0, none⟩) 0 0) rfl (by exact own1 _ _) X (.slice px X.length cx) rfl hEX X rfl hX0 ?_; intro p6 c6 w6 hown6 hb6 hc6; have hs6 := hb6.size; (try (have hKaN := hc6 _ _ _ (Blk.drew (blk_old (blk_new _ _ _ _) _)) (by simp [Value.ownBlock]); have hKa := hKaN.1; have hNa := hKaN.2)); (try (have hKaN := hc6 _ _ _ (Blk.drew (blk_new _ _ _ _)) (by simp [Value.ownBlock]); have hKa := hKaN.1; have hNa := hKaN.2))) | (go_at_call 8; with_reducible (refine Calls.mono (hM _ _ ?_) ?_); (focus (first | exact Edges.of_owns hown8 | exact Edges.of_owns (hown8.alloc _))); rintro e w9 ⟨gv, rfl, hgE, hgA, hb9⟩; have hs9 := hb9.size; (try simp at hs9); obtain ⟨pg, cg, rfl⟩ := hgE.len; (try (have hlK := hKb.lt; (try simp at hlK))); (try (have hKc := Blk.go hKb hb9; have hKc0 := hKc.cell (j := 0) rfl; have hKc1 := hKc.cell (j := 1) rfl; have hKc2 := hKc.frozen 0; have hKc3 := hKc.frozen 1; (try simp at hKc0); (try simp at hKc1); (try simp at hKc2); (try simp at hKc3))); (try (have hKc := Blk.go (blk_new _ _ _ _) hb9; have hKc0 := hKc.cell (j := 0) rfl; have hKc1 := hKc.cell (j := 1) rfl; have hKc2 := hKc.frozen 0; have hKc3 := hKc.frozen 1; (try simp at hKc0); (try simp at hKc1); (try simp at hKc2); (try simp at hKc3)))))
              all_goals go_split_ands
              all_goals
                (refine ⟨_, .slice pg l.length cg, _, _, _, _, _, _, _, _, _, _, _, _, _, rfl, ?_, ?_, ?_, by assumption⟩
                 · clear hgE hgA hM; go_simp
                 · clear hgE hgA hM; go_simp
                 · refine Edges.mono (n := w9.heap.size) ?_ (by first | omega | (simp; done) | (simp; omega)); (repeat first | (with_reducible exact hgE) | (with_reducible refine Edges.put2 ?_ hgA ?_ _ _; rotate_left; focus (first | omega | (left; simp; done) | (left; simp; omega) | (right; simp; done) | (right; simp; omega))) | (with_reducible refine Edges.allocK ?_ ?_ _; rotate_left; focus (first | omega | (simp; done) | (simp; omega)))); done)
            · rintro a' w9 ⟨k10, gv, y58, y59, y60, y61, y62, y63, y64, y65, y66, y67, y68, y69, y70, rfl, x0, x1, hgE, hb9⟩
              replace d0 := cell_keep hb9 d0
              replace d1 := cell_keep hb9 d1
              replace c8 := cell_keep hb9 c8
              replace hlr := hlr.go hb9
              replace hA := Vals.go hA hb9
              replace hB := Vals.go hB hb9
              have hbw9 := below_keep hb9 hbw7 (Nat.le_refl _)
              obtain ⟨pg, cg, rfl⟩ := hgE.len
              have hWa := fun W h1 h2 => weight_any n l A (by omega) (.slice p l.length c) (.slice pa A.length ca) W h1 h2
              have hWb := fun W h1 h2 => weight_any n l B (by omega) (.slice p l.length c) (.slice pb B.length cb) W h1 h2
              have hWc := fun sq W h1 h2 => weight_any n l (A ++ B) (by simp; omega) (.slice p l.length c) sq W h1 h2
              have hb1 := wgtV_bound hR A
              have hb2 := wgtV_bound hR B
              have HSu : Hid _ := HW.out.sum
              have HLen : Hid (X.length = B.length) := HL.out.len
              rw [HW.out.ka] at hWa
              rw [HW.out.kb] at hWb
              rw [HW.out.kab, ← HSu.out] at hWc
              have hlo : -9223372036854775808 ≤ wgtV n l A + wgtV n l B := by omega
              have hhi : wgtV n l A + wgtV n l B ≤ 9223372036854775807 := by omega
              have hwr := wrap_i _ hlo hhi
              generalize wgtV n l A = va at *
              generalize wgtV n l B = vb at *
              clear hM HL HW HSu hEX hEY c9 hbw7 hb9 hb1 hb2
              go_wp2_with fail
              refine (hWa _ hlr hA).mono ?_
              rintro e w10 ⟨rfl, hb10⟩
              replace d0 := cell_keep hb10 d0
              replace d1 := cell_keep hb10 d1
              replace c8 := cell_keep hb10 c8
              replace x0 := cell_keep hb10 x0
              replace x1 := cell_keep hb10 x1
              replace hlr := hlr.go hb10
              replace hgE := hgE.go hb10
              replace hA := Vals.go hA hb10
              replace hB := Vals.go hB hb10
              have hbw10 := below_keep hb10 hbw9 (Nat.le_refl _)
              clear hWa hb10 hbw9
              go_wp2_with fail
              refine (hWb _ hlr hB).mono ?_
              rintro e w11 ⟨rfl, hb11⟩
              replace d0 := cell_keep hb11 d0
              replace d1 := cell_keep hb11 d1
              replace c8 := cell_keep hb11 c8
              replace x0 := cell_keep hb11 x0
              replace x1 := cell_keep hb11 x1
              replace hlr := hlr.go hb11
              replace hgE := hgE.go hb11
              replace hA := Vals.go hA hb11
              replace hB := Vals.go hB hb11
              have hbw11 := below_keep hb11 hbw10 (Nat.le_refl _)
              clear hWb hb11 hbw10
              have hA0 : ([] : List Int).length + A.length ≤ 1000000 := by simp; omega
              have hAB : A.length + B.length ≤ 1000000 := by omega
              have hb0' := Below.refl w11.heap.size w11
              have HCE : Hid (∀ W sq, Below w11.heap.size w11 W → Ints W.heap.size W sq (A ++ B) → Calls Try.prog 12 #[.agg #[.int .i64 n, .slice p l.length c], sq] W fun r w' => r = .returned (.tuple #[.int .i64 (va + vb), .int .i64 0]) ∧ Below W.heap.size W w') := fun W sq h1 h2 => hWc sq W (hlr.go h1) h2
              have hWd := HCE.out
              obtain ⟨D, HD⟩ : ∃ D, Hid (A ++ B = D) := ⟨_, rfl⟩
              rw [HD.out] at hWd
              clear hWc HCE
              go_wp2
              go_region_held3 (fun w' => w'.cell? ⟨w.heap.size, 0, none⟩ = some (.int .i64 n) ∧ w'.cell? ⟨w.heap.size, 1, none⟩ = some (.slice p l.length c) ∧ Below w11.heap.size w11 w') (((try go_split_ands); refine keepS d0 d1 ?_; (repeat first | assumption | refine below_keep hb14 ?_ (Nat.le_refl _) | refine below_allocK ?_ _ | refine below_drew1 ?_))) (first | (refine step_append_ints rfl _ _ rfl w11 (by go_split_ands; assumption) A (.slice p12 A.length c12) rfl hown12 B (.slice pb B.length cb) rfl hB D HD.out hAB ?_; intro p13 c13 w13 hown13 hb13) | (refine step_append_ints rfl _ _ rfl w11 (by go_split_ands; assumption) [] (.slice (some ⟨w11.heap.size, 0, none⟩) 0 0) rfl (by exact own0I _) A (.slice pa A.length ca) rfl hA A rfl hA0 ?_; intro p12 c12 w12 hown12 hb12) | (go_at_call 12; with_reducible (refine Calls.mono (hWd _ _ ?_ ?_) ?_); (focus (go_split_ands; assumption)); (focus (exact Ints.of_owns hown13)); rintro e w14 ⟨rfl, hb14⟩))
              go_split_ands
              have hb14' : Below w11.heap.size w11 w14 := by assumption
              replace x0 := cell_keep hb14' x0
              replace x1 := cell_keep hb14' x1
              replace d0 := cell_keep hb14' d0
              replace d1 := cell_keep hb14' d1
              replace c8 := cell_keep hb14' c8
              replace hlr := hlr.go hb14'
              replace hgE := hgE.go hb14'
              have hbw14 := below_keep hb14' hbw11 (Nat.le_refl _)
              have hlen : ((X.length : Int) == (B.length : Int)) = true := by rw [HLen.out]; simp
              have hsame : decide (n = n ∧ l = l) = true := by simp
              have hSm := same_any n n l l (by omega) (.slice pg l.length cg) (.slice p l.length c) w14 hgE hlr
              rw [hsame] at hSm
              clear hWd hA hB hX0 hXY hA0 hAB hb0 hb0'
              go_wp2_with fail
              refine hSm.mono ?_
              rintro e w15 ⟨rfl, hg15⟩
              replace c8 := cell_keep hg15.below c8
              clear hSm
              go_wp2_with fail
              refine (alive_any _).mono ?_
              rintro e w16 ⟨rfl, hb16⟩
              go_wp2
              go_ret
              exact ⟨rfl, below_keep hb16 (below_keep hg15.below hbw14 (Nat.le_refl _)) (Nat.le_refl _)⟩
    · have hk : (rightK n l == 0) = false := by simpa using hr
      generalize rightK n l = k at hrc hk
      clear hr
      go_enter Try.func4, Try.ntmps4
      go_wp2_with fail
      refine hlt.mono ?_
      rintro e w2 ⟨rfl, hg2⟩
      have hl2 := hl1.go hg2.below
      have q0 := (box2 _ hg2).1
      have q1 := (box2 _ hg2).2
      clear hlt
      go_wp2_with fail
      refine (hrc _ hl2).mono ?_
      rintro e w3 ⟨rfl, hg3⟩
      clear hrc
      go_wp2_with fail
      refine (alive_any _).mono ?_
      rintro e w4 ⟨rfl, hb4⟩
      go_wp2
      go_ret
      exact ⟨rfl, below_keep hb4 ((hg1.trans hg2).trans hg3).below (Nat.le_refl _)⟩
  · rw [Bool.not_eq_true] at hli
    rw [hli] at hlt
    go_enter Try.func4, Try.ntmps4
    go_wp2_with fail
    refine hlt.mono ?_
    rintro e w2 ⟨rfl, hg2⟩
    go_wp2_with fail
    refine (alive_any _).mono ?_
    rintro e w3 ⟨rfl, hb3⟩
    go_wp2
    go_ret
    exact ⟨rfl, below_keep hb3 (hg1.trans hg2).below (Nat.le_refl _)⟩

end Go.Proofs.Ytkniphmjiepkaab
