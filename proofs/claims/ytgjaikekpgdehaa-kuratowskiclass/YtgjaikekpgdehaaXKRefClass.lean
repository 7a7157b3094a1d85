/-
  The reference's Class.
-/
import Derived.Test.YtgjaikekpgdehaaXKRefJoin
import Derived.Test.YtgjaikekpgdehaaXKLawW
namespace Go.Proofs.Ytgjaikekpgdehaa
open Go Go.Proofs Go.RowKit

def dgv (S : List Ed) (v : Nat) : Nat := if (corV S v).length = 0 then 0 else (nb S ((corV S v).getD 0 0)).length
theorem corV_in {S : List Ed} {v : Nat} (h : 2 < (nb S (v : Int)).length) : corV S (v + 1) = corV S v ++ [(v : Int)] := by rw [corV_succ, if_neg (by omega)]
theorem corV_out {S : List Ed} {v : Nat} (h : ¬ 2 < (nb S (v : Int)).length) : corV S (v + 1) = corV S v := by rw [corV_succ, if_pos (by omega), List.append_nil]
theorem corV_cnt (S : List Ed) : ∀ v, (corV S v).length ≤ v
  | 0 => Nat.le_refl _
  | v + 1 => by
    have := corV_cnt S v
    rw [corV_succ, List.length_append]
    split <;> simp <;> omega
theorem corV_far {S : List Ed} {v : Nat} : ∀ {k : Nat}, v ≤ k → ∃ T, corV S k = corV S v ++ T
  | 0, h => ⟨[], by
      have e : v = 0 := by omega
      subst e
      simp⟩
  | k + 1, h => by
    by_cases e : v = k + 1
    · subst e; exact ⟨[], by simp⟩
    · obtain ⟨T, hT⟩ := corV_far (S := S) (v := v) (k := k) (by omega)
      rw [corV_succ, hT, List.append_assoc]
      exact ⟨_, rfl⟩
theorem getD_app {A B : List Int} (h : A.length ≠ 0) : (A ++ B).getD 0 0 = A.getD 0 0 := by
  match A, h with
  | a :: A, _ => rfl
/-- A corner with another degree. -/
theorem same_no {S : List Ed} {v N : Nat} (hv : v < N) (h2 : 2 < (nb S (v : Int)).length) (h0 : (corV S v).length ≠ 0) (hd : dgv S v ≠ (nb S (v : Int)).length) : sameD (corV S N) (fun x => (nb S x).length) = false := by
  obtain ⟨T, hT⟩ := corV_far (S := S) (v := v + 1) (k := N) (by omega)
  rw [corV_in h2] at hT
  unfold sameD
  rw [List.all_eq_false]
  refine ⟨(v : Int), by rw [hT]; simp, ?_⟩
  have e : (corV S N).getD 0 0 = (corV S v).getD 0 0 := by rw [hT, List.append_assoc]; exact getD_app h0
  rw [e]
  unfold dgv at hd
  rw [if_neg h0] at hd
  simp only [decide_eq_true_eq]
  exact fun h => hd h.symm
theorem same_in {S : List Ed} {v : Nat} (h2 : 2 < (nb S (v : Int)).length) (hs : sameD (corV S v) (fun x => (nb S x).length) = true) (hd : (corV S v).length = 0 ∨ dgv S v = (nb S (v : Int)).length) : sameD (corV S (v + 1)) (fun x => (nb S x).length) = true ∧ dgv S (v + 1) = (nb S (v : Int)).length := by
  have e1 := corV_in h2
  by_cases h0 : (corV S v).length = 0
  · have e0 : corV S v = [] := List.eq_nil_of_length_eq_zero h0
    rw [e0] at e1
    unfold sameD dgv
    rw [e1]
    simp
  · have hd := hd.resolve_left h0
    have e2 : (corV S (v + 1)).getD 0 0 = (corV S v).getD 0 0 := by rw [e1]; exact getD_app h0
    have hd2 : (nb S ((corV S v).getD 0 0)).length = (nb S (v : Int)).length := by unfold dgv at hd; rwa [if_neg h0] at hd
    refine ⟨?_, ?_⟩
    · unfold sameD at *
      rw [e2, e1, List.all_append, hs, Bool.true_and, List.all_cons, List.all_nil, Bool.and_true]
      exact decide_eq_true hd2.symm
    · unfold dgv
      rw [if_neg (by rw [e1]; simp), e2, hd2]

/-- The other side, as far as the first i others. -/
def rotT (C : List Int) (jn : Int → Int → Nat) (i : Nat) : List Int := ((List.range i).map fun k => C.getD (k + 1) 0).filter fun c => decide (jn (C.getD 0 0) c = 1)
theorem rotT_in {C : List Int} {jn : Int → Int → Nat} {i : Nat} (h : jn (C.getD 0 0) (C.getD (i + 1) 0) = 1) : rotT C jn (i + 1) = rotT C jn i ++ [C.getD (i + 1) 0] := by
  unfold rotT
  rw [List.range_succ, List.map_append, List.filter_append, List.map_singleton, List.filter_cons_of_pos (by exact decide_eq_true h), List.filter_nil]
theorem rotT_out {C : List Int} {jn : Int → Int → Nat} {i : Nat} (h : jn (C.getD 0 0) (C.getD (i + 1) 0) ≠ 1) : rotT C jn (i + 1) = rotT C jn i := by
  unfold rotT
  rw [List.range_succ, List.map_append, List.filter_append, List.map_singleton, List.filter_cons_of_neg (by simpa using h), List.filter_nil, List.append_nil]
theorem rotT_len (C : List Int) (jn : Int → Int → Nat) (i : Nat) : (rotT C jn i).length ≤ i := by
  unfold rotT
  exact Nat.le_trans (List.length_filter_le _ _) (by simp)
def kindR (rc : Int) : Int := if rc = 0 then 13 else 0
set_option maxRecDepth 100000 in
set_option maxHeartbeats 16000000 in
theorem refClass_any (N : Nat) (hN : N ≤ 30) (l : List Ed) (a : List Int) (ha : a.length ≤ 4194304) (sv sa : Value) (w : World) (hl : Edges w.heap.size w sv l) (hA : Ints w.heap.size w sa a) (hk : wyK (N : Int) l a = 0) :
    Calls Try.prog 13 #[.agg #[.int .i64 (N : Int), sv], sa] w fun r w' => r = .returned (.tuple #[.int .i64 (rcls (corV (subL l a) N) (joinN (waysTo (subL l a) N N)) (fun v => (nb (subL l a) v).length) (waysTo (subL l a) N N).length), .int .i64 (kindR (rcls (corV (subL l a) N) (joinN (waysTo (subL l a) N N)) (fun v => (nb (subL l a) v).length) (waysTo (subL l a) N N).length))]) ∧ Below w.heap.size w w' := by
  have hw : wgtK (N : Int) l a = 0 := by
    apply Classical.byContradiction
    intro h
    unfold wyK at hk
    rw [if_neg h] at hk
    cases hk
  have hRS : RightG (N : Int) (subL l a) := by have := sub_right (a := a) (wgtK_zero hw).1; simpa using this
  have hsK : wsK N (subL l a) = 0 := by unfold wyK at hk; rw [if_pos hw] at hk; simpa using hk
  have hyL : wyL (N : Int) l a = waysTo (subL l a) N N := by unfold wyL wsL; rw [if_pos hw]; simp [hsK]
  have hg1 : Grew w (w.alloc (.cells #[.int .i64 (N : Int), sv] 24)) := (Grew.refl w).alloc _
  have q0 := (box2 _ (Grew.refl (w.alloc (.cells #[.int .i64 (N : Int), sv] 24)))).1
  have q1 := (box2 _ (Grew.refl (w.alloc (.cells #[.int .i64 (N : Int), sv] 24)))).2
  have hwy := refWays_any (N : Int) (by omega) l a ha hw sv sa _ (hl.go hg1.below) (hA.go hg1.below)
  have HLen : Hid _ := wyL_cnt (n := (N : Int)) (by omega) l a
  have HIn : Hid _ := wyL_len (n := (N : Int)) (l := l) (a := a)
  rw [hk, hyL] at hwy
  rw [hyL] at HLen HIn
  have HSB : Hid (∀ W, Below w.heap.size w W → Calls Try.prog 22 #[.agg #[.int .i64 (N : Int), sv], sa] W fun r w' => ∃ gv, r = .returned (.tuple #[.agg #[.int .i64 (N : Int), gv], .bool true]) ∧ Edges w'.heap.size w' gv (subL l a) ∧ Below W.heap.size W w') := fun W hW => refSub_any (N : Int) l a ha hw sv sa W (hl.go hW) (hA.go hW)
  have HG1 : Hid _ := hg1.below
  obtain ⟨p, c, rfl⟩ := hl.len
  obtain ⟨pa, ca, rfl⟩ := hA.len
  clear hl hA hw hk hsK hyL hg1
  generalize subL l a = S at *
  generalize waysTo S N N = ws at *
  go_enter Try.func13, Try.ntmps13
  go_wp2_with fail
  refine hwy.mono ?_
  rintro e w1 ⟨lv, rfl, hLs, hb1⟩
  have hB1 := HG1.out.trans (hb1.mono HG1.out.size)
  replace q0 := cell_keep hb1 q0
  replace q1 := cell_keep hb1 q1
  have hsb := HSB.out w1 hB1
  have HLs : Hid (Lsts w1.heap.size w1 lv ws) := hLs
  obtain ⟨pw, cw, rfl⟩ := hLs.len
  clear hwy hb1 HG1 hLs HSB
  go_wp2_with fail
  refine hsb.mono ?_
  rintro e w2 ⟨gv, rfl, hE, hb2⟩
  have hbA : Below w2.heap.size w2 (w2.alloc (.cells #[.int .i64 (N : Int), gv] 24)) := ((Grew.refl w2).alloc _).below
  have hB2 := hB1.trans (hb2.mono hB1.size)
  have hB3 := hB2.trans (hbA.mono hB2.size)
  have hb13 := hb2.trans (hbA.mono hb2.size)
  have hE3 := hE.go hbA
  have g0 := (box2 _ (Grew.refl (w2.alloc (.cells #[.int .i64 (N : Int), gv] 24)))).1
  obtain ⟨pg, cg, rfl⟩ := hE.len
  have hnr := refNear_any N S hRS _ _ hE3
  clear hsb hb2 hB2 hbA hE hE3 q0 q1 hB1
  go_wp2_with fail
  refine hnr.mono ?_
  generalize w2.alloc (.cells #[.int .i64 (N : Int), .slice pg S.length cg] 24) = w3 at *
  generalize w2.heap.size = gb at *
  rintro e w4 ⟨nv, rfl, hNL, hb4⟩
  have hB4 := hB3.trans (hb4.mono hB3.size)
  have hb14 := hb13.trans (hb4.mono hb13.size)
  replace g0 := cell_keep hb4 g0
  obtain ⟨pn, cn, rfl⟩ := hNL.len
  rw [nearL_len]
  have HNL : Hid (Lsts w4.heap.size w4 (.slice pn (nearL N S).length cn) (nearL N S)) := hNL
  have HLs4 : Hid (Lsts w4.heap.size w4 (.slice pw ws.length cw) ws) := Lsts.go HLs.out hb14
  have HB4 : Hid _ := hB4
  clear hnr hb4 hB3 hNL hB4 HLs hb13 hb14
  have rowAt : Hid (∀ W, Below w4.heap.size w4 W → ∀ v, v < N → ∃ b off px cx, pn = some ⟨b, off, none⟩ ∧ N ≤ cn ∧ W.cell? ⟨b, off + v, none⟩ = some (.slice px (nb S (v : Int)).length cx)) := fun W hW v hv => by
    obtain ⟨b, off, e1, hb1, hc1, px, cx, h1, h2⟩ := (Lsts.go HNL.out hW).cellAt (j := v) (by rw [nearL_len]; exact hv)
    have ex : (nearL N S)[v]'(by rw [nearL_len]; exact hv) = nb S (v : Int) := by simp [nearL]
    rw [ex] at h2
    exact ⟨b, off, px, cx, e1, by rw [nearL_len] at hc1; exact hc1, h2⟩
  obtain ⟨i0, hi0, hz0, hz1, hz2⟩ := info_parts infoI
  have hmix := mixed
  go_wp2
  go_loopw [11, 12, 13] (fun cv dv i wr => ∃ v : Nat, v ≤ N ∧ i = .int .i64 v ∧ dv = .int .i64 (dgv S v : Int) ∧ wr.ownsRow w4.heap.size 3 1 cv (corV S v).length ((corV S v).map (Value.int .i64)) ∧ Hid (sameD (corV S v) (fun x => (nb S x).length) = true) ∧ Below w4.heap.size w4 wr) (fun _ _ i _ => N - (intOf i).toNat)
  case atStart => exact ⟨0, Nat.zero_le _, rfl, rfl, World.ownsRow_nil _ _ _ _, rfl, Below.refl _ _⟩
  case round =>
    obtain ⟨v, hv, rfl, rfl, hown, HSM, hb⟩ := hrel
    have g0 := cell_keep hb g0
    obtain ⟨pc, cc, rfl⟩ := owns_form hown
    have HBW : Hid (Below w.heap.size w wr) := HB4.out.trans (hb.mono HB4.out.size)
    have hcl := corV_cnt S v
    by_cases hlt : v < N
    · have hvl : (v : Int) < (N : Int) := by omega
      obtain ⟨b, off, px, cx, rfl, hcn, r0⟩ := rowAt.out wr hb v hlt
      by_cases h2 : 2 < (nb S (v : Int)).length
      · have h2' : decide ((2 : Int) < ((nb S (v : Int)).length : Int)) = true := decide_eq_true (by omega)
        have h2n : decide (2 < (nb S (v : Int)).length) = true := decide_eq_true h2
        by_cases hbad : (corV S v).length ≠ 0 ∧ dgv S v ≠ (nb S (v : Int)).length
        · have HR : Hid (rcls (corV S N) (joinN ws) (fun v => (nb S v).length) ws.length = 0) := by
            unfold Hid rcls
            rw [if_neg (by rw [same_no hlt h2 hbad.1 hbad.2]; simp)]
          have t1 : decide ((0 : Int) < ((corV S v).length : Int)) = true := decide_eq_true (by omega)
          have t1n : decide (0 < (corV S v).length) = true := decide_eq_true (by omega)
          have t2 : (((dgv S v : Nat) : Int) != ((nb S (v : Int)).length : Int)) = true := by simp; omega
          have t2n : (dgv S v != (nb S (v : Int)).length) = true := by simpa using hbad.2
          clear hbad h2 HSM hown
          generalize (nb S (v : Int)).length = m at *
          generalize dgv S v = dd at *
          generalize (corV S v).length = cl at *
          go_wp2
          go_ret2
          exact ⟨by rw [HR.out]; rfl, HBW.out⟩
        · have hgood : (corV S v).length = 0 ∨ dgv S v = (nb S (v : Int)).length := by omega
          have HSI : Hid _ := same_in h2 HSM.out hgood
          have HCI : Hid _ := corV_in h2
          have t12 : Hid ((corV S v).length = 0 ∨ dgv S v = (nb S (v : Int)).length) := hgood
          have hownA := hown.alloc (.cells #[.int .i64 (v : Int)] 3)
          have hnw := one_cellK wr (.int .i64 (v : Int)) 3
          have hone : ∀ q ∈ [Value.int .i64 (v : Int)], q.oneCell' = true := fun q hq => by rw [List.mem_singleton.1 hq]; rfl
          have hmx : (corV S v).length + 1 ≤ maxLen := by unfold maxLen; omega
          have hby : ((corV S v).length + 1) * 8 ≤ 140737488355328 := by omega
          have hsA : w4.heap.size ≤ (wr.alloc (.cells #[.int .i64 (v : Int)] 3)).heap.size := by have := hb.size; simp; omega
          have hlow : ∀ q, (Value.slice pc (corV S v).length cc).ownBlock = some q → w4.heap.size ≤ q := fun q h => (hown.lt q h).1
          have HBA : Hid (Below w4.heap.size w4 (wr.alloc (.cells #[.int .i64 (v : Int)] 3))) := hb.alloc hb.size _
          have HV : Hid (v < N) := hlt
          have fin : Hid (∀ (p8 : Option Addr) (c8 : Nat) (w8 : World), w8.ownsRow w4.heap.size 3 1 (.slice p8 ((corV S v).length + 1) c8) ((corV S v).length + 1) ((corV S v).map (Value.int .i64) ++ [.int .i64 (v : Int)]) → w8.ownsRow w4.heap.size 3 1 (.slice p8 ((corV S v).length + 1) c8) (corV S (v + 1)).length ((corV S (v + 1)).map (Value.int .i64))) := fun p8 c8 w8 h => by rw [HCI.out, List.length_append, List.map_append]; exact h
          clear hgood hbad h2 HSM hb
          generalize (nb S (v : Int)).length = m at *
          generalize (corV S v).length = cl at *
          by_cases c0 : cl = 0
          · have t1 : decide ((0 : Int) < (cl : Int)) = false := decide_eq_false (by omega)
            have t1n : decide (0 < cl) = false := decide_eq_false (by omega)
            clear c0
            generalize dgv S v = dd at *
            go_wp2_with (at_builtin; refine wpList_append_own_at _ rfl _ _ 25 rfl w4.heap.size 3 i0 (.int .i64 0) 1 8 Try.underlying25 hi0 hz0 hz1 hz2 rfl (by decide) (.slice pc cl cc) _ _ rfl hownA ⟨wr.heap.size, 0, none⟩ 1 1 [.int .i64 (v : Int)] rfl rfl hnw hone hmx hby hsA ?_; intro v8 w8 hown8 hg8 hnil8 hat8; obtain ⟨p8, c8, rfl⟩ := owns_form hown8)
            exact ⟨⟨v + 1, HV.out, by go_num, by rw [HSI.out.2], fin.out _ _ _ hown8, HSI.out.1, HBA.out.grown hg8 hsA hlow⟩, by have := HV.out; simp [intOf]; omega⟩
          · have t1 : decide ((0 : Int) < (cl : Int)) = true := decide_eq_true (by omega)
            have t1n : decide (0 < cl) = true := decide_eq_true (by omega)
            have hdd : dgv S v = m := t12.out.resolve_left c0
            have t2 : (((dgv S v : Nat) : Int) != (m : Int)) = false := by rw [hdd]; simp
            have t2n : (dgv S v != m) = false := by rw [hdd]; simp
            clear c0 hdd
            generalize dgv S v = dd at *
            go_wp2_with (at_builtin; refine wpList_append_own_at _ rfl _ _ 25 rfl w4.heap.size 3 i0 (.int .i64 0) 1 8 Try.underlying25 hi0 hz0 hz1 hz2 rfl (by decide) (.slice pc cl cc) _ _ rfl hownA ⟨wr.heap.size, 0, none⟩ 1 1 [.int .i64 (v : Int)] rfl rfl hnw hone hmx hby hsA ?_; intro v8 w8 hown8 hg8 hnil8 hat8; obtain ⟨p8, c8, rfl⟩ := owns_form hown8)
            exact ⟨⟨v + 1, HV.out, by go_num, by rw [HSI.out.2], fin.out _ _ _ hown8, HSI.out.1, HBA.out.grown hg8 hsA hlow⟩, by have := HV.out; simp [intOf]; omega⟩
      · have h2' : decide ((2 : Int) < ((nb S (v : Int)).length : Int)) = false := decide_eq_false (by omega)
        have h2n : decide (2 < (nb S (v : Int)).length) = false := decide_eq_false h2
        have HCO : Hid _ := corV_out h2
        have HDO : Hid (dgv S (v + 1) = dgv S v) := by unfold Hid dgv; rw [HCO.out]
        clear h2
        generalize (nb S (v : Int)).length = m at *
        go_wp2
        exact ⟨⟨v + 1, by omega, by go_num, by rw [HDO.out], by rw [HCO.out]; exact hown, by rw [HCO.out]; exact HSM, hb⟩, by simp [intOf]; omega⟩
    · obtain rfl : v = N := by omega
      have hvl : ¬ (v : Int) < (v : Int) := by omega
      have hIC := owns_intsK hown
      have HJN : Hid (∀ x y W, Below wr.heap.size wr W → Calls Try.prog 30 #[.slice pw ws.length cw, .int .i64 x, .int .i64 y] W fun r w' => r = .returned (.int .i64 (joinN ws x y : Int)) ∧ Grew W w') := fun x y W hW => joined_any ws (by have := HLen.out; omega) HIn.out x y _ W (Lsts.go (Lsts.go HLs4.out hb) hW)
      have HDG : Hid (∀ h : (corV S v).length ≠ 0, dgv S v = (nb S ((corV S v).getD 0 0)).length) := fun h => by unfold dgv; rw [if_neg h]
      have HRC : Hid (rcls (corV S v) (joinN ws) (fun v => (nb S v).length) ws.length = (if (corV S v).length = 5 ∧ (nb S ((corV S v).getD 0 0)).length = 4 ∧ ws.length = 10 then (if pairsB (corV S v) (joinN ws) (fun _ _ => 1) = true then 5 else 0) else if (corV S v).length = 6 ∧ (nb S ((corV S v).getD 0 0)).length = 3 ∧ ws.length = 9 then (if pairsB (corV S v) (joinN ws) (wantN (rotL (corV S v) (joinN ws))) = true ∧ (rotL (corV S v) (joinN ws)).length = 3 then 33 else 0) else 0)) := by
        unfold Hid rcls
        rw [if_pos HSM.out]
      have HJL : Hid (∀ x y, joinN ws x y ≤ 900) := fun x y => Nat.le_trans (joinN_le ws x y) HLen.out
      obtain ⟨rc, hrc⟩ : ∃ rc, rcls (corV S v) (joinN ws) (fun v => (nb S v).length) ws.length = rc := ⟨_, rfl⟩
      rw [hrc] at HRC
      have HRE : Hid (rcls (corV S v) (joinN ws) (fun v => (nb S v).length) ws.length = rc) := hrc
      clear hrc hown HSM hb rowAt HNL HLs4 HB4 hcl HIn hlt
      obtain ⟨jn, hjn⟩ : ∃ jn, joinN ws = jn := ⟨_, rfl⟩
      simp only [hjn] at HJN HRC HJL
      clear hjn
      obtain ⟨dd, hdd⟩ : ∃ dd, dgv S v = dd := ⟨_, rfl⟩
      rw [hdd] at HDG ⊢
      clear hdd
      obtain ⟨D0, hD0⟩ : ∃ D0, (nb S ((corV S v).getD 0 0)).length = D0 := ⟨_, rfl⟩
      rw [hD0] at HDG HRC
      clear hD0
      obtain ⟨C, hC⟩ : ∃ C, corV S v = C := ⟨_, rfl⟩
      rw [hC] at HDG HRC hIC ⊢
      clear hC
      obtain ⟨W9, hW9⟩ : ∃ W9, ws.length = W9 := ⟨_, rfl⟩
      rw [hW9] at HRC HJN ⊢
      have HWL : Hid (W9 ≤ 900) := by unfold Hid; rw [← hW9]; exact HLen.out
      clear hW9
      obtain ⟨cl, hcl⟩ : ∃ cl, C.length = cl := ⟨_, rfl⟩
      rw [hcl] at HDG HRC hIC ⊢
      have HCL : Hid (C.length = cl) := hcl
      clear hcl
      by_cases h5 : cl = 5
      · subst h5
        have hdd : dd = D0 := HDG.out (by omega)
        subst hdd
        by_cases h4 : dd = 4
        · subst h4
          by_cases h10 : W9 = 10
          · subst h10
            have HR1 : Hid (rc = if pairsB C jn (fun _ _ => 1) = true then 5 else 0) := by have := HRC.out; rw [if_pos ⟨rfl, rfl, rfl⟩] at this; exact this
            clear HRC HDG
            obtain ⟨w5, rfl⟩ : ∃ w5, w5 = wr := ⟨_, rfl⟩
            obtain ⟨g, off, rfl, hgb, hcap, hcc⟩ := Vals.open (l := C) (n := w5.heap.size) (w := w5) (p := pc) (c := cc) (by rw [HCL.out]; exact hIC) (j := 0) (by rw [HCL.out]; omega)
            have HCC : Hid (∀ W, Grew w5 W → ∀ k, k < 5 → ∀ n os, (Go.Sort.grow (W.drewN n) os).cell? ⟨g, off + k, none⟩ = some (.int .i64 (C.getD k 0))) := fun W hW k hk => by
              have hkl : k < C.length := by rw [HCL.out]; exact hk
              have h1 := hcc W hW.below k hkl
              have e : C.getD k 0 = C[k] := by simp [hkl]
              rw [e]
              exact cell_grown (a := ⟨g, off + k, none⟩) (by have := hW.below.size; simp only; omega) h1
            have HJ9 : Hid (∀ x y W, Grew w5 W → Calls Try.prog 30 #[.slice pw 10 cw, .int .i64 x, .int .i64 y] W fun r w' => r = .returned (.int .i64 (jn x y : Int)) ∧ Grew W w') := fun x y W hW => HJN.out x y W hW.below
            have hcap5 : 5 ≤ cc := by have := hcap; rw [HCL.out] at this; exact this
            clear hcap hcc hIC HJN hgb
            go_wp2
            go_loopw [14] (fun iv wx => ∃ i : Nat, i ≤ 5 ∧ iv = .int .i64 i ∧ Hid (∀ i' j', j' < i' → i' < i → jn (C.getD i' 0) (C.getD j' 0) = 1) ∧ Grew w5 wx) (fun iv _ => 5 - (intOf iv).toNat)
            case atStart => exact ⟨0, Nat.zero_le _, rfl, fun i' j' _ h => absurd h (Nat.not_lt_zero _), Grew.refl _⟩
            case round =>
              obtain ⟨i, hi, rfl, HP, hg⟩ := hrel
              by_cases hi5 : i < 5
              · have hi5' : (i : Int) < 5 := by omega
                go_wp2
                go_loopw [15] (fun jv wx => ∃ j : Nat, j ≤ i ∧ jv = .int .i64 j ∧ Hid (∀ j', j' < j → jn (C.getD i 0) (C.getD j' 0) = 1) ∧ Grew w5 wx) (fun jv _ => i - (intOf jv).toNat)
                case atStart => exact ⟨0, Nat.zero_le _, rfl, fun j' h => absurd h (Nat.not_lt_zero _), hg⟩
                case round =>
                  clear hg
                  obtain ⟨j, hj, rfl, HQ, hg⟩ := hrel
                  by_cases hji : j < i
                  · have hji' : (j : Int) < (i : Int) := by omega
                    have c0' := HCC.out wr hg i hi5
                    have d0' := HCC.out wr hg j (by omega)
                    have hj5' : (j : Int) < 5 := by omega
                    have hic : ∀ W, Grew wr W → Calls Try.prog 30 #[.slice pw 10 cw, .int .i64 (C.getD i 0), .int .i64 (C.getD j 0)] W fun r w' => r = .returned (.int .i64 (jn (C.getD i 0) (C.getD j 0) : Int)) ∧ Grew W w' := fun W hW => HJ9.out _ _ W (hg.trans hW)
                    have HN : Hid (jn (C.getD i 0) (C.getD j 0) ≠ 1 → rc = 0) := fun h => by
                      rw [HR1.out]
                      refine if_neg fun hp => h ?_
                      exact pairsB_iff.1 hp i j hji (by rw [HCL.out]; exact hi5)
                    have HQ1 : Hid (jn (C.getD i 0) (C.getD j 0) = 1 → ∀ j', j' < j + 1 → jn (C.getD i 0) (C.getD j' 0) = 1) := fun h j' hj' => by
                      by_cases e : j' = j
                      · subst e; exact h
                      · exact HQ.out j' (by omega)
                    obtain ⟨kk, hkk⟩ : ∃ kk, jn (C.getD i 0) (C.getD j 0) = kk := ⟨_, rfl⟩
                    rw [hkk] at hic HN HQ1
                    obtain ⟨x, hx⟩ : ∃ x, C.getD i 0 = x := ⟨_, rfl⟩
                    obtain ⟨y, hy⟩ : ∃ y, C.getD j 0 = y := ⟨_, rfl⟩
                    simp only [hx, hy] at c0' d0' hic
                    clear hx hy
                    clear hkk HQ
                    by_cases hk1 : kk = 1
                    · subst hk1
                      have HQ2 : Hid _ := HQ1.out rfl
                      clear HQ1 HN
                      go_wp2
                      go_quiet_grown (first | (go_at_call 30; refine Calls.grown_of (hic _ ⟨_, _, rfl⟩)))
                      have hgq := hg.trans ⟨nq, osq, rfl⟩
                      generalize Go.Sort.grow (wr.drewN nq) osq = w8 at hgq ⊢
                      clear c0' d0' hic
                      go_wp2
                      exact ⟨⟨j + 1, by omega, by go_num, HQ2, hgq⟩, by simp [intOf]; omega⟩
                    · have t1 : ((kk : Int) != 1) = true := by simp; omega
                      have HR0 : Hid (rc = 0) := HN.out hk1
                      clear HQ1 HN hk1
                      go_wp2
                      go_quiet_grown (first | (go_at_call 30; refine Calls.grown_of (hic _ ⟨_, _, rfl⟩)))
                      have hgq := hg.trans ⟨nq, osq, rfl⟩
                      generalize Go.Sort.grow (wr.drewN nq) osq = w8 at hgq ⊢
                      clear c0' d0' hic
                      have HB8 : Hid (Below w.heap.size w w8) := HBW.out.trans (hgq.below.mono HBW.out.size)
                      go_wp2
                      go_ret2
                      exact ⟨by rw [HRE.out, HR0.out]; rfl, HB8.out⟩
                  · obtain rfl : j = i := by omega
                    have hji' : ¬ (j : Int) < (j : Int) := by omega
                    have HP2 : Hid (∀ i' j', j' < i' → i' < j + 1 → jn (C.getD i' 0) (C.getD j' 0) = 1) := fun i' j' h1 h2 => by
                      by_cases e : i' = j
                      · subst e; exact HQ.out j' h1
                      · exact HP.out i' j' h1 (by omega)
                    clear HP HQ
                    go_wp2
                    exact ⟨⟨j + 1, by omega, by go_num, HP2, hg⟩, by simp [intOf]; omega⟩
              · obtain rfl : i = 5 := by omega
                have HR0 : Hid (rc = 5) := by
                  unfold Hid
                  rw [HR1.out]
                  exact if_pos (pairsB_iff.2 fun i' j' h1 h2 => HP.out i' j' h1 (by rw [HCL.out] at h2; exact h2))
                have HB8 : Hid (Below w.heap.size w wr) := HBW.out.trans (hg.below.mono HBW.out.size)
                clear HP HR1
                go_wp2
                go_ret2
                exact ⟨by rw [HRE.out, HR0.out]; rfl, HB8.out⟩
          · have t1 : ((W9 : Int) == 10) = false := by simp; omega
            have HR0 : Hid (rc = 0) := by have := HRC.out; rw [if_neg (by omega), if_neg (by omega)] at this; exact this
            clear h10 HRC HDG HJN
            go_wp2
            go_ret2
            exact ⟨by rw [HRE.out, HR0.out]; rfl, HBW.out⟩
        · have t1 : ((dd : Int) == 4) = false := by simp; omega
          have HR0 : Hid (rc = 0) := by have := HRC.out; rw [if_neg (by omega), if_neg (by omega)] at this; exact this
          clear h4 HRC HDG HJN
          go_wp2
          go_ret2
          exact ⟨by rw [HRE.out, HR0.out]; rfl, HBW.out⟩
      · have t5 : ((cl : Int) == 5) = false := by simp; omega
        by_cases h6 : cl = 6
        · subst h6
          have hdd : dd = D0 := HDG.out (by omega)
          subst hdd
          by_cases h3 : dd = 3
          · subst h3
            by_cases h9 : W9 = 9
            · subst h9
              have HR1 : Hid (rc = if pairsB C jn (wantN (rotL C jn)) = true ∧ (rotL C jn).length = 3 then 33 else 0) := by have := HRC.out; rw [if_neg (by omega), if_pos ⟨rfl, rfl, rfl⟩] at this; exact this
              clear HRC HDG h5 t5
              obtain ⟨w5, rfl⟩ : ∃ w5, w5 = wr := ⟨_, rfl⟩
              obtain ⟨g, off, rfl, hgb, hcap, hcc⟩ := Vals.open (l := C) (n := w5.heap.size) (w := w5) (p := pc) (c := cc) (by rw [HCL.out]; exact hIC) (j := 0) (by rw [HCL.out]; omega)
              have HCC : Hid (∀ W, Below w5.heap.size w5 W → ∀ k, k < 6 → W.cell? ⟨g, off + k, none⟩ = some (.int .i64 (C.getD k 0))) := fun W hW k hk => by
                have hkl : k < C.length := by rw [HCL.out]; exact hk
                have h1 := hcc W hW k hkl
                have e : C.getD k 0 = C[k] := by simp [hkl]
                rw [e]
                exact h1
              have HGB : Hid (g < w5.heap.size) := hgb
              have HJ9 : Hid (∀ x y W, Below w5.heap.size w5 W → Calls Try.prog 30 #[.slice pw 9 cw, .int .i64 x, .int .i64 y] W fun r w' => r = .returned (.int .i64 (jn x y : Int)) ∧ Grew W w') := fun x y W hW => HJN.out x y W hW
              have hcap5 : 6 ≤ cc := by have := hcap; rw [HCL.out] at this; exact this
              have HC0 : Hid (C.drop 1 = ((List.range 5).map fun k => C.getD (k + 1) 0)) := by
                unfold Hid
                apply List.ext_getElem
                · simp [HCL.out]
                · intro k h1 h2
                  have hk : k + 1 < C.length := by rw [List.length_drop] at h1; omega
                  rw [List.getElem_drop, List.getElem_map, List.getElem_range]
                  have e : C.getD (k + 1) 0 = C[k + 1] := by simp [hk]
                  rw [e]
                  congr 1
                  omega
              clear hcap hcc hIC HJN hgb
              go_wp2
              go_loopw [16, 17] (fun ov iv wx => ∃ i : Nat, Hid (1 ≤ i) ∧ i ≤ 6 ∧ iv = .int .i64 i ∧ wx.ownsRow w5.heap.size 3 1 ov (rotT C jn (i - 1)).length ((rotT C jn (i - 1)).map (Value.int .i64)) ∧ Below w5.heap.size w5 wx) (fun _ iv _ => 6 - (intOf iv).toNat)
              case atStart => exact ⟨1, Nat.le_refl _, by omega, rfl, World.ownsRow_nil _ _ _ _, Below.refl _ _⟩
              case round =>
                obtain ⟨i1, H1, hi, rfl, hown, hb⟩ := hrel
                obtain ⟨po, co, rfl⟩ := owns_form hown
                by_cases hi5 : i1 < 6
                · have hi6 : (i1 : Int) < 6 := by omega
                  obtain ⟨i, hie⟩ : ∃ i, i1 = i + 1 := ⟨i1 - 1, by have := H1.out; omega⟩
                  have e1 : i1 - 1 = i := by omega
                  rw [e1] at hown ⊢
                  have hrl := rotT_len C jn i
                  have c0 := HCC.out wr hb 0 (by omega)
                  rw [Nat.add_zero] at c0
                  have d0 := HCC.out wr hb i1 hi5
                  have hgw : g < wr.heap.size := by have := hb.size; have := HGB.out; omega
                  have c0' := cell_grown (a := ⟨g, off, none⟩) hgw c0
                  have d0' := cell_grown (a := ⟨g, off + i1, none⟩) hgw d0
                  have hic : ∀ W, Grew wr W → Calls Try.prog 30 #[.slice pw 9 cw, .int .i64 (C.getD 0 0), .int .i64 (C.getD i1 0)] W fun r w' => r = .returned (.int .i64 (jn (C.getD 0 0) (C.getD i1 0) : Int)) ∧ Grew W w' := fun W hW => HJ9.out _ _ W (hb.trans (hW.below.mono hb.size))
                  have HYes : Hid _ := rotT_in (C := C) (jn := jn) (i := i)
                  have HNo : Hid _ := rotT_out (C := C) (jn := jn) (i := i)
                  rw [← hie] at HYes HNo
                  have HI : Hid (i1 = i + 1 ∧ i < 5) := ⟨hie, by omega⟩
                  obtain ⟨kk, hkk⟩ : ∃ kk, jn (C.getD 0 0) (C.getD i1 0) = kk := ⟨_, rfl⟩
                  rw [hkk] at hic HYes HNo
                  obtain ⟨x, hx⟩ : ∃ x, C.getD 0 0 = x := ⟨_, rfl⟩
                  obtain ⟨y, hy⟩ : ∃ y, C.getD i1 0 = y := ⟨_, rfl⟩
                  rw [hx] at c0'
                  simp only [hx, hy] at d0' hic
                  rw [hy] at HYes
                  have hrl2 : (rotT C jn i).length ≤ 5 := by omega
                  clear hkk hx hy c0 hi hi5 hie e1 d0 hrl
                  by_cases hk1 : kk = 1
                  · subst hk1
                    have HY : Hid _ := HYes.out rfl
                    clear HYes HNo
                    go_wp2
                    go_quiet_grown (first | (go_at_call 30; refine Calls.grown_of (hic _ ⟨_, _, rfl⟩)))
                    have hgq : Grew wr (Go.Sort.grow (wr.drewN nq) osq) := ⟨nq, osq, rfl⟩
                    have hb8 := hb.trans (hgq.below.mono hb.size)
                    have hown8 := owns_below hown hgq.below
                    have d8 := d0' nq osq
                    clear c0' d0' hic hown hb
                    generalize Go.Sort.grow (wr.drewN nq) osq = w8 at hgq hb8 hown8 d8 ⊢
                    have fin : Hid (∀ (p8 : Option Addr) (c8 : Nat) (W : World), W.ownsRow w5.heap.size 3 1 (.slice p8 ((rotT C jn i).length + 1) c8) ((rotT C jn i).length + 1) ((rotT C jn i).map (Value.int .i64) ++ [.int .i64 y]) → W.ownsRow w5.heap.size 3 1 (.slice p8 ((rotT C jn i).length + 1) c8) (rotT C jn (i1 + 1 - 1)).length ((rotT C jn (i1 + 1 - 1)).map (Value.int .i64))) := fun p8 c8 W h => by rw [Nat.add_sub_cancel, HY.out, List.length_append, List.map_append]; exact h
                    generalize (rotT C jn i).length = rl at *
                    have hownA := hown8.alloc (.cells #[.int .i64 y] 3)
                    have hnw := one_cellK w8 (.int .i64 y) 3
                    have hone : ∀ q ∈ [Value.int .i64 y], q.oneCell' = true := fun q hq => by rw [List.mem_singleton.1 hq]; rfl
                    have hmx : rl + 1 ≤ maxLen := by unfold maxLen; omega
                    have hby : (rl + 1) * 8 ≤ 140737488355328 := by omega
                    have hsA : w5.heap.size ≤ (w8.alloc (.cells #[.int .i64 y] 3)).heap.size := by have := hb8.size; simp; omega
                    have hlow : ∀ q, (Value.slice po rl co).ownBlock = some q → w5.heap.size ≤ q := fun q h => (hown8.lt q h).1
                    have HBA : Hid (Below w5.heap.size w5 (w8.alloc (.cells #[.int .i64 y] 3))) := hb8.alloc hb8.size _
                    clear hb8 hown8 hgq
                    go_wp2_with (at_builtin; refine wpList_append_own_at _ rfl _ _ 25 rfl w5.heap.size 3 i0 (.int .i64 0) 1 8 Try.underlying25 hi0 hz0 hz1 hz2 rfl (by decide) (.slice po rl co) _ _ rfl hownA ⟨w8.heap.size, 0, none⟩ 1 1 [.int .i64 y] rfl rfl hnw hone hmx hby hsA ?_; intro v8 w9 hown9 hg9 hnil9 hat9; obtain ⟨p9, c9, rfl⟩ := owns_form hown9)
                    exact ⟨⟨i1 + 1, by unfold Hid; omega, by have := HI.out; omega, by go_num, fin.out _ _ _ hown9, HBA.out.grown hg9 hsA hlow⟩, by have := HI.out; simp [intOf]; omega⟩
                  · have t1 : ((kk : Int) == 1) = false := by simp; omega
                    have HY : Hid _ := HNo.out hk1
                    clear HYes HNo hk1
                    go_wp2
                    go_quiet_grown (first | (go_at_call 30; refine Calls.grown_of (hic _ ⟨_, _, rfl⟩)))
                    have hgq : Grew wr (Go.Sort.grow (wr.drewN nq) osq) := ⟨nq, osq, rfl⟩
                    have hb8 := hb.trans (hgq.below.mono hb.size)
                    have hown8 := owns_below hown hgq.below
                    clear c0' d0' hic hown hb
                    generalize Go.Sort.grow (wr.drewN nq) osq = w8 at hgq hb8 hown8 ⊢
                    go_wp2
                    exact ⟨⟨i1 + 1, by unfold Hid; omega, by have := HI.out; omega, by go_num, by rw [Nat.add_sub_cancel, HY.out]; exact hown8, hb8⟩, by have := HI.out; simp [intOf]; omega⟩
                · obtain rfl : i1 = 6 := by omega
                  have HOT : Hid (rotT C jn (6 - 1) = rotL C jn) := by unfold Hid rotT rotL; rw [HC0.out]
                  rw [HOT.out] at hown
                  rw [HOT.out]
                  have HOI : Hid (Ints wr.heap.size wr (.slice po (rotL C jn).length co) (rotL C jn)) := owns_intsK hown
                  have HOL : Hid ((rotL C jn).length ≤ 5) := by unfold Hid; rw [← HOT.out]; exact rotT_len C jn 5
                  have HBW6 : Hid (Below w.heap.size w wr) := HBW.out.trans (hb.mono HBW.out.size)
                  have HC6 : Hid (∀ W, Grew wr W → ∀ k, k < 6 → ∀ n os, (Go.Sort.grow (W.drewN n) os).cell? ⟨g, off + k, none⟩ = some (.int .i64 (C.getD k 0))) := fun W hW k hk => cell_grown (a := ⟨g, off + k, none⟩) (by have := hW.below.size; have := hb.size; have := HGB.out; simp only; omega) (HCC.out W (hb.trans (hW.below.mono hb.size)) k hk)
                  have HJ6 : Hid (∀ x y W, Grew wr W → Calls Try.prog 30 #[.slice pw 9 cw, .int .i64 x, .int .i64 y] W fun r w' => r = .returned (.int .i64 (jn x y : Int)) ∧ Grew W w') := fun x y W hW => HJ9.out x y W (hb.trans (hW.below.mono hb.size))
                  obtain ⟨ot, hot⟩ : ∃ ot, rotL C jn = ot := ⟨_, rfl⟩
                  rw [hot] at HOI HOL HR1 ⊢
                  have HH6 : Hid (∀ z W, Grew wr W → Calls Try.prog 15 #[.slice po ot.length co, .int .i64 z] W fun r w' => r = .returned (.bool (inB ot z)) ∧ Grew W w') := fun z W hW => (has_any ot (by have := HOL.out; omega) z _ _ W (Vals.go HOI.out hW.below)).mono fun _ _ h => ⟨h.1, by rw [h.2]; exact Grew.refl _⟩
                  clear hot hown hb HCC HJ9 HOT HC0 HOI hi hi5
                  obtain ⟨w6, rfl⟩ : ∃ w6, w6 = wr := ⟨_, rfl⟩
                  have hend : ¬ ((6 : Nat) : Int) < 6 := by omega
                  go_wp2
                  go_loopw [18] (fun iv wx => ∃ i : Nat, i ≤ 6 ∧ iv = .int .i64 i ∧ Hid (∀ i' j', j' < i' → i' < i → jn (C.getD i' 0) (C.getD j' 0) = wantN ot (C.getD i' 0) (C.getD j' 0)) ∧ Grew w6 wx) (fun iv _ => 6 - (intOf iv).toNat)
                  case atStart => exact ⟨0, Nat.zero_le _, rfl, fun i' j' _ h => absurd h (Nat.not_lt_zero _), Grew.refl _⟩
                  case round =>
                    obtain ⟨i, hi, rfl, HP, hg⟩ := hrel
                    by_cases hi6 : i < 6
                    · have hi6' : (i : Int) < 6 := by omega
                      go_wp2
                      go_loopw [19] (fun jv wx => ∃ j : Nat, j ≤ i ∧ jv = .int .i64 j ∧ Hid (∀ j', j' < j → jn (C.getD i 0) (C.getD j' 0) = wantN ot (C.getD i 0) (C.getD j' 0)) ∧ Grew w6 wx) (fun jv _ => i - (intOf jv).toNat)
                      case atStart => exact ⟨0, Nat.zero_le _, rfl, fun j' h => absurd h (Nat.not_lt_zero _), hg⟩
                      case round =>
                        clear hg
                        obtain ⟨j, hj, rfl, HQ, hg⟩ := hrel
                        by_cases hji : j < i
                        · have hji' : (j : Int) < (i : Int) := by omega
                          have hj6' : (j : Int) < 6 := by omega
                          have c0' := HC6.out wr hg i hi6
                          have d0' := HC6.out wr hg j (by omega)
                          have hh : ∀ z W, Grew wr W → Calls Try.prog 15 #[.slice po ot.length co, .int .i64 z] W fun r w' => r = .returned (.bool (inB ot z)) ∧ Grew W w' := fun z W hW => HH6.out z W (hg.trans hW)
                          obtain ⟨x, hx⟩ : ∃ x, C.getD i 0 = x := ⟨_, rfl⟩
                          obtain ⟨y, hy⟩ : ∃ y, C.getD j 0 = y := ⟨_, rfl⟩
                          have HXX : Hid (C.getD i 0 = x) := hx
                          have HYY : Hid (C.getD j 0 = y) := hy
                          simp only [hx] at c0'
                          simp only [hy] at d0'
                          clear hx hy
                          obtain ⟨f1, hf1⟩ : ∃ f1, inB ot x = f1 := ⟨_, rfl⟩
                          obtain ⟨f2, hf2⟩ : ∃ f2, inB ot y = f2 := ⟨_, rfl⟩
                          have HX1 : Hid (inB ot x = f1) := hf1
                          have HX2 : Hid (inB ot y = f2) := hf2
                          cases f1 <;> cases f2
                          · go_wp2
                            go_quiet_grown (first | (go_at_call 15; refine Calls.grown_of (hh _ _ ⟨_, _, rfl⟩)))
                            have HWN : Hid (wantN ot (C.getD i 0) (C.getD j 0) = 0) := by unfold Hid wantN; rw [HXX.out, HYY.out, HX1.out, HX2.out]; rfl
                            have g8 := hg.trans (⟨nq, osq, rfl⟩ : Grew wr (Go.Sort.grow (wr.drewN nq) osq))
                            clear c0' d0' hh HX1 HX2
                            generalize Go.Sort.grow (wr.drewN nq) osq = w8 at g8 ⊢
                            have c1 := HC6.out w8 g8 i hi6
                            have d1 := HC6.out w8 g8 j (by omega)
                            have hic : ∀ W, Grew w8 W → Calls Try.prog 30 #[.slice pw 9 cw, .int .i64 (C.getD i 0), .int .i64 (C.getD j 0)] W fun r w' => r = .returned (.int .i64 (jn (C.getD i 0) (C.getD j 0) : Int)) ∧ Grew W w' := fun W hW => HJ6.out _ _ W (g8.trans hW)
                            have HN : Hid (jn (C.getD i 0) (C.getD j 0) ≠ 0 → rc = 0) := fun h => by
                              rw [HR1.out]
                              refine if_neg fun hp => h ?_
                              rw [← HWN.out]
                              exact pairsB_iff.1 hp.1 i j hji (by rw [HCL.out]; exact hi6)
                            have HQ1 : Hid (jn (C.getD i 0) (C.getD j 0) = 0 → ∀ j', j' < j + 1 → jn (C.getD i 0) (C.getD j' 0) = wantN ot (C.getD i 0) (C.getD j' 0)) := fun h j' hj' => by
                              by_cases e : j' = j
                              · subst e; rw [HWN.out]; exact h
                              · exact HQ.out j' (by omega)
                            obtain ⟨kk, hkk⟩ : ∃ kk, jn (C.getD i 0) (C.getD j 0) = kk := ⟨_, rfl⟩
                            rw [hkk] at hic HN HQ1
                            simp only [HXX.out] at c1 hic
                            simp only [HYY.out] at d1 hic
                            clear hkk HQ HWN
                            by_cases hk1 : kk = 0
                            · subst hk1
                              have HQ2 : Hid _ := HQ1.out rfl
                              clear HQ1 HN
                              go_wp2
                              go_quiet_grown (first | (go_at_call 30; refine Calls.grown_of (hic _ ⟨_, _, rfl⟩)))
                              have g9 := g8.trans (⟨nq, osq, rfl⟩ : Grew w8 (Go.Sort.grow (w8.drewN nq) osq))
                              clear c1 d1 hic
                              generalize Go.Sort.grow (w8.drewN nq) osq = w9 at g9 ⊢
                              go_wp2
                              exact ⟨⟨j + 1, by omega, by go_num, HQ2, g9⟩, by simp [intOf]; omega⟩
                            · have t1 : ((kk : Int) != 0) = true := by simp; omega
                              have HR0 : Hid (rc = 0) := HN.out hk1
                              clear HQ1 HN hk1
                              go_wp2
                              go_quiet_grown (first | (go_at_call 30; refine Calls.grown_of (hic _ ⟨_, _, rfl⟩)))
                              have g9 := g8.trans (⟨nq, osq, rfl⟩ : Grew w8 (Go.Sort.grow (w8.drewN nq) osq))
                              clear c1 d1 hic
                              generalize Go.Sort.grow (w8.drewN nq) osq = w9 at g9 ⊢
                              have HB9 : Hid (Below w.heap.size w w9) := HBW6.out.trans (g9.below.mono HBW6.out.size)
                              go_wp2
                              go_ret2
                              exact ⟨by rw [HRE.out, HR0.out]; rfl, HB9.out⟩
                          · go_wp2
                            go_quiet_grown (first | (go_at_call 15; refine Calls.grown_of (hh _ _ ⟨_, _, rfl⟩)))
                            have HWN : Hid (wantN ot (C.getD i 0) (C.getD j 0) = 1) := by unfold Hid wantN; rw [HXX.out, HYY.out, HX1.out, HX2.out]; rfl
                            have g8 := hg.trans (⟨nq, osq, rfl⟩ : Grew wr (Go.Sort.grow (wr.drewN nq) osq))
                            clear c0' d0' hh HX1 HX2
                            generalize Go.Sort.grow (wr.drewN nq) osq = w8 at g8 ⊢
                            have c1 := HC6.out w8 g8 i hi6
                            have d1 := HC6.out w8 g8 j (by omega)
                            have hic : ∀ W, Grew w8 W → Calls Try.prog 30 #[.slice pw 9 cw, .int .i64 (C.getD i 0), .int .i64 (C.getD j 0)] W fun r w' => r = .returned (.int .i64 (jn (C.getD i 0) (C.getD j 0) : Int)) ∧ Grew W w' := fun W hW => HJ6.out _ _ W (g8.trans hW)
                            have HN : Hid (jn (C.getD i 0) (C.getD j 0) ≠ 1 → rc = 0) := fun h => by
                              rw [HR1.out]
                              refine if_neg fun hp => h ?_
                              rw [← HWN.out]
                              exact pairsB_iff.1 hp.1 i j hji (by rw [HCL.out]; exact hi6)
                            have HQ1 : Hid (jn (C.getD i 0) (C.getD j 0) = 1 → ∀ j', j' < j + 1 → jn (C.getD i 0) (C.getD j' 0) = wantN ot (C.getD i 0) (C.getD j' 0)) := fun h j' hj' => by
                              by_cases e : j' = j
                              · subst e; rw [HWN.out]; exact h
                              · exact HQ.out j' (by omega)
                            obtain ⟨kk, hkk⟩ : ∃ kk, jn (C.getD i 0) (C.getD j 0) = kk := ⟨_, rfl⟩
                            rw [hkk] at hic HN HQ1
                            simp only [HXX.out] at c1 hic
                            simp only [HYY.out] at d1 hic
                            clear hkk HQ HWN
                            by_cases hk1 : kk = 1
                            · subst hk1
                              have HQ2 : Hid _ := HQ1.out rfl
                              clear HQ1 HN
                              go_wp2
                              go_quiet_grown (first | (go_at_call 30; refine Calls.grown_of (hic _ ⟨_, _, rfl⟩)))
                              have g9 := g8.trans (⟨nq, osq, rfl⟩ : Grew w8 (Go.Sort.grow (w8.drewN nq) osq))
                              clear c1 d1 hic
                              generalize Go.Sort.grow (w8.drewN nq) osq = w9 at g9 ⊢
                              go_wp2
                              exact ⟨⟨j + 1, by omega, by go_num, HQ2, g9⟩, by simp [intOf]; omega⟩
                            · have t1 : ((kk : Int) != 1) = true := by simp; omega
                              have HR0 : Hid (rc = 0) := HN.out hk1
                              clear HQ1 HN hk1
                              go_wp2
                              go_quiet_grown (first | (go_at_call 30; refine Calls.grown_of (hic _ ⟨_, _, rfl⟩)))
                              have g9 := g8.trans (⟨nq, osq, rfl⟩ : Grew w8 (Go.Sort.grow (w8.drewN nq) osq))
                              clear c1 d1 hic
                              generalize Go.Sort.grow (w8.drewN nq) osq = w9 at g9 ⊢
                              have HB9 : Hid (Below w.heap.size w w9) := HBW6.out.trans (g9.below.mono HBW6.out.size)
                              go_wp2
                              go_ret2
                              exact ⟨by rw [HRE.out, HR0.out]; rfl, HB9.out⟩
                          · go_wp2
                            go_quiet_grown (first | (go_at_call 15; refine Calls.grown_of (hh _ _ ⟨_, _, rfl⟩)))
                            have HWN : Hid (wantN ot (C.getD i 0) (C.getD j 0) = 1) := by unfold Hid wantN; rw [HXX.out, HYY.out, HX1.out, HX2.out]; rfl
                            have g8 := hg.trans (⟨nq, osq, rfl⟩ : Grew wr (Go.Sort.grow (wr.drewN nq) osq))
                            clear c0' d0' hh HX1 HX2
                            generalize Go.Sort.grow (wr.drewN nq) osq = w8 at g8 ⊢
                            have c1 := HC6.out w8 g8 i hi6
                            have d1 := HC6.out w8 g8 j (by omega)
                            have hic : ∀ W, Grew w8 W → Calls Try.prog 30 #[.slice pw 9 cw, .int .i64 (C.getD i 0), .int .i64 (C.getD j 0)] W fun r w' => r = .returned (.int .i64 (jn (C.getD i 0) (C.getD j 0) : Int)) ∧ Grew W w' := fun W hW => HJ6.out _ _ W (g8.trans hW)
                            have HN : Hid (jn (C.getD i 0) (C.getD j 0) ≠ 1 → rc = 0) := fun h => by
                              rw [HR1.out]
                              refine if_neg fun hp => h ?_
                              rw [← HWN.out]
                              exact pairsB_iff.1 hp.1 i j hji (by rw [HCL.out]; exact hi6)
                            have HQ1 : Hid (jn (C.getD i 0) (C.getD j 0) = 1 → ∀ j', j' < j + 1 → jn (C.getD i 0) (C.getD j' 0) = wantN ot (C.getD i 0) (C.getD j' 0)) := fun h j' hj' => by
                              by_cases e : j' = j
                              · subst e; rw [HWN.out]; exact h
                              · exact HQ.out j' (by omega)
                            obtain ⟨kk, hkk⟩ : ∃ kk, jn (C.getD i 0) (C.getD j 0) = kk := ⟨_, rfl⟩
                            rw [hkk] at hic HN HQ1
                            simp only [HXX.out] at c1 hic
                            simp only [HYY.out] at d1 hic
                            clear hkk HQ HWN
                            by_cases hk1 : kk = 1
                            · subst hk1
                              have HQ2 : Hid _ := HQ1.out rfl
                              clear HQ1 HN
                              go_wp2
                              go_quiet_grown (first | (go_at_call 30; refine Calls.grown_of (hic _ ⟨_, _, rfl⟩)))
                              have g9 := g8.trans (⟨nq, osq, rfl⟩ : Grew w8 (Go.Sort.grow (w8.drewN nq) osq))
                              clear c1 d1 hic
                              generalize Go.Sort.grow (w8.drewN nq) osq = w9 at g9 ⊢
                              go_wp2
                              exact ⟨⟨j + 1, by omega, by go_num, HQ2, g9⟩, by simp [intOf]; omega⟩
                            · have t1 : ((kk : Int) != 1) = true := by simp; omega
                              have HR0 : Hid (rc = 0) := HN.out hk1
                              clear HQ1 HN hk1
                              go_wp2
                              go_quiet_grown (first | (go_at_call 30; refine Calls.grown_of (hic _ ⟨_, _, rfl⟩)))
                              have g9 := g8.trans (⟨nq, osq, rfl⟩ : Grew w8 (Go.Sort.grow (w8.drewN nq) osq))
                              clear c1 d1 hic
                              generalize Go.Sort.grow (w8.drewN nq) osq = w9 at g9 ⊢
                              have HB9 : Hid (Below w.heap.size w w9) := HBW6.out.trans (g9.below.mono HBW6.out.size)
                              go_wp2
                              go_ret2
                              exact ⟨by rw [HRE.out, HR0.out]; rfl, HB9.out⟩
                          · go_wp2
                            go_quiet_grown (first | (go_at_call 15; refine Calls.grown_of (hh _ _ ⟨_, _, rfl⟩)))
                            have HWN : Hid (wantN ot (C.getD i 0) (C.getD j 0) = 0) := by unfold Hid wantN; rw [HXX.out, HYY.out, HX1.out, HX2.out]; rfl
                            have g8 := hg.trans (⟨nq, osq, rfl⟩ : Grew wr (Go.Sort.grow (wr.drewN nq) osq))
                            clear c0' d0' hh HX1 HX2
                            generalize Go.Sort.grow (wr.drewN nq) osq = w8 at g8 ⊢
                            have c1 := HC6.out w8 g8 i hi6
                            have d1 := HC6.out w8 g8 j (by omega)
                            have hic : ∀ W, Grew w8 W → Calls Try.prog 30 #[.slice pw 9 cw, .int .i64 (C.getD i 0), .int .i64 (C.getD j 0)] W fun r w' => r = .returned (.int .i64 (jn (C.getD i 0) (C.getD j 0) : Int)) ∧ Grew W w' := fun W hW => HJ6.out _ _ W (g8.trans hW)
                            have HN : Hid (jn (C.getD i 0) (C.getD j 0) ≠ 0 → rc = 0) := fun h => by
                              rw [HR1.out]
                              refine if_neg fun hp => h ?_
                              rw [← HWN.out]
                              exact pairsB_iff.1 hp.1 i j hji (by rw [HCL.out]; exact hi6)
                            have HQ1 : Hid (jn (C.getD i 0) (C.getD j 0) = 0 → ∀ j', j' < j + 1 → jn (C.getD i 0) (C.getD j' 0) = wantN ot (C.getD i 0) (C.getD j' 0)) := fun h j' hj' => by
                              by_cases e : j' = j
                              · subst e; rw [HWN.out]; exact h
                              · exact HQ.out j' (by omega)
                            obtain ⟨kk, hkk⟩ : ∃ kk, jn (C.getD i 0) (C.getD j 0) = kk := ⟨_, rfl⟩
                            rw [hkk] at hic HN HQ1
                            simp only [HXX.out] at c1 hic
                            simp only [HYY.out] at d1 hic
                            clear hkk HQ HWN
                            by_cases hk1 : kk = 0
                            · subst hk1
                              have HQ2 : Hid _ := HQ1.out rfl
                              clear HQ1 HN
                              go_wp2
                              go_quiet_grown (first | (go_at_call 30; refine Calls.grown_of (hic _ ⟨_, _, rfl⟩)))
                              have g9 := g8.trans (⟨nq, osq, rfl⟩ : Grew w8 (Go.Sort.grow (w8.drewN nq) osq))
                              clear c1 d1 hic
                              generalize Go.Sort.grow (w8.drewN nq) osq = w9 at g9 ⊢
                              go_wp2
                              exact ⟨⟨j + 1, by omega, by go_num, HQ2, g9⟩, by simp [intOf]; omega⟩
                            · have t1 : ((kk : Int) != 0) = true := by simp; omega
                              have HR0 : Hid (rc = 0) := HN.out hk1
                              clear HQ1 HN hk1
                              go_wp2
                              go_quiet_grown (first | (go_at_call 30; refine Calls.grown_of (hic _ ⟨_, _, rfl⟩)))
                              have g9 := g8.trans (⟨nq, osq, rfl⟩ : Grew w8 (Go.Sort.grow (w8.drewN nq) osq))
                              clear c1 d1 hic
                              generalize Go.Sort.grow (w8.drewN nq) osq = w9 at g9 ⊢
                              have HB9 : Hid (Below w.heap.size w w9) := HBW6.out.trans (g9.below.mono HBW6.out.size)
                              go_wp2
                              go_ret2
                              exact ⟨by rw [HRE.out, HR0.out]; rfl, HB9.out⟩
                        · obtain rfl : j = i := by omega
                          have hji' : ¬ (j : Int) < (j : Int) := by omega
                          have HP2 : Hid (∀ i' j', j' < i' → i' < j + 1 → jn (C.getD i' 0) (C.getD j' 0) = wantN ot (C.getD i' 0) (C.getD j' 0)) := fun i' j' h1 h2 => by
                            by_cases e : i' = j
                            · subst e; exact HQ.out j' h1
                            · exact HP.out i' j' h1 (by omega)
                          clear HP HQ
                          go_wp2
                          exact ⟨⟨j + 1, by omega, by go_num, HP2, hg⟩, by simp [intOf]; omega⟩
                    · obtain rfl : i = 6 := by omega
                      have HPB : Hid (pairsB C jn (wantN ot) = true) := pairsB_iff.2 fun i' j' h1 h2 => HP.out i' j' h1 (by rw [HCL.out] at h2; exact h2)
                      have HB8 : Hid (Below w.heap.size w wr) := HBW6.out.trans (hg.below.mono HBW6.out.size)
                      clear HP
                      by_cases h3 : ot.length = 3
                      · have t1 : ((ot.length : Int) != 3) = false := by simp; omega
                        have HR0 : Hid (rc = 33) := by unfold Hid; rw [HR1.out]; exact if_pos ⟨HPB.out, h3⟩
                        clear h3
                        generalize ot.length = oz at *
                        go_wp2
                        go_ret2
                        exact ⟨by rw [HRE.out, HR0.out]; rfl, HB8.out⟩
                      · have t1 : ((ot.length : Int) != 3) = true := by simp; omega
                        have HR0 : Hid (rc = 0) := by unfold Hid; rw [HR1.out]; exact if_neg fun h => h3 h.2
                        clear h3
                        generalize ot.length = oz at *
                        go_wp2
                        go_ret2
                        exact ⟨by rw [HRE.out, HR0.out]; rfl, HB8.out⟩
            · have t1 : ((W9 : Int) != 9) = true := by simp; omega
              have HR0 : Hid (rc = 0) := by have := HRC.out; rw [if_neg (by omega), if_neg (by omega)] at this; exact this
              clear h9 HRC HDG HJN h5 t5
              go_wp2
              go_ret2
              exact ⟨by rw [HRE.out, HR0.out]; rfl, HBW.out⟩
          · have t1 : ((dd : Int) != 3) = true := by simp; omega
            have HR0 : Hid (rc = 0) := by have := HRC.out; rw [if_neg (by omega), if_neg (by omega)] at this; exact this
            clear h3 HRC HDG HJN h5 t5
            go_wp2
            go_ret2
            exact ⟨by rw [HRE.out, HR0.out]; rfl, HBW.out⟩
        · have t6 : ((cl : Int) != 6) = true := by simp; omega
          have HR0 : Hid (rc = 0) := by have := HRC.out; rw [if_neg (by omega), if_neg (by omega)] at this; exact this
          clear h5 h6 HRC HDG HJN
          go_wp2
          go_ret2
          exact ⟨by rw [HRE.out, HR0.out]; rfl, HBW.out⟩
end Go.Proofs.Ytgjaikekpgdehaa
