/-
  The walk of filigreelaw07.RotationGenus.
-/
import Derived.Test.YtnmlbkmbiecpnaaXRMirror
import Derived.Test.YtnmlbkmbiecpnaaXRFacesLaw
import Derived.BigQuiet
namespace Go.Proofs.Ytnmlbkmbiecpnaa
open Go Go.Proofs Go.RowKit

set_option maxRecDepth 100000 in
set_option maxHeartbeats 8000000 in
theorem genus_law (n : Int) (l : List Ed) (r : List (List Int)) (hr1 : r.length ≤ 9223372036854775807) (sv rv : Value) (w : World) (hl : Edges w.heap.size w sv l) (hr : Lsts w.heap.size w rv r) :
    Calls Try.prog 8 #[.agg #[.int .i64 n, sv], rv] w fun e w' => e = .returned (.bool true) ∧ Below w.heap.size w w' := by
  have hb1 : Below w.heap.size w (w.alloc (.cells #[.int .i64 n, sv] 24)) := (Below.refl _ _).alloc (Nat.le_refl _) _
  have hX1 : Blk 24 (w.alloc (.cells #[.int .i64 n, sv] 24)) w.heap.size [.int .i64 n, sv] := heap_alloc_new w _
  have hlt := lightR_any n l r hr1 40 (by decide) (by decide) sv rv _ (hl.go hb1) (hr.go hb1)
  have q0 := hX1.cell (j := 0) rfl
  have q1 := hX1.cell (j := 1) rfl
  have HL : Hid (Edges w.heap.size w sv l) := hl
  have HR : Hid (Lsts w.heap.size w rv r) := hr
  have HB1 : Hid (Below w.heap.size w (w.alloc (.cells #[.int .i64 n, sv] 24))) := hb1
  have HX1 : Hid (Blk 24 (w.alloc (.cells #[.int .i64 n, sv] 24)) w.heap.size [.int .i64 n, sv]) := hX1
  clear hb1 hX1 hl hr
  have hmix := mixed
  go_enter Try.func8, Try.ntmps8
  go_wp2_with fail
  generalize w.alloc (.cells #[.int .i64 n, sv] 24) = w2 at *
  refine hlt.mono ?_
  clear hlt
  rintro e w3 ⟨bb, rfl, hbb, hb3⟩
  have HB3 : Hid (Below w.heap.size w w3) := HB1.out.trans (hb3.mono HB1.out.size)
  have HX3 : Hid (Blk 24 w3 w.heap.size [.int .i64 n, sv]) := HX1.out.go hb3
  have HBB : Hid (bb = true → lightB n l 40 = true ∧ (r.length : Int) ≤ 2 * 40) := hbb
  clear HB1 HX1 hb3 q0 q1 hbb
  cases bb with
  | false =>
    go_wp2_with fail
    refine (alive_any w3).mono ?_
    rintro e w4 ⟨rfl, hb4⟩
    have HB4 : Hid (Below w.heap.size w w4) := HB3.out.trans (hb4.mono HB3.out.size)
    clear hb4
    go_wp2
    go_ret
    exact ⟨rfl, HB4.out⟩
  | true =>
    have q0 := HX3.out.cell (j := 0) rfl
    have q1 := HX3.out.cell (j := 1) rfl
    have hrc := refSys_any n l r sv rv w3 (HL.out.go HB3.out) (HR.out.go HB3.out)
    by_cases hk : sysK n l r = 0
    · obtain ⟨N, rfl, hR, hS⟩ := sysK_nought hk
      rw [hk] at hrc
      have hlm : l.length ≤ 160 := by have := (lightB_true (HBB.out rfl).1).2; omega
      have hnm : N ≤ 40 := by have := (lightB_true (HBB.out rfl).1).1; omega
      have hrr : ∀ x ∈ r, x.length ≤ 4194304 := fun x hx => by
        obtain ⟨v, hv, rfl⟩ := List.getElem_of_mem hx
        have h0 := hS.len
        have h1 := (hS.perm v (by omega)).length_eq
        rw [List.getD_eq_getElem?_getD, List.getElem?_eq_getElem hv] at h1
        have := nb_len (v : Int) l
        simp only [Option.getD_some] at h1
        omega
      have hrl : r.length ≤ 1048576 := by rw [hS.len]; omega
      have hM := mir_sys hS
      have HEU : Hid (∀ W, Edges W.heap.size W sv l → Lsts W.heap.size W rv r → _) := fun W h1 h2 => euler_any N l hR r hS sv rv W h1 h2
      have HEM : Hid (∀ mv W, Edges W.heap.size W sv l → Lsts W.heap.size W mv (mirL r) → _) := fun mv W h1 h2 => euler_any N l hR (mirL r) hM sv mv W h1 h2
      have HPL : Hid (∀ W, Edges W.heap.size W sv l → Lsts W.heap.size W rv r → _) := fun W h1 h2 => plane_any N l hR r hS sv rv W h1 h2
      have HPM : Hid (∀ mv W, Edges W.heap.size W sv l → Lsts W.heap.size W mv (mirL r) → _) := fun mv W h1 h2 => plane_any N l hR (mirL r) hM sv mv W h1 h2
      have HMI : Hid (∀ W, Lsts W.heap.size W rv r → _) := fun W h => mirror_any r hrl hrr rv W h
      have HCO : Hid (∀ W, Edges W.heap.size W sv l → Calls Try.prog 29 #[.agg #[.int .i64 (N : Int), sv]] W fun e w' => ∃ p c, e = .returned (.slice p (numsL N l r).length c) ∧ Below W.heap.size W w') := fun W h => by
        refine (refComponents_any N l hR sv W h).mono ?_
        rintro e w' ⟨lv, svs, h0, rfl, hG, hb⟩
        obtain ⟨p, c, rfl⟩ := hG.lsts.len
        refine ⟨p, c, ?_, hb⟩
        rw [numsL_len]
        rfl
      have HEV : Hid (∀ (i : Nat) (hi : i < (numsL N l r).length), (numsL N l r)[i] ≤ 2 ∧ Int.tmod (numsL N l r)[i] 2 = 0) := fun i hi => by
        obtain ⟨⟨z, hz⟩, h2⟩ := nums_le hR hS (i := i) (by rw [← numsL_len N l r]; exact hi)
        rw [List.getD_eq_getElem?_getD, List.getElem?_eq_getElem hi] at hz h2
        simp only [Option.getD_some] at hz h2
        refine ⟨h2, ?_⟩
        rw [hz]
        exact Int.mul_tmod_right 2 z
      have HNL : Hid ((numsL N l r).length ≤ 40) := by have := numsL_len N l r; have := (comps_ok hR).few; unfold Hid; omega
      have HMN : Hid (numsL N l (mirL r) = numsL N l r) := mir_nums hR hS
      rw [HMN.out] at HEM HPM
      clear hk hR hS hM hlm hnm hrr hrl HMN
      generalize numsL N l r = nums at *
      go_wp2_with fail
      refine hrc.mono ?_
      clear hrc
      rintro e w4 ⟨rfl, hb4⟩
      have HB4 : Hid (Below w.heap.size w w4) := HB3.out.trans (hb4.mono HB3.out.size)
      have HX4 : Hid (Blk 24 w4 w.heap.size [.int .i64 (N : Int), sv]) := HX3.out.go hb4
      clear hb4 q0 q1 HB3 HX3
      have q0 := HX4.out.cell (j := 0) rfl
      have q1 := HX4.out.cell (j := 1) rfl
      have heu := HEU.out w4 (HL.out.go HB4.out) (HR.out.go HB4.out)
      go_wp2_with fail
      refine heu.mono ?_
      clear heu
      rintro e w5 ⟨lv, rfl, hI5, hb5⟩
      obtain ⟨pa, ca, rfl⟩ := hI5.len
      have HI5 : Hid (Ints w5.heap.size w5 (.slice pa nums.length ca) nums) := hI5
      have HB5 : Hid (Below w.heap.size w w5) := HB4.out.trans (hb5.mono HB4.out.size)
      have hX5 := HX4.out.go hb5
      clear hI5 hb5 q0 q1 HB4 HX4 HEU
      have g0 := hX5.cell (j := 0) rfl
      have g1 := hX5.cell (j := 1) rfl
      have HX5 : Hid (Blk 24 w5 w.heap.size [.int .i64 (N : Int), sv]) := hX5
      clear hX5
      go_wp2_with fail
      generalize hxb : w.heap.size = xb at g0 g1
      refine wp_region_held_drew (S := (fun w' : World => w'.cell? ⟨xb, 0, none⟩ = some (.int .i64 (N : Int)) ∧ w'.cell? ⟨xb, 1, none⟩ = some sv)) (by kernel_rfl) ?_ (fun hHeld => ?_)
      · (try dsimp only); go_keep
      refine wpAnyH_take (i := 0) (v := ?_) rfl (by kernel_rfl) (by kernel_rfl) (by kernel_rfl) (fun _ _ _ h => h) (Or.inl ⟨by rfl, ?_⟩) (by assumption) ?_
      rotate_left
      · intro w hSw; (try dsimp only at hSw); go_simp; (try with_reducible rfl)
      try simp only [Act.put, List.setIfInBounds_toArray]
      refine wpAnyH_take (i := 1) (v := ?_) rfl (by kernel_rfl) (by kernel_rfl) (by kernel_rfl) (fun _ _ _ h => h) (Or.inl ⟨by rfl, ?_⟩) (by assumption) ?_
      rotate_left
      · intro w hSw; (try dsimp only at hSw); go_simp; (try with_reducible rfl)
      try simp only [Act.put]
      refine wpAnyH_ready (rs := [2]) (by kernel_rfl) (by simp) ?_
      refine AllReadyH.cons rfl (fun K hK => ?_) AllReadyH.nil
      go_simp
      have hB5d : Below w.heap.size w w5.drew := below_drewN HB5.out 1
      have hbd : Below w5.heap.size w5 w5.drew := below_drewN (Below.refl _ _) 1
      refine (HMI.out w5.drew (HR.out.go hB5d)).mono ?_
      rintro e w6 ⟨mv, svm, rfl, hG6, hb6⟩
      have hM6 := hG6.lsts
      obtain ⟨pm, cm, rfl⟩ := hM6.len
      refine hK.out _ _ ⟨cell_keepK hb6 hHeld.1, cell_keepK hb6 hHeld.2⟩ (fun hHeld6 => ?_)
      clear hK K hHeld
      have hB6 := hB5d.trans (hb6.mono hB5d.size)
      have hI6 := (HI5.out.go hbd).go hb6
      clear hb6 hB5d hbd hG6
      try simp only [Act.put, List.setIfInBounds_toArray, List.set_cons_zero, List.set_cons_succ]
      refine wpAnyH_ready (rs := [3]) (by kernel_rfl) (by simp) ?_
      refine AllReadyH.cons rfl (fun K hK => ?_) AllReadyH.nil
      go_simp
      refine (HEM.out _ w6 (HL.out.go hB6) hM6).mono ?_
      rintro e w7 ⟨lb, rfl, hI7, hb7⟩
      obtain ⟨pb, cb, rfl⟩ := hI7.len
      refine hK.out _ _ ⟨cell_keepK hb7 hHeld6.1, cell_keepK hb7 hHeld6.2⟩ (fun hHeld7 => ?_)
      clear hK K hHeld6
      have hB7 := hB6.trans (hb7.mono hB6.size)
      have hI77 := hI6.go hb7
      clear hb7 hB6 hI6 hM6
      try simp only [Act.put, List.setIfInBounds_toArray, List.set_cons_zero, List.set_cons_succ]
      refine wpAnyH_take (i := 4) (v := ?_) rfl (by kernel_rfl) (by kernel_rfl) (by kernel_rfl) (fun _ _ _ h => h) (Or.inl ⟨by rfl, ?_⟩) (by assumption) ?_
      rotate_left
      · intro w hSw; (try dsimp only at hSw); go_simp; (try with_reducible rfl)
      try simp only [Act.put]
      refine wpAnyH_take (i := 5) (v := ?_) rfl (by kernel_rfl) (by kernel_rfl) (by kernel_rfl) (fun _ _ _ h => h) (Or.inl ⟨by rfl, ?_⟩) (by assumption) ?_
      rotate_left
      · intro w hSw; (try dsimp only at hSw); go_simp; (try with_reducible rfl)
      try simp only [Act.put]
      refine wpAnyH_take (i := 6) (v := ?_) rfl (by kernel_rfl) (by kernel_rfl) (by kernel_rfl) (fun _ _ _ h => h) (Or.inl ⟨by rfl, ?_⟩) (by assumption) ?_
      rotate_left
      · intro w hSw; (try dsimp only at hSw); go_simp; (try with_reducible rfl)
      try simp only [Act.put]
      refine wpAnyH_take (i := 7) (v := ?_) rfl (by kernel_rfl) (by kernel_rfl) (by kernel_rfl) (fun _ _ _ h => h) (Or.inl ⟨by rfl, ?_⟩) (by assumption) ?_
      rotate_left
      · intro w hSw; (try dsimp only at hSw); go_simp; (try with_reducible rfl)
      try simp only [Act.put]
      refine wpAnyH_take (i := 8) (v := ?_) rfl (by kernel_rfl) (by kernel_rfl) (by kernel_rfl) (fun _ _ _ h => h) (Or.inl ⟨by rfl, ?_⟩) (by assumption) ?_
      rotate_left
      · intro w hSw; (try dsimp only at hSw); go_simp; (try with_reducible rfl)
      try simp only [Act.put]
      refine wpAnyH_done (by kernel_rfl) ?_ _
      subst hxb
      have HB7 : Hid (Below w.heap.size w w7) := hB7
      have HIA : Hid (Ints w7.heap.size w7 (.slice pa nums.length ca) nums) := hI77
      have y0 := hHeld7.1
      have y1 := hHeld7.2
      have hin := refInts_any nums nums (by have := HNL.out; omega) (.slice pa nums.length ca) (.slice pb nums.length cb) w7 hI77 hI7
      rw [decide_eq_true (rfl : nums = nums)] at hin
      clear hB7 hI77 hI7 hHeld7 HI5 HB5 HX5 g0 g1
      go_wp2_with fail
      refine hin.mono ?_
      clear hin
      rintro e w8 ⟨rfl, hg8⟩
      have hb8 := hg8.below
      have HB8 : Hid (Below w.heap.size w w8) := HB7.out.trans (hb8.mono HB7.out.size)
      have HI8 : Hid (Ints w8.heap.size w8 (.slice pa nums.length ca) nums) := HIA.out.go hb8
      have z0 := cell_keepK hb8 y0
      have z1 := cell_keepK hb8 y1
      have hco := HCO.out w8 (HL.out.go HB8.out)
      clear hg8 hb8 y0 y1 HB7 HIA
      go_wp2_with fail
      refine hco.mono ?_
      clear hco
      rintro e w9 ⟨pc, cc, rfl, hb9⟩
      have HB9 : Hid (Below w.heap.size w w9) := HB8.out.trans (hb9.mono HB8.out.size)
      have HI9 : Hid (Ints w9.heap.size w9 (.slice pa nums.length ca) nums) := HI8.out.go hb9
      have y0 := cell_keepK hb9 z0
      have y1 := cell_keepK hb9 z1
      have hnl := HNL.out
      clear hb9 z0 z1 HB8 HI8
      go_wp2
      go_loop [9] (fun i => ∃ j : Nat, j ≤ nums.length ∧ i = .int .i64 j) (fun i => nums.length - (intOf i).toNat)
      case atStart => exact ⟨0, Nat.zero_le _, rfl⟩
      case round =>
        obtain ⟨j, hj, rfl⟩ := hrel
        by_cases hlt : j < nums.length
        · have hjl : (j : Int) < (nums.length : Int) := by omega
          obtain ⟨b, off, rfl, hbb, hcap, hc⟩ := HI9.out.open hlt
          have c0 := hc w9 (Below.refl _ _) j hlt
          obtain ⟨h2, ht⟩ := HEV.out j hlt
          have HLT : Hid (j < nums.length) := hlt
          generalize nums[j] = x at *
          have hx2 : ¬ x > 2 := by omega
          clear hc hlt y0 y1
          go_wp2
          exact ⟨⟨j + 1, HLT.out, by go_num⟩, by have := HLT.out; simp [intOf]; omega⟩
        · have hjn : ¬ (j : Int) < (nums.length : Int) := by omega
          clear hlt
          go_wp2_with fail
          generalize hxb : w.heap.size = xb at y0 y1
          refine wp_region_held_drew (S := (fun w' : World => w'.cell? ⟨xb, 0, none⟩ = some (.int .i64 (N : Int)) ∧ w'.cell? ⟨xb, 1, none⟩ = some sv)) (by kernel_rfl) ?_ (fun hHeld => ?_)
          · (try dsimp only); go_keep
          refine wpAnyH_take (i := 0) (v := ?_) rfl (by kernel_rfl) (by kernel_rfl) (by kernel_rfl) (fun _ _ _ h => h) (Or.inl ⟨by rfl, ?_⟩) (by assumption) ?_
          rotate_left
          · intro w hSw; (try dsimp only at hSw); go_simp; (try with_reducible rfl)
          try simp only [Act.put, List.setIfInBounds_toArray]
          refine wpAnyH_take (i := 1) (v := ?_) rfl (by kernel_rfl) (by kernel_rfl) (by kernel_rfl) (fun _ _ _ h => h) (Or.inl ⟨by rfl, ?_⟩) (by assumption) ?_
          rotate_left
          · intro w hSw; (try dsimp only at hSw); go_simp; (try with_reducible rfl)
          try simp only [Act.put]
          refine wpAnyH_take (i := 3) (v := ?_) rfl (by kernel_rfl) (by kernel_rfl) (by kernel_rfl) (fun _ _ _ h => h) (Or.inl ⟨by rfl, ?_⟩) (by assumption) ?_
          rotate_left
          · intro w hSw; (try dsimp only at hSw); go_simp; (try with_reducible rfl)
          try simp only [Act.put]
          refine wpAnyH_take (i := 4) (v := ?_) rfl (by kernel_rfl) (by kernel_rfl) (by kernel_rfl) (fun _ _ _ h => h) (Or.inl ⟨by rfl, ?_⟩) (by assumption) ?_
          rotate_left
          · intro w hSw; (try dsimp only at hSw); go_simp; (try with_reducible rfl)
          try simp only [Act.put]
          refine wpAnyH_ready (rs := [2]) (by kernel_rfl) (by simp) ?_
          refine AllReadyH.cons rfl (fun K hK => ?_) AllReadyH.nil
          go_simp
          have hB9d : Below w.heap.size w w9.drew := below_drewN HB9.out 1
          refine (HPL.out w9.drew (HL.out.go hB9d) (HR.out.go hB9d)).mono ?_
          rintro e w10 ⟨rfl, hb10⟩
          refine hK.out _ _ ⟨cell_keepK hb10 hHeld.1, cell_keepK hb10 hHeld.2⟩ (fun hHeld10 => ?_)
          clear hK K hHeld
          have hB10 := hB9d.trans (hb10.mono hB9d.size)
          clear hb10 hB9d
          try simp only [Act.put, List.setIfInBounds_toArray, List.set_cons_zero, List.set_cons_succ]
          refine wpAnyH_ready (rs := [5]) (by kernel_rfl) (by simp) ?_
          refine AllReadyH.cons rfl (fun K hK => ?_) AllReadyH.nil
          go_simp
          refine (HMI.out w10 (HR.out.go hB10)).mono ?_
          rintro e w11 ⟨mv, svm, rfl, hG11, hb11⟩
          have hM11 := hG11.lsts
          obtain ⟨pm2, cm2, rfl⟩ := hM11.len
          refine hK.out _ _ ⟨cell_keepK hb11 hHeld10.1, cell_keepK hb11 hHeld10.2⟩ (fun hHeld11 => ?_)
          clear hK K hHeld10
          have hB11 := hB10.trans (hb11.mono hB10.size)
          clear hb11 hB10 hG11
          try simp only [Act.put, List.setIfInBounds_toArray, List.set_cons_zero, List.set_cons_succ]
          refine wpAnyH_ready (rs := [6]) (by kernel_rfl) (by simp) ?_
          refine AllReadyH.cons rfl (fun K hK => ?_) AllReadyH.nil
          go_simp
          refine (HPM.out _ w11 (HL.out.go hB11) hM11).mono ?_
          rintro e w12 ⟨rfl, hb12⟩
          refine hK.out _ _ ⟨cell_keepK hb12 hHeld11.1, cell_keepK hb12 hHeld11.2⟩ (fun hHeld12 => ?_)
          clear hK K hHeld11
          have hB12 := hB11.trans (hb12.mono hB11.size)
          clear hb12 hB11 hM11
          generalize planeK nums = pk at *
          try simp only [Act.put, List.setIfInBounds_toArray, List.set_cons_zero, List.set_cons_succ]
          refine wpAnyH_take (i := 7) (v := ?_) rfl (by kernel_rfl) (by kernel_rfl) (by kernel_rfl) (fun _ _ _ h => h) (Or.inl ⟨by rfl, ?_⟩) (by assumption) ?_
          rotate_left
          · intro w hSw; (try dsimp only at hSw); go_simp; (try with_reducible rfl)
          try simp only [Act.put]
          refine wpAnyH_take (i := 8) (v := ?_) rfl (by kernel_rfl) (by kernel_rfl) (by kernel_rfl) (fun _ _ _ h => h) (Or.inl ⟨by rfl, ?_⟩) (by assumption) ?_
          rotate_left
          · intro w hSw; (try dsimp only at hSw); go_simp; (try with_reducible rfl)
          try simp only [Act.put]
          simp only [List.getElem_toArray, List.getElem_cons_zero, List.getElem_cons_succ, List.setIfInBounds_toArray, List.set_cons_zero, List.set_cons_succ]
          refine wpAnyH_ready (rs := [9]) (by kernel_rfl) (by simp) ?_
          refine AllReadyH.cons rfl (fun K hK => ?_) AllReadyH.nil
          go_simp
          refine (alive_any w12).mono ?_
          rintro e w13 ⟨rfl, hb13⟩
          refine hK.out _ _ ⟨cell_keepK hb13 hHeld12.1, cell_keepK hb13 hHeld12.2⟩ (fun hHeld13 => ?_)
          clear hK K hHeld12
          have HB13 : Hid (Below w.heap.size w w13) := hB12.trans (hb13.mono hB12.size)
          clear hb13 hB12
          try simp only [Act.put, List.setIfInBounds_toArray, List.set_cons_zero, List.set_cons_succ]
          refine wpAnyH_ready (rs := [10]) (by kernel_rfl) (by simp) ?_
          refine AllReadyH.cons rfl (fun K hK => ?_) AllReadyH.nil
          go_simp
          refine hK.out _ _ ?_ (fun hHeld => ?_)
          · (try dsimp only); first | (go_keep; done) | ((repeat' apply And.intro) <;> go_simp)
          clear hK K
          try simp only [List.setIfInBounds_toArray, List.set_cons_zero, List.set_cons_succ]
          refine wpAnyH_ready (rs := [11]) (by kernel_rfl) (by simp) ?_
          refine AllReadyH.cons rfl (fun K hK => ?_) AllReadyH.nil
          go_simp
          refine hK.out _ _ ?_ (fun hHeld => ?_)
          · (try dsimp only); first | (go_keep; done) | ((repeat' apply And.intro) <;> go_simp)
          clear hK K
          try simp only [List.setIfInBounds_toArray, List.set_cons_zero, List.set_cons_succ]
          refine wpAnyH_done (by kernel_rfl) ?_ _
          go_wp2
          go_ret
          exact ⟨rfl, HB13.out⟩
    · have hkb : (sysK n l r != 0) = true := by simpa using hk
      generalize sysK n l r = k at *
      go_wp2_with fail
      refine hrc.mono ?_
      clear hrc
      rintro e w4 ⟨rfl, hb4⟩
      have HB4 : Hid (Below w.heap.size w w4) := HB3.out.trans (hb4.mono HB3.out.size)
      clear hb4 q0 q1
      go_wp2_with fail
      refine (alive_any w4).mono ?_
      rintro e w5 ⟨rfl, hb5⟩
      have HB5 : Hid (Below w.heap.size w w5) := HB4.out.trans (hb5.mono HB4.out.size)
      clear hb5
      go_wp2
      go_ret
      exact ⟨rfl, HB5.out⟩
end Go.Proofs.Ytnmlbkmbiecpnaa
