/-
  The contract of the reference's Plane; the walk of filigreelaw07.RotationEuler.
-/
import Derived.Test.YtnmlbkmbiecpnaaXRRefE
import Derived.Test.YtnmlbkmbiecpnaaXRBad
import Derived.Test.YtnmlbkmbiecpnaaXRRefRight
import Derived.Test.YtnmlbkmbiecpnaaXRFacesLaw
namespace Go.Proofs.Ytnmlbkmbiecpnaa
open Go Go.Proofs Go.RowKit

theorem planeK_no {L : List Int} {i : Nat} (hi : i < L.length) (h : L[i] ≠ 2) : planeK L = 12 := by
  unfold planeK
  rw [if_pos]
  rw [List.any_eq_true]
  exact ⟨L[i], List.getElem_mem hi, by simpa using h⟩
theorem planeK_yes {L : List Int} (h : ∀ (i : Nat) (hi : i < L.length), L[i] = 2) : planeK L = 0 := by
  unfold planeK
  rw [if_neg]
  rw [List.any_eq_true]
  rintro ⟨x, hx, h2⟩
  obtain ⟨i, hi, rfl⟩ := List.getElem_of_mem hx
  simp at h2
  exact h2 (h i hi)

set_option maxRecDepth 100000 in
set_option maxHeartbeats 4000000 in
theorem refPlane_any (N : Nat) (l : List Ed) (hR : RightG (N : Int) l) (r : List (List Int)) (hS : SysR N l r) (hN : N ≤ 1000) (hm : l.length ≤ 4000) (sv rv : Value) (w : World) (hl : Edges w.heap.size w sv l) (hr : Lsts w.heap.size w rv r) :
    Calls Try.prog 22 #[.agg #[.int .i64 (N : Int), sv], rv] w fun e w' => e = .returned (.int .i64 (planeK (numsL N l r))) ∧ Below w.heap.size w w' := by
  have hb1 : Below w.heap.size w (w.alloc (.cells #[.int .i64 (N : Int), sv] 24)) := (Below.refl _ _).alloc (Nat.le_refl _) _
  have hX1 : Blk 24 (w.alloc (.cells #[.int .i64 (N : Int), sv] 24)) w.heap.size [.int .i64 (N : Int), sv] := heap_alloc_new w _
  have q0 := hX1.cell (j := 0) rfl
  have q1 := hX1.cell (j := 1) rfl
  have hrc := refSys_any (N : Int) l r sv rv _ (hl.go hb1) (hr.go hb1)
  rw [sysK_ok hR hS] at hrc
  have HRE : Hid (∀ W, Edges W.heap.size W sv l → Lsts W.heap.size W rv r → _) := fun W h1 h2 => refEuler_any N l hR r hS hN hm sv rv W h1 h2
  have HL : Hid (Edges w.heap.size w sv l) := hl
  have HR : Hid (Lsts w.heap.size w rv r) := hr
  have HB1 : Hid (Below w.heap.size w (w.alloc (.cells #[.int .i64 (N : Int), sv] 24))) := hb1
  have HX1 : Hid (Blk 24 (w.alloc (.cells #[.int .i64 (N : Int), sv] 24)) w.heap.size [.int .i64 (N : Int), sv]) := hX1
  have HNL : Hid ((numsL N l r).length ≤ 1000) := by have := numsL_len N l r; have := (comps_ok hR).few; unfold Hid; omega
  clear hb1 hX1 hl hr hR hS
  generalize numsL N l r = nums at *
  go_enter Try.func22, Try.ntmps22
  go_wp2_with fail
  generalize w.alloc (.cells #[.int .i64 (N : Int), sv] 24) = w1 at *
  refine hrc.mono ?_
  clear hrc
  rintro e w2 ⟨rfl, hb2⟩
  have HB2 : Hid (Below w.heap.size w w2) := HB1.out.trans (hb2.mono HB1.out.size)
  have HX2 : Hid (Blk 24 w2 w.heap.size [.int .i64 (N : Int), sv]) := HX1.out.go hb2
  clear hb2 q0 q1 HB1 HX1
  have q0 := HX2.out.cell (j := 0) rfl
  have q1 := HX2.out.cell (j := 1) rfl
  have hre := HRE.out w2 (HL.out.go HB2.out) (HR.out.go HB2.out)
  go_wp2_with fail
  refine hre.mono ?_
  clear hre
  rintro e w3 ⟨lv, rfl, hI3, hb3⟩
  obtain ⟨pn, cn, rfl⟩ := hI3.len
  have HI3 : Hid (Ints w3.heap.size w3 (.slice pn nums.length cn) nums) := hI3
  have HB3 : Hid (Below w.heap.size w w3) := HB2.out.trans (hb3.mono HB2.out.size)
  have hnl := HNL.out
  clear hI3 hb3 q0 q1 HB2 HX2
  go_wp2
  go_loop [7] (fun i => ∃ j : Nat, j ≤ nums.length ∧ i = .int .i64 j ∧ Hid (∀ (k : Nat) (hk : k < nums.length), k < j → nums[k] = 2)) (fun i => nums.length - (intOf i).toNat)
  case atStart => exact ⟨0, Nat.zero_le _, rfl, fun k _ h => by omega⟩
  case round =>
    obtain ⟨j, hj, rfl, HS⟩ := hrel
    by_cases hlt : j < nums.length
    · have hjl : (j : Int) < (nums.length : Int) := by omega
      obtain ⟨b, off, rfl, hbb, hcap, hc⟩ := HI3.out.open hlt
      have c0 := hc w3 (Below.refl _ _) j hlt
      by_cases he : nums[j] = 2
      · have HS2 : Hid (∀ (k : Nat) (hk : k < nums.length), k < j + 1 → nums[k] = 2) := fun k hk h => by
          by_cases e : k = j
          · subst e; exact he
          · exact HS.out k hk (by omega)
        rw [he] at c0
        have HLT : Hid (j < nums.length) := hlt
        clear hc HS he hlt
        go_wp2
        exact ⟨⟨j + 1, HLT.out, by go_num, HS2.out⟩, by have := HLT.out; simp [intOf]; omega⟩
      · have HE : Hid (planeK nums = 12) := planeK_no hlt he
        have he' : (nums[j] != 2) = true := by simpa using he
        generalize nums[j] = x at *
        clear hc HS he hlt
        go_wp2
        go_ret
        exact ⟨by rw [HE.out]; rfl, HB3.out⟩
    · have hjn : ¬ (j : Int) < (nums.length : Int) := by omega
      have HE : Hid (planeK nums = 0) := planeK_yes (fun k hk => HS.out k hk (by omega))
      clear HS
      go_wp2
      go_ret
      exact ⟨by rw [HE.out]; rfl, HB3.out⟩

set_option maxRecDepth 100000 in
set_option maxHeartbeats 8000000 in
theorem euler_law (n : Int) (l : List Ed) (r : List (List Int)) (hr1 : r.length ≤ 9223372036854775807) (sv rv : Value) (w : World) (hl : Edges w.heap.size w sv l) (hr : Lsts w.heap.size w rv r) :
    Calls Try.prog 5 #[.agg #[.int .i64 n, sv], rv] w fun e w' => e = .returned (.bool true) ∧ Below w.heap.size w w' := by
  have hb1 : Below w.heap.size w (w.alloc (.cells #[.int .i64 n, sv] 24)) := (Below.refl _ _).alloc (Nat.le_refl _) _
  have hX1 : Blk 24 (w.alloc (.cells #[.int .i64 n, sv] 24)) w.heap.size [.int .i64 n, sv] := heap_alloc_new w _
  have hlt := lightR_any n l r hr1 25 (by decide) (by decide) sv rv _ (hl.go hb1) (hr.go hb1)
  have q0 := hX1.cell (j := 0) rfl
  have q1 := hX1.cell (j := 1) rfl
  have HL : Hid (Edges w.heap.size w sv l) := hl
  have HR : Hid (Lsts w.heap.size w rv r) := hr
  have HB1 : Hid (Below w.heap.size w (w.alloc (.cells #[.int .i64 n, sv] 24))) := hb1
  have HX1 : Hid (Blk 24 (w.alloc (.cells #[.int .i64 n, sv] 24)) w.heap.size [.int .i64 n, sv]) := hX1
  clear hb1 hX1 hl hr
  have hmix := mixed
  go_enter Try.func5, Try.ntmps5
  go_wp2_with fail
  generalize w.alloc (.cells #[.int .i64 n, sv] 24) = w2 at *
  refine hlt.mono ?_
  clear hlt
  rintro e w3 ⟨bb, rfl, hbb, hb3⟩
  have HB3 : Hid (Below w.heap.size w w3) := HB1.out.trans (hb3.mono HB1.out.size)
  have HX3 : Hid (Blk 24 w3 w.heap.size [.int .i64 n, sv]) := HX1.out.go hb3
  have HBB : Hid (bb = true → lightB n l 25 = true ∧ (r.length : Int) ≤ 2 * 25) := hbb
  clear HB1 HX1 hb3 q0 q1 hbb
  cases bb with
  | false =>
    go_wp2_with fail
    refine (alive_any w3).mono ?_
    rintro e w4 ⟨rfl, hb4⟩
    have HB4 : Hid (Below w.heap.size w w4) := HB3.out.trans (hb4.mono HB3.out.size)
    clear hb4
    go_wp2
    go_ret
    exact ⟨rfl, HB4.out⟩
  | true =>
    have q0 := HX3.out.cell (j := 0) rfl
    have q1 := HX3.out.cell (j := 1) rfl
    by_cases hk : sysK n l r = 0
    · obtain ⟨N, rfl, hR, hS⟩ := sysK_nought hk
      have hlm : l.length ≤ 100 := by have := (lightB_true (HBB.out rfl).1).2; omega
      have hnm : N ≤ 25 := by have := (lightB_true (HBB.out rfl).1).1; omega
      have hfc := euler_any N l hR r hS sv rv w3 (HL.out.go HB3.out) (HR.out.go HB3.out)
      have HRE : Hid (∀ W, Edges W.heap.size W sv l → Lsts W.heap.size W rv r → _) := fun W h1 h2 => refEuler_any N l hR r hS (by omega) (by omega) sv rv W h1 h2
      have HPL : Hid (∀ W, Edges W.heap.size W sv l → Lsts W.heap.size W rv r → _) := fun W h1 h2 => plane_any N l hR r hS sv rv W h1 h2
      have HRP : Hid (∀ W, Edges W.heap.size W sv l → Lsts W.heap.size W rv r → _) := fun W h1 h2 => refPlane_any N l hR r hS (by omega) (by omega) sv rv W h1 h2
      have HNL : Hid ((numsL N l r).length ≤ 4194304) := by have := numsL_len N l r; have := (comps_ok hR).few; unfold Hid; omega
      have HK : Hid (sysK (N : Int) l r = 0) := hk
      clear hk hR hS hlm hnm
      generalize numsL N l r = nums at *
      go_wp2_with fail
      refine hfc.mono ?_
      clear hfc
      rintro e w4 ⟨lv, rfl, hI4, hb4⟩
      obtain ⟨pl, cl, rfl⟩ := hI4.len
      have HI4 : Hid (Ints w4.heap.size w4 (.slice pl nums.length cl) nums) := hI4
      have HB4 : Hid (Below w.heap.size w w4) := HB3.out.trans (hb4.mono HB3.out.size)
      have HX4 : Hid (Blk 24 w4 w.heap.size [.int .i64 (N : Int), sv]) := HX3.out.go hb4
      clear hI4 hb4 q0 q1 HB3 HX3
      have q0 := HX4.out.cell (j := 0) rfl
      have q1 := HX4.out.cell (j := 1) rfl
      have hrc := refSys_any (N : Int) l r sv rv w4 (HL.out.go HB4.out) (HR.out.go HB4.out)
      rw [HK.out] at hrc
      go_wp2_with fail
      refine hrc.mono ?_
      clear hrc
      rintro e w5 ⟨rfl, hb5⟩
      have hB5 := HB4.out.trans (hb5.mono HB4.out.size)
      have HI5 : Hid (Ints w5.heap.size w5 (.slice pl nums.length cl) nums) := HI4.out.go hb5
      have hX5 := HX4.out.go hb5
      clear hb5 q0 q1 HB4 HX4 HI4
      have g0 := hX5.cell (j := 0) rfl
      have g1 := hX5.cell (j := 1) rfl
      have HB5 : Hid (Below w.heap.size w w5) := hB5
      clear hX5 hB5
      go_wp2_with fail
      generalize hxb : w.heap.size = xb at g0 g1
      refine wp_region_held_drew (S := (fun w' : World => w'.cell? ⟨xb, 0, none⟩ = some (.int .i64 (N : Int)) ∧ w'.cell? ⟨xb, 1, none⟩ = some sv)) (by kernel_rfl) ?_ (fun hHeld => ?_)
      · (try dsimp only); go_keep
      refine wpAnyH_take (i := 0) (v := ?_) rfl (by kernel_rfl) (by kernel_rfl) (by kernel_rfl) (fun _ _ _ h => h) (Or.inl ⟨by rfl, ?_⟩) (by assumption) ?_
      rotate_left
      · intro w hSw; (try dsimp only at hSw); go_simp; (try with_reducible rfl)
      try simp only [Act.put, List.setIfInBounds_toArray]
      refine wpAnyH_take (i := 1) (v := ?_) rfl (by kernel_rfl) (by kernel_rfl) (by kernel_rfl) (fun _ _ _ h => h) (Or.inl ⟨by rfl, ?_⟩) (by assumption) ?_
      rotate_left
      · intro w hSw; (try dsimp only at hSw); go_simp; (try with_reducible rfl)
      try simp only [Act.put]
      refine wpAnyH_take (i := 2) (v := ?_) rfl (by kernel_rfl) (by kernel_rfl) (by kernel_rfl) (fun _ _ _ h => h) (Or.inl ⟨by rfl, ?_⟩) (by assumption) ?_
      rotate_left
      · intro w hSw; (try dsimp only at hSw); go_simp; (try with_reducible rfl)
      try simp only [Act.put]
      simp only [List.getElem_toArray, List.getElem_cons_zero, List.getElem_cons_succ, List.setIfInBounds_toArray, List.set_cons_zero, List.set_cons_succ]
      refine wpAnyH_take (i := 3) (v := ?_) rfl (by kernel_rfl) (by kernel_rfl) (by kernel_rfl) (fun _ _ _ h => h) (Or.inl ⟨by simp [Region.wanted, yielded], ?_⟩) (by assumption) ?_
      rotate_left
      · intro w hSw; (try dsimp only at hSw); go_simp; (try with_reducible rfl)
      try simp only [Act.put]
      simp only [List.getElem_toArray, List.getElem_cons_zero, List.getElem_cons_succ, List.setIfInBounds_toArray, List.set_cons_zero, List.set_cons_succ]
      refine wpAnyH_take (i := 4) (v := ?_) rfl (by kernel_rfl) (by kernel_rfl) (by kernel_rfl) (fun _ _ _ h => h) (Or.inl ⟨by simp [Region.wanted, yielded], ?_⟩) (by assumption) ?_
      rotate_left
      · intro w hSw; (try dsimp only at hSw); go_simp; (try with_reducible rfl)
      try simp only [Act.put]
      simp only [List.getElem_toArray, List.getElem_cons_zero, List.getElem_cons_succ, List.setIfInBounds_toArray, List.set_cons_zero, List.set_cons_succ]
      refine wpAnyH_take (i := 5) (v := ?_) rfl (by kernel_rfl) (by kernel_rfl) (by kernel_rfl) (fun _ _ _ h => h) (Or.inl ⟨by simp [Region.wanted, yielded], ?_⟩) (by assumption) ?_
      rotate_left
      · intro w hSw; (try dsimp only at hSw); go_simp; (try with_reducible rfl)
      try simp only [Act.put]
      simp only [List.getElem_toArray, List.getElem_cons_zero, List.getElem_cons_succ, List.setIfInBounds_toArray, List.set_cons_zero, List.set_cons_succ]
      refine wpAnyH_ready (rs := [6]) (by kernel_rfl) (by simp) ?_
      refine AllReadyH.cons rfl (fun K hK => ?_) AllReadyH.nil
      go_simp
      have hB5d : Below w.heap.size w w5.drew := below_drewN HB5.out 1
      have hI5d : Ints w5.drew.heap.size w5.drew (.slice pl nums.length cl) nums := HI5.out
      refine (HRE.out w5.drew (HL.out.go hB5d) (HR.out.go hB5d)).mono ?_
      rintro e w6 ⟨lb, rfl, hI6, hb6⟩
      obtain ⟨pb, cb, rfl⟩ := hI6.len
      refine hK.out _ _ ⟨cell_keepK hb6 hHeld.1, cell_keepK hb6 hHeld.2⟩ (fun hHeld6 => ?_)
      clear hK K hHeld
      have hB6 := hB5d.trans (hb6.mono hB5d.size)
      have hI56 := hI5d.go hb6
      clear hb6 hB5d hI5d
      try simp only [Act.put, List.setIfInBounds_toArray, List.set_cons_zero, List.set_cons_succ]
      refine wpAnyH_ready (rs := [7]) (by kernel_rfl) (by simp) ?_
      refine AllReadyH.cons rfl (fun K hK => ?_) AllReadyH.nil
      go_simp
      refine (refInts_any nums nums HNL.out (.slice pl nums.length cl) (.slice pb nums.length cb) w6 hI56 hI6).mono ?_
      rintro e w7 ⟨rfl, hg7⟩
      have hb7 := hg7.below
      refine hK.out _ _ ⟨cell_keepK hb7 hHeld6.1, cell_keepK hb7 hHeld6.2⟩ (fun hHeld7 => ?_)
      clear hK K hHeld6
      have hB7 := hB6.trans (hb7.mono hB6.size)
      clear hb7 hB6 hI56 hI6 hg7
      rw [decide_eq_true (rfl : nums = nums)]
      try simp only [Act.put, List.setIfInBounds_toArray, List.set_cons_zero, List.set_cons_succ]
      refine wpAnyH_take (i := 8) (v := ?_) rfl (by kernel_rfl) (by kernel_rfl) (by kernel_rfl) (fun _ _ _ h => h) (Or.inl ⟨by simp [Region.wanted], ?_⟩) (by assumption) ?_
      rotate_left
      · intro w hSw; (try dsimp only at hSw); go_simp; (try with_reducible rfl)
      try simp only [Act.put]
      simp only [List.getElem_toArray, List.getElem_cons_zero, List.getElem_cons_succ, List.setIfInBounds_toArray, List.set_cons_zero, List.set_cons_succ]
      refine wpAnyH_take (i := 9) (v := ?_) rfl (by kernel_rfl) (by kernel_rfl) (by kernel_rfl) (fun _ _ _ h => h) (Or.inl ⟨by simp [Region.wanted], ?_⟩) (by assumption) ?_
      rotate_left
      · intro w hSw; (try dsimp only at hSw); go_simp; (try with_reducible rfl)
      try simp only [Act.put]
      simp only [List.getElem_toArray, List.getElem_cons_zero, List.getElem_cons_succ, List.setIfInBounds_toArray, List.set_cons_zero, List.set_cons_succ]
      refine wpAnyH_take (i := 10) (v := ?_) rfl (by kernel_rfl) (by kernel_rfl) (by kernel_rfl) (fun _ _ _ h => h) (Or.inl ⟨by simp [Region.wanted, yielded], ?_⟩) (by assumption) ?_
      rotate_left
      · intro w hSw; (try dsimp only at hSw); go_simp; (try with_reducible rfl)
      try simp only [Act.put]
      simp only [List.getElem_toArray, List.getElem_cons_zero, List.getElem_cons_succ, List.setIfInBounds_toArray, List.set_cons_zero, List.set_cons_succ]
      refine wpAnyH_take (i := 11) (v := ?_) rfl (by kernel_rfl) (by kernel_rfl) (by kernel_rfl) (fun _ _ _ h => h) (Or.inl ⟨by simp [Region.wanted, yielded], ?_⟩) (by assumption) ?_
      rotate_left
      · intro w hSw; (try dsimp only at hSw); go_simp; (try with_reducible rfl)
      try simp only [Act.put]
      simp only [List.getElem_toArray, List.getElem_cons_zero, List.getElem_cons_succ, List.setIfInBounds_toArray, List.set_cons_zero, List.set_cons_succ]
      refine wpAnyH_take (i := 13) (v := ?_) rfl (by kernel_rfl) (by kernel_rfl) (by kernel_rfl) (fun _ _ _ h => h) (Or.inl ⟨by simp [Region.wanted, yielded], ?_⟩) (by assumption) ?_
      rotate_left
      · intro w hSw; (try dsimp only at hSw); go_simp; (try with_reducible rfl)
      try simp only [Act.put]
      simp only [List.getElem_toArray, List.getElem_cons_zero, List.getElem_cons_succ, List.setIfInBounds_toArray, List.set_cons_zero, List.set_cons_succ]
      refine wpAnyH_take (i := 14) (v := ?_) rfl (by kernel_rfl) (by kernel_rfl) (by kernel_rfl) (fun _ _ _ h => h) (Or.inl ⟨by simp [Region.wanted, yielded], ?_⟩) (by assumption) ?_
      rotate_left
      · intro w hSw; (try dsimp only at hSw); go_simp; (try with_reducible rfl)
      try simp only [Act.put]
      simp only [List.getElem_toArray, List.getElem_cons_zero, List.getElem_cons_succ, List.setIfInBounds_toArray, List.set_cons_zero, List.set_cons_succ]
      refine wpAnyH_ready (rs := [12]) (by kernel_rfl) (by simp) ?_
      refine AllReadyH.cons rfl (fun K hK => ?_) AllReadyH.nil
      go_simp
      refine (HPL.out w7 (HL.out.go hB7) (HR.out.go hB7)).mono ?_
      rintro e w8 ⟨rfl, hb8⟩
      refine hK.out _ _ ⟨cell_keepK hb8 hHeld7.1, cell_keepK hb8 hHeld7.2⟩ (fun hHeld8 => ?_)
      clear hK K hHeld7
      have hB8 := hB7.trans (hb8.mono hB7.size)
      clear hb8 hB7
      try simp only [Act.put, List.setIfInBounds_toArray, List.set_cons_zero, List.set_cons_succ]
      refine wpAnyH_ready (rs := [15]) (by kernel_rfl) (by simp) ?_
      refine AllReadyH.cons rfl (fun K hK => ?_) AllReadyH.nil
      go_simp
      refine (HRP.out w8 (HL.out.go hB8) (HR.out.go hB8)).mono ?_
      rintro e w9 ⟨rfl, hb9⟩
      refine hK.out _ _ ⟨cell_keepK hb9 hHeld8.1, cell_keepK hb9 hHeld8.2⟩ (fun hHeld9 => ?_)
      clear hK K hHeld8
      have hB9 := hB8.trans (hb9.mono hB8.size)
      clear hb9 hB8
      generalize planeK nums = pk at *
      try simp only [Act.put, List.setIfInBounds_toArray, List.set_cons_zero, List.set_cons_succ]
      refine wpAnyH_take (i := 16) (v := ?_) rfl (by kernel_rfl) (by kernel_rfl) (by kernel_rfl) (fun _ _ _ h => h) (Or.inl ⟨by simp [Region.wanted, yielded], ?_⟩) (by assumption) ?_
      rotate_left
      · intro w hSw; (try dsimp only at hSw); go_simp; (try with_reducible rfl)
      try simp only [Act.put]
      simp only [List.getElem_toArray, List.getElem_cons_zero, List.getElem_cons_succ, List.setIfInBounds_toArray, List.set_cons_zero, List.set_cons_succ]
      refine wpAnyH_take (i := 17) (v := ?_) rfl (by kernel_rfl) (by kernel_rfl) (by kernel_rfl) (fun _ _ _ h => h) (Or.inl ⟨by simp [Region.wanted], ?_⟩) (by assumption) ?_
      rotate_left
      · intro w hSw; (try dsimp only at hSw); go_simp; (try with_reducible rfl)
      try simp only [Act.put]
      simp only [List.getElem_toArray, List.getElem_cons_zero, List.getElem_cons_succ, List.setIfInBounds_toArray, List.set_cons_zero, List.set_cons_succ]
      refine wpAnyH_take (i := 18) (v := ?_) rfl (by kernel_rfl) (by kernel_rfl) (by kernel_rfl) (fun _ _ _ h => h) (Or.inl ⟨by simp [Region.wanted], ?_⟩) (by assumption) ?_
      rotate_left
      · intro w hSw; (try dsimp only at hSw); go_simp; (try with_reducible rfl)
      try simp only [Act.put]
      simp only [List.getElem_toArray, List.getElem_cons_zero, List.getElem_cons_succ, List.setIfInBounds_toArray, List.set_cons_zero, List.set_cons_succ]
      refine wpAnyH_ready (rs := [19]) (by kernel_rfl) (by simp) ?_
      refine AllReadyH.cons rfl (fun K hK => ?_) AllReadyH.nil
      go_simp
      refine (alive_any w9).mono ?_
      rintro e w10 ⟨rfl, hb10⟩
      refine hK.out _ _ ⟨cell_keepK hb10 hHeld9.1, cell_keepK hb10 hHeld9.2⟩ (fun hHeld10 => ?_)
      clear hK K hHeld9
      have HB10 : Hid (Below w.heap.size w w10) := hB9.trans (hb10.mono hB9.size)
      clear hb10 hB9
      try simp only [Act.put, List.setIfInBounds_toArray, List.set_cons_zero, List.set_cons_succ]
      refine wpAnyH_ready (rs := [20]) (by kernel_rfl) (by simp) ?_
      refine AllReadyH.cons rfl (fun K hK => ?_) AllReadyH.nil
      go_simp
      refine hK.out _ _ ?_ (fun hHeld => ?_)
      · (try dsimp only); first | (go_keep; done) | ((repeat' apply And.intro) <;> go_simp)
      clear hK K
      try simp only [List.setIfInBounds_toArray, List.set_cons_zero, List.set_cons_succ]
      refine wpAnyH_ready (rs := [21]) (by kernel_rfl) (by simp) ?_
      refine AllReadyH.cons rfl (fun K hK => ?_) AllReadyH.nil
      go_simp
      refine hK.out _ _ ?_ (fun hHeld => ?_)
      · (try dsimp only); first | (go_keep; done) | ((repeat' apply And.intro) <;> go_simp)
      clear hK K
      try simp only [List.setIfInBounds_toArray, List.set_cons_zero, List.set_cons_succ]
      refine wpAnyH_done (by kernel_rfl) ?_ _
      go_wp2
      go_ret
      exact ⟨rfl, HB10.out⟩
    · have hfb := euler_bad n l r hk sv rv w3 (HL.out.go HB3.out) (HR.out.go HB3.out)
      have HRC : Hid (∀ W, Edges W.heap.size W sv l → Lsts W.heap.size W rv r → _) := fun W h1 h2 => refSys_any n l r sv rv W h1 h2
      have HPB : Hid (∀ W, Edges W.heap.size W sv l → Lsts W.heap.size W rv r → _) := fun W h1 h2 => plane_bad n l r hk sv rv W h1 h2
      generalize sysK n l r = k at *
      have hkn : (k != 0) = true := by simpa using hk
      go_wp2_with fail
      refine hfb.mono ?_
      clear hfb
      rintro e w4 ⟨rfl, hb4⟩
      have HB4 : Hid (Below w.heap.size w w4) := HB3.out.trans (hb4.mono HB3.out.size)
      have HX4 : Hid (Blk 24 w4 w.heap.size [.int .i64 n, sv]) := HX3.out.go hb4
      clear hb4 q0 q1 HB3 HX3
      have q0 := HX4.out.cell (j := 0) rfl
      have q1 := HX4.out.cell (j := 1) rfl
      have hrc := HRC.out w4 (HL.out.go HB4.out) (HR.out.go HB4.out)
      go_wp2_with fail
      refine hrc.mono ?_
      clear hrc
      rintro e w5 ⟨rfl, hb5⟩
      have HB5 : Hid (Below w.heap.size w w5) := HB4.out.trans (hb5.mono HB4.out.size)
      have HX5 : Hid (Blk 24 w5 w.heap.size [.int .i64 n, sv]) := HX4.out.go hb5
      clear hb5 q0 q1 HB4 HX4
      have q0 := HX5.out.cell (j := 0) rfl
      have q1 := HX5.out.cell (j := 1) rfl
      have hpb := HPB.out w5 (HL.out.go HB5.out) (HR.out.go HB5.out)
      go_wp2_with fail
      refine hpb.mono ?_
      clear hpb
      rintro e w6 ⟨rfl, hb6⟩
      have HB6 : Hid (Below w.heap.size w w6) := HB5.out.trans (hb6.mono HB5.out.size)
      clear hb6 q0 q1 HB5 HX5
      go_wp2_with fail
      refine (alive_any w6).mono ?_
      rintro e w8 ⟨rfl, hb8⟩
      have HB8 : Hid (Below w.heap.size w w8) := HB6.out.trans (hb8.mono HB6.out.size)
      clear hb8
      go_wp2
      go_ret
      exact ⟨rfl, HB8.out⟩
end Go.Proofs.Ytnmlbkmbiecpnaa
