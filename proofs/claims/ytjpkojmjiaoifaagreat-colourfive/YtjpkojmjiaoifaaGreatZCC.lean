/-
  PROVED: filigreelaw11.ColourFive returns true for any arguments, and each argument reads afterwards as it read before. No condition.
-/
import Derived.Test.YtjpkojmjiaoifaaGreatZCA
import Derived.Test.YtjpkojmjiaoifaaGreatZCB
import Derived.Test.YtjpkojmjiaoifaaGreatZBW
import Derived.Test.YtjpkojmjiaoifaaGreatZBX
import Derived.Test.YtjpkojmjiaoifaaGreatZAG
namespace Go.Proofs.YtjpkojmjiaoifaaGreat
open Go Go.Proofs Go.RowKit

theorem planeK_no {L : List Int} {i : Nat} (hi : i < L.length) (h : L[i] ≠ 2) : planeK L = 12 := by
  unfold planeK
  rw [if_pos]
  rw [List.any_eq_true]
  exact ⟨L[i], List.getElem_mem hi, by simpa using h⟩
theorem planeK_yes {L : List Int} (h : ∀ (i : Nat) (hi : i < L.length), L[i] = 2) : planeK L = 0 := by
  unfold planeK
  rw [if_neg]
  rw [List.any_eq_true]
  rintro ⟨x, hx, h2⟩
  obtain ⟨i, hi, rfl⟩ := List.getElem_of_mem hx
  simp at h2
  exact h2 (h i hi)

set_option maxRecDepth 100000 in
set_option maxHeartbeats 4000000 in
theorem refPlane_any (N : Nat) (l : List Ed) (hR : RightG (N : Int) l) (r : List (List Int)) (hS : SysR N l r) (hN : N ≤ 1000) (hm : l.length ≤ 4000) (sv rv : Value) (w : World) (hl : Edges w.heap.size w sv l) (hr : Lsts w.heap.size w rv r) :
    Calls Tryz.prog 8 #[.agg #[.int .i64 (N : Int), sv], rv] w fun e w' => e = .returned (.int .i64 (planeK (numsL N l r))) ∧ Below w.heap.size w w' := by
  have hb1 : Below w.heap.size w (w.alloc (.cells #[.int .i64 (N : Int), sv] 24)) := (Below.refl _ _).alloc (Nat.le_refl _) _
  have hX1 : Blk 24 (w.alloc (.cells #[.int .i64 (N : Int), sv] 24)) w.heap.size [.int .i64 (N : Int), sv] := heap_alloc_new w _
  have q0 := hX1.cell (j := 0) rfl
  have q1 := hX1.cell (j := 1) rfl
  have hrc := refSys_any (N : Int) l r sv rv _ (hl.go hb1) (hr.go hb1)
  rw [sysK_ok hR hS] at hrc
  have HRE : Hid (∀ W, Edges W.heap.size W sv l → Lsts W.heap.size W rv r → _) := fun W h1 h2 => refEuler_any N l hR r hS hN hm sv rv W h1 h2
  have HL : Hid (Edges w.heap.size w sv l) := hl
  have HR : Hid (Lsts w.heap.size w rv r) := hr
  have HB1 : Hid (Below w.heap.size w (w.alloc (.cells #[.int .i64 (N : Int), sv] 24))) := hb1
  have HX1 : Hid (Blk 24 (w.alloc (.cells #[.int .i64 (N : Int), sv] 24)) w.heap.size [.int .i64 (N : Int), sv]) := hX1
  have HNL : Hid ((numsL N l r).length ≤ 1000) := by have := numsL_len N l r; have := (comps_ok hR).few; unfold Hid; omega
  clear hb1 hX1 hl hr hR hS
  generalize numsL N l r = nums at *
  go_enter Tryz.func8, Tryz.ntmps8
  go_wp2_with fail
  generalize w.alloc (.cells #[.int .i64 (N : Int), sv] 24) = w1 at *
  refine hrc.mono ?_
  clear hrc
  rintro e w2 ⟨rfl, hb2⟩
  have HB2 : Hid (Below w.heap.size w w2) := HB1.out.trans (hb2.mono HB1.out.size)
  have HX2 : Hid (Blk 24 w2 w.heap.size [.int .i64 (N : Int), sv]) := HX1.out.go hb2
  clear hb2 q0 q1 HB1 HX1
  have q0 := HX2.out.cell (j := 0) rfl
  have q1 := HX2.out.cell (j := 1) rfl
  have hre := HRE.out w2 (HL.out.go HB2.out) (HR.out.go HB2.out)
  go_wp2_with fail
  refine hre.mono ?_
  clear hre
  rintro e w3 ⟨lv, rfl, hI3, hb3⟩
  obtain ⟨pn, cn, rfl⟩ := hI3.len
  have HI3 : Hid (Ints w3.heap.size w3 (.slice pn nums.length cn) nums) := hI3
  have HB3 : Hid (Below w.heap.size w w3) := HB2.out.trans (hb3.mono HB2.out.size)
  have hnl := HNL.out
  clear hI3 hb3 q0 q1 HB2 HX2
  go_wp2
  go_loop [7] (fun i => ∃ j : Nat, j ≤ nums.length ∧ i = .int .i64 j ∧ Hid (∀ (k : Nat) (hk : k < nums.length), k < j → nums[k] = 2)) (fun i => nums.length - (intOf i).toNat)
  case atStart => exact ⟨0, Nat.zero_le _, rfl, fun k _ h => by omega⟩
  case round =>
    obtain ⟨j, hj, rfl, HS⟩ := hrel
    by_cases hlt : j < nums.length
    · have hjl : (j : Int) < (nums.length : Int) := by omega
      obtain ⟨b, off, rfl, hbb, hcap, hc⟩ := HI3.out.open hlt
      have c0 := hc w3 (Below.refl _ _) j hlt
      by_cases he : nums[j] = 2
      · have HS2 : Hid (∀ (k : Nat) (hk : k < nums.length), k < j + 1 → nums[k] = 2) := fun k hk h => by
          by_cases e : k = j
          · subst e; exact he
          · exact HS.out k hk (by omega)
        rw [he] at c0
        have HLT : Hid (j < nums.length) := hlt
        clear hc HS he hlt
        go_wp2
        exact ⟨⟨j + 1, HLT.out, by go_num, HS2.out⟩, by have := HLT.out; simp [intOf]; omega⟩
      · have HE : Hid (planeK nums = 12) := planeK_no hlt he
        have he' : (nums[j] != 2) = true := by simpa using he
        generalize nums[j] = x at *
        clear hc HS he hlt
        go_wp2
        go_ret
        exact ⟨by rw [HE.out]; rfl, HB3.out⟩
    · have hjn : ¬ (j : Int) < (nums.length : Int) := by omega
      have HE : Hid (planeK nums = 0) := planeK_yes (fun k hk => HS.out k hk (by omega))
      clear HS
      go_wp2
      go_ret
      exact ⟨by rw [HE.out]; rfl, HB3.out⟩

end Go.Proofs.YtjpkojmjiaoifaaGreat

namespace Go.Proofs.YtjpkojmjiaoifaaGreat
open Go Go.Proofs Go.RowKit

set_option maxRecDepth 100000 in
set_option maxHeartbeats 2000000 in
theorem refPlaneC_bad (n : Int) (l : List Ed) (r : List (List Int)) (hk : sysK n l r ≠ 0) (sv rv : Value) (w : World) (hl : Edges w.heap.size w sv l) (hr : Lsts w.heap.size w rv r) :
    Calls Tryz.prog 8 #[.agg #[.int .i64 n, sv], rv] w fun e w' => e = .returned (.int .i64 (sysK n l r)) ∧ Below w.heap.size w w' := by
  have hbA : Below w.heap.size w (w.alloc (.cells #[.int .i64 n, sv] 24)) := (Below.refl _ _).alloc (Nat.le_refl _) _
  have hX : Blk 24 (w.alloc (.cells #[.int .i64 n, sv] 24)) w.heap.size [.int .i64 n, sv] := heap_alloc_new w _
  have q0 := hX.cell (j := 0) rfl
  have q1 := hX.cell (j := 1) rfl
  have hrc := refSys_any n l r sv rv _ (hl.go hbA) (hr.go hbA)
  have HBA : Hid _ := hbA
  clear hX hl hr hbA
  generalize sysK n l r = k at *
  go_enter Tryz.func8, Tryz.ntmps8
  go_wp2_with fail
  generalize w.alloc (.cells #[.int .i64 n, sv] 24) = w1 at *
  refine hrc.mono ?_
  clear hrc
  rintro e w2 ⟨rfl, hb2⟩
  have HB2 : Hid (Below w.heap.size w w2) := HBA.out.trans (hb2.mono HBA.out.size)
  clear hb2 q0 q1
  go_wp2
  go_ret
  exact ⟨rfl, HB2.out⟩

set_option maxRecDepth 100000 in
set_option maxHeartbeats 2000000 in
theorem five_no (n : Int) (k : Int) (hk : k ≠ 0) (sv rv : Value) (w : World) (hpl : ∀ W, Below w.heap.size w W → Calls Tryz.prog 17 #[.agg #[.int .i64 n, sv], rv] W fun e w' => e = .returned (.int .i64 k) ∧ Below W.heap.size W w') :
    Calls Tryz.prog 7 #[.agg #[.int .i64 n, sv], rv] w fun e w' => e = .returned (.tuple #[.slice none 0 0, .int .i64 k]) ∧ Below w.heap.size w w' := by
  have hbA : Below w.heap.size w (w.alloc (.cells #[.int .i64 n, sv] 24)) := (Below.refl _ _).alloc (Nat.le_refl _) _
  have hX : Blk 24 (w.alloc (.cells #[.int .i64 n, sv] 24)) w.heap.size [.int .i64 n, sv] := heap_alloc_new w _
  have q0 := hX.cell (j := 0) rfl
  have q1 := hX.cell (j := 1) rfl
  have hrc := hpl _ hbA
  have hk' : (k == 0) = false := by rw [beq_eq_false_iff_ne]; exact hk
  have HBA : Hid _ := hbA
  clear hX hbA hpl hk
  go_enter Tryz.func7, Tryz.ntmps7
  go_wp2_with fail
  generalize w.alloc (.cells #[.int .i64 n, sv] 24) = w1 at *
  refine hrc.mono ?_
  clear hrc
  rintro e w2 ⟨rfl, hb2⟩
  have HB2 : Hid (Below w.heap.size w w2) := HBA.out.trans (hb2.mono HBA.out.size)
  clear hb2 q0 q1
  go_wp2
  refine bodyPost_ret (results_tmp2 rfl _ _ _) rfl ?_
  exact ⟨rfl, HB2.out⟩

/-- Of a graph and lists of few: five colours, or why there are none; and so the reference's Plane. -/
theorem five_or (n : Int) (l : List Ed) (r : List (List Int)) (hn : n ≤ 1000) (hl4 : l.length ≤ 4000) (sv rv : Value) (w : World) (hl : Edges w.heap.size w sv l) (hr : Lsts w.heap.size w rv r) :
    (∃ k : Int, k ≠ 0 ∧ (∀ W, Below w.heap.size w W → Calls Tryz.prog 7 #[.agg #[.int .i64 n, sv], rv] W fun e w' => e = .returned (.tuple #[.slice none 0 0, .int .i64 k]) ∧ Below W.heap.size W w') ∧ (∀ W, Below w.heap.size w W → Calls Tryz.prog 8 #[.agg #[.int .i64 n, sv], rv] W fun e w' => e = .returned (.int .i64 k) ∧ Below W.heap.size W w')) ∨
    (∃ N : Nat, n = (N : Int) ∧ RightG (N : Int) l ∧ SysR N l r ∧ planeK (numsL N l r) = 0 ∧ (∀ W, Below w.heap.size w W → Calls Tryz.prog 8 #[.agg #[.int .i64 n, sv], rv] W fun e w' => e = .returned (.int .i64 0) ∧ Below W.heap.size W w')) := by
  by_cases hk : sysK n l r = 0
  · obtain ⟨N, rfl, hR, hS⟩ := sysK_nought hk
    by_cases hp : planeK (numsL N l r) = 0
    · refine .inr ⟨N, rfl, hR, hS, hp, fun W hW => ?_⟩
      have h := refPlane_any N l hR r hS (by omega) hl4 sv rv W (hl.go hW) (hr.go hW)
      rw [hp] at h
      exact h
    · refine .inl ⟨_, hp, fun W hW => five_no (N : Int) _ hp sv rv W (fun W' hW' => plane_any N l hR r hS sv rv W' ((hl.go hW).go hW') ((hr.go hW).go hW')), fun W hW => refPlane_any N l hR r hS (by omega) hl4 sv rv W (hl.go hW) (hr.go hW)⟩
  · exact .inl ⟨_, hk, fun W hW => five_no n _ hk sv rv W (fun W' hW' => plane_bad n l r hk sv rv W' ((hl.go hW).go hW') ((hr.go hW).go hW')), fun W hW => refPlaneC_bad n l r hk sv rv W (hl.go hW) (hr.go hW)⟩

set_option maxRecDepth 100000 in
set_option maxHeartbeats 8000000 in
theorem colourFive_law (n : Int) (l : List Ed) (r : List (List Int)) (hr1 : r.length ≤ 9223372036854775807) (sv rv : Value) (w : World) (hl : Edges w.heap.size w sv l) (hr : Lsts w.heap.size w rv r) :
    Calls Tryz.prog 3 #[.agg #[.int .i64 n, sv], rv] w fun e w' => e = .returned (.bool true) ∧ Below w.heap.size w w' := by
  obtain ⟨p, c, rfl⟩ := hl.len
  have hb1 : Below w.heap.size w (w.alloc (.cells #[.int .i64 n, .slice p l.length c] 24)) := (Below.refl _ _).alloc (Nat.le_refl _) _
  have hX1 : Blk 24 (w.alloc (.cells #[.int .i64 n, .slice p l.length c] 24)) w.heap.size [.int .i64 n, .slice p l.length c] := heap_alloc_new w _
  have hlt := lightR_any n l r hr1 40 (by decide) (by decide) (.slice p l.length c) rv _ (hl.go hb1) (hr.go hb1)
  have q0 := hX1.cell (j := 0) rfl
  have q1 := hX1.cell (j := 1) rfl
  have HL : Hid (Edges w.heap.size w (.slice p l.length c) l) := hl
  have HR : Hid (Lsts w.heap.size w rv r) := hr
  have HB1 : Hid (Below w.heap.size w (w.alloc (.cells #[.int .i64 n, .slice p l.length c] 24))) := hb1
  have HX1 : Hid (Blk 24 (w.alloc (.cells #[.int .i64 n, .slice p l.length c] 24)) w.heap.size [.int .i64 n, .slice p l.length c]) := hX1
  clear hb1 hX1 hl hr
  have hmix := mixed
  go_enter Tryz.func3, Tryz.ntmps3
  go_wp2_with fail
  generalize w.alloc (.cells #[.int .i64 n, .slice p l.length c] 24) = w2 at *
  refine hlt.mono ?_
  clear hlt
  rintro e w3 ⟨bb, rfl, hbb, hb3⟩
  have HB3 : Hid (Below w.heap.size w w3) := HB1.out.trans (hb3.mono HB1.out.size)
  have HX3 : Hid (Blk 24 w3 w.heap.size [.int .i64 n, .slice p l.length c]) := HX1.out.go hb3
  have HBB : Hid (bb = true → lightB n l 40 = true ∧ (r.length : Int) ≤ 2 * 40) := hbb
  clear HB1 HX1 hb3 q0 q1 hbb
  cases bb with
  | false =>
    go_wp2_with fail
    refine (alive_any w3).mono ?_
    rintro e w4 ⟨rfl, hb4⟩
    have HB4 : Hid (Below w.heap.size w w4) := HB3.out.trans (hb4.mono HB3.out.size)
    clear hb4
    go_wp2
    go_ret
    exact ⟨rfl, HB4.out⟩
  | true =>
    have hlb := lightB_true (HBB.out rfl).1
    have hor := five_or n l r (by omega) (by omega) (.slice p l.length c) rv w HL.out HR.out
    have q0 := HX3.out.cell (j := 0) rfl
    have q1 := HX3.out.cell (j := 1) rfl
    rcases hor with ⟨k, hk, hf, hpl⟩ | ⟨N, rfl, hRg, hS, hP, hpl⟩
    · have hf3 := hf w3 HB3.out
      have HPL : Hid _ := hpl
      have hk' : (k == 0) = false := by rw [beq_eq_false_iff_ne]; exact hk
      have hkk : (k == k) = true := by simp
      clear hf hpl hlb HBB hk
      go_wp2_with fail
      refine hf3.mono ?_
      clear hf3
      rintro e w4 ⟨rfl, hb4⟩
      have HB4 : Hid (Below w.heap.size w w4) := HB3.out.trans (hb4.mono HB3.out.size)
      have HX4 : Hid (Blk 24 w4 w.heap.size [.int .i64 n, .slice p l.length c]) := HX3.out.go hb4
      clear q0 q1 hb4 HX3 HB3
      have q0 := HX4.out.cell (j := 0) rfl
      have q1 := HX4.out.cell (j := 1) rfl
      have hp4 := HPL.out w4 HB4.out
      go_wp2_with fail
      refine hp4.mono ?_
      clear hp4
      rintro e w5 ⟨rfl, hb5⟩
      have HB5 : Hid (Below w.heap.size w w5) := HB4.out.trans (hb5.mono HB4.out.size)
      clear q0 q1 hb5 HX4 HB4 HPL
      go_wp2_with fail
      refine (alive_any w5).mono ?_
      rintro e w6 ⟨rfl, hb6⟩
      have HB6 : Hid (Below w.heap.size w w6) := HB5.out.trans (hb6.mono HB5.out.size)
      clear hb6
      go_wp2
      go_ret
      exact ⟨by simp, HB6.out⟩
    · have hf3 := five_any N (by omega) l hRg r hS hP (.slice p l.length c) rv w3 (HL.out.go HB3.out) (HR.out.go HB3.out)
      have HPL : Hid _ := hpl
      have HNN : Hid (N ≤ 40) := by unfold Hid; omega
      clear hpl hlb HBB hRg hS hP
      go_wp2_with fail
      refine hf3.mono ?_
      clear hf3
      rintro e w4 ⟨g, C, rfl, hC, hCl, hchk, hb4⟩
      have HB4 : Hid (Below w.heap.size w w4) := HB3.out.trans (hb4.mono HB3.out.size)
      have HX4 : Hid (Blk 24 w4 w.heap.size [.int .i64 (N : Int), .slice p l.length c]) := HX3.out.go hb4
      have HC4 : Hid (Blk 3 w4 g (C.map (Value.int .i64))) := hC
      have HCL : Hid (C.length = N) := hCl
      have HCK : Hid (chkK (N : Int) l C 5 = 0) := hchk
      clear q0 q1 hb4 HX3 HB3 hC hCl hchk
      have q0 := HX4.out.cell (j := 0) rfl
      have q1 := HX4.out.cell (j := 1) rfl
      have hp4 := HPL.out w4 HB4.out
      go_wp2_with fail
      refine hp4.mono ?_
      clear hp4
      rintro e w5 ⟨rfl, hb5⟩
      have HB5 : Hid (Below w.heap.size w w5) := HB4.out.trans (hb5.mono HB4.out.size)
      have HX5 : Hid (Blk 24 w5 w.heap.size [.int .i64 (N : Int), .slice p l.length c]) := HX4.out.go hb5
      have hC5 := Blk.go (vs := C.map (Value.int .i64)) HC4.out hb5
      have hID : Ints w5.heap.size w5 (.slice (some ⟨g, 0, none⟩) N N) C := by have h := Blk.ints hC5; rw [HCL.out] at h; exact h
      have hck := refCheck_any (N : Int) l C (by rw [HCL.out]; have := HNN.out; omega) 5 (.slice p l.length c) _ w5 (HL.out.go HB5.out) hID
      rw [HCK.out] at hck
      clear q0 q1 hb5 HX4 HB4 HPL HC4 hC5 hID
      have q0 := HX5.out.cell (j := 0) rfl
      have q1 := HX5.out.cell (j := 1) rfl
      go_wp2_with fail
      refine hck.mono ?_
      clear hck
      rintro e w6 ⟨rfl, hg6⟩
      have HB6 : Hid (Below w.heap.size w w6) := HB5.out.trans (hg6.below.mono HB5.out.size)
      clear hg6 q0 q1
      go_wp2_with fail
      refine (alive_any w6).mono ?_
      rintro e w7 ⟨rfl, hb7⟩
      have HB7 : Hid (Below w.heap.size w w7) := HB6.out.trans (hb7.mono HB6.out.size)
      clear hb7
      go_wp2
      go_ret
      exact ⟨rfl, HB7.out⟩
end Go.Proofs.YtjpkojmjiaoifaaGreat

namespace Go.Proofs.YtjpkojmjiaoifaaGreat.colourFive
open Go Go.ChangeShapes Go.WideShapes Go.ChangeAt Go.RowKit

set_option maxRecDepth 100000 in
set_option maxHeartbeats 1000000 in
theorem lifted (os : Os) (started : os.Started) (H : Type) (enc : TypeId × Value → H) :
    ReturnsInHanded {} Tryz.checked os 3 .any (Rows.colourFiveSpec.pre6 enc Tryz.prog Tryz.f3 Rows.colourFiveRow.domain false) (Rows.colourFiveSpec.post enc Tryz.prog Tryz.f3 false true false false) := by
  refine returnsInHanded_of_change (C := Tryz.checked) own started (by kernel_rfl) Tryz.func3
    (ChangeSpec.witness6 (enc := enc) (C := Tryz.checked) false ⟨#[], #[.agg #[.int .i64 0, .slice none 0 0], .slice none 0 0], []⟩ 8 (by kernel_rfl) (by kernel_rfl) (by kernel_rfl) (by kernel_rfl)) ?_
  intro W base args ds gs before hval0 hW hcnd _
  have hval : ∀ (j : Nat) t v, Tryz.f3.params[j]? = some t → args[j]? = some v → Value.okWide Tryz.prog W .any base t v := hval0
  have hW' := hW
  obtain ⟨p, q, hA0, hV, rfl, hfz, hnd⟩ := hW
  have hA : DataW.TrodAll enc Tryz.prog W 0 (fun _ => true) true Tryz.f3.params.toList args.toList ds p := hA0
  rw [Tryz.params3] at hA hval
  obtain ⟨v0, vs0, d0, ds0, p0, q0, hargs, rfl, rfl, h0, r0⟩ := trodAll_cons hA
  obtain ⟨v1, vs1, d1, ds1, p1, q1, rfl, rfl, rfl, h1, r1⟩ := trodAll_cons r0
  obtain ⟨rfl, rfl, rfl⟩ := trodAll_nil r1
  obtain rfl : args = #[v0, v1] := by cases args; simp_all
  obtain ⟨rfl, rfl⟩ := trodVars_none hV
  have k0 := h0
  have lt0 : ∀ x ∈ p0, x.block < W.heap.size := by obtain ⟨m, hm⟩ := k0; exact DataW.trod_lt m _ _ _ hm
  have k1 := h1
  have lt1 : ∀ x ∈ p1, x.block < W.heap.size := by obtain ⟨m, hm⟩ := k1; exact DataW.trod_lt m _ _ _ hm
  obtain ⟨n0, s0, l0, rfl, e0⟩ := graph_in (hval 0 24 v0 rfl rfl) h0
  obtain ⟨l1, e1, m1, x1⟩ := lsts_in (hval 1 25 v1 rfl rfl) h1
  clear hA0 hval0
  refine (colourFive_law n0 l0 l1 m1 _ _ W e0 e1).mono fun e W' ⟨he, bel⟩ => ?_
  subst he
  exact ⟨_, rfl, _, _, _, [], _, [], hW', trodAll_mk1 (shut_bool Tryz.underlying4 _), (trodAll_cons_mk (Below.trod laidOut (by kernel_rfl) (of_decide_eq_true (by kernel_rfl)) k0 bel lt0) (trodAll_cons_mk (Below.trod laidOut (by kernel_rfl) (of_decide_eq_true (by kernel_rfl)) k1 bel lt1) trodAll_mk0)), rfl, bel.frame _, fun h => by cases h⟩

end Go.Proofs.YtjpkojmjiaoifaaGreat.colourFive

namespace Go.Proofs.YtjpkojmjiaoifaaGreat
open Go

theorem colourFive_holds : Rows.ColourFiveSaid :=
  OpenClaim.holds_of_wide 3 Tryz.f3 rfl rfl rfl rfl rfl rfl rfl ⟨rfl, rfl, rfl, rfl, rfl⟩ rfl rfl rfl rfl rfl (by kernel_rfl) Tryz.func3 (by kernel_rfl)
    (of_decide_eq_true (by kernel_rfl)) (by unfold Func.isWrapper; first | (rw [if_pos (by decide +kernel)]; kernel_rfl) | (rw [if_neg (by decide +kernel)]; exact ⟨rfl, rfl⟩))
    (fun os started H enc _ => colourFive.lifted os started H enc)

#print axioms colourFive_holds
end Go.Proofs.YtjpkojmjiaoifaaGreat
