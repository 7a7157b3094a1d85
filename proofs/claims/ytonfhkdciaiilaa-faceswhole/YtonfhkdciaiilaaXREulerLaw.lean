/-
  The contract of the reference's Plane; the walk of filigreelaw07.RotationEuler.
-/
import Derived.Test.YtonfhkdciaiilaaXRRefE
import Derived.Test.YtonfhkdciaiilaaXRBad
import Derived.Test.YtonfhkdciaiilaaXRRefRight
import Derived.Test.YtonfhkdciaiilaaXRFacesLaw
namespace Go.Proofs.Ytonfhkdciaiilaa
open Go Go.Proofs Go.RowKit

theorem planeK_no {L : List Int} {i : Nat} (hi : i < L.length) (h : L[i] ≠ 2) : planeK L = 12 := by
  unfold planeK
  rw [if_pos]
  rw [List.any_eq_true]
  exact ⟨L[i], List.getElem_mem hi, by simpa using h⟩
theorem planeK_yes {L : List Int} (h : ∀ (i : Nat) (hi : i < L.length), L[i] = 2) : planeK L = 0 := by
  unfold planeK
  rw [if_neg]
  rw [List.any_eq_true]
  rintro ⟨x, hx, h2⟩
  obtain ⟨i, hi, rfl⟩ := List.getElem_of_mem hx
  simp at h2
  exact h2 (h i hi)

set_option maxRecDepth 100000 in
set_option maxHeartbeats 4000000 in
theorem refPlane_any (N : Nat) (l : List Ed) (hR : RightG (N : Int) l) (r : List (List Int)) (hS : SysR N l r) (hN : N ≤ 1000) (hm : l.length ≤ 4000) (sv rv : Value) (w : World) (hl : Edges w.heap.size w sv l) (hr : Lsts w.heap.size w rv r) :
    Calls Try.prog 12 #[.agg #[.int .i64 (N : Int), sv], rv] w fun e w' => e = .returned (.int .i64 (planeK (numsL N l r))) ∧ Below w.heap.size w w' := by
  have hb1 : Below w.heap.size w (w.alloc (.cells #[.int .i64 (N : Int), sv] 24)) := (Below.refl _ _).alloc (Nat.le_refl _) _
  have hX1 : Blk 24 (w.alloc (.cells #[.int .i64 (N : Int), sv] 24)) w.heap.size [.int .i64 (N : Int), sv] := heap_alloc_new w _
  have q0 := hX1.cell (j := 0) rfl
  have q1 := hX1.cell (j := 1) rfl
  have hrc := refSys_any (N : Int) l r sv rv _ (hl.go hb1) (hr.go hb1)
  rw [sysK_ok hR hS] at hrc
  have HRE : Hid (∀ W, Edges W.heap.size W sv l → Lsts W.heap.size W rv r → _) := fun W h1 h2 => refEuler_any N l hR r hS hN hm sv rv W h1 h2
  have HL : Hid (Edges w.heap.size w sv l) := hl
  have HR : Hid (Lsts w.heap.size w rv r) := hr
  have HB1 : Hid (Below w.heap.size w (w.alloc (.cells #[.int .i64 (N : Int), sv] 24))) := hb1
  have HX1 : Hid (Blk 24 (w.alloc (.cells #[.int .i64 (N : Int), sv] 24)) w.heap.size [.int .i64 (N : Int), sv]) := hX1
  have HNL : Hid ((numsL N l r).length ≤ 1000) := by have := numsL_len N l r; have := (comps_ok hR).few; unfold Hid; omega
  clear hb1 hX1 hl hr hR hS
  generalize numsL N l r = nums at *
  go_enter Try.func12, Try.ntmps12
  go_wp2_with fail
  generalize w.alloc (.cells #[.int .i64 (N : Int), sv] 24) = w1 at *
  refine hrc.mono ?_
  clear hrc
  rintro e w2 ⟨rfl, hb2⟩
  have HB2 : Hid (Below w.heap.size w w2) := HB1.out.trans (hb2.mono HB1.out.size)
  have HX2 : Hid (Blk 24 w2 w.heap.size [.int .i64 (N : Int), sv]) := HX1.out.go hb2
  clear hb2 q0 q1 HB1 HX1
  have q0 := HX2.out.cell (j := 0) rfl
  have q1 := HX2.out.cell (j := 1) rfl
  have hre := HRE.out w2 (HL.out.go HB2.out) (HR.out.go HB2.out)
  go_wp2_with fail
  refine hre.mono ?_
  clear hre
  rintro e w3 ⟨lv, rfl, hI3, hb3⟩
  obtain ⟨pn, cn, rfl⟩ := hI3.len
  have HI3 : Hid (Ints w3.heap.size w3 (.slice pn nums.length cn) nums) := hI3
  have HB3 : Hid (Below w.heap.size w w3) := HB2.out.trans (hb3.mono HB2.out.size)
  have hnl := HNL.out
  clear hI3 hb3 q0 q1 HB2 HX2
  go_wp2
  go_loop [7] (fun i => ∃ j : Nat, j ≤ nums.length ∧ i = .int .i64 j ∧ Hid (∀ (k : Nat) (hk : k < nums.length), k < j → nums[k] = 2)) (fun i => nums.length - (intOf i).toNat)
  case atStart => exact ⟨0, Nat.zero_le _, rfl, fun k _ h => by omega⟩
  case round =>
    obtain ⟨j, hj, rfl, HS⟩ := hrel
    by_cases hlt : j < nums.length
    · have hjl : (j : Int) < (nums.length : Int) := by omega
      obtain ⟨b, off, rfl, hbb, hcap, hc⟩ := HI3.out.open hlt
      have c0 := hc w3 (Below.refl _ _) j hlt
      by_cases he : nums[j] = 2
      · have HS2 : Hid (∀ (k : Nat) (hk : k < nums.length), k < j + 1 → nums[k] = 2) := fun k hk h => by
          by_cases e : k = j
          · subst e; exact he
          · exact HS.out k hk (by omega)
        rw [he] at c0
        have HLT : Hid (j < nums.length) := hlt
        clear hc HS he hlt
        go_wp2
        exact ⟨⟨j + 1, HLT.out, by go_num, HS2.out⟩, by have := HLT.out; simp [intOf]; omega⟩
      · have HE : Hid (planeK nums = 12) := planeK_no hlt he
        have he' : (nums[j] != 2) = true := by simpa using he
        generalize nums[j] = x at *
        clear hc HS he hlt
        go_wp2
        go_ret
        exact ⟨by rw [HE.out]; rfl, HB3.out⟩
    · have hjn : ¬ (j : Int) < (nums.length : Int) := by omega
      have HE : Hid (planeK nums = 0) := planeK_yes (fun k hk => HS.out k hk (by omega))
      clear HS
      go_wp2
      go_ret
      exact ⟨by rw [HE.out]; rfl, HB3.out⟩

end Go.Proofs.Ytonfhkdciaiilaa
