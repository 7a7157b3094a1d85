/-
  Lists of numbers that are the same.
-/
import Derived.Test.YthdhimcaojfcnaaGreatXWaChk
namespace Go.Proofs.YthdhimcaojfcnaaGreat
open Go Go.Proofs Go.RowKit

def sameI (A B : List Int) : Bool := A == B
theorem same_no {A B : List Int} (h : A ≠ B) : sameI A B = false := by simpa [sameI] using h
theorem same_yes {A B : List Int} (h : A = B) : sameI A B = true := by simpa [sameI] using h
set_option maxRecDepth 100000 in
set_option maxHeartbeats 2000000 in
theorem refIntsW_any (A B : List Int) (av bv : Value) (w : World) (hA : Ints w.heap.size w av A) (hB : Ints w.heap.size w bv B) (hm : A.length ≤ 1000000) :
    Calls Tryz.prog 10 #[av, bv] w fun r w' => r = .returned (.bool (sameI A B)) ∧ ∃ q, w' = w.drewN q := by
  have hmix := mixed
  obtain ⟨pa, ca, rfl, hoa⟩ := hA.openW
  obtain ⟨pb, cb, rfl, hob⟩ := hB.openW
  by_cases hl : A.length = B.length
  · rw [← hl]
    have HL : Hid _ := hl
    have HOA := fun (j : Nat) (hj : j < A.length) => hoa (j := j) hj
    have HOB := fun (j : Nat) (hj : j < B.length) => hob (j := j) hj
    have HA : Hid _ := HOA
    have HB : Hid _ := HOB
    clear hoa hob hl hA hB HOA HOB
    go_enter Tryz.func10, Tryz.ntmps10
    go_wp2
    go_loopw [5] (fun i wr => ∃ j : Nat, j ≤ A.length ∧ i = .int .i64 j ∧ Hid (∀ k, k < j → at' A k = at' B k) ∧ ∃ q, wr = w.drewN q) (fun i _ => A.length - (intOf i).toNat)
    case atStart => exact ⟨0, Nat.zero_le _, rfl, (fun k hk => by omega), 0, rfl⟩
    case round =>
      obtain ⟨j, hj, rfl, HE, q, rfl⟩ := hrel
      by_cases hjl : j < A.length
      · obtain ⟨ba, oa, rfl, hba, hca⟩ := HA.out j hjl
        obtain ⟨bb, ob, rfl, hbb, hcb⟩ := HB.out j (by rw [← HL.out]; exact hjl)
        have a0 := hca (w.drewN q) (below_drewN (Below.refl _ _) q) j hjl
        have b0 := hcb (w.drewN q) (below_drewN (Below.refl _ _) q) j (by rw [← HL.out]; exact hjl)
        have hjl' : (j : Int) < (A.length : Int) := by omega
        clear hca hcb
        by_cases he : at' A j = at' B j
        · have HE2 : Hid (∀ k, k < j + 1 → at' A k = at' B k) := fun k hk => by
            by_cases e : k = j
            · subst e; exact he
            · exact HE.out k (by omega)
          rw [← he] at b0
          clear HE he
          generalize at' A j = x at *
          go_wp2
          obtain ⟨wq, HQ⟩ : ∃ wq, Hid (w.drewN q = wq) := ⟨_, show Hid _ from rfl⟩
          rw [HQ.out] at a0 b0 ⊢
          go_quiet (fail)
          go_wp2
          exact ⟨⟨j + 1, by omega, by go_num, HE2, q + nq, by rw [← HQ.out, World.drewN_drewN]⟩, by simp [intOf]; omega⟩
        · have HN : Hid (sameI A B = false) := same_no fun h => he (by rw [h])
          clear HE
          generalize at' A j = x at *
          generalize at' B j = y at *
          go_wp2
          obtain ⟨wq, HQ⟩ : ∃ wq, Hid (w.drewN q = wq) := ⟨_, show Hid _ from rfl⟩
          rw [HQ.out] at a0 b0 ⊢
          go_quiet (fail)
          go_wp2
          go_ret
          exact ⟨by rw [HN.out]; rfl, q + nq, by rw [← HQ.out, World.drewN_drewN]⟩
      · obtain rfl : j = A.length := by omega
        have HY : Hid (sameI A B = true) := same_yes (by
          refine List.ext_getElem HL.out fun k h1 h2 => ?_
          rw [← at_get h1, ← at_get h2]
          exact HE.out k h1)
        clear HE
        go_wp2
        go_ret
        exact ⟨by rw [HY.out]; rfl, q, rfl⟩
  · have hl' : ¬ (A.length : Int) = (B.length : Int) := by omega
    have HN : Hid (sameI A B = false) := same_no fun h => hl (by rw [h])
    clear hoa hob
    go_enter Tryz.func10, Tryz.ntmps10
    go_wp2
    go_ret
    exact ⟨by rw [HN.out]; rfl, 0, rfl⟩
end Go.Proofs.YthdhimcaojfcnaaGreat
