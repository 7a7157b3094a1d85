/-
  The walk of filigreelaw07.RotationFaces.
-/
import Derived.Test.YtonfhkdciaiilaaXRRefF2
import Derived.Test.YtonfhkdciaiilaaXRSame
import Derived.Test.YtonfhkdciaiilaaXRBad
import Derived.Test.YtonfhkdciaiilaaXRRefRight
namespace Go.Proofs.Ytonfhkdciaiilaa
open Go Go.Proofs Go.RowKit

theorem sysK_nought {n : Int} {l : List Ed} {r : List (List Int)} (h : sysK n l r = 0) : ∃ N : Nat, n = (N : Int) ∧ RightG (N : Int) l ∧ SysR N l r := by
  unfold sysK at h
  by_cases hk : rightK n l = 0
  · rw [if_pos hk] at h
    have hR := right_iff.1 hk
    obtain ⟨N, rfl⟩ : ∃ N : Nat, n = (N : Int) := ⟨n.toNat, by have := hR.n0; omega⟩
    refine ⟨N, rfl, hR, ?_⟩
    by_cases hs : r.map sortL = nearL (N : Int).toNat l
    · exact (sys_iff hR).1 hs
    · rw [if_neg hs] at h; cases h
  · rw [if_neg hk] at h; cases h
theorem facesL_each (N : Nat) (l : List Ed) (r : List (List Int)) : ∀ f ∈ facesL N l r, f.length ≤ 2 * l.length + 1 := by
  have key : ∀ j, ∀ f ∈ (roundsAt (nxD r) (2 * l.length + 1) (dartsL N l) j).1, f.length ≤ 2 * l.length + 1 := by
    intro j
    induction j with
    | zero => intro f hf; simp [roundsAt] at hf
    | succ j ih =>
      intro f hf
      rw [roundsAt] at hf
      split at hf
      · exact ih f hf
      · rcases List.mem_append.1 hf with h | h
        · exact ih f h
        · rw [List.mem_singleton.1 h]; exact orb_len _ _ _ _
  exact key _
theorem facesL_few {N : Nat} {l : List Ed} (hR : RightG (N : Int) l) (r : List (List Int)) : (facesL N l r).length ≤ 3 * l.length := by
  rw [← facesL_st hR]
  exact (stF_few hR r (Nat.le_refl _)).1

end Go.Proofs.Ytonfhkdciaiilaa
