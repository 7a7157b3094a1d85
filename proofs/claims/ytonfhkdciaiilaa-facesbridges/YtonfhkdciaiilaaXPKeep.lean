/-
  Some of a graph's edges. No program in this text.
-/
import Derived.Test.YtonfhkdciaiilaaXPHas
namespace Go.Proofs.Ytonfhkdciaiilaa
open Go Go.Proofs

/-- The edges at those of the first j places that stay. -/
def keepL (l : List Ed) (pred : Nat → Bool) : Nat → List Ed
  | 0 => []
  | j + 1 => keepL l pred j ++ (if pred j = true then l[j]?.toList else [])
theorem keepL_in {l : List Ed} {pred : Nat → Bool} {j : Nat} (h : j < l.length) (hp : pred j = true) : keepL l pred (j + 1) = keepL l pred j ++ [l[j]] := by
  rw [keepL, if_pos hp, List.getElem?_eq_getElem h]; rfl
theorem keepL_out {l : List Ed} {pred : Nat → Bool} {j : Nat} (hp : pred j = false) : keepL l pred (j + 1) = keepL l pred j := by
  rw [keepL, hp]; simp
theorem keepL_len (l : List Ed) (pred : Nat → Bool) : ∀ j, (keepL l pred j).length ≤ j
  | 0 => Nat.le_refl _
  | j + 1 => by
    rw [keepL, List.length_append]
    have := keepL_len l pred j
    split
    · cases l[j]? <;> simp <;> omega
    · simp; omega

def keptB (kp : List Bool) (v : Int) : Bool := decide (v < (kp.length : Int)) && kp[v.toNat]?.getD false
def onlyP (l : List Ed) (kp : List Bool) (i : Nat) : Bool := keptB kp (l[i]?.getD (0, 0, 0)).1 && keptB kp (l[i]?.getD (0, 0, 0)).2.1
theorem onlyP_at {l : List Ed} {kp : List Bool} {i : Nat} (h : i < l.length) : onlyP l kp i = (keptB kp l[i].1 && keptB kp l[i].2.1) := by simp [onlyP, h]
def lessP (a : List Int) (i : Nat) : Bool := !inB a (i : Int)
end Go.Proofs.Ytonfhkdciaiilaa
