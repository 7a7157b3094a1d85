/-
  How often each face is told by the first edges. No program in this text.
-/
import Derived.Test.YtonfhkdciaiilaaXFcBri2
namespace Go.Proofs.Ytonfhkdciaiilaa
open Go Go.Proofs Go.RowKit

def add1 (L : List Int) (x : Nat) : List Int := L.set x (L.getD x 0 + 1)
/-- How often each face is told by the first i edges. -/
def cntM (F : List (List Dt)) (l : List Ed) (i : Nat) : List Int := (List.range F.length).map fun (q : Nat) => ((((l.take i).countP fun e => decide (faceOf F (e.1, e.2.1) = (q : Int))) + ((l.take i).countP fun e => decide (faceOf F (e.2.1, e.1) = (q : Int))) : Nat) : Int)
theorem cntM_len (F : List (List Dt)) (l : List Ed) (i : Nat) : (cntM F l i).length = F.length := by simp [cntM]
theorem cntM_bound {F : List (List Dt)} {l : List Ed} {i B : Nat} (hl : 2 * l.length ≤ B) {x : Int} (hx : x ∈ cntM F l i) : 0 ≤ x ∧ x ≤ (B : Int) := by
  unfold cntM at hx
  obtain ⟨q, _, rfl⟩ := List.mem_map.1 hx
  have h1 := List.countP_le_length (p := fun e : Ed => decide (faceOf F (e.1, e.2.1) = (q : Int))) (l := l.take i)
  have h2 := List.countP_le_length (p := fun e : Ed => decide (faceOf F (e.2.1, e.1) = (q : Int))) (l := l.take i)
  rw [List.length_take] at h1 h2
  omega
theorem cntM_zero (F : List (List Dt)) (l : List Ed) : cntM F l 0 = List.replicate F.length 0 := by
  unfold cntM
  apply List.ext_getElem
  · simp
  · intro i h1 h2
    simp
theorem cntM_step {F : List (List Dt)} {l : List Ed} {i a b : Nat} (hi : i < l.length) (ha : faceOf F (l[i].1, l[i].2.1) = (a : Int)) (hb : faceOf F (l[i].2.1, l[i].1) = (b : Int)) : add1 (add1 (cntM F l i) a) b = cntM F l (i + 1) := by
  apply List.ext_getElem
  · simp [add1, cntM_len]
  · intro q h1 h2
    rw [cntM_len] at h2
    have e : l.take (i + 1) = l.take i ++ [l[i]] := by rw [List.take_add_one, List.getElem?_eq_getElem hi]; rfl
    have g : ∀ (M : List Int) (x : Nat) (h : q < M.length), (add1 M x)[q]'(by simpa [add1] using h) = M[q] + if x = q then 1 else 0 := fun M x h => by
      unfold add1
      rw [List.getElem_set]
      by_cases hx : x = q
      · subst hx
        simp [h]
      · simp [hx]
    rw [g _ b (by simp [add1, cntM_len]; exact h2), g _ a (by rw [cntM_len]; exact h2)]
    unfold cntM
    simp only [List.getElem_map, List.getElem_range, e, List.countP_append, List.countP_singleton, ha, hb]
    have d1 : ((a : Int) = (q : Int)) ↔ a = q := by omega
    have d2 : ((b : Int) = (q : Int)) ↔ b = q := by omega
    by_cases x1 : a = q <;> by_cases x2 : b = q <;> simp [x1, x2, d1, d2] <;> omega
theorem cntM_full {N : Nat} {l : List Ed} {r : List (List Int)} (hR : RightG (N : Int) l) (hS : SysR N l r) : cntM (facesL N l r) l l.length = (facesL N l r).map fun x => (x.length : Int) := by
  apply List.ext_getElem
  · simp [cntM]
  · intro q h1 h2
    rw [cntM_len] at h1
    have := side_count hR hS h1
    unfold cntM
    simp only [List.getElem_map, List.getElem_range, List.take_length]
    omega

end Go.Proofs.Ytonfhkdciaiilaa
