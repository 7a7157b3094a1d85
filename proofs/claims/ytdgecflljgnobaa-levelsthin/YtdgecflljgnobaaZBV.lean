/-
  The contract of the reference's Has.
-/
import Derived.Test.YtdgecflljgnobaaZAE
import Derived.Test.YtdgecflljgnobaaXGSort
import Derived.Test.YtdgecflljgnobaaXPLabMath
import Derived.Test.YtdgecflljgnobaaXPWalkMath
import Derived.Test.YtdgecflljgnobaaXLvMath
namespace Go.Proofs.Ytdgecflljgnobaa
open Go Go.Proofs Go.RowKit

theorem take_snoc {α : Type} {a : List α} {j : Nat} (h : j < a.length) : a.take (j + 1) = a.take j ++ [a[j]] := by rw [List.take_add_one, List.getElem?_eq_getElem h]; rfl
def inB (a : List Int) (x : Int) : Bool := decide (x ∈ a)
theorem inB_true {a : List Int} {x : Int} : inB a x = true ↔ x ∈ a := by simp [inB]
theorem inB_false {a : List Int} {x : Int} : inB a x = false ↔ x ∉ a := by simp [inB]
theorem inB_snoc (a : List Int) (y x : Int) : inB (a ++ [y]) x = (inB a x || decide (x = y)) := by simp [inB]

end Go.Proofs.Ytdgecflljgnobaa

namespace Go.Proofs.Ytdgecflljgnobaa
open Go Go.Proofs

/-- The edges at those of the first j places that stay. -/
def keepL (l : List Ed) (pred : Nat → Bool) : Nat → List Ed
  | 0 => []
  | j + 1 => keepL l pred j ++ (if pred j = true then l[j]?.toList else [])
theorem keepL_in {l : List Ed} {pred : Nat → Bool} {j : Nat} (h : j < l.length) (hp : pred j = true) : keepL l pred (j + 1) = keepL l pred j ++ [l[j]] := by
  rw [keepL, if_pos hp, List.getElem?_eq_getElem h]; rfl
theorem keepL_out {l : List Ed} {pred : Nat → Bool} {j : Nat} (hp : pred j = false) : keepL l pred (j + 1) = keepL l pred j := by
  rw [keepL, hp]; simp
theorem keepL_len (l : List Ed) (pred : Nat → Bool) : ∀ j, (keepL l pred j).length ≤ j
  | 0 => Nat.le_refl _
  | j + 1 => by
    rw [keepL, List.length_append]
    have := keepL_len l pred j
    split
    · cases l[j]? <;> simp <;> omega
    · simp; omega

def keptB (kp : List Bool) (v : Int) : Bool := decide (v < (kp.length : Int)) && kp[v.toNat]?.getD false
def onlyP (l : List Ed) (kp : List Bool) (i : Nat) : Bool := keptB kp (l[i]?.getD (0, 0, 0)).1 && keptB kp (l[i]?.getD (0, 0, 0)).2.1
theorem onlyP_at {l : List Ed} {kp : List Bool} {i : Nat} (h : i < l.length) : onlyP l kp i = (keptB kp l[i].1 && keptB kp l[i].2.1) := by simp [onlyP, h]
def lessP (a : List Int) (i : Nat) : Bool := !inB a (i : Int)
end Go.Proofs.Ytdgecflljgnobaa

namespace Go.Proofs.Ytdgecflljgnobaa
open Go Go.Proofs

theorem keepL_iffL {l : List Ed} {pred : Nat → Bool} {e : Ed} : ∀ {j : Nat}, e ∈ keepL l pred j ↔ ∃ k, k < j ∧ l[k]? = some e ∧ pred k = true
  | 0 => by simp [keepL]
  | j + 1 => by
    rw [keepL, List.mem_append, keepL_iffL (j := j)]
    constructor
    · rintro (⟨k, h1, h2, h3⟩ | h)
      · exact ⟨k, by omega, h2, h3⟩
      · split at h
        · rename_i hp
          exact ⟨j, by omega, by simpa using h, hp⟩
        · simp at h
    · rintro ⟨k, h1, h2, h3⟩
      by_cases hk : k = j
      · subst hk
        right
        rw [if_pos h3]
        simpa using h2
      · exact .inl ⟨k, by omega, h2, h3⟩
theorem keepL_takeL {l : List Ed} {pred : Nat → Bool} : ∀ {j : Nat}, j ≤ l.length → (keepL l pred j).Sublist (l.take j)
  | 0, _ => by simp [keepL]
  | j + 1, h => by
    have hj : j < l.length := by omega
    have hsn : l.take (j + 1) = l.take j ++ [l[j]] := by rw [List.take_add_one, List.getElem?_eq_getElem hj]; rfl
    rw [hsn]
    cases hp : pred j with
    | false =>
      rw [keepL_out hp]
      exact (keepL_takeL (by omega)).trans (List.sublist_append_left _ _)
    | true =>
      rw [keepL_in hj hp]
      exact (keepL_takeL (by omega)).append (List.Sublist.refl _)
theorem keep_rightL {n : Int} {l : List Ed} (hR : RightG n l) (pred : Nat → Bool) : RightG n (keepL l pred l.length) := by
  have hs := keepL_takeL (l := l) (pred := pred) (Nat.le_refl _)
  rw [List.take_length] at hs
  exact ⟨hR.n0, hR.n1, Nat.le_trans hs.length_le hR.m1, fun e he => hR.each e (hs.subset he), hR.rise.sublist hs⟩
/-- Only edges of which both ends are kept. -/
theorem keep_adjL {l : List Ed} {kp : List Bool} {N : Nat} (hR : RightG (N : Int) l) (hk : kp.length = N) {x y : Nat} : Adj (keepL l (onlyP l kp) l.length) x y ↔ Adj l x y ∧ kp.getD x false = true ∧ kp.getD y false = true := by
  have hkb : ∀ v : Nat, v < N → keptB kp (v : Int) = kp.getD v false := fun v hv => by
    have h1 : (v : Int) < (kp.length : Int) := by omega
    simp [keptB, h1]
  constructor
  · rintro ⟨e, he, h⟩
    obtain ⟨k, h1, h2, h3⟩ := keepL_iffL.1 he
    have hok := (hR.each e (List.mem_of_getElem? h2)).1
    unfold okE at hok
    obtain ⟨hkl, hke⟩ := List.getElem?_eq_some_iff.1 h2
    rw [onlyP_at hkl, hke, Bool.and_eq_true] at h3
    have ha : Adj l x y := ⟨e, List.mem_of_getElem? h2, h⟩
    have hb := adj_lt hR ha
    refine ⟨ha, ?_⟩
    rcases h with ⟨h4, h5⟩ | ⟨h4, h5⟩
    · rw [show e.1 = (x : Int) by omega, show e.2.1 = (y : Int) by omega, hkb x hb.1, hkb y hb.2] at h3
      exact h3
    · rw [show e.1 = (y : Int) by omega, show e.2.1 = (x : Int) by omega, hkb x hb.1, hkb y hb.2] at h3
      exact ⟨h3.2, h3.1⟩
  · rintro ⟨⟨e, he, h⟩, hx, hy⟩
    obtain ⟨k, hk1, hke⟩ := List.getElem_of_mem he
    have hb := adj_lt hR ⟨e, he, h⟩
    refine ⟨e, keepL_iffL.2 ⟨k, hk1, by rw [List.getElem?_eq_getElem hk1, hke], ?_⟩, h⟩
    rw [onlyP_at hk1, hke, Bool.and_eq_true]
    have hok := (hR.each e he).1
    unfold okE at hok
    rcases h with ⟨h4, h5⟩ | ⟨h4, h5⟩
    · rw [show e.1 = (x : Int) by omega, show e.2.1 = (y : Int) by omega, hkb x hb.1, hkb y hb.2]; exact ⟨hx, hy⟩
    · rw [show e.1 = (y : Int) by omega, show e.2.1 = (x : Int) by omega, hkb x hb.1, hkb y hb.2]; exact ⟨hy, hx⟩

theorem mod_stay {y k s : Int} (hy : 0 ≤ y) (hk : 1 ≤ k) (hs0 : 0 ≤ s) (hsk : s ≤ k) : (Int.tmod (y - s) (k + 1) != 0) = (Int.tmod y (k + 1) != s) := by
  have h0 : Int.tmod y (k + 1) = y % (k + 1) := Int.tmod_eq_emod_of_nonneg hy
  have hkp : (0 : Int) < k + 1 := by omega
  have e1 := Int.emod_add_mul_ediv y (k + 1)
  have e2 := Int.emod_nonneg y (show k + 1 ≠ 0 by omega)
  have e3 := Int.emod_lt_of_pos y hkp
  rw [h0]
  by_cases hd : s ≤ y
  · have h1 : Int.tmod (y - s) (k + 1) = (y - s) % (k + 1) := Int.tmod_eq_emod_of_nonneg (by omega)
    rw [h1]
    by_cases he : y % (k + 1) = s
    · have h2 : (y - s) % (k + 1) = 0 := by
        have h3 : y - s = (k + 1) * (y / (k + 1)) := by omega
        rw [h3, Int.mul_emod_right]
      rw [h2, he]; simp
    · have h2 : (y - s) % (k + 1) ≠ 0 := fun h => by
        have h3 := Int.dvd_of_emod_eq_zero h
        obtain ⟨q, hq⟩ := h3
        have h4 : y = s + (k + 1) * q := by omega
        apply he
        rw [h4, Int.add_mul_emod_self_left, Int.emod_eq_of_lt hs0 (by omega)]
      have a : ((y - s) % (k + 1) != 0) = true := by simpa using h2
      have b : (y % (k + 1) != s) = true := by simpa using he
      rw [a, b]
  · have h1 : Int.tmod (y - s) (k + 1) = y - s := by
      have h2 : y - s = -(s - y) := by omega
      rw [h2, Int.neg_tmod, Int.tmod_eq_emod_of_nonneg (by omega), Int.emod_eq_of_lt (by omega) (by omega)]
    have h2 : y % (k + 1) = y := Int.emod_eq_of_lt hy (by omega)
    rw [h1, h2]
    have a : (y - s != 0) = true := by simp; omega
    have b : (y != s) = true := by simp; omega
    rw [a, b]
end Go.Proofs.Ytdgecflljgnobaa
