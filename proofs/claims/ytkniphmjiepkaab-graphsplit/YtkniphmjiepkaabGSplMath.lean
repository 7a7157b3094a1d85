/-
  The places of some of a graph's edges, and of the others.
-/
import Derived.Test.YtkniphmjiepkaabGAgain
import Derived.Test.YtkniphmjiepkaabGLess
namespace Go.Proofs.Ytkniphmjiepkaab
open Go Go.Proofs Go.RowKit

def inA (t : List Bool) (i : Nat) : Bool := t[i]?.getD false
/-- The first j places that are in, or are not. -/
def pl (t : List Bool) (c : Bool) : Nat → List Int
  | 0 => []
  | j + 1 => pl t c j ++ (if inA t j = c then [(j : Int)] else [])
theorem pl_in {t : List Bool} {c : Bool} {j : Nat} (h : inA t j = c) : pl t c (j + 1) = pl t c j ++ [(j : Int)] := by rw [pl, if_pos h]
theorem pl_out {t : List Bool} {c : Bool} {j : Nat} (h : ¬ inA t j = c) : pl t c (j + 1) = pl t c j := by rw [pl, if_neg h, List.append_nil]
theorem pl_mem {t : List Bool} {c : Bool} {x : Int} : ∀ {j : Nat}, x ∈ pl t c j ↔ ∃ i : Nat, i < j ∧ x = (i : Int) ∧ inA t i = c
  | 0 => by simp [pl]
  | j + 1 => by
    have ih := pl_mem (t := t) (c := c) (x := x) (j := j)
    by_cases h : inA t j = c
    · rw [pl_in h, List.mem_append, ih, List.mem_singleton]
      constructor
      · rintro (⟨i, h1, h2, h3⟩ | rfl)
        · exact ⟨i, by omega, h2, h3⟩
        · exact ⟨j, by omega, rfl, h⟩
      · rintro ⟨i, h1, h2, h3⟩
        by_cases e : i = j
        · subst e; exact .inr h2
        · exact .inl ⟨i, by omega, h2, h3⟩
    · rw [pl_out h, ih]
      constructor
      · rintro ⟨i, h1, h2, h3⟩; exact ⟨i, by omega, h2, h3⟩
      · rintro ⟨i, h1, h2, h3⟩
        by_cases e : i = j
        · subst e; exact absurd h3 h
        · exact ⟨i, by omega, h2, h3⟩
theorem pl_len (t : List Bool) (c : Bool) : ∀ j, (pl t c j).length ≤ j
  | 0 => Nat.le_refl _
  | j + 1 => by
    have := pl_len t c j
    by_cases h : inA t j = c
    · rw [pl_in h]; simp; omega
    · rw [pl_out h]; omega
theorem pl_nodup (t : List Bool) (c : Bool) : ∀ j, (pl t c j).Nodup
  | 0 => List.nodup_nil
  | j + 1 => by
    have ih := pl_nodup t c j
    by_cases h : inA t j = c
    · rw [pl_in h, List.nodup_append]
      refine ⟨ih, by simp, ?_⟩
      intro a ha b hb
      obtain ⟨i, h1, h2, _⟩ := pl_mem.1 ha
      rw [List.mem_singleton] at hb
      omega
    · rw [pl_out h]; exact ih
theorem pl_both (t : List Bool) (j : Nat) : (pl t true j ++ pl t false j).Nodup := by
  rw [List.nodup_append]
  refine ⟨pl_nodup _ _ _, pl_nodup _ _ _, ?_⟩
  intro a ha b hb e
  obtain ⟨i, _, h2, h3⟩ := pl_mem.1 ha
  obtain ⟨k, _, h5, h6⟩ := pl_mem.1 hb
  have : i = k := by omega
  subst this
  rw [h3] at h6; cases h6
theorem pl_place {t : List Bool} {c : Bool} {l : List Ed} {x : Int} (h : x ∈ pl t c l.length) : placeB l x = true := by
  obtain ⟨i, h1, h2, _⟩ := pl_mem.1 h
  unfold placeB; simp; omega
theorem okB_of {l : List Ed} {a : List Int} (h1 : ∀ x ∈ a, placeB l x = true) (h2 : a.Nodup) : okB l a a.length = true := by
  unfold okB
  rw [List.all_eq_true]
  intro i hi
  have hi := List.mem_range.1 hi
  rw [List.getElem?_eq_getElem hi, Option.getD_some]
  unfold goodB
  rw [h1 _ (List.getElem_mem hi), Bool.true_and, Bool.not_eq_true', inB_false]
  intro hm
  obtain ⟨k, hk, he⟩ := List.mem_iff_getElem.1 hm
  rw [List.getElem_take] at he
  have hk' : k < i := by simp at hk; omega
  exact (List.pairwise_iff_getElem.1 h2 k i (by omega) hi hk') he
theorem sumW_all (l : List Ed) (a : List Int) : sumW l a a.length = (a.map (wgt l)).sum := by unfold sumW; rw [List.take_length]
theorem wV_of {l : List Ed} {a : List Int} (h1 : ∀ x ∈ a, placeB l x = true) (h2 : a.Nodup) : wV l a = (a.map (wgt l)).sum ∧ wK l a = 0 := by
  have h := okB_of h1 h2
  unfold wV wK
  rw [if_pos h, if_pos h, sumW_all]
  exact ⟨rfl, rfl⟩
structure SplitW (n : Int) (l : List Ed) (a b : List Int) : Prop where
  ka : wgtK n l a = 0
  kb : wgtK n l b = 0
  kab : wgtK n l (a ++ b) = 0
  sum : wgtV n l a + wgtV n l b = wgtV n l (a ++ b)
theorem split_w {n : Int} {l : List Ed} (hr : rightK n l = 0) (t : List Bool) : SplitW n l (pl t true l.length) (pl t false l.length) := by
  have h1 : ∀ x ∈ pl t true l.length ++ pl t false l.length, placeB l x = true := by
    intro x hx
    rcases List.mem_append.1 hx with h | h <;> exact pl_place h
  obtain ⟨v1, k1⟩ := wV_of (fun x hx => pl_place hx) (pl_nodup t true l.length)
  obtain ⟨v2, k2⟩ := wV_of (fun x hx => pl_place hx) (pl_nodup t false l.length)
  obtain ⟨v3, k3⟩ := wV_of h1 (pl_both t l.length)
  constructor <;> simp only [wgtK, wgtV, if_pos hr]
  · exact k1
  · exact k2
  · exact k3
  · rw [v1, v2, v3, List.map_append, List.sum_append]

theorem keepL_congr {l : List Ed} {p q : Nat → Bool} : ∀ {j : Nat}, (∀ i, i < j → p i = q i) → keepL l p j = keepL l q j
  | 0, _ => rfl
  | j + 1, h => by rw [keepL, keepL, keepL_congr (fun i hi => h i (by omega)), h j (by omega)]
theorem keepL_mem {l : List Ed} {p : Nat → Bool} {e : Ed} : ∀ {j : Nat}, e ∈ keepL l p j → e ∈ l
  | 0, h => by simp [keepL] at h
  | j + 1, h => by
    rw [keepL, List.mem_append] at h
    rcases h with h | h
    · exact keepL_mem h
    · split at h
      · rw [Option.mem_toList] at h; exact List.mem_of_getElem? h
      · simp at h
theorem less_pl {t : List Bool} {c : Bool} {m i : Nat} (h : i < m) : lessP (pl t c m) i = (inA t i == !c) := by
  unfold lessP
  by_cases hc : inA t i = c
  · rw [inB_true.2 (pl_mem.2 ⟨i, h, rfl, hc⟩), hc]; cases c <;> rfl
  · have : inB (pl t c m) (i : Int) = false := by
      rw [inB_false]
      intro hm
      obtain ⟨k, _, h2, h3⟩ := pl_mem.1 hm
      have : i = k := by omega
      subst this; exact hc h3
    rw [this]
    cases c <;> cases h : inA t i <;> simp_all
theorem keep_len {l : List Ed} {t : List Bool} {c : Bool} : ∀ {j : Nat}, j ≤ l.length → (keepL l (fun i => inA t i == c) j).length = (pl t c j).length
  | 0, _ => rfl
  | j + 1, h => by
    have ih := keep_len (l := l) (t := t) (c := c) (j := j) (by omega)
    by_cases hc : inA t j = c
    · rw [keepL_in (by omega) (by simpa using hc), pl_in hc]; simp [ih]
    · rw [keepL_out (by simpa using hc), pl_out hc, ih]
theorem keep_perm {l : List Ed} {t : List Bool} : ∀ {j : Nat}, j ≤ l.length → (keepL l (fun i => inA t i == false) j ++ keepL l (fun i => inA t i == true) j).Perm (l.take j)
  | 0, _ => by simp [keepL]
  | j + 1, h => by
    have ih := keep_perm (l := l) (t := t) (j := j) (by omega)
    rw [take_snoc (by omega : j < l.length)]
    cases hc : inA t j with
    | true =>
      rw [keepL_in (pred := fun i => inA t i == true) (by omega) (by simpa using hc), keepL_out (pred := fun i => inA t i == false) (by simp [hc]), ← List.append_assoc]
      exact ih.append_right _
    | false =>
      rw [keepL_in (pred := fun i => inA t i == false) (by omega) (by simpa using hc), keepL_out (pred := fun i => inA t i == true) (by simp [hc]), List.append_assoc]
      refine (List.Perm.append_left _ List.perm_append_comm).trans ?_
      rw [← List.append_assoc]
      exact ih.append_right _
structure SplitL (n : Int) (l x y : List Ed) (b : List Int) : Prop where
  len : x.length = b.length
  lx : x.length ≤ l.length
  ly : y.length ≤ l.length
  shuf : Shuf n l (x ++ y)
theorem split_l {n : Int} {l : List Ed} (hR : RightG n l) (t : List Bool) : SplitL n l (stayL n l (lessP (pl t true l.length))) (stayL n l (lessP (pl t false l.length))) (pl t false l.length) := by
  have hr := right_iff.2 hR
  have e1 : stayL n l (lessP (pl t true l.length)) = keepL l (fun i => inA t i == false) l.length := by
    unfold stayL; rw [if_pos hr]; exact keepL_congr fun i hi => by rw [less_pl hi]; rfl
  have e2 : stayL n l (lessP (pl t false l.length)) = keepL l (fun i => inA t i == true) l.length := by
    unfold stayL; rw [if_pos hr]; exact keepL_congr fun i hi => by rw [less_pl hi]; rfl
  rw [e1, e2]
  have hp := keep_perm (t := t) (Nat.le_refl l.length)
  rw [List.take_length] at hp
  refine ⟨keep_len (Nat.le_refl _), keepL_len _ _ _, keepL_len _ _ _, hp.length_eq, hp.map norm, fun e he => (hR.each e (hp.mem_iff.1 he)).1⟩

end Go.Proofs.Ytkniphmjiepkaab
