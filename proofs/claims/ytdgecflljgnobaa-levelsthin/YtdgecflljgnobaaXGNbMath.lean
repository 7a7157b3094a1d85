/-
  Neighbours and degrees, without the program.
-/
import Derived.Test.YtdgecflljgnobaaXGMath
namespace Go.Proofs.Ytdgecflljgnobaa
open Go Go.Proofs

def nbOf (e : Ed) (x : Int) : List Int := if e.1 = x then [e.2.1] else if e.2.1 = x then [e.1] else []
def nb (l : List Ed) (x : Int) : List Int := l.flatMap fun e => nbOf e x
theorem nb_snoc {l : List Ed} {j : Nat} (h : j < l.length) (x : Int) : nb (l.take (j + 1)) x = nb (l.take j) x ++ nbOf l[j] x := by
  unfold nb
  rw [List.take_add_one, List.getElem?_eq_getElem h, List.flatMap_append]
  simp
theorem nb_le (l : List Ed) (x : Int) (j : Nat) : (nb (l.take j) x).length ≤ (nb l x).length := by
  have h : nb l x = nb (l.take j) x ++ nb (l.drop j) x := by unfold nb; rw [← List.flatMap_append, List.take_append_drop]
  rw [h, List.length_append]; omega
theorem nbOf_len (e : Ed) (x : Int) : (nbOf e x).length ≤ 1 := by unfold nbOf; split <;> (try split) <;> simp
theorem nb_len (x : Int) : ∀ l : List Ed, (nb l x).length ≤ l.length
  | [] => Nat.le_refl _
  | e :: l => by
    have := nb_len x l; have := nbOf_len e x
    unfold nb at *
    rw [List.flatMap_cons, List.length_append, List.length_cons]; omega
theorem mem_nb {l : List Ed} {x y : Int} : y ∈ nb l x ↔ ∃ e ∈ l, (e.1 = x ∧ e.2.1 = y) ∨ (e.1 ≠ x ∧ e.2.1 = x ∧ e.1 = y) := by
  unfold nb
  rw [List.mem_flatMap]
  constructor
  · rintro ⟨e, he, hy⟩
    refine ⟨e, he, ?_⟩
    unfold nbOf at hy
    split at hy
    · left; exact ⟨by assumption, (List.mem_singleton.1 hy).symm⟩
    · split at hy
      · right; exact ⟨by assumption, by assumption, (List.mem_singleton.1 hy).symm⟩
      · cases hy
  · rintro ⟨e, he, h | h⟩
    · exact ⟨e, he, by unfold nbOf; rw [if_pos h.1, h.2]; exact List.mem_singleton.2 rfl⟩
    · exact ⟨e, he, by unfold nbOf; rw [if_neg h.1, if_pos h.2.1, h.2.2]; exact List.mem_singleton.2 rfl⟩
theorem nb_mutual {n : Int} {l : List Ed} (hR : RightG n l) {x y : Int} (h : y ∈ nb l x) : x ∈ nb l y ∧ 0 ≤ y ∧ y < n ∧ y ≠ x := by
  obtain ⟨e, he, hc⟩ := mem_nb.1 h
  have hok := hR.each e he
  unfold okE at hok
  refine ⟨mem_nb.2 ⟨e, he, ?_⟩, ?_⟩
  · omega
  · omega
theorem nb_rise {n : Int} {l : List Ed} (hR : RightG n l) (x : Int) : (nb l x).Pairwise (· < ·) := by
  unfold nb
  rw [List.pairwise_flatMap]
  refine ⟨fun e _ => ?_, ?_⟩
  · unfold nbOf
    split
    · exact List.pairwise_singleton _ _
    · split
      · exact List.pairwise_singleton _ _
      · exact List.Pairwise.nil
  · refine hR.rise.imp_of_mem fun {a b} ha hb hlo y hy z hz => ?_
    have h1 := (hR.each a ha).2
    have h2 := (hR.each b hb).2
    rw [lo_iff] at hlo
    unfold nbOf at hy hz
    split at hy
    · have := List.mem_singleton.1 hy
      split at hz
      · have := List.mem_singleton.1 hz; omega
      · split at hz
        · have := List.mem_singleton.1 hz; omega
        · cases hz
    · split at hy
      · have := List.mem_singleton.1 hy
        split at hz
        · have := List.mem_singleton.1 hz; omega
        · split at hz
          · have := List.mem_singleton.1 hz; omega
          · cases hz
      · cases hy

/-- The sum of the degrees of the first v vertices. -/
def degS (l : List Ed) : Nat → Nat
  | 0 => 0
  | v + 1 => degS l v + (nb l (v : Int)).length
theorem degS_nil : ∀ v, degS [] v = 0
  | 0 => rfl
  | v + 1 => by rw [degS, degS_nil v]; rfl
/-- How many of an edge's ends are below v. -/
def endsLow (e : Ed) (v : Nat) : Nat := (if e.1 < (v : Int) then 1 else 0) + (if e.2.1 < (v : Int) then 1 else 0)
theorem degS_cons {e : Ed} {l : List Ed} (h0 : 0 ≤ e.1) (h1 : 0 ≤ e.2.1) (hne : e.1 ≠ e.2.1) : ∀ v, degS (e :: l) v = endsLow e v + degS l v
  | 0 => by
    unfold endsLow
    rw [if_neg (by omega), if_neg (by omega)]
    rfl
  | v + 1 => by
    rw [degS, degS, degS_cons h0 h1 hne v]
    have hl : (nb (e :: l) (v : Int)).length = (nbOf e (v : Int)).length + (nb l (v : Int)).length := by unfold nb; rw [List.flatMap_cons, List.length_append]
    rw [hl]
    have : endsLow e (v + 1) = endsLow e v + (nbOf e (v : Int)).length := by
      unfold endsLow nbOf
      by_cases a : e.1 = (v : Int)
      · rw [if_pos a]
        simp only [List.length_singleton]
        split <;> split <;> split <;> split <;> omega
      · rw [if_neg a]
        by_cases b : e.2.1 = (v : Int)
        · rw [if_pos b]
          simp only [List.length_singleton]
          split <;> split <;> split <;> split <;> omega
        · rw [if_neg b]
          simp only [List.length_nil]
          split <;> split <;> split <;> split <;> omega
    omega
theorem degS_all {n : Nat} : ∀ {l : List Ed}, (∀ e ∈ l, okE (n : Int) e) → degS l n = 2 * l.length
  | [], _ => degS_nil n
  | e :: l, h => by
    have he := h e (List.mem_cons_self ..)
    unfold okE at he
    rw [degS_cons (by omega) (by omega) (by omega), degS_all fun x hx => h x (List.mem_cons_of_mem _ hx), List.length_cons]
    unfold endsLow
    rw [if_pos (by omega), if_pos (by omega)]
    omega
theorem degS_le {l : List Ed} {v n : Nat} (h : v ≤ n) : degS l v ≤ degS l n := by
  induction h with
  | refl => exact Nat.le_refl _
  | step _ ih => rw [degS]; omega

end Go.Proofs.Ytdgecflljgnobaa
