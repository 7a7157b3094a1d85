/-
  What the reference's Greedy looks for. No program in this text.
-/
import Derived.Test.YteekhofollaooaaCB
import Derived.Test.YteekhofollaooaaXPRefFind
namespace Go.Proofs.Yteekhofollaooaa
open Go Go.Proofs Go.RowKit

theorem find_nb {l : List Ed} {u v : Int} : findP l u v < 0 ↔ u ∉ nb l v := by
  constructor
  · intro h hm
    obtain ⟨e, he, hc⟩ := mem_nb.1 hm
    unfold findP at h
    cases hf : l.findIdx? (endsB u v) with
    | none =>
      rw [List.findIdx?_eq_none_iff] at hf
      have h1 := hf e he
      unfold endsB at h1
      rw [Bool.or_eq_false_iff, Bool.and_eq_false_iff, Bool.and_eq_false_iff] at h1
      simp only [decide_eq_false_iff_not] at h1
      omega
    | some i => rw [hf] at h; simp only at h; omega
  · intro h
    rw [findP_no]
    · decide
    · intro e he
      cases hb : endsB u v e with
      | false => rfl
      | true =>
        exfalso
        apply h
        rw [mem_nb]
        refine ⟨e, he, ?_⟩
        unfold endsB at hb
        simp only [Bool.or_eq_true, Bool.and_eq_true, decide_eq_true_eq] at hb
        omega
/-- None of the first u vertices that are next to v has colour k. -/
def freeB (l : List Ed) (C : List Int) (v k : Int) (u : Nat) : Bool := (List.range u).all fun (x : Nat) => decide (C.getD x 0 ≠ k) || decide (findP l (x : Int) v < 0)
theorem freeB_succ (l : List Ed) (C : List Int) (v k : Int) (u : Nat) : freeB l C v k (u + 1) = (freeB l C v k u && (decide (C.getD u 0 ≠ k) || decide (findP l (u : Int) v < 0))) := by
  unfold freeB
  rw [List.range_succ, List.all_append]
  simp
theorem freeB_all {N : Nat} {l : List Ed} (hR : RightG (N : Int) l) {C : List Int} {v : Int} {k : Int} : freeB l C v k N = true ↔ ∀ u ∈ nb l v, C.getD u.toNat 0 ≠ k := by
  unfold freeB
  rw [List.all_eq_true]
  constructor
  · intro h u hu
    obtain ⟨_, h1, h2, _⟩ := nb_mutual hR hu
    have h3 := h u.toNat (List.mem_range.2 (by omega))
    rw [Bool.or_eq_true, decide_eq_true_iff, decide_eq_true_iff, find_nb] at h3
    rcases h3 with h3 | h3
    · exact h3
    · exfalso
      apply h3
      rw [show ((u.toNat : Nat) : Int) = u by omega]
      exact hu
  · intro h x _
    rw [Bool.or_eq_true, decide_eq_true_iff, decide_eq_true_iff, find_nb]
    by_cases hx : (x : Int) ∈ nb l v
    · left
      have := h _ hx
      simpa using this
    · exact .inr hx
theorem snoc_ind {p : List Int → Prop} (h0 : p []) (h1 : ∀ P v, p P → p (P ++ [v])) (P : List Int) : p P := by
  have key : ∀ Q : List Int, p Q.reverse := by
    intro Q
    induction Q with
    | nil => exact h0
    | cons v Q ih => rw [List.reverse_cons]; exact h1 _ v ih
  have := key P.reverse
  rwa [List.reverse_reverse] at this
/-- What has no colour yet has none. -/
theorem grA_bare (N : Nat) (l : List Ed) (m : Nat) : ∀ (P : List Int), (∀ x ∈ P, 0 ≤ x) → ∀ i : Nat, i < N → (i : Int) ∉ P → (grA N l m P).1.getD i 0 = -1 := by
  intro P
  refine snoc_ind (p := fun P => (∀ x ∈ P, 0 ≤ x) → ∀ i : Nat, i < N → (i : Int) ∉ P → (grA N l m P).1.getD i 0 = -1) ?_ (fun P v ih => ?_) P
  · intro _ i hi _
    unfold grA
    simp only [List.foldl_nil]
    rw [List.getD_eq_getElem?_getD, List.getElem?_replicate, if_pos hi]
    rfl
  · intro hP i hi hn
    have e : grA N l m (P ++ [v]) = grS l (grA N l m P) v := by unfold grA; rw [List.foldl_append]; rfl
    rw [e]
    unfold grS
    simp only
    have hv := hP v (by simp)
    have hne : v.toNat ≠ i := fun h => hn (by rw [← h, show ((v.toNat : Nat) : Int) = v by omega]; simp)
    rw [List.getD_eq_getElem?_getD, List.getElem?_set_ne hne, ← List.getD_eq_getElem?_getD]
    exact ih (fun x hx => hP x (List.mem_append_left _ hx)) i hi (fun h => hn (List.mem_append_left _ h))
/-- Colours behind each vertex that has been painted are from 0 on. -/
theorem grA_has (N : Nat) (l : List Ed) (m : Nat) : ∀ (P : List Int), (∀ x ∈ P, 0 ≤ x ∧ x < (N : Int)) → P.Nodup → (∀ v, v < N → (nb l (v : Int)).length < m) → (∀ i : Nat, (i : Int) ∈ P → 0 ≤ (grA N l m P).1.getD i 0) ∧ (0 < N → GS m (grA N l m P).1 (grA N l m P).2 P) := by
  intro P
  refine snoc_ind (p := fun P => (∀ x ∈ P, 0 ≤ x ∧ x < (N : Int)) → P.Nodup → (∀ v, v < N → (nb l (v : Int)).length < m) → (∀ i : Nat, (i : Int) ∈ P → 0 ≤ (grA N l m P).1.getD i 0) ∧ (0 < N → GS m (grA N l m P).1 (grA N l m P).2 P)) ?_ (fun P v ih => ?_) P
  · intro _ _ hb
    exact ⟨fun i hi => by simp at hi, fun h => GS.start N m (by have := hb 0 h; omega)⟩
  · intro hP hn hb
    have e : grA N l m (P ++ [v]) = grS l (grA N l m P) v := by unfold grA; rw [List.foldl_append]; rfl
    have hv := hP v (by simp)
    obtain ⟨k, rfl⟩ : ∃ k : Nat, v = (k : Int) := ⟨v.toNat, by omega⟩
    rw [List.nodup_append] at hn
    have hnot : (k : Int) ∉ P := fun h => hn.2.2 _ h _ (by simp) rfl
    obtain ⟨h1, h2⟩ := ih (fun x hx => hP x (List.mem_append_left _ hx)) hn.1 hb
    have hkN : k < N := by omega
    have hgs := h2 (by omega)
    obtain ⟨c, hc, hcm, _⟩ := hue_ok hgs.len (hgs.fresh hnot) (hb k hkN) (C := (grA N l m P).1)
    have e2 : grS l (grA N l m P) (k : Int) = ((grA N l m P).1.set k (hueL (grA N l m P).1 k (grA N l m P).2 (nb l (k : Int))), markT (grA N l m P).1 (k : Int) (grA N l m P).2 (nb l (k : Int))) := rfl
    rw [e, e2]
    refine ⟨fun i hi => ?_, fun _ => hgs.paint hnot (hb k hkN)⟩
    simp only
    rw [hc, List.getD_eq_getElem?_getD, List.getElem?_set]
    by_cases hki : k = i
    · subst hki
      rw [if_pos rfl, if_pos (by rw [(grA_len N l m P).1]; exact hkN)]
      simp
    · rw [if_neg hki, ← List.getD_eq_getElem?_getD]
      apply h1
      rcases List.mem_append.1 hi with h | h
      · exact h
      · have := List.mem_singleton.1 h
        omega
end Go.Proofs.Yteekhofollaooaa
