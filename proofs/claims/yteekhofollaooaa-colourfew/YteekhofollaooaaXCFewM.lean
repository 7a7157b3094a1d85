/-
  Colours that vertices get in order are right, and few. No program in this text.
-/
import Derived.Test.YteekhofollaooaaXCLawG
namespace Go.Proofs.Yteekhofollaooaa
open Go Go.Proofs Go.RowKit

theorem least_le {C near : List Int} {k : Nat} (h : LeastC C near k) : k ≤ near.length := by
  have := nodup_lenC (A := List.range k) (B := near.map fun u => (C.getD u.toNat 0).toNat) List.nodup_range (fun i hi => by
    obtain ⟨u, hu, e⟩ := h.each i (List.mem_range.1 hi)
    exact List.mem_map.2 ⟨u, hu, by rw [e]; exact Int.toNat_natCast i⟩)
  rwa [List.length_range, List.length_map] at this
theorem grA_snoc (N : Nat) (l : List Ed) (m : Nat) (P : List Int) (v : Int) : grA N l m (P ++ [v]) = grS l (grA N l m P) v := by unfold grA; rw [List.foldl_append]; rfl
/-- Each has a colour that is not above its degree, and no edge's ends one. -/
theorem grA_right (N : Nat) (l : List Ed) (hR : RightG (N : Int) l) (m : Nat) (hm : ∀ v, v < N → (nb l (v : Int)).length < m) (hN : 0 < N) : ∀ (P : List Int), (∀ x ∈ P, 0 ≤ x ∧ x < (N : Int)) → P.Nodup →
    (∀ i : Nat, (i : Int) ∈ P → ∃ k : Nat, (grA N l m P).1.getD i 0 = (k : Int) ∧ k ≤ (nb l (i : Int)).length) ∧
    (∀ i j : Nat, (i : Int) ∈ P → (j : Int) ∈ P → (j : Int) ∈ nb l (i : Int) → (grA N l m P).1.getD i 0 ≠ (grA N l m P).1.getD j 0) := by
  intro P
  refine snoc_ind (p := fun P => (∀ x ∈ P, 0 ≤ x ∧ x < (N : Int)) → P.Nodup → (∀ i : Nat, (i : Int) ∈ P → ∃ k : Nat, (grA N l m P).1.getD i 0 = (k : Int) ∧ k ≤ (nb l (i : Int)).length) ∧ (∀ i j : Nat, (i : Int) ∈ P → (j : Int) ∈ P → (j : Int) ∈ nb l (i : Int) → (grA N l m P).1.getD i 0 ≠ (grA N l m P).1.getD j 0)) ?_ (fun P v ih => ?_) P
  · intro _ _
    exact ⟨fun i hi => (by cases hi), fun i j hi => (by cases hi)⟩
  · intro hP hn
    have hP' : ∀ x ∈ P, 0 ≤ x ∧ x < (N : Int) := fun x hx => hP x (List.mem_append_left _ hx)
    obtain ⟨hn1, _, hn3⟩ := List.nodup_append.1 hn
    obtain ⟨ih1, ih2⟩ := ih hP' hn1
    have hv := hP v (by simp)
    obtain ⟨k, rfl⟩ : ∃ k : Nat, v = (k : Int) := ⟨v.toNat, by omega⟩
    have hkN : k < N := by omega
    have hkP : (k : Int) ∉ P := fun h => hn3 _ h _ (List.mem_singleton.2 rfl) rfl
    have hG := (grA_has N l m P hP' hn1 hm).2 hN
    have hlen := (grA_len N l m P).1
    obtain ⟨c, hc, _, hL⟩ := hue_ok hG.len (hG.fresh hkP) (near := nb l (k : Int)) (C := (grA N l m P).1) (hm k hkN)
    have hcl := least_le hL
    rw [grA_snoc]
    have hat : ∀ i : Nat, (grS l (grA N l m P) (k : Int)).1.getD i 0 = if i = k then (c : Int) else (grA N l m P).1.getD i 0 := fun i => by
      unfold grS
      show ((grA N l m P).1.set ((k : Int)).toNat (hueL (grA N l m P).1 ((k : Int)).toNat (grA N l m P).2 (nb l (k : Int)))).getD i 0 = _
      rw [Int.toNat_natCast, hc, List.getD_eq_getElem?_getD, List.getElem?_set]
      by_cases e : i = k
      · subst e
        rw [if_pos rfl, if_pos (by omega), if_pos rfl]
        rfl
      · rw [if_neg (Ne.symm e), if_neg e, List.getD_eq_getElem?_getD]
    have hmem : ∀ {i : Nat}, (i : Int) ∈ P ++ [(k : Int)] → i = k ∨ (i ≠ k ∧ (i : Int) ∈ P) := fun {i} hi => by
      by_cases e : i = k
      · exact .inl e
      · rcases List.mem_append.1 hi with h | h
        · exact .inr ⟨e, h⟩
        · exact absurd (by have := List.mem_singleton.1 h; omega) e
    refine ⟨fun i hi => ?_, fun i j hi hj ha => ?_⟩
    · rw [hat i]
      rcases hmem hi with rfl | ⟨hne, hi'⟩
      · rw [if_pos rfl]
        exact ⟨c, rfl, hcl⟩
      · rw [if_neg hne]
        exact ih1 i hi'
    · rw [hat i, hat j]
      rcases hmem hi with rfl | ⟨hne, hi'⟩
      · rw [if_pos rfl]
        rcases hmem hj with rfl | ⟨hnj, hj'⟩
        · exact absurd rfl (nb_mutual hR ha).2.2.2
        · rw [if_neg hnj]
          have := hL.none (j : Int) ha
          rw [Int.toNat_natCast] at this
          exact Ne.symm this
      · rw [if_neg hne]
        rcases hmem hj with rfl | ⟨hnj, hj'⟩
        · rw [if_pos rfl]
          have := hL.none (i : Int) (nb_mutual hR ha).1
          rw [Int.toNat_natCast] at this
          exact this
        · rw [if_neg hnj]
          exact ih2 i j hi' hj' ha
/-- The greatest degree. -/
def mostD (LL : List (List Int)) : Nat := LL.foldl (fun a x => max a x.length) 0
theorem mostD_take {LL : List (List Int)} {j : Nat} (h : j < LL.length) : mostD (LL.take (j + 1)) = max (mostD (LL.take j)) LL[j].length := by
  unfold mostD
  rw [List.take_add_one, List.getElem?_eq_getElem h, List.foldl_append]
  rfl
theorem mostD_ge {LL : List (List Int)} : ∀ j (i : Nat) (hi : i < LL.length), i < j → LL[i].length ≤ mostD (LL.take j) := by
  intro j
  induction j with
  | zero => intro i _ h; omega
  | succ j ih =>
    intro i hi hij
    by_cases h : j < LL.length
    · rw [mostD_take h]
      by_cases e : i = j
      · subst e; omega
      · have := ih i hi (by omega)
        omega
    · rw [List.take_of_length_le (by omega)]
      have := ih i hi (by omega)
      rw [List.take_of_length_le (by omega)] at this
      exact this
theorem mostD_le {LL : List (List Int)} {B : Nat} (hB : ∀ x ∈ LL, x.length ≤ B) : ∀ j, mostD (LL.take j) ≤ B := by
  intro j
  induction j with
  | zero => simp [mostD]
  | succ j ih =>
    by_cases h : j < LL.length
    · rw [mostD_take h]
      have := hB _ (List.getElem_mem h)
      omega
    · rw [List.take_of_length_le (by omega)]
      rw [List.take_of_length_le (by omega)] at ih
      exact ih
theorem mx_ge {L : List Int} {x : Int} (h : x ∈ L) : x ≤ mxL L := by
  obtain ⟨i, hi, rfl⟩ := List.mem_iff_getElem.1 h
  have key : ∀ j, i < j → L[i] ≤ mxL (L.take j) := by
    intro j
    induction j with
    | zero => intro h; omega
    | succ j ih =>
      intro hij
      by_cases hj : j < L.length
      · rw [mxL_take hj]
        by_cases e : i = j
        · subst e; split <;> omega
        · have := ih (by omega)
          split <;> omega
      · rw [List.take_of_length_le (by omega)]
        have := ih (by omega)
        rw [List.take_of_length_le (by omega)] at this
        exact this
  have := key L.length hi
  rwa [List.take_length] at this
theorem few_ok {N : Nat} {l : List Ed} (hR : RightG (N : Int) l) {P : List Int} (hP : Ord P (N : Int)) : chkK (N : Int) l (grA N l (mostN (nearL N l)) P).1 ((mostD (nearL N l) : Int) + 1) = 0 ∧ (0 < N → 0 ≤ mxL (grA N l (mostN (nearL N l)) P).1) ∧ ∀ x ∈ (grA N l (mostN (nearL N l)) P).1, x < 4611686018427387904 := by
  obtain ⟨h1, h2, h3⟩ := hP
  have hlen := (grA_len N l (mostN (nearL N l)) P).1
  have hall : ∀ i : Nat, i < N → (i : Int) ∈ P := by
    have hsub := nodup_lenC (A := List.range N) (B := P.map Int.toNat) List.nodup_range
    intro i hi
    -- as many as there are numbers
    by_cases hm : (i : Int) ∈ P
    · exact hm
    · exfalso
      have hn : (P.map Int.toNat).Nodup := List.pairwise_map.2 (List.Pairwise.imp_of_mem (fun {a b} ha hb hne e => hne (by have := h2 a ha; have := h2 b hb; omega)) h3)
      have := nodup_lenC (A := i :: P.map Int.toNat) (B := List.range N) (List.nodup_cons.2 ⟨fun hh => by
        obtain ⟨x, hx, e⟩ := List.mem_map.1 hh
        have := h2 x hx
        exact hm (by rw [show (i : Int) = x by omega]; exact hx), hn⟩) (fun x hx => by
        rw [List.mem_range]
        rcases List.mem_cons.1 hx with rfl | hx
        · exact hi
        · obtain ⟨y, hy, rfl⟩ := List.mem_map.1 hx
          have := h2 y hy
          omega)
      rw [List.length_cons, List.length_map, List.length_range] at this
      omega
  by_cases hN : 0 < N
  · obtain ⟨g1, g2⟩ := grA_right N l hR (mostN (nearL N l)) (fun v hv => by
      have h1 := mostN_ge (LL := nearL N l) N v (by rw [nearL_len]; exact hv) hv
      rw [List.take_of_length_le (by rw [nearL_len]; omega)] at h1
      have h2 := nearL_at (l := l) hv
      rw [List.getElem?_eq_getElem (by rw [nearL_len]; exact hv)] at h2
      simp only [Option.some.injEq] at h2
      rwa [h2] at h1) hN P h2 h3
    have hdeg : ∀ v, v < N → (nb l (v : Int)).length ≤ mostD (nearL N l) := fun v hv => by
      have h1 := mostD_ge (LL := nearL N l) N v (by rw [nearL_len]; exact hv) hv
      rw [List.take_of_length_le (by rw [nearL_len]; omega)] at h1
      have h2 := nearL_at (l := l) hv
      rw [List.getElem?_eq_getElem (by rw [nearL_len]; exact hv)] at h2
      simp only [Option.some.injEq] at h2
      rwa [h2] at h1
    have hcol : ∀ x ∈ (grA N l (mostN (nearL N l)) P).1, 0 ≤ x ∧ x ≤ (mostD (nearL N l) : Int) ∧ x ≤ 4194304 := fun x hx => by
      obtain ⟨i, hi, rfl⟩ := List.mem_iff_getElem.1 hx
      obtain ⟨k, hk, hkl⟩ := g1 i (hall i (by omega))
      rw [List.getD_eq_getElem?_getD, List.getElem?_eq_getElem hi] at hk
      simp only [Option.getD_some] at hk
      have := hdeg i (by omega)
      have := nb_len (i : Int) l
      have := hR.m1
      omega
    refine ⟨?_, fun _ => ?_, fun x hx => by have := hcol x hx; omega⟩
    · unfold chkK
      rw [if_pos (right_iff.2 hR), if_pos (by omega)]
      have e1 : (grA N l (mostN (nearL N l)) P).1.any (offB ((mostD (nearL N l) : Int) + 1)) = false := by
        rw [List.any_eq_false]
        intro x hx
        have := hcol x hx
        simp [offB]
        omega
      have e2 : l.any (oneB (grA N l (mostN (nearL N l)) P).1) = false := by
        rw [List.any_eq_false]
        intro e he
        obtain ⟨hok, huv⟩ := hR.each e he
        obtain ⟨g1', g2', g3, g4, g5, _⟩ := hok
        have ha : ((e.2.1.toNat : Nat) : Int) ∈ nb l ((e.1.toNat : Nat) : Int) := mem_nb.2 ⟨e, he, .inl ⟨by omega, by omega⟩⟩
        have := g2 e.1.toNat e.2.1.toNat (hall _ (by omega)) (hall _ (by omega)) ha
        simpa [oneB] using this
      rw [e1, e2]
      rfl
    · have h0 : 0 < (grA N l (mostN (nearL N l)) P).1.length := by omega
      have := mx_ge (List.getElem_mem h0)
      have := hcol _ (List.getElem_mem h0)
      omega
  · have e0 : N = 0 := by omega
    subst e0
    have hnil : (grA 0 l (mostN (nearL 0 l)) P).1 = [] := List.eq_nil_of_length_eq_zero hlen
    refine ⟨?_, fun h => absurd h hN, fun x hx => by rw [hnil] at hx; cases hx⟩
    unfold chkK
    rw [if_pos (right_iff.2 hR), hnil, if_pos (by rfl)]
    have hl0 : l = [] := by
      cases l with
      | nil => rfl
      | cons e l =>
        have := (hR.each e List.mem_cons_self).1
        unfold okE at this
        omega
    rw [hl0]
    rfl
end Go.Proofs.Yteekhofollaooaa
