/-
  Walks over vertices of two neighbours: they end, and meet no vertex twice. No program in this text.
-/
import Derived.Test.YtgjaikekpgdehaaXGNbMath
namespace Go.Proofs.Ytgjaikekpgdehaa
open Go Go.Proofs

/-- The one of two neighbours that it isn't. -/
def othr (two : List Int) (it : Int) : Int := if two.getD 0 0 = it then two.getD 1 0 else two.getD 0 0
/-- What a walk goes on with behind p and c. -/
def wlkT (l : List Ed) : Nat → Int → Int → List Int
  | 0, _, _ => []
  | k + 1, p, c => if (nb l c).length = 2 then othr (nb l c) p :: wlkT l k c (othr (nb l c) p) else []
/-- The darts of a walk, one behind the other. -/
def sq (l : List Ed) (v u : Int) : Nat → Int × Int
  | 0 => (v, u)
  | i + 1 => ((sq l v u i).2, othr (nb l (sq l v u i).2) (sq l v u i).1)
def xs (l : List Ed) (v u : Int) (i : Nat) : Int := (sq l v u i).1
theorem xs_snd (l : List Ed) (v u : Int) (i : Nat) : (sq l v u i).2 = xs l v u (i + 1) := rfl
def Live (l : List Ed) (v u : Int) (k : Nat) : Prop := ∀ i, i < k → (nb l (xs l v u (i + 1))).length = 2

theorem two_of {L : List Int} (h : L.length = 2) : ∃ a b, L = [a, b] := by
  match L, h with
  | [a, b], _ => exact ⟨a, b, rfl⟩
theorem othr_mem {L : List Int} {it : Int} (h : L.length = 2) : othr L it ∈ L := by
  obtain ⟨a, b, rfl⟩ := two_of h
  unfold othr
  split <;> simp
theorem othr_ne {L : List Int} {it : Int} (h : L.length = 2) (hn : L.Nodup) (hi : it ∈ L) : othr L it ≠ it := by
  obtain ⟨a, b, rfl⟩ := two_of h
  simp only [List.mem_cons, List.not_mem_nil, or_false] at hi
  have hab : a ≠ b := by simpa using hn
  unfold othr
  show (if a = it then b else a) ≠ it
  rcases hi with rfl | rfl
  · rw [if_pos rfl]; exact Ne.symm hab
  · rw [if_neg hab]; exact hab
theorem othr_only {L : List Int} {it y : Int} (h : L.length = 2) (hi : it ∈ L) (hy : y ∈ L) : y = it ∨ y = othr L it := by
  obtain ⟨a, b, rfl⟩ := two_of h
  simp only [List.mem_cons, List.not_mem_nil, or_false] at hi hy
  unfold othr
  show y = it ∨ y = if a = it then b else a
  by_cases e : a = it
  · rw [if_pos e]; rcases hy with rfl | rfl
    · exact .inl e
    · exact .inr rfl
  · rw [if_neg e]
    rcases hy with rfl | rfl
    · exact .inr rfl
    · rcases hi with rfl | rfl
      · exact absurd rfl e
      · exact .inl rfl

/-- Each is next to the one ahead of it. -/
theorem xs_next {l : List Ed} {v u : Int} (hu : u ∈ nb l v) {k : Nat} (h : Live l v u k) : ∀ i, i ≤ k → xs l v u (i + 1) ∈ nb l (xs l v u i)
  | 0, _ => hu
  | i + 1, hi => othr_mem (h i (by omega))
theorem nodup_lenK : ∀ {A B : List Int}, A.Nodup → (∀ x ∈ A, x ∈ B) → A.length ≤ B.length
  | [], _, _, _ => Nat.zero_le _
  | a :: A, B, hn, hs => by
    have hn' := List.nodup_cons.1 hn
    have ha := hs a List.mem_cons_self
    have := nodup_lenK (A := A) (B := B.erase a) hn'.2 (fun x hx => (List.mem_erase_of_ne (fun e : x = a => hn'.1 (by rw [← e]; exact hx))).2 (hs x (List.mem_cons_of_mem _ hx)))
    rw [List.length_erase_of_mem ha] at this
    have hp := List.length_pos_of_mem ha
    simp only [List.length_cons]
    omega
section
variable {N : Nat} {l : List Ed} {v u : Int}

theorem nb_nodup (hR : RightG (N : Int) l) (x : Int) : (nb l x).Nodup := (nb_rise hR x).imp (fun h => Int.ne_of_lt h)
theorem xs_turn (hR : RightG (N : Int) l) (hu : u ∈ nb l v) {k : Nat} (h : Live l v u k) {i : Nat} (hi : i < k) : xs l v u (i + 2) ≠ xs l v u i := by
  have h1 := xs_next hu h i (by omega)
  exact othr_ne (h i hi) (nb_nodup hR _) (nb_mutual hR h1).1
theorem xs_only (hR : RightG (N : Int) l) (hu : u ∈ nb l v) {k : Nat} (h : Live l v u k) {i : Nat} (hi : i < k) {y : Int} (hy : y ∈ nb l (xs l v u (i + 1))) : y = xs l v u i ∨ y = xs l v u (i + 2) := by
  have h1 := xs_next hu h i (by omega)
  exact othr_only (h i hi) (nb_mutual hR h1).1 hy
/-- No vertex of two neighbours comes twice. -/
theorem xs_apart (hR : RightG (N : Int) l) (hu : u ∈ nb l v) (hv : (nb l v).length ≠ 2) {k : Nat} (h : Live l v u k) : ∀ j, j < k → ∀ i, i < j → xs l v u (i + 1) ≠ xs l v u (j + 1) := by
  intro j
  induction j using Nat.strongRecOn with
  | _ j ih =>
    intro hj i hi e
    have hprev := (nb_mutual hR (xs_next hu h j (by omega))).1
    rw [← e] at hprev
    -- the one ahead of it is next to the earlier one
    rcases xs_only hR hu h (by omega : i < k) hprev with h1 | h1
    · cases i with
      | zero =>
        have h2 := h (j - 1) (by omega)
        rw [show j - 1 + 1 = j by omega, h1] at h2
        exact hv h2
      | succ i =>
        refine ih (j - 1) (by omega) (by omega) i (by omega) ?_
        rw [show j - 1 + 1 = j by omega]
        exact h1.symm
    · by_cases h2 : i + 2 = j
      · subst h2
        exact xs_turn hR hu h (i := i + 1) (by omega) e.symm
      · by_cases h3 : i + 1 = j
        · subst h3
          have h4 := nb_mutual hR (xs_next hu h (i + 1) (by omega))
          exact h4.2.2.2 e.symm
        · refine ih (j - 1) (by omega) (by omega) (i + 1) (by omega) ?_
          rw [show j - 1 + 1 = j by omega]
          exact h1.symm
theorem xs_in (hR : RightG (N : Int) l) (hu : u ∈ nb l v) {k : Nat} (h : Live l v u k) (i : Nat) (hi : i ≤ k) : 0 ≤ xs l v u (i + 1) ∧ xs l v u (i + 1) < (N : Int) := by
  have := nb_mutual hR (xs_next hu h i hi)
  exact ⟨this.2.1, this.2.2.1⟩
/-- So a walk from a corner ends. -/
theorem live_lt (hR : RightG (N : Int) l) (hu : u ∈ nb l v) (hv : (nb l v).length ≠ 2) {k : Nat} (h : Live l v u k) : k < N := by
  have hv1 := nb_mutual hR (nb_mutual hR hu).1
  have hA : (v :: (List.range k).map fun i => xs l v u (i + 1)).Nodup := by
    rw [List.nodup_cons]
    refine ⟨fun hm => ?_, List.pairwise_map.2 ?_⟩
    · obtain ⟨i, hi, e⟩ := List.mem_map.1 hm
      have h2 := h i (List.mem_range.1 hi)
      rw [e] at h2
      exact hv h2
    · refine List.Pairwise.imp_of_mem (fun {a b} ha hb hab => ?_) (List.pairwise_lt_range (n := k))
      exact xs_apart hR hu hv h b (List.mem_range.1 hb) a hab
  have := nodup_lenK (A := v :: (List.range k).map fun i => xs l v u (i + 1)) (B := (List.range N).map fun (x : Nat) => (x : Int)) hA (fun x hx => by
    have hb : 0 ≤ x ∧ x < (N : Int) := by
      rcases List.mem_cons.1 hx with rfl | hx
      · exact ⟨hv1.2.1, hv1.2.2.1⟩
      · obtain ⟨i, hi, rfl⟩ := List.mem_map.1 hx
        exact xs_in hR hu h i (by have := List.mem_range.1 hi; omega)
    exact List.mem_map.2 ⟨x.toNat, List.mem_range.2 (by omega), by omega⟩)
  simp only [List.length_cons, List.length_map, List.length_range] at this
  omega
/-- How long it is. -/
theorem wlkT_at (l : List Ed) (v u : Int) : ∀ (k i : Nat), wlkT l k (xs l v u i) (xs l v u (i + 1)) = (List.range (wlkT l k (xs l v u i) (xs l v u (i + 1))).length).map (fun j => xs l v u (i + 2 + j)) ∧ (∀ j, j < (wlkT l k (xs l v u i) (xs l v u (i + 1))).length → (nb l (xs l v u (i + 1 + j))).length = 2) ∧ ((wlkT l k (xs l v u i) (xs l v u (i + 1))).length < k → (nb l (xs l v u (i + 1 + (wlkT l k (xs l v u i) (xs l v u (i + 1))).length))).length ≠ 2) ∧ (wlkT l k (xs l v u i) (xs l v u (i + 1))).length ≤ k
  | 0, i => ⟨rfl, fun j hj => absurd hj (Nat.not_lt_zero _), fun h => absurd h (Nat.not_lt_zero _), Nat.le_refl _⟩
  | k + 1, i => by
    unfold wlkT
    by_cases h : (nb l (xs l v u (i + 1))).length = 2
    · rw [if_pos h]
      have e : othr (nb l (xs l v u (i + 1))) (xs l v u i) = xs l v u (i + 2) := rfl
      rw [e]
      obtain ⟨h1, h2, h3, h4⟩ := wlkT_at l v u k (i + 1)
      generalize wlkT l k (xs l v u (i + 1)) (xs l v u (i + 1 + 1)) = T at *
      rw [List.length_cons]
      refine ⟨?_, fun j hj => ?_, fun hl => ?_, by omega⟩
      · rw [List.range_succ_eq_map, List.map_cons, List.map_map]
        refine congrArg (xs l v u (i + 2) :: ·) (h1.trans ?_)
        refine List.map_congr_left fun j _ => ?_
        show xs l v u (i + 1 + 2 + j) = xs l v u (i + 2 + (j + 1))
        congr 1
        omega
      · cases j with
        | zero => exact h
        | succ j =>
          have := h2 j (by omega)
          rwa [show i + 1 + 1 + j = i + 1 + (j + 1) by omega] at this
      · have := h3 (by omega)
        rwa [show i + 1 + 1 + T.length = i + 1 + (T.length + 1) by omega] at this
    · rw [if_neg h]
      exact ⟨rfl, fun j hj => absurd hj (Nat.not_lt_zero _), fun _ => h, Nat.zero_le _⟩
end
/-- A way: from a corner over a neighbour to the next corner. -/
def wayL (l : List Ed) (N : Nat) (v u : Int) : List Int := v :: u :: wlkT l N v u
/-- Of a walk from a corner: how many it goes over, with two neighbours each, and where it ends. -/
theorem way_facts {N : Nat} {l : List Ed} (hR : RightG (N : Int) l) {v u : Int} (hu : u ∈ nb l v) (hv : (nb l v).length ≠ 2) :
    ∃ k, k < N ∧ Live l v u k ∧ (nb l (xs l v u (k + 1))).length ≠ 2 ∧ wayL l N v u = (List.range (k + 2)).map (xs l v u) ∧ ∀ k', wlkT l (k + k') v u = (List.range k).map fun j => xs l v u (2 + j) := by
  obtain ⟨h1, h2, h3, h4⟩ := wlkT_at l v u N 0
  have e0 : xs l v u 0 = v := rfl
  have e1 : xs l v u (0 + 1) = u := rfl
  rw [e0, e1] at h1 h2 h3 h4
  have hL : Live l v u (wlkT l N v u).length := fun i hi => by
    have := h2 i hi
    rwa [show 0 + 1 + i = i + 1 by omega] at this
  have hk := live_lt hR hu hv hL
  have hend := h3 hk
  rw [show 0 + 1 + (wlkT l N v u).length = (wlkT l N v u).length + 1 by omega] at hend
  refine ⟨_, hk, hL, hend, ?_, fun k' => ?_⟩
  · unfold wayL
    rw [List.range_succ_eq_map, List.map_cons, List.range_succ_eq_map, List.map_cons, List.map_cons, List.map_map, List.map_map]
    refine congrArg (v :: ·) (congrArg (u :: ·) (h1.trans ?_))
    refine List.map_congr_left fun j _ => ?_
    show xs l v u (0 + 2 + j) = xs l v u (j + 1 + 1)
    congr 1
    omega
  · obtain ⟨g1, g2, g3, g4⟩ := wlkT_at l v u ((wlkT l N v u).length + k') 0
    rw [e0, e1] at g1 g2 g3 g4
    generalize (wlkT l N v u).length = k at *
    have hlen : (wlkT l (k + k') v u).length = k := by
      rcases Nat.lt_trichotomy (wlkT l (k + k') v u).length k with h | h | h
      · have h5 := g3 (by omega)
        have h6 := hL _ h
        rw [show 0 + 1 + (wlkT l (k + k') v u).length = (wlkT l (k + k') v u).length + 1 by omega] at h5
        exact absurd h6 h5
      · exact h
      · have h5 := g2 k h
        rw [show 0 + 1 + k = k + 1 by omega] at h5
        exact absurd h5 hend
    rw [hlen] at g1
    rw [g1]
end Go.Proofs.Ytgjaikekpgdehaa
