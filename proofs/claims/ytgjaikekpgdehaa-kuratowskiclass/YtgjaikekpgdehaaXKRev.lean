/-
  A way turned round is the way from its other end; of the two just one is told. No program in this text.
-/
import Derived.Test.YtgjaikekpgdehaaXKClass
namespace Go.Proofs.Ytgjaikekpgdehaa
open Go Go.Proofs

section
variable {N : Nat} {l : List Ed} {v u : Int}
/-- Walked from its other end. -/
theorem xs_back (hR : RightG (N : Int) l) (hu : u ∈ nb l v) {k : Nat} (h : Live l v u k) : ∀ i, i ≤ k → xs l (xs l v u (k + 1)) (xs l v u k) i = xs l v u (k + 1 - i) ∧ xs l (xs l v u (k + 1)) (xs l v u k) (i + 1) = xs l v u (k - i)
  | 0, _ => ⟨rfl, rfl⟩
  | i + 1, hi => by
    obtain ⟨h1, h2⟩ := xs_back hR hu h i (by omega)
    refine ⟨by rw [h2]; congr 1; omega, ?_⟩
    obtain ⟨m, hm⟩ : ∃ m, k - i = m + 1 := ⟨k - i - 1, by omega⟩
    rw [show k + 1 - i = m + 2 by omega] at h1
    rw [hm] at h2
    have e : xs l (xs l v u (k + 1)) (xs l v u k) (i + 1 + 1) = othr (nb l (xs l (xs l v u (k + 1)) (xs l v u k) (i + 1))) (xs l (xs l v u (k + 1)) (xs l v u k) i) := rfl
    rw [e, h1, h2, show k - (i + 1) = m by omega]
    have hl2 := h m (by omega)
    have hin : xs l v u (m + 2) ∈ nb l (xs l v u (m + 1)) := xs_next hu h (m + 1) (by omega)
    rcases xs_only hR hu h (by omega : m < k) (othr_mem (it := xs l v u (m + 2)) hl2) with h3 | h3
    · exact h3
    · exact absurd h3 (othr_ne hl2 (nb_nodup hR _) hin)
/-- The way from the other end. -/
theorem way_turn (hR : RightG (N : Int) l) (hu : u ∈ nb l v) (hv : (nb l v).length ≠ 2) : ∃ e p, p ∈ nb l e ∧ (nb l e).length ≠ 2 ∧ wayL l N e p = (wayL l N v u).reverse ∧ (e, p) ≠ (v, u) := by
  obtain ⟨k, hk, hL, hend, hway, _⟩ := way_facts hR hu hv
  have hp : xs l v u k ∈ nb l (xs l v u (k + 1)) := (nb_mutual hR (xs_next hu hL k (Nat.le_refl _))).1
  refine ⟨xs l v u (k + 1), xs l v u k, hp, hend, ?_, ?_⟩
  · obtain ⟨k2, hk2, hL2, hend2, hway2, _⟩ := way_facts hR hp hend
    have hb := xs_back hR hu hL
    have hkk : k2 = k := by
      rcases Nat.lt_trichotomy k2 k with h | h | h
      · exfalso
        apply hend2
        rw [(hb k2 (by omega)).2]
        have := hL (k - k2 - 1) (by omega)
        rwa [show k - k2 - 1 + 1 = k - k2 by omega] at this
      · exact h
      · exfalso
        have := hL2 k h
        rw [(hb k (Nat.le_refl _)).2, Nat.sub_self] at this
        exact hv this
    subst hkk
    rw [hway2, hway]
    apply List.ext_getElem
    · simp
    · intro i h1 h2
      simp only [List.length_map, List.length_range, List.length_reverse] at h1 h2
      rw [List.getElem_reverse]
      simp only [List.getElem_map, List.getElem_range, List.length_map, List.length_range]
      by_cases hi : i ≤ k2
      · rw [(hb i hi).1]
        congr 1
      · obtain rfl : i = k2 + 1 := by omega
        rw [(hb k2 (Nat.le_refl _)).2]
        congr 1
        omega
  · intro e
    simp only [Prod.mk.injEq] at e
    have hb := nb_mutual hR hu
    match k, hL, e with
    | 0, _, e => exact hb.2.2.2 e.1
    | 1, hL, e => exact xs_turn hR hu hL (i := 0) (by omega) e.1
    | k + 2, hL, e => exact xs_apart hR hu hv hL (k + 1) (by omega) 0 (by omega) e.2.symm
end

def fstD (x : List Int) : Int × Int := (x.getD 0 0, x.getD 1 0)
def lstD (x : List Int) : Int × Int := (x.getD (x.length - 1) 0, x.getD (x.length - 2) 0)
def lt2 (p q : Int × Int) : Bool := decide (p.1 < q.1 ∨ (p.1 = q.1 ∧ p.2 < q.2))
theorem told_eq (x : List Int) : toldB x = lt2 (fstD x) (lstD x) := by
  unfold toldB lt2 fstD lstD
  simp only [cmpL, cmpI, Lib.compareInt]
  generalize x.getD 0 0 = a
  generalize x.getD 1 0 = b
  generalize x.getD (x.length - 1) 0 = c
  generalize x.getD (x.length - 2) 0 = d
  apply decide_eq_decide.2
  by_cases h1 : a < c <;> by_cases h2 : c < a <;> by_cases h3 : b < d <;> by_cases h4 : d < b <;> simp [h1, h2, h3, h4] <;> omega
theorem fst_rev {x : List Int} (h : 2 ≤ x.length) : fstD x.reverse = lstD x := by
  unfold fstD lstD
  simp only [List.getD_eq_getElem?_getD]
  rw [List.getElem?_reverse (by omega), List.getElem?_reverse (by omega)]
  simp [Nat.sub_sub]
theorem lst_rev {x : List Int} (h : 2 ≤ x.length) : lstD x.reverse = fstD x := by
  have := fst_rev (x := x.reverse) (by simpa using h)
  rw [List.reverse_reverse] at this
  exact this.symm
theorem told_rev {x : List Int} (h : 2 ≤ x.length) (hne : lstD x ≠ fstD x) : toldB x.reverse = !toldB x := by
  rw [told_eq, told_eq, fst_rev h, lst_rev h]
  unfold lt2
  generalize fstD x = f at *
  generalize lstD x = g at *
  obtain ⟨a, b⟩ := f
  obtain ⟨c, d⟩ := g
  have : ¬ (a = c ∧ b = d) := fun e => hne (by rw [e.1, e.2])
  rw [← decide_not]
  apply decide_eq_decide.2
  simp only
  omega
/-- The dart that the way from the other end begins with. -/
def rho (l : List Ed) (N : Nat) (d : Int × Int) : Int × Int := lstD (wayL l N d.1 d.2)
theorem fst_way (l : List Ed) (N : Nat) (v u : Int) : fstD (wayL l N v u) = (v, u) := rfl
theorem rho_facts {N : Nat} {l : List Ed} (hR : RightG (N : Int) l) {d : Int × Int} (hu : d.2 ∈ nb l d.1) (hv : (nb l d.1).length ≠ 2) :
    (rho l N d).2 ∈ nb l (rho l N d).1 ∧ (nb l (rho l N d).1).length ≠ 2 ∧ wayL l N (rho l N d).1 (rho l N d).2 = (wayL l N d.1 d.2).reverse ∧ rho l N (rho l N d) = d ∧ toldB (wayL l N (rho l N d).1 (rho l N d).2) = !toldB (wayL l N d.1 d.2) := by
  obtain ⟨v, u⟩ := d
  obtain ⟨e, p, h1, h2, h3, h4⟩ := way_turn hR hu hv
  have hlen := (wayL_len hR hu hv).1
  have hr : rho l N (v, u) = (e, p) := by
    show lstD (wayL l N v u) = (e, p)
    rw [← fst_rev hlen, ← h3]
    rfl
  rw [hr]
  refine ⟨h1, h2, h3, ?_, ?_⟩
  · show lstD (wayL l N e p) = (v, u)
    rw [h3, lst_rev hlen]
    rfl
  · rw [h3]
    refine told_rev hlen fun e1 => h4 ?_
    rw [← hr]
    exact e1

theorem nodup_lenP : ∀ {A B : List (Int × Int)}, A.Nodup → (∀ x ∈ A, x ∈ B) → A.length ≤ B.length
  | [], _, _, _ => Nat.zero_le _
  | a :: A, B, hn, hs => by
    have hn' := List.nodup_cons.1 hn
    have ha := hs a List.mem_cons_self
    have := nodup_lenP (A := A) (B := B.erase a) hn'.2 (fun x hx => (List.mem_erase_of_ne (fun e : x = a => hn'.1 (by rw [← e]; exact hx))).2 (hs x (List.mem_cons_of_mem _ hx)))
    rw [List.length_erase_of_mem ha] at this
    have hp := List.length_pos_of_mem ha
    simp only [List.length_cons]
    omega
/-- A turn that tells each other one: half of them are told. -/
theorem half {D : List (Int × Int)} (hn : D.Nodup) (r : Int × Int → Int × Int) (t : Int × Int → Bool) (h1 : ∀ d ∈ D, r d ∈ D) (h2 : ∀ d ∈ D, r (r d) = d) (h3 : ∀ d ∈ D, t (r d) = !t d) : D.length = 2 * D.countP t := by
  have go : ∀ (p q : Int × Int → Bool), (∀ d ∈ D, p d = true → q (r d) = true) → (D.filter p).length ≤ (D.filter q).length := fun p q hpq => by
    have hA : ((D.filter p).map r).Nodup := by
      refine List.pairwise_map.2 (List.Pairwise.imp_of_mem (fun {a b} ha hb hab e => hab ?_) (hn.sublist List.filter_sublist))
      rw [← h2 a (List.mem_filter.1 ha).1, ← h2 b (List.mem_filter.1 hb).1, e]
    have := nodup_lenP (B := D.filter q) hA (fun x hx => by
      obtain ⟨d, hd, rfl⟩ := List.mem_map.1 hx
      obtain ⟨hd1, hd2⟩ := List.mem_filter.1 hd
      exact List.mem_filter.2 ⟨h1 d hd1, hpq d hd1 hd2⟩)
    rwa [List.length_map] at this
  have e1 := go t (fun d => !t d) (fun d hd h => by show (!t (r d)) = true; rw [h3 d hd, h]; rfl)
  have e2 := go (fun d => !t d) t (fun d hd h => by rw [h3 d hd]; exact h)
  have e3 := List.length_eq_countP_add_countP t (l := D)
  rw [List.countP_eq_length_filter, List.countP_eq_length_filter] at e3
  rw [List.countP_eq_length_filter]
  have e4 : (D.filter fun a => decide (¬t a = true)) = D.filter fun d => !t d := List.filter_congr fun x _ => by cases t x <;> rfl
  rw [e4] at e3
  omega

/-- All darts at corners. -/
def crD (l : List Ed) (j : Nat) : List (Int × Int) := (List.range j).flatMap fun (v : Nat) => if (nb l (v : Int)).length < 3 then [] else (nb l (v : Int)).map fun u => ((v : Int), u)
theorem crD_succ (l : List Ed) (j : Nat) : crD l (j + 1) = crD l j ++ (if (nb l (j : Int)).length < 3 then [] else (nb l (j : Int)).map fun u => ((j : Int), u)) := by
  unfold crD
  rw [List.range_succ, List.flatMap_append]
  simp
theorem mem_crD {l : List Ed} {j : Nat} {d : Int × Int} : d ∈ crD l j ↔ ∃ v : Nat, v < j ∧ d.1 = (v : Int) ∧ 3 ≤ (nb l (v : Int)).length ∧ d.2 ∈ nb l (v : Int) := by
  unfold crD
  rw [List.mem_flatMap]
  constructor
  · rintro ⟨v, hv, hd⟩
    by_cases h : (nb l (v : Int)).length < 3
    · rw [if_pos h] at hd; simp at hd
    · rw [if_neg h] at hd
      obtain ⟨u, hu, rfl⟩ := List.mem_map.1 hd
      exact ⟨v, List.mem_range.1 hv, rfl, by omega, hu⟩
  · rintro ⟨v, hv, h1, h2, h3⟩
    refine ⟨v, List.mem_range.2 hv, ?_⟩
    rw [if_neg (by omega)]
    exact List.mem_map.2 ⟨d.2, h3, by rw [← h1]⟩
theorem waysTo_eq (l : List Ed) (N : Nat) : ∀ j, waysTo l N j = ((crD l j).map fun d => wayL l N d.1 d.2).filter toldB
  | 0 => rfl
  | j + 1 => by
    rw [waysTo, crD_succ, List.map_append, List.filter_append, waysTo_eq l N j]
    congr 1
    by_cases h : (nb l (j : Int)).length < 3
    · rw [if_pos h, if_pos h]; rfl
    · rw [if_neg h, if_neg h]
      unfold vWays
      rw [List.map_map]
      rfl
theorem crD_nodup {N : Nat} {l : List Ed} (hR : RightG (N : Int) l) (j : Nat) : (crD l j).Nodup := by
  unfold crD
  refine List.pairwise_flatMap.2 ⟨fun v _ => ?_, ?_⟩
  · by_cases h : (nb l (v : Int)).length < 3
    · rw [if_pos h]; exact List.Pairwise.nil
    · rw [if_neg h]
      refine List.pairwise_map.2 ((nb_nodup hR (v : Int)).imp fun {a b} hab e => hab ?_)
      simpa using e
  · refine (List.pairwise_lt_range (n := j)).imp fun {a b} hab x hx y hy e => ?_
    have ex : x.1 = (a : Int) := by
      by_cases h : (nb l (a : Int)).length < 3
      · rw [if_pos h] at hx; simp at hx
      · rw [if_neg h] at hx
        obtain ⟨u, _, rfl⟩ := List.mem_map.1 hx
        rfl
    have ey : y.1 = (b : Int) := by
      by_cases h : (nb l (b : Int)).length < 3
      · rw [if_pos h] at hy; simp at hy
      · rw [if_neg h] at hy
        obtain ⟨u, _, rfl⟩ := List.mem_map.1 hy
        rfl
    rw [e] at ex
    omega

/-- No vertex has one neighbour alone. -/
def NoOne (l : List Ed) : Prop := ∀ v : Int, (nb l v).length ≠ 1
theorem rho_in {N : Nat} {l : List Ed} (hR : RightG (N : Int) l) (h1 : NoOne l) {d : Int × Int} (hd : d ∈ crD l N) : rho l N d ∈ crD l N := by
  obtain ⟨v, hv, e1, e2, e3⟩ := mem_crD.1 hd
  rw [← e1] at e2 e3
  obtain ⟨g1, g2, _⟩ := rho_facts hR e3 (by omega)
  have hb := nb_mutual hR (nb_mutual hR g1).1
  have g3 := List.length_pos_of_mem g1
  have g4 := h1 (rho l N d).1
  refine mem_crD.2 ⟨(rho l N d).1.toNat, by omega, by omega, ?_, ?_⟩
  · rw [show (((rho l N d).1.toNat : Nat) : Int) = (rho l N d).1 by omega]; omega
  · rw [show (((rho l N d).1.toNat : Nat) : Int) = (rho l N d).1 by omega]; exact g1
/-- The degrees of corners, together, are twice the ways. -/
theorem ways_half {N : Nat} {l : List Ed} (hR : RightG (N : Int) l) (h1 : NoOne l) : (crD l N).length = 2 * (waysTo l N N).length := by
  have hf : ∀ d ∈ crD l N, d.2 ∈ nb l d.1 ∧ (nb l d.1).length ≠ 2 := fun d hd => by
    obtain ⟨v, hv, e1, e2, e3⟩ := mem_crD.1 hd
    rw [← e1] at e2 e3
    exact ⟨e3, by omega⟩
  have := half (crD_nodup hR N) (rho l N) (fun d => toldB (wayL l N d.1 d.2)) (fun d hd => rho_in hR h1 hd) (fun d hd => (rho_facts hR (hf d hd).1 (hf d hd).2).2.2.2.1) (fun d hd => (rho_facts hR (hf d hd).1 (hf d hd).2).2.2.2.2)
  rw [this, waysTo_eq, ← List.countP_eq_length_filter, List.countP_map]
  rfl
end Go.Proofs.Ytgjaikekpgdehaa
