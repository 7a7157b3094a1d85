/-
  What the reference's Ways needs: the order of ways, and lists of lists that are read. No call in this text.
-/
import Derived.Test.YtgjaikekpgdehaaXKRefBel
import Derived.Test.YtgjaikekpgdehaaQC
namespace Go.Proofs.Ytgjaikekpgdehaa
open Go Go.Proofs Go.RowKit

/-- The ways that come ahead of the one over the neighbour number i of the vertex j. -/
def preW (S : List Ed) (N j i : Nat) : List (List Int) := waysTo S N j ++ vWays S N (j : Int) ((nb S (j : Int)).take i)
theorem preW_zero (S : List Ed) (N j : Nat) : preW S N j 0 = waysTo S N j := by simp [preW, vWays]
theorem preW_full {S : List Ed} {N j : Nat} (h : 3 ≤ (nb S (j : Int)).length) : preW S N j (nb S (j : Int)).length = waysTo S N (j + 1) := by
  unfold preW
  rw [List.take_length, waysTo, if_neg (by omega)]
theorem waysTo_skip {S : List Ed} {N j : Nat} (h : (nb S (j : Int)).length < 3) : waysTo S N (j + 1) = waysTo S N j := by
  rw [waysTo, if_pos h, List.append_nil]
theorem preW_in {S : List Ed} {N j i : Nat} (h : i < (nb S (j : Int)).length) (ht : toldB (wayL S N (j : Int) (nb S (j : Int))[i]) = true) : preW S N j (i + 1) = preW S N j i ++ [wayL S N (j : Int) (nb S (j : Int))[i]] := by
  unfold preW
  rw [take_snoc h, vWays_snoc, if_pos ht, List.append_assoc]
theorem preW_out {S : List Ed} {N j i : Nat} (h : i < (nb S (j : Int)).length) (ht : toldB (wayL S N (j : Int) (nb S (j : Int))[i]) = false) : preW S N j (i + 1) = preW S N j i := by
  unfold preW
  rw [take_snoc h, vWays_snoc, if_neg (by rw [ht]; simp), List.append_nil]
theorem preW_mem {S : List Ed} {N j i : Nat} (hR : RightG (N : Int) S) (h3 : 3 ≤ (nb S (j : Int)).length) (hi : i < (nb S (j : Int)).length) {x : List Int} (hx : x ∈ preW S N j i) : 2 ≤ x.length ∧ x.length ≤ N + 1 ∧ lt2 (fstD x) ((j : Int), (nb S (j : Int))[i]) = true := by
  unfold preW at hx
  rcases List.mem_append.1 hx with hx | hx
  · obtain ⟨v, u, h1, h2, h4, rfl, _⟩ := waysTo_each hx
    have := wayL_len hR h2 (by omega)
    refine ⟨this.1, this.2, ?_⟩
    rw [fst_way]
    unfold lt2
    exact decide_eq_true (.inl (by simp only; omega))
  · unfold vWays at hx
    obtain ⟨hx, _⟩ := List.mem_filter.1 hx
    obtain ⟨u, hu, rfl⟩ := List.mem_map.1 hx
    have hu2 := List.mem_of_mem_take hu
    have := wayL_len hR hu2 (by omega)
    refine ⟨this.1, this.2, ?_⟩
    rw [fst_way]
    unfold lt2
    obtain ⟨k, hk, e⟩ := List.getElem_of_mem hu
    have hk2 : k < i := by simp at hk; omega
    rw [List.getElem_take] at e
    have hp := List.pairwise_iff_getElem.1 (nb_rise hR (j : Int)) k i (by omega) hi hk2
    exact decide_eq_true (.inr ⟨rfl, by simp only; omega⟩)
theorem preW_bel {S : List Ed} {N j i : Nat} (hR : RightG (N : Int) S) (h3 : 3 ≤ (nb S (j : Int)).length) (hi : i < (nb S (j : Int)).length) {x : List Int} (hx : x ∈ preW S N j i) : belB (wayL S N (j : Int) (nb S (j : Int))[i]) x = false := by
  obtain ⟨h1, _, h2⟩ := preW_mem hR h3 hi hx
  have hl := wayL_len hR (List.getElem_mem hi) (by omega : (nb S (j : Int)).length ≠ 2)
  unfold lt2 at h2
  have h2 := of_decide_eq_true h2
  rw [bel_two hl.1 h1]
  · rw [fst_way]
    unfold lt2
    refine decide_eq_false fun h => ?_
    simp only at h h2
    omega
  · intro e
    rw [fst_way] at e
    rw [← e] at h2
    simp only at h2
    omega
/-- Turned, it is below just if it is not told. -/
theorem bel_turned {S : List Ed} {N : Nat} {v u : Int} (hR : RightG (N : Int) S) (hu : u ∈ nb S v) (hv : (nb S v).length ≠ 2) : belB (wayL S N v u).reverse (wayL S N v u) = !toldB (wayL S N v u) := by
  have hl := wayL_len hR hu hv
  obtain ⟨e, p, h1, h2, h3, h4⟩ := way_turn hR hu hv
  have hne : lstD (wayL S N v u) ≠ fstD (wayL S N v u) := fun e1 => h4 (by
    rw [← fst_rev hl.1, ← h3] at e1
    exact e1)
  rw [bel_two (by simpa using hl.1) hl.1 (by rw [fst_rev hl.1]; exact hne), ← told_rev hl.1 hne, told_eq, fst_rev hl.1, lst_rev hl.1]
theorem waysTo_cnt (S : List Ed) (N : Nat) (hR : RightG (N : Int) S) : ∀ j, (waysTo S N j).length ≤ j * N
  | 0 => by simp [waysTo]
  | j + 1 => by
    have ih := waysTo_cnt S N hR j
    have hb := nb_lenW hR (j : Int)
    rw [waysTo, List.length_append, Nat.succ_mul]
    split
    · simp; omega
    · have : (vWays S N (j : Int) (nb S (j : Int))).length ≤ (nb S (j : Int)).length := by
        unfold vWays
        exact Nat.le_trans (List.length_filter_le _ _) (by simp)
      omega
theorem preW_cnt {S : List Ed} {N : Nat} (hR : RightG (N : Int) S) (hN : N ≤ 30) {j i : Nat} (hj : j < N) (hi : i ≤ (nb S (j : Int)).length) : (preW S N j i).length ≤ 930 := by
  have h1 := waysTo_cnt S N hR j
  have hb := nb_lenW hR (j : Int)
  have h2 : j * N ≤ 30 * 30 := Nat.mul_le_mul (by omega) hN
  have h3 : (vWays S N (j : Int) ((nb S (j : Int)).take i)).length ≤ i := by
    unfold vWays
    exact Nat.le_trans (List.length_filter_le _ _) (by simp; omega)
  unfold preW
  rw [List.length_append]
  omega
theorem onL_le {ws : List (List Int)} {m : Nat} (h : ∀ x ∈ ws, 1 ≤ x.length ∧ x.length ≤ m + 1) : 0 ≤ onL ws ∧ onL ws ≤ (ws.length * m : Nat) := by
  induction ws with
  | nil => simp [onL]
  | cons x ws ih =>
    have h1 := h x List.mem_cons_self
    have h2 := ih fun y hy => h y (List.mem_cons_of_mem _ hy)
    unfold onL at *
    rw [List.map_cons, List.sum_cons, List.length_cons, Nat.succ_mul]
    omega
/-- The slices of lists that are read. -/
theorem Lsts.vals {n : Nat} {W : World} {sv : Value} {LL : List (List Int)} (h : Lsts n W sv LL) : ∃ svs : List Value, svs.length = LL.length ∧ Src W sv LL.length 1 svs ∧ ∀ (k : Nat) (s : Value) (x : List Int), svs[k]? = some s → LL[k]? = some x → Ints n W s x := by
  rcases h with ⟨⟨p, c, rfl⟩, rfl⟩ | ⟨b, off, cap, rfl, h2, h3, h4⟩
  · refine ⟨[], rfl, ?_, fun k s x h => by simp at h⟩
    cases p with
    | none => exact .inl ⟨⟨c, rfl⟩, rfl, rfl⟩
    | some ad => exact .inr ⟨ad, c, rfl, rfl, fun j u hu => by simp at hu, fun u hu => by simp at hu⟩
  · have key : ∀ k x, LL[k]? = some x → ∃ s, W.cell? ⟨b, off + k, none⟩ = some s ∧ Ints n W s x := h4
    refine ⟨(List.range LL.length).map fun k => (W.cell? ⟨b, off + k, none⟩).getD undef, by simp, .inr ⟨⟨b, off, none⟩, cap, rfl, by simp, fun j u hu => ?_, fun u hu => ?_⟩, fun k s x hs hx => ?_⟩
    · obtain ⟨hj, e⟩ := List.getElem?_eq_some_iff.1 hu
      have hj' : j < LL.length := by simpa using hj
      obtain ⟨s, h5, h6⟩ := key j _ (List.getElem?_eq_getElem hj')
      rw [Go.WideShapes.add_plain, h5]
      simp [h5] at e
      rw [e]
    · obtain ⟨j, hj, rfl⟩ := List.mem_map.1 hu
      obtain ⟨s, h5, h6⟩ := key j _ (List.getElem?_eq_getElem (List.mem_range.1 hj))
      obtain ⟨p6, c6, rfl⟩ := h6.len
      rw [h5]
      rfl
    · obtain ⟨hj', _⟩ := List.getElem?_eq_some_iff.1 hx
      obtain ⟨s', h5, h6⟩ := key k x hx
      obtain ⟨hj, e⟩ := List.getElem?_eq_some_iff.1 hs
      simp [h5] at e
      rw [← e]
      exact h6
theorem Lsts.of_row {base : Nat} {W : World} {v : Value} {svs : List Value} {LL : List (List Int)} (hlen : svs.length = LL.length) (h : W.ownsRow base 25 1 v svs.length svs) (hi : ∀ (k : Nat) (s : Value) (x : List Int), svs[k]? = some s → LL[k]? = some x → Ints W.heap.size W s x) : Lsts W.heap.size W v LL := by
  rcases h.2 with ⟨rfl, h2⟩ | ⟨g, cap, cur, hv, hb, hg, hn, _⟩
  · exact .inl ⟨⟨_, _, rfl⟩, List.eq_nil_of_length_eq_zero (by omega)⟩
  · refine .inr ⟨g, 0, cap, by rw [← hlen]; exact hv, (Array.getElem?_eq_some_iff.1 hg).1, by rw [← hlen]; exact hn, fun j x hx => ?_⟩
    have hj : j < svs.length := by rw [hlen]; exact (List.getElem?_eq_some_iff.1 hx).1
    have hs := List.getElem?_eq_getElem hj
    have c0 := h.cells (g := g) (by rw [hv]; rfl) j _ hs
    rw [Go.WideShapes.add_plain] at c0
    exact ⟨_, c0, hi j _ x hs hx⟩
/-- A list more behind those that are read. -/
theorem Lsts.more {base : Nat} {A W : World} {v lv : Value} {svs : List Value} {LL : List (List Int)} {L : List Int} (hlen : svs.length = LL.length) (hi : ∀ (k : Nat) (s : Value) (x : List Int), svs[k]? = some s → LL[k]? = some x → Ints A.heap.size A s x) (hL : Ints A.heap.size A lv L) (hb : Below A.heap.size A W)
    (h : W.ownsRow base 25 1 v (svs.length + 1) (svs ++ [lv])) : Lsts W.heap.size W v (LL ++ [L]) := by
  refine Lsts.of_row (svs := svs ++ [lv]) (by simp [hlen]) (by rw [List.length_append]; exact h) fun k s x hs hx => ?_
  by_cases hk : k < svs.length
  · rw [List.getElem?_append_left hk] at hs
    rw [List.getElem?_append_left (by omega)] at hx
    exact (hi k s x hs hx).go hb
  · have hk2 := (List.getElem?_eq_some_iff.1 hs).1
    have e : k = svs.length := by simp at hk2; omega
    subst e
    rw [List.getElem?_append_right (Nat.le_refl _), Nat.sub_self] at hs
    rw [hlen, List.getElem?_append_right (Nat.le_refl _), Nat.sub_self] at hx
    simp at hs hx
    subst hs
    subst hx
    exact hL.go hb
end Go.Proofs.Ytgjaikekpgdehaa
