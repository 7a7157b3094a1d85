/-
  Places gathered by least labels are the reference's components. No program in this text.
-/
import Derived.Test.YtdgecflljgnobaaXPRefComp
namespace Go.Proofs.Ytdgecflljgnobaa
open Go Go.Proofs

/-- Labels that are the least ones of their kind. -/
def Least (L : List Int) : Prop := ∀ v, v < L.length → ∃ x : Nat, L.getD v 0 = (x : Int) ∧ x ≤ v ∧ L.getD x 0 = (x : Int)
def rootsN (L : List Int) (i : Nat) : List Nat := (List.range i).filter fun v => decide (L.getD v 0 = (v : Int))
theorem rootsN_mem {L : List Int} {i v : Nat} : v ∈ rootsN L i ↔ v < i ∧ L.getD v 0 = (v : Int) := by
  unfold rootsN
  rw [List.mem_filter, List.mem_range, decide_eq_true_iff]
theorem rootsN_next (L : List Int) (i : Nat) : rootsN L (i + 1) = if L.getD i 0 = (i : Int) then rootsN L i ++ [i] else rootsN L i := by
  unfold rootsN
  have e : List.filter (fun v => decide (L.getD v 0 = ((v : Nat) : Int))) [i] = if decide (L.getD i 0 = (i : Int)) = true then [i] else [] := by
    rw [List.filter_cons]
    rfl
  rw [List.range_succ, List.filter_append, e]
  by_cases h : L.getD i 0 = (i : Int)
  · rw [if_pos h, if_pos (decide_eq_true h)]
  · rw [if_neg h, if_neg (by rw [decide_eq_false h]; simp), List.append_nil]
theorem rootsN_nodup (L : List Int) (i : Nat) : (rootsN L i).Nodup := List.Pairwise.filter _ List.nodup_range
theorem rc_roots (L : List Int) (N : Nat) : ∀ j, rcAt L N j = (rootsN L j).map fun r => memAt L r N
  | 0 => rfl
  | j + 1 => by
    rw [rcAt, rootsN_next, rc_roots L N j]
    split
    · rw [List.map_append]; rfl
    · rfl
theorem idx_cast {o : List Nat} {u : Nat} (hu : u ∈ o) : ∃ k, (o.map fun (x : Nat) => (x : Int)).idxOf (u : Int) = k ∧ o[k]? = some u := by
  have hm : (u : Int) ∈ o.map fun (x : Nat) => (x : Int) := List.mem_map.2 ⟨u, hu, rfl⟩
  have hlt := List.idxOf_lt_length_iff.2 hm
  refine ⟨_, rfl, ?_⟩
  have h1 := List.getElem_idxOf hlt
  rw [List.getElem_map] at h1
  rw [List.length_map] at hlt
  rw [List.getElem?_eq_getElem hlt]
  congr 1
  omega
theorem set_map {o : List Nat} (hn : o.Nodup) {k u : Nat} (hk : o[k]? = some u) (f f' : Nat → List Int) (h : ∀ r, r ≠ u → f' r = f r) : (o.map f).set k (f' u) = o.map f' := by
  apply List.ext_getElem?
  intro j
  rw [List.getElem?_set, List.length_map, List.getElem?_map, List.getElem?_map]
  have hkl := (List.getElem?_eq_some_iff.1 hk).1
  by_cases hj : k = j
  · subst hj
    rw [if_pos rfl, if_pos hkl, hk]
    rfl
  · rw [if_neg hj]
    cases hr : o[j]? with
    | none => rfl
    | some r =>
      have hne : r ≠ u := fun e => by
        subst e
        have h1 := (List.getElem?_eq_some_iff.1 hr)
        have h2 := (List.getElem?_eq_some_iff.1 hk)
        obtain ⟨a1, b1⟩ := h1
        obtain ⟨a2, b2⟩ := h2
        exact hj ((List.getElem_inj hn).1 (b2.trans b1.symm))
      simp [h r hne]
theorem gath_roots {L : List Int} (hL : Least L) : ∀ {i : Nat}, i ≤ L.length → gath L i = ((rootsN L i).map (fun (x : Nat) => (x : Int)), (rootsN L i).map fun r => memAt L r i)
  | 0, _ => rfl
  | i + 1, h => by
    have ih := gath_roots hL (i := i) (by omega)
    obtain ⟨x, hx, hxi, hxx⟩ := hL i (by omega)
    by_cases hroot : x = i
    · subst hroot
      have hnew : L.getD x 0 ∉ (gath L x).1 := by
        rw [ih, hx]
        intro hm
        obtain ⟨r, hr, e⟩ := List.mem_map.1 hm
        have := (rootsN_mem.1 hr).1
        omega
      rw [gath_new hnew, rootsN_next, if_pos hx, ih, hx, List.map_append, List.map_append]
      congr 1
      congr 1
      · refine List.map_congr_left fun r hr => ?_
        have := (rootsN_mem.1 hr).1
        rw [memAt_next (by omega), if_neg (by rw [hx]; omega)]
      · show [[(x : Int)]] = [memAt L x (x + 1)]
        rw [memAt_next (Nat.le_refl _), if_pos hx, memAt_start]
        rfl
    · have hmem : x ∈ rootsN L i := rootsN_mem.2 ⟨by omega, hxx⟩
      obtain ⟨k, hk1, hk2⟩ := idx_cast hmem
      have hold : L.getD i 0 ∈ (gath L i).1 := by
        rw [ih, hx]
        exact List.mem_map.2 ⟨x, hmem, rfl⟩
      rw [gath_old hold, rootsN_next, if_neg (by rw [hx]; omega), ih, hx, hk1]
      congr 1
      have hg : ((rootsN L i).map fun r => memAt L r i).getD k [] = memAt L x i := by
        rw [List.getD_eq_getElem?_getD, List.getElem?_map, hk2]
        rfl
      rw [hg]
      have hnx : memAt L x i ++ [(i : Int)] = memAt L x (i + 1) := by rw [memAt_next hxi, if_pos hx]
      rw [hnx]
      exact set_map (rootsN_nodup L i) hk2 (fun r => memAt L r i) (fun r => memAt L r (i + 1)) fun r hr => by
        by_cases hri : r ≤ i
        · rw [memAt_next hri, if_neg (by rw [hx]; omega)]
        · unfold memAt
          rw [List.filter_eq_nil_iff.2, List.filter_eq_nil_iff.2]
          · intro y hy
            have := List.mem_range.1 hy
            simp
            omega
          · intro y hy
            have := List.mem_range.1 hy
            simp
            omega
/-- Gathered by least labels: the reference's components. -/
theorem gath_rc {L : List Int} (hL : Least L) : (gath L L.length).2 = rcAt L L.length L.length := by
  rw [gath_roots hL (Nat.le_refl _), rc_roots]
end Go.Proofs.Ytdgecflljgnobaa
