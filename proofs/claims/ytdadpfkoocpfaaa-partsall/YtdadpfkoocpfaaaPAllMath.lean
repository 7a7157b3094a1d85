/-
  What PartsAll counts. No program in this text.
-/
import Derived.Test.YtdadpfkoocpfaaaPGathAll
import Derived.Test.YtdadpfkoocpfaaaPBlkLab
namespace Go.Proofs.Ytdadpfkoocpfaaa
open Go Go.Proofs

def cn (n : Nat) (F : List Int) : List Int := (List.range n).map fun (v : Nat) => ((F.count (v : Int) : Nat) : Int)
theorem cn_len (n : Nat) (F : List Int) : (cn n F).length = n := by simp [cn]
theorem cn_at {n v : Nat} {F : List Int} (h : v < n) : (cn n F)[v]? = some ((F.count (v : Int) : Nat) : Int) := by simp [cn, h]
theorem cn_nil (n : Nat) : cn n [] = List.replicate n 0 := by
  apply List.ext_getElem?
  intro i
  by_cases h : i < n
  · rw [cn_at h]; simp [h]
  · rw [List.getElem?_eq_none (by rw [cn_len]; omega), List.getElem?_eq_none (by simp; omega)]
theorem cn_step {n p : Nat} (F : List Int) : (cn n F).set p (((F.count (p : Int) : Nat) : Int) + 1) = cn n (F ++ [(p : Int)]) := by
  apply List.ext_getElem?
  intro v
  by_cases hv : v < n
  · rw [List.getElem?_set, cn_len, cn_at hv, cn_at hv, List.count_append]
    by_cases e : p = v
    · subst e
      rw [if_pos rfl, if_pos hv, List.count_singleton_self]
      rfl
    · rw [if_neg e]
      have : [(p : Int)].count (v : Int) = 0 := List.count_eq_zero.2 (by simp; omega)
      rw [this]
      rfl
  · rw [List.getElem?_eq_none (by rw [List.length_set, cn_len]; omega), List.getElem?_eq_none (by rw [cn_len]; omega)]
def ofL (L F : List Int) : List Int := (List.range L.length).map fun (p : Nat) => if (p : Int) ∈ F then (((oOf L).idxOf (L.getD p 0) : Nat) : Int) + 1 else 0
theorem ofL_len (L F : List Int) : (ofL L F).length = L.length := by simp [ofL]
theorem ofL_at {L F : List Int} {v : Nat} (h : v < L.length) : (ofL L F)[v]? = some (if (v : Int) ∈ F then (((oOf L).idxOf (L.getD v 0) : Nat) : Int) + 1 else 0) := by simp [ofL, h]
theorem ofL_nil (L : List Int) : ofL L [] = List.replicate L.length 0 := by
  apply List.ext_getElem?
  intro i
  by_cases h : i < L.length
  · rw [ofL_at h]; simp [h]
  · rw [List.getElem?_eq_none (by rw [ofL_len]; omega), List.getElem?_eq_none (by simp; omega)]
theorem ofL_step {L : List Int} {p i : Nat} (F : List Int) (hi : (oOf L).idxOf (L.getD p 0) = i) : (ofL L F).set p ((i : Int) + 1) = ofL L (F ++ [(p : Int)]) := by
  apply List.ext_getElem?
  intro v
  by_cases hv : v < L.length
  · rw [List.getElem?_set, ofL_len, ofL_at hv, ofL_at hv]
    by_cases e : p = v
    · subst e
      rw [if_pos rfl, if_pos hv, if_pos (by simp), hi]
    · rw [if_neg e]
      have : (v : Int) ∈ F ++ [(p : Int)] ↔ (v : Int) ∈ F := by simp; omega
      simp only [this]
  · rw [List.getElem?_eq_none (by rw [List.length_set, ofL_len]; omega), List.getElem?_eq_none (by rw [ofL_len]; omega)]
/-- The k-th of list i: which place, which label, and that it has not been gone over. -/
theorem all_at {L : List Int} {i k : Nat} {g : List Int} {x : Int} (hg : (gOf L)[i]? = some g) (hx : g[k]? = some x) : ∃ p : Nat, x = (p : Int) ∧ p < L.length ∧ (oOf L).idxOf (L.getD p 0) = i ∧ (p : Int) ∉ pre2 (gOf L) i k := by
  obtain ⟨u, ho, rfl⟩ := gOf_at hg
  obtain ⟨p, rfl, hp, hl⟩ := memb_mem.1 (List.mem_of_getElem? hx)
  refine ⟨p, rfl, hp, by rw [hl]; exact idx_at ho, fun hm => ?_⟩
  obtain ⟨r, hr⟩ := pre2_pre (k := k + 1) hg
  have h1 := flat_count hp
  rw [hr, pre2_step hg hx, List.count_append, List.count_append, List.count_singleton_self] at h1
  have := List.count_pos_iff.2 hm
  omega
theorem all_in {L : List Int} {p : Nat} (hp : p < L.length) : (p : Int) ∈ (gOf L).flatten := List.count_pos_iff.1 (by rw [flat_count hp]; decide)
theorem memb_len (L : List Int) (u : Int) : (memb L u L.length).length = L.count u := by
  unfold memb
  rw [List.length_map]
  have : ∀ (n : Nat), n ≤ L.length → ((List.range n).filter fun p => decide (L.getD p 0 = u)).length = (L.take n).count u := by
    intro n
    induction n with
    | zero => intro _; simp
    | succ n ih =>
      intro hn
      have hlt : n < L.length := by omega
      have e : L.getD n 0 = L[n] := by simp [hlt]
      rw [List.range_succ, List.filter_append, List.length_append, ih (by omega), List.take_add_one, List.getElem?_eq_getElem hlt, List.count_append, List.filter_cons, e]
      by_cases h : L[n] = u
      · simp [h]
      · have hc : [L[n]].count u = 0 := List.count_eq_zero.2 (by simp; exact fun e => h e.symm)
        simp [h, hc]
  rw [this L.length (Nat.le_refl _), List.take_length]
def aloneN (G : List (List Int)) (i : Nat) : Nat := ((G.take i).filter fun g => g.length == 1).length
theorem aloneN_next {G : List (List Int)} {i : Nat} {g : List Int} (hg : G[i]? = some g) : aloneN G (i + 1) = aloneN G i + (if g.length = 1 then 1 else 0) := by
  unfold aloneN
  rw [List.take_add_one, hg, List.filter_append, List.length_append]
  congr 1
  by_cases h : g.length = 1 <;> simp [h]
theorem aloneN_le (G : List (List Int)) (i : Nat) : aloneN G i ≤ i := by
  unfold aloneN
  have h1 := List.length_filter_le (fun g : List Int => g.length == 1) (G.take i)
  rw [List.length_take] at h1
  omega
theorem bridge_group {L : List Int} {p : Nat} (hb : bridgeB L p = true) : (memb L (L.getD p 0) L.length).length = 1 := by
  rw [memb_len]
  unfold bridgeB at hb
  have := of_decide_eq_true (p := ((L.count (L.getD p 0) : Nat) : Int) = 1) (by simpa using hb)
  omega
theorem filter_sum (G : List (List Int)) : (G.filter fun g => g.length == 1).length = (G.map fun g => if g.length = 1 then 1 else 0).sum := by
  induction G with
  | nil => rfl
  | cons g G ih =>
    rw [List.map_cons, List.sum_cons, ← ih, List.filter_cons]
    by_cases h : g.length = 1 <;> simp [h] <;> omega
theorem alone_all (L : List Int) : (thoseL (bridgeB L) L.length).length = aloneN (gOf L) (gOf L).length := by
  have h1 : (thoseL (bridgeB L) L.length).length = ((List.range L.length).map fun (k : Nat) => (k : Int)).countP (fun x => bridgeB L x.toNat) := by
    unfold thoseL
    rw [List.length_map, List.countP_map, List.countP_eq_length_filter]
    congr 1
  have hperm : ((List.range L.length).map fun (k : Nat) => (k : Int)).Perm (gOf L).flatten := by
    rw [List.perm_iff_count]
    intro a
    by_cases ha : ∃ p : Nat, a = (p : Int) ∧ p < L.length
    · obtain ⟨p, rfl, hp⟩ := ha
      rw [flat_count hp]
      refine nodup_count ?_ (List.mem_map.2 ⟨p, List.mem_range.2 hp, rfl⟩)
      refine List.Pairwise.map _ (fun a b h => ?_) List.nodup_range
      exact fun e => h (by omega)
    · rw [List.count_eq_zero.2 (fun h => ?_), List.count_eq_zero.2 (fun h => ha (flat_range h))]
      obtain ⟨p, hp, e⟩ := List.mem_map.1 h
      exact ha ⟨p, e.symm, List.mem_range.1 hp⟩
  have h2 : aloneN (gOf L) (gOf L).length = ((gOf L).map fun g => if g.length = 1 then 1 else 0).sum := by
    unfold aloneN
    rw [List.take_length]
    exact filter_sum _
  rw [h1, hperm.countP_eq, List.countP_flatten, h2, gOf_map, List.map_map, List.map_map]
  congr 1
  refine List.map_congr_left fun u _ => ?_
  show (memb L u L.length).countP (fun x => bridgeB L x.toNat) = if (memb L u L.length).length = 1 then 1 else 0
  have hb : ∀ x ∈ memb L u L.length, bridgeB L x.toNat = decide ((memb L u L.length).length = 1) := fun x hx => by
    obtain ⟨p, rfl, hp, hl⟩ := memb_mem.1 hx
    unfold bridgeB
    rw [Int.toNat_natCast, hl, memb_len]
    by_cases h : L.count u = 1
    · simp [h]
    · have : ¬ ((L.count u : Nat) : Int) = 1 := by omega
      simp [h, this]
  by_cases h : (memb L u L.length).length = 1
  · rw [if_pos h, List.countP_eq_length.2 (fun x hx => by rw [hb x hx]; simpa using h), h]
  · rw [if_neg h, List.countP_eq_zero.2 (fun x hx => by rw [hb x hx]; simpa using h)]
end Go.Proofs.Ytdadpfkoocpfaaa
