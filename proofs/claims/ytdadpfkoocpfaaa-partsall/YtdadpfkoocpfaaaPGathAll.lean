/-
  What is gathered: each place in one list, a label that comes once in a list alone. No program in this text.
-/
import Derived.Test.YtdadpfkoocpfaaaPGathMath
import Derived.Test.YtdadpfkoocpfaaaPWalk
namespace Go.Proofs.Ytdadpfkoocpfaaa
open Go Go.Proofs

def memb (L : List Int) (u : Int) (i : Nat) : List Int := ((List.range i).filter fun p => decide (L.getD p 0 = u)).map fun (p : Nat) => (p : Int)
theorem memb_next (L : List Int) (u : Int) (i : Nat) : memb L u (i + 1) = if L.getD i 0 = u then memb L u i ++ [(i : Int)] else memb L u i := by
  unfold memb
  rw [List.range_succ, List.filter_append, List.map_append]
  by_cases h : L.getD i 0 = u
  · rw [if_pos h]
    congr 1
    rw [List.filter_cons, if_pos (by rw [h]; simp)]
    rfl
  · rw [if_neg h, List.filter_cons, if_neg (by simpa using h)]
    simp
theorem memb_mem {L : List Int} {u : Int} {i : Nat} {x : Int} : x ∈ memb L u i ↔ ∃ p : Nat, x = (p : Int) ∧ p < i ∧ L.getD p 0 = u := by
  unfold memb
  rw [List.mem_map]
  constructor
  · rintro ⟨p, hp, rfl⟩
    rw [List.mem_filter, List.mem_range] at hp
    exact ⟨p, rfl, hp.1, by simpa using hp.2⟩
  · rintro ⟨p, rfl, h1, h2⟩
    exact ⟨p, List.mem_filter.2 ⟨List.mem_range.2 h1, by simpa using h2⟩, rfl⟩
theorem memb_nodup (L : List Int) (u : Int) (i : Nat) : (memb L u i).Nodup := by
  unfold memb
  refine List.Pairwise.map _ (fun a b h => ?_) (List.Pairwise.filter _ List.nodup_range)
  intro e
  exact h (by omega)
theorem set_mapI {o : List Int} (hn : o.Nodup) {k : Nat} {u : Int} (hk : o[k]? = some u) (f f' : Int → List Int) (h : ∀ r, r ≠ u → f' r = f r) : (o.map f).set k (f' u) = o.map f' := by
  apply List.ext_getElem?
  intro j
  rw [List.getElem?_set, List.length_map, List.getElem?_map, List.getElem?_map]
  have hkl := (List.getElem?_eq_some_iff.1 hk).1
  by_cases hj : k = j
  · subst hj
    rw [if_pos rfl, if_pos hkl, hk]
    rfl
  · rw [if_neg hj]
    cases hr : o[j]? with
    | none => rfl
    | some r =>
      have hne : r ≠ u := fun e => by
        subst e
        obtain ⟨a1, b1⟩ := List.getElem?_eq_some_iff.1 hr
        obtain ⟨a2, b2⟩ := List.getElem?_eq_some_iff.1 hk
        exact hj ((List.getElem_inj hn).1 (b2.trans b1.symm))
      simp [h r hne]
theorem gath_desc (L : List Int) : ∀ i, i ≤ L.length → (gath L i).1.Nodup ∧ (gath L i).2 = (gath L i).1.map fun u => memb L u i
  | 0, _ => by simp [gath]
  | i + 1, hi => by
    obtain ⟨h1, h2⟩ := gath_desc L i (by omega)
    have hmem := gath_mem (l := L) (i := i) (by omega)
    by_cases hm : L.getD i 0 ∈ (gath L i).1
    · rw [gath_old hm]
      refine ⟨h1, ?_⟩
      have hlt := List.idxOf_lt_length_iff.2 hm
      have hk : (gath L i).1[(gath L i).1.idxOf (L.getD i 0)]? = some (L.getD i 0) := by rw [List.getElem?_eq_getElem hlt, List.getElem_idxOf hlt]
      have hg : (gath L i).2.getD ((gath L i).1.idxOf (L.getD i 0)) [] = memb L (L.getD i 0) i := by
        rw [h2, List.getD_eq_getElem?_getD, List.getElem?_map, hk]
        rfl
      show (gath L i).2.set _ _ = (gath L i).1.map _
      rw [hg, h2]
      have hs := set_mapI h1 hk (fun u => memb L u i) (fun u => memb L u (i + 1)) (fun r hr => by
        show memb L r (i + 1) = memb L r i
        rw [memb_next, if_neg (Ne.symm hr)])
      rw [← hs]
      congr 1
      rw [memb_next, if_pos rfl]
    · rw [gath_new hm]
      refine ⟨?_, ?_⟩
      · show ((gath L i).1 ++ [L.getD i 0]).Nodup
        exact List.nodup_append.2 ⟨h1, by simp, fun a ha b hb => by
          rw [List.mem_singleton.1 hb]
          exact fun e => hm (e ▸ ha)⟩
      · show (gath L i).2 ++ [[(i : Int)]] = ((gath L i).1 ++ [L.getD i 0]).map _
        rw [List.map_append, h2]
        congr 1
        · refine List.map_congr_left fun u hu => ?_
          rw [memb_next, if_neg (fun e => hm (by rw [e]; exact hu))]
        · have hnil : memb L (L.getD i 0) i = [] := by
            rw [List.eq_nil_iff_forall_not_mem]
            intro x hx
            obtain ⟨p, _, hp, hl⟩ := memb_mem.1 hx
            refine hm ((hmem _).2 ?_)
            rw [← hl]
            have hpl : p < L.length := by omega
            have : L.getD p 0 = L[p] := by simp [hpl]
            rw [this]
            exact List.mem_take_iff_getElem.2 ⟨p, by omega, rfl⟩
          rw [List.map_singleton, memb_next, if_pos rfl, hnil]
          rfl
/-- All that is gathered of all places. -/
def gOf (L : List Int) : List (List Int) := (gath L L.length).2
def oOf (L : List Int) : List Int := (gath L L.length).1
theorem gOf_map (L : List Int) : gOf L = (oOf L).map fun u => memb L u L.length := (gath_desc L L.length (Nat.le_refl _)).2
theorem oOf_nodup (L : List Int) : (oOf L).Nodup := (gath_desc L L.length (Nat.le_refl _)).1
theorem oOf_mem {L : List Int} {p : Nat} (hp : p < L.length) : L.getD p 0 ∈ oOf L := by
  have := (gath_mem (l := L) (i := L.length) (Nat.le_refl _) (L.getD p 0)).2
  refine this ?_
  rw [List.take_length]
  have e : L.getD p 0 = L[p] := by simp [hp]
  rw [e]
  exact List.getElem_mem hp
theorem gOf_at {L : List Int} {i : Nat} {g : List Int} (h : (gOf L)[i]? = some g) : ∃ u, (oOf L)[i]? = some u ∧ g = memb L u L.length := by
  rw [gOf_map, List.getElem?_map] at h
  cases ho : (oOf L)[i]? with
  | none => rw [ho] at h; cases h
  | some u => rw [ho] at h; exact ⟨u, rfl, by simpa using h.symm⟩
theorem gOf_of {L : List Int} {p : Nat} (hp : p < L.length) : (gOf L)[(oOf L).idxOf (L.getD p 0)]? = some (memb L (L.getD p 0) L.length) := by
  have hlt := List.idxOf_lt_length_iff.2 (oOf_mem hp)
  rw [gOf_map, List.getElem?_map, List.getElem?_eq_getElem hlt, List.getElem_idxOf hlt]
  rfl
theorem idx_at {L : List Int} {i : Nat} {u : Int} (h : (oOf L)[i]? = some u) : (oOf L).idxOf u = i := by
  obtain ⟨hi, rfl⟩ := List.getElem?_eq_some_iff.1 h
  exact (oOf_nodup L).idxOf_getElem i hi
theorem nodup_count {x : Int} : ∀ {l : List Int}, l.Nodup → x ∈ l → l.count x = 1
  | a :: l, hn, hx => by
    have hn' := List.nodup_cons.1 hn
    rcases List.mem_cons.1 hx with rfl | h
    · rw [List.count_cons_self, List.count_eq_zero.2 hn'.1]
    · rw [List.count_cons_of_ne (fun e => hn'.1 (by rw [e]; exact h)), nodup_count hn'.2 h]
theorem sum_ind {x : Int} : ∀ {o : List Int}, o.Nodup → x ∈ o → (o.map fun u => if x = u then 1 else 0).sum = 1
  | a :: o, hn, hx => by
    rw [List.map_cons, List.sum_cons]
    have hn' := List.nodup_cons.1 hn
    rcases List.mem_cons.1 hx with rfl | h
    · rw [if_pos rfl]
      have : (o.map fun u => if x = u then 1 else 0).sum = 0 := by
        have e : (o.map fun u => if x = u then 1 else 0) = o.map fun _ => 0 := List.map_congr_left fun u hu => if_neg (fun e => hn'.1 (by rw [e]; exact hu))
        rw [e]
        clear e hn hx hn'
        induction o with
        | nil => rfl
        | cons b o ih => simpa using ih
      omega
    · rw [if_neg (fun e => hn'.1 (by rw [← e]; exact h)), sum_ind hn'.2 h]
theorem flat_count {L : List Int} {p : Nat} (hp : p < L.length) : (gOf L).flatten.count (p : Int) = 1 := by
  rw [List.count_flatten, gOf_map, List.map_map]
  have e : (oOf L).map (List.count (p : Int) ∘ fun u => memb L u L.length) = (oOf L).map fun u => if L.getD p 0 = u then 1 else 0 := by
    refine List.map_congr_left fun u _ => ?_
    show (memb L u L.length).count (p : Int) = _
    by_cases h : L.getD p 0 = u
    · rw [if_pos h]
      have hm := memb_mem.2 ⟨p, rfl, hp, h⟩
      exact nodup_count (memb_nodup L u L.length) hm
    · rw [if_neg h]
      refine List.count_eq_zero.2 fun hm => ?_
      obtain ⟨q, e1, _, e2⟩ := memb_mem.1 hm
      exact h (by rw [show p = q by omega]; exact e2)
  rw [e]
  exact sum_ind (oOf_nodup L) (oOf_mem hp)
theorem flat_range {L : List Int} {x : Int} (hx : x ∈ (gOf L).flatten) : ∃ p : Nat, x = (p : Int) ∧ p < L.length := by
  obtain ⟨g, hg, hxg⟩ := List.mem_flatten.1 hx
  obtain ⟨i, hi, rfl⟩ := List.getElem_of_mem hg
  obtain ⟨u, _, e⟩ := gOf_at (List.getElem?_eq_getElem hi)
  rw [e] at hxg
  obtain ⟨p, e1, e2, _⟩ := memb_mem.1 hxg
  exact ⟨p, e1, e2⟩
/-- What has been gone over: the first i lists, and k of the next. -/
def pre2 (G : List (List Int)) (i k : Nat) : List Int := (G.take i).flatten ++ (G.getD i []).take k
theorem pre2_step {G : List (List Int)} {i k : Nat} {g : List Int} {x : Int} (hg : G[i]? = some g) (hx : g[k]? = some x) : pre2 G i (k + 1) = pre2 G i k ++ [x] := by
  unfold pre2
  have e : G.getD i [] = g := by rw [List.getD_eq_getElem?_getD, hg]; rfl
  rw [e, List.append_assoc, List.take_add_one, hx]
  rfl
theorem pre2_next {G : List (List Int)} {i : Nat} {g : List Int} (hg : G[i]? = some g) : pre2 G i g.length = pre2 G (i + 1) 0 := by
  unfold pre2
  have e : G.getD i [] = g := by rw [List.getD_eq_getElem?_getD, hg]; rfl
  rw [e, List.take_length, List.take_zero, List.append_nil, List.take_add_one, hg, List.flatten_append]
  simp
theorem pre2_all (G : List (List Int)) : pre2 G G.length 0 = G.flatten := by
  unfold pre2
  rw [List.take_length, List.take_zero, List.append_nil]
theorem pre2_pre {G : List (List Int)} {i k : Nat} {g : List Int} (hg : G[i]? = some g) : ∃ r, G.flatten = pre2 G i k ++ r := by
  have hi := (List.getElem?_eq_some_iff.1 hg).1
  have e : G.getD i [] = g := by rw [List.getD_eq_getElem?_getD, hg]; rfl
  refine ⟨g.drop k ++ (G.drop (i + 1)).flatten, ?_⟩
  unfold pre2
  rw [e]
  have h1 : G = G.take i ++ (g :: G.drop (i + 1)) := by
    have := List.take_append_drop i G
    rw [List.drop_eq_getElem_cons hi] at this
    rw [(List.getElem?_eq_some_iff.1 hg).2] at this
    exact this.symm
  conv => lhs; rw [h1]
  rw [List.flatten_append, List.flatten_cons, List.append_assoc, ← List.append_assoc (g.take k), List.take_append_drop]
end Go.Proofs.Ytdadpfkoocpfaaa
