import Derived.Test.YtjpkojmjiaoifaaGreatZBH
import Derived.Test.YtjpkojmjiaoifaaGreatZBC
namespace Go.Proofs.YtjpkojmjiaoifaaGreat
open Go Go.Proofs
theorem nodup_le {α : Type} [DecidableEq α] : ∀ {A B : List α}, A.Nodup → (∀ x ∈ A, x ∈ B) → A.length ≤ B.length
 | [], _, _, _ => Nat.zero_le _
 | a :: A, B, hn, h => by
  have hn' := List.nodup_cons.1 hn
  have ha := h a List.mem_cons_self
  have := nodup_le (A := A) (B := B.erase a) hn'.2 (fun x hx => (List.mem_erase_of_ne (fun e : x = a => hn'.1 (by rw [← e]; exact hx))).2 (h x (List.mem_cons_of_mem _ hx)))
  rw [List.length_erase_of_mem ha] at this
  have hp := List.length_pos_of_mem ha
  simp only [List.length_cons]
  omega
section
variable {N : Nat} {r : List (List Int)}
theorem PlR.lessL (h : PlR N r) : ∀ L : List (Nat × Nat), ∃ r', PlR N r' ∧ ∀ u w : Nat, (w : Int) ∈ r'.getD u [] ↔ (w : Int) ∈ r.getD u [] ∧ (u, w) ∉ L ∧ (w, u) ∉ L
 | [] => ⟨r, h, fun u w => by simp⟩
 | (a, b) :: L => by
  obtain ⟨r', hP, hm⟩ := PlR.lessL h L
  by_cases hab : (b : Int) ∈ r'.getD a []
  ·refine ⟨lessR N r' a b, hP.less hab, fun u w => ?_⟩
   rw [less_mem' hP.1, hm u w]
   simp only [List.mem_cons, Prod.mk.injEq, not_or]
   constructor
   ·rintro ⟨⟨h1, h2, h3⟩, h4, h5⟩
    exact ⟨h1, ⟨fun h => h4 ⟨h.1, by omega⟩, h2⟩, ⟨fun h => h5 ⟨h.2, by omega⟩, h3⟩⟩
   ·rintro ⟨h1, ⟨h2, h3⟩, h4, h5⟩
    exact ⟨⟨h1, h3, h5⟩, fun h => h2 ⟨h.1, by omega⟩, fun h => h4 ⟨by omega, h.1⟩⟩
  ·have hba : (a : Int) ∉ r'.getD b [] := fun hh => hab (hP.1.lt hh).2.2.2
   refine ⟨r', hP, fun u w => ?_⟩
   constructor
   ·intro hh
    obtain ⟨h1, h2, h3⟩ := (hm u w).1 hh
    simp only [List.mem_cons, Prod.mk.injEq, not_or]
    refine ⟨h1, ⟨fun e => ?_, h2⟩, ⟨fun e => ?_, h3⟩⟩
    ·rw [e.1, e.2] at hh; exact hab hh
    ·rw [e.1, e.2] at hh; exact hba hh
   ·rintro ⟨h1, h2, h3⟩
    simp only [List.mem_cons, not_or] at h2 h3
    exact (hm u w).2 ⟨h1, h2.2, h3.2⟩
theorem PlR.keep (h : PlR N r) (keep : Nat → Nat → Prop) (hs : ∀ u w, keep u w → keep w u) : ∃ r', PlR N r' ∧ ∀ u w : Nat, (w : Int) ∈ r'.getD u [] ↔ (w : Int) ∈ r.getD u [] ∧ keep u w := by
 obtain ⟨r', hP, hm⟩ := h.lessL (((List.range N).flatMap fun u => (List.range N).map fun w => (u, w)).filter fun p => @decide (¬ keep p.1 p.2) (Classical.propDecidable _))
 have hmem : ∀ u w : Nat, u < N → w < N → ((u, w) ∈ (((List.range N).flatMap fun u => (List.range N).map fun w => (u, w)).filter fun p => @decide (¬ keep p.1 p.2) (Classical.propDecidable _)) ↔ ¬ keep u w) := fun u w hu hw => by
  rw [List.mem_filter, @decide_eq_true_iff _ (Classical.propDecidable _)]
  constructor
  ·intro hh; exact hh.2
  ·intro hh
   exact ⟨List.mem_flatMap.2 ⟨u, List.mem_range.2 hu, List.mem_map.2 ⟨w, List.mem_range.2 hw, rfl⟩⟩, hh⟩
 refine ⟨r', hP, fun u w => (hm u w).trans ?_⟩
 constructor
 ·rintro ⟨h1, h2, h3⟩
  obtain ⟨hu, hw, _, _⟩ := h.1.lt h1
  exact ⟨h1, Classical.byContradiction fun hk => h2 ((hmem u w hu hw).2 hk)⟩
 ·rintro ⟨h1, h2⟩
  obtain ⟨hu, hw, _, _⟩ := h.1.lt h1
  exact ⟨h1, fun hh => (hmem u w hu hw).1 hh h2, fun hh => (hmem w u hw hu).1 hh (hs u w h2)⟩
def allD (N : Nat) (r : List (List Int)) : List Dt := (List.range N).flatMap fun u => (r.getD u []).map fun z => ((u : Int), z)
theorem allD_mem {d : Dt} (h : DD N r d) : d ∈ allD N r := by
 obtain ⟨u, v, rfl, hu, hv, hm⟩ := h
 exact List.mem_flatMap.2 ⟨u, List.mem_range.2 hu, List.mem_map.2 ⟨_, hm, rfl⟩⟩
theorem allD_len (r : List (List Int)) : ∀ N : Nat, ((allD N r).length : Int) = sumZ N fun u => ((r.getD u []).length : Int)
 | 0 => rfl
 | N + 1 => by
  have e : allD (N + 1) r = allD N r ++ (r.getD N []).map fun z => ((N : Int), z) := by
   unfold allD
   rw [List.range_succ, List.flatMap_append]
   simp
  show _ = sumZ N _ + ((r.getD N []).length : Int)
  rw [e, List.length_append, List.length_map, ← allD_len r N]
  omega
theorem face_three (hS : Sy N r) (h2 : ∀ u, u < N → r.getD u [] ≠ [] → 2 ≤ (r.getD u []).length) {f : List Dt} (hf : Rnd (nxD r) f) (hD : ∀ d ∈ f, DD N r d) : 3 ≤ f.length := by
 obtain ⟨hne, d, hw⟩ := hf
 match f, hne, hw, hD with
 | [a], _, hw, hD =>
  obtain ⟨rfl, h3⟩ := hw
  have h4 : nxD r d = d := h3
  obtain ⟨u, v, rfl, hu, hv, hm⟩ := hD d (by simp)
  have := congrArg Prod.fst h4
  unfold nxD at this
  simp only at this
  have := (hS.lt hm).2.2.1
  omega
 | [a, b], _, hw, hD =>
  obtain ⟨rfl, rfl, h3⟩ := hw
  have h4 : nxD r (nxD r d) = d := h3
  obtain ⟨u, v, rfl, hu, hv, hm⟩ := hD d (by simp)
  have hvu := (hS.lt hm).2.2.2
  rw [nxD_at] at h4
  have h5 := congrArg Prod.fst h4
  unfold nxD at h5
  simp only at h5
  unfold nxt at h5
  rw [aft_self (hS.nod v hv) hvu] at h5
  have := h2 v hv (by rw [h5]; simp)
  rw [h5] at this
  simp at this
 | a :: b :: c :: f, _, _, _ => simp
theorem flat_three : ∀ {C : List (List Dt)}, (∀ f ∈ C, 3 ≤ f.length) → 3 * C.length ≤ C.flatten.length
 | [], _ => by simp
 | f :: C, h => by
  have h1 := h f (by simp)
  have h2 := flat_three (C := C) (fun g hg => h g (by simp [hg]))
  rw [List.length_cons, List.flatten_cons, List.length_append]
  omega
theorem sumH_iso (r : List (List Int)) : ∀ N : Nat, sumH N r = 2 * (N : Int) + 2 * ((((List.range N).filter fun u => (r.getD u []).isEmpty).length : Nat) : Int) - sumZ N fun u => ((r.getD u []).length : Int)
 | 0 => rfl
 | N + 1 => by
  have ih := sumH_iso r N
  show sumH N r + hL (r.getD N []) = _ - (sumZ N _ + ((r.getD N []).length : Int))
  rw [ih, List.range_succ, List.filter_append, List.length_append]
  unfold hL
  by_cases h : r.getD N [] = []
  ·have e1 : ([N].filter fun u => (r.getD u []).isEmpty) = [N] := by rw [List.filter_cons, if_pos (show (r.getD N []).isEmpty = true by rw [h]; rfl), List.filter_nil]
   rw [e1, if_pos h, h, List.length_singleton, List.length_nil]
   omega
  ·rw [if_neg h]
   have : ([N].filter fun u => (r.getD u []).isEmpty) = [] := by
    rw [List.filter_cons, if_neg (show ¬ (r.getD N []).isEmpty = true from fun e => h (List.isEmpty_iff.1 e)), List.filter_nil]
   rw [this, List.length_nil]
   omega
theorem six_sum (r : List (List Int)) : ∀ N : Nat, (sumZ N fun u => if r.getD u [] = [] then 0 else 6 - ((r.getD u []).length : Int)) = 6 * (N : Int) - 6 * ((((List.range N).filter fun u => (r.getD u []).isEmpty).length : Nat) : Int) - sumZ N fun u => ((r.getD u []).length : Int)
 | 0 => rfl
 | N + 1 => by
  have ih := six_sum r N
  show sumZ N _ + (if r.getD N [] = [] then 0 else 6 - ((r.getD N []).length : Int)) = _ - (sumZ N _ + ((r.getD N []).length : Int))
  rw [ih, List.range_succ, List.filter_append, List.length_append]
  by_cases h : r.getD N [] = []
  ·have e1 : ([N].filter fun u => (r.getD u []).isEmpty) = [N] := by rw [List.filter_cons, if_pos (show (r.getD N []).isEmpty = true by rw [h]; rfl), List.filter_nil]
   rw [e1, if_pos h, h, List.length_singleton, List.length_nil]
   omega
  ·rw [if_neg h]
   have : ([N].filter fun u => (r.getD u []).isEmpty) = [] := by
    rw [List.filter_cons, if_neg (show ¬ (r.getD N []).isEmpty = true from fun e => h (List.isEmpty_iff.1 e)), List.filter_nil]
   rw [this, List.length_nil]
   omega
theorem PlR.bound (h : PlR N r) {w : Nat} (hw : r.getD w [] ≠ []) (h2 : ∀ u, u < N → r.getD u [] ≠ [] → 2 ≤ (r.getD u []).length) : 12 ≤ sumZ N fun u => if r.getD u [] = [] then 0 else 6 - ((r.getD u []).length : Int) := by
 obtain ⟨hS, C, R, hD, hco, hle⟩ := h
 have hwN : w < N := by
  by_cases hu : w < N
  ·exact hu
  ·exact absurd (getD_nil_of (by rw [hS.len]; omega)) hw
 have hC : 3 * C.length ≤ C.flatten.length := flat_three fun f hf => face_three hS h2 (hD.rnd f hf) (fun d hd => (hD.mem d).1 (List.mem_flatten.2 ⟨f, hf, hd⟩))
 have hC2 : C.flatten.length ≤ (allD N r).length := nodup_le hD.nodup (fun d hd => allD_mem ((hD.mem d).1 hd))
 obtain ⟨q, hq, hwq⟩ := hco w hwN
 have hqn : r.getD q [] ≠ [] := by
  rcases (hwq.symm hS).inv with rfl | ⟨v, h1⟩
  ·exact hw
  ·exact fun e => by rw [e] at h1; simp at h1
 have hA : (q :: (List.range N).filter fun u => (r.getD u []).isEmpty).length ≤ R.length := by
  refine nodup_le (List.nodup_cons.2 ⟨fun hm => ?_, List.Nodup.sublist List.filter_sublist List.nodup_range⟩) fun u hu => ?_
  ·have := (List.mem_filter.1 hm).2
   exact hqn (by simpa using this)
  ·rcases List.mem_cons.1 hu with rfl | hu
   ·exact hq
   ·obtain ⟨h3, h4⟩ := List.mem_filter.1 hu
    obtain ⟨q', hq', h5⟩ := hco u (List.mem_range.1 h3)
    rcases h5.inv with rfl | ⟨v, h1⟩
    ·exact hq'
    ·rw [List.isEmpty_iff.1 h4] at h1
     simp at h1
 rw [List.length_cons] at hA
 rw [sumH_iso] at hle
 rw [six_sum]
 have hl := allD_len r N
 omega
theorem PlR.few (h : PlR N r) {w : Nat} (hw : r.getD w [] ≠ []) : ∃ u, u < N ∧ r.getD u [] ≠ [] ∧ (r.getD u []).length ≤ 5 := by
 refine Classical.byContradiction fun hno => ?_
 have h6 : ∀ u, u < N → r.getD u [] ≠ [] → 6 ≤ (r.getD u []).length := fun u hu hne => by
  by_cases h1 : (r.getD u []).length ≤ 5
  ·exact absurd ⟨u, hu, hne, h1⟩ hno
  ·omega
 have hb := h.bound hw (fun u hu hne => by have := h6 u hu hne; omega)
 have hz : (sumZ N fun u => if r.getD u [] = [] then 0 else 6 - ((r.getD u []).length : Int)) ≤ sumZ N fun _ => 0 := sumZ_le fun u hu => by
  by_cases h1 : r.getD u [] = []
  ·rw [if_pos h1]; omega
  ·rw [if_neg h1]
   have := h6 u hu h1
   omega
 have h0 : ∀ n, (sumZ n fun _ => (0 : Int)) = 0 := fun n => by
  induction n with
  | zero => rfl
  | succ n ih => show sumZ n _ + 0 = 0; rw [ih]; rfl
 rw [h0] at hz
 omega
theorem sum_in (K : List Nat) (hK : K.Nodup) : ∀ n, (sumZ n fun u => if u ∈ K then 1 else 0) ≤ ((K.length : Nat) : Int) := by
 induction K with
 | nil =>
  intro n
  have h0 : ∀ n, (sumZ n fun u => if u ∈ ([] : List Nat) then (1 : Int) else 0) = 0 := fun n => by
   induction n with
   | zero => rfl
   | succ n ih => show sumZ n _ + (if n ∈ ([] : List Nat) then (1 : Int) else 0) = 0; rw [ih, if_neg (by simp)]; rfl
  rw [h0]
  simp
 | cons a K ih =>
  intro n
  rw [List.nodup_cons] at hK
  have e : (sumZ n fun u => if u ∈ a :: K then (1 : Int) else 0) = sumZ n fun u => (if u = a then 1 else 0) + (if u ∈ K then (1 : Int) else 0) := sumZ_congr fun u _ => by
   by_cases h1 : u = a
   ·subst h1
    rw [if_pos (by simp), if_pos rfl, if_neg hK.1]
    rfl
   ·rw [if_neg h1]
    by_cases h2 : u ∈ K
    ·rw [if_pos (by simp [h2]), if_pos h2]
     rfl
    ·rw [if_neg (by simp [h1, h2]), if_neg h2]
     rfl
  rw [e, sumZ_add, sumZ_one, List.length_cons]
  have := ih hK.2 n
  split <;> omega
theorem PlR.six (h : PlR N r) {K : List Nat} (hK : K.Nodup) (h6 : K.length = 6) (hall : ∀ a ∈ K, ∀ b ∈ K, a ≠ b → (b : Int) ∈ r.getD a []) : False := by
 obtain ⟨r', hP, hm⟩ := h.keep (fun u w => u ∈ K ∧ w ∈ K) (fun u w h => ⟨h.2, h.1⟩)
 have hin : ∀ u, r'.getD u [] ≠ [] → u ∈ K := fun u hne => by
  obtain ⟨z, Z, e⟩ := List.exists_cons_of_ne_nil hne
  have hz : z ∈ r'.getD u [] := by rw [e]; simp
  have huN : u < N := by
   by_cases hu : u < N
   ·exact hu
   ·exact absurd (getD_nil_of (by rw [hP.1.len]; omega)) hne
  obtain ⟨v, rfl, _⟩ := hP.1.both u huN z hz
  exact ((hm u v).1 hz).2.1
 have h5 : ∀ u ∈ K, 5 ≤ (r'.getD u []).length := fun u hu => by
  have h1 : ((K.erase u).map fun (z : Nat) => (z : Int)).length ≤ (r'.getD u []).length := by
   refine nodup_le (List.pairwise_map.2 ((show (K.erase u).Pairwise (· ≠ ·) from hK.erase u).imp fun {a b} hab e => hab (by omega))) fun z hz => ?_
   obtain ⟨w, hw, rfl⟩ := List.mem_map.1 hz
   have hw2 := (hK.mem_erase_iff).1 hw
   exact (hm u w).2 ⟨hall u hu w hw2.2 (fun e => hw2.1 e.symm), hu, hw2.2⟩
  rw [List.length_map, List.length_erase_of_mem hu] at h1
  omega
 obtain ⟨w, W, e⟩ := List.exists_cons_of_ne_nil (show K ≠ [] from fun e => by rw [e] at h6; simp at h6)
 have hwK : w ∈ K := by rw [e]; simp
 have hwn : r'.getD w [] ≠ [] := fun e => by have := h5 w hwK; rw [e] at this; simp at this
 have hb := hP.bound hwn (fun u hu hne => by have := h5 u (hin u hne); omega)
 have hz : (sumZ N fun u => if r'.getD u [] = [] then 0 else 6 - ((r'.getD u []).length : Int)) ≤ sumZ N fun u => if u ∈ K then 1 else 0 := sumZ_le fun u hu => by
  by_cases h1 : r'.getD u [] = []
  ·rw [if_pos h1]
   split <;> omega
  ·rw [if_neg h1, if_pos (hin u h1)]
   have := h5 u (hin u h1)
   omega
 have := sum_in K hK N
 omega
end
def Plan (N : Nat) (adj : Nat → Nat → Prop) : Prop := ∃ r, PlR N r ∧ ∀ u w : Nat, adj u w ↔ (w : Int) ∈ r.getD u []
section
variable {N : Nat} {adj : Nat → Nat → Prop}
theorem Plan.lt (h : Plan N adj) {u w : Nat} (ha : adj u w) : u < N ∧ w < N ∧ w ≠ u ∧ adj w u := by
 obtain ⟨r, hP, hm⟩ := h
 have := hP.1.lt ((hm u w).1 ha)
 exact ⟨this.1, this.2.1, this.2.2.1, (hm w u).2 this.2.2.2⟩
theorem Plan.less (h : Plan N adj) (v : Nat) : Plan N (less1 adj v) := by
 obtain ⟨r, hP, hm⟩ := h
 obtain ⟨r', hP', hm'⟩ := hP.keep (fun u w => u ≠ v ∧ w ≠ v) (fun u w h => ⟨h.2, h.1⟩)
 exact ⟨r', hP', fun u w => by unfold less1; rw [hm' u w, hm u w]⟩
theorem Plan.nears (h : Plan N adj) (u : Nat) : ∃ L : List Nat, L.Nodup ∧ ∀ w, w ∈ L ↔ adj u w := by
 obtain ⟨r, hP, hm⟩ := h
 refine ⟨(r.getD u []).map Int.toNat, ?_, fun w => ?_⟩
 ·by_cases hu : u < N
  ·have hn : (r.getD u []).Pairwise (· ≠ ·) := hP.1.nod u hu
   refine List.pairwise_map.2 ((List.Pairwise.and_mem.1 hn).imp fun {a b} hab e => ?_)
   obtain ⟨v, rfl, _⟩ := hP.1.both u hu a hab.1
   obtain ⟨v', rfl, _⟩ := hP.1.both u hu b hab.2.1
   exact hab.2.2 (by omega)
  ·rw [getD_nil_of (by rw [hP.1.len]; omega)]
   exact List.nodup_nil
 ·rw [hm u w, List.mem_map]
  constructor
  ·rintro ⟨z, hz, e⟩
   have hu : u < N := by
    by_cases hu : u < N
    ·exact hu
    ·rw [getD_nil_of (by rw [hP.1.len]; omega)] at hz
     simp at hz
   obtain ⟨v, rfl, _⟩ := hP.1.both u hu z hz
   have : v = w := by omega
   rw [← this]
   exact hz
  ·intro hw
   exact ⟨_, hw, by omega⟩
theorem Plan.few (h : Plan N adj) {a b : Nat} (hab : adj a b) : ∃ (u : Nat) (L : List Nat), (∃ w, adj u w) ∧ L.Nodup ∧ (∀ w, w ∈ L ↔ adj u w) ∧ L.length ≤ 5 := by
 have hh := h
 obtain ⟨r, hP, hm⟩ := h
 obtain ⟨u, hu, hne, hl⟩ := hP.few (w := a) (fun e => by have := (hm a b).1 hab; rw [e] at this; simp at this)
 obtain ⟨L, hL, hLm⟩ := hh.nears u
 obtain ⟨z, Z, e⟩ := List.exists_cons_of_ne_nil hne
 obtain ⟨v, rfl, _⟩ := hP.1.both u hu z (by rw [e]; simp)
 refine ⟨u, L, ⟨v, (hm u v).2 (by rw [e]; simp)⟩, hL, hLm, ?_⟩
 have : (L.map fun (z : Nat) => (z : Int)).length ≤ (r.getD u []).length := by
  refine nodup_le (List.pairwise_map.2 ((show L.Pairwise (· ≠ ·) from hL).imp fun {a b} hab e => hab (by omega))) fun z hz => ?_
  obtain ⟨w, hw, rfl⟩ := List.mem_map.1 hz
  exact (hm u w).1 ((hLm w).1 hw)
 rw [List.length_map] at this
 omega
theorem Plan.apart (h : Plan N adj) {v : Nat} {L : List Nat} (hL : L.Nodup) (hv : ∀ u ∈ L, adj v u) (h5 : L.length = 5) : ∃ x ∈ L, ∃ y ∈ L, x ≠ y ∧ ¬ adj x y := by
 refine Classical.byContradiction fun hno => ?_
 have hall : ∀ x ∈ L, ∀ y ∈ L, x ≠ y → adj x y := fun x hx y hy hne => Classical.byContradiction fun hn => hno ⟨x, hx, y, hy, hne, hn⟩
 have hvL : v ∉ L := fun hm => (h.lt (hv v hm)).2.2.1 rfl
 have hsy := fun {u w : Nat} (ha : adj u w) => (h.lt ha).2.2.2
 obtain ⟨r, hP, hm⟩ := h
 refine hP.six (K := v :: L) (List.nodup_cons.2 ⟨hvL, hL⟩) (by rw [List.length_cons, h5]) fun a ha b hb hab => (hm a b).1 ?_
 rcases List.mem_cons.1 ha with e1 | ha
 ·rcases List.mem_cons.1 hb with e2 | hb
  ·exact absurd (e1.trans e2.symm) hab
  ·rw [e1]; exact hv b hb
 ·rcases List.mem_cons.1 hb with e2 | hb
  ·rw [e2]; exact hsy (hv a ha)
  ·exact hall a ha b hb hab
theorem Plan.merge (h : Plan N adj) {v x y : Nat} (hx : adj v x) (hy : adj v y) (hxy : x ≠ y) (hno : ¬ adj x y) : Plan N (mrg (less1 adj v) x y) := by
 have hvx := h.lt hx
 have hvy := h.lt hy
 have hlt := fun {u w : Nat} (ha : adj u w) => h.lt ha
 obtain ⟨r, hP, hm⟩ := h
 obtain ⟨r', hP', hm'⟩ := hP.keep (fun u w => (u = v → w = x ∨ w = y) ∧ (w = v → u = x ∨ u = y) ∧ (u = x → w ≠ v → ¬ adj y w) ∧ (w = x → u ≠ v → ¬ adj y u)) (fun u w h => ⟨h.2.1, h.1, h.2.2.2, h.2.2.1⟩)
 have hm2 : ∀ u w : Nat, (w : Int) ∈ r'.getD u [] ↔ adj u w ∧ (u = v → w = x ∨ w = y) ∧ (w = v → u = x ∨ u = y) ∧ (u = x → w ≠ v → ¬ adj y w) ∧ (w = x → u ≠ v → ¬ adj y u) := fun u w => by rw [hm' u w, hm u w]
 have hxv : (v : Int) ∈ r'.getD x [] := (hm2 x v).2 ⟨hvx.2.2.2, fun _ => by omega, fun _ => .inl rfl, fun _ h => absurd rfl h, fun e => absurd e (by omega)⟩
 have hyv : (v : Int) ∈ r'.getD y [] := (hm2 y v).2 ⟨hvy.2.2.2, fun _ => by omega, fun _ => .inr rfl, fun _ h => absurd rfl h, fun e => absurd e (by omega)⟩
 obtain ⟨P, Q, eP⟩ := List.append_of_mem hxv
 obtain ⟨P2, Q2, eP2⟩ := List.append_of_mem hyv
 have hc : Con N r' v x y (Q ++ P) (Q2 ++ P2) := by
  refine ⟨hP'.1, hxy, ?_, ⟨P, Q, eP, rfl⟩, ⟨P2, Q2, eP2, rfl⟩, fun hh => hno ((hm2 x y).1 hh).1, fun u h1 h2 => ?_⟩
  ·refine (List.perm_ext_iff_of_nodup (hP'.1.nod v hvx.1) (by simp; omega)).2 fun z => ?_
   constructor
   ·intro hz
    obtain ⟨w, rfl, _⟩ := hP'.1.both v hvx.1 z hz
    have := ((hm2 v w).1 hz).2.1 rfl
    simp
    omega
   ·intro hz
    simp at hz
    rcases hz with rfl | rfl
    ·exact (hP'.1.lt hxv).2.2.2
    ·exact (hP'.1.lt hyv).2.2.2
  ·have := ((hm2 x u).1 h1).2.2.2.1 rfl
   by_cases e : u = v
   ·exact e
   ·exact absurd ((hm2 y u).1 h2).1 (this e)
 refine ⟨_, hP'.con hc, fun u w => ?_⟩
 constructor
 ·intro hh
  obtain ⟨h1, h2, h3⟩ := hh
  unfold less1 at h3
  have hu : u < N := by
   rcases h3 with h3 | ⟨h3, h4⟩ | ⟨h3, h4⟩
   ·exact (hlt h3.1).1
   ·rw [h3]; exact hvy.2.1
   ·exact (hlt h4.1).1
  rw [hc.mem hu]
  rcases h3 with ⟨h3, h4, h5⟩ | ⟨h3, h4, h5, h6⟩ | ⟨h3, h4, h5, h6⟩
  ·exact ⟨h4, h1, by omega, by omega, .inl ((hm2 u w).2 ⟨h3, fun e => absurd e h4, fun e => absurd e h5, fun e => absurd e h1, fun e => absurd e h2⟩)⟩
  ·subst h3
   refine ⟨by omega, h1, by omega, by omega, ?_⟩
   by_cases hcm : adj u w
   ·exact .inl ((hm2 u w).2 ⟨hcm, fun e => absurd e (by omega), fun e => absurd e h6, fun e => absurd e h1, fun e => absurd e h2⟩)
   ·exact .inr (.inl ⟨rfl, (hm2 x w).2 ⟨h4, fun e => absurd e h5, fun e => absurd e h6, fun _ _ => hcm, fun e => absurd e h2⟩⟩)
  ·subst h3
   refine ⟨h5, h1, by omega, by omega, ?_⟩
   by_cases hcm : adj w u
   ·have := (hlt hcm).2.2.2
    exact .inl ((hm2 u w).2 ⟨this, fun e => absurd e h5, fun e => absurd e (by omega), fun e => absurd e h1, fun e => absurd e h2⟩)
   ·exact .inr (.inr ⟨rfl, (hm2 u x).2 ⟨h4, fun e => absurd e h5, fun e => absurd e h6, fun e => absurd e h1, fun _ _ => hcm⟩⟩)
 ·intro hh
  have hu : u < N := by
   have := (hP'.con hc).1.lt hh
   exact this.1
  obtain ⟨h1, h2, h3, h4, h5⟩ := (hc.mem hu _).1 hh
  refine ⟨h2, by omega, ?_⟩
  unfold less1
  rcases h5 with h5 | ⟨h5, h6⟩ | ⟨h5, h6⟩
  ·exact .inl ⟨((hm2 u w).1 h5).1, h1, by omega⟩
  ·exact .inr (.inl ⟨h5, ((hm2 x w).1 h6).1, by omega, by omega⟩)
  ·exact .inr (.inr ⟨by omega, ((hm2 u x).1 h6).1, h1, by omega⟩)
end
end Go.Proofs.YtjpkojmjiaoifaaGreat
