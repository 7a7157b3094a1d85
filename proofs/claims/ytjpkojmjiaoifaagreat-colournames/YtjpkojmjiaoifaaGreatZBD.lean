import Derived.Test.YtjpkojmjiaoifaaGreatZAK
import Derived.Test.YtjpkojmjiaoifaaGreatZBC
import Derived.Test.YtjpkojmjiaoifaaGreatZAY
namespace Go.Proofs.YtjpkojmjiaoifaaGreat
open Go Go.Proofs Go.RowKit
theorem mark1_at (C : List Int) (v : Int) (T : List Int) (u : Int) {i : Nat} (hi : i < T.length) : (mark1 C v T u).getD i 0 = if 0 ≤ C.getD u.toNat 0 ∧ (C.getD u.toNat 0).toNat = i then v else T.getD i 0 := by
 unfold mark1
 generalize C.getD u.toNat 0 = x
 by_cases hx : 0 ≤ x
 ·rw [if_pos hx, List.getD_eq_getElem?_getD, List.getElem?_set]
  by_cases he : x.toNat = i
  ·subst he
   rw [if_pos rfl, if_pos hi, if_pos ⟨hx, rfl⟩]
   rfl
  ·rw [if_neg he, if_neg (fun h => he h.2), List.getD_eq_getElem?_getD]
 ·rw [if_neg hx, if_neg (fun h => hx h.1)]
theorem markT_at (C : List Int) (v : Int) : ∀ (near T : List Int), (∀ (i : Nat), i < T.length → T.getD i 0 ≠ v) → ∀ (i : Nat), i < T.length → ((markT C v T near).getD i 0 = v ↔ ∃ u ∈ near, 0 ≤ C.getD u.toNat 0 ∧ (C.getD u.toNat 0).toNat = i) := by
 intro near
 have key : ∀ (near T : List Int) (i : Nat), i < T.length → ((markT C v T near).getD i 0 = v ↔ T.getD i 0 = v ∨ ∃ u ∈ near, 0 ≤ C.getD u.toNat 0 ∧ (C.getD u.toNat 0).toNat = i) := by
  intro near
  induction near with
  | nil => intro T i hi; simp [markT]
  | cons u near ih =>
   intro T i hi
   have e : markT C v T (u :: near) = markT C v (mark1 C v T u) near := rfl
   rw [e, ih (mark1 C v T u) i (by rw [mark1_len]; exact hi), mark1_at C v T u hi]
   by_cases h : 0 ≤ C.getD u.toNat 0 ∧ (C.getD u.toNat 0).toNat = i
   ·rw [if_pos h]
    exact ⟨fun _ => .inr ⟨u, List.mem_cons_self, h⟩, fun _ => .inl rfl⟩
   ·rw [if_neg h]
    constructor
    ·rintro (h1 | ⟨x, hx, h2⟩)
     ·exact .inl h1
     ·exact .inr ⟨x, List.mem_cons_of_mem _ hx, h2⟩
    ·rintro (h1 | ⟨x, hx, h2⟩)
     ·exact .inl h1
     ·rcases List.mem_cons.1 hx with rfl | hx
      ·exact absurd h2 h
      ·exact .inr ⟨x, hx, h2⟩
 intro T hT i hi
 rw [key near T i hi]
 exact ⟨fun h => h.resolve_left (hT i hi), .inr⟩
theorem nodup_lenC : ∀ {A B : List Nat}, A.Nodup → (∀ x ∈ A, x ∈ B) → A.length ≤ B.length
 | [], _, _, _ => Nat.zero_le _
 | a :: A, B, hn, h => by
  have hn' := List.nodup_cons.1 hn
  have ha := h a List.mem_cons_self
  have := nodup_lenC (A := A) (B := B.erase a) hn'.2 (fun x hx => (List.mem_erase_of_ne (fun e : x = a => hn'.1 (by rw [← e]; exact hx))).2 (h x (List.mem_cons_of_mem _ hx)))
  rw [List.length_erase_of_mem ha] at this
  have hp := List.length_pos_of_mem ha
  simp only [List.length_cons]
  omega
structure LeastC (C near : List Int) (k : Nat) : Prop where
 none : ∀ u ∈ near, C.getD u.toNat 0 ≠ (k : Int)
 each : ∀ i, i < k → ∃ u ∈ near, C.getD u.toNat 0 = (i : Int)
theorem hue_ok {C T near : List Int} {v m : Nat} (hT : T.length = m) (hno : ∀ (i : Nat), i < T.length → T.getD i 0 ≠ (v : Int)) (hfew : near.length < m) : ∃ k : Nat, hueL C v T near = (k : Int) ∧ k < m ∧ LeastC C near k := by
 have hmk := markT_at C (v : Int) near T hno
 have hlen : (markT C (v : Int) T near).length = m := by rw [markT_len, hT]
 have hat : ∀ i (h : i < (markT C (v : Int) T near).length), (markT C (v : Int) T near).getD i 0 = (markT C (v : Int) T near)[i] := fun i h => by rw [List.getD_eq_getElem?_getD, List.getElem?_eq_getElem h]; rfl
 unfold hueL idxF
 cases hf : (markT C (v : Int) T near).findIdx? (fun t => t != (v : Int)) with
 | none =>
  exfalso
  rw [List.findIdx?_eq_none_iff] at hf
  have hall : ∀ i, i < m → i ∈ near.map (fun u => (C.getD u.toNat 0).toNat) := fun i hi => by
   have h1 := hf _ (List.getElem_mem (by rw [hlen]; exact hi : i < (markT C (v : Int) T near).length))
   have h2 : (markT C (v : Int) T near)[i]'(by rw [hlen]; exact hi) = (v : Int) := by simpa using h1
   rw [← hat i (by rw [hlen]; exact hi)] at h2
   obtain ⟨u, hu, _, e⟩ := (hmk i (by rw [hT]; exact hi)).1 h2
   exact List.mem_map.2 ⟨u, hu, e⟩
  have := nodup_lenC (A := List.range m) (B := near.map (fun u => (C.getD u.toNat 0).toNat)) List.nodup_range (fun x hx => hall x (List.mem_range.1 hx))
  rw [List.length_range, List.length_map] at this
  omega
 | some k =>
  rw [List.findIdx?_eq_some_iff_getElem] at hf
  obtain ⟨hk, hp, hlo⟩ := hf
  have hkm : k < m := by rw [hlen] at hk; exact hk
  have hne : (markT C (v : Int) T near).getD k 0 ≠ (v : Int) := by rw [hat k hk]; simpa using hp
  refine ⟨k, rfl, hkm, fun u hu e => ?_, fun i hi => ?_⟩
  ·exact hne ((hmk k (by rw [hT]; exact hkm)).2 ⟨u, hu, by omega, by omega⟩)
  ·have h1 := hlo i hi
   have h2 : (markT C (v : Int) T near)[i]'(by omega) = (v : Int) := by simpa using h1
   rw [← hat i (by omega)] at h2
   obtain ⟨u, hu, h3, e⟩ := (hmk i (by omega)).1 h2
   exact ⟨u, hu, by omega⟩
structure GS (m : Nat) (C T P : List Int) : Prop where
 len : T.length = m
 small : ∀ i : Nat, C.getD i 0 < m
 low : ∀ i : Nat, i < C.length → -1 ≤ C.getD i 0
 takers : ∀ i : Nat, i < T.length → T.getD i 0 = -1 ∨ T.getD i 0 ∈ P
theorem GS.start (n m : Nat) (hm : 0 < m) : GS m (List.replicate n (-1)) (List.replicate m (-1)) [] := by
 refine ⟨List.length_replicate .., fun i => ?_, fun i hi => ?_, fun i hi => .inl ?_⟩
 ·rw [List.getD_eq_getElem?_getD, List.getElem?_replicate]
  split <;> simp <;> omega
 ·rw [List.length_replicate] at hi
  rw [List.getD_eq_getElem?_getD, List.getElem?_replicate, if_pos hi]
  exact Int.le_refl _
 ·rw [List.length_replicate] at hi
  rw [List.getD_eq_getElem?_getD, List.getElem?_replicate, if_pos hi]
  rfl
theorem markT_was (C : List Int) (v : Int) (P : List Int) : ∀ (near T : List Int), (∀ i : Nat, i < T.length → T.getD i 0 = -1 ∨ T.getD i 0 ∈ P ∨ T.getD i 0 = v) → ∀ i : Nat, i < T.length → (markT C v T near).getD i 0 = -1 ∨ (markT C v T near).getD i 0 ∈ P ∨ (markT C v T near).getD i 0 = v := by
 intro near
 induction near with
 | nil => intro T h i hi; exact h i hi
 | cons u near ih =>
  intro T h i hi
  have e : markT C v T (u :: near) = markT C v (mark1 C v T u) near := rfl
  rw [e]
  refine ih (mark1 C v T u) (fun j hj => ?_) i (by rw [mark1_len]; exact hi)
  rw [mark1_len] at hj
  rw [mark1_at C v T u hj]
  split
  ·exact .inr (.inr rfl)
  ·exact h j hj
theorem GS.fresh {m : Nat} {C T P : List Int} (h : GS m C T P) {v : Nat} (hv : (v : Int) ∉ P) : ∀ i : Nat, i < T.length → T.getD i 0 ≠ (v : Int) := fun i hi e => by
 rcases h.takers i hi with h1 | h1
 ·omega
 ·exact hv (e ▸ h1)
theorem GS.paint {m : Nat} {C T P near : List Int} (h : GS m C T P) {v : Nat} (hv : (v : Int) ∉ P) (hfew : near.length < m) : GS m (C.set v (hueL C v T near)) (markT C (v : Int) T near) (P ++ [(v : Int)]) := by
 obtain ⟨k, hk, hkm, _⟩ := hue_ok h.len (h.fresh hv) hfew
 rw [hk]
 have hset : ∀ i : Nat, (C.set v (k : Int)).getD i 0 = if v = i ∧ i < C.length then (k : Int) else C.getD i 0 := fun i => by
  rw [List.getD_eq_getElem?_getD, List.getElem?_set]
  by_cases e : v = i
  ·subst e
   by_cases hl : v < C.length
   ·rw [if_pos rfl, if_pos hl, if_pos ⟨rfl, hl⟩]; rfl
   ·rw [if_pos rfl, if_neg hl, if_neg (fun h => hl h.2), List.getD_eq_getElem?_getD, List.getElem?_eq_none (by omega)]
  ·rw [if_neg e, if_neg (fun h => e h.1), List.getD_eq_getElem?_getD]
 refine ⟨by rw [markT_len]; exact h.len, fun i => ?_, fun i hi => ?_, fun i hi => ?_⟩
 ·rw [hset i]
  split
  ·omega
  ·exact h.small i
 ·rw [hset i]
  split
  ·omega
  ·exact h.low i (by rw [List.length_set] at hi; exact hi)
 ·rw [markT_len] at hi
  rcases markT_was C (v : Int) P near T (fun j hj => (h.takers j hj).imp_right .inl) i hi with h1 | h1 | h1
  ·exact .inl h1
  ·exact .inr (List.mem_append_left _ h1)
  ·exact .inr (by rw [h1]; simp)
end Go.Proofs.YtjpkojmjiaoifaaGreat

namespace Go.Proofs.YtjpkojmjiaoifaaGreat
open Go Go.Proofs Go.RowKit Go.Maps
theorem file_grows {F : List (List Int)} {d : Nat} {k x : Int} {e : Nat} (h : x ∈ F.getD e []) : x ∈ (fileF F d k).getD e [] := by
 unfold fileF
 split
 ·by_cases hd : d = e
  ·subst hd
   by_cases hl : d < F.length
   ·rw [getD_set_self hl]
    exact List.mem_append_left _ h
   ·rw [List.getD_eq_getElem?_getD, List.getElem?_eq_none (by omega)] at h
    cases h
  ·rw [getD_set_other hd]
   exact h
 ·exact h
theorem file_has {F : List (List Int)} {d : Nat} {k : Int} (hF : F.length = 6) (hd : d ≤ 5) : k ∈ (fileF F d k).getD d [] := by
 unfold fileF
 rw [if_pos hd, getD_set_self (by omega)]
 simp
theorem file_len {F : List (List Int)} {d : Nat} {k : Int} : (fileF F d k).length = F.length := by
 unfold fileF
 split <;> simp
theorem dropF_all (v : Int) : ∀ (L : List Int) (q : List (Option (List Int)) × List (List Int)), L.Nodup → q.2.length = 6 → (∀ u ∈ L, ∃ (i : Nat) (T : List Int), u = (i : Int) ∧ q.1[i]? = some (some T)) →
  (∀ j : Nat, (L.foldl (drop1 v) q).1[j]? = if (j : Int) ∈ L then (q.1[j]?).map (Option.map fun T => T.erase v) else q.1[j]?) ∧
  (∀ (e : Nat) (x : Int), x ∈ q.2.getD e [] → x ∈ (L.foldl (drop1 v) q).2.getD e []) ∧
  (∀ (j : Nat) (T : List Int), (j : Int) ∈ L → (L.foldl (drop1 v) q).1[j]? = some (some T) → T.length ≤ 5 → (j : Int) ∈ (L.foldl (drop1 v) q).2.getD T.length [])
 | [], q, _, _, _ => ⟨fun j => by simp, fun e x h => h, fun j T h => by cases h⟩
 | u :: L, q, hn, h6, hu => by
  obtain ⟨hun, hn'⟩ := List.nodup_cons.1 hn
  obtain ⟨i, T0, rfl, hi⟩ := hu u List.mem_cons_self
  have hil := (List.getElem?_eq_some_iff.1 hi).1
  have hq : drop1 v q (i : Int) = (q.1.set i (some (T0.erase v)), fileF q.2 (T0.erase v).length (i : Int)) := by
   unfold drop1 nbN
   simp [hi]
  obtain ⟨h1, h2, h3⟩ := dropF_all v L (drop1 v q (i : Int)) hn' (by rw [hq]; show (fileF q.2 _ _).length = 6; rw [file_len]; exact h6) (fun x hx => by
   obtain ⟨j, T, rfl, hj⟩ := hu x (List.mem_cons_of_mem _ hx)
   have hne : i ≠ j := fun e => hun (by rw [e]; exact hx)
   exact ⟨j, T, rfl, by rw [hq]; show (q.1.set i _)[j]? = _; rw [List.getElem?_set_ne hne]; exact hj⟩)
  refine ⟨fun j => ?_, fun e x hx => ?_, fun j T hj hT h5 => ?_⟩
  ·rw [List.foldl_cons, h1 j, hq]
   show (if (j : Int) ∈ L then ((q.1.set i (some (T0.erase v)))[j]?).map (Option.map fun T => T.erase v) else (q.1.set i (some (T0.erase v)))[j]?) = _
   by_cases e : i = j
   ·subst e
    rw [if_neg hun, if_pos List.mem_cons_self, List.getElem?_set_self hil, hi]
    rfl
   ·rw [List.getElem?_set_ne e]
    by_cases hj : (j : Int) ∈ L
    ·rw [if_pos hj, if_pos (List.mem_cons_of_mem _ hj)]
    ·rw [if_neg hj, if_neg (fun hm => by
      rcases List.mem_cons.1 hm with h | h
      ·exact e (by omega)
      ·exact hj h)]
  ·rw [List.foldl_cons]
   refine h2 e x ?_
   rw [hq]
   exact file_grows hx
  ·rw [List.foldl_cons] at hT ⊢
   rcases List.mem_cons.1 hj with h | h
   ·have e : j = i := by omega
    subst e
    rw [h1 j, if_neg hun, hq] at hT
    have hT' : (q.1.set j (some (T0.erase v)))[j]? = some (some T) := hT
    rw [List.getElem?_set_self hil] at hT'
    simp only [Option.some.injEq] at hT'
    subst hT'
    refine h2 _ _ ?_
    rw [hq]
    exact file_has h6 h5
   ·exact h3 j T h hT h5
def leftL (N : List (Option (List Int))) : List Nat := (List.range N.length).filter fun v => (N.getD v none).isSome
def adjN (N : List (Option (List Int))) (a b : Nat) : Prop := ∃ S, N[a]? = some (some S) ∧ (b : Int) ∈ S
theorem mem_left {N : List (Option (List Int))} {v : Nat} : v ∈ leftL N ↔ ∃ S, N[v]? = some (some S) := by
 unfold leftL
 rw [List.mem_filter, List.mem_range, List.getD_eq_getElem?_getD]
 constructor
 ·rintro ⟨h1, h2⟩
  rw [List.getElem?_eq_getElem h1] at h2 ⊢
  cases h : N[v] with
  | none => rw [h] at h2; cases h2
  | some S => exact ⟨S, rfl⟩
 ·rintro ⟨S, h⟩
  exact ⟨(List.getElem?_eq_some_iff.1 h).1, by rw [h]; rfl⟩
theorem left_nodup (N : List (Option (List Int))) : (leftL N).Nodup := List.nodup_range.filter _
theorem revS_cons (s : StpM) (ss : List StpM) : revS (s :: ss) = revS ss ++ [(s.1, s.2.2)] := by simp [revS]
theorem undS_snoc (n : Nat) (R : List (Int × List Int × Int)) (s : Int × List Int × Int) : undS n (R ++ [s]) = und1 (undS n R) s := by unfold undS; rw [List.foldl_append]; rfl
theorem undS_len (n : Nat) : ∀ R, (undS n R).1.length = n := by
 intro R
 unfold undS
 have key : ∀ (R : List (Int × List Int × Int)) (q : List Int × List Int), (R.foldl und1 q).1.length = q.1.length := by
  intro R
  induction R with
  | nil => intro q; rfl
  | cons s R ih =>
   intro q
   rw [List.foldl_cons, ih]
   unfold und1
   split <;> simp
 rw [key]
 simp
end Go.Proofs.YtjpkojmjiaoifaaGreat

namespace Go.Proofs.YtjpkojmjiaoifaaGreat
open Go Go.Proofs
def stepF (nx : Dt → Dt) (fuel : Nat) (s : List (List Dt) × List Dt) (d : Dt) : List (List Dt) × List Dt := if s.2.contains d then s else (s.1 ++ [orb nx d fuel d], s.2 ++ orb nx d fuel d)
def foldF (nx : Dt → Dt) (fuel : Nat) (starts : List Dt) : List (List Dt) × List Dt := starts.foldl (stepF nx fuel) ([], [])
theorem foldF_snoc (nx : Dt → Dt) (fuel : Nat) (starts : List Dt) (d : Dt) : foldF nx fuel (starts ++ [d]) = stepF nx fuel (foldF nx fuel starts) d := by
 unfold foldF
 rw [List.foldl_append]
 rfl
theorem rounds_fold (nx : Dt → Dt) (fuel : Nat) (starts : List Dt) : ∀ {j : Nat}, j ≤ starts.length → roundsAt nx fuel starts j = foldF nx fuel (starts.take j)
 | 0, _ => rfl
 | j + 1, h => by
  have hj : j < starts.length := by omega
  have e : starts.getD j (0, 0) = starts[j] := by rw [List.getD_eq_getElem?_getD, List.getElem?_eq_getElem hj]; rfl
  rw [roundsAt, e, rounds_fold nx fuel starts (by omega : j ≤ starts.length), List.take_add_one, List.getElem?_eq_getElem hj]
  show _ = foldF nx fuel (starts.take j ++ [starts[j]])
  rw [foldF_snoc]
  rfl
theorem orb_len (nx : Dt → Dt) (d : Dt) : ∀ (k : Nat) (x : Dt), (orb nx d k x).length ≤ k
 | 0, _ => by simp [orb]
 | k + 1, x => by
  rw [orb]
  split
  ·simp
  ·have := orb_len nx d k (nx x)
   simp
   omega
theorem foldF_few (nx : Dt → Dt) (fuel : Nat) (starts : List Dt) : (foldF nx fuel starts).1.length ≤ starts.length ∧ (foldF nx fuel starts).2.length ≤ starts.length * fuel := by
 have aux : ∀ (L : List Dt) (s : List (List Dt) × List Dt), (L.foldl (stepF nx fuel) s).1.length ≤ s.1.length + L.length ∧ (L.foldl (stepF nx fuel) s).2.length ≤ s.2.length + L.length * fuel := by
  intro L
  induction L with
  | nil => intro s; simp
  | cons d L ih =>
   intro s
   rw [List.foldl_cons]
   have h1 := ih (stepF nx fuel s d)
   have h2 : (stepF nx fuel s d).1.length ≤ s.1.length + 1 ∧ (stepF nx fuel s d).2.length ≤ s.2.length + fuel := by
    unfold stepF
    split
    ·exact ⟨by omega, by omega⟩
    ·have := orb_len nx d fuel d
     simp
     omega
   rw [List.length_cons, Nat.succ_mul]
   omega
 have := aux starts ([], [])
 unfold foldF
 simpa using this
theorem dartsL_next (l : List Ed) (j : Nat) : dartsL (j + 1) l = dartsL j l ++ (nb l (j : Int)).map fun v => ((j : Int), v) := by
 unfold dartsL
 rw [List.range_succ, List.flatMap_append]
 simp
theorem Going.any2 {nx : Dt → Dt} {S starts : List Dt} {F : Nat} {left : List Dt} {d : Dt} {j : Nat} (h : Going nx S starts F left [] d j) (d' : Dt) : Going nx S starts F left [] d' j := ⟨h.shut, h.nodup, h.all, h.len, fun e => absurd rfl e⟩
section
variable {N : Nat} {l : List Ed} {r : List (List Int)}
def stsAt (l : List Ed) (u v : Nat) : List Dt := dartsL u l ++ ((nb l (u : Int)).filter fun x => decide (x < (v : Int))).map fun x => ((u : Int), x)
theorem stsAt_zero (hR : RightG (N : Int) l) (u : Nat) : stsAt l u 0 = dartsL u l := by
 unfold stsAt
 have : (nb l (u : Int)).filter (fun x => decide (x < ((0 : Nat) : Int))) = [] := by
  rw [List.filter_eq_nil_iff]
  intro x hx
  have := (nb_mutual hR hx).2.1
  simp
  omega
 rw [this]
 simp
theorem stsAt_full (hR : RightG (N : Int) l) (u : Nat) : stsAt l u N = dartsL (u + 1) l := by
 unfold stsAt
 have : (nb l (u : Int)).filter (fun x => decide (x < (N : Int))) = nb l (u : Int) := by
  rw [List.filter_eq_self]
  intro x hx
  have := (nb_mutual hR hx).2.2.1
  simp
  omega
 rw [this, dartsL_next]
theorem filter_lt_mem : ∀ {L : List Int}, L.Pairwise (· < ·) → ∀ {v : Nat}, (v : Int) ∈ L → L.filter (fun x => decide (x < ((v + 1 : Nat) : Int))) = L.filter (fun x => decide (x < (v : Int))) ++ [(v : Int)]
 | [], _, v, h => by simp at h
 | a :: L, hp, v, h => by
  rw [List.pairwise_cons] at hp
  rcases List.mem_cons.1 h with e | h
  ·have h1 : L.filter (fun x => decide (x < ((v + 1 : Nat) : Int))) = [] := by
    rw [List.filter_eq_nil_iff]
    intro x hx
    have := hp.1 x hx
    simp
    omega
   have h2 : L.filter (fun x => decide (x < (v : Int))) = [] := by
    rw [List.filter_eq_nil_iff]
    intro x hx
    have := hp.1 x hx
    simp
    omega
   rw [List.filter_cons_of_pos (by simp; omega), List.filter_cons_of_neg (by simp; omega), h1, h2, ← e]
   rfl
  ·have := hp.1 _ h
   rw [List.filter_cons_of_pos (by simp; omega), List.filter_cons_of_pos (by simp; omega), filter_lt_mem hp.2 h]
   rfl
theorem filter_lt_not {L : List Int} {v : Nat} (h : (v : Int) ∉ L) : L.filter (fun x => decide (x < ((v + 1 : Nat) : Int))) = L.filter (fun x => decide (x < (v : Int))) := by
 refine List.filter_congr fun x hx => ?_
 have : x ≠ (v : Int) := fun e => h (by rw [← e]; exact hx)
 by_cases h1 : x < (v : Int)
 ·rw [decide_eq_true h1, decide_eq_true (by omega)]
 ·rw [decide_eq_false h1, decide_eq_false (by omega)]
theorem stsAt_mem (hR : RightG (N : Int) l) {u v : Nat} (h : (v : Int) ∈ nb l (u : Int)) : stsAt l u (v + 1) = stsAt l u v ++ [((u : Int), (v : Int))] := by
 unfold stsAt
 rw [filter_lt_mem (nb_rise hR _) h, List.map_append, List.append_assoc]
 rfl
theorem stsAt_not {u v : Nat} (h : (v : Int) ∉ nb l (u : Int)) : stsAt l u (v + 1) = stsAt l u v := by
 unfold stsAt
 rw [filter_lt_not h]
def stF (l : List Ed) (r : List (List Int)) (u v : Nat) : List (List Dt) × List Dt := foldF (nxD r) (2 * l.length + 1) (stsAt l u v)
theorem stF_zero (hR : RightG (N : Int) l) (r : List (List Int)) : stF l r 0 0 = ([], []) := by
 unfold stF
 rw [stsAt_zero hR]
 rfl
theorem stF_full (hR : RightG (N : Int) l) (r : List (List Int)) (u : Nat) : stF l r u N = stF l r (u + 1) 0 := by
 unfold stF
 rw [stsAt_zero hR, stsAt_full hR]
theorem stF_mem (hR : RightG (N : Int) l) {u v : Nat} (h : (v : Int) ∈ nb l (u : Int)) : stF l r u (v + 1) = stepF (nxD r) (2 * l.length + 1) (stF l r u v) ((u : Int), (v : Int)) := by
 unfold stF
 rw [stsAt_mem hR h, foldF_snoc]
theorem stF_not {u v : Nat} (h : (v : Int) ∉ nb l (u : Int)) : stF l r u (v + 1) = stF l r u v := by
 unfold stF
 rw [stsAt_not h]
theorem dartsL_deg (l : List Ed) : ∀ j, (dartsL j l).length = degS l j
 | 0 => by simp [dartsL, degS]
 | j + 1 => by
  rw [dartsL_next, List.length_append, List.length_map, dartsL_deg l j]
  rfl
theorem stsAt_few (hR : RightG (N : Int) l) {u v : Nat} (hu : u ≤ N) : (stsAt l u v).length ≤ 3 * l.length := by
 unfold stsAt
 rw [List.length_append, List.length_map, dartsL_deg]
 have h1 := degS_le (l := l) hu
 have h2 : degS l N = 2 * l.length := degS_all (fun e he => (hR.each e he).1)
 have h3 := List.length_filter_le (fun x => decide (x < (v : Int))) (nb l (u : Int))
 have h4 := nb_len (u : Int) l
 omega
theorem stF_few (hR : RightG (N : Int) l) (r : List (List Int)) {u v : Nat} (hu : u ≤ N) : (stF l r u v).1.length ≤ 3 * l.length ∧ (stF l r u v).2.length ≤ 3 * l.length * (2 * l.length + 1) := by
 have h1 := stsAt_few hR (v := v) hu
 have h2 := foldF_few (nxD r) (2 * l.length + 1) (stsAt l u v)
 exact ⟨Nat.le_trans h2.1 h1, Nat.le_trans h2.2 (Nat.mul_le_mul_right _ h1)⟩
end
section
variable {nx : Dt → Dt} {S starts : List Dt} {fuel : Nat}
def Rnd (nx : Dt → Dt) (f : List Dt) : Prop := f ≠ [] ∧ ∃ d, Way nx d d f
theorem going_round (hP : PermS nx S) {j : Nat} {left face : List Dt} {d : Dt} (h : Going nx S starts fuel left face d j) (hf : face ≠ []) (hd : d ∉ left) (hdS : d ∈ S) : ∃ d, Way nx d d face := by
 have hw := h.way hf
 have hnd := (List.nodup_append.1 h.nodup).2.1
 have hnf : face.Nodup := (List.nodup_append.1 hnd).1
 have hap : ∀ y ∈ face, y ∉ (roundsAt nx fuel starts j).2 := fun y hy hy' => (List.nodup_append.1 hnd).2.2 y hy y hy' rfl
 have hsub : ∀ y ∈ face, y ∈ S := fun y hy => (h.all y).2 (.inr (.inl hy))
 have hdm : d ∈ (roundsAt nx fuel starts j).2 ∨ d ∈ face := by
  rcases (h.all d).1 hdS with h1 | h1 | h1
  ·exact absurd h1 hd
  ·exact .inr h1
  ·exact .inl h1
 have e := Way.round hP h.shut hf hw hsub hnf hap hdm
 rw [← e] at hw
 exact ⟨d, hw⟩
theorem going_step (hP : PermS nx S) (hfu : S.length ≤ fuel) {j : Nat} : ∀ (n : Nat) {left face : List Dt} {d : Dt}, left.length ≤ n → Going nx S starts fuel left face d j → d ∈ S → (face = [] → d = starts.getD j (0, 0)) → ∃ left', Going nx S starts fuel left' [] (0, 0) (j + 1) ∧ ∀ f ∈ (roundsAt nx fuel starts (j + 1)).1, f ∈ (roundsAt nx fuel starts j).1 ∨ Rnd nx f := by
 intro n
 induction n with
 | zero =>
  intro left face d hn hG hd h0
  have hl : left = [] := List.eq_nil_of_length_eq_zero (by omega)
  have hdl : d ∉ left := by rw [hl]; simp
  by_cases hf : face = []
  ·subst hf
   obtain ⟨e1, e2⟩ := hG.skip hdl hd (h0 rfl) (0, 0)
   exact ⟨left, e2, fun f hm => .inl (by rw [e1] at hm; exact hm)⟩
  ·obtain ⟨e1, e2⟩ := hG.done hP hf hdl hd hfu (0, 0)
   exact ⟨left, e2, fun f hm => by
    rw [e1] at hm
    rcases List.mem_append.1 hm with h1 | h1
    ·exact .inl h1
    ·rw [List.mem_singleton.1 h1]
     exact .inr ⟨hf, going_round hP hG hf hdl hd⟩⟩
 | succ n ih =>
  intro left face d hn hG hd h0
  by_cases hdl : d ∈ left
  ·have h1 := hG.take hdl h0
   refine ih ?_ h1 (hP.mem d hd) (fun e => by simp at e)
   rw [List.length_erase_of_mem hdl]
   omega
  ·by_cases hf : face = []
   ·subst hf
    obtain ⟨e1, e2⟩ := hG.skip hdl hd (h0 rfl) (0, 0)
    exact ⟨left, e2, fun f hm => .inl (by rw [e1] at hm; exact hm)⟩
   ·obtain ⟨e1, e2⟩ := hG.done hP hf hdl hd hfu (0, 0)
    exact ⟨left, e2, fun f hm => by
     rw [e1] at hm
     rcases List.mem_append.1 hm with h1 | h1
     ·exact .inl h1
     ·rw [List.mem_singleton.1 h1]
      exact .inr ⟨hf, going_round hP hG hf hdl hd⟩⟩
theorem going_all (hP : PermS nx S) (hn : S.Nodup) (hfu : S.length ≤ fuel) (hst : ∀ d ∈ starts, d ∈ S) : ∀ {j : Nat}, j ≤ starts.length → (∃ left, Going nx S starts fuel left [] (0, 0) j) ∧ ∀ f ∈ (roundsAt nx fuel starts j).1, Rnd nx f
 | 0, _ => ⟨⟨S, Going.start hn _ _ _⟩, fun f h => by simp [roundsAt] at h⟩
 | j + 1, h => by
  obtain ⟨⟨left, hG⟩, hr⟩ := going_all hP hn hfu hst (by omega : j ≤ starts.length)
  have hj : j < starts.length := by omega
  have hm : starts.getD j (0, 0) ∈ S := by
   rw [List.getD_eq_getElem?_getD, List.getElem?_eq_getElem hj]
   exact hst _ (List.getElem_mem hj)
  obtain ⟨left', hG', hr'⟩ := going_step hP hfu left.length (Nat.le_refl _) (hG.any2 (starts.getD j (0, 0))) hm (fun _ => rfl)
  exact ⟨⟨left', hG'⟩, fun f hf => (hr' f hf).elim (hr f) id⟩
theorem rounds_flat : ∀ j, (roundsAt nx fuel starts j).1.flatten = (roundsAt nx fuel starts j).2
 | 0 => rfl
 | j + 1 => by
  rw [roundsAt]
  split
  ·exact rounds_flat j
  ·simp [rounds_flat j]
theorem rounds_grow (j : Nat) : ∀ x ∈ (roundsAt nx fuel starts j).2, x ∈ (roundsAt nx fuel starts (j + 1)).2 := by
 intro x hx
 rw [roundsAt]
 split
 ·exact hx
 ·exact List.mem_append_left _ hx
theorem rounds_start (hf : 0 < fuel) (j : Nat) : starts.getD j (0, 0) ∈ (roundsAt nx fuel starts (j + 1)).2 := by
 rw [roundsAt]
 split
 ·rename_i h
  simpa using h
 ·refine List.mem_append_right _ ?_
  match fuel, hf with
  | k + 1, _ => rw [orb]; exact List.mem_cons_self ..
theorem rounds_starts (hf : 0 < fuel) : ∀ (k j : Nat), j < k → starts.getD j (0, 0) ∈ (roundsAt nx fuel starts k).2
 | k + 1, j, h => by
  by_cases e : j = k
  ·subst e; exact rounds_start hf j
  ·exact rounds_grow k _ (rounds_starts hf k j (by omega))
theorem way_at {d : Dt} : ∀ {x : Dt} {L : List Dt}, Way nx d x L → ∀ (j : Nat) (h : j + 1 < L.length), nx L[j] = L[j + 1]
 | x, [], _, j, h => by simp at h
 | x, [y], _, j, h => by simp at h
 | x, y :: z :: L, hw, 0, h => by
  obtain ⟨rfl, h2⟩ := hw
  exact h2.1
 | x, y :: z :: L, hw, j + 1, h => by
  have := way_at hw.2 j (by simpa using h)
  simpa using this
theorem way_end {d : Dt} : ∀ {x : Dt} {L : List Dt}, Way nx d x L → ∀ (j : Nat) (h : j + 1 = L.length), nx (L[j]'(by omega)) = d
 | x, [], _, j, h => by simp at h
 | x, [y], hw, j, h => by
  have : j = 0 := by simpa using h
  subst this
  obtain ⟨rfl, h2⟩ := hw
  exact h2
 | x, y :: z :: L, hw, 0, h => by simp at h
 | x, y :: z :: L, hw, j + 1, h => by
  have := way_end hw.2 j (by simpa using h)
  simpa using this
theorem Rnd.at {f : List Dt} (h : Rnd nx f) (j : Nat) (hj : j < f.length) : nx f[j] = f[(j + 1) % f.length]'(Nat.mod_lt _ (by omega)) := by
 obtain ⟨hne, d, hw⟩ := h
 by_cases e : j + 1 = f.length
 ·rw [way_end hw j e]
  match f, hne, hw with
  | y :: L, _, hw =>
   have e2 : (j + 1) % (y :: L).length = 0 := by rw [e, Nat.mod_self]
   simp only [e2]
   exact hw.1
 ·have e2 : (j + 1) % f.length = j + 1 := Nat.mod_eq_of_lt (by omega)
  simp only [e2]
  exact way_at hw j (by omega)
end
end Go.Proofs.YtjpkojmjiaoifaaGreat
