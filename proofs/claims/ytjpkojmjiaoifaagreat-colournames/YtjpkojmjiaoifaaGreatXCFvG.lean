import Derived.Test.YtjpkojmjiaoifaaGreatZBD
import Derived.Test.YtjpkojmjiaoifaaGreatXCPlE
namespace Go.Proofs.YtjpkojmjiaoifaaGreat
open Go Go.Proofs Go.RowKit
def conv (s : StpM) : Stp5 := (s.1.toNat, s.2.2.1.map Int.toNat, if s.2.2.2 < 0 then none else some s.2.2.2.toNat)
def insS (S : List Int) (y : Int) : List Int := if y ∈ S then S else S ++ [y]
theorem insS_mem {S : List Int} {y z : Int} : z ∈ insS S y ↔ z ∈ S ∨ z = y := by
 unfold insS
 by_cases h : y ∈ S
 ·rw [if_pos h]
  exact ⟨.inl, fun h1 => h1.elim id (fun e => by rw [e]; exact h)⟩
 ·rw [if_neg h]
  simp
theorem insS_nodup {S : List Int} {y : Int} (h : S.Nodup) : (insS S y).Nodup := by
 unfold insS
 by_cases hy : y ∈ S
 ·rw [if_pos hy]; exact h
 ·rw [if_neg hy, List.nodup_append]
  exact ⟨h, by simp, fun a ha b hb => by simp at hb; subst hb; exact fun q => hy (q ▸ ha)⟩
theorem insF_mem : ∀ (L S : List Int) (z : Int), z ∈ L.foldl insS S ↔ z ∈ S ∨ z ∈ L
 | [], S, z => by simp
 | u :: L, S, z => by
  rw [List.foldl_cons, insF_mem L, insS_mem, List.mem_cons]
  constructor
  ·rintro ((h | h) | h)
   ·exact .inl h
   ·exact .inr (.inl h)
   ·exact .inr (.inr h)
  ·rintro (h | h | h)
   ·exact .inl (.inl h)
   ·exact .inl (.inr h)
   ·exact .inr h
theorem insF_nodup : ∀ (L : List Int) {S : List Int}, S.Nodup → (L.foldl insS S).Nodup
 | [], _, h => h
 | _ :: L, _, h => insF_nodup L (insS_nodup h)
def mrg1 (x y : Int) (q : List (Option (List Int)) × List (List Int)) (u : Int) : List (Option (List Int)) × List (List Int) :=
 ((q.1.set u.toNat (some (insS ((nbN q.1 u).erase x) y))).set y.toNat (some (insS (nbN q.1 y) u)), fileF q.2 (insS ((nbN q.1 u).erase x) y).length u)
def mrgF (x y : Int) (L : List Int) (N : List (Option (List Int))) (F : List (List Int)) : List (Option (List Int)) × List (List Int) := L.foldl (mrg1 x y) (N.set x.toNat none, F)
def mrgQ (x y : Int) (L : List Int) (N : List (Option (List Int))) (F : List (List Int)) : List (Option (List Int)) × List (List Int) := ((mrgF x y L N F).1, fileF (mrgF x y L N F).2 (nbN (mrgF x y L N F).1 y).length y)
theorem mrg1_len (x y : Int) (q : List (Option (List Int)) × List (List Int)) (u : Int) : (mrg1 x y q u).1.length = q.1.length := by unfold mrg1; simp
theorem mrgF_len (x y : Int) : ∀ (L : List Int) (q : List (Option (List Int)) × List (List Int)), (L.foldl (mrg1 x y) q).1.length = q.1.length
 | [], _ => rfl
 | u :: L, q => by rw [List.foldl_cons, mrgF_len x y L, mrg1_len]
theorem mrgF_take (x y : Int) (L : List Int) (q : List (Option (List Int)) × List (List Int)) {i : Nat} (h : i < L.length) : (L.take (i + 1)).foldl (mrg1 x y) q = mrg1 x y ((L.take i).foldl (mrg1 x y) q) L[i] := by
 rw [List.take_add_one, List.getElem?_eq_getElem h, List.foldl_append]
 rfl
theorem mrgF_fv (x y : Int) {n : Nat} : ∀ (L : List Int) (q : List (Option (List Int)) × List (List Int)) {m : Nat}, (∀ u ∈ L, ∃ k : Nat, u = (k : Int) ∧ k < n) → FV n m q.2 → FV n (m + L.length) (L.foldl (mrg1 x y) q).2
 | [], _, _, _, h => h
 | u :: L, q, m, hu, h => by
  obtain ⟨k, rfl, hk⟩ := hu u List.mem_cons_self
  rw [List.foldl_cons, List.length_cons, Nat.add_comm L.length 1, ← Nat.add_assoc]
  exact mrgF_fv x y L _ (fun x hx => hu x (List.mem_cons_of_mem _ hx)) (h.file hk)
theorem mrgF_all (x : Int) (y : Nat) : ∀ (L : List Int) (q : List (Option (List Int)) × List (List Int)), L.Nodup → q.2.length = 6 → (y : Int) ∉ L → (∀ u ∈ L, ∃ (i : Nat) (T : List Int), u = (i : Int) ∧ q.1[i]? = some (some T)) → (∃ Ty, q.1[y]? = some (some Ty)) →
  (∀ j : Nat, (L.foldl (mrg1 x y) q).1[j]? = if (j : Int) ∈ L then (q.1[j]?).map (Option.map fun T => insS (T.erase x) y) else if j = y then (q.1[j]?).map (Option.map fun T => L.foldl insS T) else q.1[j]?) ∧
  (∀ (e : Nat) (z : Int), z ∈ q.2.getD e [] → z ∈ (L.foldl (mrg1 x y) q).2.getD e []) ∧
  (∀ (j : Nat) (T : List Int), (j : Int) ∈ L → (L.foldl (mrg1 x y) q).1[j]? = some (some T) → T.length ≤ 5 → (j : Int) ∈ (L.foldl (mrg1 x y) q).2.getD T.length [])
 | [], q, _, _, _, _, _ => ⟨fun j => by
   rw [if_neg (by simp)]
   show q.1[j]? = if j = y then (q.1[j]?).map (Option.map fun T => T) else q.1[j]?
   split
   ·cases q.1[j]? with
    | none => rfl
    | some o => cases o <;> rfl
   ·rfl, fun e z h => h, fun j T h => by cases h⟩
 | u :: L, q, hn, h6, hyL, hu, hy => by
  obtain ⟨hun, hn'⟩ := List.nodup_cons.1 hn
  obtain ⟨i, T0, rfl, hi⟩ := hu u List.mem_cons_self
  obtain ⟨Ty, hTy⟩ := hy
  have hil := (List.getElem?_eq_some_iff.1 hi).1
  have hyl := (List.getElem?_eq_some_iff.1 hTy).1
  have hyi : y ≠ i := fun e => hyL (by rw [e]; exact List.mem_cons_self)
  have hyL' : (y : Int) ∉ L := fun h => hyL (List.mem_cons_of_mem _ h)
  have hq : mrg1 x y q (i : Int) = ((q.1.set i (some (insS (T0.erase x) y))).set y (some (insS Ty (i : Int))), fileF q.2 (insS (T0.erase x) y).length (i : Int)) := by
   unfold mrg1 nbN
   simp [hi, hTy]
  have hset : ∀ j : Nat, (mrg1 x y q (i : Int)).1[j]? = if j = y then some (some (insS Ty (i : Int))) else if j = i then some (some (insS (T0.erase x) y)) else q.1[j]? := fun j => by
   rw [hq]
   show ((q.1.set i (some (insS (T0.erase x) y))).set y (some (insS Ty (i : Int))))[j]? = _
   by_cases e : j = y
   ·subst e
    rw [if_pos rfl, List.getElem?_set_self (by rw [List.length_set]; exact hyl)]
   ·rw [if_neg e, List.getElem?_set_ne (Ne.symm e)]
    by_cases e2 : j = i
    ·subst e2
     rw [if_pos rfl, List.getElem?_set_self hil]
    ·rw [if_neg e2, List.getElem?_set_ne (Ne.symm e2)]
  obtain ⟨h1, h2, h3⟩ := mrgF_all x y L (mrg1 x y q (i : Int)) hn' (by rw [hq]; show (fileF q.2 _ _).length = 6; rw [file_len]; exact h6) hyL' (fun z hz => by
   obtain ⟨j, T, rfl, hj⟩ := hu z (List.mem_cons_of_mem _ hz)
   have hne : j ≠ i := fun e => hun (by rw [← e]; exact hz)
   have hny : j ≠ y := fun e => hyL' (by rw [← e]; exact hz)
   exact ⟨j, T, rfl, by rw [hset, if_neg hny, if_neg hne]; exact hj⟩) ⟨_, by rw [hset, if_pos rfl]⟩
  refine ⟨fun j => ?_, fun e z hz => ?_, fun j T hj hT h5 => ?_⟩
  ·rw [List.foldl_cons, h1 j, hset]
   by_cases e : j = y
   ·subst e
    rw [if_neg hyL', if_pos rfl, if_pos rfl, if_neg hyL, if_pos rfl, hTy]
    rfl
   ·by_cases e2 : j = i
    ·subst e2
     rw [if_neg hun, if_neg e, if_neg e, if_pos rfl, if_pos List.mem_cons_self, hi]
     rfl
    ·have e3 : ((j : Int) ∈ (i : Int) :: L) ↔ (j : Int) ∈ L := by
      rw [List.mem_cons]
      exact ⟨fun h => h.resolve_left (fun h => e2 (by omega)), .inr⟩
     simp only [if_neg e, if_neg e2, e3]
  ·rw [List.foldl_cons]
   refine h2 e z ?_
   rw [hq]
   exact file_grows hz
  ·rw [List.foldl_cons] at hT ⊢
   rcases List.mem_cons.1 hj with h | h
   ·have e : j = i := by omega
    subst e
    rw [h1 j, if_neg hun, if_neg (Ne.symm hyi), hset, if_neg (Ne.symm hyi), if_pos rfl] at hT
    simp only [Option.some.injEq] at hT
    subst hT
    refine h2 _ _ ?_
    rw [hq]
    exact file_has h6 h5
   ·exact h3 j T h hT h5
structure FvH (n : Nat) (N : List (Option (List Int))) (F : List (List Int)) (ss : List StpM) : Prop where
 len : N.length = n
 sub : ∀ (v : Nat) (S : List Int), N[v]? = some (some S) → S.Nodup ∧ ∀ u ∈ S, ∃ j : Nat, u = (j : Int) ∧ j ≠ v ∧ ∃ T, N[j]? = some (some T) ∧ (v : Int) ∈ T
 bk : Bk N F (-1)
 fv : FV n (n + (n + 6) * ss.length) F
 cnt : (leftL N).length + ss.length = n
 stp : ∀ s ∈ ss, StepOK n s ∧ N[s.1.toNat]? = some none
 nod : (ss.map fun s => s.1).Nodup
theorem FvH.few {n : Nat} {N : List (Option (List Int))} {F : List (List Int)} {ss : List StpM} (h : FvH n N F ss) {v : Nat} {S : List Int} (hS : N[v]? = some (some S)) : S.length ≤ n := by
 obtain ⟨h1, h2⟩ := h.sub v S hS
 have : S.length ≤ ((List.range n).map fun (j : Nat) => (j : Int)).length := nodup_le h1 fun u hu => by
  obtain ⟨j, rfl, _, T, hT, _⟩ := h2 u hu
  exact List.mem_map.2 ⟨j, List.mem_range.2 (by rw [← h.len]; exact (List.getElem?_eq_some_iff.1 hT).1), rfl⟩
 rw [List.length_map, List.length_range] at this
 exact this
theorem left_erase {n k : Nat} {N N' : List (Option (List Int))} (h1 : N.length = n) (h2 : N'.length = n) (hk : N'[k]? = some none) (hj : ∀ j, j ≠ k → ((∃ S, N'[j]? = some (some S)) ↔ ∃ S, N[j]? = some (some S))) : leftL N' = (leftL N).erase k := by
 rw [(left_nodup N).erase_eq_filter]
 unfold leftL
 rw [List.filter_filter, h2, h1]
 refine List.filter_congr fun v hv => ?_
 rw [List.getD_eq_getElem?_getD, List.getD_eq_getElem?_getD]
 by_cases e : v = k
 ·subst e; rw [hk]; simp
 ·have := hj v e
  cases hN : N[v]? with
  | none =>
   cases hN' : N'[v]? with
   | none => simp
   | some o' =>
    rw [List.getElem?_eq_none_iff] at hN
    have := (List.getElem?_eq_some_iff.1 hN').1
    omega
  | some o =>
   cases hN' : N'[v]? with
   | none =>
    rw [List.getElem?_eq_none_iff] at hN'
    have := (List.getElem?_eq_some_iff.1 hN).1
    omega
   | some o' =>
    rw [hN, hN'] at this
    cases o <;> cases o' <;> simp [e] at this ⊢
section
variable {n : Nat} {N : List (Option (List Int))} {F F1 : List (List Int)} {ss : List StpM}
theorem FvH.step (h : FvH n N F ss) {k : Nat} {S : List Int} (hS : N[k]? = some (some S)) (hS5 : S.length ≤ 5) (hF1 : FV n (n + (n + 6) * ss.length) F1) (hB1 : Bk N F1 (k : Int)) {L : List Int} (hp : L.Perm S) (sv : Value) :
  FvH n (dropQ (k : Int) L N F1).1 (dropQ (k : Int) L N F1).2 (ss ++ [((k : Int), sv, L, -1)]) ∧ less1 (adjN N) k = adjN (dropQ (k : Int) L N F1).1 ∧ leftL (dropQ (k : Int) L N F1).1 = (leftL N).erase k ∧ (L.map Int.toNat).Nodup ∧ ∀ u, u ∈ L.map Int.toNat ↔ u ∈ leftL N ∧ adjN N k u := by
 obtain ⟨hSn, hSu⟩ := h.sub k S hS
 have hkN : k < N.length := (List.getElem?_eq_some_iff.1 hS).1
 have hLn : L.Nodup := hp.nodup_iff.2 hSn
 have hkL : (k : Int) ∉ L := fun hm => by
  obtain ⟨j, e, hne, _⟩ := hSu _ (hp.mem_iff.1 hm)
  exact hne (by omega)
 have hset : ∀ j : Nat, (N.set k none)[j]? = if j = k then some none else N[j]? := fun j => by
  by_cases e : j = k
  ·subst e; rw [if_pos rfl, List.getElem?_set_self hkN]
  ·rw [if_neg e, List.getElem?_set_ne (Ne.symm e)]
 obtain ⟨h1, h2, h3⟩ := dropF_all (k : Int) L (N.set k none, F1) hLn hF1.1 (fun u hu => by
  obtain ⟨j, e, hne, T, hT, _⟩ := hSu u (hp.mem_iff.1 hu)
  exact ⟨j, T, e, by show (N.set k none)[j]? = _; rw [hset, if_neg hne]; exact hT⟩)
 have hq : dropQ (k : Int) L N F1 = L.foldl (drop1 (k : Int)) (N.set k none, F1) := by unfold dropQ; rw [Int.toNat_natCast]
 rw [← hq] at h1 h2 h3
 have hat : ∀ j : Nat, (dropQ (k : Int) L N F1).1[j]? = if j = k then some none else if (j : Int) ∈ L then (N[j]?).map (Option.map fun T => T.erase (k : Int)) else N[j]? := fun j => by
  rw [h1 j]
  show (if (j : Int) ∈ L then ((N.set k none)[j]?).map _ else (N.set k none)[j]?) = _
  rw [hset]
  by_cases e : j = k
  ·subst e
   rw [if_neg hkL, if_pos rfl, if_pos rfl]
  ·rw [if_neg e, if_neg e]
 have hnot : ∀ {j : Nat} {T : List Int}, N[j]? = some (some T) → (j : Int) ∉ L → (k : Int) ∉ T := fun {j T} hT hj hm => by
  obtain ⟨j', e', _, T', hT', hjT⟩ := (h.sub j T hT).2 _ hm
  have e2 : k = j' := by omega
  subst e2
  rw [hS] at hT'
  simp only [Option.some.injEq] at hT'
  subst hT'
  exact hj (hp.mem_iff.2 hjT)
 have hin : ∀ {j : Nat} {T : List Int}, (dropQ (k : Int) L N F1).1[j]? = some (some T) → j ≠ k ∧ ∃ T0, N[j]? = some (some T0) ∧ T = T0.erase (k : Int) := by
  intro j T hT
  rw [hat j] at hT
  by_cases e : j = k
  ·rw [if_pos e] at hT; cases hT
  ·rw [if_neg e] at hT
   refine ⟨e, ?_⟩
   by_cases hj : (j : Int) ∈ L
   ·rw [if_pos hj] at hT
    cases h' : N[j]? with
    | none => rw [h'] at hT; cases hT
    | some o =>
     cases o with
     | none => rw [h'] at hT; cases hT
     | some T0 =>
      rw [h'] at hT
      exact ⟨T0, rfl, by simpa using hT.symm⟩
   ·rw [if_neg hj] at hT
    exact ⟨T, hT, (List.erase_of_not_mem (hnot hT hj)).symm⟩
 have hout : ∀ {j : Nat} {T0 : List Int}, j ≠ k → N[j]? = some (some T0) → (dropQ (k : Int) L N F1).1[j]? = some (some (T0.erase (k : Int))) := by
  intro j T0 hne hT
  rw [hat j, if_neg hne]
  by_cases hj : (j : Int) ∈ L
  ·rw [if_pos hj, hT]; rfl
  ·rw [if_neg hj, hT, List.erase_of_not_mem (hnot hT hj)]
 have hlen : (dropQ (k : Int) L N F1).1.length = n := by
  rw [hq, dropF_len]
  show (N.set k none).length = n
  rw [List.length_set]
  exact h.len
 have hleft : leftL (dropQ (k : Int) L N F1).1 = (leftL N).erase k := left_erase h.len hlen (by rw [hat, if_pos rfl]) fun j hj => ⟨fun ⟨T, hT⟩ => by obtain ⟨_, T0, h0, _⟩ := hin hT; exact ⟨T0, h0⟩, fun ⟨T, hT⟩ => ⟨_, hout hj hT⟩⟩
 have hkl : k ∈ leftL N := mem_left.2 ⟨S, hS⟩
 have hL5 : L.length ≤ 5 := by rw [hp.length_eq]; exact hS5
 have hLu : ∀ u ∈ L, ∃ j : Nat, u = (j : Int) ∧ j < n := fun u hu => by
  obtain ⟨j, e, _, T, hT, _⟩ := hSu u (hp.mem_iff.1 hu)
  exact ⟨j, e, by rw [← h.len]; exact (List.getElem?_eq_some_iff.1 hT).1⟩
 refine ⟨⟨hlen, fun v T hT => ?_, fun v T hT h5 _ => ?_, ?_, ?_, fun s hs => ?_, ?_⟩, ?_, hleft, ?_, fun u => ?_⟩
 ·obtain ⟨hvk, T0, hT0, rfl⟩ := hin hT
  obtain ⟨g1, g3⟩ := h.sub v T0 hT0
  refine ⟨g1.erase _, fun u hu => ?_⟩
  obtain ⟨j, e, hne, T', hT', hv'⟩ := g3 u (List.mem_of_mem_erase hu)
  have hjk : j ≠ k := fun e' => by
   subst e'
   subst e
   exact (List.Nodup.not_mem_erase g1) hu
  exact ⟨j, e, hne, _, hout hjk hT', (List.mem_erase_of_ne (fun e' => hvk (by omega))).2 hv'⟩
 ·obtain ⟨hvk, T0, hT0, e⟩ := hin hT
  by_cases hv : (v : Int) ∈ L
  ·exact h3 v T hv hT h5
  ·rw [hat v, if_neg hvk, if_neg hv] at hT
   exact h2 _ _ (hB1 v T hT h5 (by omega))
 ·rw [List.length_append, List.length_singleton]
  have h4 := dropF_fv (k : Int) (n := n) L (N.set k none, F1) hLu hF1
  rw [← hq] at h4
  refine h4.mono ?_
  rw [Nat.mul_add, Nat.mul_one]
  omega
 ·rw [hleft, List.length_erase_of_mem hkl, List.length_append, List.length_singleton]
  have := h.cnt
  have := List.length_pos_of_mem hkl
  omega
 ·rcases List.mem_append.1 hs with hs | hs
  ·obtain ⟨g1, g3⟩ := h.stp s hs
   refine ⟨g1, ?_⟩
   rw [hat]
   split
   ·rfl
   ·rw [g3]
    split <;> rfl
  ·rw [List.mem_singleton.1 hs]
   exact ⟨⟨⟨k, rfl, by rw [← h.len]; exact hkN⟩, .inl rfl, by show L.length ≤ _; omega, hLu⟩, by show (dropQ (k : Int) L N F1).1[((k : Int)).toNat]? = _; rw [Int.toNat_natCast, hat, if_pos rfl]⟩
 ·rw [List.map_append, List.nodup_append]
  refine ⟨h.nod, by simp, fun a ha b hb e => ?_⟩
  obtain ⟨s, hs, rfl⟩ := List.mem_map.1 ha
  simp only [List.map_cons, List.map_nil, List.mem_singleton] at hb
  have g3 := (h.stp s hs).2
  rw [e, hb, Int.toNat_natCast, hS] at g3
  cases g3
 ·funext a b
  apply propext
  constructor
  ·rintro ⟨⟨T, hT, hb⟩, ha, hbk⟩
   exact ⟨_, hout ha hT, (List.mem_erase_of_ne (fun e' => hbk (by omega))).2 hb⟩
  ·rintro ⟨T, hT, hb⟩
   obtain ⟨hak, T0, hT0, rfl⟩ := hin hT
   refine ⟨⟨T0, hT0, List.mem_of_mem_erase hb⟩, hak, fun e' => ?_⟩
   subst e'
   exact (List.Nodup.not_mem_erase (h.sub a T0 hT0).1) hb
 ·refine List.pairwise_map.2 (List.Pairwise.imp_of_mem (fun {a b} ha hb hne e => ?_) hLn)
  obtain ⟨i, rfl, _⟩ := hLu a ha
  obtain ⟨j, rfl, _⟩ := hLu b hb
  simp at e
  exact hne (by rw [e])
 ·rw [List.mem_map]
  constructor
  ·rintro ⟨z, hz, rfl⟩
   obtain ⟨j, rfl, _, T, hT, _⟩ := hSu z (hp.mem_iff.1 hz)
   rw [Int.toNat_natCast]
   exact ⟨mem_left.2 ⟨T, hT⟩, S, hS, hp.mem_iff.1 hz⟩
  ·rintro ⟨_, S', hS', hu⟩
   rw [hS] at hS'
   simp only [Option.some.injEq] at hS'
   subst hS'
   exact ⟨(u : Int), hp.mem_iff.2 hu, by simp⟩
theorem FvH.merge (h : FvH n N F ss) {x y : Nat} {S Sy : List Int} (hS : N[x]? = some (some S)) (hSy : N[y]? = some (some Sy)) (hxy : x ≠ y) (hno : (y : Int) ∉ S) {L : List Int} (hp : L.Perm S) (sv : Value) :
  FvH n (mrgQ (x : Int) (y : Int) L N F).1 (mrgQ (x : Int) (y : Int) L N F).2 (ss ++ [((x : Int), sv, [], (y : Int))]) ∧ mrg (adjN N) x y = adjN (mrgQ (x : Int) (y : Int) L N F).1 ∧ leftL (mrgQ (x : Int) (y : Int) L N F).1 = (leftL N).erase x := by
 obtain ⟨hSn, hSu⟩ := h.sub x S hS
 have hxN : x < N.length := (List.getElem?_eq_some_iff.1 hS).1
 have hyN : y < N.length := (List.getElem?_eq_some_iff.1 hSy).1
 have hLn : L.Nodup := hp.nodup_iff.2 hSn
 have hyL : (y : Int) ∉ L := fun hm => hno (hp.mem_iff.1 hm)
 have hxL : (x : Int) ∉ L := fun hm => by
  obtain ⟨j, e, hne, _⟩ := hSu _ (hp.mem_iff.1 hm)
  exact hne (by omega)
 have hset : ∀ j : Nat, (N.set x none)[j]? = if j = x then some none else N[j]? := fun j => by
  by_cases e : j = x
  ·subst e; rw [if_pos rfl, List.getElem?_set_self hxN]
  ·rw [if_neg e, List.getElem?_set_ne (Ne.symm e)]
 obtain ⟨h1, h2, h3⟩ := mrgF_all (x : Int) y L (N.set x none, F) hLn h.fv.1 hyL (fun u hu => by
  obtain ⟨j, e, hne, T, hT, _⟩ := hSu u (hp.mem_iff.1 hu)
  exact ⟨j, T, e, by show (N.set x none)[j]? = _; rw [hset, if_neg hne]; exact hT⟩) ⟨Sy, by show (N.set x none)[y]? = _; rw [hset, if_neg (Ne.symm hxy)]; exact hSy⟩
 have hq : mrgF (x : Int) (y : Int) L N F = L.foldl (mrg1 (x : Int) (y : Int)) (N.set x none, F) := by unfold mrgF; rw [Int.toNat_natCast]
 rw [← hq] at h1 h2 h3
 have hat : ∀ j : Nat, (mrgF (x : Int) (y : Int) L N F).1[j]? = if j = x then some none else if (j : Int) ∈ L then (N[j]?).map (Option.map fun T => insS (T.erase (x : Int)) (y : Int)) else if j = y then some (some (L.foldl insS Sy)) else N[j]? := fun j => by
  rw [h1 j]
  show (if (j : Int) ∈ L then ((N.set x none)[j]?).map _ else if j = y then ((N.set x none)[j]?).map _ else (N.set x none)[j]?) = _
  rw [hset]
  by_cases e : j = x
  ·subst e
   rw [if_neg hxL, if_neg hxy, if_pos rfl, if_pos rfl]
  ·rw [if_neg e, if_neg e]
   by_cases e2 : (j : Int) ∈ L
   ·rw [if_pos e2, if_pos e2]
   ·rw [if_neg e2, if_neg e2]
    by_cases e3 : j = y
    ·subst e3; rw [if_pos rfl, if_pos rfl, hSy]; rfl
    ·rw [if_neg e3, if_neg e3]
 have hnot : ∀ {j : Nat} {T : List Int}, N[j]? = some (some T) → (j : Int) ∉ L → (x : Int) ∉ T := fun {j T} hT hj hm => by
  obtain ⟨j', e', _, T', hT', hjT⟩ := (h.sub j T hT).2 _ hm
  have e2 : x = j' := by omega
  subst e2
  rw [hS] at hT'
  simp only [Option.some.injEq] at hT'
  subst hT'
  exact hj (hp.mem_iff.2 hjT)
 have hyx : (x : Int) ∉ Sy := hnot hSy hyL
 have hin : ∀ {j : Nat} {T : List Int}, (mrgF (x : Int) (y : Int) L N F).1[j]? = some (some T) → j ≠ x ∧ ∃ T0, N[j]? = some (some T0) ∧ T.Nodup ∧ ∀ z, z ∈ T ↔ z ≠ (x : Int) ∧ (z ∈ T0 ∨ ((j : Int) ∈ L ∧ z = (y : Int)) ∨ (j = y ∧ z ∈ L)) := by
  intro j T hT
  rw [hat j] at hT
  by_cases e : j = x
  ·rw [if_pos e] at hT; cases hT
  ·rw [if_neg e] at hT
   refine ⟨e, ?_⟩
   by_cases hj : (j : Int) ∈ L
   ·rw [if_pos hj] at hT
    cases h' : N[j]? with
    | none => rw [h'] at hT; cases hT
    | some o =>
     cases o with
     | none => rw [h'] at hT; cases hT
     | some T0 =>
      rw [h'] at hT
      have hT' : insS (T0.erase (x : Int)) (y : Int) = T := by simpa using hT
      have g1 := (h.sub j T0 h').1
      have hjy : j ≠ y := fun e => hyL (by rw [← e]; exact hj)
      refine ⟨T0, rfl, by rw [← hT']; exact insS_nodup (g1.erase _), fun z => ?_⟩
      rw [← hT', insS_mem, g1.mem_erase_iff]
      constructor
      ·rintro (⟨g2, g3⟩ | g2)
       ·exact ⟨g2, .inl g3⟩
       ·exact ⟨by omega, .inr (.inl ⟨hj, g2⟩)⟩
      ·rintro ⟨g2, g3 | ⟨_, g3⟩ | ⟨g3, _⟩⟩
       ·exact .inl ⟨g2, g3⟩
       ·exact .inr g3
       ·exact absurd g3 hjy
   ·rw [if_neg hj] at hT
    by_cases e3 : j = y
    ·subst e3
     rw [if_pos rfl] at hT
     have hT' : L.foldl insS Sy = T := by simpa using hT
     refine ⟨Sy, hSy, by rw [← hT']; exact insF_nodup L (h.sub j Sy hSy).1, fun z => ?_⟩
     rw [← hT', insF_mem]
     constructor
     ·rintro (g2 | g2)
      ·exact ⟨fun e => hyx (by rw [← e]; exact g2), .inl g2⟩
      ·exact ⟨fun e => hxL (by rw [← e]; exact g2), .inr (.inr ⟨rfl, g2⟩)⟩
     ·rintro ⟨g2, g3 | ⟨g3, _⟩ | ⟨_, g3⟩⟩
      ·exact .inl g3
      ·exact absurd g3 hj
      ·exact .inr g3
    ·rw [if_neg e3] at hT
     refine ⟨T, hT, (h.sub j T hT).1, fun z => ?_⟩
     constructor
     ·intro g2
      exact ⟨fun e => hnot hT hj (by rw [← e]; exact g2), .inl g2⟩
     ·rintro ⟨g2, g3 | ⟨g3, _⟩ | ⟨g3, _⟩⟩
      ·exact g3
      ·exact absurd g3 hj
      ·exact absurd g3 e3
 have hout : ∀ {j : Nat} {T0 : List Int}, j ≠ x → N[j]? = some (some T0) → ∃ T, (mrgF (x : Int) (y : Int) L N F).1[j]? = some (some T) := by
  intro j T0 hne hT
  rw [hat j, if_neg hne]
  by_cases hj : (j : Int) ∈ L
  ·rw [if_pos hj, hT]; exact ⟨_, rfl⟩
  ·rw [if_neg hj]
   by_cases e3 : j = y
   ·rw [if_pos e3]; exact ⟨_, rfl⟩
   ·rw [if_neg e3]; exact ⟨_, hT⟩
 have hlen : (mrgF (x : Int) (y : Int) L N F).1.length = n := by
  rw [hq, mrgF_len]
  show (N.set x none).length = n
  rw [List.length_set]
  exact h.len
 have hleft : leftL (mrgF (x : Int) (y : Int) L N F).1 = (leftL N).erase x := left_erase h.len hlen (by rw [hat, if_pos rfl]) fun j hj => ⟨fun ⟨T, hT⟩ => by obtain ⟨_, T0, h0, _⟩ := hin hT; exact ⟨T0, h0⟩, fun ⟨T, hT⟩ => hout hj hT⟩
 have hxl : x ∈ leftL N := mem_left.2 ⟨S, hS⟩
 have hLu : ∀ u ∈ L, ∃ j : Nat, u = (j : Int) ∧ j < n := fun u hu => by
  obtain ⟨j, e, _, T, hT, _⟩ := hSu u (hp.mem_iff.1 hu)
  exact ⟨j, e, by rw [← h.len]; exact (List.getElem?_eq_some_iff.1 hT).1⟩
 have hLl : L.length ≤ n := by rw [hp.length_eq]; exact h.few hS
 have hyT : (mrgF (x : Int) (y : Int) L N F).1[y]? = some (some (L.foldl insS Sy)) := by rw [hat, if_neg (Ne.symm hxy), if_neg hyL, if_pos rfl]
 have hny : nbN (mrgF (x : Int) (y : Int) L N F).1 (y : Int) = L.foldl insS Sy := by
  unfold nbN
  rw [Int.toNat_natCast, List.getD_eq_getElem?_getD, hyT]
  rfl
 have h6 : (mrgF (x : Int) (y : Int) L N F).2.length = 6 := by
  have := mrgF_fv (x : Int) (y : Int) (n := n) L (N.set x none, F) hLu h.fv
  rw [← hq] at this
  exact this.1
 unfold mrgQ
 dsimp only
 rw [hny]
 refine ⟨⟨hlen, fun v T hT => ?_, fun v T hT h5 _ => ?_, ?_, ?_, fun s hs => ?_, ?_⟩, ?_, hleft⟩
 ·obtain ⟨hvx, T0, hT0, hTn, hTm⟩ := hin hT
  obtain ⟨g1, g3⟩ := h.sub v T0 hT0
  refine ⟨hTn, fun u hu => ?_⟩
  obtain ⟨hux, hu2⟩ := (hTm u).1 hu
  have key : ∃ j : Nat, u = (j : Int) ∧ j ≠ v ∧ j ≠ x ∧ (∃ T', N[j]? = some (some T')) ∧ ∀ T', N[j]? = some (some T') → (v : Int) ∈ T' ∨ ((j : Int) ∈ L ∧ (v : Int) = (y : Int)) ∨ (j = y ∧ (v : Int) ∈ L) := by
   rcases hu2 with hu2 | ⟨hu2, rfl⟩ | ⟨rfl, hu2⟩
   ·obtain ⟨j, rfl, hne, T', hT', hv'⟩ := g3 u hu2
    exact ⟨j, rfl, hne, by omega, ⟨T', hT'⟩, fun T'' hT'' => .inl (by rw [hT'] at hT''; simp only [Option.some.injEq] at hT''; rw [← hT'']; exact hv')⟩
   ·exact ⟨y, rfl, fun e => hyL (by rw [e]; exact hu2), by omega, ⟨Sy, hSy⟩, fun _ _ => .inr (.inr ⟨rfl, hu2⟩)⟩
   ·obtain ⟨j, rfl, _, T', hT', _⟩ := hSu u (hp.mem_iff.1 hu2)
    exact ⟨j, rfl, fun e => hyL (by rw [← e]; exact hu2), by omega, ⟨T', hT'⟩, fun _ _ => .inr (.inl ⟨hu2, rfl⟩)⟩
  obtain ⟨j, rfl, hjv, hjx, ⟨T', hT'⟩, hk⟩ := key
  obtain ⟨T2, hT2⟩ := hout hjx hT'
  obtain ⟨_, T3, hT3, _, hT2m⟩ := hin hT2
  exact ⟨j, rfl, hjv, T2, hT2, (hT2m _).2 ⟨by omega, hk T3 hT3⟩⟩
 ·obtain ⟨hvx, T0, hT0, hTn, hTm⟩ := hin hT
  by_cases hv : (v : Int) ∈ L
  ·exact file_grows (h3 v T hv hT h5)
  ·by_cases e : v = y
   ·subst e
    rw [hyT] at hT
    simp only [Option.some.injEq] at hT
    subst hT
    exact file_has h6 h5
   ·rw [hat v, if_neg hvx, if_neg hv, if_neg e] at hT
    exact file_grows (h2 _ _ (h.bk v T hT h5 (by omega)))
 ·rw [List.length_append, List.length_singleton]
  have h4 := mrgF_fv (x : Int) (y : Int) (n := n) L (N.set x none, F) hLu h.fv
  rw [← hq] at h4
  refine (h4.file (k := y) (d := (L.foldl insS Sy).length) (by rw [← h.len]; exact hyN)).mono ?_
  rw [Nat.mul_add, Nat.mul_one]
  omega
 ·rw [hleft, List.length_erase_of_mem hxl, List.length_append, List.length_singleton]
  have := h.cnt
  have := List.length_pos_of_mem hxl
  omega
 ·rcases List.mem_append.1 hs with hs | hs
  ·obtain ⟨g1, g3⟩ := h.stp s hs
   refine ⟨g1, ?_⟩
   rw [hat]
   split
   ·rfl
   ·rw [g3]
    split
    ·rfl
    ·split
     ·rename_i e
      rw [e, hSy] at g3
      cases g3
     ·rfl
  ·rw [List.mem_singleton.1 hs]
   exact ⟨⟨⟨x, rfl, by rw [← h.len]; exact hxN⟩, .inr ⟨y, rfl, by rw [← h.len]; exact hyN⟩, Nat.zero_le _, fun u hu => by cases hu⟩, by show (mrgF (x : Int) (y : Int) L N F).1[((x : Int)).toNat]? = _; rw [Int.toNat_natCast, hat, if_pos rfl]⟩
 ·rw [List.map_append, List.nodup_append]
  refine ⟨h.nod, by simp, fun a ha b hb e => ?_⟩
  obtain ⟨s, hs, rfl⟩ := List.mem_map.1 ha
  simp only [List.map_cons, List.map_nil, List.mem_singleton] at hb
  have g3 := (h.stp s hs).2
  rw [e, hb, Int.toNat_natCast, hS] at g3
  cases g3
 ·funext a b
  apply propext
  unfold mrg
  constructor
  ·rintro ⟨hax, hbx, hab⟩
   have key : ∃ T0, N[a]? = some (some T0) ∧ ((b : Int) ∈ T0 ∨ ((a : Int) ∈ L ∧ (b : Int) = (y : Int)) ∨ (a = y ∧ (b : Int) ∈ L)) := by
    rcases hab with ⟨T, hT, hb⟩ | ⟨rfl, T, hT, hb⟩ | ⟨rfl, T, hT, hb⟩
    ·exact ⟨T, hT, .inl hb⟩
    ·rw [hS] at hT
     simp only [Option.some.injEq] at hT
     subst hT
     exact ⟨Sy, hSy, .inr (.inr ⟨rfl, hp.mem_iff.2 hb⟩)⟩
    ·refine ⟨T, hT, .inr (.inl ⟨?_, rfl⟩)⟩
     obtain ⟨j, e, _, T', hT', hj⟩ := (h.sub a T hT).2 _ hb
     have : j = x := by omega
     subst this
     rw [hS] at hT'
     simp only [Option.some.injEq] at hT'
     subst hT'
     exact hp.mem_iff.2 hj
   obtain ⟨T0, hT0, hb⟩ := key
   obtain ⟨T2, hT2⟩ := hout hax hT0
   obtain ⟨_, T3, hT3, _, hm⟩ := hin hT2
   rw [hT0] at hT3
   simp only [Option.some.injEq] at hT3
   subst hT3
   exact ⟨T2, hT2, (hm _).2 ⟨by omega, hb⟩⟩
  ·rintro ⟨T, hT, hb⟩
   obtain ⟨hax, T0, hT0, _, hm⟩ := hin hT
   obtain ⟨hbx, hb2⟩ := (hm _).1 hb
   refine ⟨hax, by omega, ?_⟩
   rcases hb2 with hb2 | ⟨hb2, e⟩ | ⟨e, hb2⟩
   ·exact .inl ⟨T0, hT0, hb2⟩
   ·refine .inr (.inr ⟨by omega, T0, hT0, ?_⟩)
    obtain ⟨j, e', _, T', hT', hj⟩ := hSu _ (hp.mem_iff.1 hb2)
    have : a = j := by omega
    subst this
    rw [hT0] at hT'
    simp only [Option.some.injEq] at hT'
    subst hT'
    exact hj
   ·exact .inr (.inl ⟨e, S, hS, hp.mem_iff.1 hb2⟩)
end
end Go.Proofs.YtjpkojmjiaoifaaGreat
