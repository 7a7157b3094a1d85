import Derived.Test.YtjpkojmjiaoifaaGreatZAC
import Derived.Sort.OwnSortedInts
import Derived.Test.YtjpkojmjiaoifaaGreatShelfS
import Derived.Test.YtjpkojmjiaoifaaGreatXRNear
namespace Go.Proofs.YtjpkojmjiaoifaaGreat
open Go Go.Proofs
abbrev Dt := Int × Int
def aft (L : List Int) (at_ : Nat) : Int := if at_ + 1 = L.length then L.getD 0 0 else L.getD (at_ + 1) 0
def nxD (r : List (List Int)) (d : Dt) : Dt := (d.2, aft (r.getD d.2.toNat []) ((r.getD d.2.toNat []).idxOf d.1))
structure SysR (N : Nat) (l : List Ed) (r : List (List Int)) : Prop where
 len : r.length = N
 perm : ∀ v : Nat, v < N → (r.getD v []).Perm (nb l (v : Int))
def dartsL (N : Nat) (l : List Ed) : List Dt := (List.range N).flatMap fun (u : Nat) => (nb l (u : Int)).map fun v => ((u : Int), v)
theorem dartsL_mem {N : Nat} {l : List Ed} {d : Dt} : d ∈ dartsL N l ↔ ∃ u : Nat, u < N ∧ d.1 = (u : Int) ∧ d.2 ∈ nb l (u : Int) := by
 unfold dartsL
 rw [List.mem_flatMap]
 constructor
 ·rintro ⟨u, hu, h⟩
  obtain ⟨v, hv, rfl⟩ := List.mem_map.1 h
  exact ⟨u, List.mem_range.1 hu, rfl, hv⟩
 ·rintro ⟨u, hu, h1, h2⟩
  exact ⟨u, List.mem_range.2 hu, List.mem_map.2 ⟨d.2, h2, by rw [← h1]⟩⟩
section
variable {N : Nat} {l : List Ed} {r : List (List Int)}
theorem SysR.nodup (hS : SysR N l r) (hR : RightG (N : Int) l) {v : Nat} (hv : v < N) : (r.getD v []).Nodup := (hS.perm v hv).nodup_iff.2 ((nb_rise hR (v : Int)).imp fun {a b} (h : a < b) => (show a ≠ b by omega))
theorem aft_mem {L : List Int} {k : Nat} (h : k < L.length) : aft L k ∈ L := by
 unfold aft
 split
 ·rw [List.getD_eq_getElem?_getD, List.getElem?_eq_getElem (by omega)]
  exact List.getElem_mem _
 ·rw [List.getD_eq_getElem?_getD, List.getElem?_eq_getElem (by omega)]
  exact List.getElem_mem _
theorem aft_inj {L : List Int} (hn : L.Nodup) {j k : Nat} (hj : j < L.length) (hk : k < L.length) (h : aft L j = aft L k) : j = k := by
 have get : ∀ {i : Nat} (hi : i < L.length), L.getD i 0 = L[i] := fun hi => by rw [List.getD_eq_getElem?_getD, List.getElem?_eq_getElem hi]; rfl
 have inj : ∀ {a b : Nat}, a < L.length → b < L.length → L.getD a 0 = L.getD b 0 → a = b := fun {a b} ha hb e => by
  rw [get ha, get hb] at e
  exact (List.getElem_inj hn).1 e
 unfold aft at h
 by_cases h1 : j + 1 = L.length
 ·by_cases h2 : k + 1 = L.length
  ·omega
  ·rw [if_pos h1, if_neg h2] at h
   have := inj (by omega) (by omega) h
   omega
 ·by_cases h2 : k + 1 = L.length
  ·rw [if_neg h1, if_pos h2] at h
   have := inj (by omega) (by omega) h
   omega
  ·rw [if_neg h1, if_neg h2] at h
   have := inj (by omega) (by omega) h
   omega
theorem dart_ends (hR : RightG (N : Int) l) {d : Dt} (h : d ∈ dartsL N l) : ∃ u v : Nat, d = ((u : Int), (v : Int)) ∧ u < N ∧ v < N ∧ (u : Int) ∈ nb l (v : Int) ∧ (v : Int) ∈ nb l (u : Int) := by
 obtain ⟨u, hu, h1, h2⟩ := dartsL_mem.1 h
 obtain ⟨h3, h4, h5, _⟩ := nb_mutual hR h2
 have e : d.2 = ((d.2.toNat : Nat) : Int) := by omega
 refine ⟨u, d.2.toNat, by rw [← e, ← h1], hu, by omega, by rw [← e]; exact h3, by rw [← e]; exact h2⟩
theorem nx_mem (hR : RightG (N : Int) l) (hS : SysR N l r) {d : Dt} (h : d ∈ dartsL N l) : nxD r d ∈ dartsL N l := by
 obtain ⟨u, v, rfl, hu, hv, h1, h2⟩ := dart_ends hR h
 refine dartsL_mem.2 ⟨v, hv, rfl, ?_⟩
 unfold nxD
 simp only [Int.toNat_natCast]
 have hm : (u : Int) ∈ r.getD v [] := (hS.perm v hv).mem_iff.2 h1
 exact (hS.perm v hv).mem_iff.1 (aft_mem (List.idxOf_lt_length_iff.2 hm))
theorem nx_inj (hR : RightG (N : Int) l) (hS : SysR N l r) {d e : Dt} (hd : d ∈ dartsL N l) (he : e ∈ dartsL N l) (h : nxD r d = nxD r e) : d = e := by
 obtain ⟨u, v, rfl, hu, hv, h1, h2⟩ := dart_ends hR hd
 obtain ⟨u', v', rfl, hu', hv', h1', h2'⟩ := dart_ends hR he
 unfold nxD at h
 simp only [Int.toNat_natCast, Prod.mk.injEq] at h
 obtain ⟨e1, e2⟩ := h
 have : v = v' := by omega
 subst this
 have m1 : (u : Int) ∈ r.getD v [] := (hS.perm v hv).mem_iff.2 h1
 have m2 : (u' : Int) ∈ r.getD v [] := (hS.perm v hv).mem_iff.2 h1'
 have l1 := List.idxOf_lt_length_iff.2 m1
 have l2 := List.idxOf_lt_length_iff.2 m2
 have e3 := aft_inj (hS.nodup hR hv) l1 l2 e2
 have g1 := List.getElem_idxOf l1
 have g2 := List.getElem_idxOf l2
 have : (u : Int) = (u' : Int) := by
  rw [← g1, ← g2]
  congr 1
 have : u = u' := by omega
 rw [this]
end
section
variable {nx : Dt → Dt} {S : List Dt}
structure PermS (nx : Dt → Dt) (S : List Dt) : Prop where
 mem : ∀ d ∈ S, nx d ∈ S
 inj : ∀ d ∈ S, ∀ e ∈ S, nx d = nx e → d = e
def Way (nx : Dt → Dt) (d : Dt) : Dt → List Dt → Prop
 | x, [] => x = d
 | x, y :: L => x = y ∧ Way nx d (nx x) L
theorem Way.snoc {d : Dt} : ∀ {x : Dt} {L : List Dt}, Way nx d x L → Way nx (nx d) x (L ++ [d])
 | x, [], h => ⟨h, by show nx x = nx d; rw [show x = d from h]⟩
 | x, y :: L, h => ⟨h.1, Way.snoc h.2⟩
def orb (nx : Dt → Dt) (d : Dt) : Nat → Dt → List Dt
 | 0, _ => []
 | k + 1, x => x :: if nx x = d then [] else orb nx d k (nx x)
theorem orb_way {d : Dt} : ∀ {L : List Dt} {x : Dt} {k : Nat}, L ≠ [] → Way nx d x L → (∀ y ∈ L.tail, y ≠ d) → L.length ≤ k → orb nx d k x = L
 | [], _, _, h, _, _, _ => absurd rfl h
 | [y], x, k, _, hw, _, hk => by
  obtain ⟨rfl, h2⟩ := hw
  match k, hk with
  | k + 1, _ =>
   rw [orb, if_pos (show nx x = d from h2)]
 | y :: z :: L, x, k, _, hw, hne, hk => by
  obtain ⟨rfl, h2⟩ := hw
  match k, hk with
  | k + 1, hk =>
   have hz : nx x = z := h2.1
   have hzd : ¬ nx x = d := by rw [hz]; exact hne z (List.mem_cons_self ..)
   rw [orb, if_neg hzd, orb_way (L := z :: L) (by simp) h2 (fun y hy => hne y (List.mem_cons_of_mem _ hy)) (by simpa using hk)]
structure Shut2 (nx : Dt → Dt) (S met : List Dt) : Prop where
 sub : ∀ d ∈ met, d ∈ S
 fwd : ∀ d ∈ met, nx d ∈ met
 bwd : ∀ d ∈ S, nx d ∈ met → d ∈ met
theorem Way.mem_back {d : Dt} : ∀ {x : Dt} {L : List Dt}, Way nx d x L → ∀ y ∈ L, y = x ∨ ∃ z ∈ L, nx z = y
 | x, [], _, y, hy => by simp at hy
 | x, y :: L, h, z, hz => by
  obtain ⟨rfl, h2⟩ := h
  rcases List.mem_cons.1 hz with rfl | hz
  ·exact .inl rfl
  ·rcases Way.mem_back h2 z hz with rfl | ⟨t, ht, e⟩
   ·exact .inr ⟨x, List.mem_cons_self .., rfl⟩
   ·exact .inr ⟨t, List.mem_cons_of_mem _ ht, e⟩
theorem Way.mem_next {d : Dt} : ∀ {x : Dt} {L : List Dt}, Way nx d x L → ∀ y ∈ L, nx y = d ∨ nx y ∈ L
 | x, [], _, y, hy => by simp at hy
 | x, y :: L, h, z, hz => by
  obtain ⟨rfl, h2⟩ := h
  rcases List.mem_cons.1 hz with rfl | hz
  ·match L, h2 with
   | [], h2 => exact .inl h2
   | t :: L, h2 => exact .inr (List.mem_cons_of_mem _ (by rw [h2.1]; exact List.mem_cons_self ..))
  ·rcases Way.mem_next h2 z hz with h3 | h3
   ·exact .inl h3
   ·exact .inr (List.mem_cons_of_mem _ h3)
theorem Way.last {d : Dt} : ∀ {x : Dt} {L : List Dt}, L ≠ [] → Way nx d x L → ∃ z ∈ L, nx z = d
 | x, [], h, _ => absurd rfl h
 | x, [y], _, h => ⟨y, List.mem_cons_self .., by obtain ⟨rfl, h2⟩ := h; exact h2⟩
 | x, y :: z :: L, _, h => by
  obtain ⟨t, ht, e⟩ := Way.last (L := z :: L) (by simp) h.2
  exact ⟨t, List.mem_cons_of_mem _ ht, e⟩
theorem Way.pred {d : Dt} : ∀ {x : Dt} {L : List Dt}, Way nx d x L → ∀ y ∈ L.tail, ∃ A t B, L = A ++ t :: y :: B ∧ nx t = y
 | x, [], _, y, hy => by simp at hy
 | x, [z], _, y, hy => by simp at hy
 | x, z :: t :: L, h, y, hy => by
  obtain ⟨rfl, h2⟩ := h
  have hy' : y ∈ t :: L := hy
  rcases List.mem_cons.1 hy' with rfl | hy'
  ·exact ⟨[], x, L, rfl, h2.1⟩
  ·obtain ⟨A, u, B, e, hu⟩ := Way.pred h2 y hy'
   exact ⟨x :: A, u, B, by rw [e]; rfl, hu⟩
theorem Way.last2 {d : Dt} : ∀ {x : Dt} {L : List Dt}, L ≠ [] → Way nx d x L → ∃ C z, L = C ++ [z] ∧ nx z = d
 | x, [], h, _ => absurd rfl h
 | x, [y], _, h => ⟨[], y, rfl, by obtain ⟨rfl, h2⟩ := h; exact h2⟩
 | x, y :: z :: L, _, h => by
  obtain ⟨C, t, e, ht⟩ := Way.last2 (L := z :: L) (by simp) h.2
  exact ⟨y :: C, t, by rw [e]; rfl, ht⟩
theorem Way.round (hP : PermS nx S) {met : List Dt} (hM : Shut2 nx S met) {d x : Dt} {L : List Dt} (hne : L ≠ []) (hw : Way nx d x L) (hS : ∀ y ∈ L, y ∈ S) (hn : L.Nodup) (hno : ∀ y ∈ L, y ∉ met) (hd : d ∈ met ∨ d ∈ L) : d = x := by
 obtain ⟨C, z, eC, ez⟩ := hw.last2 hne
 have hz : z ∈ L := by rw [eC]; simp
 rcases hd with hd | hd
 ·exact absurd (hM.bwd z (hS z hz) (by rw [ez]; exact hd)) (hno z hz)
 ·match L, hne, hd, hw with
  | y :: L', _, hd, hw =>
   rcases List.mem_cons.1 hd with rfl | hd
   ·exact hw.1.symm
   ·exfalso
    obtain ⟨A, t, B, eA, et⟩ := hw.pred d hd
    have ht : t ∈ y :: L' := by rw [eA]; simp
    have e1 : t = z := hP.inj t (hS t ht) z (hS z hz) (et.trans ez.symm)
    subst e1
    have hl : (C ++ [t]).getLast? = (A ++ t :: d :: B).getLast? := by rw [← eC, ← eA]
    rw [eA] at hn
    have hn2 := (List.nodup_append.1 hn).2.1
    rw [List.nodup_cons] at hn2
    refine hn2.1 ?_
    have h3 : (A ++ t :: d :: B).getLast? = (d :: B).getLast? := by
     rw [show A ++ t :: d :: B = (A ++ [t]) ++ (d :: B) by simp, List.getLast?_append]
     cases hB : (d :: B).getLast? with
     | none => simp at hB
     | some q => rfl
    rw [h3] at hl
    have h4 : (d :: B).getLast? = some t := by rw [← hl]; simp
    exact List.mem_of_getLast? h4
def roundsAt (nx : Dt → Dt) (fuel : Nat) (starts : List Dt) : Nat → List (List Dt) × List Dt
 | 0 => ([], [])
 | j + 1 => if (roundsAt nx fuel starts j).2.contains (starts.getD j (0, 0)) then roundsAt nx fuel starts j
  else ((roundsAt nx fuel starts j).1 ++ [orb nx (starts.getD j (0, 0)) fuel (starts.getD j (0, 0))], (roundsAt nx fuel starts j).2 ++ orb nx (starts.getD j (0, 0)) fuel (starts.getD j (0, 0)))
theorem Shut2.add (hP : PermS nx S) {met : List Dt} (hM : Shut2 nx S met) {d : Dt} {L : List Dt} (hne : L ≠ []) (hw : Way nx d d L) (hS : ∀ y ∈ L, y ∈ S) : Shut2 nx S (met ++ L) := by
 have hd : d ∈ L := by
  match L, hne, hw with
  | y :: L', _, hw => rw [hw.1]; exact List.mem_cons_self ..
 refine ⟨fun y hy => ?_, fun y hy => ?_, fun y hy h => ?_⟩
 ·rcases List.mem_append.1 hy with h | h
  ·exact hM.sub y h
  ·exact hS y h
 ·rcases List.mem_append.1 hy with h | h
  ·exact List.mem_append_left _ (hM.fwd y h)
  ·rcases hw.mem_next y h with h1 | h1
   ·rw [h1]; exact List.mem_append_right _ hd
   ·exact List.mem_append_right _ h1
 ·rcases List.mem_append.1 h with h1 | h1
  ·exact List.mem_append_left _ (hM.bwd y hy h1)
  ·refine List.mem_append_right _ ?_
   rcases hw.mem_back _ h1 with h2 | ⟨z, hz, ez⟩
   ·obtain ⟨z, hz, ez⟩ := hw.last hne
    rw [hP.inj y hy z (hS z hz) (h2.trans ez.symm)]
    exact hz
   ·rw [hP.inj y hy z (hS z hz) ez.symm]
    exact hz
structure Going (nx : Dt → Dt) (S starts : List Dt) (fuel : Nat) (left face : List Dt) (d : Dt) (j : Nat) : Prop where
 shut : Shut2 nx S (roundsAt nx fuel starts j).2
 nodup : (left ++ (face ++ (roundsAt nx fuel starts j).2)).Nodup
 all : ∀ x, x ∈ S ↔ x ∈ left ∨ x ∈ face ∨ x ∈ (roundsAt nx fuel starts j).2
 len : left.length + face.length + (roundsAt nx fuel starts j).2.length = S.length
 way : face ≠ [] → Way nx d (starts.getD j (0, 0)) face
theorem Going.start (hn : S.Nodup) (d : Dt) (starts : List Dt) (fuel : Nat) : Going nx S starts fuel S [] d 0 := by
 refine ⟨⟨fun d h => by simp [roundsAt] at h, fun d h => by simp [roundsAt] at h, fun d _ h => by simp [roundsAt] at h⟩, by simpa [roundsAt] using hn, fun x => by simp [roundsAt], by simp [roundsAt], fun h => absurd rfl h⟩
theorem Going.take {starts left face : List Dt} {fuel j : Nat} {d : Dt} (h : Going nx S starts fuel left face d j) (hd : d ∈ left) (h0 : face = [] → d = starts.getD j (0, 0)) : Going nx S starts fuel (left.erase d) (face ++ [d]) (nx d) j := by
 have hnl : left.Nodup := (List.nodup_append.1 h.nodup).1
 have hp : (left.erase d ++ (face ++ [d] ++ (roundsAt nx fuel starts j).2)).Perm (left ++ (face ++ (roundsAt nx fuel starts j).2)) := by
  have h1 : left.Perm (d :: left.erase d) := List.perm_cons_erase hd
  have h2 : (face ++ [d] ++ (roundsAt nx fuel starts j).2).Perm (d :: (face ++ (roundsAt nx fuel starts j).2)) := by
   rw [List.append_assoc]
   exact List.perm_middle
  refine ((h2.append_left (left.erase d)).trans ?_).trans (h1.symm.append_right _)
  exact List.perm_middle
 refine ⟨h.shut, hp.nodup_iff.2 h.nodup, fun x => ?_, ?_, fun _ => ?_⟩
 ·rw [h.all x]
  have := hp.mem_iff (a := x)
  simp only [List.mem_append] at this
  simp only [List.mem_append]
  constructor
  ·intro hx
   rcases this.2 hx with h1 | ⟨h1 | h1⟩ | h1
   ·exact .inl h1
   ·exact .inr (.inl (.inl h1))
   ·exact .inr (.inl (.inr ‹_›))
   ·exact .inr (.inr h1)
  ·intro hx
   exact this.1 (by
    rcases hx with h1 | h1 | h1
    ·exact .inl h1
    ·exact .inr (.inl h1)
    ·exact .inr (.inr h1))
 ·have := h.len
  rw [List.length_erase_of_mem hd, List.length_append, List.length_singleton]
  have := List.length_pos_of_mem hd
  omega
 ·by_cases hf : face = []
  ·subst hf
   exact ⟨(h0 rfl).symm, by show nx (starts.getD j (0, 0)) = nx d; rw [← h0 rfl]⟩
  ·exact (h.way hf).snoc
theorem Going.done (hP : PermS nx S) {starts left face : List Dt} {fuel j : Nat} {d : Dt} (h : Going nx S starts fuel left face d j) (hf : face ≠ []) (hd : d ∉ left) (hdS : d ∈ S) (hfu : S.length ≤ fuel) (d' : Dt) : roundsAt nx fuel starts (j + 1) = ((roundsAt nx fuel starts j).1 ++ [face], (roundsAt nx fuel starts j).2 ++ face) ∧ Going nx S starts fuel left [] d' (j + 1) := by
 have hw := h.way hf
 have hnd := (List.nodup_append.1 h.nodup).2.1
 have hnf : face.Nodup := (List.nodup_append.1 hnd).1
 have hap : ∀ y ∈ face, y ∉ (roundsAt nx fuel starts j).2 := fun y hy hy' => (List.nodup_append.1 hnd).2.2 y hy y hy' rfl
 have hsub : ∀ y ∈ face, y ∈ S := fun y hy => (h.all y).2 (.inr (.inl hy))
 have hdm : d ∈ (roundsAt nx fuel starts j).2 ∨ d ∈ face := by
  rcases (h.all d).1 hdS with h1 | h1 | h1
  ·exact absurd h1 hd
  ·exact .inr h1
  ·exact .inl h1
 have e := Way.round hP h.shut hf hw hsub hnf hap hdm
 rw [e] at hw
 have hst : starts.getD j (0, 0) ∈ face := by
  match face, hf, hw with
  | y :: L, _, hw => rw [hw.1]; exact List.mem_cons_self ..
 have horb : orb nx (starts.getD j (0, 0)) fuel (starts.getD j (0, 0)) = face := by
  refine orb_way hf hw (fun y hy e1 => ?_) (by have := h.len; omega)
  match face, hf, hw, hy, hnf with
  | z :: L, _, hw, hy, hnf =>
   have h1 := hw.1
   rw [e1, h1] at hy
   exact (List.nodup_cons.1 hnf).1 hy
 have hc : (roundsAt nx fuel starts j).2.contains (starts.getD j (0, 0)) = false := by
  rw [List.contains_eq_mem, decide_eq_false_iff_not]
  exact hap _ hst
 have er : roundsAt nx fuel starts (j + 1) = ((roundsAt nx fuel starts j).1 ++ [face], (roundsAt nx fuel starts j).2 ++ face) := by
  rw [roundsAt, hc, horb]
  rfl
 refine ⟨er, ?_⟩
 have hp : (left ++ ([] ++ ((roundsAt nx fuel starts j).2 ++ face))).Perm (left ++ (face ++ (roundsAt nx fuel starts j).2)) := by
  rw [List.nil_append]
  exact List.perm_append_comm.append_left left
 refine ⟨by rw [er]; exact h.shut.add hP hf hw hsub, by rw [er]; exact hp.nodup_iff.2 h.nodup, fun x => ?_, ?_, fun h1 => absurd rfl h1⟩
 ·rw [er, h.all x]
  simp only [List.mem_append, List.not_mem_nil, false_or]
  constructor
  ·rintro (h1 | h1 | h1)
   ·exact .inl h1
   ·exact .inr (.inr h1)
   ·exact .inr (.inl h1)
  ·rintro (h1 | h1 | h1)
   ·exact .inl h1
   ·exact .inr (.inr h1)
   ·exact .inr (.inl h1)
 ·rw [er]
  have := h.len
  rw [List.length_append, List.length_nil]
  omega
theorem Going.skip {starts left : List Dt} {fuel j : Nat} {d : Dt} (h : Going nx S starts fuel left [] d j) (hd : d ∉ left) (hdS : d ∈ S) (e : d = starts.getD j (0, 0)) (d' : Dt) : roundsAt nx fuel starts (j + 1) = roundsAt nx fuel starts j ∧ Going nx S starts fuel left [] d' (j + 1) := by
 have hm : d ∈ (roundsAt nx fuel starts j).2 := by
  rcases (h.all d).1 hdS with h1 | h1 | h1
  ·exact absurd h1 hd
  ·simp at h1
  ·exact h1
 have er : roundsAt nx fuel starts (j + 1) = roundsAt nx fuel starts j := by
  rw [roundsAt, if_pos (by rw [List.contains_iff_mem, ← e]; exact hm)]
 exact ⟨er, by rw [er]; exact h.shut, by rw [er]; exact h.nodup, by rw [er]; exact h.all, by rw [er]; exact h.len, fun h1 => absurd rfl h1⟩
end
end Go.Proofs.YtjpkojmjiaoifaaGreat

namespace Go.Proofs.YtjpkojmjiaoifaaGreat
open Go Go.Proofs Go.RowKit
def sortL (L : List Int) : List Int := L.mergeSort fun x y => decide (x ≤ y)
theorem sortL_len (L : List Int) : (sortL L).length = L.length := by unfold sortL; simp
theorem sortL_perm (L : List Int) : (sortL L).Perm L := List.mergeSort_perm _ _
theorem sortL_iff {L K : List Int} (hK : K.Pairwise (· < ·)) : sortL L = K ↔ L.Perm K := by
 constructor
 ·intro h
  rw [← h]
  exact (sortL_perm L).symm
 ·intro h
  have h1 : (sortL L).Pairwise (fun x y => decide (x ≤ y) = true) := List.pairwise_mergeSort (fun a b c h1 h2 => by simp at *; omega) (fun a b => by simp; omega) L
  refine List.Perm.eq_of_pairwise (le := fun x y => decide (x ≤ y) = true) (fun a b _ _ h1 h2 => by simp at *; omega) h1 (hK.imp fun {a b} hab => by simp; omega) ((sortL_perm L).trans h)
theorem ints_cells {n : Nat} {w : World} {b off c : Nat} {L : List Int} (h : Ints n w (.slice (some ⟨b, off, none⟩) L.length c) L) : ∀ j, j < L.length → w.cell? ⟨b, off + j, none⟩ = some (.int .i64 (L.getD j 0)) := fun j hj => by
 obtain ⟨b', off', e, _, _, hc⟩ := h.open hj
 simp only [Option.some.injEq, Addr.mk.injEq, and_true] at e
 obtain ⟨rfl, rfl⟩ := e
 rw [hc w (Below.refl _ _) j hj, List.getD_eq_getElem?_getD, List.getElem?_eq_getElem hj]
 rfl
set_option maxRecDepth 100000 in
set_option maxHeartbeats 2000000 in
theorem isOrder_any (L K : List Int) (hK : K.length ≤ 4194304) (sl sk : Value) (w : World) (hl : Ints w.heap.size w sl L) (hk : Ints w.heap.size w sk K) :
  Calls Tryz.prog 58 #[sl, sk] w fun e w' => e = .returned (.bool (decide (sortL L = K))) ∧ Below w.heap.size w w' := by
 obtain ⟨p, c, rfl⟩ := hl.len
 obtain ⟨pk, ck, rfl⟩ := hk.len
 by_cases hlen : L.length = K.length
 ·have hL : L.length ≤ 4194304 := by omega
  have hlen' : ((L.length : Int) != (K.length : Int)) = false := by rw [hlen]; simp
  by_cases hz : L.length = 0
  ·have hL0 : L = [] := List.eq_nil_of_length_eq_zero hz
   have hK0 : K = [] := List.eq_nil_of_length_eq_zero (by omega)
   subst hL0
   subst hK0
   have hE : decide (sortL [] = []) = true := by simp [sortL]
   rw [hE]
   have hcl : Calls Tryz.prog 72 #[.slice p 0 c] w fun e w' => ∃ q k, e = .returned (.slice q 0 k) ∧ Below w.heap.size w w' := by
    cases p with
    | none => exact (Tryz.slices_Clone_int_nil 0 c w).mono fun e w' ⟨h1, h2⟩ => ⟨none, 0, h1, by rw [h2]; exact Below.refl _ _⟩
    | some a =>
     refine (Tryz.slices_Clone_int_zero a c w).mono ?_
     rintro e w' ⟨v', h1, h2, _, h3⟩
     obtain ⟨q, k, rfl⟩ := owns_formP h2
     exact ⟨q, k, h1, h3⟩
   clear hE hlen hz
   go_enter Tryz.func58, Tryz.ntmps58
   go_wp2_with fail
   refine hcl.mono ?_
   rintro e w2 ⟨q, k, rfl, hb2⟩
   go_wp2_with fail
   refine (Tryz.slices_Sort_int_none q k w2).mono ?_
   rintro e w3 ⟨rfl, rfl⟩
   go_wp2_with fail
   refine (Tryz.slices_Equal_int_empty q pk k 0 ck w3 (by omega)).mono ?_
   rintro e w4 ⟨rfl, rfl⟩
   go_wp2
   go_ret
   exact ⟨rfl, hb2⟩
  ·obtain ⟨b, off, rfl, hbb, hcap, _⟩ := hl.open (show 0 < L.length by omega)
   obtain ⟨bk, offk, rfl, hbk, hcapk, _⟩ := hk.open (show 0 < K.length by omega)
   have hcl := Tryz.slices_Clone_int b off L.length c L w (Nat.le_refl _) (by omega) (ints_cells hl)
   rw [List.take_length] at hcl
   have HLEN : Hid _ := hlen
   have hpos : 0 < L.length := by omega
   clear hlen hz
   go_enter Tryz.func58, Tryz.ntmps58
   go_wp2_with fail
   refine hcl.mono ?_
   clear hcl
   rintro e w2 ⟨v2, rfl, hO2, hn2, hb2⟩
   rcases hO2.2 with ⟨h0, _⟩ | ⟨g2, cap2, cur2, rfl, hbase, hblk, h1, h2, h3, h4⟩
   ·exact absurd h0 hn2
   have hgl := (Array.getElem?_eq_some_iff.1 hblk).1
   have hso := Tryz.slices_Sort_int g2 0 cap2 L w2 (holds_of_blockI hblk (by simpa using h4)) hgl (by omega)
   go_wp2_with fail
   refine hso.mono ?_
   clear hso
   rintro e w3 ⟨rfl, nn, os, hw3⟩
   have hO3 : w3.ownsRow w.heap.size 3 1 (.slice (some ⟨g2, 0, none⟩) L.length cap2) L.length ((sortL L).map (Value.int .i64)) := by
    rw [hw3]
    exact ownsRow_sortedI (ss := L) (ts := sortL L) (sortL_len L) hbase hblk h1 h2 h3
   have hg3 : w2.grownBy w3 (some g2) := by
    rw [hw3]
    exact grownBy_sortedI _
   have hb3 : Below w.heap.size w w3 := hb2.grown hg3 hb2.size (fun q e => by cases e; exact hbase)
   have hI3 : Ints w3.heap.size w3 (.slice (some ⟨g2, 0, none⟩) (sortL L).length cap2) (sortL L) := by
    refine owns_intsP (base := w.heap.size) ?_
    rw [sortL_len]
    exact hO3
   have hk3 := hk.go hb3
   have heq := Tryz.slices_Equal_int g2 0 L.length cap2 bk offk K.length ck (sortL L) K _ (by rw [sortL_len]; exact Nat.le_refl _) (Nat.le_refl _) (by omega) (by omega) (ints_cells hI3) (ints_cells hk3)
   have e1 : (sortL L).take L.length = sortL L := List.take_of_length_le (by rw [sortL_len]; exact Nat.le_refl _)
   rw [e1, List.take_length] at heq
   have hbe : (sortL L == K) = decide (sortL L = K) := by
    by_cases h : sortL L = K
    ·rw [decide_eq_true h, beq_iff_eq]; exact h
    ·rw [decide_eq_false h, beq_eq_false_iff_ne]; exact h
   rw [hbe] at heq
   clear e1 hbe hI3 hk3 hO3 hg3 hO2 hblk h1 h2 h3 h4 hw3
   have HB3 : Hid _ := hb3
   clear hb3
   obtain ⟨res, HRES⟩ : ∃ res, Hid (decide (sortL L = K) = res) := ⟨_, rfl⟩
   rw [HRES.out] at heq
   go_wp2_with fail
   refine heq.mono ?_
   rintro e w4 ⟨rfl, q, rfl⟩
   go_wp2
   go_ret
   exact ⟨by rw [HRES.out]; rfl, below_drewN HB3.out q⟩
 ·have hlen' : ((L.length : Int) != (K.length : Int)) = true := by
   rw [bne_iff_ne]; omega
  have hE : decide (sortL L = K) = false := decide_eq_false fun e => hlen (by rw [← e, sortL_len])
  rw [hE]
  clear hE hlen
  go_enter Tryz.func58, Tryz.ntmps58
  go_wp2
  go_ret
  exact ⟨rfl, Below.refl _ _⟩
end Go.Proofs.YtjpkojmjiaoifaaGreat
