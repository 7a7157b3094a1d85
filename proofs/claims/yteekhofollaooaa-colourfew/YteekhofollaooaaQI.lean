/-
  Rotation systems: darts, the one behind each, and rounds. No program in this text.
-/
import Derived.Test.YteekhofollaooaaQA
import Derived.Laws.StructEq
import Derived.Maps.OwnSet
import Derived.Test.YteekhofollaooaaQB
import Derived.Test.YteekhofollaooaaQH
import Derived.WalkMore
import Derived.Test.YteekhofollaooaaQD
namespace Go.Proofs.Yteekhofollaooaa
open Go Go.Proofs

abbrev Dt := Int × Int
/-- What stands behind a place in a list. -/
def aft (L : List Int) (at_ : Nat) : Int := if at_ + 1 = L.length then L.getD 0 0 else L.getD (at_ + 1) 0
/-- The dart behind one, in lists that need be no system. -/
def nxD (r : List (List Int)) (d : Dt) : Dt := (d.2, aft (r.getD d.2.toNat []) ((r.getD d.2.toNat []).idxOf d.1))
/-- The lists are a system of the graph. -/
structure SysR (N : Nat) (l : List Ed) (r : List (List Int)) : Prop where
  len : r.length = N
  perm : ∀ v : Nat, v < N → (r.getD v []).Perm (nb l (v : Int))
/-- All darts, rising. -/
def dartsL (N : Nat) (l : List Ed) : List Dt := (List.range N).flatMap fun (u : Nat) => (nb l (u : Int)).map fun v => ((u : Int), v)
theorem dartsL_mem {N : Nat} {l : List Ed} {d : Dt} : d ∈ dartsL N l ↔ ∃ u : Nat, u < N ∧ d.1 = (u : Int) ∧ d.2 ∈ nb l (u : Int) := by
  unfold dartsL
  rw [List.mem_flatMap]
  constructor
  · rintro ⟨u, hu, h⟩
    obtain ⟨v, hv, rfl⟩ := List.mem_map.1 h
    exact ⟨u, List.mem_range.1 hu, rfl, hv⟩
  · rintro ⟨u, hu, h1, h2⟩
    exact ⟨u, List.mem_range.2 hu, List.mem_map.2 ⟨d.2, h2, by rw [← h1]⟩⟩
theorem dartsL_nodup {N : Nat} {l : List Ed} (hR : RightG (N : Int) l) : (dartsL N l).Nodup := by
  unfold dartsL
  unfold List.Nodup
  rw [List.pairwise_flatMap]
  refine ⟨fun u _ => ?_, ?_⟩
  · refine List.Pairwise.map _ (fun a b h => ?_) ((nb_rise hR (u : Int)).imp fun {a b} (h : a < b) => (show a ≠ b by omega))
    intro e
    exact h (congrArg Prod.snd e)
  · refine List.nodup_range.imp fun {a b} hab => ?_
    intro x hx y hy e
    obtain ⟨v, _, rfl⟩ := List.mem_map.1 hx
    obtain ⟨v', _, rfl⟩ := List.mem_map.1 hy
    have := congrArg Prod.fst e
    simp only at this
    omega
section
variable {N : Nat} {l : List Ed} {r : List (List Int)}
theorem SysR.nodup (hS : SysR N l r) (hR : RightG (N : Int) l) {v : Nat} (hv : v < N) : (r.getD v []).Nodup := (hS.perm v hv).nodup_iff.2 ((nb_rise hR (v : Int)).imp fun {a b} (h : a < b) => (show a ≠ b by omega))
theorem aft_mem {L : List Int} {k : Nat} (h : k < L.length) : aft L k ∈ L := by
  unfold aft
  split
  · rw [List.getD_eq_getElem?_getD, List.getElem?_eq_getElem (by omega)]
    exact List.getElem_mem _
  · rw [List.getD_eq_getElem?_getD, List.getElem?_eq_getElem (by omega)]
    exact List.getElem_mem _
theorem aft_inj {L : List Int} (hn : L.Nodup) {j k : Nat} (hj : j < L.length) (hk : k < L.length) (h : aft L j = aft L k) : j = k := by
  have get : ∀ {i : Nat} (hi : i < L.length), L.getD i 0 = L[i] := fun hi => by rw [List.getD_eq_getElem?_getD, List.getElem?_eq_getElem hi]; rfl
  have inj : ∀ {a b : Nat}, a < L.length → b < L.length → L.getD a 0 = L.getD b 0 → a = b := fun {a b} ha hb e => by
    rw [get ha, get hb] at e
    exact (List.getElem_inj hn).1 e
  unfold aft at h
  by_cases h1 : j + 1 = L.length
  · by_cases h2 : k + 1 = L.length
    · omega
    · rw [if_pos h1, if_neg h2] at h
      have := inj (by omega) (by omega) h
      omega
  · by_cases h2 : k + 1 = L.length
    · rw [if_neg h1, if_pos h2] at h
      have := inj (by omega) (by omega) h
      omega
    · rw [if_neg h1, if_neg h2] at h
      have := inj (by omega) (by omega) h
      omega
theorem dart_ends (hR : RightG (N : Int) l) {d : Dt} (h : d ∈ dartsL N l) : ∃ u v : Nat, d = ((u : Int), (v : Int)) ∧ u < N ∧ v < N ∧ (u : Int) ∈ nb l (v : Int) ∧ (v : Int) ∈ nb l (u : Int) := by
  obtain ⟨u, hu, h1, h2⟩ := dartsL_mem.1 h
  obtain ⟨h3, h4, h5, _⟩ := nb_mutual hR h2
  have e : d.2 = ((d.2.toNat : Nat) : Int) := by omega
  refine ⟨u, d.2.toNat, by rw [← e, ← h1], hu, by omega, by rw [← e]; exact h3, by rw [← e]; exact h2⟩
/-- The one behind a dart is a dart. -/
theorem nx_mem (hR : RightG (N : Int) l) (hS : SysR N l r) {d : Dt} (h : d ∈ dartsL N l) : nxD r d ∈ dartsL N l := by
  obtain ⟨u, v, rfl, hu, hv, h1, h2⟩ := dart_ends hR h
  refine dartsL_mem.2 ⟨v, hv, rfl, ?_⟩
  unfold nxD
  simp only [Int.toNat_natCast]
  have hm : (u : Int) ∈ r.getD v [] := (hS.perm v hv).mem_iff.2 h1
  exact (hS.perm v hv).mem_iff.1 (aft_mem (List.idxOf_lt_length_iff.2 hm))
/-- No two darts have the same one behind them. -/
theorem nx_inj (hR : RightG (N : Int) l) (hS : SysR N l r) {d e : Dt} (hd : d ∈ dartsL N l) (he : e ∈ dartsL N l) (h : nxD r d = nxD r e) : d = e := by
  obtain ⟨u, v, rfl, hu, hv, h1, h2⟩ := dart_ends hR hd
  obtain ⟨u', v', rfl, hu', hv', h1', h2'⟩ := dart_ends hR he
  unfold nxD at h
  simp only [Int.toNat_natCast, Prod.mk.injEq] at h
  obtain ⟨e1, e2⟩ := h
  have : v = v' := by omega
  subst this
  have m1 : (u : Int) ∈ r.getD v [] := (hS.perm v hv).mem_iff.2 h1
  have m2 : (u' : Int) ∈ r.getD v [] := (hS.perm v hv).mem_iff.2 h1'
  have l1 := List.idxOf_lt_length_iff.2 m1
  have l2 := List.idxOf_lt_length_iff.2 m2
  have e3 := aft_inj (hS.nodup hR hv) l1 l2 e2
  have g1 := List.getElem_idxOf l1
  have g2 := List.getElem_idxOf l2
  have : (u : Int) = (u' : Int) := by
    rw [← g1, ← g2]
    congr 1
  have : u = u' := by omega
  rw [this]
end
/-! Rounds of any permutation. -/
section
variable {nx : Dt → Dt} {S : List Dt}
/-- It goes on S, one to one. -/
structure PermS (nx : Dt → Dt) (S : List Dt) : Prop where
  mem : ∀ d ∈ S, nx d ∈ S
  inj : ∀ d ∈ S, ∀ e ∈ S, nx d = nx e → d = e
/-- From x on, each the one behind the other; the last one leads to d. -/
def Way (nx : Dt → Dt) (d : Dt) : Dt → List Dt → Prop
  | x, [] => x = d
  | x, y :: L => x = y ∧ Way nx d (nx x) L
theorem Way.snoc {d : Dt} : ∀ {x : Dt} {L : List Dt}, Way nx d x L → Way nx (nx d) x (L ++ [d])
  | x, [], h => ⟨h, by show nx x = nx d; rw [show x = d from h]⟩
  | x, y :: L, h => ⟨h.1, Way.snoc h.2⟩
/-- The round from d on: till it is at d again. -/
def orb (nx : Dt → Dt) (d : Dt) : Nat → Dt → List Dt
  | 0, _ => []
  | k + 1, x => x :: if nx x = d then [] else orb nx d k (nx x)
theorem orb_way {d : Dt} : ∀ {L : List Dt} {x : Dt} {k : Nat}, L ≠ [] → Way nx d x L → (∀ y ∈ L.tail, y ≠ d) → L.length ≤ k → orb nx d k x = L
  | [], _, _, h, _, _, _ => absurd rfl h
  | [y], x, k, _, hw, _, hk => by
    obtain ⟨rfl, h2⟩ := hw
    match k, hk with
    | k + 1, _ =>
      rw [orb, if_pos (show nx x = d from h2)]
  | y :: z :: L, x, k, _, hw, hne, hk => by
    obtain ⟨rfl, h2⟩ := hw
    match k, hk with
    | k + 1, hk =>
      have hz : nx x = z := h2.1
      have hzd : ¬ nx x = d := by rw [hz]; exact hne z (List.mem_cons_self ..)
      rw [orb, if_neg hzd, orb_way (L := z :: L) (by simp) h2 (fun y hy => hne y (List.mem_cons_of_mem _ hy)) (by simpa using hk)]
/-- What has been gone over: whole rounds. -/
structure Shut2 (nx : Dt → Dt) (S met : List Dt) : Prop where
  sub : ∀ d ∈ met, d ∈ S
  fwd : ∀ d ∈ met, nx d ∈ met
  bwd : ∀ d ∈ S, nx d ∈ met → d ∈ met
theorem Way.mem_back {d : Dt} : ∀ {x : Dt} {L : List Dt}, Way nx d x L → ∀ y ∈ L, y = x ∨ ∃ z ∈ L, nx z = y
  | x, [], _, y, hy => by simp at hy
  | x, y :: L, h, z, hz => by
    obtain ⟨rfl, h2⟩ := h
    rcases List.mem_cons.1 hz with rfl | hz
    · exact .inl rfl
    · rcases Way.mem_back h2 z hz with rfl | ⟨t, ht, e⟩
      · exact .inr ⟨x, List.mem_cons_self .., rfl⟩
      · exact .inr ⟨t, List.mem_cons_of_mem _ ht, e⟩
theorem Way.mem_next {d : Dt} : ∀ {x : Dt} {L : List Dt}, Way nx d x L → ∀ y ∈ L, nx y = d ∨ nx y ∈ L
  | x, [], _, y, hy => by simp at hy
  | x, y :: L, h, z, hz => by
    obtain ⟨rfl, h2⟩ := h
    rcases List.mem_cons.1 hz with rfl | hz
    · match L, h2 with
      | [], h2 => exact .inl h2
      | t :: L, h2 => exact .inr (List.mem_cons_of_mem _ (by rw [h2.1]; exact List.mem_cons_self ..))
    · rcases Way.mem_next h2 z hz with h3 | h3
      · exact .inl h3
      · exact .inr (List.mem_cons_of_mem _ h3)
theorem Way.last {d : Dt} : ∀ {x : Dt} {L : List Dt}, L ≠ [] → Way nx d x L → ∃ z ∈ L, nx z = d
  | x, [], h, _ => absurd rfl h
  | x, [y], _, h => ⟨y, List.mem_cons_self .., by obtain ⟨rfl, h2⟩ := h; exact h2⟩
  | x, y :: z :: L, _, h => by
    obtain ⟨t, ht, e⟩ := Way.last (L := z :: L) (by simp) h.2
    exact ⟨t, List.mem_cons_of_mem _ ht, e⟩
theorem Way.head {d x y : Dt} {L : List Dt} (h : Way nx d x (y :: L)) : x = y := h.1
theorem Way.pred {d : Dt} : ∀ {x : Dt} {L : List Dt}, Way nx d x L → ∀ y ∈ L.tail, ∃ A t B, L = A ++ t :: y :: B ∧ nx t = y
  | x, [], _, y, hy => by simp at hy
  | x, [z], _, y, hy => by simp at hy
  | x, z :: t :: L, h, y, hy => by
    obtain ⟨rfl, h2⟩ := h
    have hy' : y ∈ t :: L := hy
    rcases List.mem_cons.1 hy' with rfl | hy'
    · exact ⟨[], x, L, rfl, h2.1⟩
    · obtain ⟨A, u, B, e, hu⟩ := Way.pred h2 y hy'
      exact ⟨x :: A, u, B, by rw [e]; rfl, hu⟩
theorem Way.last2 {d : Dt} : ∀ {x : Dt} {L : List Dt}, L ≠ [] → Way nx d x L → ∃ C z, L = C ++ [z] ∧ nx z = d
  | x, [], h, _ => absurd rfl h
  | x, [y], _, h => ⟨[], y, rfl, by obtain ⟨rfl, h2⟩ := h; exact h2⟩
  | x, y :: z :: L, _, h => by
    obtain ⟨C, t, e, ht⟩ := Way.last2 (L := z :: L) (by simp) h.2
    exact ⟨y :: C, t, by rw [e]; rfl, ht⟩
/-- A way that has come to what was gone over, or to itself, is at its beginning. -/
theorem Way.round (hP : PermS nx S) {met : List Dt} (hM : Shut2 nx S met) {d x : Dt} {L : List Dt} (hne : L ≠ []) (hw : Way nx d x L) (hS : ∀ y ∈ L, y ∈ S) (hn : L.Nodup) (hno : ∀ y ∈ L, y ∉ met) (hd : d ∈ met ∨ d ∈ L) : d = x := by
  obtain ⟨C, z, eC, ez⟩ := hw.last2 hne
  have hz : z ∈ L := by rw [eC]; simp
  rcases hd with hd | hd
  · exact absurd (hM.bwd z (hS z hz) (by rw [ez]; exact hd)) (hno z hz)
  · match L, hne, hd, hw with
    | y :: L', _, hd, hw =>
      rcases List.mem_cons.1 hd with rfl | hd
      · exact hw.1.symm
      · exfalso
        obtain ⟨A, t, B, eA, et⟩ := hw.pred d hd
        have ht : t ∈ y :: L' := by rw [eA]; simp
        have e1 : t = z := hP.inj t (hS t ht) z (hS z hz) (et.trans ez.symm)
        subst e1
        have hl : (C ++ [t]).getLast? = (A ++ t :: d :: B).getLast? := by rw [← eC, ← eA]
        rw [eA] at hn
        have hn2 := (List.nodup_append.1 hn).2.1
        rw [List.nodup_cons] at hn2
        refine hn2.1 ?_
        have h3 : (A ++ t :: d :: B).getLast? = (d :: B).getLast? := by
          rw [show A ++ t :: d :: B = (A ++ [t]) ++ (d :: B) by simp, List.getLast?_append]
          cases hB : (d :: B).getLast? with
          | none => simp at hB
          | some q => rfl
        rw [h3] at hl
        have h4 : (d :: B).getLast? = some t := by rw [← hl]; simp
        exact List.mem_of_getLast? h4
/-- The rounds of the first starts, and what was gone over. -/
def roundsAt (nx : Dt → Dt) (fuel : Nat) (starts : List Dt) : Nat → List (List Dt) × List Dt
  | 0 => ([], [])
  | j + 1 => if (roundsAt nx fuel starts j).2.contains (starts.getD j (0, 0)) then roundsAt nx fuel starts j
    else ((roundsAt nx fuel starts j).1 ++ [orb nx (starts.getD j (0, 0)) fuel (starts.getD j (0, 0))], (roundsAt nx fuel starts j).2 ++ orb nx (starts.getD j (0, 0)) fuel (starts.getD j (0, 0)))
/-- A round that was gone over whole is shut. -/
theorem Shut2.add (hP : PermS nx S) {met : List Dt} (hM : Shut2 nx S met) {d : Dt} {L : List Dt} (hne : L ≠ []) (hw : Way nx d d L) (hS : ∀ y ∈ L, y ∈ S) : Shut2 nx S (met ++ L) := by
  have hd : d ∈ L := by
    match L, hne, hw with
    | y :: L', _, hw => rw [hw.1]; exact List.mem_cons_self ..
  refine ⟨fun y hy => ?_, fun y hy => ?_, fun y hy h => ?_⟩
  · rcases List.mem_append.1 hy with h | h
    · exact hM.sub y h
    · exact hS y h
  · rcases List.mem_append.1 hy with h | h
    · exact List.mem_append_left _ (hM.fwd y h)
    · rcases hw.mem_next y h with h1 | h1
      · rw [h1]; exact List.mem_append_right _ hd
      · exact List.mem_append_right _ h1
  · rcases List.mem_append.1 h with h1 | h1
    · exact List.mem_append_left _ (hM.bwd y hy h1)
    · refine List.mem_append_right _ ?_
      rcases hw.mem_back _ h1 with h2 | ⟨z, hz, ez⟩
      · obtain ⟨z, hz, ez⟩ := hw.last hne
        rw [hP.inj y hy z (hS z hz) (h2.trans ez.symm)]
        exact hz
      · rw [hP.inj y hy z (hS z hz) ez.symm]
        exact hz
/-- While rounds are gone: what is left, the face so far, where it is; j starts are done, the next one under way if the face is not empty or it has just been taken. -/
structure Going (nx : Dt → Dt) (S starts : List Dt) (fuel : Nat) (left face : List Dt) (d : Dt) (j : Nat) : Prop where
  shut : Shut2 nx S (roundsAt nx fuel starts j).2
  nodup : (left ++ (face ++ (roundsAt nx fuel starts j).2)).Nodup
  all : ∀ x, x ∈ S ↔ x ∈ left ∨ x ∈ face ∨ x ∈ (roundsAt nx fuel starts j).2
  len : left.length + face.length + (roundsAt nx fuel starts j).2.length = S.length
  way : face ≠ [] → Way nx d (starts.getD j (0, 0)) face
theorem Going.start (hn : S.Nodup) (d : Dt) (starts : List Dt) (fuel : Nat) : Going nx S starts fuel S [] d 0 := by
  refine ⟨⟨fun d h => by simp [roundsAt] at h, fun d h => by simp [roundsAt] at h, fun d _ h => by simp [roundsAt] at h⟩, by simpa [roundsAt] using hn, fun x => by simp [roundsAt], by simp [roundsAt], fun h => absurd rfl h⟩
theorem Going.take {starts left face : List Dt} {fuel j : Nat} {d : Dt} (h : Going nx S starts fuel left face d j) (hd : d ∈ left) (h0 : face = [] → d = starts.getD j (0, 0)) : Going nx S starts fuel (left.erase d) (face ++ [d]) (nx d) j := by
  have hnl : left.Nodup := (List.nodup_append.1 h.nodup).1
  have hp : (left.erase d ++ (face ++ [d] ++ (roundsAt nx fuel starts j).2)).Perm (left ++ (face ++ (roundsAt nx fuel starts j).2)) := by
    have h1 : left.Perm (d :: left.erase d) := List.perm_cons_erase hd
    have h2 : (face ++ [d] ++ (roundsAt nx fuel starts j).2).Perm (d :: (face ++ (roundsAt nx fuel starts j).2)) := by
      rw [List.append_assoc]
      exact List.perm_middle
    refine ((h2.append_left (left.erase d)).trans ?_).trans (h1.symm.append_right _)
    exact List.perm_middle
  refine ⟨h.shut, hp.nodup_iff.2 h.nodup, fun x => ?_, ?_, fun _ => ?_⟩
  · rw [h.all x]
    have := hp.mem_iff (a := x)
    simp only [List.mem_append] at this
    simp only [List.mem_append]
    constructor
    · intro hx
      rcases this.2 hx with h1 | ⟨h1 | h1⟩ | h1
      · exact .inl h1
      · exact .inr (.inl (.inl h1))
      · exact .inr (.inl (.inr ‹_›))
      · exact .inr (.inr h1)
    · intro hx
      exact this.1 (by
        rcases hx with h1 | h1 | h1
        · exact .inl h1
        · exact .inr (.inl h1)
        · exact .inr (.inr h1))
  · have := h.len
    rw [List.length_erase_of_mem hd, List.length_append, List.length_singleton]
    have := List.length_pos_of_mem hd
    omega
  · by_cases hf : face = []
    · subst hf
      exact ⟨(h0 rfl).symm, by show nx (starts.getD j (0, 0)) = nx d; rw [← h0 rfl]⟩
    · exact (h.way hf).snoc
theorem Going.done (hP : PermS nx S) {starts left face : List Dt} {fuel j : Nat} {d : Dt} (h : Going nx S starts fuel left face d j) (hf : face ≠ []) (hd : d ∉ left) (hdS : d ∈ S) (hfu : S.length ≤ fuel) (d' : Dt) : roundsAt nx fuel starts (j + 1) = ((roundsAt nx fuel starts j).1 ++ [face], (roundsAt nx fuel starts j).2 ++ face) ∧ Going nx S starts fuel left [] d' (j + 1) := by
  have hw := h.way hf
  have hnd := (List.nodup_append.1 h.nodup).2.1
  have hnf : face.Nodup := (List.nodup_append.1 hnd).1
  have hap : ∀ y ∈ face, y ∉ (roundsAt nx fuel starts j).2 := fun y hy hy' => (List.nodup_append.1 hnd).2.2 y hy y hy' rfl
  have hsub : ∀ y ∈ face, y ∈ S := fun y hy => (h.all y).2 (.inr (.inl hy))
  have hdm : d ∈ (roundsAt nx fuel starts j).2 ∨ d ∈ face := by
    rcases (h.all d).1 hdS with h1 | h1 | h1
    · exact absurd h1 hd
    · exact .inr h1
    · exact .inl h1
  have e := Way.round hP h.shut hf hw hsub hnf hap hdm
  rw [e] at hw
  have hst : starts.getD j (0, 0) ∈ face := by
    match face, hf, hw with
    | y :: L, _, hw => rw [hw.1]; exact List.mem_cons_self ..
  have horb : orb nx (starts.getD j (0, 0)) fuel (starts.getD j (0, 0)) = face := by
    refine orb_way hf hw (fun y hy e1 => ?_) (by have := h.len; omega)
    match face, hf, hw, hy, hnf with
    | z :: L, _, hw, hy, hnf =>
      have h1 := hw.1
      rw [e1, h1] at hy
      exact (List.nodup_cons.1 hnf).1 hy
  have hc : (roundsAt nx fuel starts j).2.contains (starts.getD j (0, 0)) = false := by
    rw [List.contains_eq_mem, decide_eq_false_iff_not]
    exact hap _ hst
  have er : roundsAt nx fuel starts (j + 1) = ((roundsAt nx fuel starts j).1 ++ [face], (roundsAt nx fuel starts j).2 ++ face) := by
    rw [roundsAt, hc, horb]
    rfl
  refine ⟨er, ?_⟩
  have hp : (left ++ ([] ++ ((roundsAt nx fuel starts j).2 ++ face))).Perm (left ++ (face ++ (roundsAt nx fuel starts j).2)) := by
    rw [List.nil_append]
    exact List.perm_append_comm.append_left left
  refine ⟨by rw [er]; exact h.shut.add hP hf hw hsub, by rw [er]; exact hp.nodup_iff.2 h.nodup, fun x => ?_, ?_, fun h1 => absurd rfl h1⟩
  · rw [er, h.all x]
    simp only [List.mem_append, List.not_mem_nil, false_or]
    constructor
    · rintro (h1 | h1 | h1)
      · exact .inl h1
      · exact .inr (.inr h1)
      · exact .inr (.inl h1)
    · rintro (h1 | h1 | h1)
      · exact .inl h1
      · exact .inr (.inr h1)
      · exact .inr (.inl h1)
  · rw [er]
    have := h.len
    rw [List.length_append, List.length_nil]
    omega
theorem Going.skip {starts left : List Dt} {fuel j : Nat} {d : Dt} (h : Going nx S starts fuel left [] d j) (hd : d ∉ left) (hdS : d ∈ S) (e : d = starts.getD j (0, 0)) (d' : Dt) : roundsAt nx fuel starts (j + 1) = roundsAt nx fuel starts j ∧ Going nx S starts fuel left [] d' (j + 1) := by
  have hm : d ∈ (roundsAt nx fuel starts j).2 := by
    rcases (h.all d).1 hdS with h1 | h1 | h1
    · exact absurd h1 hd
    · simp at h1
    · exact h1
  have er : roundsAt nx fuel starts (j + 1) = roundsAt nx fuel starts j := by
    rw [roundsAt, if_pos (by rw [List.contains_iff_mem, ← e]; exact hm)]
  exact ⟨er, by rw [er]; exact h.shut, by rw [er]; exact h.nodup, by rw [er]; exact h.all, by rw [er]; exact h.len, fun h1 => absurd rfl h1⟩
end
end Go.Proofs.Yteekhofollaooaa

namespace Go.Proofs.Yteekhofollaooaa
open Go Go.Proofs Go.RowKit

def encD (d : Dt) : Value := .agg #[.int .i64 d.1, .int .i64 d.2]
theorem eqD_run (a b : Dt) (w : World) : (Op.equal 93 (encD a) (encD b)).run Try.prog w = .ok (decide (a = b)) w := by
  have u3 := Try.underlying3
  have a3 := Try.isAgg3
  have z3 := Try.sizeOf3
  have hS : Try.prog.underlying 93 = some (.struct (Try.prog.fieldsOf 93)) := by kernel_rfl
  have hp : Try.prog.stoodInHeld 93 = false := by kernel_rfl
  show (Op.equalIn (9999 + 1) 93 (.agg #[.int .i64 a.1, .int .i64 a.2]) (.agg #[.int .i64 b.1, .int .i64 b.2])).run Try.prog w = _
  rw [run_equalIn_struct w 9999 93 _ _ hS hp]
  simp only [Program.fieldsOf, Try.underlying93]
  go_simp
  obtain ⟨x0, x1⟩ := a
  obtain ⟨y0, y1⟩ := b
  by_cases h0 : x0 = y0 <;> by_cases h1 : x1 = y1 <;> simp [h0, h1]
theorem checkD (w : World) (em : Bool) (d : Dt) : (Instr.checkKey em 10000 93 (encD d)).run Try.prog w = .ok () w := by
  have u3 := Try.underlying3
  have a3 := Try.isAgg3
  have z3 := Try.sizeOf3
  have hd : ∀ k : Nat, (Instr.checkKey em (k + 1 + 1) 93 (encD d)).run Try.prog w = .ok () w := fun k => by
    simp [Instr.checkKey, encD, run_underlying Try.underlying93, run_underlying Try.underlying3]
    go_simp
  exact hd 9998
theorem askD {d : Dt} {w : World} : ∀ (es : List MapEntry) (L : List (Dt × Dt)) (i : Nat), es.map (fun e => (e.key, e.val)) = L.map (fun p => (encD p.1, encD p.2)) →
    (Instr.findAsking 93 (encD d) es i).run Try.prog w = .ok ((L.findIdx? fun p => decide (d = p.1)).map fun k => (i + k, encD (L.getD k ((0, 0), (0, 0))).2)) w
  | [], [], i, _ => by simp [Instr.findAsking]
  | [], p :: L, i, h => by simp at h
  | e :: es, [], i, h => by simp at h
  | e :: es, p :: L, i, h => by
    rw [List.map_cons, List.map_cons, List.cons.injEq, Prod.mk.injEq] at h
    obtain ⟨⟨h1, h2⟩, h3⟩ := h
    have ih := askD (d := d) (w := w) es L (i + 1) h3
    unfold Instr.findAsking
    rw [h1, List.findIdx?_cons]
    by_cases hd : d = p.1
    · simp [eqD_run, hd, h2]
    · simp only [Sem.run_bind, eqD_run, decide_eq_false hd, Result.andThen_ok, Bool.false_eq_true, if_false, ih]
      congr 1
      cases L.findIdx? fun p => decide (d = p.1) with
      | none => rfl
      | some k =>
        simp only [Option.map_some, Option.some.injEq, Prod.mk.injEq, List.getD_cons_succ, and_true]
        omega
theorem findD {d : Dt} {w : World} {es : List MapEntry} {L : List (Dt × Dt)} (h : es.map (fun e => (e.key, e.val)) = L.map (fun p => (encD p.1, encD p.2))) :
    (Instr.findKey 93 (encD d) es).run Try.prog w = .ok ((L.findIdx? fun p => decide (d = p.1)).map fun k => (k, encD (L.getD k ((0, 0), (0, 0))).2)) w := by
  have ha := askD (d := d) (w := w) es L 0 h
  simp only [Nat.zero_add] at ha
  cases es with
  | nil =>
    cases L with
    | nil => simp [Instr.findKey, run_underlying Try.underlying93, Instr.findNow]
    | cons p L => simp at h
  | cons e es =>
    cases L with
    | nil => simp at h
    | cons p L =>
      rw [List.map_cons, List.map_cons, List.cons.injEq, Prod.mk.injEq] at h
      simp [Instr.findKey, run_underlying Try.underlying93, Instr.findNow, Instr.sameNow, encD, h.1.1]
      exact ha
theorem map_er {α β : Type} (f : α → β) : ∀ (l : List α) (k : Nat), (l.eraseIdx k).map f = (l.map f).eraseIdx k
  | [], _ => by simp
  | x :: l, 0 => by simp
  | x :: l, k + 1 => by simp [map_er f l k]
/-- The block m is a map with these entries. -/
def MapD (w : World) (m : Nat) (L : List (Dt × Dt)) : Prop := ∃ es ck, w.heap[m]? = some (.map es ck) ∧ es.toList.map (fun e => (e.key, e.val)) = L.map (fun p => (encD p.1, encD p.2))
theorem MapD.lt {w : World} {m : Nat} {L : List (Dt × Dt)} (h : MapD w m L) : m < w.heap.size := by
  obtain ⟨es, ck, h1, _⟩ := h
  exact (Array.getElem?_eq_some_iff.1 h1).1
theorem MapD.keep {w w' : World} {m : Nat} {L : List (Dt × Dt)} (h : MapD w m L) (hb : w'.heap[m]? = w.heap[m]?) : MapD w' m L := by
  obtain ⟨es, ck, h1, h2⟩ := h
  exact ⟨es, ck, hb.trans h1, h2⟩
theorem MapD.start (w : World) : MapD (w.alloc (.map #[] 0)) w.heap.size [] := ⟨#[], 0, (MapKept.heap_alloc w _).1, rfl⟩
def lkD (L : List (Dt × Dt)) (d : Dt) : Option Dt := (L.find? fun p => decide (d = p.1)).map (·.2)
theorem MapD.lookup {w : World} {m : Nat} {L : List (Dt × Dt)} (h : MapD w m L) (d : Dt) :
    (Instr.lookup 118 (.map (some m)) (encD d) true).run Try.prog w = .ok (.tuple #[encD ((lkD L d).getD (0, 0)), .bool (lkD L d).isSome]) w := by
  obtain ⟨es, ck, h1, h2⟩ := h
  have hf := findD (d := d) (w := w) h2
  have e1 : (L.findIdx? fun p => decide (d = p.1)).isSome = (lkD L d).isSome := by
    unfold lkD
    rw [Option.isSome_map, List.findIdx?_isSome, Bool.eq_iff_iff, List.find?_isSome, List.any_eq_true]
  have e2 : ∀ k, (L.findIdx? fun p => decide (d = p.1)) = some k → lkD L d = some (L.getD k ((0, 0), (0, 0))).2 := fun k hk => by
    obtain ⟨hlt, hp, hno⟩ := List.findIdx?_eq_some_iff_getElem.1 hk
    unfold lkD
    have e : (L.find? fun p => decide (d = p.1)) = some L[k] := List.find?_eq_some_iff_getElem.2 ⟨hp, k, hlt, rfl, fun j hj => by simpa using hno j hj⟩
    rw [e]
    simp [hlt]
  cases hk : L.findIdx? fun p => decide (d = p.1) with
  | none =>
    rw [hk] at hf e1
    have e3 : lkD L d = none := by
      cases hl : lkD L d with
      | none => rfl
      | some x => rw [hl] at e1; cases e1
    simp [Instr.lookup, run_underlying Try.underlying118, MapKept.run_getObj_map h1, checkD, hf, e3]
    rfl
  | some k =>
    rw [hk] at hf
    have e3 := e2 k hk
    simp [Instr.lookup, run_underlying Try.underlying118, MapKept.run_getObj_map h1, checkD, hf, e3]
theorem MapD.update {w : World} {m : Nat} {L : List (Dt × Dt)} (h : MapD w m L) {d : Dt} (hd : ∀ p ∈ L, p.1 ≠ d) (e : Dt) :
    ∃ w', (Instr.mapUpdate 118 (.map (some m)) (encD d) (encD e)).run Try.prog w = .ok () w' ∧ MapD w' m (L ++ [(d, e)]) ∧ w.grownBy w' (some m) := by
  obtain ⟨es, ck, h1, h2⟩ := h
  have hf := findD (d := d) (w := w) h2
  have hno : (L.findIdx? fun p => decide (d = p.1)) = none := by
    rw [List.findIdx?_eq_none_iff]
    intro p hp
    have := hd p hp
    simp
    exact fun e => this e.symm
  rw [hno] at hf
  have hlt := (Array.getElem?_eq_some_iff.1 h1).1
  refine ⟨{ w with heap := w.heap.setIfInBounds m (.map (es.push { key := encD d, val := encD e, born := ck }) (ck + 1)) }, ?_, ⟨es.push { key := encD d, val := encD e, born := ck }, ck + 1, by simp [hlt], ?_⟩, ⟨rfl, rfl, rfl, by simp, fun i _ hi => ?_⟩⟩
  · simp [Instr.mapUpdate, run_underlying Try.underlying118, MapKept.run_getObj_map h1, checkD, hf, MapKept.run_setObj_map _ h1]
  · rw [Array.toList_push, List.map_append, h2, List.map_append]
    rfl
  · have : m ≠ i := fun e => hi (by rw [e])
    simp [this]
theorem MapD.delete {w : World} {m : Nat} {L : List (Dt × Dt)} (h : MapD w m L) (d : Dt) (ty : TypeId) :
    ∃ w', (Builtin.delete_ #[118, 93] ty #[.map (some m), encD d]).run Try.prog w = .ok (.tuple #[]) w' ∧ MapD w' m (L.eraseP fun p => decide (d = p.1)) ∧ w.grownBy w' (some m) := by
  obtain ⟨es, ck, h1, h2⟩ := h
  have hf := findD (d := d) (w := w) h2
  have hlt := (Array.getElem?_eq_some_iff.1 h1).1
  rw [List.eraseP_eq_eraseIdx]
  cases hk : L.findIdx? fun p => decide (d = p.1) with
  | none =>
    rw [hk] at hf
    refine ⟨{ w with heap := w.heap.setIfInBounds m (.map es ck) }, ?_, ⟨es, ck, by simp [hlt], h2⟩, ⟨rfl, rfl, rfl, by simp, fun i _ hi => ?_⟩⟩
    · simp [Builtin.delete_, run_underlying Try.underlying118, MapKept.run_getObj_map h1, checkD, hf, MapKept.run_setObj_map _ h1]
    · have : m ≠ i := fun e => hi (by rw [e])
      simp [this]
  | some k =>
    rw [hk] at hf
    refine ⟨{ w with heap := w.heap.setIfInBounds m (.map (es.eraseIdxIfInBounds k) ck) }, ?_, ⟨es.eraseIdxIfInBounds k, ck, by simp [hlt], ?_⟩, ⟨rfl, rfl, rfl, by simp, fun i _ hi => ?_⟩⟩
    · simp [Builtin.delete_, run_underlying Try.underlying118, MapKept.run_getObj_map h1, checkD, hf, MapKept.run_setObj_map _ h1]
    · rw [Array.toList_eraseIdxIfInBounds, map_er, h2, map_er]
    · have : m ≠ i := fun e => hi (by rw [e])
      simp [this]
end Go.Proofs.Yteekhofollaooaa

namespace Go.Proofs.Yteekhofollaooaa
open Go Go.Proofs Go.RowKit

set_option maxRecDepth 100000 in
set_option maxHeartbeats 2000000 in
theorem after_any (L : List Int) (k : Nat) (hk : k < L.length) (hL : L.length ≤ 4194304) (sv : Value) (m : Nat) (w : World) (h : Ints m w sv L) :
    Calls Try.prog 82 #[sv, .int .i64 (k : Int)] w fun r w' => r = .returned (.int .i64 (aft L k)) ∧ w' = w := by
  obtain ⟨p, c, rfl⟩ := h.len
  obtain ⟨b, off, rfl, hbb, hcap, hc⟩ := h.open hk
  by_cases he : k + 1 = L.length
  · have c0 := hc w (Below.refl _ _) 0 (by omega)
    rw [Nat.add_zero] at c0
    have hE : aft L k = L[0]'(by omega) := by
      unfold aft
      rw [if_pos he, List.getD_eq_getElem?_getD, List.getElem?_eq_getElem (by omega)]
      rfl
    have he' : ((k : Int) == (L.length : Int) - 1) = true := by
      rw [beq_iff_eq]; omega
    have h0 : (0 : Int) < (L.length : Int) := by omega
    rw [hE]
    generalize L[0] = x at *
    clear hE he hc
    go_enter Try.func82, Try.ntmps82
    go_wp2
    go_ret
    exact ⟨rfl, rfl⟩
  · have c0 := hc w (Below.refl _ _) (k + 1) (by omega)
    have hE : aft L k = L[k + 1]'(by omega) := by
      unfold aft
      rw [if_neg he, List.getD_eq_getElem?_getD, List.getElem?_eq_getElem (by omega)]
      rfl
    have he' : ((k : Int) == (L.length : Int) - 1) = false := by
      rw [beq_eq_false_iff_ne]; omega
    have h0 : (k : Int) + 1 < (L.length : Int) := by omega
    rw [hE]
    generalize L[k + 1] = x at *
    clear hE he hc
    go_enter Try.func82, Try.ntmps82
    go_wp2
    go_ret
    exact ⟨rfl, rfl⟩
/-- The entries of one list's first k, and of the first lists. -/
def rowE (L : List Int) (v : Int) (k : Nat) : List (Dt × Dt) := (List.range k).map fun i => ((L.getD i 0, v), (v, aft L i))
theorem rowE_succ (L : List Int) (v : Int) (k : Nat) : rowE L v (k + 1) = rowE L v k ++ [((L.getD k 0, v), (v, aft L k))] := by
  unfold rowE
  rw [List.range_succ, List.map_append]
  rfl
def behL (r : List (List Int)) (j : Nat) : List (Dt × Dt) := (List.range j).flatMap fun (v : Nat) => rowE (r.getD v []) (v : Int) (r.getD v []).length
theorem behL_succ (r : List (List Int)) (j : Nat) : behL r (j + 1) = behL r j ++ rowE (r.getD j []) (j : Int) (r.getD j []).length := by
  unfold behL
  rw [List.range_succ, List.flatMap_append]
  simp
theorem beh_new {r : List (List Int)} {j k : Nat} (hn : (r.getD j []).Nodup) (hk : k < (r.getD j []).length) : ∀ p ∈ behL r j ++ rowE (r.getD j []) (j : Int) k, p.1 ≠ ((r.getD j []).getD k 0, (j : Int)) := by
  intro p hp e
  rcases List.mem_append.1 hp with h | h
  · unfold behL at h
    obtain ⟨v, hv, h⟩ := List.mem_flatMap.1 h
    unfold rowE at h
    obtain ⟨i, _, rfl⟩ := List.mem_map.1 h
    have := congrArg Prod.snd e
    simp only at this
    have := List.mem_range.1 hv
    omega
  · unfold rowE at h
    obtain ⟨i, hi, rfl⟩ := List.mem_map.1 h
    have hi' := List.mem_range.1 hi
    have e1 := congrArg Prod.fst e
    simp only at e1
    clear h hp e
    generalize r.getD j [] = X at *
    have g1 : X.getD i 0 = X[i]'(by omega) := by rw [List.getD_eq_getElem?_getD, List.getElem?_eq_getElem (by omega)]; rfl
    have g2 : X.getD k 0 = X[k] := by rw [List.getD_eq_getElem?_getD, List.getElem?_eq_getElem hk]; rfl
    rw [g1, g2] at e1
    have := (List.getElem_inj hn).1 e1
    omega
/-- 'm[k] = v' at the operation. -/
theorem wpList_putD (w : World) {ops : Array Oper} {rest : List Oper} {o : Oper} {a : Act} {Q : Exit → Act → World → Prop}
    (hg : o.guard = none) (m x v : Operand) (hop : o.op = Op.mapUpdate 118 m x v) (M : Nat) (L : List (Dt × Dt)) (d e : Dt)
    (hm : a.eval m = .map (some M)) (h : MapD w M L) (hd : ∀ p ∈ L, p.1 ≠ d) (hx : a.eval x = encD d) (hv : a.eval v = encD e)
    (hK : ∀ w', MapD w' M (L ++ [(d, e)]) → w.grownBy w' (some M) → wpList Try.prog ops Q rest (a.put o.dst undef) w') :
    wpList Try.prog ops Q (o :: rest) a w := by
  refine wpList_plain hg fun K' hK' => ?_
  obtain ⟨w', hrun, r1, r2⟩ := h.update hd e
  unfold Oper.wp
  simp [execOp, hop, hm, hx, hv, hrun, Result.andThen]
  exact hK' _ _ (hK w' r1 r2)

set_option maxRecDepth 100000 in
set_option maxHeartbeats 4000000 in
theorem behindEach_any (r : List (List Int)) (hr : r.length ≤ 4194304) (hin : ∀ x ∈ r, x.length ≤ 4194304 ∧ x.Nodup) (sz : Nat) (sv : Value) (w : World) (h : Lsts w.heap.size w sv r) :
    Calls Try.prog 72 #[sv, .int .i64 (sz : Int)] w fun e w' => e = .returned (.map (some w.heap.size)) ∧ MapD w' w.heap.size (behL r r.length) ∧ Below w.heap.size w w' := by
  obtain ⟨p, c, rfl⟩ := h.len
  have hmm : (Instr.makeMap 118 (some (.int .i64 (sz : Int)))).run Try.prog w = .ok (.map (some w.heap.size)) (w.alloc (.map #[] 0)) := by
    simp [Instr.makeMap, run_underlying Try.underlying118, asInt]
    rfl
  have hM0 := MapD.start w
  have hbA : Below w.heap.size w (w.alloc (.map #[] 0)) := (Below.refl _ _).alloc (Nat.le_refl _) _
  go_enter Try.func72, Try.ntmps72
  go_wp2
  obtain ⟨m, hm⟩ : ∃ m, m = w.heap.size := ⟨_, rfl⟩
  rw [← hm] at hM0 hbA ⊢
  have HM : Hid (m = w.heap.size) := hm
  have hR0 : Lsts m w (.slice p r.length c) r := by rw [hm]; exact h
  clear hm h
  generalize w.alloc (.map #[] 0) = w1 at *
  go_loopw [14] (fun iv wr => ∃ j : Nat, j ≤ r.length ∧ iv = .int .i64 j ∧ Hid (MapD wr m (behL r j)) ∧ Below m w wr) (fun i _ => r.length - (intOf i).toNat)
  case atStart => exact ⟨0, Nat.zero_le _, rfl, hM0, hbA⟩
  case round =>
    obtain ⟨j, hj, rfl, HMj, hb⟩ := hrel
    by_cases hlt : j < r.length
    · have hjl : (j : Int) < (r.length : Int) := by omega
      have hRj := hR0.below hb
      obtain ⟨b, off, rfl, hbb, hcap, px, cx, hIx, c0⟩ := hRj.cellAt hlt
      obtain ⟨hxl, hxn⟩ := hin r[j] (List.getElem_mem hlt)
      have hg : r.getD j [] = r[j] := by rw [List.getD_eq_getElem?_getD, List.getElem?_eq_getElem hlt]; rfl
      have HNX : Hid (behL r (j + 1) = behL r j ++ rowE r[j] (j : Int) r[j].length) := by rw [Hid, behL_succ, hg]
      have HNW : Hid (∀ k, k < r[j].length → ∀ q ∈ behL r j ++ rowE r[j] (j : Int) k, q.1 ≠ (r[j].getD k 0, (j : Int))) := fun k hk => by
        have := beh_new (r := r) (j := j) (k := k) (by rw [hg]; exact hxn) (by rw [hg]; exact hk)
        rw [hg] at this
        exact this
      clear hg
      generalize r[j] = X at *
      generalize wr = w4 at *
      go_wp2
      go_loopw [21] (fun iv wx => ∃ k : Nat, k ≤ X.length ∧ iv = .int .i64 k ∧ Hid (MapD wx m (behL r j ++ rowE X (j : Int) k)) ∧ Below m w4 wx) (fun i _ => X.length - (intOf i).toNat)
      case atStart => exact ⟨0, Nat.zero_le _, rfl, by unfold Hid rowE; simpa using HMj.out, Below.refl _ _⟩
      case round =>
        obtain ⟨k, hk, rfl, HMk, hbk⟩ := hrel
        by_cases hkl : k < X.length
        · have hkl' : (k : Int) < (X.length : Int) := by omega
          have hIk := hIx.below hbk
          obtain ⟨b2, off2, hpx, hbb2, hcap2, hc2⟩ := hIk.open hkl
          have c2 := hc2 wr (Below.refl _ _) k hkl
          have hxe : X[k] = X.getD k 0 := by rw [List.getD_eq_getElem?_getD, List.getElem?_eq_getElem hkl]; rfl
          have haf := after_any X k hkl hxl _ _ _ hIk
          have HRS : Hid (rowE X (j : Int) (k + 1) = rowE X (j : Int) k ++ [((X[k], (j : Int)), ((j : Int), aft X k))]) := by rw [Hid, rowE_succ, hxe]
          have hnw := HNW.out k hkl
          rw [← hxe] at hnw
          have HNK : Hid _ := hnw
          subst hpx
          clear hxe hnw hc2 hIk
          generalize X[k] = x at *
          generalize aft X k = y at *
          go_wp2_with fail
          refine haf.mono ?_
          clear haf
          rintro e w9 ⟨rfl, rfl⟩
          have hMk := HMk.out
          have hnk := HNK.out
          go_wp2_with (at_mapUpdate; refine wpList_putD _ rfl _ _ _ rfl m (behL r j ++ rowE X (j : Int) k) (x, (j : Int)) ((j : Int), y) rfl hMk hnk rfl rfl ?_; intro w5 hM5 hg5)
          have HM5 : Hid (MapD w5 m (behL r j ++ rowE X (j : Int) (k + 1))) := by rw [Hid, HRS.out, ← List.append_assoc]; exact hM5
          have hb5 : Below m w4 w5 := hbk.grown hg5 (by have := hbk.size; have := hMk.lt; omega) (fun q e => by cases e; exact Nat.le_refl _)
          clear hM5 hg5 hMk hnk HMk HNK
          go_wp2
          exact ⟨⟨k + 1, by omega, by go_num, HM5, hb5⟩, by simp [intOf]; omega⟩
        · obtain rfl : k = X.length := by omega
          have hkl' : ¬ (X.length : Int) < (X.length : Int) := by omega
          go_wp2
          exact ⟨⟨j + 1, by omega, by go_num, by rw [HNX.out]; exact HMk.out, hb.trans hbk⟩, by simp [intOf]; omega⟩
    · obtain rfl : j = r.length := by omega
      have hjl : ¬ (r.length : Int) < (r.length : Int) := by omega
      go_wp2
      go_ret
      exact ⟨by rw [HM.out]; rfl, by rw [← HM.out]; exact HMj.out, by rw [← HM.out]; exact hb⟩
end Go.Proofs.Yteekhofollaooaa

namespace Go.Proofs.Yteekhofollaooaa
open Go Go.Proofs Go.RowKit

theorem infoDt : (Try.prog.info? 93).map (fun i => (i.zero, i.size, i.bytes)) = some (some (.agg #[.int .i64 0, .int .i64 0]), 2, 16) := by kernel_rfl
def encDc (d : Dt) : List Value := [.int .i64 d.1, .int .i64 d.2]
def flatD (L : List Dt) : List Value := L.flatMap encDc
theorem flatD_snoc (L : List Dt) (d : Dt) : flatD (L ++ [d]) = flatD L ++ encDc d := by simp [flatD]
theorem flatD_at : ∀ {L : List Dt} {j : Nat} {x : Dt}, L[j]? = some x → (flatD L)[j * 2]? = some (.int .i64 x.1) ∧ (flatD L)[j * 2 + 1]? = some (.int .i64 x.2)
  | [], j, x, h => by simp at h
  | y :: L, 0, x, h => by
    have : y = x := by simpa using h
    subst this
    exact ⟨rfl, rfl⟩
  | y :: L, j + 1, x, h => by
    have h' : L[j]? = some x := by simpa using h
    obtain ⟨h1, h2⟩ := flatD_at h'
    have e : flatD (y :: L) = [.int .i64 y.1, .int .i64 y.2] ++ flatD L := rfl
    rw [e, List.getElem?_append_right (by simp; omega), List.getElem?_append_right (by simp; omega)]
    have e1 : (j + 1) * 2 - [Value.int .i64 y.1, Value.int .i64 y.2].length = j * 2 := by simp; omega
    have e2 : (j + 1) * 2 + 1 - [Value.int .i64 y.1, Value.int .i64 y.2].length = j * 2 + 1 := by simp; omega
    rw [e1, e2]
    exact ⟨h1, h2⟩
/-- A slice of darts. -/
def Drts (n : Nat) (W : World) (sv : Value) (L : List Dt) : Prop :=
  ((∃ p c, sv = .slice p 0 c) ∧ L = []) ∨ ∃ b off cap, sv = .slice (some ⟨b, off, none⟩) L.length cap ∧ b < n ∧ L.length ≤ cap ∧ ∀ j x, L[j]? = some x → W.cell? ⟨b, off + j * 2, none⟩ = some (.int .i64 x.1) ∧ W.cell? ⟨b, off + j * 2 + 1, none⟩ = some (.int .i64 x.2)
theorem Drts.below {n : Nat} {W W' : World} {sv : Value} {L : List Dt} (h : Drts n W sv L) (hb : Below n W W') : Drts n W' sv L := by
  rcases h with h | ⟨b, off, cap, h1, h2, h3, h4⟩
  · exact .inl h
  · exact .inr ⟨b, off, cap, h1, h2, h3, fun j x hx => ⟨(hb.cell (p := ⟨b, _, none⟩) h2).trans (h4 j x hx).1, (hb.cell (p := ⟨b, _, none⟩) h2).trans (h4 j x hx).2⟩⟩
theorem Drts.mono {n m : Nat} {W : World} {sv : Value} {L : List Dt} (h : Drts n W sv L) (hb : n ≤ m) : Drts m W sv L := by
  rcases h with h | ⟨b, off, cap, h1, h2, h3, h4⟩
  · exact .inl h
  · exact .inr ⟨b, off, cap, h1, Nat.lt_of_lt_of_le h2 hb, h3, h4⟩
theorem Drts.go {W W' : World} {sv : Value} {L : List Dt} (h : Drts W.heap.size W sv L) (hb : Below W.heap.size W W') : Drts W'.heap.size W' sv L := (h.below hb).mono hb.size
theorem Drts.len {n : Nat} {W : World} {sv : Value} {L : List Dt} (h : Drts n W sv L) : ∃ p c, sv = .slice p L.length c := by
  rcases h with ⟨⟨p, c, rfl⟩, rfl⟩ | ⟨b, off, cap, rfl, _⟩ <;> exact ⟨_, _, rfl⟩
theorem Drts.cellAt {n : Nat} {w : World} {p : Option Addr} {c : Nat} {L : List Dt} (h : Drts n w (.slice p L.length c) L) {j : Nat} (hj : j < L.length) :
    ∃ b off, p = some ⟨b, off, none⟩ ∧ b < n ∧ L.length ≤ c ∧ w.cell? ⟨b, off + j * 2, none⟩ = some (.int .i64 L[j].1) ∧ w.cell? ⟨b, off + j * 2 + 1, none⟩ = some (.int .i64 L[j].2) := by
  rcases h with ⟨_, h0⟩ | ⟨b, off, cap, h1, h2, h3, h4⟩
  · subst h0; simp at hj
  · simp only [Value.slice.injEq] at h1
    obtain ⟨rfl, _, rfl⟩ := h1
    obtain ⟨h5, h6⟩ := h4 j _ (List.getElem?_eq_getElem hj)
    exact ⟨b, off, rfl, h2, h3, h5, h6⟩
theorem Drts.of_owns {W : World} {base : Nat} {e : TypeId} {v : Value} {L : List Dt} (h : W.ownsRow base e 2 v L.length (flatD L)) : Drts W.heap.size W v L := by
  rcases h.2 with ⟨rfl, h0⟩ | ⟨g, cap, cur, rfl, hb, hg, hn, hc⟩
  · exact .inl ⟨⟨_, _, rfl⟩, List.eq_nil_of_length_eq_zero h0⟩
  · refine .inr ⟨g, 0, cap, rfl, (Array.getElem?_eq_some_iff.1 hg).1, hn, fun j x hx => ?_⟩
    obtain ⟨k0, k1⟩ := flatD_at hx
    have c0 := h.cells (g := g) rfl (j * 2) _ k0
    have c1 := h.cells (g := g) rfl (j * 2 + 1) _ k1
    rw [Go.WideShapes.add_plain] at c0 c1
    exact ⟨c0, c1⟩
theorem newsD {w : World} {t : TypeId} (d : Dt) : ∀ (i : Nat) (u : Value), (encDc d)[i]? = some u → (w.alloc (.cells #[.int .i64 d.1, .int .i64 d.2] t)).cell? ((⟨w.heap.size, 0, none⟩ : Addr).add i) = some u := by
  intro i u h
  match i, h with
  | 0, h =>
    have : u = .int .i64 d.1 := by simpa [encDc] using h.symm
    subst this
    simp [Addr.add]
  | 1, h =>
    have : u = .int .i64 d.2 := by simpa [encDc] using h.symm
    subst this
    simp [Addr.add]
  | i + 2, h => simp [encDc] at h
theorem oneD (d : Dt) : ∀ u ∈ encDc d, u.oneCell' = true := by
  intro u hu
  simp only [encDc, List.mem_cons, List.not_mem_nil, or_false] at hu
  rcases hu with rfl | rfl <;> rfl
theorem dartsL_succ (l : List Ed) (j : Nat) : dartsL (j + 1) l = dartsL j l ++ (nb l (j : Int)).map fun v => ((j : Int), v) := by
  unfold dartsL
  rw [List.range_succ, List.flatMap_append]
  simp
theorem dartsL_few {l : List Ed} (hm : l.length ≤ 4194304) : ∀ j, (dartsL j l).length ≤ j * 4194304
  | 0 => by simp [dartsL]
  | j + 1 => by
    have := dartsL_few hm j
    have := nb_len (j : Int) l
    rw [dartsL_succ, List.length_append, List.length_map]
    omega

theorem NearI.grown {N g h0 : Nat} {bs : List Nat} {deg : Nat → Nat} {pre : Nat → List Int} {A B : World} {q : Option Nat} (h : NearI N g h0 bs deg pre A) (hg : A.grownBy B q) (h1 : some g ≠ q) (h2 : ∀ v, v < N → some (bs.getD v 0) ≠ q) : NearI N g h0 bs deg pre B :=
  ⟨h.len, h.inj, h.low, h.out, h.row.grown hg h1, fun v hv => owns_keep (h.own v hv) hg (.inr (h2 v hv))⟩
def preD (l : List Ed) (j k : Nat) : List Dt := dartsL j l ++ ((nb l (j : Int)).take k).map fun v => ((j : Int), v)
theorem preD_zero (l : List Ed) (j : Nat) : preD l j 0 = dartsL j l := by simp [preD]
theorem preD_full (l : List Ed) (j : Nat) : preD l j (nb l (j : Int)).length = dartsL (j + 1) l := by unfold preD; rw [List.take_length, dartsL_succ]
theorem preD_step {l : List Ed} {j k : Nat} (h : k < (nb l (j : Int)).length) : preD l j (k + 1) = preD l j k ++ [((j : Int), (nb l (j : Int))[k])] := by
  unfold preD
  rw [List.take_add_one, List.getElem?_eq_getElem h, List.map_append, List.append_assoc]
  rfl
theorem preD_few {l : List Ed} (hm : l.length ≤ 4194304) (j k : Nat) : (preD l j k).length ≤ (j + 1) * 4194304 := by
  unfold preD
  have := dartsL_few hm j
  have := nb_len (j : Int) l
  rw [List.length_append, List.length_map, List.length_take]
  omega

set_option maxRecDepth 100000 in
set_option maxHeartbeats 4000000 in
theorem darts_any (N : Nat) (l : List Ed) (hR : RightG (N : Int) l) (sv : Value) (w : World) (hl : Edges w.heap.size w sv l) :
    Calls Try.prog 73 #[.agg #[.int .i64 (N : Int), sv]] w fun r w' => ∃ dv, r = .returned dv ∧ w'.ownsRow w.heap.size 93 2 dv (dartsL N l).length (flatD (dartsL N l)) ∧ Below w.heap.size w w' := by
  obtain ⟨p, c, rfl⟩ := hl.len
  have hg1 : Grew w (w.alloc (.cells #[.int .i64 (N : Int), .slice p l.length c] 24)) := (Grew.refl w).alloc _
  have hX1 : Blk 24 (w.alloc (.cells #[.int .i64 (N : Int), .slice p l.length c] 24)) w.heap.size [.int .i64 (N : Int), .slice p l.length c] := heap_alloc_new w _
  obtain ⟨i0, hi, hz0, hz1, hz2⟩ := info_parts infoDt
  have hn1 := hR.n1
  have hm1 := hR.m1
  have q0 := hX1.cell (j := 0) rfl
  have q1 := hX1.cell (j := 1) rfl
  have hs1 : (w.alloc (.cells #[.int .i64 (N : Int), .slice p l.length c] 24)).heap.size = w.heap.size + 1 := by simp
  go_enter Try.func73, Try.ntmps73
  go_wp2_with (at_make; refine wpList_make_own _ rfl _ _ 91 rfl w.heap.size 93 i0 (.agg #[.int .i64 0, .int .i64 0]) 2 Try.underlying91 hi hz0 hz1 .i64 .i64 _ (2 * l.length) rfl rfl (by go_num) (by rw [hz2]; omega) (by unfold maxLen; omega) (by rw [hs1]; omega) ?_; intro w3 hown hgrow; have hb3 : Below (w.heap.size + 1) (w.alloc (.cells #[.int .i64 (N : Int), .slice p l.length c] 24)) w3 := (Below.refl _ _).grown hgrow (by rw [hs1]; exact Nat.le_refl _) (fun k e => by cases e); have x0 := (hb3.cell (p := ⟨w.heap.size, 0, none⟩) (by simp only; omega)).trans q0; have x1 := (hb3.cell (p := ⟨w.heap.size, 1, none⟩) (by simp only; omega)).trans q1; have hbw3 : Below w.heap.size w w3 := hg1.below.trans (hb3.mono (by omega)); have hnr := near_at N l hR _ _ (hl.go hbw3); rw [hs1] at hown; have hsz3 : w.heap.size + 1 < w3.heap.size := (hown.lt _ rfl).2)
  clear hgrow hb3 hX1 hg1 hs1 q0 q1
  go_wp2_with fail
  refine hnr.mono ?_
  clear hnr
  rintro e w4 ⟨gn, hn0, bsn, degn, rfl, hN4, hgn, hb4⟩
  have hbw4 := hbw3.trans (hb4.mono hbw3.size)
  have hown4 := owns_below hown hb4
  have hn40 := hb4.size
  have hb30 := hbw3.size
  clear hown hb4 x0 x1 hbw3
  go_wp2
  go_loopw [3, 16] (fun ov iv wr => ∃ j : Nat, j ≤ N ∧ iv = .int .i64 j ∧ wr.ownsRow w.heap.size 93 2 ov (dartsL j l).length (flatD (dartsL j l)) ∧ NearI N gn hn0 bsn degn (fun v => nb l (v : Int)) wr ∧ (ov.ownBlock = some (w.heap.size + 1) ∨ ∃ q, ov.ownBlock = some q ∧ w4.heap.size ≤ q) ∧ Below w.heap.size w wr ∧ w4.heap.size ≤ wr.heap.size) (fun _ iv _ => N - (intOf iv).toNat)
  case atStart => exact ⟨0, Nat.zero_le _, rfl, hown4, hN4, .inl rfl, hbw4, Nat.le_refl _⟩
  case round =>
    obtain ⟨j, hj, rfl, hown, hNr, hob, hb, hsr⟩ := hrel
    have hfew := dartsL_few hm1 j
    obtain ⟨ax, cx, rfl⟩ := owns_formP hown
    by_cases hlt : j < N
    · have hjl : (j : Int) < (N : Int) := by omega
      have c0 := hNr.row.cell (rowsV_at hlt)
      obtain ⟨bj, HBJ⟩ : ∃ bj, Hid (bsn.getD j 0 = bj) := ⟨_, rfl⟩
      rw [HBJ.out] at c0
      have hgn4 := hN4.row.lt
      have HBS4 : Hid (∀ v, v < N → bsn.getD v 0 < w4.heap.size) := fun v hv => ((hN4.own v hv).lt _ rfl).2
      have HBSL : Hid (∀ v, v < N → hn0 ≤ bsn.getD v 0) := hN4.low
      have hno := hN4.out
      rw [← preD_zero] at hown hob ⊢
      have HFL : Hid _ := preD_full l j
      have hnl := nb_len (j : Int) l
      generalize wr = w5 at *
      go_wp2
      go_loopw [3, 23] (fun ov iv wr => ∃ k : Nat, k ≤ (nb l (j : Int)).length ∧ iv = .int .i64 k ∧ wr.ownsRow w.heap.size 93 2 ov (preD l j k).length (flatD (preD l j k)) ∧ NearI N gn hn0 bsn degn (fun v => nb l (v : Int)) wr ∧ (ov.ownBlock = some (w.heap.size + 1) ∨ ∃ q, ov.ownBlock = some q ∧ w4.heap.size ≤ q) ∧ Below w.heap.size w wr ∧ w4.heap.size ≤ wr.heap.size) (fun _ iv _ => (nb l (j : Int)).length - (intOf iv).toNat)
      case atStart => exact ⟨0, Nat.zero_le _, rfl, hown, hNr, hob, hb, hsr⟩
      case round =>
        obtain ⟨k, hk, rfl, hownk, hNk, hobk, hbk, hsk⟩ := hrel
        have hfk := preD_few hm1 j k
        obtain ⟨ay, cy, rfl⟩ := owns_formP hownk
        by_cases hkl : k < (nb l (j : Int)).length
        · have hkl' : (k : Int) < ((nb l (j : Int)).length : Int) := by omega
          obtain ⟨rest, hBk, hnk, hck, hmk, hbk2⟩ := owns_ints (hNk.own j hlt)
          rw [HBJ.out] at hBk
          have c1 : wr.cell? ⟨bj, k, none⟩ = some (.int .i64 (nb l (j : Int))[k]) := hBk.cell (by rw [List.getElem?_append_left (by simpa using hkl), List.getElem?_map, List.getElem?_eq_getElem hkl]; rfl)
          have HST : Hid _ := preD_step hkl
          generalize (nb l (j : Int))[k] = x at *
          generalize preD l j k = R at *
          have hbA : wr.grownBy (wr.alloc (.cells #[.int .i64 (j : Int), .int .i64 x] 93)) none := World.grownBy_alloc _ _ _
          have hownA := hownk.alloc (.cells #[.int .i64 (j : Int), .int .i64 x] 93)
          have hnews := newsD (w := wr) (t := 93) ((j : Int), x)
          have hone := oneD ((j : Int), x)
          have hmx : R.length + 1 ≤ maxLen := by unfold maxLen; omega
          have hby : (R.length + 1) * 16 ≤ 140737488355328 := by omega
          have hbs : w.heap.size ≤ (wr.alloc (.cells #[.int .i64 (j : Int), .int .i64 x] 93)).heap.size := by have := hbk.size; simp; omega
          have hlow : ∀ q, (Value.slice ay R.length cy).ownBlock = some q → w.heap.size ≤ q := fun q hq => (hownk.lt q hq).1
          go_wp2_with (at_builtin; refine wpList_append_own_at _ rfl _ _ 91 rfl w.heap.size 93 i0 (.agg #[.int .i64 0, .int .i64 0]) 2 16 Try.underlying91 hi hz0 hz1 hz2 rfl (by decide) (.slice ay R.length cy) _ _ rfl hownA ⟨wr.heap.size, 0, none⟩ 1 1 (encDc ((j : Int), x)) rfl rfl hnews hone hmx hby hbs ?_)
          intro v7 w7 hown7 hg7 hnil7 hat7
          obtain ⟨a7, m7, k7, rfl⟩ := owns_slice hown7
          have hb7 : Below w.heap.size w w7 := (hbk.alloc hbk.size _).grown hg7 hbs hlow
          have hown7' : w7.ownsRow w.heap.size 93 2 (.slice a7 m7 k7) (R ++ [((j : Int), x)]).length (flatD (R ++ [((j : Int), x)])) := by
            rw [List.length_append, flatD_snoc]; exact hown7
          have hg17 : wr.grownBy w7 (Value.slice ay R.length cy).ownBlock := ⟨hg7.os, hg7.tape, hg7.output, Nat.le_trans hbA.size hg7.size, fun q hq hne => (hg7.block q (Nat.lt_of_lt_of_le hq hbA.size) hne).trans (hbA.block q hq (by simp))⟩
          have hNx : NearI N gn hn0 bsn degn (fun v => nb l (v : Int)) w7 := by
            refine hNk.grown hg17 ?_ ?_
            · rcases hobk with h1 | ⟨q, h1, h2⟩
              · rw [h1]; simp; omega
              · rw [h1]; simp; omega
            · intro v hv
              have g1 := HBS4.out v hv
              have g2 := HBSL.out v hv
              rcases hobk with h1 | ⟨q, h1, h2⟩
              · rw [h1]; intro e; have := Option.some.inj e; omega
              · rw [h1]; intro e; have := Option.some.inj e; omega
          have hob7 : (Value.slice a7 m7 k7).ownBlock = some (w.heap.size + 1) ∨ ∃ q, (Value.slice a7 m7 k7).ownBlock = some q ∧ w4.heap.size ≤ q := by
            rcases hat7 with h1 | h1
            · rw [h1]; exact hobk
            · right
              refine ⟨_, h1, ?_⟩
              omega
          have hs7 : w4.heap.size ≤ w7.heap.size := Nat.le_trans hsk hg17.size
          clear hown7 hg7 hnil7 hat7 hownA hnews hone hg17 hbA
          go_wp2
          exact ⟨⟨k + 1, by omega, by go_num, by rw [HST.out]; exact hown7', hNx, hob7, hb7, hs7⟩, by simp [intOf]; omega⟩
        · obtain rfl : k = (nb l (j : Int)).length := by omega
          have hkl' : ¬ ((nb l (j : Int)).length : Int) < ((nb l (j : Int)).length : Int) := by omega
          rw [HFL.out] at hownk hobk ⊢
          go_wp2
          exact ⟨⟨j + 1, by omega, by go_num, hownk, hNk, hobk, hbk, hsk⟩, by simp [intOf]; omega⟩
    · obtain rfl : j = N := by omega
      have hjl : ¬ (j : Int) < (j : Int) := by omega
      obtain ⟨m, HM⟩ : ∃ m, Hid ((dartsL j l).length = m) := ⟨_, rfl⟩
      rw [HM.out] at hown ⊢
      go_wp2
      go_ret
      exact ⟨.slice ax m cx, rfl, by rw [HM.out]; exact hown, hb⟩
end Go.Proofs.Yteekhofollaooaa

namespace Go.Proofs.Yteekhofollaooaa
open Go Go.Proofs

def leftE (nx : Dt → Dt) (L : List Dt) : List (Dt × Dt) := L.map fun x => (x, nx x)
theorem lk_left {nx : Dt → Dt} {d : Dt} : ∀ (L : List Dt), lkD (leftE nx L) d = if d ∈ L then some (nx d) else none
  | [] => by simp [lkD, leftE]
  | x :: L => by
    have ih := lk_left (nx := nx) (d := d) L
    unfold lkD leftE at *
    rw [List.map_cons, List.find?_cons]
    by_cases h : d = x
    · subst h
      simp
    · rw [show decide (d = (x, nx x).1) = false from decide_eq_false h]
      simp only [ih, List.mem_cons, h, false_or]
theorem er_left {nx : Dt → Dt} {d : Dt} : ∀ (L : List Dt), (leftE nx L).eraseP (fun p => decide (d = p.1)) = leftE nx (L.erase d)
  | [] => by simp [leftE]
  | x :: L => by
    have ih := er_left (nx := nx) (d := d) L
    unfold leftE at *
    rw [List.map_cons, List.eraseP_cons, List.erase_cons]
    by_cases h : d = x
    · subst h
      simp
    · have h' : ¬ (x == d) = true := by rw [beq_iff_eq]; exact fun e => h e.symm
      rw [show decide (d = (x, nx x).1) = false from decide_eq_false h, if_neg h', List.map_cons, ← ih]
      rfl
/-- All darts, by what they lead to. -/
def keysR (r : List (List Int)) (N : Nat) : List Dt := (List.range N).flatMap fun (v : Nat) => (r.getD v []).map fun u => (u, (v : Int))
theorem keysR_succ (r : List (List Int)) (j : Nat) : keysR r (j + 1) = keysR r j ++ (r.getD j []).map fun u => (u, (j : Int)) := by
  unfold keysR
  rw [List.range_succ, List.flatMap_append]
  simp
section
variable {N : Nat} {l : List Ed} {r : List (List Int)}
theorem row_left {L : List Int} (hn : L.Nodup) {v : Nat} (hL : r.getD v [] = L) : rowE L (v : Int) L.length = leftE (nxD r) (L.map fun u => (u, (v : Int))) := by
  unfold rowE leftE
  rw [List.map_map]
  apply List.ext_getElem
  · simp
  · intro i h1 h2
    have hi : i < L.length := by simpa using h1
    simp only [List.getElem_map, List.getElem_range, Function.comp]
    unfold nxD
    simp only [Int.toNat_natCast, hL]
    have e1 : L.getD i 0 = L[i] := by rw [List.getD_eq_getElem?_getD, List.getElem?_eq_getElem hi]; rfl
    rw [e1, hn.idxOf_getElem i hi]
theorem beh_left (hS : SysR N l r) (hR : RightG (N : Int) l) : ∀ {j : Nat}, j ≤ N → behL r j = leftE (nxD r) (keysR r j)
  | 0, _ => rfl
  | j + 1, h => by
    rw [behL_succ, keysR_succ, beh_left hS hR (by omega), row_left (r := r) (v := j) (hS.nodup hR (by omega)) rfl]
    unfold leftE
    rw [List.map_append]
theorem keysR_mem (hS : SysR N l r) {d : Dt} : d ∈ keysR r N ↔ ∃ v : Nat, v < N ∧ d.2 = (v : Int) ∧ d.1 ∈ nb l (v : Int) := by
  unfold keysR
  rw [List.mem_flatMap]
  constructor
  · rintro ⟨v, hv, h⟩
    obtain ⟨u, hu, rfl⟩ := List.mem_map.1 h
    have hv' := List.mem_range.1 hv
    exact ⟨v, hv', rfl, (hS.perm v hv').mem_iff.1 hu⟩
  · rintro ⟨v, hv, h1, h2⟩
    exact ⟨v, List.mem_range.2 hv, List.mem_map.2 ⟨d.1, (hS.perm v hv).mem_iff.2 h2, by rw [← h1]⟩⟩
theorem keys_darts (hS : SysR N l r) (hR : RightG (N : Int) l) {d : Dt} : d ∈ keysR r N ↔ d ∈ dartsL N l := by
  rw [keysR_mem hS, dartsL_mem]
  constructor
  · rintro ⟨v, hv, h1, h2⟩
    obtain ⟨h3, h4, h5, _⟩ := nb_mutual hR h2
    have e : ((d.1.toNat : Nat) : Int) = d.1 := by omega
    refine ⟨d.1.toNat, by omega, by omega, ?_⟩
    rw [h1, e]
    exact h3
  · rintro ⟨u, hu, h1, h2⟩
    obtain ⟨h3, h4, h5, _⟩ := nb_mutual hR h2
    have e : ((d.2.toNat : Nat) : Int) = d.2 := by omega
    refine ⟨d.2.toNat, by omega, by omega, ?_⟩
    rw [h1, e]
    exact h3
theorem keysR_nodup (hS : SysR N l r) (hR : RightG (N : Int) l) : (keysR r N).Nodup := by
  unfold keysR List.Nodup
  rw [List.pairwise_flatMap]
  refine ⟨fun v hv => ?_, ?_⟩
  · refine List.Pairwise.map _ (fun a b h => ?_) (hS.nodup hR (List.mem_range.1 hv))
    intro e
    exact h (congrArg Prod.fst e)
  · refine List.nodup_range.imp fun {a b} hab => ?_
    intro x hx y hy e
    obtain ⟨u, _, rfl⟩ := List.mem_map.1 hx
    obtain ⟨u', _, rfl⟩ := List.mem_map.1 hy
    have := congrArg Prod.snd e
    simp only at this
    omega
theorem keysR_len (hS : SysR N l r) : ∀ {j : Nat}, j ≤ N → (keysR r j).length = degS l j
  | 0, _ => rfl
  | j + 1, h => by
    rw [keysR_succ, List.length_append, List.length_map, keysR_len hS (by omega), (hS.perm j (by omega)).length_eq]
    rfl
theorem sys_perm (hS : SysR N l r) (hR : RightG (N : Int) l) : PermS (nxD r) (keysR r N) :=
  ⟨fun _ h => (keys_darts hS hR).2 (nx_mem hR hS ((keys_darts hS hR).1 h)), fun _ h _ h' => nx_inj hR hS ((keys_darts hS hR).1 h) ((keys_darts hS hR).1 h')⟩
theorem dart_zero (hR : RightG (N : Int) l) : ((0 : Int), (0 : Int)) ∉ dartsL N l := fun h => by
  obtain ⟨u, _, h1, h2⟩ := dartsL_mem.1 h
  have := (nb_mutual hR h2).2.2.2
  exact this h1
end
end Go.Proofs.Yteekhofollaooaa

namespace Go.Proofs.Yteekhofollaooaa
open Go Go.Proofs Go.RowKit

/-- B is as A but in X, and for what is new. -/
structure Chg (X : Nat → Prop) (A B : World) : Prop where
  os : B.os = A.os
  tape : B.tape = A.tape
  output : B.output = A.output
  size : A.heap.size ≤ B.heap.size
  block : ∀ q, q < A.heap.size → ¬ X q → B.heap[q]? = A.heap[q]?
theorem Chg.refl (X : Nat → Prop) (A : World) : Chg X A A := ⟨rfl, rfl, rfl, Nat.le_refl _, fun _ _ _ => rfl⟩
theorem Chg.trans {X : Nat → Prop} {A B C : World} (h : Chg X A B) (k : Chg X B C) : Chg X A C :=
  ⟨k.os.trans h.os, k.tape.trans h.tape, k.output.trans h.output, Nat.le_trans h.size k.size, fun q hq hx => (k.block q (Nat.lt_of_lt_of_le hq h.size) hx).trans (h.block q hq hx)⟩
theorem Chg.of_below {X : Nat → Prop} {A B : World} (h : Below A.heap.size A B) : Chg X A B := ⟨h.os, h.tape, h.output, h.size, fun q hq _ => h.block q hq⟩
theorem Chg.of_grown {X : Nat → Prop} {A B : World} {r : Option Nat} (h : A.grownBy B r) (hr : ∀ q, r = some q → X q) : Chg X A B := ⟨h.os, h.tape, h.output, h.size, fun q hq hx => h.block q hq (fun e => hx (hr q e.symm))⟩
theorem Chg.of_set {X : Nat → Prop} {A : World} {p : Addr} (hp : X p.block) (v : Value) : Chg X A (A.setCell p v) := ⟨rfl, rfl, rfl, by simp, fun q _ hx => Below.heap_setCell _ _ _ _ (fun e => hx (by rw [e]; exact hp))⟩
theorem owns_same {A B : World} {base : Nat} {e : TypeId} {size : Nat} {v : Value} {n : Nat} {xs : List Value} (h : A.ownsRow base e size v n xs) (hb : ∀ q, v.ownBlock = some q → B.heap[q]? = A.heap[q]?) : B.ownsRow base e size v n xs := by
  obtain ⟨h1, h2⟩ := h
  refine ⟨h1, ?_⟩
  rcases h2 with h2 | ⟨g, cap, cur, hv, hb2, hg, r⟩
  · exact .inl h2
  · exact .inr ⟨g, cap, cur, hv, hb2, (hb g (by rw [hv]; rfl)).trans hg, r⟩
theorem owns_zero {A : World} {base : Nat} {e : TypeId} {size n c : Nat} {p : Option Addr} {xs : List Value} (h : A.ownsRow base e size (.slice p n c) n xs) : A.ownsRow base e size (.slice p 0 c) 0 [] := by
  obtain ⟨h1, h2⟩ := h
  refine ⟨by simp, ?_⟩
  rcases h2 with ⟨h2, _⟩ | ⟨g, cap, cur, hv, hb2, hg, h3, h4, h5, h6⟩
  · simp only [Value.slice.injEq] at h2
    obtain ⟨rfl, _, rfl⟩ := h2
    exact .inl ⟨rfl, rfl⟩
  · simp only [Value.slice.injEq] at hv
    obtain ⟨rfl, _, rfl⟩ := hv
    exact .inr ⟨g, c, cur, rfl, hb2, hg, Nat.zero_le _, h4, h5, by simp⟩
theorem owns_blk {A : World} {base : Nat} {e : TypeId} {size : Nat} {v : Value} {n : Nat} {xs : List Value} (h : A.ownsRow base e size v n xs) {q : Nat} (hq : v.ownBlock = some q) : base ≤ q ∧ q < A.heap.size := h.lt q hq
/-- B is as A below h0 and in bs. -/
structure StillR (h0 : Nat) (bs : List Nat) (A B : World) : Prop where
  os : B.os = A.os
  tape : B.tape = A.tape
  output : B.output = A.output
  size : A.heap.size ≤ B.heap.size
  block : ∀ q, q < A.heap.size → (q < h0 ∨ q ∈ bs) → B.heap[q]? = A.heap[q]?
/-- What a telling leaves: all from h0 on that is not in bs; and where its own things are. -/
structure ToldR (h0 : Nat) (bs bs' : List Nat) (A B : World) : Prop where
  size : A.heap.size ≤ B.heap.size
  block : ∀ q, h0 ≤ q → q < A.heap.size → q ∉ bs → B.heap[q]? = A.heap[q]?
  new : ∀ q ∈ bs', q ∈ bs ∨ A.heap.size ≤ q
  lt : ∀ q ∈ bs', q < B.heap.size
theorem rounds_sum (nx : Dt → Dt) (F : Nat) (starts : List Dt) : ∀ j, ((roundsAt nx F starts j).1.map List.length).sum = (roundsAt nx F starts j).2.length
  | 0 => rfl
  | j + 1 => by
    rw [roundsAt]
    split
    · exact rounds_sum nx F starts j
    · rw [List.map_append, List.sum_append, rounds_sum nx F starts j, List.length_append]
      simp
/-- What is told of each face. -/
def Tells (h0 f : Nat) (cb : Array Value) (S : List Dt) (I : List (List Dt) → List Nat → World → Prop) : Prop :=
  ∀ (fs : List (List Dt)) (bs : List Nat) (face : List Dt) (fv : Value) (W : World), I fs bs W → (∀ q ∈ bs, h0 ≤ q ∧ q < W.heap.size) → h0 ≤ W.heap.size → face ≠ [] → (∀ d ∈ face, d ∈ S) → (fs.map List.length).sum + face.length ≤ 8388608 →
    W.ownsRow h0 93 2 fv face.length (flatD face) → (∀ q, fv.ownBlock = some q → q ∉ bs) →
    Calls Try.prog f (#[fv] ++ cb) W fun e W' => e = .returned (.tuple #[]) ∧ ∃ bs', I (fs ++ [face]) bs' W' ∧ ToldR h0 bs bs' W W'
/-- The layout: where the map, the dart under way and the starts lie. -/
structure LayR (h0 h2 m bd : Nat) (stv : Value) : Prop where
  m0 : h0 ≤ m
  m2 : m < h2
  b0 : h0 ≤ bd
  b2 : bd < h2
  ne : m ≠ bd
  st : ∀ q, stv.ownBlock = some q → q < h2 ∧ q ≠ m ∧ q ≠ bd
structure RI (nx : Dt → Dt) (S starts : List Dt) (F h0 h2 m bd : Nat) (stv : Value) (I : List (List Dt) → List Nat → World → Prop) (fv : Value) (begun : Nat) (W : World) (left face : List Dt) (d : Dt) (j : Nat) (bs : List Nat) : Prop where
  go : Going nx S starts F left face d j
  ph : (begun = 0 ∧ j = 0 ∧ face = [] ∧ d = (0, 0)) ∨ (begun = j + 1 ∧ j < starts.length ∧ d ∈ S ∧ (face = [] → d = starts.getD j (0, 0)))
  map : MapD W m (leftE nx left)
  dc : Blk 93 W bd [.int .i64 d.1, .int .i64 d.2]
  st : W.ownsRow h0 93 2 stv starts.length (flatD starts)
  fc : W.ownsRow h2 93 2 fv face.length (flatD face)
  ap : ∀ q, fv.ownBlock = some q → q ∉ bs
  bsr : ∀ q ∈ bs, h2 ≤ q ∧ q < W.heap.size
  inv : I (roundsAt nx F starts j).1 bs W
  sz : h2 ≤ W.heap.size
section
variable {nx : Dt → Dt} {S starts : List Dt} {F h0 h2 m bd : Nat} {stv : Value} {I : List (List Dt) → List Nat → World → Prop}
/-- What one round may change. -/
def XR (m bd : Nat) (fv : Value) (q : Nat) : Prop := q = m ∨ q = bd ∨ fv.ownBlock = some q
theorem RI.still {fv : Value} {begun : Nat} {W B : World} {left face : List Dt} {d : Dt} {j : Nat} {bs : List Nat} (h : RI nx S starts F h0 h2 m bd stv I fv begun W left face d j bs) (L : LayR h0 h2 m bd stv) (hC : Chg (XR m bd fv) W B) : StillR h0 bs W B := by
  refine ⟨hC.os, hC.tape, hC.output, hC.size, fun q hq hx => hC.block q hq ?_⟩
  have a := L.m0
  have b := L.m2
  have c := L.b0
  have e := L.b2
  rintro (h1 | h1 | h1)
  · rcases hx with hx | hx
    · omega
    · have := (h.bsr q hx).1; omega
  · rcases hx with hx | hx
    · omega
    · have := (h.bsr q hx).1; omega
  · rcases hx with hx | hx
    · have := (owns_blk h.fc h1).1
      omega
    · exact h.ap q h1 hx
/-- Behind a step that leaves the map, the dart under way and the face as told. -/
theorem RI.turn (hI : ∀ fs bs A B, I fs bs A → StillR h0 bs A B → I fs bs B) {fv fv' : Value} {begun begun' : Nat} {W B : World} {left left' face face' : List Dt} {d d' : Dt} {j : Nat} {bs : List Nat} (h : RI nx S starts F h0 h2 m bd stv I fv begun W left face d j bs) (L : LayR h0 h2 m bd stv) (hC : Chg (XR m bd fv) W B)
    (hg : Going nx S starts F left' face' d' j) (hp : (begun' = 0 ∧ j = 0 ∧ face' = [] ∧ d' = (0, 0)) ∨ (begun' = j + 1 ∧ j < starts.length ∧ d' ∈ S ∧ (face' = [] → d' = starts.getD j (0, 0))))
    (hm : MapD B m (leftE nx left')) (hd : Blk 93 B bd [.int .i64 d'.1, .int .i64 d'.2]) (hf : B.ownsRow h2 93 2 fv' face'.length (flatD face')) (hfv : fv'.ownBlock = fv.ownBlock ∨ ∃ q, fv'.ownBlock = some q ∧ W.heap.size ≤ q) : RI nx S starts F h0 h2 m bd stv I fv' begun' B left' face' d' j bs := by
  refine ⟨hg, hp, hm, hd, owns_same h.st fun q hq => hC.block q (owns_blk h.st hq).2 ?_, hf, fun q hq => ?_, fun q hq => ⟨(h.bsr q hq).1, Nat.lt_of_lt_of_le (h.bsr q hq).2 hC.size⟩, hI _ _ _ _ h.inv (h.still L hC), Nat.le_trans h.sz hC.size⟩
  · obtain ⟨s1, s2, s3⟩ := L.st q hq
    rintro (h1 | h1 | h1)
    · exact s2 h1
    · exact s3 h1
    · have := (owns_blk h.fc h1).1
      omega
  · rcases hfv with h1 | ⟨q', h1, h2⟩
    · exact h.ap q (by rw [← h1]; exact hq)
    · rw [h1] at hq
      have := Option.some.inj hq
      intro hb
      have := (h.bsr q hb).2
      omega
/-- Behind a telling. -/
theorem RI.told {fv : Value} {begun : Nat} {W B : World} {left face : List Dt} {d : Dt} {j : Nat} {bs bs' : List Nat} (h : RI nx S starts F h0 h2 m bd stv I fv begun W left face d j bs) (L : LayR h0 h2 m bd stv) (hh : h0 ≤ h2) (hT : ToldR h0 bs bs' W B) (he : (roundsAt nx F starts (j + 1)).1 = (roundsAt nx F starts j).1 ++ [face]) (hi : I ((roundsAt nx F starts j).1 ++ [face]) bs' B) :
    MapD B m (leftE nx left) ∧ Blk 93 B bd [.int .i64 d.1, .int .i64 d.2] ∧ B.ownsRow h0 93 2 stv starts.length (flatD starts) ∧ B.ownsRow h2 93 2 fv face.length (flatD face) ∧ (∀ q, fv.ownBlock = some q → q ∉ bs') ∧ (∀ q ∈ bs', h2 ≤ q ∧ q < B.heap.size) ∧ I (roundsAt nx F starts (j + 1)).1 bs' B ∧ h2 ≤ B.heap.size := by
  have a := L.m0
  have b := L.m2
  have c := L.b0
  have e := L.b2
  have hsz := h.sz
  have nob : ∀ q, q < h2 → q ∉ bs := fun q hq hq' => by have := (h.bsr q hq').1; omega
  refine ⟨h.map.keep (hT.block m a h.map.lt (nob m b)), (hT.block bd c h.dc.lt (nob bd e)).trans h.dc, owns_same h.st fun q hq => ?_, owns_same h.fc fun q hq => ?_, fun q hq hq' => ?_, fun q hq => ⟨?_, hT.lt q hq⟩, by rw [he]; exact hi, Nat.le_trans hsz hT.size⟩
  · exact hT.block q (owns_blk h.st hq).1 (owns_blk h.st hq).2 (nob q (L.st q hq).1)
  · exact hT.block q (Nat.le_trans hh (owns_blk h.fc hq).1) (owns_blk h.fc hq).2 (h.ap q hq)
  · rcases hT.new q hq' with h1 | h1
    · exact h.ap q hq h1
    · have := (owns_blk h.fc hq).2
      omega
  · rcases hT.new q hq with h1 | h1
    · exact (h.bsr q h1).1
    · omega
/-- Between two rounds: so many starts are done. -/
structure DNI (nx : Dt → Dt) (S starts : List Dt) (F h0 h2 m bd : Nat) (stv : Value) (I : List (List Dt) → List Nat → World → Prop) (fv : Value) (begun : Nat) (W : World) (left : List Dt) (d : Dt) (bs : List Nat) : Prop where
  go : ∀ d', Going nx S starts F left [] d' begun
  map : MapD W m (leftE nx left)
  dc : Blk 93 W bd [.int .i64 d.1, .int .i64 d.2]
  st : W.ownsRow h0 93 2 stv starts.length (flatD starts)
  fc : W.ownsRow h2 93 2 fv 0 []
  ap : ∀ q, fv.ownBlock = some q → q ∉ bs
  bsr : ∀ q ∈ bs, h2 ≤ q ∧ q < W.heap.size
  inv : I (roundsAt nx F starts begun).1 bs W
  sz : h2 ≤ W.heap.size
theorem Going.any {left : List Dt} {d : Dt} {j : Nat} (h : Going nx S starts F left [] d j) (d' : Dt) : Going nx S starts F left [] d' j := ⟨h.shut, h.nodup, h.all, h.len, fun e => absurd rfl e⟩
theorem RI.none (hI : ∀ fs bs A B, I fs bs A → StillR h0 bs A B → I fs bs B) {fv : Value} {begun : Nat} {W B : World} {left : List Dt} {d : Dt} {j : Nat} {bs : List Nat} (h : RI nx S starts F h0 h2 m bd stv I fv begun W left [] d j bs) (L : LayR h0 h2 m bd stv) (hd : d ∉ left) (hb : Below W.heap.size W B) : DNI nx S starts F h0 h2 m bd stv I fv begun B left d bs := by
  have key : ∀ jn, (∀ d', Going nx S starts F left [] d' jn) → (roundsAt nx F starts jn).1 = (roundsAt nx F starts j).1 → jn = begun → DNI nx S starts F h0 h2 m bd stv I fv begun B left d bs := by
    intro jn h1 h2' e
    subst e
    refine ⟨h1, h.map.keep (hb.block _ h.map.lt), h.dc.go hb, owns_below h.st hb, owns_below h.fc hb, h.ap, fun q hq => ⟨(h.bsr q hq).1, Nat.lt_of_lt_of_le (h.bsr q hq).2 hb.size⟩, ?_, Nat.le_trans h.sz hb.size⟩
    rw [h2']
    exact hI _ _ _ _ h.inv (h.still L (Chg.of_below hb))
  rcases h.ph with ⟨e1, e2, _, e3⟩ | ⟨e1, e2, e3, e4⟩
  · subst e2
    exact key 0 (fun d' => h.go.any d') rfl e1.symm
  · exact key (j + 1) (fun d' => (h.go.skip hd e3 (e4 rfl) d').2) (by rw [(h.go.skip hd e3 (e4 rfl) (0, 0)).1]) e1.symm
theorem RI.toldD (hP : PermS nx S) (hF : S.length ≤ F) {p : Option Addr} {c : Nat} {begun : Nat} {W B : World} {left face : List Dt} {d : Dt} {j : Nat} {bs bs' : List Nat} (h : RI nx S starts F h0 h2 m bd stv I (.slice p face.length c) begun W left face d j bs) (L : LayR h0 h2 m bd stv) (hh : h0 ≤ h2) (hf : face ≠ []) (hd : d ∉ left) (hT : ToldR h0 bs bs' W B) (hi : I ((roundsAt nx F starts j).1 ++ [face]) bs' B) : DNI nx S starts F h0 h2 m bd stv I (.slice p 0 c) begun B left d bs' := by
  have hph : begun = j + 1 ∧ d ∈ S := by
    rcases h.ph with ⟨_, _, e, _⟩ | ⟨e1, _, e2, _⟩
    · exact absurd e hf
    · exact ⟨e1, e2⟩
  obtain ⟨e1, hdS⟩ := hph
  subst e1
  have hdn := fun d' => h.go.done hP hf hd hdS hF d'
  obtain ⟨g1, g2, g3, g4, g5, g6, g7, g8⟩ := h.told L hh hT (by rw [(hdn (0, 0)).1]) hi
  exact ⟨fun d' => (hdn d').2, g1, g2, g3, owns_zero g4, fun q hq => g5 q (by rw [← hq]; cases p <;> rfl), g6, g7, g8⟩
theorem DNI.next (hI : ∀ fs bs A B, I fs bs A → StillR h0 bs A B → I fs bs B) {fv : Value} {begun : Nat} {W : World} {left : List Dt} {d d' : Dt} {bs : List Nat} (h : DNI nx S starts F h0 h2 m bd stv I fv begun W left d bs) (L : LayR h0 h2 m bd stv) (hb : begun < starts.length) (hd : d' = starts.getD begun (0, 0)) (hdS : d' ∈ S) : RI nx S starts F h0 h2 m bd stv I fv (begun + 1) ((W.setCell ⟨bd, 0, none⟩ (.int .i64 d'.1)).setCell ⟨bd, 1, none⟩ (.int .i64 d'.2)) left [] d' begun bs := by
  have b := L.b2
  have c := L.b0
  have nb : ∀ (q : Nat), q ≠ bd → ((W.setCell ⟨bd, 0, none⟩ (.int .i64 d'.1)).setCell ⟨bd, 1, none⟩ (.int .i64 d'.2)).heap[q]? = W.heap[q]? := fun q hq => (Below.heap_setCell _ _ _ _ (by simp; omega)).trans (Below.heap_setCell _ _ _ _ (by simp; omega))
  refine ⟨h.go d', .inr ⟨rfl, hb, hdS, fun _ => hd⟩, h.map.keep (nb m L.ne), (h.dc.set 0 _).set 1 _, owns_same h.st fun q hq => nb q (L.st q hq).2.2, owns_same h.fc fun q hq => nb q (by have := (owns_blk h.fc hq).1; omega), h.ap, fun q hq => ⟨(h.bsr q hq).1, by simp; exact (h.bsr q hq).2⟩, hI _ _ _ _ h.inv ⟨rfl, rfl, rfl, by simp, fun q _ hx => nb q ?_⟩, by simp; exact h.sz⟩
  rcases hx with hx | hx
  · omega
  · have := (h.bsr q hx).1
    omega
end
/-- 'delete(m, k)' at the operation. -/
theorem wpList_delD (w : World) {ops : Array Oper} {rest : List Oper} {o : Oper} {a : Act} {Q : Exit → Act → World → Prop}
    (hg : o.guard = none) (m x : Operand) (hop : o.op = Op.call { callee := Callee.builtin Builtin.delete, args := #[m, x], argTypes := #[118, 93] }) (M : Nat) (L : List (Dt × Dt)) (d : Dt)
    (hm : a.eval m = .map (some M)) (h : MapD w M L) (hx : a.eval x = encD d)
    (hK : ∀ w', MapD w' M (L.eraseP fun p => decide (d = p.1)) → w.grownBy w' (some M) → wpList Try.prog ops Q rest (a.put o.dst (.tuple #[])) w') :
    wpList Try.prog ops Q (o :: rest) a w := by
  refine wpList_plain hg fun K' hK' => ?_
  obtain ⟨w', hrun, r1, r2⟩ := h.delete d o.type
  unfold Oper.wp
  simp [execOp, hop, resolve, invoke, builtin, hm, hx, hrun, Result.andThen]
  exact hK' _ _ (hK w' r1 r2)
end Go.Proofs.Yteekhofollaooaa

namespace Go.Proofs.Yteekhofollaooaa
open Go Go.Proofs Go.RowKit

set_option maxRecDepth 100000 in
set_option maxHeartbeats 8000000 in
theorem goRounds_any (N : Nat) (l : List Ed) (hR : RightG (N : Int) l) (r : List (List Int)) (hS : SysR N l r) (f : Nat) (cb : Array Value) (eg : ∀ args w, (callFunc f args).run Try.prog w = .ok (.enter f args) w) (I : List (List Dt) → List Nat → World → Prop) (sv rv : Value) (w : World) (hl : Edges w.heap.size w sv l) (hr : Lsts w.heap.size w rv r)
    (hI0 : I [] [] w) (hI : ∀ fs bs A B, I fs bs A → StillR w.heap.size bs A B → I fs bs B) (hT : Tells w.heap.size f cb (keysR r N) I) :
    Calls Try.prog 58 #[.agg #[.int .i64 (N : Int), sv], rv, .func (.func f) #[] cb] w fun e w' => e = .returned (.tuple #[]) ∧ ∃ bs, I (roundsAt (nxD r) (2 * l.length + 1) (dartsL N l) (dartsL N l).length).1 bs w' := by
  obtain ⟨p, c, rfl⟩ := hl.len
  obtain ⟨pr, cr, rfl⟩ := hr.len
  have hg1 : Grew w (w.alloc (.cells #[.int .i64 (N : Int), .slice p l.length c] 24)) := (Grew.refl w).alloc _
  have hX1 : Blk 24 (w.alloc (.cells #[.int .i64 (N : Int), .slice p l.length c] 24)) w.heap.size [.int .i64 (N : Int), .slice p l.length c] := heap_alloc_new w _
  obtain ⟨i0, hi, hz0, hz1, hz2⟩ := info_parts infoDt
  have hn1 := hR.n1
  have hm1 := hR.m1
  have q0 := hX1.cell (j := 0) rfl
  have q1 := hX1.cell (j := 1) rfl
  have hs1 : (w.alloc (.cells #[.int .i64 (N : Int), .slice p l.length c] 24)).heap.size = w.heap.size + 1 := by simp
  have hin : ∀ x ∈ r, x.length ≤ 4194304 ∧ x.Nodup := fun x hx => by
    obtain ⟨v, hv, rfl⟩ := List.getElem_of_mem hx
    have hvN : v < N := by rw [← hS.len]; exact hv
    have e : r.getD v [] = r[v] := by rw [List.getD_eq_getElem?_getD, List.getElem?_eq_getElem hv]; rfl
    have h1 := hS.perm v hvN
    have h2 := hS.nodup hR hvN
    rw [e] at h1 h2
    refine ⟨?_, h2⟩
    rw [h1.length_eq]
    exact Nat.le_trans (nb_len _ _) hm1
  have hbe := behindEach_any r (by rw [hS.len]; omega) hin (2 * l.length) _ _ (hr.go hg1.below)
  have hrl := hS.len
  rw [hrl, beh_left hS hR (Nat.le_refl _), hs1] at hbe
  have e2 : ((2 * l.length : Nat) : Int) = 2 * (l.length : Int) := by omega
  rw [e2] at hbe
  rw [hrl]
  clear e2
  go_enter Try.func58, Try.ntmps58
  go_wp2
  go_step3
  go_wp2_with fail
  refine hbe.mono ?_
  clear hbe
  rintro e w2 ⟨rfl, hM2, hb2⟩
  have hX2 := hX1.below hb2 (by omega)
  have hbw2 : Below w.heap.size w w2 := hg1.below.trans (hb2.mono (by omega))
  have x0 := hX2.cell (j := 0) rfl
  have x1 := hX2.cell (j := 1) rfl
  have hda := darts_any N l hR _ _ (hl.go hbw2)
  clear q0 q1 hX1 hg1 hb2 hs1
  go_wp2_with fail
  refine hda.mono ?_
  clear hda
  rintro e w3 ⟨dv, rfl, hD3, hb3⟩
  have hM3 : MapD w3 (w.heap.size + 1) (leftE (nxD r) (keysR r N)) := hM2.keep (hb3.block _ hM2.lt)
  have hm2 := hM2.lt
  have hb30 := hb3.size
  have hbw3 := hbw2.trans (hb3.mono hbw2.size)
  obtain ⟨pd, cd, rfl⟩ := owns_formP hD3
  clear hX2 x0 x1 hM2 hb3 hbw2
  go_wp2
  go_step3
  go_wp2
  have HP : Hid (PermS (nxD r) (keysR r N)) := sys_perm hS hR
  have HDS : Hid (∀ d ∈ dartsL N l, d ∈ keysR r N) := fun d h => (keys_darts hS hR).2 h
  have HZ : Hid (((0 : Int), (0 : Int)) ∉ keysR r N) := fun h => dart_zero hR ((keys_darts hS hR).1 h)
  have hSl : (keysR r N).length = 2 * l.length := by rw [keysR_len hS (Nat.le_refl _), degS_all fun e he => (hR.each e he).1]
  have hsl := dartsL_few hm1 N
  have hGo : Going (nxD r) (keysR r N) (dartsL N l) (2 * l.length + 1) (keysR r N) [] (0, 0) 0 := Going.start (keysR_nodup hS hR) (0, 0) (dartsL N l) (2 * l.length + 1)
  obtain ⟨h0, hh0⟩ : ∃ h0, h0 = w.heap.size := ⟨_, rfl⟩
  obtain ⟨bd, hbd⟩ : ∃ bd, bd = w3.heap.size := ⟨_, rfl⟩
  have hLay : LayR h0 (bd + 1) (h0 + 1) bd (.slice pd (dartsL N l).length cd) := by
    refine ⟨by omega, by omega, by have := hbw3.size; omega, by omega, by omega, fun q hq => ?_⟩
    obtain ⟨a1, a2⟩ := owns_blk hD3 hq
    exact ⟨by omega, by omega, by omega⟩
  have hbA : Below w3.heap.size w3 (w3.alloc (.cells #[.int .i64 0, .int .i64 0] 93)) := (Below.refl _ _).alloc (Nat.le_refl _) _
  have hRI0 : RI (nxD r) (keysR r N) (dartsL N l) (2 * l.length + 1) h0 (bd + 1) (h0 + 1) bd (.slice pd (dartsL N l).length cd) I (.slice none 0 0) 0 (w3.alloc (.cells #[.int .i64 0, .int .i64 0] 93)) (keysR r N) [] (0, 0) 0 [] := by
    refine ⟨hGo, .inl ⟨rfl, rfl, rfl, rfl⟩, ?_, ?_, ?_, World.ownsRow_nil _ _ _ _, (fun q hq => by simp [Value.ownBlock] at hq), (fun q hq => by simp at hq), ?_, (by rw [hbd]; simp)⟩
    · rw [hh0]; exact hM3.keep (hbA.block _ (by omega))
    · rw [hbd]; exact heap_alloc_new w3 _
    · exact owns_base (owns_below hD3 hbA) (by have := hbw3.size; omega)
    · refine hI _ _ _ _ hI0 ?_
      have h1 := hbw3.trans (hbA.mono hbw3.size)
      exact ⟨h1.os, h1.tape, h1.output, h1.size, fun q hq _ => h1.block q hq⟩
  rw [← hh0] at hI hT ⊢
  rw [← hbd] at ⊢
  have hh2 : h0 ≤ bd + 1 := by have := hbw3.size; omega
  clear hM3 hD3 hGo hbA hI0 hbw3 hm2 hb30
  generalize w3.alloc (.cells #[.int .i64 0, .int .i64 0] 93) = w5 at hRI0 ⊢
  obtain ⟨S, HSS⟩ : ∃ S, Hid (keysR r N = S) := ⟨_, rfl⟩
  obtain ⟨st, HST⟩ : ∃ st, Hid (dartsL N l = st) := ⟨_, rfl⟩
  obtain ⟨nx, HNX⟩ : ∃ nx, Hid (nxD r = nx) := ⟨_, rfl⟩
  rw [HSS.out] at HP HDS HZ hSl hRI0 hT
  rw [HST.out] at HDS hsl hLay hRI0 ⊢
  rw [HNX.out] at HP hRI0
  have HI : Hid _ := hI
  have HT : Hid _ := hT
  have HLay : Hid _ := hLay
  have HR0 : Hid _ := hRI0
  clear hI hT hLay hRI0 hl hr hin hR hS hh0 hbd
  go_loopg [8, 10] (S.length + st.length) (fun k fv bv wr => ∃ (begun : Nat) (left face : List Dt) (d : Dt) (j : Nat) (bs : List Nat), bv = .int .i64 (begun : Int) ∧ Hid (RI nx S st (2 * l.length + 1) h0 (bd + 1) (h0 + 1) bd (.slice pd st.length cd) I fv begun wr left face d j bs) ∧ begun ≤ st.length ∧ left.length + (st.length - begun) ≤ k)
  case atStart => exact ⟨0, S, [], (0, 0), 0, [], rfl, HR0.out, Nat.zero_le _, by omega⟩
  case round =>
    obtain ⟨begun, left, face, d, j, bs, rfl, HRI, hbl, hms⟩ := hrel
    obtain ⟨pf, cf, rfl⟩ := owns_formP HRI.out.fc
    have c0 := HRI.out.dc.cell (j := 0) rfl
    have c1 := HRI.out.dc.cell (j := 1) rfl
    have hlk := HRI.out.map.lookup d
    rw [lk_left] at hlk
    by_cases hd : d ∈ left
    · rw [if_pos hd] at hlk
      have hlk' : (Instr.lookup 118 (.map (some (h0 + 1))) (.agg #[.int .i64 d.1, .int .i64 d.2]) true).run Try.prog wr = .ok (.tuple #[.agg #[.int .i64 (nx d).1, .int .i64 (nx d).2], .bool true]) wr := hlk
      have Hd : Hid _ := hd
      have hpos := List.length_pos_of_mem hd
      clear hlk hd
      have hbdl : bd < wr.heap.size := HRI.out.dc.lt
      have hbdm : bd ≠ h0 + 1 := HLay.out.ne.symm
      have hbA : Below wr.heap.size wr (wr.alloc (.cells #[.int .i64 (nx d).1, .int .i64 (nx d).2] 93)) := (Below.refl _ _).alloc (Nat.le_refl _) _
      have hM1 : MapD (wr.alloc (.cells #[.int .i64 (nx d).1, .int .i64 (nx d).2] 93)) (h0 + 1) (leftE nx left) := HRI.out.map.keep (hbA.block _ HRI.out.map.lt)
      have hB1 : Blk 93 (wr.alloc (.cells #[.int .i64 (nx d).1, .int .i64 (nx d).2] 93)) wr.heap.size [.int .i64 (nx d).1, .int .i64 (nx d).2] := heap_alloc_new wr _
      have hD1 := HRI.out.dc.go hbA
      have hF1 := owns_below HRI.out.fc hbA
      have hml := HRI.out.map.lt
      have HbA : Hid _ := hbA
      go_wp2_with (at_delete; refine wpList_delD _ rfl _ _ rfl (h0 + 1) (leftE nx left) d rfl hM1 rfl ?_)
      intro w6 hM6 hg6
      rw [er_left] at hM6
      have hD6 := hD1.grown hg6 (by simp; omega)
      have hB6 := hB1.grown hg6 (by simp; omega)
      have hF6 : w6.ownsRow (bd + 1) 93 2 (.slice pf face.length cf) face.length (flatD face) := owns_keep hF1 hg6 (by
        rcases or_none (.slice pf face.length cf) with h1 | h1
        · exact .inl h1
        · refine .inr fun e => ?_
          have := (owns_blk hF1 e).1
          have := HLay.out.m2
          omega)
      have d0 := hD6.cell (j := 0) rfl
      have d1 := hD6.cell (j := 1) rfl
      have hbd6 : bd < w6.heap.size := hD6.lt
      have hbh6 : wr.heap.size < w6.heap.size := hB6.lt
      clear hM1 hB1 hD1 hF1 c0 c1 hlk' hbA
      have hfl : face.length ≤ 8388608 := by have := HRI.out.go.len; omega
      have hmx : face.length + 1 ≤ maxLen := by unfold maxLen; omega
      have hby : (face.length + 1) * 16 ≤ 140737488355328 := by omega
      have hnews := newsD (w := w6) (t := 93) d
      have hone := oneD d
      have hownA := hF6.alloc (.cells #[.int .i64 d.1, .int .i64 d.2] 93)
      have hbs : bd + 1 ≤ (w6.alloc (.cells #[.int .i64 d.1, .int .i64 d.2] 93)).heap.size := by simp; omega
      go_wp2_with (at_builtin; refine wpList_append_own_at _ rfl _ _ 91 rfl (bd + 1) 93 i0 (.agg #[.int .i64 0, .int .i64 0]) 2 16 Try.underlying91 hi hz0 hz1 hz2 rfl (by decide) (.slice pf face.length cf) _ _ rfl hownA ⟨w6.heap.size, 0, none⟩ 1 1 (encDc d) rfl rfl hnews hone hmx hby hbs ?_)
      intro v7 w7 hown7 hg7 hnil7 hat7
      obtain ⟨a7, m7, k7, rfl⟩ := owns_slice hown7
      have hbA6 : w6.grownBy (w6.alloc (.cells #[.int .i64 d.1, .int .i64 d.2] 93)) (Value.slice pf face.length cf).ownBlock := World.grownBy_alloc _ _ _
      have hg67 := hbA6.trans hg7
      have hnb : ∀ q, q < bd + 1 → some q ≠ (Value.slice pf face.length cf).ownBlock := fun q hq e => by
        have := (owns_blk hF6 e.symm).1
        omega
      have hM7 : MapD w7 (h0 + 1) (leftE nx (left.erase d)) := hM6.keep (hg67.block _ hM6.lt (hnb _ HLay.out.m2))
      have hD7 := hD6.grown hg67 (hnb _ (by omega))
      have hB7 := hB6.grown hg67 (fun e => by
        have := (owns_blk HRI.out.fc e.symm).2
        omega)
      have b0 := hB7.cell (j := 0) rfl
      have b1 := hB7.cell (j := 1) rfl
      have f0 := hD7.frozen 0
      have f1 := (hD7.set 0 (.int .i64 (nx d).1)).frozen 1
      have g0 := hD7.cell (j := 0) rfl
      have g1 := (hD7.set 0 (.int .i64 (nx d).1)).cell (j := 1) rfl
      have hD8 := (hD7.set 0 (.int .i64 (nx d).1)).set 1 (.int .i64 (nx d).2)
      have HC : Hid (Chg (XR (h0 + 1) bd (.slice pf face.length cf)) wr ((w7.setCell ⟨bd, 0, none⟩ (.int .i64 (nx d).1)).setCell ⟨bd, 1, none⟩ (.int .i64 (nx d).2))) := by
        refine ((((Chg.of_below HbA.out).trans (Chg.of_grown hg6 fun q e => ?_)).trans (Chg.of_grown hg67 fun q e => ?_)).trans (Chg.of_set (p := ⟨bd, 0, none⟩) ?_ _)).trans (Chg.of_set (p := ⟨bd, 1, none⟩) ?_ _)
        · exact .inl (Option.some.inj e).symm
        · exact .inr (.inr e)
        · exact .inr (.inl rfl)
        · exact .inr (.inl rfl)
      have hbn : bd ≠ wr.heap.size := by omega
      have HM8 : Hid (MapD ((w7.setCell ⟨bd, 0, none⟩ (.int .i64 (nx d).1)).setCell ⟨bd, 1, none⟩ (.int .i64 (nx d).2)) (h0 + 1) (leftE nx (left.erase d))) := hM7.keep ((Below.heap_setCell _ _ _ _ (by simp; omega)).trans (Below.heap_setCell _ _ _ _ (by simp; omega)))
      have HF8 : Hid (((w7.setCell ⟨bd, 0, none⟩ (.int .i64 (nx d).1)).setCell ⟨bd, 1, none⟩ (.int .i64 (nx d).2)).ownsRow (bd + 1) 93 2 (.slice a7 m7 k7) (face ++ [d]).length (flatD (face ++ [d]))) := by
        rw [Hid, List.length_append, flatD_snoc]
        exact owns_lowset (owns_lowset hown7 (by simp) _) (by simp) _
      have HV : Hid ((Value.slice a7 m7 k7).ownBlock = (Value.slice pf face.length cf).ownBlock ∨ ∃ q, (Value.slice a7 m7 k7).ownBlock = some q ∧ wr.heap.size ≤ q) := by
        rcases hat7 with h1 | h1
        · exact .inl h1
        · exact .inr ⟨_, h1, by omega⟩
      have HD8 : Hid _ := hD8
      clear hown7 hg7 hnil7 hat7 hownA hnews hone hmx hby hbs hM6 hM7 hD6 hD7 hB6 hB7 hF6 hg6 hg67 hnb hbA6 hD8 d0 d1
      go_wp2
      go_roundg (gk - 1)
      case measure => omega
      case rel =>
        have h := HRI.out
        have hd := Hd.out
        have hdS : d ∈ S := (h.go.all d).2 (.inl hd)
        have hph : begun = j + 1 ∧ j < st.length ∧ (face = [] → d = st.getD j (0, 0)) := by
          rcases h.ph with ⟨_, _, _, e⟩ | ⟨e1, e2, _, e3⟩
          · rw [e] at hdS
            exact absurd hdS HZ.out
          · exact ⟨e1, e2, e3⟩
        refine ⟨begun, left.erase d, face ++ [d], nx d, j, bs, rfl, h.turn HI.out HLay.out HC.out (h.go.take hd hph.2.2) (.inr ⟨hph.1, hph.2.1, HP.out.mem d hdS, fun e => by simp at e⟩) HM8.out HD8.out HF8.out HV.out, hbl, ?_⟩
        rw [List.length_erase_of_mem hd]
        omega
    · rw [if_neg hd] at hlk
      have hlk' : (Instr.lookup 118 (.map (some (h0 + 1))) (.agg #[.int .i64 d.1, .int .i64 d.2]) true).run Try.prog wr = .ok (.tuple #[.agg #[.int .i64 0, .int .i64 0], .bool false]) wr := hlk
      have hbA : Below wr.heap.size wr (wr.alloc (.cells #[.int .i64 0, .int .i64 0] 93)) := (Below.refl _ _).alloc (Nat.le_refl _) _
      clear hlk
      by_cases hf : face = []
      · subst hf
        have HDN : Hid _ := HRI.out.none HI.out HLay.out hd hbA
        have hbdl : bd < wr.heap.size := HRI.out.dc.lt
        have f0 := HRI.out.dc.frozen 0
        have f1 := HRI.out.dc.frozen 1
        by_cases hbe : begun = st.length
        · have hbe' : ((begun : Int) == (st.length : Int)) = true := by rw [beq_iff_eq]; omega
          have HFIN : Hid (I (roundsAt nx (2 * l.length + 1) st st.length).1 bs (wr.alloc (.cells #[.int .i64 0, .int .i64 0] 93))) := by rw [Hid, ← hbe]; exact HDN.out.inv
          clear hbe hd hbA HRI HDN
          go_wp2
          simp only [Exit.noGoto]
          refine bodyPost_end (results_none rfl _ _ _) rfl ?_
          exact ⟨rfl, bs, by rw [HNX.out, HST.out]; exact HFIN.out⟩
        · have hbe' : ((begun : Int) == (st.length : Int)) = false := by rw [beq_eq_false_iff_ne]; omega
          have hblt : begun < st.length := by omega
          have hbl' : (begun : Int) < (st.length : Int) := by omega
          obtain ⟨sb, so, hps, hsb, hsc, s0, s1⟩ := (Drts.of_owns HRI.out.st).cellAt hblt
          have HGD : Hid (st[begun] = st.getD begun (0, 0)) := by rw [Hid, List.getD_eq_getElem?_getD, List.getElem?_eq_getElem hblt]; rfl
          have HDM : Hid (st[begun] ∈ S) := HDS.out _ (List.getElem_mem hblt)
          generalize st[begun] = d2 at *
          have hnxt := HDN.out.next HI.out HLay.out hblt HGD.out HDM.out
          rw [World.setCell_alloc_past (hn := hbdl), World.setCell_alloc_past (hn := by simp; exact hbdl)] at hnxt
          have HNXT : Hid _ := hnxt
          clear hnxt
          have hsbd : sb ≠ bd := (HLay.out.st sb (by rw [hps]; rfl)).2.2
          clear hbe hd hbA HRI HDN
          subst hps
          go_wp2
          go_roundg (gk - 1)
          case measure => omega
          case rel => exact ⟨begun + 1, left, [], d2, begun, bs, by go_num, HNXT.out, by omega, by omega⟩
      · have hfp : 0 < face.length := List.length_pos_iff.2 hf
        have hfp' : (0 : Int) < (face.length : Int) := by omega
        have hRI := HRI.out
        have hR1 := hRI.turn HI.out HLay.out (Chg.of_below hbA) hRI.go hRI.ph (hRI.map.keep (hbA.block _ hRI.map.lt)) (hRI.dc.go hbA) (owns_below hRI.fc hbA) (.inl rfl)
        have hbdl : bd < wr.heap.size := hRI.dc.lt
        obtain ⟨gf, cf', hpf⟩ := owns_pos hRI.fc hfp
        simp only [Value.slice.injEq] at hpf
        obtain ⟨rfl, _, rfl⟩ := hpf
        have hfl : ((roundsAt nx (2 * l.length + 1) st j).1.map List.length).sum + face.length ≤ 8388608 := by rw [rounds_sum]; have := hRI.go.len; omega
        have hcall := HT.out (roundsAt nx (2 * l.length + 1) st j).1 bs face _ _ hR1.inv (fun q hq => ⟨Nat.le_trans hh2 (hR1.bsr q hq).1, (hR1.bsr q hq).2⟩) (Nat.le_trans hh2 hR1.sz) hf (fun x hx => (hRI.go.all x).2 (.inr (.inl hx))) hfl (owns_base hR1.fc hh2) hR1.ap
        have HR1 : Hid _ := hR1
        have Hf : Hid _ := hf
        have Hd : Hid _ := hd
        clear hRI hR1 HRI hf hd hbA hfp
        go_wp2_with fail
        refine hcall.mono ?_
        clear hcall
        rintro e w6 ⟨rfl, bs', hI6, hT6⟩
        have HDN : Hid _ := HR1.out.toldD HP.out (by omega) HLay.out hh2 Hf.out Hd.out hT6 hI6
        clear HR1 hI6 hT6 Hf Hd c0 c1 hlk'
        by_cases hbe : begun = st.length
        · have hbe' : ((begun : Int) == (st.length : Int)) = true := by rw [beq_iff_eq]; omega
          have HFIN : Hid (I (roundsAt nx (2 * l.length + 1) st st.length).1 bs' w6) := by rw [Hid, ← hbe]; exact HDN.out.inv
          clear hbe HDN
          go_wp2
          simp only [Exit.noGoto]
          refine bodyPost_end (results_none rfl _ _ _) rfl ?_
          exact ⟨rfl, bs', by rw [HNX.out, HST.out]; exact HFIN.out⟩
        · have hbe' : ((begun : Int) == (st.length : Int)) = false := by rw [beq_eq_false_iff_ne]; omega
          have hblt : begun < st.length := by omega
          have hbl' : (begun : Int) < (st.length : Int) := by omega
          obtain ⟨sb, so, hps, hsb, hsc, s0, s1⟩ := (Drts.of_owns HDN.out.st).cellAt hblt
          have HGD : Hid (st[begun] = st.getD begun (0, 0)) := by rw [Hid, List.getD_eq_getElem?_getD, List.getElem?_eq_getElem hblt]; rfl
          have HDM : Hid (st[begun] ∈ S) := HDS.out _ (List.getElem_mem hblt)
          generalize st[begun] = d2 at *
          have g0 := HDN.out.dc.cell (j := 0) rfl
          have g1 := (HDN.out.dc.set 0 (.int .i64 d2.1)).cell (j := 1) rfl
          have f0 := HDN.out.dc.frozen 0
          have f1 := (HDN.out.dc.set 0 (.int .i64 d2.1)).frozen 1
          have HNXT : Hid _ := HDN.out.next HI.out HLay.out hblt HGD.out HDM.out
          have hsbd : sb ≠ bd := (HLay.out.st sb (by rw [hps]; rfl)).2.2
          clear hbe HDN
          subst hps
          go_wp2
          go_roundg (gk - 1)
          case measure => omega
          case rel => exact ⟨begun + 1, left, [], d2, begun, bs', by go_num, HNXT.out, by omega, by omega⟩
end Go.Proofs.Yteekhofollaooaa

namespace Go.Proofs.Yteekhofollaooaa
open Go Go.Proofs Go.RowKit

theorem flatD_len : ∀ L : List Dt, (flatD L).length = L.length * 2
  | [] => rfl
  | d :: L => by
    have e : flatD (d :: L) = [.int .i64 d.1, .int .i64 d.2] ++ flatD L := rfl
    rw [e, List.length_append, flatD_len L, List.length_cons]
    simp
    omega
theorem flatD_cells {n : Nat} {w : World} {b off c : Nat} {L : List Dt} (h : Drts n w (.slice (some ⟨b, off, none⟩) L.length c) L) : ∀ (j : Nat) (u : Value), (flatD L)[j]? = some u → w.cell? ((⟨b, off, none⟩ : Addr).add j) = some u := by
  intro j u hu
  have hj := (List.getElem?_eq_some_iff.1 hu).1
  rw [flatD_len] at hj
  have hi : j / 2 < L.length := by omega
  obtain ⟨b', off', e, _, _, c0, c1⟩ := h.cellAt hi
  simp only [Option.some.injEq, Addr.mk.injEq, and_true] at e
  obtain ⟨rfl, rfl⟩ := e
  obtain ⟨k0, k1⟩ := flatD_at (List.getElem?_eq_getElem hi)
  rw [Go.WideShapes.add_plain]
  rcases Nat.mod_two_eq_zero_or_one j with h0 | h0
  · have e : j = j / 2 * 2 := by omega
    rw [← e] at k0 c0
    rw [hu] at k0
    rw [Option.some.inj k0]
    exact c0
  · have e : j = j / 2 * 2 + 1 := by omega
    rw [← e] at k1
    rw [hu] at k1
    rw [Option.some.inj k1]
    rw [Nat.add_assoc, ← e] at c1
    exact c1
theorem flatD_one : ∀ (L : List Dt), ∀ u ∈ flatD L, u.oneCell' = true := by
  intro L u hu
  unfold flatD at hu
  obtain ⟨d, _, h⟩ := List.mem_flatMap.1 hu
  exact oneD d u h

end Go.Proofs.Yteekhofollaooaa
