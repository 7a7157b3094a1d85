/-
  What ways end at are the vertices of three neighbours or more; how degrees change by an edge. No program in this text.
-/
import Derived.Test.YtgjaikekpgdehaaXKRev
namespace Go.Proofs.Ytgjaikekpgdehaa
open Go Go.Proofs

theorem compact_facts {S : List Int} (hs : S.Pairwise (· ≤ ·)) : ∀ m, m ≤ S.length →
    (Lib.compactUpTo S.toArray m).Pairwise (· < ·) ∧ (∀ x ∈ Lib.compactUpTo S.toArray m, ∃ i, i < m ∧ S.toArray[i]! = x) ∧ ∀ i, i < m → S.toArray[i]! ∈ Lib.compactUpTo S.toArray m
  | 0, _ => ⟨by simp [Lib.compactUpTo], by simp [Lib.compactUpTo], fun i h => by omega⟩
  | m + 1, hm => by
    obtain ⟨h1, h2, h3⟩ := compact_facts hs m (by omega)
    have hg : ∀ i, i < S.length → S.toArray[i]! = S[i]! := fun i hi => by simp
    have hmono : ∀ i j, i < j → j < S.length → S.toArray[i]! ≤ S.toArray[j]! := fun i j hij hj => by
      rw [hg i (by omega), hg j hj, getElem!_pos S i (by omega), getElem!_pos S j hj]
      exact List.pairwise_iff_getElem.1 hs i j (by omega) hj hij
    rw [Lib.compactUpTo_succ]
    by_cases hk : Lib.keeps S.toArray m = true
    · rw [if_pos hk]
      have hlt : ∀ i, i < m → S.toArray[i]! < S.toArray[m]! := fun i hi => by
        have hne : S.toArray[m - 1]! ≠ S.toArray[m]! := by
          unfold Lib.keeps at hk
          intro e
          have h0 : m ≠ 0 := by omega
          simp only [decide_eq_true_eq, ne_eq] at hk
          rcases hk with hk | hk
          · exact h0 hk
          · first | exact hk e | exact hk e.symm
        have h5 : S.toArray[m - 1]! ≤ S.toArray[m]! := hmono (m - 1) m (by omega) (by omega)
        have h6 : S.toArray[i]! ≤ S.toArray[m - 1]! := by
          by_cases e : i = m - 1
          · rw [e]; exact Int.le_refl _
          · exact hmono i (m - 1) (by omega) (by omega)
        omega
      refine ⟨List.pairwise_append.2 ⟨h1, List.pairwise_singleton _ _, fun a ha b hb => ?_⟩, fun x hx => ?_, fun i hi => ?_⟩
      · obtain ⟨i, hi, rfl⟩ := h2 a ha
        rw [List.mem_singleton.1 hb]
        exact hlt i hi
      · rcases List.mem_append.1 hx with hx | hx
        · obtain ⟨i, hi, e⟩ := h2 x hx; exact ⟨i, by omega, e⟩
        · exact ⟨m, by omega, (List.mem_singleton.1 hx).symm⟩
      · by_cases e : i = m
        · subst e; exact List.mem_append_right _ List.mem_cons_self
        · exact List.mem_append_left _ (h3 i (by omega))
    · rw [if_neg hk, List.append_nil]
      refine ⟨h1, fun x hx => by obtain ⟨i, hi, e⟩ := h2 x hx; exact ⟨i, by omega, e⟩, fun i hi => ?_⟩
      by_cases e : i = m
      · subst e
        have h0 : i ≠ 0 ∧ S.toArray[i]! = S.toArray[i - 1]! := by
          unfold Lib.keeps at hk
          simp only [decide_eq_true_eq, ne_eq, not_or, Decidable.not_not] at hk
          exact ⟨hk.1, by first | exact hk.2 | exact hk.2.symm⟩
        rw [h0.2]
        exact h3 (i - 1) (by omega)
      · exact h3 i (by omega)
theorem crnL_rise (ws : List (List Int)) : (crnL ws).Pairwise (· < ·) := by
  unfold crnL Lib.compact
  exact (compact_facts (sortL_rise _) _ (Nat.le_refl _)).1
theorem mem_crnL {ws : List (List Int)} {x : Int} : x ∈ crnL ws ↔ x ∈ endsL ws := by
  have hf := compact_facts (sortL_rise (endsL ws)) _ (Nat.le_refl _)
  rw [← (sortL_perm (endsL ws)).mem_iff]
  unfold crnL Lib.compact
  constructor
  · intro h
    obtain ⟨i, hi, rfl⟩ := hf.2.1 x h
    have : (sortL (endsL ws)).toArray[i]! = (sortL (endsL ws))[i] := by simp [hi]
    rw [this]
    exact List.getElem_mem hi
  · intro h
    obtain ⟨i, hi, rfl⟩ := List.getElem_of_mem h
    have := hf.2.2 i hi
    have e : (sortL (endsL ws)).toArray[i]! = (sortL (endsL ws))[i] := by simp [hi]
    rwa [e] at this
theorem mem_endsL {ws : List (List Int)} {x : Int} : x ∈ endsL ws ↔ ∃ w ∈ ws, x = (endP w).1 ∨ x = (endP w).2 := by
  unfold endsL
  rw [List.mem_flatMap]
  simp

/-- The vertices of three neighbours or more. -/
def corV (l : List Ed) (N : Nat) : List Int := ((List.range N).filter fun (v : Nat) => decide (3 ≤ (nb l (v : Int)).length)).map fun (v : Nat) => (v : Int)
theorem corV_rise (l : List Ed) (N : Nat) : (corV l N).Pairwise (· < ·) := by
  unfold corV
  refine List.pairwise_map.2 (((List.pairwise_lt_range (n := N)).sublist List.filter_sublist).imp fun {a b} h => ?_)
  omega
theorem mem_corV {l : List Ed} {N : Nat} {x : Int} : x ∈ corV l N ↔ 0 ≤ x ∧ x < (N : Int) ∧ 3 ≤ (nb l x).length := by
  unfold corV
  constructor
  · intro h
    obtain ⟨v, hv, rfl⟩ := List.mem_map.1 h
    obtain ⟨h1, h2⟩ := List.mem_filter.1 hv
    have := List.mem_range.1 h1
    exact ⟨by omega, by omega, by simpa using h2⟩
  · rintro ⟨h0, h1, h2⟩
    refine List.mem_map.2 ⟨x.toNat, List.mem_filter.2 ⟨List.mem_range.2 (by omega), ?_⟩, by omega⟩
    rw [show ((x.toNat : Nat) : Int) = x by omega]
    simpa using h2
theorem rise_same {A B : List Int} (hA : A.Pairwise (· < ·)) (hB : B.Pairwise (· < ·)) (h : ∀ x, x ∈ A ↔ x ∈ B) : A = B := by
  have hp : A.Perm B := (List.perm_ext_iff_of_nodup (hA.imp fun h => Int.ne_of_lt h) (hB.imp fun h => Int.ne_of_lt h)).2 h
  exact hp.eq_of_pairwise (fun a b _ _ h1 h2 => by omega) hA hB
theorem crn_cor {N : Nat} {l : List Ed} (hR : RightG (N : Int) l) (h1 : NoOne l) : crnL (waysTo l N N) = corV l N := by
  refine rise_same (crnL_rise _) (corV_rise _ _) fun x => ?_
  rw [mem_crnL, mem_endsL, mem_corV]
  have hcd : ∀ d ∈ crD l N, 0 ≤ d.1 ∧ d.1 < (N : Int) ∧ 3 ≤ (nb l d.1).length ∧ d.2 ∈ nb l d.1 := fun d hd => by
    obtain ⟨v, hv, e1, e2, e3⟩ := mem_crD.1 hd
    rw [← e1] at e2 e3
    exact ⟨by omega, by omega, e2, e3⟩
  have hin : ∀ d ∈ crD l N, toldB (wayL l N d.1 d.2) = true → wayL l N d.1 d.2 ∈ waysTo l N N := fun d hd ht => by
    rw [waysTo_eq]
    exact List.mem_filter.2 ⟨List.mem_map.2 ⟨d, hd, rfl⟩, ht⟩
  constructor
  · rintro ⟨w, hw, hx⟩
    rw [waysTo_eq] at hw
    obtain ⟨hw, _⟩ := List.mem_filter.1 hw
    obtain ⟨d, hd, rfl⟩ := List.mem_map.1 hw
    rcases hx with rfl | rfl
    · have := hcd d hd
      exact ⟨this.1, this.2.1, this.2.2.1⟩
    · have := hcd _ (rho_in hR h1 hd)
      exact ⟨this.1, this.2.1, this.2.2.1⟩
  · rintro ⟨h0, hN, h3⟩
    obtain ⟨u, hu⟩ : ∃ u, u ∈ nb l x := List.exists_mem_of_length_pos (by omega)
    have hd : (x, u) ∈ crD l N := mem_crD.2 ⟨x.toNat, by omega, by simp; omega, by rw [show ((x.toNat : Nat) : Int) = x by omega]; exact h3, by rw [show ((x.toNat : Nat) : Int) = x by omega]; exact hu⟩
    cases ht : toldB (wayL l N x u) with
    | true => exact ⟨_, hin _ hd ht, .inl rfl⟩
    | false =>
      obtain ⟨g1, g2, g3, g4, g5⟩ := rho_facts hR (d := (x, u)) hu (by simp only; omega)
      have ht2 : toldB (wayL l N (rho l N (x, u)).1 (rho l N (x, u)).2) = true := by rw [g5]; simp only; rw [ht]; rfl
      refine ⟨_, hin _ (rho_in hR h1 hd) ht2, .inr ?_⟩
      have : (rho l N (rho l N (x, u))).1 = x := by rw [g4]
      exact this.symm

def sumN (f : Nat → Nat) : Nat → Nat
  | 0 => 0
  | n + 1 => sumN f n + f n
def f3 (d : Nat) : Nat := if d < 3 then 0 else d
def g3 (d : Nat) : Nat := if d < 3 then 0 else 1
theorem crD_len (l : List Ed) : ∀ j, (crD l j).length = sumN (fun v => f3 (nb l (v : Int)).length) j
  | 0 => rfl
  | j + 1 => by
    rw [crD_succ, List.length_append, crD_len l j, sumN]
    unfold f3
    split <;> simp
theorem corV_len (l : List Ed) : ∀ j, (corV l j).length = sumN (fun v => g3 (nb l (v : Int)).length) j
  | 0 => rfl
  | j + 1 => by
    have ih := corV_len l j
    unfold corV at *
    rw [List.length_map] at *
    rw [List.range_succ, List.filter_append, List.length_append, ih, sumN]
    congr 1
    unfold g3
    by_cases h : (nb l (j : Int)).length < 3
    · rw [if_pos h]
      have : decide (3 ≤ (nb l (j : Int)).length) = false := by simp; omega
      simp [this]
    · rw [if_neg h]
      have : decide (3 ≤ (nb l (j : Int)).length) = true := by simp; omega
      simp [this]
theorem sumN_two {F G : Nat → Nat} {x y p q : Nat} (h : ∀ v, G v = F v + ((if v = x then p else 0) + (if v = y then q else 0))) : ∀ n, sumN G n = sumN F n + ((if x < n then p else 0) + (if y < n then q else 0))
  | 0 => by simp [sumN]
  | n + 1 => by
    have ih := sumN_two h n
    rw [sumN, sumN, ih, h n]
    by_cases h1 : x < n <;> by_cases h2 : y < n <;> by_cases h3 : n = x <;> by_cases h4 : n = y <;> simp [h1, h2, h3, h4] <;> (first | omega | (repeat' split) <;> omega)

theorem nbOf_cnt (e : Ed) (he : e.1 ≠ e.2.1) (x : Int) : (nbOf e x).length = (if x = e.1 then 1 else 0) + (if x = e.2.1 then 1 else 0) := by
  unfold nbOf
  by_cases h1 : e.1 = x
  · rw [if_pos h1, if_pos h1.symm, if_neg (fun h => he (h1.trans h))]; rfl
  · rw [if_neg h1, if_neg (Ne.symm h1)]
    by_cases h2 : e.2.1 = x
    · rw [if_pos h2, if_pos h2.symm]; rfl
    · rw [if_neg h2, if_neg (Ne.symm h2)]; rfl
theorem nb_append (A B : List Ed) (x : Int) : nb (A ++ B) x = nb A x ++ nb B x := by unfold nb; rw [List.flatMap_append]
/-- One place more. -/
theorem deg_more {l : List Ed} {p q : Nat → Bool} {m : Nat} (hm : m < l.length) (h1 : ∀ i, i ≠ m → q i = p i) (h2 : p m = false) (h3 : q m = true) (x : Int) : ∀ j, j ≤ l.length → (nb (keepL l q j) x).length = (nb (keepL l p j) x).length + (if m < j then (nbOf l[m] x).length else 0)
  | 0, _ => by simp [keepL]
  | j + 1, hj => by
    have ih := deg_more hm h1 h2 h3 x j (by omega)
    have hjl : j < l.length := by omega
    by_cases e : j = m
    · subst e
      rw [keepL_in hjl h3, keepL_out h2, nb_append, List.length_append, ih, if_neg (by omega), if_pos (by omega)]
      have : nb [l[j]] x = nbOf l[j] x := by simp [nb]
      rw [this]
      omega
    · have hc : (if m < j + 1 then (nbOf l[m] x).length else 0) = (if m < j then (nbOf l[m] x).length else 0) := by
        by_cases h : m < j
        · rw [if_pos h, if_pos (by omega)]
        · rw [if_neg h, if_neg (by omega)]
      rw [hc]
      cases hp : p j with
      | true => rw [keepL_in hjl hp, keepL_in hjl (by rw [h1 j e]; exact hp), nb_append, nb_append, List.length_append, List.length_append, ih]; omega
      | false => rw [keepL_out hp, keepL_out (by rw [h1 j e]; exact hp), ih]

/-- What a witness's degrees are. -/
def Wit (N : Nat) (h : List Ed) : Prop := NoOne h ∧ (((crD h N).length = 20 ∧ (corV h N).length = 5) ∨ ((crD h N).length = 18 ∧ (corV h N).length = 6))
/-- Of two sets of edges, one with an edge more, not both are a witness. -/
theorem wit_not {N : Nat} {l : List Ed} (hR : RightG (N : Int) l) {p q : Nat → Bool} {m : Nat} (hm : m < l.length) (h1 : ∀ i, i ≠ m → q i = p i) (h2 : p m = false) (h3 : q m = true) (hp : Wit N (keepL l p l.length)) (hq : Wit N (keepL l q l.length)) : False := by
  have hok := (hR.each l[m] (List.getElem_mem hm)).1
  have hd := fun x => deg_more hm h1 h2 h3 x l.length (Nat.le_refl _)
  simp only [if_pos hm] at hd
  obtain ⟨p1, p2⟩ := hp
  obtain ⟨q1, q2⟩ := hq
  rw [crD_len, corV_len] at p2 q2
  generalize keepL l p l.length = A at *
  generalize keepL l q l.length = B at *
  generalize l[m] = ee at hok hd
  obtain ⟨e1, e2, e3⟩ := ee
  unfold okE at hok
  obtain ⟨o1, o2, o3, o4, o5, _⟩ := hok
  simp only at o1 o2 o3 o4 o5
  obtain ⟨x, rfl⟩ : ∃ x : Nat, e1 = (x : Int) := ⟨e1.toNat, by omega⟩
  obtain ⟨y, rfl⟩ : ∃ y : Nat, e2 = (y : Int) := ⟨e2.toNat, by omega⟩
  have hxy : x ≠ y := fun e => o5 (by rw [e])
  have hdeg : ∀ v : Nat, (nb B (v : Int)).length = (nb A (v : Int)).length + ((if v = x then 1 else 0) + (if v = y then 1 else 0)) := fun v => by
    rw [hd (v : Int), nbOf_cnt _ o5]
    simp only [Int.ofNat_inj]
  have dx := hdeg x
  have dy := hdeg y
  simp only [if_true, if_neg hxy, if_neg (Ne.symm hxy), Nat.add_zero, Nat.zero_add] at dx dy
  have ax1 := p1 (x : Int)
  have ax2 := q1 (x : Int)
  have ay1 := p1 (y : Int)
  have ay2 := q1 (y : Int)
  have key : ∀ f : Nat → Nat, sumN (fun v => f (nb B (v : Int)).length) N + (f (nb A (x : Int)).length + f (nb A (y : Int)).length) = sumN (fun v => f (nb A (v : Int)).length) N + (f (nb B (x : Int)).length + f (nb B (y : Int)).length) := fun f => by
    have e1 := sumN_two (F := fun v => if v = x ∨ v = y then 0 else f (nb A (v : Int)).length) (G := fun v => f (nb A (v : Int)).length) (x := x) (y := y) (p := f (nb A (x : Int)).length) (q := f (nb A (y : Int)).length) (fun v => by
      by_cases h1 : v = x
      · subst h1; simp [hxy]
      · by_cases h2 : v = y
        · subst h2; simp [h1]
        · simp [h1, h2]) N
    have e2 := sumN_two (F := fun v => if v = x ∨ v = y then 0 else f (nb A (v : Int)).length) (G := fun v => f (nb B (v : Int)).length) (x := x) (y := y) (p := f (nb B (x : Int)).length) (q := f (nb B (y : Int)).length) (fun v => by
      by_cases h1 : v = x
      · subst h1; simp [hxy]
      · by_cases h2 : v = y
        · subst h2; simp [h1]
        · have := hdeg v
          simp only [if_neg h1, if_neg h2, Nat.add_zero] at this
          simp [h1, h2, this]) N
    rw [if_pos (by omega), if_pos (by omega)] at e1 e2
    omega
  have k1 := key f3
  have k2 := key g3
  generalize sumN (fun v => f3 (nb B (v : Int)).length) N = s1 at *
  generalize sumN (fun v => f3 (nb A (v : Int)).length) N = s2 at *
  generalize sumN (fun v => g3 (nb B (v : Int)).length) N = s3 at *
  generalize sumN (fun v => g3 (nb A (v : Int)).length) N = s4 at *
  generalize (nb A (x : Int)).length = a at *
  generalize (nb A (y : Int)).length = b at *
  rw [dx, dy] at k1 k2
  rw [dx] at ax2
  rw [dy] at ay2
  unfold f3 at k1
  unfold g3 at k2
  by_cases c1 : a < 3 <;> by_cases c2 : b < 3 <;> by_cases c3 : a + 1 < 3 <;> by_cases c4 : b + 1 < 3 <;> simp only [c1, c2, c3, c4, if_true, if_false] at k1 k2 <;> omega
end Go.Proofs.Ytgjaikekpgdehaa

namespace Go.Proofs.Ytgjaikekpgdehaa
open Go Go.Proofs

theorem okB_iff {l : List Ed} {a : List Int} : okB l a a.length = true ↔ (∀ x ∈ a, 0 ≤ x ∧ x < (l.length : Int)) ∧ a.Nodup := by
  have go : ∀ j, j ≤ a.length → (okB l a j = true ↔ (∀ x ∈ a.take j, 0 ≤ x ∧ x < (l.length : Int)) ∧ (a.take j).Nodup) := by
    intro j
    induction j with
    | zero => intro _; simp [okB]
    | succ j ih =>
      intro hj
      rw [okB_succ (by omega), take_snoc (by omega), Bool.and_eq_true, ih (by omega)]
      unfold goodB placeB
      simp only [Bool.and_eq_true, decide_eq_true_eq, Bool.not_eq_true', inB_false]
      rw [List.nodup_append]
      constructor
      · rintro ⟨⟨h1, h2⟩, ⟨h3, h4⟩, h5⟩
        refine ⟨fun x hx => ?_, h2, by simp, fun x hx y hy => ?_⟩
        · rcases List.mem_append.1 hx with hx | hx
          · exact h1 x hx
          · rw [List.mem_singleton.1 hx]; exact ⟨h3, h4⟩
        · rw [List.mem_singleton.1 hy]; rintro rfl; exact h5 hx
      · rintro ⟨h1, h2, -, h3⟩
        exact ⟨⟨fun x hx => h1 x (List.mem_append_left _ hx), h2⟩, h1 _ (List.mem_append_right _ (List.mem_singleton.2 rfl)), fun h => h3 _ h _ (List.mem_singleton.2 rfl) rfl⟩
  have := go a.length (Nat.le_refl _)
  rwa [List.take_length] at this
theorem wgtK_iff {n : Int} {l : List Ed} {a : List Int} : wgtK n l a = 0 ↔ RightG n l ∧ (∀ x ∈ a, 0 ≤ x ∧ x < (l.length : Int)) ∧ a.Nodup := by
  rw [← okB_iff]
  refine ⟨fun h => wgtK_zero h, fun h => ?_⟩
  unfold wgtK wK
  rw [if_pos (right_iff.2 h.1), if_pos h.2]
theorem nearL_noone {N : Nat} {l : List Ed} (hR : RightG (N : Int) l) : (nearL N l).any oneB = false ↔ NoOne l := by
  constructor
  · intro h v hv
    obtain ⟨u, hu⟩ : ∃ u, u ∈ nb l v := List.exists_mem_of_length_pos (by omega)
    have hb := nb_mutual hR (nb_mutual hR hu).1
    rw [List.any_eq_false] at h
    refine h (nb l v) (List.mem_map.2 ⟨v.toNat, List.mem_range.2 (by omega), by rw [show ((v.toNat : Nat) : Int) = v by omega]⟩) ?_
    unfold oneB
    rw [hv]; rfl
  · intro h
    rw [List.any_eq_false]
    intro x hx
    obtain ⟨v, _, rfl⟩ := List.mem_map.1 hx
    have := h (v : Int)
    unfold oneB
    simp
    omega
theorem wsK_iff {N : Nat} {l : List Ed} (hR : RightG (N : Int) l) : wsK N l = 0 ↔ NoOne l ∧ onL (waysTo l N N) = (l.length : Int) := by
  rw [← nearL_noone hR]
  unfold wsK
  cases h : (nearL N l).any oneB with
  | true => simp
  | false =>
    by_cases h2 : onL (waysTo l N N) = (l.length : Int)
    · simp [h2]
    · simp [h2]
theorem cls_iff {n : Int} {l : List Ed} {a : List Int} : clsK n l a = 0 ↔ wgtK n l a = 0 ∧ NoOne (subL l a) ∧ onL (waysTo (subL l a) n.toNat n.toNat) = ((subL l a).length : Int) ∧ (fiveB (waysTo (subL l a) n.toNat n.toNat) = true ∨ threeB (waysTo (subL l a) n.toNat n.toNat) = true) := by
  unfold clsK wyK wyL wsL
  by_cases hw : wgtK n l a = 0
  · have hR2 := sub_right (a := a) (wgtK_zero hw).1
    rw [if_pos hw, if_pos hw]
    have := wsK_iff hR2
    by_cases hs : wsK n.toNat (subL l a) = 0
    · rw [if_pos hs, if_pos hs]
      obtain ⟨h1, h2⟩ := this.1 hs
      cases hf : fiveB (waysTo (subL l a) n.toNat n.toNat) with
      | true => simp [h1, h2, hw]
      | false =>
        cases ht : threeB (waysTo (subL l a) n.toNat n.toNat) with
        | true => simp [h1, h2, hw]
        | false => simp
    · rw [if_neg hs]
      constructor
      · intro h; exact absurd h hs
      · rintro ⟨_, h1, h2, _⟩
        exact absurd (this.2 ⟨h1, h2⟩) hs
  · rw [if_neg hw, if_neg (by omega)]
    constructor
    · intro h; cases h
    · intro h; exact absurd h.1 hw
theorem cls_vals {n : Int} {l : List Ed} {a : List Int} : (wgtK n l a ≠ 0 → clsK n l a = 1) ∧ (wgtK n l a = 0 → clsK n l a = 0 ∨ clsK n l a = 13) := by
  unfold clsK wyK
  constructor
  · intro h
    rw [if_neg h, if_neg (by omega)]
  · intro h
    rw [if_pos h]
    by_cases hs : wsK n.toNat (subL l a) = 0
    · rw [if_pos hs]
      split
      · exact .inl rfl
      · split
        · exact .inl rfl
        · exact .inr rfl
    · rw [if_neg hs]
      right
      unfold wsK at *
      split at hs
      · rename_i h1; rw [if_pos h1]
      · rename_i h1
        rw [if_neg h1]
        split at hs
        · exact absurd rfl hs
        · rename_i h2; rw [if_neg h2]
theorem filt_len (C : List Int) (p : Int → Bool) : (C.filter fun c => !p c).length + (C.filter p).length = C.length := by
  induction C with
  | nil => rfl
  | cons c C ih =>
    cases h : p c with
    | true => simp [h]; omega
    | false => simp [h]; omega
theorem three_len {ws : List (List Int)} (h : threeB ws = true) : ws.length = 9 ∧ (crnL ws).length = 6 := by
  unfold threeB at h
  simp only [Bool.and_eq_true, decide_eq_true_eq] at h
  refine ⟨h.1, ?_⟩
  have := filt_len (crnL ws) (fun c => farB ws ((crnL ws).getD 0 0) c)
  have h2 := h.2.1
  have h3 := h.2.2.1
  unfold nrP preN at h2
  unfold frP preF at h3
  rw [List.take_length] at h2 h3
  omega
theorem five_len {ws : List (List Int)} (h : fiveB ws = true) : ws.length = 10 ∧ (crnL ws).length = 5 := by
  unfold fiveB at h
  simp only [Bool.and_eq_true, decide_eq_true_eq] at h
  exact ⟨h.1, h.2.1⟩
theorem wit_of {n : Int} {l : List Ed} {a : List Int} (h : clsK n l a = 0) : Wit n.toNat (subL l a) := by
  obtain ⟨hw, h1, h2, h3⟩ := cls_iff.1 h
  have hR2 := sub_right (a := a) (wgtK_zero hw).1
  have hh := ways_half hR2 h1
  have hc := crn_cor hR2 h1
  refine ⟨h1, ?_⟩
  rcases h3 with h3 | h3
  · have := five_len h3
    rw [hc] at this
    exact .inl ⟨by omega, this.2⟩
  · have := three_len h3
    rw [hc] at this
    exact .inr ⟨by omega, this.2⟩
theorem onL_ge : ∀ {ws : List (List Int)}, (∀ x ∈ ws, 2 ≤ x.length) → (ws.length : Int) ≤ onL ws
  | [], _ => by simp [onL]
  | x :: ws, h => by
    have := onL_ge (ws := ws) (fun y hy => h y (List.mem_cons_of_mem _ hy))
    have h2 := h x List.mem_cons_self
    unfold onL at *
    rw [List.map_cons, List.sum_cons, List.length_cons]
    omega
theorem keepL_cnt (l : List Ed) (p : Nat → Bool) : ∀ j, j ≤ l.length → (keepL l p j).length = ((List.range j).filter p).length
  | 0, _ => rfl
  | j + 1, h => by
    have ih := keepL_cnt l p j (by omega)
    rw [List.range_succ, List.filter_append, List.length_append, ← ih]
    cases hp : p j with
    | true => rw [keepL_in (by omega) hp]; simp [hp]
    | false => rw [keepL_out hp]; simp [hp]
theorem sub_len {l : List Ed} {a : List Int} : (subL l a).length ≤ a.length := by
  unfold subL
  rw [keepL_cnt l _ _ (Nat.le_refl _)]
  have := nodup_lenK (A := ((List.range l.length).filter fun (i : Nat) => inB a (i : Int)).map fun (i : Nat) => (i : Int)) (B := a) (List.pairwise_map.2 (((List.pairwise_lt_range (n := l.length)).sublist List.filter_sublist).imp fun {x y} h => by omega)) (fun x hx => by
    obtain ⟨i, hi, rfl⟩ := List.mem_map.1 hx
    exact inB_true.1 (List.mem_filter.1 hi).2)
  rwa [List.length_map] at this
/-- A witness has nine edges or more. -/
theorem wit_nine {n : Int} {l : List Ed} {a : List Int} (h : clsK n l a = 0) : 9 ≤ a.length := by
  obtain ⟨hw, h1, h2, h3⟩ := cls_iff.1 h
  have hR2 := sub_right (a := a) (wgtK_zero hw).1
  have h4 := onL_ge (ws := waysTo (subL l a) n.toNat n.toNat) (fun x hx => by
    obtain ⟨v, u, g1, g2, g3, rfl, _⟩ := waysTo_each hx
    exact (wayL_len hR2 g2 (by omega)).1)
  have h5 := sub_len (l := l) (a := a)
  rcases h3 with h3 | h3
  · have := (five_len h3).1; omega
  · have := (three_len h3).1; omega
theorem wit_apart {n : Int} {l : List Ed} {a b : List Int} {x : Int} (ha : x ∉ a) (hb : ∀ y, y ∈ b ↔ y ∈ a ∨ y = x) (hx : 0 ≤ x ∧ x < (l.length : Int)) (h1 : clsK n l a = 0) (h2 : clsK n l b = 0) : False := by
  have w1 := wit_of h1
  have w2 := wit_of h2
  have hR := (wgtK_zero (cls_iff.1 h1).1).1
  have hn : ((n.toNat : Nat) : Int) = n := by have := hR.n0; omega
  refine wit_not (N := n.toNat) (l := l) (p := fun i => inB a (i : Int)) (q := fun i => inB b (i : Int)) (m := x.toNat) (by rw [hn]; exact hR) (by omega) (fun i hi => ?_) ?_ ?_ w1 w2
  · show decide ((i : Int) ∈ b) = decide ((i : Int) ∈ a)
    apply decide_eq_decide.2
    rw [hb]
    constructor
    · rintro (h | h)
      · exact h
      · omega
    · exact .inl
  · show inB a ((x.toNat : Nat) : Int) = false
    rw [show ((x.toNat : Nat) : Int) = x by omega]
    exact inB_false.2 ha
  · show inB b ((x.toNat : Nat) : Int) = true
    rw [show ((x.toNat : Nat) : Int) = x by omega]
    exact inB_true.2 ((hb x).2 (.inr rfl))
/-- An edge less. -/
theorem wit_less {n : Int} {l : List Ed} {a : List Int} (h : clsK n l a = 0) {i : Nat} (hi : i < a.length) : clsK n l (a.take i ++ a.drop (i + 1)) = 13 := by
  obtain ⟨hR, h1, h2⟩ := wgtK_iff.1 (cls_iff.1 h).1
  have hs : (a.take i ++ a.drop (i + 1)).Sublist a := by
    rw [← List.eraseIdx_eq_take_drop_succ]
    exact List.eraseIdx_sublist _ _
  have hw : wgtK n l (a.take i ++ a.drop (i + 1)) = 0 := wgtK_iff.2 ⟨hR, fun x hx => h1 x (hs.subset hx), h2.sublist hs⟩
  rcases cls_vals.2 hw with h0 | h0
  · exfalso
    have e : a = a.take i ++ a[i] :: a.drop (i + 1) := by
      rw [← List.drop_eq_getElem_cons hi, List.take_append_drop]
    have hmem : ∀ y, y ∈ a ↔ y ∈ a.take i ++ a.drop (i + 1) ∨ y = a[i] := fun y => by
      conv => lhs; rw [e]
      simp only [List.mem_append, List.mem_cons]
      constructor
      · rintro (h | h | h)
        · exact .inl (.inl h)
        · exact .inr h
        · exact .inl (.inr h)
      · rintro ((h | h) | h)
        · exact .inl h
        · exact .inr (.inr h)
        · exact .inr (.inl h)
    have hnot : a[i] ∉ a.take i ++ a.drop (i + 1) := by
      intro hm
      have hn := h2
      rw [e, List.nodup_append] at hn
      obtain ⟨_, hc, hx⟩ := hn
      rcases List.mem_append.1 hm with hm | hm
      · exact hx _ hm _ List.mem_cons_self rfl
      · exact (List.nodup_cons.1 hc).1 hm
    exact wit_apart hnot hmem (h1 _ (List.getElem_mem hi)) h0 h
  · exact h0
/-- An edge more. -/
theorem wit_more {n : Int} {l : List Ed} {a : List Int} (h : clsK n l a = 0) (x : Int) : clsK n l (a ++ [x]) = if 0 ≤ x ∧ x < (l.length : Int) ∧ x ∉ a then 13 else 1 := by
  obtain ⟨hR, h1, h2⟩ := wgtK_iff.1 (cls_iff.1 h).1
  by_cases hx : 0 ≤ x ∧ x < (l.length : Int) ∧ x ∉ a
  · rw [if_pos hx]
    have hw : wgtK n l (a ++ [x]) = 0 := wgtK_iff.2 ⟨hR, fun y hy => by
      rcases List.mem_append.1 hy with hy | hy
      · exact h1 y hy
      · rw [List.mem_singleton.1 hy]; exact ⟨hx.1, hx.2.1⟩, by
      rw [List.nodup_append]
      exact ⟨h2, by simp, fun y hy z hz => by rw [List.mem_singleton.1 hz]; rintro rfl; exact hx.2.2 hy⟩⟩
    rcases cls_vals.2 hw with h0 | h0
    · exact (wit_apart hx.2.2 (fun y => by simp) ⟨hx.1, hx.2.1⟩ h h0).elim
    · exact h0
  · rw [if_neg hx]
    apply cls_vals.1
    intro hw
    obtain ⟨_, g1, g2⟩ := wgtK_iff.1 hw
    have g3 := g1 x (by simp)
    refine hx ⟨g3.1, g3.2, fun hm => ?_⟩
    rw [List.nodup_append] at g2
    exact g2.2.2 x hm x (by simp) rfl
end Go.Proofs.Ytgjaikekpgdehaa
