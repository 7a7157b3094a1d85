/-
  What ways end at are the vertices of three neighbours or more; how degrees change by an edge. No program in this text.
-/
import Derived.Test.YtgjaikekpgdehaaXKRev
namespace Go.Proofs.Ytgjaikekpgdehaa
open Go Go.Proofs

theorem compact_facts {S : List Int} (hs : S.Pairwise (· ≤ ·)) : ∀ m, m ≤ S.length →
    (Lib.compactUpTo S.toArray m).Pairwise (· < ·) ∧ (∀ x ∈ Lib.compactUpTo S.toArray m, ∃ i, i < m ∧ S.toArray[i]! = x) ∧ ∀ i, i < m → S.toArray[i]! ∈ Lib.compactUpTo S.toArray m
  | 0, _ => ⟨by simp [Lib.compactUpTo], by simp [Lib.compactUpTo], fun i h => by omega⟩
  | m + 1, hm => by
    obtain ⟨h1, h2, h3⟩ := compact_facts hs m (by omega)
    have hg : ∀ i, i < S.length → S.toArray[i]! = S[i]! := fun i hi => by simp
    have hmono : ∀ i j, i < j → j < S.length → S.toArray[i]! ≤ S.toArray[j]! := fun i j hij hj => by
      rw [hg i (by omega), hg j hj, getElem!_pos S i (by omega), getElem!_pos S j hj]
      exact List.pairwise_iff_getElem.1 hs i j (by omega) hj hij
    rw [Lib.compactUpTo_succ]
    by_cases hk : Lib.keeps S.toArray m = true
    · rw [if_pos hk]
      have hlt : ∀ i, i < m → S.toArray[i]! < S.toArray[m]! := fun i hi => by
        have hne : S.toArray[m - 1]! ≠ S.toArray[m]! := by
          unfold Lib.keeps at hk
          intro e
          have h0 : m ≠ 0 := by omega
          simp only [decide_eq_true_eq, ne_eq] at hk
          rcases hk with hk | hk
          · exact h0 hk
          · first | exact hk e | exact hk e.symm
        have h5 : S.toArray[m - 1]! ≤ S.toArray[m]! := hmono (m - 1) m (by omega) (by omega)
        have h6 : S.toArray[i]! ≤ S.toArray[m - 1]! := by
          by_cases e : i = m - 1
          · rw [e]; exact Int.le_refl _
          · exact hmono i (m - 1) (by omega) (by omega)
        omega
      refine ⟨List.pairwise_append.2 ⟨h1, List.pairwise_singleton _ _, fun a ha b hb => ?_⟩, fun x hx => ?_, fun i hi => ?_⟩
      · obtain ⟨i, hi, rfl⟩ := h2 a ha
        rw [List.mem_singleton.1 hb]
        exact hlt i hi
      · rcases List.mem_append.1 hx with hx | hx
        · obtain ⟨i, hi, e⟩ := h2 x hx; exact ⟨i, by omega, e⟩
        · exact ⟨m, by omega, (List.mem_singleton.1 hx).symm⟩
      · by_cases e : i = m
        · subst e; exact List.mem_append_right _ List.mem_cons_self
        · exact List.mem_append_left _ (h3 i (by omega))
    · rw [if_neg hk, List.append_nil]
      refine ⟨h1, fun x hx => by obtain ⟨i, hi, e⟩ := h2 x hx; exact ⟨i, by omega, e⟩, fun i hi => ?_⟩
      by_cases e : i = m
      · subst e
        have h0 : i ≠ 0 ∧ S.toArray[i]! = S.toArray[i - 1]! := by
          unfold Lib.keeps at hk
          simp only [decide_eq_true_eq, ne_eq, not_or, Decidable.not_not] at hk
          exact ⟨hk.1, by first | exact hk.2 | exact hk.2.symm⟩
        rw [h0.2]
        exact h3 (i - 1) (by omega)
      · exact h3 i (by omega)
theorem crnL_rise (ws : List (List Int)) : (crnL ws).Pairwise (· < ·) := by
  unfold crnL Lib.compact
  exact (compact_facts (sortL_rise _) _ (Nat.le_refl _)).1
theorem mem_crnL {ws : List (List Int)} {x : Int} : x ∈ crnL ws ↔ x ∈ endsL ws := by
  have hf := compact_facts (sortL_rise (endsL ws)) _ (Nat.le_refl _)
  rw [← (sortL_perm (endsL ws)).mem_iff]
  unfold crnL Lib.compact
  constructor
  · intro h
    obtain ⟨i, hi, rfl⟩ := hf.2.1 x h
    have : (sortL (endsL ws)).toArray[i]! = (sortL (endsL ws))[i] := by simp [hi]
    rw [this]
    exact List.getElem_mem hi
  · intro h
    obtain ⟨i, hi, rfl⟩ := List.getElem_of_mem h
    have := hf.2.2 i hi
    have e : (sortL (endsL ws)).toArray[i]! = (sortL (endsL ws))[i] := by simp [hi]
    rwa [e] at this
theorem mem_endsL {ws : List (List Int)} {x : Int} : x ∈ endsL ws ↔ ∃ w ∈ ws, x = (endP w).1 ∨ x = (endP w).2 := by
  unfold endsL
  rw [List.mem_flatMap]
  simp

/-- The vertices of three neighbours or more. -/
def corV (l : List Ed) (N : Nat) : List Int := ((List.range N).filter fun (v : Nat) => decide (3 ≤ (nb l (v : Int)).length)).map fun (v : Nat) => (v : Int)
theorem corV_rise (l : List Ed) (N : Nat) : (corV l N).Pairwise (· < ·) := by
  unfold corV
  refine List.pairwise_map.2 (((List.pairwise_lt_range (n := N)).sublist List.filter_sublist).imp fun {a b} h => ?_)
  omega
theorem mem_corV {l : List Ed} {N : Nat} {x : Int} : x ∈ corV l N ↔ 0 ≤ x ∧ x < (N : Int) ∧ 3 ≤ (nb l x).length := by
  unfold corV
  constructor
  · intro h
    obtain ⟨v, hv, rfl⟩ := List.mem_map.1 h
    obtain ⟨h1, h2⟩ := List.mem_filter.1 hv
    have := List.mem_range.1 h1
    exact ⟨by omega, by omega, by simpa using h2⟩
  · rintro ⟨h0, h1, h2⟩
    refine List.mem_map.2 ⟨x.toNat, List.mem_filter.2 ⟨List.mem_range.2 (by omega), ?_⟩, by omega⟩
    rw [show ((x.toNat : Nat) : Int) = x by omega]
    simpa using h2
theorem rise_same {A B : List Int} (hA : A.Pairwise (· < ·)) (hB : B.Pairwise (· < ·)) (h : ∀ x, x ∈ A ↔ x ∈ B) : A = B := by
  have hp : A.Perm B := (List.perm_ext_iff_of_nodup (hA.imp fun h => Int.ne_of_lt h) (hB.imp fun h => Int.ne_of_lt h)).2 h
  exact hp.eq_of_pairwise (fun a b _ _ h1 h2 => by omega) hA hB
theorem crn_cor {N : Nat} {l : List Ed} (hR : RightG (N : Int) l) (h1 : NoOne l) : crnL (waysTo l N N) = corV l N := by
  refine rise_same (crnL_rise _) (corV_rise _ _) fun x => ?_
  rw [mem_crnL, mem_endsL, mem_corV]
  have hcd : ∀ d ∈ crD l N, 0 ≤ d.1 ∧ d.1 < (N : Int) ∧ 3 ≤ (nb l d.1).length ∧ d.2 ∈ nb l d.1 := fun d hd => by
    obtain ⟨v, hv, e1, e2, e3⟩ := mem_crD.1 hd
    rw [← e1] at e2 e3
    exact ⟨by omega, by omega, e2, e3⟩
  have hin : ∀ d ∈ crD l N, toldB (wayL l N d.1 d.2) = true → wayL l N d.1 d.2 ∈ waysTo l N N := fun d hd ht => by
    rw [waysTo_eq]
    exact List.mem_filter.2 ⟨List.mem_map.2 ⟨d, hd, rfl⟩, ht⟩
  constructor
  · rintro ⟨w, hw, hx⟩
    rw [waysTo_eq] at hw
    obtain ⟨hw, _⟩ := List.mem_filter.1 hw
    obtain ⟨d, hd, rfl⟩ := List.mem_map.1 hw
    rcases hx with rfl | rfl
    · have := hcd d hd
      exact ⟨this.1, this.2.1, this.2.2.1⟩
    · have := hcd _ (rho_in hR h1 hd)
      exact ⟨this.1, this.2.1, this.2.2.1⟩
  · rintro ⟨h0, hN, h3⟩
    obtain ⟨u, hu⟩ : ∃ u, u ∈ nb l x := List.exists_mem_of_length_pos (by omega)
    have hd : (x, u) ∈ crD l N := mem_crD.2 ⟨x.toNat, by omega, by simp; omega, by rw [show ((x.toNat : Nat) : Int) = x by omega]; exact h3, by rw [show ((x.toNat : Nat) : Int) = x by omega]; exact hu⟩
    cases ht : toldB (wayL l N x u) with
    | true => exact ⟨_, hin _ hd ht, .inl rfl⟩
    | false =>
      obtain ⟨g1, g2, g3, g4, g5⟩ := rho_facts hR (d := (x, u)) hu (by simp only; omega)
      have ht2 : toldB (wayL l N (rho l N (x, u)).1 (rho l N (x, u)).2) = true := by rw [g5]; simp only; rw [ht]; rfl
      refine ⟨_, hin _ (rho_in hR h1 hd) ht2, .inr ?_⟩
      have : (rho l N (rho l N (x, u))).1 = x := by rw [g4]
      exact this.symm

def sumN (f : Nat → Nat) : Nat → Nat
  | 0 => 0
  | n + 1 => sumN f n + f n
def f3 (d : Nat) : Nat := if d < 3 then 0 else d
def g3 (d : Nat) : Nat := if d < 3 then 0 else 1
theorem crD_len (l : List Ed) : ∀ j, (crD l j).length = sumN (fun v => f3 (nb l (v : Int)).length) j
  | 0 => rfl
  | j + 1 => by
    rw [crD_succ, List.length_append, crD_len l j, sumN]
    unfold f3
    split <;> simp
theorem corV_len (l : List Ed) : ∀ j, (corV l j).length = sumN (fun v => g3 (nb l (v : Int)).length) j
  | 0 => rfl
  | j + 1 => by
    have ih := corV_len l j
    unfold corV at *
    rw [List.length_map] at *
    rw [List.range_succ, List.filter_append, List.length_append, ih, sumN]
    congr 1
    unfold g3
    by_cases h : (nb l (j : Int)).length < 3
    · rw [if_pos h]
      have : decide (3 ≤ (nb l (j : Int)).length) = false := by simp; omega
      simp [this]
    · rw [if_neg h]
      have : decide (3 ≤ (nb l (j : Int)).length) = true := by simp; omega
      simp [this]
theorem sumN_two {F G : Nat → Nat} {x y p q : Nat} (h : ∀ v, G v = F v + ((if v = x then p else 0) + (if v = y then q else 0))) : ∀ n, sumN G n = sumN F n + ((if x < n then p else 0) + (if y < n then q else 0))
  | 0 => by simp [sumN]
  | n + 1 => by
    have ih := sumN_two h n
    rw [sumN, sumN, ih, h n]
    by_cases h1 : x < n <;> by_cases h2 : y < n <;> by_cases h3 : n = x <;> by_cases h4 : n = y <;> simp [h1, h2, h3, h4] <;> (first | omega | (repeat' split) <;> omega)

theorem nbOf_cnt (e : Ed) (he : e.1 ≠ e.2.1) (x : Int) : (nbOf e x).length = (if x = e.1 then 1 else 0) + (if x = e.2.1 then 1 else 0) := by
  unfold nbOf
  by_cases h1 : e.1 = x
  · rw [if_pos h1, if_pos h1.symm, if_neg (fun h => he (h1.trans h))]; rfl
  · rw [if_neg h1, if_neg (Ne.symm h1)]
    by_cases h2 : e.2.1 = x
    · rw [if_pos h2, if_pos h2.symm]; rfl
    · rw [if_neg h2, if_neg (Ne.symm h2)]; rfl
theorem nb_append (A B : List Ed) (x : Int) : nb (A ++ B) x = nb A x ++ nb B x := by unfold nb; rw [List.flatMap_append]
/-- One place more. -/
theorem deg_more {l : List Ed} {p q : Nat → Bool} {m : Nat} (hm : m < l.length) (h1 : ∀ i, i ≠ m → q i = p i) (h2 : p m = false) (h3 : q m = true) (x : Int) : ∀ j, j ≤ l.length → (nb (keepL l q j) x).length = (nb (keepL l p j) x).length + (if m < j then (nbOf l[m] x).length else 0)
  | 0, _ => by simp [keepL]
  | j + 1, hj => by
    have ih := deg_more hm h1 h2 h3 x j (by omega)
    have hjl : j < l.length := by omega
    by_cases e : j = m
    · subst e
      rw [keepL_in hjl h3, keepL_out h2, nb_append, List.length_append, ih, if_neg (by omega), if_pos (by omega)]
      have : nb [l[j]] x = nbOf l[j] x := by simp [nb]
      rw [this]
      omega
    · have hc : (if m < j + 1 then (nbOf l[m] x).length else 0) = (if m < j then (nbOf l[m] x).length else 0) := by
        by_cases h : m < j
        · rw [if_pos h, if_pos (by omega)]
        · rw [if_neg h, if_neg (by omega)]
      rw [hc]
      cases hp : p j with
      | true => rw [keepL_in hjl hp, keepL_in hjl (by rw [h1 j e]; exact hp), nb_append, nb_append, List.length_append, List.length_append, ih]; omega
      | false => rw [keepL_out hp, keepL_out (by rw [h1 j e]; exact hp), ih]

/-- What a witness's degrees are. -/
def Wit (N : Nat) (h : List Ed) : Prop := NoOne h ∧ (((crD h N).length = 20 ∧ (corV h N).length = 5) ∨ ((crD h N).length = 18 ∧ (corV h N).length = 6))
/-- Of two sets of edges, one with an edge more, not both are a witness. -/
theorem wit_not {N : Nat} {l : List Ed} (hR : RightG (N : Int) l) {p q : Nat → Bool} {m : Nat} (hm : m < l.length) (h1 : ∀ i, i ≠ m → q i = p i) (h2 : p m = false) (h3 : q m = true) (hp : Wit N (keepL l p l.length)) (hq : Wit N (keepL l q l.length)) : False := by
  have hok := (hR.each l[m] (List.getElem_mem hm)).1
  have hd := fun x => deg_more hm h1 h2 h3 x l.length (Nat.le_refl _)
  simp only [if_pos hm] at hd
  obtain ⟨p1, p2⟩ := hp
  obtain ⟨q1, q2⟩ := hq
  rw [crD_len, corV_len] at p2 q2
  generalize keepL l p l.length = A at *
  generalize keepL l q l.length = B at *
  generalize l[m] = ee at hok hd
  obtain ⟨e1, e2, e3⟩ := ee
  unfold okE at hok
  obtain ⟨o1, o2, o3, o4, o5, _⟩ := hok
  simp only at o1 o2 o3 o4 o5
  obtain ⟨x, rfl⟩ : ∃ x : Nat, e1 = (x : Int) := ⟨e1.toNat, by omega⟩
  obtain ⟨y, rfl⟩ : ∃ y : Nat, e2 = (y : Int) := ⟨e2.toNat, by omega⟩
  have hxy : x ≠ y := fun e => o5 (by rw [e])
  have hdeg : ∀ v : Nat, (nb B (v : Int)).length = (nb A (v : Int)).length + ((if v = x then 1 else 0) + (if v = y then 1 else 0)) := fun v => by
    rw [hd (v : Int), nbOf_cnt _ o5]
    simp only [Int.ofNat_inj]
  have dx := hdeg x
  have dy := hdeg y
  simp only [if_true, if_neg hxy, if_neg (Ne.symm hxy), Nat.add_zero, Nat.zero_add] at dx dy
  have ax1 := p1 (x : Int)
  have ax2 := q1 (x : Int)
  have ay1 := p1 (y : Int)
  have ay2 := q1 (y : Int)
  have key : ∀ f : Nat → Nat, sumN (fun v => f (nb B (v : Int)).length) N + (f (nb A (x : Int)).length + f (nb A (y : Int)).length) = sumN (fun v => f (nb A (v : Int)).length) N + (f (nb B (x : Int)).length + f (nb B (y : Int)).length) := fun f => by
    have e1 := sumN_two (F := fun v => if v = x ∨ v = y then 0 else f (nb A (v : Int)).length) (G := fun v => f (nb A (v : Int)).length) (x := x) (y := y) (p := f (nb A (x : Int)).length) (q := f (nb A (y : Int)).length) (fun v => by
      by_cases h1 : v = x
      · subst h1; simp [hxy]
      · by_cases h2 : v = y
        · subst h2; simp [h1]
        · simp [h1, h2]) N
    have e2 := sumN_two (F := fun v => if v = x ∨ v = y then 0 else f (nb A (v : Int)).length) (G := fun v => f (nb B (v : Int)).length) (x := x) (y := y) (p := f (nb B (x : Int)).length) (q := f (nb B (y : Int)).length) (fun v => by
      by_cases h1 : v = x
      · subst h1; simp [hxy]
      · by_cases h2 : v = y
        · subst h2; simp [h1]
        · have := hdeg v
          simp only [if_neg h1, if_neg h2, Nat.add_zero] at this
          simp [h1, h2, this]) N
    rw [if_pos (by omega), if_pos (by omega)] at e1 e2
    omega
  have k1 := key f3
  have k2 := key g3
  generalize sumN (fun v => f3 (nb B (v : Int)).length) N = s1 at *
  generalize sumN (fun v => f3 (nb A (v : Int)).length) N = s2 at *
  generalize sumN (fun v => g3 (nb B (v : Int)).length) N = s3 at *
  generalize sumN (fun v => g3 (nb A (v : Int)).length) N = s4 at *
  generalize (nb A (x : Int)).length = a at *
  generalize (nb A (y : Int)).length = b at *
  rw [dx, dy] at k1 k2
  rw [dx] at ax2
  rw [dy] at ay2
  unfold f3 at k1
  unfold g3 at k2
  by_cases c1 : a < 3 <;> by_cases c2 : b < 3 <;> by_cases c3 : a + 1 < 3 <;> by_cases c4 : b + 1 < 3 <;> simp only [c1, c2, c3, c4, if_true, if_false] at k1 k2 <;> omega
end Go.Proofs.Ytgjaikekpgdehaa

namespace Go.Proofs.Ytgjaikekpgdehaa
open Go Go.Proofs

theorem okB_iff {l : List Ed} {a : List Int} : okB l a a.length = true ↔ (∀ x ∈ a, 0 ≤ x ∧ x < (l.length : Int)) ∧ a.Nodup := by
  have go : ∀ j, j ≤ a.length → (okB l a j = true ↔ (∀ x ∈ a.take j, 0 ≤ x ∧ x < (l.length : Int)) ∧ (a.take j).Nodup) := by
    intro j
    induction j with
    | zero => intro _; simp [okB]
    | succ j ih =>
      intro hj
      rw [okB_succ (by omega), take_snoc (by omega), Bool.and_eq_true, ih (by omega)]
      unfold goodB placeB
      simp only [Bool.and_eq_true, decide_eq_true_eq, Bool.not_eq_true', inB_false]
      rw [List.nodup_append]
      constructor
      · rintro ⟨⟨h1, h2⟩, ⟨h3, h4⟩, h5⟩
        refine ⟨fun x hx => ?_, h2, by simp, fun x hx y hy => ?_⟩
        · rcases List.mem_append.1 hx with hx | hx
          · exact h1 x hx
          · rw [List.mem_singleton.1 hx]; exact ⟨h3, h4⟩
        · rw [List.mem_singleton.1 hy]; rintro rfl; exact h5 hx
      · rintro ⟨h1, h2, -, h3⟩
        exact ⟨⟨fun x hx => h1 x (List.mem_append_left _ hx), h2⟩, h1 _ (List.mem_append_right _ (List.mem_singleton.2 rfl)), fun h => h3 _ h _ (List.mem_singleton.2 rfl) rfl⟩
  have := go a.length (Nat.le_refl _)
  rwa [List.take_length] at this
theorem wgtK_iff {n : Int} {l : List Ed} {a : List Int} : wgtK n l a = 0 ↔ RightG n l ∧ (∀ x ∈ a, 0 ≤ x ∧ x < (l.length : Int)) ∧ a.Nodup := by
  rw [← okB_iff]
  refine ⟨fun h => wgtK_zero h, fun h => ?_⟩
  unfold wgtK wK
  rw [if_pos (right_iff.2 h.1), if_pos h.2]
theorem nearL_noone {N : Nat} {l : List Ed} (hR : RightG (N : Int) l) : (nearL N l).any oneB = false ↔ NoOne l := by
  constructor
  · intro h v hv
    obtain ⟨u, hu⟩ : ∃ u, u ∈ nb l v := List.exists_mem_of_length_pos (by omega)
    have hb := nb_mutual hR (nb_mutual hR hu).1
    rw [List.any_eq_false] at h
    refine h (nb l v) (List.mem_map.2 ⟨v.toNat, List.mem_range.2 (by omega), by rw [show ((v.toNat : Nat) : Int) = v by omega]⟩) ?_
    unfold oneB
    rw [hv]; rfl
  · intro h
    rw [List.any_eq_false]
    intro x hx
    obtain ⟨v, _, rfl⟩ := List.mem_map.1 hx
    have := h (v : Int)
    unfold oneB
    simp
    omega
theorem wsK_iff {N : Nat} {l : List Ed} (hR : RightG (N : Int) l) : wsK N l = 0 ↔ NoOne l ∧ onL (waysTo l N N) = (l.length : Int) := by
  rw [← nearL_noone hR]
  unfold wsK
  cases h : (nearL N l).any oneB with
  | true => simp
  | false =>
    by_cases h2 : onL (waysTo l N N) = (l.length : Int)
    · simp [h2]
    · simp [h2]
theorem cls_iff {n : Int} {l : List Ed} {a : List Int} : clsK n l a = 0 ↔ wgtK n l a = 0 ∧ NoOne (subL l a) ∧ onL (waysTo (subL l a) n.toNat n.toNat) = ((subL l a).length : Int) ∧ (fiveB (waysTo (subL l a) n.toNat n.toNat) = true ∨ threeB (waysTo (subL l a) n.toNat n.toNat) = true) := by
  unfold clsK wyK wyL wsL
  by_cases hw : wgtK n l a = 0
  · have hR2 := sub_right (a := a) (wgtK_zero hw).1
    rw [if_pos hw, if_pos hw]
    have := wsK_iff hR2
    by_cases hs : wsK n.toNat (subL l a) = 0
    · rw [if_pos hs, if_pos hs]
      obtain ⟨h1, h2⟩ := this.1 hs
      cases hf : fiveB (waysTo (subL l a) n.toNat n.toNat) with
      | true => simp [h1, h2, hw]
      | false =>
        cases ht : threeB (waysTo (subL l a) n.toNat n.toNat) with
        | true => simp [h1, h2, hw]
        | false => simp
    · rw [if_neg hs]
      constructor
      · intro h; exact absurd h hs
      · rintro ⟨_, h1, h2, _⟩
        exact absurd (this.2 ⟨h1, h2⟩) hs
  · rw [if_neg hw, if_neg (by omega)]
    constructor
    · intro h; cases h
    · intro h; exact absurd h.1 hw
theorem cls_vals {n : Int} {l : List Ed} {a : List Int} : (wgtK n l a ≠ 0 → clsK n l a = 1) ∧ (wgtK n l a = 0 → clsK n l a = 0 ∨ clsK n l a = 13) := by
  unfold clsK wyK
  constructor
  · intro h
    rw [if_neg h, if_neg (by omega)]
  · intro h
    rw [if_pos h]
    by_cases hs : wsK n.toNat (subL l a) = 0
    · rw [if_pos hs]
      split
      · exact .inl rfl
      · split
        · exact .inl rfl
        · exact .inr rfl
    · rw [if_neg hs]
      right
      unfold wsK at *
      split at hs
      · rename_i h1; rw [if_pos h1]
      · rename_i h1
        rw [if_neg h1]
        split at hs
        · exact absurd rfl hs
        · rename_i h2; rw [if_neg h2]
theorem filt_len (C : List Int) (p : Int → Bool) : (C.filter fun c => !p c).length + (C.filter p).length = C.length := by
  induction C with
  | nil => rfl
  | cons c C ih =>
    cases h : p c with
    | true => simp [h]; omega
    | false => simp [h]; omega
theorem three_len {ws : List (List Int)} (h : threeB ws = true) : ws.length = 9 ∧ (crnL ws).length = 6 := by
  unfold threeB at h
  simp only [Bool.and_eq_true, decide_eq_true_eq] at h
  refine ⟨h.1, ?_⟩
  have := filt_len (crnL ws) (fun c => farB ws ((crnL ws).getD 0 0) c)
  have h2 := h.2.1
  have h3 := h.2.2.1
  unfold nrP preN at h2
  unfold frP preF at h3
  rw [List.take_length] at h2 h3
  omega
theorem five_len {ws : List (List Int)} (h : fiveB ws = true) : ws.length = 10 ∧ (crnL ws).length = 5 := by
  unfold fiveB at h
  simp only [Bool.and_eq_true, decide_eq_true_eq] at h
  exact ⟨h.1, h.2.1⟩
theorem wit_of {n : Int} {l : List Ed} {a : List Int} (h : clsK n l a = 0) : Wit n.toNat (subL l a) := by
  obtain ⟨hw, h1, h2, h3⟩ := cls_iff.1 h
  have hR2 := sub_right (a := a) (wgtK_zero hw).1
  have hh := ways_half hR2 h1
  have hc := crn_cor hR2 h1
  refine ⟨h1, ?_⟩
  rcases h3 with h3 | h3
  · have := five_len h3
    rw [hc] at this
    exact .inl ⟨by omega, this.2⟩
  · have := three_len h3
    rw [hc] at this
    exact .inr ⟨by omega, this.2⟩
theorem onL_ge : ∀ {ws : List (List Int)}, (∀ x ∈ ws, 2 ≤ x.length) → (ws.length : Int) ≤ onL ws
  | [], _ => by simp [onL]
  | x :: ws, h => by
    have := onL_ge (ws := ws) (fun y hy => h y (List.mem_cons_of_mem _ hy))
    have h2 := h x List.mem_cons_self
    unfold onL at *
    rw [List.map_cons, List.sum_cons, List.length_cons]
    omega
theorem keepL_cnt (l : List Ed) (p : Nat → Bool) : ∀ j, j ≤ l.length → (keepL l p j).length = ((List.range j).filter p).length
  | 0, _ => rfl
  | j + 1, h => by
    have ih := keepL_cnt l p j (by omega)
    rw [List.range_succ, List.filter_append, List.length_append, ← ih]
    cases hp : p j with
    | true => rw [keepL_in (by omega) hp]; simp [hp]
    | false => rw [keepL_out hp]; simp [hp]
theorem sub_len {l : List Ed} {a : List Int} : (subL l a).length ≤ a.length := by
  unfold subL
  rw [keepL_cnt l _ _ (Nat.le_refl _)]
  have := nodup_lenK (A := ((List.range l.length).filter fun (i : Nat) => inB a (i : Int)).map fun (i : Nat) => (i : Int)) (B := a) (List.pairwise_map.2 (((List.pairwise_lt_range (n := l.length)).sublist List.filter_sublist).imp fun {x y} h => by omega)) (fun x hx => by
    obtain ⟨i, hi, rfl⟩ := List.mem_map.1 hx
    exact inB_true.1 (List.mem_filter.1 hi).2)
  rwa [List.length_map] at this
/-- A witness has nine edges or more. -/
theorem wit_nine {n : Int} {l : List Ed} {a : List Int} (h : clsK n l a = 0) : 9 ≤ a.length := by
  obtain ⟨hw, h1, h2, h3⟩ := cls_iff.1 h
  have hR2 := sub_right (a := a) (wgtK_zero hw).1
  have h4 := onL_ge (ws := waysTo (subL l a) n.toNat n.toNat) (fun x hx => by
    obtain ⟨v, u, g1, g2, g3, rfl, _⟩ := waysTo_each hx
    exact (wayL_len hR2 g2 (by omega)).1)
  have h5 := sub_len (l := l) (a := a)
  rcases h3 with h3 | h3
  · have := (five_len h3).1; omega
  · have := (three_len h3).1; omega
theorem wit_apart {n : Int} {l : List Ed} {a b : List Int} {x : Int} (ha : x ∉ a) (hb : ∀ y, y ∈ b ↔ y ∈ a ∨ y = x) (hx : 0 ≤ x ∧ x < (l.length : Int)) (h1 : clsK n l a = 0) (h2 : clsK n l b = 0) : False := by
  have w1 := wit_of h1
  have w2 := wit_of h2
  have hR := (wgtK_zero (cls_iff.1 h1).1).1
  have hn : ((n.toNat : Nat) : Int) = n := by have := hR.n0; omega
  refine wit_not (N := n.toNat) (l := l) (p := fun i => inB a (i : Int)) (q := fun i => inB b (i : Int)) (m := x.toNat) (by rw [hn]; exact hR) (by omega) (fun i hi => ?_) ?_ ?_ w1 w2
  · show decide ((i : Int) ∈ b) = decide ((i : Int) ∈ a)
    apply decide_eq_decide.2
    rw [hb]
    constructor
    · rintro (h | h)
      · exact h
      · omega
    · exact .inl
  · show inB a ((x.toNat : Nat) : Int) = false
    rw [show ((x.toNat : Nat) : Int) = x by omega]
    exact inB_false.2 ha
  · show inB b ((x.toNat : Nat) : Int) = true
    rw [show ((x.toNat : Nat) : Int) = x by omega]
    exact inB_true.2 ((hb x).2 (.inr rfl))
/-- An edge less. -/
theorem wit_less {n : Int} {l : List Ed} {a : List Int} (h : clsK n l a = 0) {i : Nat} (hi : i < a.length) : clsK n l (a.take i ++ a.drop (i + 1)) = 13 := by
  obtain ⟨hR, h1, h2⟩ := wgtK_iff.1 (cls_iff.1 h).1
  have hs : (a.take i ++ a.drop (i + 1)).Sublist a := by
    rw [← List.eraseIdx_eq_take_drop_succ]
    exact List.eraseIdx_sublist _ _
  have hw : wgtK n l (a.take i ++ a.drop (i + 1)) = 0 := wgtK_iff.2 ⟨hR, fun x hx => h1 x (hs.subset hx), h2.sublist hs⟩
  rcases cls_vals.2 hw with h0 | h0
  · exfalso
    have e : a = a.take i ++ a[i] :: a.drop (i + 1) := by
      rw [← List.drop_eq_getElem_cons hi, List.take_append_drop]
    have hmem : ∀ y, y ∈ a ↔ y ∈ a.take i ++ a.drop (i + 1) ∨ y = a[i] := fun y => by
      conv => lhs; rw [e]
      simp only [List.mem_append, List.mem_cons]
      constructor
      · rintro (h | h | h)
        · exact .inl (.inl h)
        · exact .inr h
        · exact .inl (.inr h)
      · rintro ((h | h) | h)
        · exact .inl h
        · exact .inr (.inr h)
        · exact .inr (.inl h)
    have hnot : a[i] ∉ a.take i ++ a.drop (i + 1) := by
      intro hm
      have hn := h2
      rw [e, List.nodup_append] at hn
      obtain ⟨_, hc, hx⟩ := hn
      rcases List.mem_append.1 hm with hm | hm
      · exact hx _ hm _ List.mem_cons_self rfl
      · exact (List.nodup_cons.1 hc).1 hm
    exact wit_apart hnot hmem (h1 _ (List.getElem_mem hi)) h0 h
  · exact h0
/-- An edge more. -/
theorem wit_more {n : Int} {l : List Ed} {a : List Int} (h : clsK n l a = 0) (x : Int) : clsK n l (a ++ [x]) = if 0 ≤ x ∧ x < (l.length : Int) ∧ x ∉ a then 13 else 1 := by
  obtain ⟨hR, h1, h2⟩ := wgtK_iff.1 (cls_iff.1 h).1
  by_cases hx : 0 ≤ x ∧ x < (l.length : Int) ∧ x ∉ a
  · rw [if_pos hx]
    have hw : wgtK n l (a ++ [x]) = 0 := wgtK_iff.2 ⟨hR, fun y hy => by
      rcases List.mem_append.1 hy with hy | hy
      · exact h1 y hy
      · rw [List.mem_singleton.1 hy]; exact ⟨hx.1, hx.2.1⟩, by
      rw [List.nodup_append]
      exact ⟨h2, by simp, fun y hy z hz => by rw [List.mem_singleton.1 hz]; rintro rfl; exact hx.2.2 hy⟩⟩
    rcases cls_vals.2 hw with h0 | h0
    · exact (wit_apart hx.2.2 (fun y => by simp) ⟨hx.1, hx.2.1⟩ h h0).elim
    · exact h0
  · rw [if_neg hx]
    apply cls_vals.1
    intro hw
    obtain ⟨_, g1, g2⟩ := wgtK_iff.1 hw
    have g3 := g1 x (by simp)
    refine hx ⟨g3.1, g3.2, fun hm => ?_⟩
    rw [List.nodup_append] at g2
    exact g2.2.2 x hm x (by simp) rfl
end Go.Proofs.Ytgjaikekpgdehaa

namespace Go.Proofs.Ytgjaikekpgdehaa
open Go Go.Proofs

/-- Where a walk ends. -/
def endV (l : List Ed) (N : Nat) (v u : Int) : Int := (rho l N (v, u)).1
/-- How many walks from p end at q. -/
def mE (l : List Ed) (N : Nat) (p q : Int) : Nat := ((nb l p).filter fun u => decide (endV l N p u = q)).length
theorem endP_way (l : List Ed) (N : Nat) (v u : Int) : endP (wayL l N v u) = (v, endV l N v u) := rfl

theorem cnt_crD {l : List Ed} (f : Int × Int → Bool) {p : Nat} (hp : 3 ≤ (nb l (p : Int)).length) (hf : ∀ d, f d = true → d.1 = (p : Int)) : ∀ j, (crD l j).countP f = if p < j then ((nb l (p : Int)).filter fun u => f ((p : Int), u)).length else 0
  | 0 => rfl
  | j + 1 => by
    rw [crD_succ, List.countP_append, cnt_crD f hp hf j]
    by_cases e : j = p
    · subst e
      rw [if_neg (by omega), if_neg (by omega), if_pos (by omega), List.countP_map, List.countP_eq_length_filter, Nat.zero_add]
      rfl
    · have hz : List.countP f (if (nb l (j : Int)).length < 3 then [] else (nb l (j : Int)).map fun u => ((j : Int), u)) = 0 := by
        rw [List.countP_eq_zero]
        intro d hd
        split at hd
        · cases hd
        · obtain ⟨u, _, rfl⟩ := List.mem_map.1 hd
          intro h
          have := hf _ h
          simp only at this
          omega
      rw [hz]
      by_cases h : p < j
      · rw [if_pos h, if_pos (by omega), Nat.add_zero]
      · rw [if_neg h, if_neg (by omega)]
theorem told_lt {l : List Ed} {N : Nat} {v u : Int} (h : v < endV l N v u) : toldB (wayL l N v u) = true := by
  rw [told_eq, fst_way]
  unfold lt2
  exact decide_eq_true (.inl h)
theorem told_le {l : List Ed} {N : Nat} {v u : Int} (h : toldB (wayL l N v u) = true) : v ≤ endV l N v u := by
  rw [told_eq, fst_way] at h
  unfold lt2 at h
  have := of_decide_eq_true h
  simp only at this
  show v ≤ (lstD (wayL l N v u)).1
  omega
theorem mem_ways {l : List Ed} {N : Nat} {w : List Int} : w ∈ waysTo l N N ↔ ∃ d ∈ crD l N, w = wayL l N d.1 d.2 ∧ toldB w = true := by
  rw [waysTo_eq, List.mem_filter, List.mem_map]
  constructor
  · rintro ⟨⟨d, hd, rfl⟩, ht⟩; exact ⟨d, hd, rfl, ht⟩
  · rintro ⟨d, hd, rfl, ht⟩; exact ⟨⟨d, hd, rfl⟩, ht⟩
section
variable {N : Nat} {l : List Ed}
theorem crD_of {p u : Int} (hp : p ∈ corV l N) (hu : u ∈ nb l p) : (p, u) ∈ crD l N := by
  obtain ⟨h0, hN, h3⟩ := mem_corV.1 hp
  exact mem_crD.2 ⟨p.toNat, by omega, by simp; omega, by rw [show ((p.toNat : Nat) : Int) = p by omega]; exact h3, by rw [show ((p.toNat : Nat) : Int) = p by omega]; exact hu⟩
theorem crD_cor {d : Int × Int} (hd : d ∈ crD l N) : d.1 ∈ corV l N ∧ d.2 ∈ nb l d.1 := by
  obtain ⟨v, hv, e1, e2, e3⟩ := mem_crD.1 hd
  rw [← e1] at e2 e3
  exact ⟨mem_corV.2 ⟨by omega, by omega, e2⟩, e3⟩
theorem cnt_m {p q : Int} (hpq : p < q) (hp : p ∈ corV l N) : cntE (waysTo l N N) (p, q) = (mE l N p q : Int) := by
  obtain ⟨h0, hN, h3⟩ := mem_corV.1 hp
  obtain ⟨P, rfl⟩ : ∃ P : Nat, p = (P : Int) := ⟨p.toNat, by omega⟩
  unfold cntE mE
  rw [waysTo_eq, List.countP_filter, List.countP_map]
  have := cnt_crD (l := l) (fun d => decide (endP (wayL l N d.1 d.2) = ((P : Int), q)) && toldB (wayL l N d.1 d.2)) h3 (fun d hd => by
    simp only [Bool.and_eq_true, decide_eq_true_eq] at hd
    have e := hd.1
    rw [endP_way] at e
    exact (Prod.mk.inj e).1) N
  rw [if_pos (by omega)] at this
  refine congrArg Int.ofNat (Eq.trans ?_ (this.trans ?_))
  · rfl
  · congr 1
    refine List.filter_congr fun u _ => ?_
    simp only [endP_way, Prod.mk.injEq, true_and]
    by_cases e : endV l N (P : Int) u = q
    · rw [told_lt (by omega)]; simp
    · simp [e]
theorem cnt_none {p q : Int} (hpq : q < p) : cntE (waysTo l N N) (p, q) = 0 := by
  unfold cntE
  have : (waysTo l N N).countP (fun x => decide (endP x = (p, q))) = 0 := by
    rw [List.countP_eq_zero]
    intro w hw h
    obtain ⟨d, hd, rfl, ht⟩ := mem_ways.1 hw
    have e := of_decide_eq_true h
    rw [endP_way] at e
    obtain ⟨rfl, rfl⟩ := Prod.mk.inj e
    have := told_le ht
    omega
  rw [this]; rfl
theorem m_le (hR : RightG (N : Int) l) (h1 : NoOne l) {p q : Int} (hp : p ∈ corV l N) : mE l N p q ≤ mE l N q p := by
  have hf : ∀ u ∈ nb l p, (rho l N (p, u)) ∈ crD l N ∧ rho l N (rho l N (p, u)) = (p, u) := fun u hu => by
    obtain ⟨_, _, h3⟩ := mem_corV.1 hp
    exact ⟨rho_in hR h1 (crD_of hp hu), (rho_facts hR (d := (p, u)) hu (by simp only; omega)).2.2.2.1⟩
  unfold mE
  have hA : (((nb l p).filter fun u => decide (endV l N p u = q)).map fun u => (rho l N (p, u)).2).Nodup := by
    refine List.pairwise_map.2 (List.Pairwise.imp_of_mem (fun {a b} ha hb hab e => hab ?_) ((nb_nodup hR p).sublist List.filter_sublist))
    obtain ⟨ha, ea⟩ := List.mem_filter.1 ha
    obtain ⟨hb, eb⟩ := List.mem_filter.1 hb
    have ea : (rho l N (p, a)).1 = q := of_decide_eq_true ea
    have eb : (rho l N (p, b)).1 = q := of_decide_eq_true eb
    have e2 : rho l N (p, a) = rho l N (p, b) := Prod.ext (ea.trans eb.symm) e
    have e3 := (hf a ha).2
    rw [e2, (hf b hb).2] at e3
    exact (Prod.mk.inj e3).2.symm
  have := nodup_lenK (B := (nb l q).filter fun u => decide (endV l N q u = p)) hA (fun x hx => by
    obtain ⟨u, hu, rfl⟩ := List.mem_map.1 hx
    obtain ⟨hu, eu⟩ := List.mem_filter.1 hu
    have eu : (rho l N (p, u)).1 = q := of_decide_eq_true eu
    obtain ⟨g1, g2⟩ := hf u hu
    obtain ⟨_, g3⟩ := crD_cor g1
    rw [eu] at g3
    have e : (q, (rho l N (p, u)).2) = rho l N (p, u) := Prod.ext eu.symm rfl
    refine List.mem_filter.2 ⟨g3, decide_eq_true ?_⟩
    show (rho l N (q, (rho l N (p, u)).2)).1 = p
    rw [e, g2])
  rwa [List.length_map] at this
theorem m_sym (hR : RightG (N : Int) l) (h1 : NoOne l) {p q : Int} (hp : p ∈ corV l N) (hq : q ∈ corV l N) : mE l N p q = mE l N q p := Nat.le_antisymm (m_le hR h1 hp) (m_le hR h1 hq)
theorem far_self (hR : RightG (N : Int) l) (h1 : NoOne l) {p : Int} (hp : p ∈ corV l N) : farB (waysTo l N N) p p = true ↔ 0 < mE l N p p := by
  unfold farB
  rw [List.any_eq_true]
  constructor
  · rintro ⟨w, hw, h⟩
    obtain ⟨d, hd, rfl, ht⟩ := mem_ways.1 hw
    have e := of_decide_eq_true h
    rw [endP_way] at e
    obtain ⟨e1, e2⟩ := Prod.mk.inj e
    obtain ⟨_, hu⟩ := crD_cor hd
    rw [e1] at hu e2
    exact List.length_pos_of_mem (List.mem_filter.2 ⟨hu, decide_eq_true e2⟩)
  · intro h
    obtain ⟨u, hu⟩ := List.exists_mem_of_length_pos h
    obtain ⟨hu, eu⟩ := List.mem_filter.1 hu
    have eu := of_decide_eq_true eu
    have hd := crD_of hp hu
    cases ht : toldB (wayL l N p u) with
    | true => exact ⟨_, mem_ways.2 ⟨_, hd, rfl, ht⟩, decide_eq_true (by rw [endP_way, eu])⟩
    | false =>
      obtain ⟨_, _, h3⟩ := mem_corV.1 hp
      obtain ⟨g1, g2, g3, g4, g5⟩ := rho_facts hR (d := (p, u)) hu (by simp only; omega)
      refine ⟨_, mem_ways.2 ⟨_, rho_in hR h1 hd, rfl, by rw [g5]; simp only; rw [ht]; rfl⟩, decide_eq_true ?_⟩
      rw [endP_way]
      refine Prod.ext eu ?_
      show (rho l N (rho l N (p, u))).1 = p
      rw [g4]
theorem far_m (hR : RightG (N : Int) l) (h1 : NoOne l) {p q : Int} (hpq : p ≤ q) (hp : p ∈ corV l N) : farB (waysTo l N N) p q = decide (0 < mE l N p q) := by
  by_cases e : p = q
  · subst e
    have := far_self hR h1 hp
    cases h : farB (waysTo l N N) p p with
    | true => exact (decide_eq_true (this.1 h)).symm
    | false => exact (decide_eq_false (fun g => by rw [this.2 g] at h; cases h)).symm
  · have := cnt_m (N := N) (l := l) (q := q) (by omega) hp
    unfold cntE at this
    unfold farB
    have e2 : (waysTo l N N).countP (fun x => decide (endP x = (p, q))) = mE l N p q := by omega
    rw [← e2]
    cases h : (waysTo l N N).any fun x => decide (endP x = (p, q)) with
    | true =>
      obtain ⟨w, hw, g⟩ := List.any_eq_true.1 h
      exact (decide_eq_true (List.countP_pos_iff.2 ⟨w, hw, g⟩)).symm
    | false =>
      refine (decide_eq_false fun g => ?_).symm
      obtain ⟨w, hw, g⟩ := List.countP_pos_iff.1 g
      have := List.any_eq_false.1 h w hw
      exact this g
end

theorem filt_lenA {α : Type} (C : List α) (p : α → Bool) : (C.filter fun c => !p c).length + (C.filter p).length = C.length := by
  induction C with
  | nil => rfl
  | cons c C ih =>
    cases h : p c with
    | true => simp [h]; omega
    | false => simp [h]; omega
theorem sum_filt {α β : Type} [DecidableEq β] (f : α → β) : ∀ (T : List β), T.Nodup → ∀ L : List α, (T.map fun c => (L.filter fun u => decide (f u = c)).length).sum ≤ L.length
  | [], _, _ => Nat.zero_le _
  | c :: T, hn, L => by
    have hn' := List.nodup_cons.1 hn
    have ih := sum_filt f T hn'.2 (L.filter fun u => !decide (f u = c))
    have e1 := filt_lenA L (fun u => decide (f u = c))
    have e2 : (T.map fun c' => ((L.filter fun u => !decide (f u = c)).filter fun u => decide (f u = c')).length) = T.map fun c' => (L.filter fun u => decide (f u = c')).length := by
      refine List.map_congr_left fun c' hc' => ?_
      rw [List.filter_filter]
      congr 1
      refine List.filter_congr fun u _ => ?_
      by_cases h : f u = c'
      · have : ¬ f u = c := fun e => hn'.1 (by rw [← e, h]; exact hc')
        simp [h]
        intro e; exact this (h.trans e)
      · simp [h]
    rw [e2] at ih
    rw [List.map_cons, List.sum_cons]
    omega
theorem sum_ge {L : List Nat} {k : Nat} (h : ∀ x ∈ L, k ≤ x) : k * L.length ≤ L.sum := by
  induction L with
  | nil => simp
  | cons x L ih =>
    have h1 := h x List.mem_cons_self
    have h2 := ih fun y hy => h y (List.mem_cons_of_mem _ hy)
    rw [List.sum_cons, List.length_cons, Nat.mul_succ]
    omega
theorem sum_all {L : List Nat} {k : Nat} (h : ∀ x ∈ L, k ≤ x) (hs : L.sum = k * L.length) : ∀ x ∈ L, x = k := by
  induction L with
  | nil => intro x hx; cases hx
  | cons y L ih =>
    have h1 := h y List.mem_cons_self
    have h2 := sum_ge (L := L) (k := k) fun z hz => h z (List.mem_cons_of_mem _ hz)
    rw [List.sum_cons, List.length_cons, Nat.mul_succ] at hs
    intro x hx
    rcases List.mem_cons.1 hx with rfl | hx
    · omega
    · exact ih (fun z hz => h z (List.mem_cons_of_mem _ hz)) (by omega) x hx
theorem corV_succ (l : List Ed) (j : Nat) : corV l (j + 1) = corV l j ++ (if (nb l (j : Int)).length < 3 then [] else [(j : Int)]) := by
  unfold corV
  rw [List.range_succ, List.filter_append, List.map_append]
  congr 1
  by_cases h : (nb l (j : Int)).length < 3
  · have : decide (3 ≤ (nb l (j : Int)).length) = false := by simp; omega
    rw [if_pos h]; simp [this]
  · have : decide (3 ≤ (nb l (j : Int)).length) = true := by simp; omega
    rw [if_neg h]; simp [this]
theorem cor_sum (l : List Ed) : ∀ j, ((corV l j).map fun v => (nb l v).length).sum = (crD l j).length
  | 0 => rfl
  | j + 1 => by
    rw [corV_succ, crD_succ, List.map_append, List.sum_append, List.length_append, cor_sum l j]
    congr 1
    split <;> simp
/-- All corners have as many neighbours as they must have together. -/
theorem deg_all {N k : Nat} {l : List Ed} (hR : RightG (N : Int) l) (h1 : NoOne l) (hs : 2 * (waysTo l N N).length = k * (corV l N).length) (hT : ∀ v ∈ corV l N, ∃ T : List Int, T.Nodup ∧ T.length = k ∧ ∀ c ∈ T, 1 ≤ mE l N v c) : ∀ v ∈ corV l N, (nb l v).length = k := by
  have hge : ∀ v ∈ corV l N, k ≤ (nb l v).length := fun v hv => by
    obtain ⟨T, h2, h3, h4⟩ := hT v hv
    have e1 := sum_filt (endV l N v) T h2 (nb l v)
    have e2 := sum_ge (L := T.map fun c => ((nb l v).filter fun u => decide (endV l N v u = c)).length) (k := 1) (fun x hx => by
      obtain ⟨c, hc, rfl⟩ := List.mem_map.1 hx
      exact h4 c hc)
    rw [List.length_map] at e2
    omega
  have hh := ways_half hR h1
  have := sum_all (L := (corV l N).map fun v => (nb l v).length) (k := k) (fun x hx => by
    obtain ⟨v, hv, rfl⟩ := List.mem_map.1 hx
    exact hge v hv) (by rw [cor_sum, List.length_map]; omega)
  intro v hv
  exact this _ (List.mem_map.2 ⟨v, hv, rfl⟩)
end Go.Proofs.Ytgjaikekpgdehaa

namespace Go.Proofs.Ytgjaikekpgdehaa
open Go Go.Proofs

/-- Corners, how many ways go between two of them, how many neighbours each has, how many ways there are. -/
structure KD (C : List Int) (m : Int → Int → Nat) (dg : Int → Nat) (W : Nat) : Prop where
  rise : C.Pairwise (· < ·)
  sym : ∀ a ∈ C, ∀ b ∈ C, m a b = m b a
  sum : ∀ v ∈ C, ∀ T : List Int, T.Nodup → (T.map (m v)).sum ≤ dg v
  all : (C.map dg).sum = 2 * W
def Five (C : List Int) (m : Int → Int → Nat) (W : Nat) : Prop := W = 10 ∧ C.length = 5 ∧ ∀ a ∈ C, ∀ b ∈ C, a < b → m a b = 1
def nrM (C : List Int) (m : Int → Int → Nat) : List Int := C.filter fun c => !decide (0 < m (C.getD 0 0) c)
def frM (C : List Int) (m : Int → Int → Nat) : List Int := C.filter fun c => decide (0 < m (C.getD 0 0) c)
def Three (C : List Int) (m : Int → Int → Nat) (W : Nat) : Prop := W = 9 ∧ (nrM C m).length = 3 ∧ (frM C m).length = 3 ∧ ∀ a ∈ nrM C m, ∀ b ∈ frM C m, m a b = 1

theorem kd_of {N : Nat} {l : List Ed} (hR : RightG (N : Int) l) (h1 : NoOne l) : KD (corV l N) (mE l N) (fun v => (nb l v).length) (waysTo l N N).length :=
  ⟨corV_rise l N, fun a ha b hb => m_sym hR h1 ha hb, fun v _ T hT => sum_filt (endV l N v) T hT (nb l v), by rw [cor_sum]; exact ways_half hR h1⟩

theorem mem_twoTo {C : List Int} (hC : C.Pairwise (· < ·)) {d : Int × Int} : d ∈ twoTo C C.length ↔ d.1 ∈ C ∧ d.2 ∈ C ∧ d.1 < d.2 := by
  have go : ∀ j, d ∈ twoTo C j ↔ ∃ i, i < j ∧ d.1 = C.getD i 0 ∧ d.2 ∈ C.drop (i + 1) := by
    intro j
    induction j with
    | zero => simp [twoTo]
    | succ j ih =>
      rw [twoTo, List.mem_append, ih]
      constructor
      · rintro (⟨i, hi, h⟩ | h)
        · exact ⟨i, by omega, h⟩
        · obtain ⟨b, hb, rfl⟩ := List.mem_map.1 h
          exact ⟨j, by omega, rfl, hb⟩
      · rintro ⟨i, hi, h2, h3⟩
        by_cases e : i = j
        · subst e
          exact .inr (List.mem_map.2 ⟨d.2, h3, by rw [← h2]⟩)
        · exact .inl ⟨i, by omega, h2, h3⟩
  rw [go]
  constructor
  · rintro ⟨i, hi, h2, h3⟩
    obtain ⟨k, hk, e⟩ := List.getElem_of_mem h3
    have hk' : i + 1 + k < C.length := by simp at hk; omega
    rw [List.getElem_drop] at e
    have e2 : d.1 = C[i] := by rw [h2]; simp [hi]
    rw [e2, ← e]
    exact ⟨List.getElem_mem hi, List.getElem_mem hk', List.pairwise_iff_getElem.1 hC i (i + 1 + k) hi hk' (by omega)⟩
  · rintro ⟨ha, hb, hlt⟩
    obtain ⟨i, hi, e1⟩ := List.getElem_of_mem ha
    obtain ⟨k, hk, e2⟩ := List.getElem_of_mem hb
    have hik : i < k := by
      rcases Nat.lt_trichotomy i k with h | h | h
      · exact h
      · subst h; omega
      · have := List.pairwise_iff_getElem.1 hC k i hk hi h; omega
    refine ⟨i, hi, by rw [← e1]; simp [hi], ?_⟩
    rw [← e2]
    have : C[k] = (C.drop (i + 1))[k - (i + 1)]'(by simp; omega) := by
      rw [List.getElem_drop]
      congr 1
      omega
    rw [this]
    exact List.getElem_mem _
theorem mem_acrTo {A B : List Int} {d : Int × Int} : d ∈ acrTo A B A.length ↔ ∃ a ∈ A, ∃ b ∈ B, d = (min a b, max a b) := by
  have go : ∀ j, d ∈ acrTo A B j ↔ ∃ i, i < j ∧ ∃ b ∈ B, d = (min (A.getD i 0) b, max (A.getD i 0) b) := by
    intro j
    induction j with
    | zero => simp [acrTo]
    | succ j ih =>
      rw [acrTo, List.mem_append, ih]
      constructor
      · rintro (⟨i, hi, h⟩ | h)
        · exact ⟨i, by omega, h⟩
        · obtain ⟨b, hb, rfl⟩ := List.mem_map.1 h
          exact ⟨j, by omega, b, hb, rfl⟩
      · rintro ⟨i, hi, b, hb, h3⟩
        by_cases e : i = j
        · subst e
          exact .inr (List.mem_map.2 ⟨b, hb, h3.symm⟩)
        · exact .inl ⟨i, by omega, b, hb, h3⟩
  rw [go]
  constructor
  · rintro ⟨i, hi, b, hb, h⟩
    exact ⟨A[i], List.getElem_mem hi, b, hb, by rw [h]; simp [hi]⟩
  · rintro ⟨a, ha, b, hb, h⟩
    obtain ⟨i, hi, rfl⟩ := List.getElem_of_mem ha
    exact ⟨i, hi, b, hb, by rw [h]; simp [hi]⟩
theorem joinB_iff {ws : List (List Int)} {ps : List (Int × Int)} : joinB ws ps = true ↔ ∀ d ∈ ps, cntE ws d = 1 := by
  unfold joinB
  rw [Bool.not_eq_true', List.any_eq_false]
  constructor
  · intro h d hd
    have := h d hd
    simpa using this
  · intro h d hd
    have := h d hd
    simp [this]
theorem filter_mem {C : List Int} {p : Int → Bool} {x : Int} : x ∈ C.filter p ↔ x ∈ C ∧ p x = true := List.mem_filter
section
variable {N : Nat} {l : List Ed}
theorem five_iff (hR : RightG (N : Int) l) (h1 : NoOne l) : fiveB (waysTo l N N) = true ↔ Five (corV l N) (mE l N) (waysTo l N N).length := by
  unfold fiveB Five
  rw [crn_cor hR h1]
  simp only [Bool.and_eq_true, decide_eq_true_eq, joinB_iff]
  constructor
  · rintro ⟨a1, a2, a3⟩
    refine ⟨a1, a2, fun a ha b hb hab => ?_⟩
    have := a3 (a, b) ((mem_twoTo (corV_rise l N)).2 ⟨ha, hb, hab⟩)
    rw [cnt_m hab ha] at this
    omega
  · rintro ⟨a1, a2, a3⟩
    refine ⟨a1, a2, fun d hd => ?_⟩
    obtain ⟨ha, hb, hab⟩ := (mem_twoTo (corV_rise l N)).1 hd
    have := a3 _ ha _ hb hab
    show cntE _ (d.1, d.2) = 1
    rw [cnt_m hab ha]
    omega
theorem far_eq (hR : RightG (N : Int) l) (h1 : NoOne l) : nrP (waysTo l N N) = nrM (corV l N) (mE l N) ∧ frP (waysTo l N N) = frM (corV l N) (mE l N) := by
  unfold nrP frP preN preF nrM frM
  rw [crn_cor hR h1, List.take_length]
  have : ∀ c ∈ corV l N, farB (waysTo l N N) ((corV l N).getD 0 0) c = decide (0 < mE l N ((corV l N).getD 0 0) c) := fun c hc => by
    have hr := corV_rise l N
    generalize hK : corV l N = C at *
    obtain ⟨i, hi, rfl⟩ := List.getElem_of_mem hc
    have e0 : C.getD 0 0 = C[0]'(by omega) := by simp [show 0 < C.length by omega]
    rw [e0]
    refine far_m hR h1 ?_ (by rw [hK]; exact List.getElem_mem _)
    by_cases e : i = 0
    · subst e; exact Int.le_refl _
    · exact Int.le_of_lt (List.pairwise_iff_getElem.1 hr 0 i (by omega) hi (by omega))
  exact ⟨List.filter_congr fun c hc => by rw [this c hc], List.filter_congr fun c hc => this c hc⟩
theorem three_iff (hR : RightG (N : Int) l) (h1 : NoOne l) : threeB (waysTo l N N) = true ↔ Three (corV l N) (mE l N) (waysTo l N N).length := by
  unfold threeB Three
  rw [(far_eq hR h1).1, (far_eq hR h1).2]
  simp only [Bool.and_eq_true, decide_eq_true_eq, joinB_iff]
  have key : ∀ a ∈ nrM (corV l N) (mE l N), ∀ b ∈ frM (corV l N) (mE l N), cntE (waysTo l N N) (min a b, max a b) = (mE l N a b : Int) := fun a ha b hb => by
    obtain ⟨ha, pa⟩ := List.mem_filter.1 ha
    obtain ⟨hb, pb⟩ := List.mem_filter.1 hb
    have hne : a ≠ b := fun e => by subst e; rw [pb] at pa; cases pa
    rcases Int.lt_or_gt_of_ne hne with h | h
    · rw [Int.min_eq_left (Int.le_of_lt h), Int.max_eq_right (Int.le_of_lt h)]
      exact cnt_m h ha
    · rw [Int.min_eq_right (Int.le_of_lt h), Int.max_eq_left (Int.le_of_lt h), m_sym hR h1 ha hb]
      exact cnt_m h hb
  constructor
  · rintro ⟨a1, a2, a3, a4⟩
    refine ⟨a1, a2, a3, fun a ha b hb => ?_⟩
    have := a4 _ (mem_acrTo.2 ⟨a, ha, b, hb, rfl⟩)
    rw [key a ha b hb] at this
    omega
  · rintro ⟨a1, a2, a3, a4⟩
    refine ⟨a1, a2, a3, fun d hd => ?_⟩
    obtain ⟨a, ha, b, hb, rfl⟩ := mem_acrTo.1 hd
    rw [key a ha b hb, a4 a ha b hb]
    rfl
end

/-! ### The reference's tests -/
def pairsB (C : List Int) (jn : Int → Int → Nat) (want : Int → Int → Nat) : Bool := (List.range C.length).all fun i => (List.range i).all fun j => decide (jn (C.getD i 0) (C.getD j 0) = want (C.getD i 0) (C.getD j 0))
theorem pairsB_iff {C : List Int} {jn want : Int → Int → Nat} : pairsB C jn want = true ↔ ∀ i j, j < i → i < C.length → jn (C.getD i 0) (C.getD j 0) = want (C.getD i 0) (C.getD j 0) := by
  unfold pairsB
  simp only [List.all_eq_true, List.mem_range, decide_eq_true_eq]
  exact ⟨fun h i j hj hi => h i hi j hj, fun h i hi j hj => h i j hj hi⟩
def rotL (C : List Int) (jn : Int → Int → Nat) : List Int := (C.drop 1).filter fun c => decide (jn (C.getD 0 0) c = 1)
def wantN (ot : List Int) (a b : Int) : Nat := if inB ot a = inB ot b then 0 else 1
def sameD (C : List Int) (dg : Int → Nat) : Bool := C.all fun c => decide (dg c = dg (C.getD 0 0))
def rcls (C : List Int) (jn : Int → Int → Nat) (dg : Int → Nat) (W : Nat) : Int :=
  if sameD C dg = true then
    (if C.length = 5 ∧ dg (C.getD 0 0) = 4 ∧ W = 10 then (if pairsB C jn (fun _ _ => 1) = true then 5 else 0)
    else if C.length = 6 ∧ dg (C.getD 0 0) = 3 ∧ W = 9 then (if pairsB C jn (wantN (rotL C jn)) = true ∧ (rotL C jn).length = 3 then 33 else 0) else 0)
  else 0

section
variable {C : List Int} {m jn : Int → Int → Nat} {dg : Int → Nat} {W : Nat}
theorem KD.dup (hK : KD C m dg W) : C.Nodup := hK.rise.imp fun h => Int.ne_of_lt h
theorem KD.deg (hK : KD C m dg W) {k : Nat} (hs : 2 * W = k * C.length) (hT : ∀ v ∈ C, ∃ T : List Int, T.Nodup ∧ T.length = k ∧ ∀ c ∈ T, 1 ≤ m v c) : ∀ v ∈ C, dg v = k := by
  have := sum_all (L := C.map dg) (k := k) (fun x hx => by
    obtain ⟨v, hv, rfl⟩ := List.mem_map.1 hx
    obtain ⟨T, h2, h3, h4⟩ := hT v hv
    have e1 := hK.sum v hv T h2
    have e2 := sum_ge (L := T.map (m v)) (k := 1) (fun x hx => by
      obtain ⟨c, hc, rfl⟩ := List.mem_map.1 hx
      exact h4 c hc)
    rw [List.length_map] at e2
    omega) (by rw [hK.all, List.length_map]; exact hs)
  intro v hv
  exact this _ (List.mem_map.2 ⟨v, hv, rfl⟩)
theorem getD_mem {C : List Int} {i : Nat} (h : i < C.length) : C.getD i 0 ∈ C := by
  have : C.getD i 0 = C[i] := by simp [h]
  rw [this]; exact List.getElem_mem h
theorem getD_lt {C : List Int} (hC : C.Pairwise (· < ·)) {i j : Nat} (hj : j < i) (hi : i < C.length) : C.getD j 0 < C.getD i 0 := by
  have e1 : C.getD i 0 = C[i] := by simp [hi]
  have e2 : C.getD j 0 = C[j]'(by omega) := by simp [show j < C.length by omega]
  rw [e1, e2]
  exact List.pairwise_iff_getElem.1 hC j i (by omega) hi hj
theorem same_of {dg : Int → Nat} {k : Nat} {C : List Int} (h : ∀ v ∈ C, dg v = k) : sameD C dg = true := by
  unfold sameD
  rw [List.all_eq_true]
  intro c hc
  have h0 := List.length_pos_of_mem hc
  exact decide_eq_true (by rw [h c hc, h _ (getD_mem h0)])
theorem cons_drop {C : List Int} (h : 0 < C.length) : C = C.getD 0 0 :: C.drop 1 := by
  match C, h with
  | c :: C, _ => rfl
theorem KD.five (hK : KD C m dg W) (hj : ∀ a ∈ C, ∀ b ∈ C, a ≠ b → jn a b = m a b) (h : Five C m W) : rcls C jn dg W = 5 := by
  obtain ⟨h1, h2, h3⟩ := h
  have hm : ∀ a ∈ C, ∀ b ∈ C, a ≠ b → m a b = 1 := fun a ha b hb hab => by
    rcases Int.lt_or_gt_of_ne hab with h | h
    · exact h3 a ha b hb h
    · rw [hK.sym a ha b hb]; exact h3 b hb a ha h
  have hd : ∀ v ∈ C, dg v = 4 := hK.deg (by omega) fun v hv => ⟨C.erase v, hK.dup.sublist List.erase_sublist, by rw [List.length_erase_of_mem hv]; omega, fun c hc => by
    have hc2 := (hK.dup.mem_erase_iff).1 hc
    rw [hm v hv c hc2.2 (Ne.symm hc2.1)]
    exact Nat.le_refl _⟩
  unfold rcls
  rw [if_pos (same_of hd), if_pos ⟨h2, hd _ (getD_mem (by omega)), h1⟩, if_pos]
  rw [pairsB_iff]
  intro i j hji hi
  have hlt := getD_lt hK.rise hji hi
  rw [hj _ (getD_mem hi) _ (getD_mem (by omega)) (by omega)]
  exact hm _ (getD_mem hi) _ (getD_mem (by omega)) (by omega)
theorem KD.three (hK : KD C m dg W) (hj : ∀ a ∈ C, ∀ b ∈ C, a ≠ b → jn a b = m a b) (h : Three C m W) : rcls C jn dg W = 33 := by
  obtain ⟨h1, h2, h3, h4⟩ := h
  have hlen : C.length = 6 := by
    have := filt_lenA C (fun c => decide (0 < m (C.getD 0 0) c))
    unfold nrM at h2
    unfold frM at h3
    omega
  have hC0 : C.getD 0 0 ∈ C := getD_mem (by omega)
  have hnC : ∀ a, a ∈ nrM C m → a ∈ C := fun a ha => (List.mem_filter.1 ha).1
  have hfC : ∀ a, a ∈ frM C m → a ∈ C := fun a ha => (List.mem_filter.1 ha).1
  have hor : ∀ a ∈ C, a ∉ frM C m → a ∈ nrM C m := fun a ha hn => by
    refine List.mem_filter.2 ⟨ha, ?_⟩
    cases hp : decide (0 < m (C.getD 0 0) a) with
    | true => exact absurd (List.mem_filter.2 ⟨ha, hp⟩) hn
    | false => rfl
  have hnot : ∀ a, a ∈ nrM C m → a ∉ frM C m := fun a ha hb => by
    have e1 := (List.mem_filter.1 ha).2
    have e2 := (List.mem_filter.1 hb).2
    rw [e2] at e1; cases e1
  have hnd : (nrM C m).Nodup := hK.dup.sublist List.filter_sublist
  have hfd : (frM C m).Nodup := hK.dup.sublist List.filter_sublist
  have hd : ∀ v ∈ C, dg v = 3 := hK.deg (by omega) fun v hv => by
    by_cases hf : v ∈ frM C m
    · exact ⟨nrM C m, hnd, h2, fun c hc => by rw [hK.sym v hv c (hnC c hc), h4 c hc v hf]; exact Nat.le_refl _⟩
    · exact ⟨frM C m, hfd, h3, fun c hc => by rw [h4 v (hor v hv hf) c hc]; exact Nat.le_refl _⟩
  have z1 : ∀ v ∈ nrM C m, ∀ c, c ∉ frM C m → m v c = 0 := fun v hv c hc => by
    have := hK.sum v (hnC v hv) (c :: frM C m) (List.nodup_cons.2 ⟨hc, hfd⟩)
    have e := sum_ge (L := (frM C m).map (m v)) (k := 1) (fun x hx => by
      obtain ⟨b, hb, rfl⟩ := List.mem_map.1 hx
      rw [h4 v hv b hb]; exact Nat.le_refl _)
    rw [List.map_cons, List.sum_cons, hd v (hnC v hv)] at this
    rw [List.length_map, h3] at e
    omega
  have z2 : ∀ v ∈ frM C m, ∀ c, c ∉ nrM C m → m v c = 0 := fun v hv c hc => by
    have := hK.sum v (hfC v hv) (c :: nrM C m) (List.nodup_cons.2 ⟨hc, hnd⟩)
    have e := sum_ge (L := (nrM C m).map (m v)) (k := 1) (fun x hx => by
      obtain ⟨b, hb, rfl⟩ := List.mem_map.1 hx
      rw [hK.sym v (hfC v hv) b (hnC b hb), h4 b hb v hv]; exact Nat.le_refl _)
    rw [List.map_cons, List.sum_cons, hd v (hfC v hv)] at this
    rw [List.length_map, h2] at e
    omega
  have h0n : C.getD 0 0 ∉ frM C m := fun hf => by
    have e1 := of_decide_eq_true (List.mem_filter.1 hf).2
    have e2 := z2 _ hf (C.getD 0 0) (fun hn => hnot _ hn hf)
    omega
  have h0 := hor _ hC0 h0n
  have hot : rotL C jn = frM C m := by
    have hcd := cons_drop (C := C) (by omega)
    have e : frM C m = (C.drop 1).filter fun c => decide (0 < m (C.getD 0 0) c) := by
      have hz : decide (0 < m (C.getD 0 0) (C.getD 0 0)) = false := decide_eq_false (by rw [z1 _ h0 _ h0n]; omega)
      unfold frM
      conv => lhs; rw [hcd]
      rw [List.filter_cons]
      show (if decide (0 < m (C.getD 0 0) (C.getD 0 0)) = true then _ else _) = _
      rw [hz]
      first | done | rfl
    rw [e]
    unfold rotL
    refine List.filter_congr fun c hc => ?_
    have hcC : c ∈ C := List.mem_of_mem_drop hc
    have hne : C.getD 0 0 ≠ c := fun e => by
      have := hK.dup
      rw [hcd, List.nodup_cons] at this
      exact this.1 (by rw [e]; exact hc)
    rw [hj _ hC0 c hcC hne]
    apply decide_eq_decide.2
    constructor
    · intro h; omega
    · intro h; exact h4 _ h0 c (List.mem_filter.2 ⟨hcC, decide_eq_true h⟩)
  unfold rcls
  rw [if_pos (same_of hd), if_neg (by omega), if_pos ⟨hlen, hd _ hC0, h1⟩, hot]
  refine if_pos ⟨?_, h3⟩
  rw [pairsB_iff]
  intro i j hji hi
  have hlt := getD_lt hK.rise hji hi
  have ha := getD_mem hi
  have hb := getD_mem (show j < C.length by omega)
  generalize C.getD i 0 = a at *
  generalize C.getD j 0 = b at *
  rw [hj a ha b hb (by omega)]
  unfold wantN
  by_cases fa : a ∈ frM C m
  · rw [inB_true.2 fa]
    by_cases fb : b ∈ frM C m
    · rw [inB_true.2 fb, if_pos rfl]; exact z2 a fa b fun hn => hnot b hn fb
    · rw [inB_false.2 fb, if_neg (by simp), hK.sym a ha b hb]; exact h4 b (hor b hb fb) a fa
  · rw [inB_false.2 fa]
    by_cases fb : b ∈ frM C m
    · rw [inB_true.2 fb, if_neg (by simp)]; exact h4 a (hor a ha fa) b fb
    · rw [inB_false.2 fb, if_pos rfl]; exact z1 a (hor a ha fa) b fb
theorem KD.none (hK : KD C m dg W) (hj : ∀ a ∈ C, ∀ b ∈ C, a ≠ b → jn a b = m a b) (h5 : ¬ Five C m W) (h3 : ¬ Three C m W) : rcls C jn dg W = 0 := by
  unfold rcls
  by_cases hs : sameD C dg = true
  · rw [if_pos hs]
    by_cases c5 : C.length = 5 ∧ dg (C.getD 0 0) = 4 ∧ W = 10
    · rw [if_pos c5]
      refine if_neg fun hp => h5 ⟨c5.2.2, c5.1, fun a ha b hb hab => ?_⟩
      rw [pairsB_iff] at hp
      obtain ⟨i, hi, e1⟩ := List.getElem_of_mem ha
      obtain ⟨k, hk, e2⟩ := List.getElem_of_mem hb
      have hik : i < k := by
        rcases Nat.lt_trichotomy i k with h | h | h
        · exact h
        · subst h; omega
        · have := List.pairwise_iff_getElem.1 hK.rise k i hk hi h; omega
      have := hp k i hik hk
      have f1 : C.getD k 0 = b := by rw [← e2]; simp [hk]
      have f2 : C.getD i 0 = a := by rw [← e1]; simp [hi]
      rw [f1, f2, hj b hb a ha (by omega), hK.sym b hb a ha] at this
      exact this
    · rw [if_neg c5]
      by_cases c6 : C.length = 6 ∧ dg (C.getD 0 0) = 3 ∧ W = 9
      · rw [if_pos c6]
        refine if_neg fun hp => h3 ?_
        obtain ⟨hp, hl⟩ := hp
        rw [pairsB_iff] at hp
        have hall : ∀ a ∈ C, ∀ b ∈ C, a ≠ b → m a b = wantN (rotL C jn) a b := by
          have go : ∀ a ∈ C, ∀ b ∈ C, a < b → m a b = wantN (rotL C jn) a b := fun a ha b hb hab => by
            obtain ⟨i, hi, e1⟩ := List.getElem_of_mem ha
            obtain ⟨k, hk, e2⟩ := List.getElem_of_mem hb
            have hik : i < k := by
              rcases Nat.lt_trichotomy i k with h | h | h
              · exact h
              · subst h; omega
              · have := List.pairwise_iff_getElem.1 hK.rise k i hk hi h; omega
            have := hp k i hik hk
            have f1 : C.getD k 0 = b := by rw [← e2]; simp [hk]
            have f2 : C.getD i 0 = a := by rw [← e1]; simp [hi]
            rw [f1, f2, hj b hb a ha (by omega), hK.sym b hb a ha] at this
            rw [this]
            unfold wantN
            by_cases g : inB (rotL C jn) b = inB (rotL C jn) a
            · rw [if_pos g, if_pos g.symm]
            · rw [if_neg g, if_neg (Ne.symm g)]
          intro a ha b hb hab
          rcases Int.lt_or_gt_of_ne hab with h | h
          · exact go a ha b hb h
          · rw [hK.sym a ha b hb, go b hb a ha h]
            unfold wantN
            by_cases g : inB (rotL C jn) b = inB (rotL C jn) a
            · rw [if_pos g, if_pos g.symm]
            · rw [if_neg g, if_neg (Ne.symm g)]
        have hC0 : C.getD 0 0 ∈ C := getD_mem (by omega)
        have hcd := cons_drop (C := C) (by omega)
        have h0d : C.getD 0 0 ∉ C.drop 1 := by
          have := hK.dup
          rw [hcd, List.nodup_cons] at this
          exact this.1
        have hot : ∀ c ∈ rotL C jn, c ∈ C.drop 1 ∧ m (C.getD 0 0) c = 1 := fun c hc => by
          obtain ⟨a1, a2⟩ := List.mem_filter.1 hc
          have a3 := of_decide_eq_true a2
          rw [hj _ hC0 c (List.mem_of_mem_drop a1) (fun e => h0d (by rw [e]; exact a1))] at a3
          exact ⟨a1, a3⟩
        have h0ot : C.getD 0 0 ∉ rotL C jn := fun h => h0d (hot _ h).1
        have hod : (rotL C jn).Nodup := (hK.dup.sublist (List.drop_sublist 1 C)).sublist List.filter_sublist
        have hz : m (C.getD 0 0) (C.getD 0 0) = 0 := by
          have := hK.sum _ hC0 (C.getD 0 0 :: rotL C jn) (List.nodup_cons.2 ⟨h0ot, hod⟩)
          have e := sum_ge (L := (rotL C jn).map (m (C.getD 0 0))) (k := 1) (fun x hx => by
            obtain ⟨b, hb, rfl⟩ := List.mem_map.1 hx
            rw [(hot b hb).2]; exact Nat.le_refl _)
          rw [List.map_cons, List.sum_cons, c6.2.1] at this
          rw [List.length_map, hl] at e
          omega
        have hfr : frM C m = rotL C jn := by
          have e : frM C m = (C.drop 1).filter fun c => decide (0 < m (C.getD 0 0) c) := by
            have hz : decide (0 < m (C.getD 0 0) (C.getD 0 0)) = false := decide_eq_false (by rw [hz]; omega)
            unfold frM
            conv => lhs; rw [hcd]
            rw [List.filter_cons]
            show (if decide (0 < m (C.getD 0 0) (C.getD 0 0)) = true then _ else _) = _
            rw [hz]
            first | done | rfl
          rw [e]
          unfold rotL
          refine List.filter_congr fun c hc => ?_
          have hcC : c ∈ C := List.mem_of_mem_drop hc
          have hne : C.getD 0 0 ≠ c := fun e => h0d (by rw [e]; exact hc)
          rw [hj _ hC0 c hcC hne]
          apply decide_eq_decide.2
          have := hall _ hC0 c hcC hne
          unfold wantN at this
          split at this <;> omega
        have hfl : (frM C m).length = 3 := by rw [hfr]; exact hl
        have hnl : (nrM C m).length = 3 := by
          have := filt_lenA C (fun c => decide (0 < m (C.getD 0 0) c))
          unfold frM at hfl
          unfold nrM
          omega
        refine ⟨c6.2.2, hnl, hfl, fun a ha b hb => ?_⟩
        obtain ⟨haC, pa⟩ := List.mem_filter.1 ha
        have hbC := (List.mem_filter.1 hb).1
        have haf : a ∉ frM C m := fun h => by
          have := (List.mem_filter.1 h).2
          rw [this] at pa; cases pa
        rw [hfr] at haf hb
        rw [hall a haC b hbC (fun e => haf (by rw [e]; exact hb))]
        unfold wantN
        rw [inB_false.2 haf, inB_true.2 hb]
        rfl
      · rw [if_neg c6]
  · rw [if_neg hs]
end

/-- How many ways go between two corners. -/
def joinN (ws : List (List Int)) (a b : Int) : Nat := ws.countP fun x => (decide ((endP x).1 = a) && decide ((endP x).2 = b)) || (decide ((endP x).1 = b) && decide ((endP x).2 = a))
theorem joinN_m {N : Nat} {l : List Ed} (hR : RightG (N : Int) l) (h1 : NoOne l) {a b : Int} (ha : a ∈ corV l N) (hb : b ∈ corV l N) (hne : a ≠ b) : joinN (waysTo l N N) a b = mE l N a b := by
  have go : ∀ a b : Int, a < b → a ∈ corV l N → ∀ p : List Int → Bool, (∀ x, p x = true ↔ endP x = (a, b) ∨ endP x = (b, a)) → (waysTo l N N).countP p = mE l N a b := fun a b hab ha p hp => by
    have h2 := cnt_m (N := N) (l := l) hab ha
    unfold cntE at h2
    have : (waysTo l N N).countP p = (waysTo l N N).countP fun x => decide (endP x = (a, b)) := by
      refine List.countP_congr fun x hx => ?_
      rw [hp x]
      constructor
      · rintro (h | h)
        · exact decide_eq_true h
        · exfalso
          obtain ⟨d, hd, rfl, ht⟩ := mem_ways.1 hx
          rw [endP_way] at h
          obtain ⟨rfl, rfl⟩ := Prod.mk.inj h
          have := told_le ht
          omega
      · intro h; exact .inl (of_decide_eq_true h)
    rw [this]
    omega
  unfold joinN
  rcases Int.lt_or_gt_of_ne hne with h | h
  · refine go a b h ha _ fun x => ?_
    simp [Prod.ext_iff]
  · rw [m_sym hR h1 ha hb]
    refine go b a h hb _ fun x => ?_
    simp [Prod.ext_iff]
    exact Or.comm
/-- Both answer the same. -/
theorem cls_same {N : Nat} {l : List Ed} (hR : RightG (N : Int) l) (h1 : NoOne l) : rcls (corV l N) (joinN (waysTo l N N)) (fun v => (nb l v).length) (waysTo l N N).length = if fiveB (waysTo l N N) = true then 5 else if threeB (waysTo l N N) = true then 33 else 0 := by
  have hK := kd_of hR h1
  have hj : ∀ a ∈ corV l N, ∀ b ∈ corV l N, a ≠ b → joinN (waysTo l N N) a b = mE l N a b := fun a ha b hb hab => joinN_m hR h1 ha hb hab
  by_cases h5 : fiveB (waysTo l N N) = true
  · rw [if_pos h5]; exact hK.five hj ((five_iff hR h1).1 h5)
  · rw [if_neg h5]
    by_cases h3 : threeB (waysTo l N N) = true
    · rw [if_pos h3]; exact hK.three hj ((three_iff hR h1).1 h3)
    · rw [if_neg h3]; exact hK.none hj (fun h => h5 ((five_iff hR h1).2 h)) (fun h => h3 ((three_iff hR h1).2 h))
end Go.Proofs.Ytgjaikekpgdehaa
