/-
  How many ways go from a corner to another one. No program in this text.
-/
import Derived.Test.YtgjaikekpgdehaaQC
namespace Go.Proofs.Ytgjaikekpgdehaa
open Go Go.Proofs

/-- Where a walk ends. -/
def endV (l : List Ed) (N : Nat) (v u : Int) : Int := (rho l N (v, u)).1
/-- How many walks from p end at q. -/
def mE (l : List Ed) (N : Nat) (p q : Int) : Nat := ((nb l p).filter fun u => decide (endV l N p u = q)).length
theorem endP_way (l : List Ed) (N : Nat) (v u : Int) : endP (wayL l N v u) = (v, endV l N v u) := rfl

theorem cnt_crD {l : List Ed} (f : Int × Int → Bool) {p : Nat} (hp : 3 ≤ (nb l (p : Int)).length) (hf : ∀ d, f d = true → d.1 = (p : Int)) : ∀ j, (crD l j).countP f = if p < j then ((nb l (p : Int)).filter fun u => f ((p : Int), u)).length else 0
  | 0 => rfl
  | j + 1 => by
    rw [crD_succ, List.countP_append, cnt_crD f hp hf j]
    by_cases e : j = p
    · subst e
      rw [if_neg (by omega), if_neg (by omega), if_pos (by omega), List.countP_map, List.countP_eq_length_filter, Nat.zero_add]
      rfl
    · have hz : List.countP f (if (nb l (j : Int)).length < 3 then [] else (nb l (j : Int)).map fun u => ((j : Int), u)) = 0 := by
        rw [List.countP_eq_zero]
        intro d hd
        split at hd
        · cases hd
        · obtain ⟨u, _, rfl⟩ := List.mem_map.1 hd
          intro h
          have := hf _ h
          simp only at this
          omega
      rw [hz]
      by_cases h : p < j
      · rw [if_pos h, if_pos (by omega), Nat.add_zero]
      · rw [if_neg h, if_neg (by omega)]
theorem told_lt {l : List Ed} {N : Nat} {v u : Int} (h : v < endV l N v u) : toldB (wayL l N v u) = true := by
  rw [told_eq, fst_way]
  unfold lt2
  exact decide_eq_true (.inl h)
theorem told_le {l : List Ed} {N : Nat} {v u : Int} (h : toldB (wayL l N v u) = true) : v ≤ endV l N v u := by
  rw [told_eq, fst_way] at h
  unfold lt2 at h
  have := of_decide_eq_true h
  simp only at this
  show v ≤ (lstD (wayL l N v u)).1
  omega
theorem mem_ways {l : List Ed} {N : Nat} {w : List Int} : w ∈ waysTo l N N ↔ ∃ d ∈ crD l N, w = wayL l N d.1 d.2 ∧ toldB w = true := by
  rw [waysTo_eq, List.mem_filter, List.mem_map]
  constructor
  · rintro ⟨⟨d, hd, rfl⟩, ht⟩; exact ⟨d, hd, rfl, ht⟩
  · rintro ⟨d, hd, rfl, ht⟩; exact ⟨⟨d, hd, rfl⟩, ht⟩
section
variable {N : Nat} {l : List Ed}
theorem crD_of {p u : Int} (hp : p ∈ corV l N) (hu : u ∈ nb l p) : (p, u) ∈ crD l N := by
  obtain ⟨h0, hN, h3⟩ := mem_corV.1 hp
  exact mem_crD.2 ⟨p.toNat, by omega, by simp; omega, by rw [show ((p.toNat : Nat) : Int) = p by omega]; exact h3, by rw [show ((p.toNat : Nat) : Int) = p by omega]; exact hu⟩
theorem crD_cor {d : Int × Int} (hd : d ∈ crD l N) : d.1 ∈ corV l N ∧ d.2 ∈ nb l d.1 := by
  obtain ⟨v, hv, e1, e2, e3⟩ := mem_crD.1 hd
  rw [← e1] at e2 e3
  exact ⟨mem_corV.2 ⟨by omega, by omega, e2⟩, e3⟩
theorem cnt_m {p q : Int} (hpq : p < q) (hp : p ∈ corV l N) : cntE (waysTo l N N) (p, q) = (mE l N p q : Int) := by
  obtain ⟨h0, hN, h3⟩ := mem_corV.1 hp
  obtain ⟨P, rfl⟩ : ∃ P : Nat, p = (P : Int) := ⟨p.toNat, by omega⟩
  unfold cntE mE
  rw [waysTo_eq, List.countP_filter, List.countP_map]
  have := cnt_crD (l := l) (fun d => decide (endP (wayL l N d.1 d.2) = ((P : Int), q)) && toldB (wayL l N d.1 d.2)) h3 (fun d hd => by
    simp only [Bool.and_eq_true, decide_eq_true_eq] at hd
    have e := hd.1
    rw [endP_way] at e
    exact (Prod.mk.inj e).1) N
  rw [if_pos (by omega)] at this
  refine congrArg Int.ofNat (Eq.trans ?_ (this.trans ?_))
  · rfl
  · congr 1
    refine List.filter_congr fun u _ => ?_
    simp only [endP_way, Prod.mk.injEq, true_and]
    by_cases e : endV l N (P : Int) u = q
    · rw [told_lt (by omega)]; simp
    · simp [e]
theorem cnt_none {p q : Int} (hpq : q < p) : cntE (waysTo l N N) (p, q) = 0 := by
  unfold cntE
  have : (waysTo l N N).countP (fun x => decide (endP x = (p, q))) = 0 := by
    rw [List.countP_eq_zero]
    intro w hw h
    obtain ⟨d, hd, rfl, ht⟩ := mem_ways.1 hw
    have e := of_decide_eq_true h
    rw [endP_way] at e
    obtain ⟨rfl, rfl⟩ := Prod.mk.inj e
    have := told_le ht
    omega
  rw [this]; rfl
theorem m_le (hR : RightG (N : Int) l) (h1 : NoOne l) {p q : Int} (hp : p ∈ corV l N) : mE l N p q ≤ mE l N q p := by
  have hf : ∀ u ∈ nb l p, (rho l N (p, u)) ∈ crD l N ∧ rho l N (rho l N (p, u)) = (p, u) := fun u hu => by
    obtain ⟨_, _, h3⟩ := mem_corV.1 hp
    exact ⟨rho_in hR h1 (crD_of hp hu), (rho_facts hR (d := (p, u)) hu (by simp only; omega)).2.2.2.1⟩
  unfold mE
  have hA : (((nb l p).filter fun u => decide (endV l N p u = q)).map fun u => (rho l N (p, u)).2).Nodup := by
    refine List.pairwise_map.2 (List.Pairwise.imp_of_mem (fun {a b} ha hb hab e => hab ?_) ((nb_nodup hR p).sublist List.filter_sublist))
    obtain ⟨ha, ea⟩ := List.mem_filter.1 ha
    obtain ⟨hb, eb⟩ := List.mem_filter.1 hb
    have ea : (rho l N (p, a)).1 = q := of_decide_eq_true ea
    have eb : (rho l N (p, b)).1 = q := of_decide_eq_true eb
    have e2 : rho l N (p, a) = rho l N (p, b) := Prod.ext (ea.trans eb.symm) e
    have e3 := (hf a ha).2
    rw [e2, (hf b hb).2] at e3
    exact (Prod.mk.inj e3).2.symm
  have := nodup_lenK (B := (nb l q).filter fun u => decide (endV l N q u = p)) hA (fun x hx => by
    obtain ⟨u, hu, rfl⟩ := List.mem_map.1 hx
    obtain ⟨hu, eu⟩ := List.mem_filter.1 hu
    have eu : (rho l N (p, u)).1 = q := of_decide_eq_true eu
    obtain ⟨g1, g2⟩ := hf u hu
    obtain ⟨_, g3⟩ := crD_cor g1
    rw [eu] at g3
    have e : (q, (rho l N (p, u)).2) = rho l N (p, u) := Prod.ext eu.symm rfl
    refine List.mem_filter.2 ⟨g3, decide_eq_true ?_⟩
    show (rho l N (q, (rho l N (p, u)).2)).1 = p
    rw [e, g2])
  rwa [List.length_map] at this
theorem m_sym (hR : RightG (N : Int) l) (h1 : NoOne l) {p q : Int} (hp : p ∈ corV l N) (hq : q ∈ corV l N) : mE l N p q = mE l N q p := Nat.le_antisymm (m_le hR h1 hp) (m_le hR h1 hq)
theorem far_self (hR : RightG (N : Int) l) (h1 : NoOne l) {p : Int} (hp : p ∈ corV l N) : farB (waysTo l N N) p p = true ↔ 0 < mE l N p p := by
  unfold farB
  rw [List.any_eq_true]
  constructor
  · rintro ⟨w, hw, h⟩
    obtain ⟨d, hd, rfl, ht⟩ := mem_ways.1 hw
    have e := of_decide_eq_true h
    rw [endP_way] at e
    obtain ⟨e1, e2⟩ := Prod.mk.inj e
    obtain ⟨_, hu⟩ := crD_cor hd
    rw [e1] at hu e2
    exact List.length_pos_of_mem (List.mem_filter.2 ⟨hu, decide_eq_true e2⟩)
  · intro h
    obtain ⟨u, hu⟩ := List.exists_mem_of_length_pos h
    obtain ⟨hu, eu⟩ := List.mem_filter.1 hu
    have eu := of_decide_eq_true eu
    have hd := crD_of hp hu
    cases ht : toldB (wayL l N p u) with
    | true => exact ⟨_, mem_ways.2 ⟨_, hd, rfl, ht⟩, decide_eq_true (by rw [endP_way, eu])⟩
    | false =>
      obtain ⟨_, _, h3⟩ := mem_corV.1 hp
      obtain ⟨g1, g2, g3, g4, g5⟩ := rho_facts hR (d := (p, u)) hu (by simp only; omega)
      refine ⟨_, mem_ways.2 ⟨_, rho_in hR h1 hd, rfl, by rw [g5]; simp only; rw [ht]; rfl⟩, decide_eq_true ?_⟩
      rw [endP_way]
      refine Prod.ext eu ?_
      show (rho l N (rho l N (p, u))).1 = p
      rw [g4]
theorem far_m (hR : RightG (N : Int) l) (h1 : NoOne l) {p q : Int} (hpq : p ≤ q) (hp : p ∈ corV l N) : farB (waysTo l N N) p q = decide (0 < mE l N p q) := by
  by_cases e : p = q
  · subst e
    have := far_self hR h1 hp
    cases h : farB (waysTo l N N) p p with
    | true => exact (decide_eq_true (this.1 h)).symm
    | false => exact (decide_eq_false (fun g => by rw [this.2 g] at h; cases h)).symm
  · have := cnt_m (N := N) (l := l) (q := q) (by omega) hp
    unfold cntE at this
    unfold farB
    have e2 : (waysTo l N N).countP (fun x => decide (endP x = (p, q))) = mE l N p q := by omega
    rw [← e2]
    cases h : (waysTo l N N).any fun x => decide (endP x = (p, q)) with
    | true =>
      obtain ⟨w, hw, g⟩ := List.any_eq_true.1 h
      exact (decide_eq_true (List.countP_pos_iff.2 ⟨w, hw, g⟩)).symm
    | false =>
      refine (decide_eq_false fun g => ?_).symm
      obtain ⟨w, hw, g⟩ := List.countP_pos_iff.1 g
      have := List.any_eq_false.1 h w hw
      exact this g
end

theorem filt_lenA {α : Type} (C : List α) (p : α → Bool) : (C.filter fun c => !p c).length + (C.filter p).length = C.length := by
  induction C with
  | nil => rfl
  | cons c C ih =>
    cases h : p c with
    | true => simp [h]; omega
    | false => simp [h]; omega
theorem sum_filt {α β : Type} [DecidableEq β] (f : α → β) : ∀ (T : List β), T.Nodup → ∀ L : List α, (T.map fun c => (L.filter fun u => decide (f u = c)).length).sum ≤ L.length
  | [], _, _ => Nat.zero_le _
  | c :: T, hn, L => by
    have hn' := List.nodup_cons.1 hn
    have ih := sum_filt f T hn'.2 (L.filter fun u => !decide (f u = c))
    have e1 := filt_lenA L (fun u => decide (f u = c))
    have e2 : (T.map fun c' => ((L.filter fun u => !decide (f u = c)).filter fun u => decide (f u = c')).length) = T.map fun c' => (L.filter fun u => decide (f u = c')).length := by
      refine List.map_congr_left fun c' hc' => ?_
      rw [List.filter_filter]
      congr 1
      refine List.filter_congr fun u _ => ?_
      by_cases h : f u = c'
      · have : ¬ f u = c := fun e => hn'.1 (by rw [← e, h]; exact hc')
        simp [h]
        intro e; exact this (h.trans e)
      · simp [h]
    rw [e2] at ih
    rw [List.map_cons, List.sum_cons]
    omega
theorem sum_ge {L : List Nat} {k : Nat} (h : ∀ x ∈ L, k ≤ x) : k * L.length ≤ L.sum := by
  induction L with
  | nil => simp
  | cons x L ih =>
    have h1 := h x List.mem_cons_self
    have h2 := ih fun y hy => h y (List.mem_cons_of_mem _ hy)
    rw [List.sum_cons, List.length_cons, Nat.mul_succ]
    omega
theorem sum_all {L : List Nat} {k : Nat} (h : ∀ x ∈ L, k ≤ x) (hs : L.sum = k * L.length) : ∀ x ∈ L, x = k := by
  induction L with
  | nil => intro x hx; cases hx
  | cons y L ih =>
    have h1 := h y List.mem_cons_self
    have h2 := sum_ge (L := L) (k := k) fun z hz => h z (List.mem_cons_of_mem _ hz)
    rw [List.sum_cons, List.length_cons, Nat.mul_succ] at hs
    intro x hx
    rcases List.mem_cons.1 hx with rfl | hx
    · omega
    · exact ih (fun z hz => h z (List.mem_cons_of_mem _ hz)) (by omega) x hx
theorem corV_succ (l : List Ed) (j : Nat) : corV l (j + 1) = corV l j ++ (if (nb l (j : Int)).length < 3 then [] else [(j : Int)]) := by
  unfold corV
  rw [List.range_succ, List.filter_append, List.map_append]
  congr 1
  by_cases h : (nb l (j : Int)).length < 3
  · have : decide (3 ≤ (nb l (j : Int)).length) = false := by simp; omega
    rw [if_pos h]; simp [this]
  · have : decide (3 ≤ (nb l (j : Int)).length) = true := by simp; omega
    rw [if_neg h]; simp [this]
theorem cor_sum (l : List Ed) : ∀ j, ((corV l j).map fun v => (nb l v).length).sum = (crD l j).length
  | 0 => rfl
  | j + 1 => by
    rw [corV_succ, crD_succ, List.map_append, List.sum_append, List.length_append, cor_sum l j]
    congr 1
    split <;> simp
/-- All corners have as many neighbours as they must have together. -/
theorem deg_all {N k : Nat} {l : List Ed} (hR : RightG (N : Int) l) (h1 : NoOne l) (hs : 2 * (waysTo l N N).length = k * (corV l N).length) (hT : ∀ v ∈ corV l N, ∃ T : List Int, T.Nodup ∧ T.length = k ∧ ∀ c ∈ T, 1 ≤ mE l N v c) : ∀ v ∈ corV l N, (nb l v).length = k := by
  have hge : ∀ v ∈ corV l N, k ≤ (nb l v).length := fun v hv => by
    obtain ⟨T, h2, h3, h4⟩ := hT v hv
    have e1 := sum_filt (endV l N v) T h2 (nb l v)
    have e2 := sum_ge (L := T.map fun c => ((nb l v).filter fun u => decide (endV l N v u = c)).length) (k := 1) (fun x hx => by
      obtain ⟨c, hc, rfl⟩ := List.mem_map.1 hx
      exact h4 c hc)
    rw [List.length_map] at e2
    omega
  have hh := ways_half hR h1
  have := sum_all (L := (corV l N).map fun v => (nb l v).length) (k := k) (fun x hx => by
    obtain ⟨v, hv, rfl⟩ := List.mem_map.1 hx
    exact hge v hv) (by rw [cor_sum, List.length_map]; omega)
  intro v hv
  exact this _ (List.mem_map.2 ⟨v, hv, rfl⟩)
end Go.Proofs.Ytgjaikekpgdehaa

namespace Go.Proofs.Ytgjaikekpgdehaa
open Go Go.Proofs

/-- Corners, how many ways go between two of them, how many neighbours each has, how many ways there are. -/
structure KD (C : List Int) (m : Int → Int → Nat) (dg : Int → Nat) (W : Nat) : Prop where
  rise : C.Pairwise (· < ·)
  sym : ∀ a ∈ C, ∀ b ∈ C, m a b = m b a
  sum : ∀ v ∈ C, ∀ T : List Int, T.Nodup → (T.map (m v)).sum ≤ dg v
  all : (C.map dg).sum = 2 * W
def Five (C : List Int) (m : Int → Int → Nat) (W : Nat) : Prop := W = 10 ∧ C.length = 5 ∧ ∀ a ∈ C, ∀ b ∈ C, a < b → m a b = 1
def nrM (C : List Int) (m : Int → Int → Nat) : List Int := C.filter fun c => !decide (0 < m (C.getD 0 0) c)
def frM (C : List Int) (m : Int → Int → Nat) : List Int := C.filter fun c => decide (0 < m (C.getD 0 0) c)
def Three (C : List Int) (m : Int → Int → Nat) (W : Nat) : Prop := W = 9 ∧ (nrM C m).length = 3 ∧ (frM C m).length = 3 ∧ ∀ a ∈ nrM C m, ∀ b ∈ frM C m, m a b = 1

theorem kd_of {N : Nat} {l : List Ed} (hR : RightG (N : Int) l) (h1 : NoOne l) : KD (corV l N) (mE l N) (fun v => (nb l v).length) (waysTo l N N).length :=
  ⟨corV_rise l N, fun a ha b hb => m_sym hR h1 ha hb, fun v _ T hT => sum_filt (endV l N v) T hT (nb l v), by rw [cor_sum]; exact ways_half hR h1⟩

theorem mem_twoTo {C : List Int} (hC : C.Pairwise (· < ·)) {d : Int × Int} : d ∈ twoTo C C.length ↔ d.1 ∈ C ∧ d.2 ∈ C ∧ d.1 < d.2 := by
  have go : ∀ j, d ∈ twoTo C j ↔ ∃ i, i < j ∧ d.1 = C.getD i 0 ∧ d.2 ∈ C.drop (i + 1) := by
    intro j
    induction j with
    | zero => simp [twoTo]
    | succ j ih =>
      rw [twoTo, List.mem_append, ih]
      constructor
      · rintro (⟨i, hi, h⟩ | h)
        · exact ⟨i, by omega, h⟩
        · obtain ⟨b, hb, rfl⟩ := List.mem_map.1 h
          exact ⟨j, by omega, rfl, hb⟩
      · rintro ⟨i, hi, h2, h3⟩
        by_cases e : i = j
        · subst e
          exact .inr (List.mem_map.2 ⟨d.2, h3, by rw [← h2]⟩)
        · exact .inl ⟨i, by omega, h2, h3⟩
  rw [go]
  constructor
  · rintro ⟨i, hi, h2, h3⟩
    obtain ⟨k, hk, e⟩ := List.getElem_of_mem h3
    have hk' : i + 1 + k < C.length := by simp at hk; omega
    rw [List.getElem_drop] at e
    have e2 : d.1 = C[i] := by rw [h2]; simp [hi]
    rw [e2, ← e]
    exact ⟨List.getElem_mem hi, List.getElem_mem hk', List.pairwise_iff_getElem.1 hC i (i + 1 + k) hi hk' (by omega)⟩
  · rintro ⟨ha, hb, hlt⟩
    obtain ⟨i, hi, e1⟩ := List.getElem_of_mem ha
    obtain ⟨k, hk, e2⟩ := List.getElem_of_mem hb
    have hik : i < k := by
      rcases Nat.lt_trichotomy i k with h | h | h
      · exact h
      · subst h; omega
      · have := List.pairwise_iff_getElem.1 hC k i hk hi h; omega
    refine ⟨i, hi, by rw [← e1]; simp [hi], ?_⟩
    rw [← e2]
    have : C[k] = (C.drop (i + 1))[k - (i + 1)]'(by simp; omega) := by
      rw [List.getElem_drop]
      congr 1
      omega
    rw [this]
    exact List.getElem_mem _
theorem mem_acrTo {A B : List Int} {d : Int × Int} : d ∈ acrTo A B A.length ↔ ∃ a ∈ A, ∃ b ∈ B, d = (min a b, max a b) := by
  have go : ∀ j, d ∈ acrTo A B j ↔ ∃ i, i < j ∧ ∃ b ∈ B, d = (min (A.getD i 0) b, max (A.getD i 0) b) := by
    intro j
    induction j with
    | zero => simp [acrTo]
    | succ j ih =>
      rw [acrTo, List.mem_append, ih]
      constructor
      · rintro (⟨i, hi, h⟩ | h)
        · exact ⟨i, by omega, h⟩
        · obtain ⟨b, hb, rfl⟩ := List.mem_map.1 h
          exact ⟨j, by omega, b, hb, rfl⟩
      · rintro ⟨i, hi, b, hb, h3⟩
        by_cases e : i = j
        · subst e
          exact .inr (List.mem_map.2 ⟨b, hb, h3.symm⟩)
        · exact .inl ⟨i, by omega, b, hb, h3⟩
  rw [go]
  constructor
  · rintro ⟨i, hi, b, hb, h⟩
    exact ⟨A[i], List.getElem_mem hi, b, hb, by rw [h]; simp [hi]⟩
  · rintro ⟨a, ha, b, hb, h⟩
    obtain ⟨i, hi, rfl⟩ := List.getElem_of_mem ha
    exact ⟨i, hi, b, hb, by rw [h]; simp [hi]⟩
theorem joinB_iff {ws : List (List Int)} {ps : List (Int × Int)} : joinB ws ps = true ↔ ∀ d ∈ ps, cntE ws d = 1 := by
  unfold joinB
  rw [Bool.not_eq_true', List.any_eq_false]
  constructor
  · intro h d hd
    have := h d hd
    simpa using this
  · intro h d hd
    have := h d hd
    simp [this]
theorem filter_mem {C : List Int} {p : Int → Bool} {x : Int} : x ∈ C.filter p ↔ x ∈ C ∧ p x = true := List.mem_filter
section
variable {N : Nat} {l : List Ed}
theorem five_iff (hR : RightG (N : Int) l) (h1 : NoOne l) : fiveB (waysTo l N N) = true ↔ Five (corV l N) (mE l N) (waysTo l N N).length := by
  unfold fiveB Five
  rw [crn_cor hR h1]
  simp only [Bool.and_eq_true, decide_eq_true_eq, joinB_iff]
  constructor
  · rintro ⟨a1, a2, a3⟩
    refine ⟨a1, a2, fun a ha b hb hab => ?_⟩
    have := a3 (a, b) ((mem_twoTo (corV_rise l N)).2 ⟨ha, hb, hab⟩)
    rw [cnt_m hab ha] at this
    omega
  · rintro ⟨a1, a2, a3⟩
    refine ⟨a1, a2, fun d hd => ?_⟩
    obtain ⟨ha, hb, hab⟩ := (mem_twoTo (corV_rise l N)).1 hd
    have := a3 _ ha _ hb hab
    show cntE _ (d.1, d.2) = 1
    rw [cnt_m hab ha]
    omega
theorem far_eq (hR : RightG (N : Int) l) (h1 : NoOne l) : nrP (waysTo l N N) = nrM (corV l N) (mE l N) ∧ frP (waysTo l N N) = frM (corV l N) (mE l N) := by
  unfold nrP frP preN preF nrM frM
  rw [crn_cor hR h1, List.take_length]
  have : ∀ c ∈ corV l N, farB (waysTo l N N) ((corV l N).getD 0 0) c = decide (0 < mE l N ((corV l N).getD 0 0) c) := fun c hc => by
    have hr := corV_rise l N
    generalize hK : corV l N = C at *
    obtain ⟨i, hi, rfl⟩ := List.getElem_of_mem hc
    have e0 : C.getD 0 0 = C[0]'(by omega) := by simp [show 0 < C.length by omega]
    rw [e0]
    refine far_m hR h1 ?_ (by rw [hK]; exact List.getElem_mem _)
    by_cases e : i = 0
    · subst e; exact Int.le_refl _
    · exact Int.le_of_lt (List.pairwise_iff_getElem.1 hr 0 i (by omega) hi (by omega))
  exact ⟨List.filter_congr fun c hc => by rw [this c hc], List.filter_congr fun c hc => this c hc⟩
theorem three_iff (hR : RightG (N : Int) l) (h1 : NoOne l) : threeB (waysTo l N N) = true ↔ Three (corV l N) (mE l N) (waysTo l N N).length := by
  unfold threeB Three
  rw [(far_eq hR h1).1, (far_eq hR h1).2]
  simp only [Bool.and_eq_true, decide_eq_true_eq, joinB_iff]
  have key : ∀ a ∈ nrM (corV l N) (mE l N), ∀ b ∈ frM (corV l N) (mE l N), cntE (waysTo l N N) (min a b, max a b) = (mE l N a b : Int) := fun a ha b hb => by
    obtain ⟨ha, pa⟩ := List.mem_filter.1 ha
    obtain ⟨hb, pb⟩ := List.mem_filter.1 hb
    have hne : a ≠ b := fun e => by subst e; rw [pb] at pa; cases pa
    rcases Int.lt_or_gt_of_ne hne with h | h
    · rw [Int.min_eq_left (Int.le_of_lt h), Int.max_eq_right (Int.le_of_lt h)]
      exact cnt_m h ha
    · rw [Int.min_eq_right (Int.le_of_lt h), Int.max_eq_left (Int.le_of_lt h), m_sym hR h1 ha hb]
      exact cnt_m h hb
  constructor
  · rintro ⟨a1, a2, a3, a4⟩
    refine ⟨a1, a2, a3, fun a ha b hb => ?_⟩
    have := a4 _ (mem_acrTo.2 ⟨a, ha, b, hb, rfl⟩)
    rw [key a ha b hb] at this
    omega
  · rintro ⟨a1, a2, a3, a4⟩
    refine ⟨a1, a2, a3, fun d hd => ?_⟩
    obtain ⟨a, ha, b, hb, rfl⟩ := mem_acrTo.1 hd
    rw [key a ha b hb, a4 a ha b hb]
    rfl
end

/-! ### The reference's tests -/
def pairsB (C : List Int) (jn : Int → Int → Nat) (want : Int → Int → Nat) : Bool := (List.range C.length).all fun i => (List.range i).all fun j => decide (jn (C.getD i 0) (C.getD j 0) = want (C.getD i 0) (C.getD j 0))
theorem pairsB_iff {C : List Int} {jn want : Int → Int → Nat} : pairsB C jn want = true ↔ ∀ i j, j < i → i < C.length → jn (C.getD i 0) (C.getD j 0) = want (C.getD i 0) (C.getD j 0) := by
  unfold pairsB
  simp only [List.all_eq_true, List.mem_range, decide_eq_true_eq]
  exact ⟨fun h i j hj hi => h i hi j hj, fun h i hi j hj => h i j hj hi⟩
def rotL (C : List Int) (jn : Int → Int → Nat) : List Int := (C.drop 1).filter fun c => decide (jn (C.getD 0 0) c = 1)
def wantN (ot : List Int) (a b : Int) : Nat := if inB ot a = inB ot b then 0 else 1
def sameD (C : List Int) (dg : Int → Nat) : Bool := C.all fun c => decide (dg c = dg (C.getD 0 0))
def rcls (C : List Int) (jn : Int → Int → Nat) (dg : Int → Nat) (W : Nat) : Int :=
  if sameD C dg = true then
    (if C.length = 5 ∧ dg (C.getD 0 0) = 4 ∧ W = 10 then (if pairsB C jn (fun _ _ => 1) = true then 5 else 0)
    else if C.length = 6 ∧ dg (C.getD 0 0) = 3 ∧ W = 9 then (if pairsB C jn (wantN (rotL C jn)) = true ∧ (rotL C jn).length = 3 then 33 else 0) else 0)
  else 0

section
variable {C : List Int} {m jn : Int → Int → Nat} {dg : Int → Nat} {W : Nat}
theorem KD.dup (hK : KD C m dg W) : C.Nodup := hK.rise.imp fun h => Int.ne_of_lt h
theorem KD.deg (hK : KD C m dg W) {k : Nat} (hs : 2 * W = k * C.length) (hT : ∀ v ∈ C, ∃ T : List Int, T.Nodup ∧ T.length = k ∧ ∀ c ∈ T, 1 ≤ m v c) : ∀ v ∈ C, dg v = k := by
  have := sum_all (L := C.map dg) (k := k) (fun x hx => by
    obtain ⟨v, hv, rfl⟩ := List.mem_map.1 hx
    obtain ⟨T, h2, h3, h4⟩ := hT v hv
    have e1 := hK.sum v hv T h2
    have e2 := sum_ge (L := T.map (m v)) (k := 1) (fun x hx => by
      obtain ⟨c, hc, rfl⟩ := List.mem_map.1 hx
      exact h4 c hc)
    rw [List.length_map] at e2
    omega) (by rw [hK.all, List.length_map]; exact hs)
  intro v hv
  exact this _ (List.mem_map.2 ⟨v, hv, rfl⟩)
theorem getD_mem {C : List Int} {i : Nat} (h : i < C.length) : C.getD i 0 ∈ C := by
  have : C.getD i 0 = C[i] := by simp [h]
  rw [this]; exact List.getElem_mem h
theorem getD_lt {C : List Int} (hC : C.Pairwise (· < ·)) {i j : Nat} (hj : j < i) (hi : i < C.length) : C.getD j 0 < C.getD i 0 := by
  have e1 : C.getD i 0 = C[i] := by simp [hi]
  have e2 : C.getD j 0 = C[j]'(by omega) := by simp [show j < C.length by omega]
  rw [e1, e2]
  exact List.pairwise_iff_getElem.1 hC j i (by omega) hi hj
theorem same_of {dg : Int → Nat} {k : Nat} {C : List Int} (h : ∀ v ∈ C, dg v = k) : sameD C dg = true := by
  unfold sameD
  rw [List.all_eq_true]
  intro c hc
  have h0 := List.length_pos_of_mem hc
  exact decide_eq_true (by rw [h c hc, h _ (getD_mem h0)])
theorem cons_drop {C : List Int} (h : 0 < C.length) : C = C.getD 0 0 :: C.drop 1 := by
  match C, h with
  | c :: C, _ => rfl
theorem KD.five (hK : KD C m dg W) (hj : ∀ a ∈ C, ∀ b ∈ C, a ≠ b → jn a b = m a b) (h : Five C m W) : rcls C jn dg W = 5 := by
  obtain ⟨h1, h2, h3⟩ := h
  have hm : ∀ a ∈ C, ∀ b ∈ C, a ≠ b → m a b = 1 := fun a ha b hb hab => by
    rcases Int.lt_or_gt_of_ne hab with h | h
    · exact h3 a ha b hb h
    · rw [hK.sym a ha b hb]; exact h3 b hb a ha h
  have hd : ∀ v ∈ C, dg v = 4 := hK.deg (by omega) fun v hv => ⟨C.erase v, hK.dup.sublist List.erase_sublist, by rw [List.length_erase_of_mem hv]; omega, fun c hc => by
    have hc2 := (hK.dup.mem_erase_iff).1 hc
    rw [hm v hv c hc2.2 (Ne.symm hc2.1)]
    exact Nat.le_refl _⟩
  unfold rcls
  rw [if_pos (same_of hd), if_pos ⟨h2, hd _ (getD_mem (by omega)), h1⟩, if_pos]
  rw [pairsB_iff]
  intro i j hji hi
  have hlt := getD_lt hK.rise hji hi
  rw [hj _ (getD_mem hi) _ (getD_mem (by omega)) (by omega)]
  exact hm _ (getD_mem hi) _ (getD_mem (by omega)) (by omega)
theorem KD.three (hK : KD C m dg W) (hj : ∀ a ∈ C, ∀ b ∈ C, a ≠ b → jn a b = m a b) (h : Three C m W) : rcls C jn dg W = 33 := by
  obtain ⟨h1, h2, h3, h4⟩ := h
  have hlen : C.length = 6 := by
    have := filt_lenA C (fun c => decide (0 < m (C.getD 0 0) c))
    unfold nrM at h2
    unfold frM at h3
    omega
  have hC0 : C.getD 0 0 ∈ C := getD_mem (by omega)
  have hnC : ∀ a, a ∈ nrM C m → a ∈ C := fun a ha => (List.mem_filter.1 ha).1
  have hfC : ∀ a, a ∈ frM C m → a ∈ C := fun a ha => (List.mem_filter.1 ha).1
  have hor : ∀ a ∈ C, a ∉ frM C m → a ∈ nrM C m := fun a ha hn => by
    refine List.mem_filter.2 ⟨ha, ?_⟩
    cases hp : decide (0 < m (C.getD 0 0) a) with
    | true => exact absurd (List.mem_filter.2 ⟨ha, hp⟩) hn
    | false => rfl
  have hnot : ∀ a, a ∈ nrM C m → a ∉ frM C m := fun a ha hb => by
    have e1 := (List.mem_filter.1 ha).2
    have e2 := (List.mem_filter.1 hb).2
    rw [e2] at e1; cases e1
  have hnd : (nrM C m).Nodup := hK.dup.sublist List.filter_sublist
  have hfd : (frM C m).Nodup := hK.dup.sublist List.filter_sublist
  have hd : ∀ v ∈ C, dg v = 3 := hK.deg (by omega) fun v hv => by
    by_cases hf : v ∈ frM C m
    · exact ⟨nrM C m, hnd, h2, fun c hc => by rw [hK.sym v hv c (hnC c hc), h4 c hc v hf]; exact Nat.le_refl _⟩
    · exact ⟨frM C m, hfd, h3, fun c hc => by rw [h4 v (hor v hv hf) c hc]; exact Nat.le_refl _⟩
  have z1 : ∀ v ∈ nrM C m, ∀ c, c ∉ frM C m → m v c = 0 := fun v hv c hc => by
    have := hK.sum v (hnC v hv) (c :: frM C m) (List.nodup_cons.2 ⟨hc, hfd⟩)
    have e := sum_ge (L := (frM C m).map (m v)) (k := 1) (fun x hx => by
      obtain ⟨b, hb, rfl⟩ := List.mem_map.1 hx
      rw [h4 v hv b hb]; exact Nat.le_refl _)
    rw [List.map_cons, List.sum_cons, hd v (hnC v hv)] at this
    rw [List.length_map, h3] at e
    omega
  have z2 : ∀ v ∈ frM C m, ∀ c, c ∉ nrM C m → m v c = 0 := fun v hv c hc => by
    have := hK.sum v (hfC v hv) (c :: nrM C m) (List.nodup_cons.2 ⟨hc, hnd⟩)
    have e := sum_ge (L := (nrM C m).map (m v)) (k := 1) (fun x hx => by
      obtain ⟨b, hb, rfl⟩ := List.mem_map.1 hx
      rw [hK.sym v (hfC v hv) b (hnC b hb), h4 b hb v hv]; exact Nat.le_refl _)
    rw [List.map_cons, List.sum_cons, hd v (hfC v hv)] at this
    rw [List.length_map, h2] at e
    omega
  have h0n : C.getD 0 0 ∉ frM C m := fun hf => by
    have e1 := of_decide_eq_true (List.mem_filter.1 hf).2
    have e2 := z2 _ hf (C.getD 0 0) (fun hn => hnot _ hn hf)
    omega
  have h0 := hor _ hC0 h0n
  have hot : rotL C jn = frM C m := by
    have hcd := cons_drop (C := C) (by omega)
    have e : frM C m = (C.drop 1).filter fun c => decide (0 < m (C.getD 0 0) c) := by
      have hz : decide (0 < m (C.getD 0 0) (C.getD 0 0)) = false := decide_eq_false (by rw [z1 _ h0 _ h0n]; omega)
      unfold frM
      conv => lhs; rw [hcd]
      rw [List.filter_cons]
      show (if decide (0 < m (C.getD 0 0) (C.getD 0 0)) = true then _ else _) = _
      rw [hz]
      first | done | rfl
    rw [e]
    unfold rotL
    refine List.filter_congr fun c hc => ?_
    have hcC : c ∈ C := List.mem_of_mem_drop hc
    have hne : C.getD 0 0 ≠ c := fun e => by
      have := hK.dup
      rw [hcd, List.nodup_cons] at this
      exact this.1 (by rw [e]; exact hc)
    rw [hj _ hC0 c hcC hne]
    apply decide_eq_decide.2
    constructor
    · intro h; omega
    · intro h; exact h4 _ h0 c (List.mem_filter.2 ⟨hcC, decide_eq_true h⟩)
  unfold rcls
  rw [if_pos (same_of hd), if_neg (by omega), if_pos ⟨hlen, hd _ hC0, h1⟩, hot]
  refine if_pos ⟨?_, h3⟩
  rw [pairsB_iff]
  intro i j hji hi
  have hlt := getD_lt hK.rise hji hi
  have ha := getD_mem hi
  have hb := getD_mem (show j < C.length by omega)
  generalize C.getD i 0 = a at *
  generalize C.getD j 0 = b at *
  rw [hj a ha b hb (by omega)]
  unfold wantN
  by_cases fa : a ∈ frM C m
  · rw [inB_true.2 fa]
    by_cases fb : b ∈ frM C m
    · rw [inB_true.2 fb, if_pos rfl]; exact z2 a fa b fun hn => hnot b hn fb
    · rw [inB_false.2 fb, if_neg (by simp), hK.sym a ha b hb]; exact h4 b (hor b hb fb) a fa
  · rw [inB_false.2 fa]
    by_cases fb : b ∈ frM C m
    · rw [inB_true.2 fb, if_neg (by simp)]; exact h4 a (hor a ha fa) b fb
    · rw [inB_false.2 fb, if_pos rfl]; exact z1 a (hor a ha fa) b fb
theorem KD.none (hK : KD C m dg W) (hj : ∀ a ∈ C, ∀ b ∈ C, a ≠ b → jn a b = m a b) (h5 : ¬ Five C m W) (h3 : ¬ Three C m W) : rcls C jn dg W = 0 := by
  unfold rcls
  by_cases hs : sameD C dg = true
  · rw [if_pos hs]
    by_cases c5 : C.length = 5 ∧ dg (C.getD 0 0) = 4 ∧ W = 10
    · rw [if_pos c5]
      refine if_neg fun hp => h5 ⟨c5.2.2, c5.1, fun a ha b hb hab => ?_⟩
      rw [pairsB_iff] at hp
      obtain ⟨i, hi, e1⟩ := List.getElem_of_mem ha
      obtain ⟨k, hk, e2⟩ := List.getElem_of_mem hb
      have hik : i < k := by
        rcases Nat.lt_trichotomy i k with h | h | h
        · exact h
        · subst h; omega
        · have := List.pairwise_iff_getElem.1 hK.rise k i hk hi h; omega
      have := hp k i hik hk
      have f1 : C.getD k 0 = b := by rw [← e2]; simp [hk]
      have f2 : C.getD i 0 = a := by rw [← e1]; simp [hi]
      rw [f1, f2, hj b hb a ha (by omega), hK.sym b hb a ha] at this
      exact this
    · rw [if_neg c5]
      by_cases c6 : C.length = 6 ∧ dg (C.getD 0 0) = 3 ∧ W = 9
      · rw [if_pos c6]
        refine if_neg fun hp => h3 ?_
        obtain ⟨hp, hl⟩ := hp
        rw [pairsB_iff] at hp
        have hall : ∀ a ∈ C, ∀ b ∈ C, a ≠ b → m a b = wantN (rotL C jn) a b := by
          have go : ∀ a ∈ C, ∀ b ∈ C, a < b → m a b = wantN (rotL C jn) a b := fun a ha b hb hab => by
            obtain ⟨i, hi, e1⟩ := List.getElem_of_mem ha
            obtain ⟨k, hk, e2⟩ := List.getElem_of_mem hb
            have hik : i < k := by
              rcases Nat.lt_trichotomy i k with h | h | h
              · exact h
              · subst h; omega
              · have := List.pairwise_iff_getElem.1 hK.rise k i hk hi h; omega
            have := hp k i hik hk
            have f1 : C.getD k 0 = b := by rw [← e2]; simp [hk]
            have f2 : C.getD i 0 = a := by rw [← e1]; simp [hi]
            rw [f1, f2, hj b hb a ha (by omega), hK.sym b hb a ha] at this
            rw [this]
            unfold wantN
            by_cases g : inB (rotL C jn) b = inB (rotL C jn) a
            · rw [if_pos g, if_pos g.symm]
            · rw [if_neg g, if_neg (Ne.symm g)]
          intro a ha b hb hab
          rcases Int.lt_or_gt_of_ne hab with h | h
          · exact go a ha b hb h
          · rw [hK.sym a ha b hb, go b hb a ha h]
            unfold wantN
            by_cases g : inB (rotL C jn) b = inB (rotL C jn) a
            · rw [if_pos g, if_pos g.symm]
            · rw [if_neg g, if_neg (Ne.symm g)]
        have hC0 : C.getD 0 0 ∈ C := getD_mem (by omega)
        have hcd := cons_drop (C := C) (by omega)
        have h0d : C.getD 0 0 ∉ C.drop 1 := by
          have := hK.dup
          rw [hcd, List.nodup_cons] at this
          exact this.1
        have hot : ∀ c ∈ rotL C jn, c ∈ C.drop 1 ∧ m (C.getD 0 0) c = 1 := fun c hc => by
          obtain ⟨a1, a2⟩ := List.mem_filter.1 hc
          have a3 := of_decide_eq_true a2
          rw [hj _ hC0 c (List.mem_of_mem_drop a1) (fun e => h0d (by rw [e]; exact a1))] at a3
          exact ⟨a1, a3⟩
        have h0ot : C.getD 0 0 ∉ rotL C jn := fun h => h0d (hot _ h).1
        have hod : (rotL C jn).Nodup := (hK.dup.sublist (List.drop_sublist 1 C)).sublist List.filter_sublist
        have hz : m (C.getD 0 0) (C.getD 0 0) = 0 := by
          have := hK.sum _ hC0 (C.getD 0 0 :: rotL C jn) (List.nodup_cons.2 ⟨h0ot, hod⟩)
          have e := sum_ge (L := (rotL C jn).map (m (C.getD 0 0))) (k := 1) (fun x hx => by
            obtain ⟨b, hb, rfl⟩ := List.mem_map.1 hx
            rw [(hot b hb).2]; exact Nat.le_refl _)
          rw [List.map_cons, List.sum_cons, c6.2.1] at this
          rw [List.length_map, hl] at e
          omega
        have hfr : frM C m = rotL C jn := by
          have e : frM C m = (C.drop 1).filter fun c => decide (0 < m (C.getD 0 0) c) := by
            have hz : decide (0 < m (C.getD 0 0) (C.getD 0 0)) = false := decide_eq_false (by rw [hz]; omega)
            unfold frM
            conv => lhs; rw [hcd]
            rw [List.filter_cons]
            show (if decide (0 < m (C.getD 0 0) (C.getD 0 0)) = true then _ else _) = _
            rw [hz]
            first | done | rfl
          rw [e]
          unfold rotL
          refine List.filter_congr fun c hc => ?_
          have hcC : c ∈ C := List.mem_of_mem_drop hc
          have hne : C.getD 0 0 ≠ c := fun e => h0d (by rw [e]; exact hc)
          rw [hj _ hC0 c hcC hne]
          apply decide_eq_decide.2
          have := hall _ hC0 c hcC hne
          unfold wantN at this
          split at this <;> omega
        have hfl : (frM C m).length = 3 := by rw [hfr]; exact hl
        have hnl : (nrM C m).length = 3 := by
          have := filt_lenA C (fun c => decide (0 < m (C.getD 0 0) c))
          unfold frM at hfl
          unfold nrM
          omega
        refine ⟨c6.2.2, hnl, hfl, fun a ha b hb => ?_⟩
        obtain ⟨haC, pa⟩ := List.mem_filter.1 ha
        have hbC := (List.mem_filter.1 hb).1
        have haf : a ∉ frM C m := fun h => by
          have := (List.mem_filter.1 h).2
          rw [this] at pa; cases pa
        rw [hfr] at haf hb
        rw [hall a haC b hbC (fun e => haf (by rw [e]; exact hb))]
        unfold wantN
        rw [inB_false.2 haf, inB_true.2 hb]
        rfl
      · rw [if_neg c6]
  · rw [if_neg hs]
end

/-- How many ways go between two corners. -/
def joinN (ws : List (List Int)) (a b : Int) : Nat := ws.countP fun x => (decide ((endP x).1 = a) && decide ((endP x).2 = b)) || (decide ((endP x).1 = b) && decide ((endP x).2 = a))
theorem joinN_m {N : Nat} {l : List Ed} (hR : RightG (N : Int) l) (h1 : NoOne l) {a b : Int} (ha : a ∈ corV l N) (hb : b ∈ corV l N) (hne : a ≠ b) : joinN (waysTo l N N) a b = mE l N a b := by
  have go : ∀ a b : Int, a < b → a ∈ corV l N → ∀ p : List Int → Bool, (∀ x, p x = true ↔ endP x = (a, b) ∨ endP x = (b, a)) → (waysTo l N N).countP p = mE l N a b := fun a b hab ha p hp => by
    have h2 := cnt_m (N := N) (l := l) hab ha
    unfold cntE at h2
    have : (waysTo l N N).countP p = (waysTo l N N).countP fun x => decide (endP x = (a, b)) := by
      refine List.countP_congr fun x hx => ?_
      rw [hp x]
      constructor
      · rintro (h | h)
        · exact decide_eq_true h
        · exfalso
          obtain ⟨d, hd, rfl, ht⟩ := mem_ways.1 hx
          rw [endP_way] at h
          obtain ⟨rfl, rfl⟩ := Prod.mk.inj h
          have := told_le ht
          omega
      · intro h; exact .inl (of_decide_eq_true h)
    rw [this]
    omega
  unfold joinN
  rcases Int.lt_or_gt_of_ne hne with h | h
  · refine go a b h ha _ fun x => ?_
    simp [Prod.ext_iff]
  · rw [m_sym hR h1 ha hb]
    refine go b a h hb _ fun x => ?_
    simp [Prod.ext_iff]
    exact Or.comm
/-- Both answer the same. -/
theorem cls_same {N : Nat} {l : List Ed} (hR : RightG (N : Int) l) (h1 : NoOne l) : rcls (corV l N) (joinN (waysTo l N N)) (fun v => (nb l v).length) (waysTo l N N).length = if fiveB (waysTo l N N) = true then 5 else if threeB (waysTo l N N) = true then 33 else 0 := by
  have hK := kd_of hR h1
  have hj : ∀ a ∈ corV l N, ∀ b ∈ corV l N, a ≠ b → joinN (waysTo l N N) a b = mE l N a b := fun a ha b hb hab => joinN_m hR h1 ha hb hab
  by_cases h5 : fiveB (waysTo l N N) = true
  · rw [if_pos h5]; exact hK.five hj ((five_iff hR h1).1 h5)
  · rw [if_neg h5]
    by_cases h3 : threeB (waysTo l N N) = true
    · rw [if_pos h3]; exact hK.three hj ((three_iff hR h1).1 h3)
    · rw [if_neg h3]; exact hK.none hj (fun h => h5 ((five_iff hR h1).2 h)) (fun h => h3 ((three_iff hR h1).2 h))
end Go.Proofs.Ytgjaikekpgdehaa

namespace Go.Proofs.Ytgjaikekpgdehaa
open Go Go.Proofs

/-- Where a walk comes to an end. -/
theorem end_at {N : Nat} {l : List Ed} (hR : RightG (N : Int) l) {v u : Int} (hu : u ∈ nb l v) (hv : (nb l v).length ≠ 2) {k : Nat} (hL : Live l v u k) (he : (nb l (xs l v u (k + 1))).length ≠ 2) : endV l N v u = xs l v u (k + 1) ∧ (wayL l N v u).length = k + 2 := by
  obtain ⟨k', hk', hL', he', hway, -⟩ := way_facts hR hu hv
  have e : k' = k := by
    rcases Nat.lt_trichotomy k' k with h | h | h
    · exact absurd (hL k' h) he'
    · exact h
    · exact absurd (hL' k h) he
  subst e
  have hl : (wayL l N v u).length = k' + 2 := by rw [hway]; simp
  refine ⟨?_, hl⟩
  show (wayL l N v u).getD ((wayL l N v u).length - 1) 0 = _
  rw [hl, hway]
  simp
/-- A dart tells the walk that it is on. -/
theorem dart_back {N : Nat} {l : List Ed} (hR : RightG (N : Int) l) {v u v' u' : Int} (hu : u ∈ nb l v) (hv : (nb l v).length ≠ 2) (hu' : u' ∈ nb l v') (hv' : (nb l v').length ≠ 2) : ∀ {i j : Nat}, Live l v u i → Live l v' u' j → xs l v u i = xs l v' u' j → xs l v u (i + 1) = xs l v' u' (j + 1) → i = j ∧ v = v' ∧ u = u'
  | 0, 0, _, _, h1, h2 => ⟨rfl, h1, h2⟩
  | 0, j + 1, _, hj, h1, _ => by
    have := hj j (by omega)
    rw [← h1] at this
    exact absurd this hv
  | i + 1, 0, hi, _, h1, _ => by
    have := hi i (by omega)
    rw [h1] at this
    exact absurd this hv'
  | i + 1, j + 1, hi, hj, h1, h2 => by
    have hi2 : Live l v u i := fun a ha => hi a (by omega)
    have hj2 : Live l v' u' j := fun a ha => hj a (by omega)
    have a1 := xs_next hu hi i (by omega)
    have b1 := xs_next hu' hj j (by omega)
    have a2 := (nb_mutual hR a1).1
    have b2 := (nb_mutual hR b1).1
    have a3 := xs_turn hR hu hi (i := i) (by omega)
    have hd := hi i (by omega)
    have key : xs l v u i = xs l v' u' j := by
      rw [← h1] at b2
      have b3 := xs_turn hR hu' hj (i := j) (by omega)
      have e2 : xs l v' u' (j + 2) = xs l v u (i + 2) := h2.symm
      rw [e2] at b3
      rcases xs_only hR hu hi (by omega : i < i + 1) b2 with h | h
      · exact h.symm
      · exact absurd h.symm b3
    obtain ⟨e1, e2, e3⟩ := dart_back hR hu hv hu' hv' hi2 hj2 key h1
    exact ⟨by omega, e2, e3⟩

/-- The darts of a walk. -/
def dartsW (l : List Ed) (N : Nat) (d : Int × Int) : List (Int × Int) := (List.range ((wayL l N d.1 d.2).length - 1)).map fun i => (xs l d.1 d.2 i, xs l d.1 d.2 (i + 1))
def allW (l : List Ed) (N : Nat) : List (Int × Int) := (crD l N).flatMap (dartsW l N)
def allD (l : List Ed) (N : Nat) : List (Int × Int) := (List.range N).flatMap fun (v : Nat) => (nb l (v : Int)).map fun u => ((v : Int), u)
def Cov (l : List Ed) (N : Nat) (x y : Int) : Prop := ∃ d ∈ crD l N, ∃ i, Live l d.1 d.2 i ∧ xs l d.1 d.2 i = x ∧ xs l d.1 d.2 (i + 1) = y
theorem allD_len (l : List Ed) : ∀ N, (allD l N).length = degS l N
  | 0 => rfl
  | N + 1 => by
    have := allD_len l N
    unfold allD at *
    rw [List.range_succ, List.flatMap_append, List.length_append, this, degS]
    simp
theorem mem_allD {N : Nat} {l : List Ed} (hR : RightG (N : Int) l) {d : Int × Int} : d ∈ allD l N ↔ d.2 ∈ nb l d.1 := by
  unfold allD
  rw [List.mem_flatMap]
  constructor
  · rintro ⟨v, _, h⟩
    obtain ⟨u, hu, rfl⟩ := List.mem_map.1 h
    exact hu
  · intro h
    have hb := nb_mutual hR (nb_mutual hR h).1
    refine ⟨d.1.toNat, List.mem_range.2 (by omega), List.mem_map.2 ⟨d.2, ?_, ?_⟩⟩
    · rw [show ((d.1.toNat : Nat) : Int) = d.1 by omega]; exact h
    · rw [show ((d.1.toNat : Nat) : Int) = d.1 by omega]
theorem allD_nodup {N : Nat} {l : List Ed} (hR : RightG (N : Int) l) : (allD l N).Nodup := by
  unfold allD
  refine List.pairwise_flatMap.2 ⟨fun v _ => ?_, ?_⟩
  · refine List.pairwise_map.2 ((nb_nodup hR (v : Int)).imp fun {a b} hab e => hab ?_)
    simpa using e
  · refine (List.pairwise_lt_range (n := N)).imp fun {a b} hab x hx y hy e => ?_
    obtain ⟨u, _, rfl⟩ := List.mem_map.1 hx
    obtain ⟨u', _, rfl⟩ := List.mem_map.1 hy
    have := (Prod.mk.inj e).1
    omega
theorem crD_way {N : Nat} {l : List Ed} (hR : RightG (N : Int) l) {d : Int × Int} (hd : d ∈ crD l N) : d.2 ∈ nb l d.1 ∧ (nb l d.1).length ≠ 2 ∧ ∃ k, (wayL l N d.1 d.2).length = k + 2 ∧ Live l d.1 d.2 k ∧ (nb l (xs l d.1 d.2 (k + 1))).length ≠ 2 := by
  obtain ⟨h1, h2⟩ := crD_cor hd
  obtain ⟨_, _, h3⟩ := mem_corV.1 h1
  obtain ⟨k, hk, hL, he, hway, -⟩ := way_facts hR h2 (by omega)
  exact ⟨h2, by omega, k, by rw [hway]; simp, hL, he⟩
theorem mem_allW {N : Nat} {l : List Ed} (hR : RightG (N : Int) l) {x y : Int} : (x, y) ∈ allW l N ↔ Cov l N x y := by
  unfold allW Cov
  rw [List.mem_flatMap]
  constructor
  · rintro ⟨d, hd, h⟩
    obtain ⟨h2, h3, k, hl, hL, he⟩ := crD_way hR hd
    obtain ⟨i, hi, e⟩ := List.mem_map.1 h
    have hi := List.mem_range.1 hi
    rw [hl] at hi
    obtain ⟨e1, e2⟩ := Prod.mk.inj e
    exact ⟨d, hd, i, fun a ha => hL a (by omega), e1, e2⟩
  · rintro ⟨d, hd, i, hL, e1, e2⟩
    obtain ⟨h2, h3, k, hl, hLk, he⟩ := crD_way hR hd
    refine ⟨d, hd, List.mem_map.2 ⟨i, List.mem_range.2 ?_, by rw [e1, e2]⟩⟩
    rw [hl]
    rcases Nat.lt_or_ge i (k + 1) with h | h
    · exact h
    · exact absurd (hL k (by omega)) he
theorem allW_nodup {N : Nat} {l : List Ed} (hR : RightG (N : Int) l) : (allW l N).Nodup := by
  unfold allW
  refine List.pairwise_flatMap.2 ⟨fun d hd => ?_, ?_⟩
  · obtain ⟨h2, h3, k, hl, hL, he⟩ := crD_way hR hd
    unfold dartsW
    refine List.pairwise_map.2 (List.Pairwise.imp_of_mem (fun {a b} ha hb hab e => ?_) (List.pairwise_lt_range))
    have ha := List.mem_range.1 ha
    have hb := List.mem_range.1 hb
    rw [hl] at ha hb
    obtain ⟨e1, e2⟩ := Prod.mk.inj e
    have := (dart_back hR h2 h3 h2 h3 (i := a) (j := b) (fun c hc => hL c (by omega)) (fun c hc => hL c (by omega)) e1 e2).1
    omega
  · refine List.Pairwise.imp_of_mem (fun {d d'} hd hd' hne x hx y hy e => hne ?_) (crD_nodup hR N)
    obtain ⟨h2, h3, k, hl, hL, he⟩ := crD_way hR hd
    obtain ⟨h2', h3', k', hl', hL', he'⟩ := crD_way hR hd'
    obtain ⟨a, ha, rfl⟩ := List.mem_map.1 hx
    obtain ⟨b, hb, rfl⟩ := List.mem_map.1 hy
    have ha := List.mem_range.1 ha
    have hb := List.mem_range.1 hb
    rw [hl] at ha
    rw [hl'] at hb
    obtain ⟨e1, e2⟩ := Prod.mk.inj e
    obtain ⟨_, f1, f2⟩ := dart_back hR h2 h3 h2' h3' (i := a) (j := b) (fun c hc => hL c (by omega)) (fun c hc => hL' c (by omega)) e1 e2
    exact Prod.ext f1 f2
theorem sum_split (D : List (Int × Int)) (t : Int × Int → Bool) (f : Int × Int → Nat) : (D.map f).sum = ((D.filter t).map f).sum + ((D.filter fun d => !t d).map f).sum := by
  induction D with
  | nil => rfl
  | cons d D ih =>
    cases h : t d with
    | true => simp [h, ih]; omega
    | false => simp [h, ih]; omega
/-- Half of a sum lies on what is told. -/
theorem half_sum {D : List (Int × Int)} (hn : D.Nodup) (r : Int × Int → Int × Int) (t : Int × Int → Bool) (f : Int × Int → Nat) (h1 : ∀ d ∈ D, r d ∈ D) (h2 : ∀ d ∈ D, r (r d) = d) (h3 : ∀ d ∈ D, t (r d) = !t d) (h4 : ∀ d ∈ D, f (r d) = f d) : (D.map f).sum = 2 * ((D.filter t).map f).sum := by
  have hp : ((D.filter t).map r).Perm (D.filter fun d => !t d) := by
    refine (List.perm_ext_iff_of_nodup ?_ (hn.sublist List.filter_sublist)).2 fun x => ?_
    · refine List.pairwise_map.2 (List.Pairwise.imp_of_mem (fun {a b} ha hb hab e => hab ?_) (hn.sublist List.filter_sublist))
      rw [← h2 a (List.mem_filter.1 ha).1, ← h2 b (List.mem_filter.1 hb).1, e]
    · constructor
      · intro hx
        obtain ⟨d, hd, rfl⟩ := List.mem_map.1 hx
        obtain ⟨hd, ht⟩ := List.mem_filter.1 hd
        exact List.mem_filter.2 ⟨h1 d hd, by rw [h3 d hd, ht]; rfl⟩
      · intro hx
        obtain ⟨hx, ht⟩ := List.mem_filter.1 hx
        exact List.mem_map.2 ⟨r x, List.mem_filter.2 ⟨h1 x hx, by rw [h3 x hx]; exact ht⟩, h2 x hx⟩
  have e : ((D.filter fun d => !t d).map f).sum = ((D.filter t).map f).sum := by
    rw [← (hp.map f).sum_nat, List.map_map]
    congr 1
    refine List.map_congr_left fun d hd => ?_
    exact h4 d (List.mem_filter.1 hd).1
  rw [sum_split D t f, e]
  omega
theorem onL_nat {ws : List (List Int)} (h : ∀ x ∈ ws, 2 ≤ x.length) : onL ws = (((ws.map fun x => x.length - 1).sum : Nat) : Int) := by
  induction ws with
  | nil => rfl
  | cons x ws ih =>
    have h1 := h x List.mem_cons_self
    have h2 := ih fun y hy => h y (List.mem_cons_of_mem _ hy)
    unfold onL at *
    rw [List.map_cons, List.sum_cons, h2, List.map_cons, List.sum_cons]
    omega
theorem allW_len {N : Nat} {l : List Ed} (hR : RightG (N : Int) l) (h1 : NoOne l) : ((allW l N).length : Int) = 2 * onL (waysTo l N N) := by
  have e1 : (allW l N).length = ((crD l N).map fun d => (wayL l N d.1 d.2).length - 1).sum := by
    unfold allW
    rw [List.length_flatMap]
    congr 1
    refine List.map_congr_left fun d _ => ?_
    unfold dartsW
    simp
  have hf : ∀ d ∈ crD l N, d.2 ∈ nb l d.1 ∧ (nb l d.1).length ≠ 2 := fun d hd => by
    obtain ⟨v, hv, e1, e2, e3⟩ := mem_crD.1 hd
    rw [← e1] at e2 e3
    exact ⟨e3, by omega⟩
  have e2 := half_sum (crD_nodup hR N) (rho l N) (fun d => toldB (wayL l N d.1 d.2)) (fun d => (wayL l N d.1 d.2).length - 1) (fun d hd => rho_in hR h1 hd) (fun d hd => (rho_facts hR (hf d hd).1 (hf d hd).2).2.2.2.1) (fun d hd => (rho_facts hR (hf d hd).1 (hf d hd).2).2.2.2.2) (fun d hd => by
    rw [(rho_facts hR (hf d hd).1 (hf d hd).2).2.2.1, List.length_reverse])
  have e3 := onL_nat (ws := waysTo l N N) (fun x hx => by
    obtain ⟨v, u, g1, g2, g3, rfl, _⟩ := waysTo_each hx
    exact (wayL_len hR g2 (by omega)).1)
  rw [e1, e2, e3, waysTo_eq]
  have e4 : (((crD l N).map fun d => wayL l N d.1 d.2).filter toldB).map (fun x => x.length - 1) = ((crD l N).filter fun d => toldB (wayL l N d.1 d.2)).map fun d => (wayL l N d.1 d.2).length - 1 := by
    rw [List.filter_map, List.map_map]
    rfl
  rw [e4]
  omega
/-- Every edge is on a way. -/
theorem on_iff {N : Nat} {l : List Ed} (hR : RightG (N : Int) l) (h1 : NoOne l) : onL (waysTo l N N) = (l.length : Int) ↔ ∀ x y, y ∈ nb l x → Cov l N x y := by
  have hA : (allD l N).length = 2 * l.length := by
    rw [allD_len]
    exact degS_all fun e he => (hR.each e he).1
  have hW := allW_len hR h1
  have hsub : ∀ d ∈ allW l N, d ∈ allD l N := fun d hd => by
    obtain ⟨x, y⟩ := d
    obtain ⟨d, hd, i, hL, e1, e2⟩ := (mem_allW hR).1 hd
    obtain ⟨h2, h3, _⟩ := crD_way hR hd
    rw [mem_allD hR, ← e1, ← e2]
    exact xs_next h2 hL i (Nat.le_refl _)
  constructor
  · intro h x y hy
    rw [← mem_allW hR]
    apply Classical.byContradiction
    intro hn
    have := nodup_lenP (A := (x, y) :: allW l N) (B := allD l N) (List.nodup_cons.2 ⟨hn, allW_nodup hR⟩) (fun d hd => by
      rcases List.mem_cons.1 hd with rfl | hd
      · exact (mem_allD hR).2 hy
      · exact hsub d hd)
    rw [List.length_cons] at this
    omega
  · intro h
    have g1 := nodup_lenP (A := allW l N) (B := allD l N) (allW_nodup hR) hsub
    have g2 := nodup_lenP (A := allD l N) (B := allW l N) (allD_nodup hR) (fun d hd => by
      obtain ⟨x, y⟩ := d
      exact (mem_allW hR).2 (h x y ((mem_allD hR).1 hd)))
    omega
end Go.Proofs.Ytgjaikekpgdehaa

namespace Go.Proofs.Ytgjaikekpgdehaa
open Go Go.Proofs

/-- H is S with one edge parted by the vertex N. -/
structure Prt (N : Nat) (S H : List Ed) (U V : Int) : Prop where
  right : RightG (N : Int) S
  more : RightG ((N + 1 : Nat) : Int) H
  edge : V ∈ nb S U
  mem : ∀ x y, y ∈ nb H x ↔ (y ∈ nb S x ∧ ¬ ((x = U ∧ y = V) ∨ (x = V ∧ y = U))) ∨ ((x = U ∨ x = V) ∧ y = (N : Int)) ∨ (x = (N : Int) ∧ (y = U ∨ y = V))
def phi (N : Nat) (U V x y : Int) : Int := if (x = U ∧ y = V) ∨ (x = V ∧ y = U) then (N : Int) else y
section
variable {N : Nat} {S H : List Ed} {U V : Int}
theorem Prt.lt (h : Prt N S H U V) {x y : Int} (hy : y ∈ nb S x) : x ≠ (N : Int) ∧ y ≠ (N : Int) := by
  have h1 := nb_mutual h.right hy
  have h2 := nb_mutual h.right h1.1
  exact ⟨by omega, by omega⟩
theorem Prt.ends (h : Prt N S H U V) : U ≠ (N : Int) ∧ V ≠ (N : Int) ∧ U ≠ V ∧ U ∈ nb S V := by
  have h1 := nb_mutual h.right h.edge
  have h2 := h.lt h.edge
  exact ⟨h2.1, h2.2, fun e => h1.2.2.2 e.symm, h1.1⟩
theorem Prt.phi_in (h : Prt N S H U V) {x y : Int} (hy : y ∈ nb S x) : phi N U V x y ∈ nb H x := by
  rw [h.mem]
  unfold phi
  by_cases c : (x = U ∧ y = V) ∨ (x = V ∧ y = U)
  · rw [if_pos c]
    exact .inr (.inl ⟨by rcases c with c | c <;> simp [c.1], rfl⟩)
  · rw [if_neg c]
    exact .inl ⟨hy, c⟩
theorem Prt.phi_inj (h : Prt N S H U V) {x y z : Int} (hy : y ∈ nb S x) (hz : z ∈ nb S x) (e : phi N U V x y = phi N U V x z) : y = z := by
  have h1 := h.lt hy
  have h2 := h.lt hz
  have h3 := h.ends
  unfold phi at e
  by_cases c : (x = U ∧ y = V) ∨ (x = V ∧ y = U) <;> by_cases d : (x = U ∧ z = V) ∨ (x = V ∧ z = U)
  · rcases c with c | c <;> rcases d with d | d
    · rw [c.2, d.2]
    · exact absurd (c.1.symm.trans d.1) h3.2.2.1
    · exact absurd (d.1.symm.trans c.1) h3.2.2.1
    · rw [c.2, d.2]
  · rw [if_pos c, if_neg d] at e; exact absurd e.symm h2.2
  · rw [if_neg c, if_pos d] at e; exact absurd e h1.2
  · rw [if_neg c, if_neg d] at e; exact e
theorem Prt.perm (h : Prt N S H U V) {x : Int} (hx : x ≠ (N : Int)) : ((nb S x).map (phi N U V x)).Perm (nb H x) := by
  have h3 := h.ends
  refine (List.perm_ext_iff_of_nodup ?_ (nb_nodup h.more x)).2 fun y => ?_
  · refine List.pairwise_map.2 (List.Pairwise.imp_of_mem (fun {a b} ha hb hab e => hab (h.phi_inj ha hb e)) (nb_nodup h.right x))
  · constructor
    · intro hy
      obtain ⟨z, hz, rfl⟩ := List.mem_map.1 hy
      exact h.phi_in hz
    · intro hy
      rcases (h.mem x y).1 hy with ⟨h1, h2⟩ | ⟨h1, rfl⟩ | ⟨h1, _⟩
      · exact List.mem_map.2 ⟨y, h1, by unfold phi; rw [if_neg h2]⟩
      · rcases h1 with rfl | rfl
        · exact List.mem_map.2 ⟨V, h.edge, by unfold phi; rw [if_pos (.inl ⟨rfl, rfl⟩)]⟩
        · exact List.mem_map.2 ⟨U, h3.2.2.2, by unfold phi; rw [if_pos (.inr ⟨rfl, rfl⟩)]⟩
      · exact absurd h1 hx
theorem Prt.deg (h : Prt N S H U V) {x : Int} (hx : x ≠ (N : Int)) : (nb H x).length = (nb S x).length := by
  rw [← (h.perm hx).length_eq, List.length_map]
theorem Prt.degN (h : Prt N S H U V) : (nb H (N : Int)).length = 2 := by
  have h3 := h.ends
  have : ([U, V]).Perm (nb H (N : Int)) := by
    refine (List.perm_ext_iff_of_nodup ?_ (nb_nodup h.more _)).2 fun y => ?_
    · simp [h3.2.2.1]
    · rw [h.mem]
      constructor
      · intro hy
        simp only [List.mem_cons, List.not_mem_nil, or_false] at hy
        exact .inr (.inr ⟨rfl, hy⟩)
      · rintro (⟨h1, _⟩ | ⟨h1, _⟩ | ⟨_, h1⟩)
        · exact absurd rfl (h.lt h1).1
        · rcases h1 with e | e
          · exact absurd e.symm h3.1
          · exact absurd e.symm h3.2.1
        · simpa using h1
  rw [← this.length_eq]
  rfl
theorem Prt.noone (h : Prt N S H U V) (h1 : NoOne S) : NoOne H := fun x => by
  by_cases e : x = (N : Int)
  · rw [e, h.degN]; omega
  · rw [h.deg e]; exact h1 x
theorem Prt.cor (h : Prt N S H U V) : corV H (N + 1) = corV S N := by
  refine rise_same (corV_rise _ _) (corV_rise _ _) fun x => ?_
  rw [mem_corV, mem_corV]
  constructor
  · rintro ⟨a, b, c⟩
    have hx : x ≠ (N : Int) := fun e => by rw [e, h.degN] at c; omega
    rw [h.deg hx] at c
    exact ⟨a, by omega, c⟩
  · rintro ⟨a, b, c⟩
    have hx : x ≠ (N : Int) := by omega
    rw [h.deg hx]
    exact ⟨a, by omega, c⟩
theorem Prt.len (h : Prt N S H U V) (h1 : NoOne S) : (waysTo H (N + 1) (N + 1)).length = (waysTo S N N).length := by
  have e1 := ways_half h.right h1
  have e2 := ways_half h.more (h.noone h1)
  have e3 := cor_sum S N
  have e4 := cor_sum H (N + 1)
  rw [h.cor] at e4
  have e5 : ((corV S N).map fun v => (nb H v).length) = (corV S N).map fun v => (nb S v).length := by
    refine List.map_congr_left fun v hv => ?_
    obtain ⟨_, b, _⟩ := mem_corV.1 hv
    exact h.deg (by omega)
  rw [e5] at e4
  omega
theorem Prt.othr (h : Prt N S H U V) {c p r : Int} (hd : (nb S c).length = 2) (hp : p ∈ nb S c) (hr : r ∈ nb S c) (hne : r ≠ p) : othr (nb H c) (phi N U V c p) = phi N U V c r := by
  have hc := (h.lt hp).1
  have hd2 : (nb H c).length = 2 := by rw [h.deg hc]; exact hd
  rcases othr_only hd2 (h.phi_in hp) (h.phi_in hr) with e | e
  · exact absurd (h.phi_inj hr hp e) hne
  · exact e.symm
theorem Prt.through (h : Prt N S H U V) {p c : Int} (he : (p = U ∧ c = V) ∨ (p = V ∧ c = U)) : Go.Proofs.Ytgjaikekpgdehaa.othr (nb H (N : Int)) p = c := by
  have h3 := h.ends
  have i1 : p ∈ nb H (N : Int) := (h.mem _ _).2 (.inr (.inr ⟨rfl, by rcases he with e | e <;> simp [e.1]⟩))
  have i2 : c ∈ nb H (N : Int) := (h.mem _ _).2 (.inr (.inr ⟨rfl, by rcases he with e | e <;> simp [e.2]⟩))
  rcases othr_only h.degN i1 i2 with e | e
  · rcases he with e' | e'
    · exact absurd (e'.1.symm.trans (e.symm.trans e'.2)) h3.2.2.1
    · exact absurd (e'.2.symm.trans (e.trans e'.1)) h3.2.2.1
  · exact e.symm
theorem phi_sym {N : Nat} {U V p c : Int} (h : ¬ ((p = U ∧ c = V) ∨ (p = V ∧ c = U))) : phi N U V p c = c ∧ phi N U V c p = p := by
  unfold phi
  refine ⟨if_neg h, if_neg fun g => h ?_⟩
  rcases g with g | g
  · exact .inr ⟨g.2, g.1⟩
  · exact .inl ⟨g.2, g.1⟩
theorem phi_edge {N : Nat} {U V p c : Int} (h : (p = U ∧ c = V) ∨ (p = V ∧ c = U)) : phi N U V p c = (N : Int) ∧ phi N U V c p = (N : Int) := by
  unfold phi
  refine ⟨if_pos h, if_pos ?_⟩
  rcases h with g | g
  · exact .inr ⟨g.2, g.1⟩
  · exact .inl ⟨g.2, g.1⟩
/-- A walk in the longer one passes what the other passes. -/
theorem Prt.walk (h : Prt N S H U V) {v u : Int} (hu : u ∈ nb S v) : ∀ i, Live S v u i → ∃ j, Live H v (phi N U V v u) j ∧ xs H v (phi N U V v u) j = xs S v u i ∧ xs H v (phi N U V v u) (j + 1) = phi N U V (xs S v u i) (xs S v u (i + 1))
  | 0, _ => ⟨0, fun _ h => absurd h (Nat.not_lt_zero _), rfl, rfl⟩
  | i + 1, hL => by
    obtain ⟨j, h1, h2, h3⟩ := h.walk hu i fun a ha => hL a (by omega)
    have hn := xs_next hu hL i (by omega)
    have hm := (nb_mutual h.right hn).1
    have hd := hL i (by omega)
    have hr := xs_next hu hL (i + 1) (by omega)
    have ht := xs_turn h.right hu hL (i := i) (by omega)
    have hlt := h.lt hn
    have step : ∀ j, xs H v (phi N U V v u) (j + 2) = Go.Proofs.Ytgjaikekpgdehaa.othr (nb H (xs H v (phi N U V v u) (j + 1))) (xs H v (phi N U V v u) j) := fun j => rfl
    generalize hp : xs S v u i = p at *
    generalize hc : xs S v u (i + 1) = c at *
    have e2 : xs S v u (i + 1 + 1) = xs S v u (i + 2) := rfl
    rw [e2] at hr ⊢
    generalize hq : xs S v u (i + 2) = r at *
    by_cases he : (p = U ∧ c = V) ∨ (p = V ∧ c = U)
    · have e := phi_edge (N := N) he
      rw [e.1] at h3
      have s1 := step j
      rw [h3, h2, h.through he] at s1
      have s2 := step (j + 1)
      rw [s1, h3] at s2
      have e3 := h.othr hd hm hr ht
      rw [e.2] at e3
      rw [e3] at s2
      refine ⟨j + 2, fun a ha => ?_, s1, s2⟩
      by_cases a1 : a < j
      · exact h1 a a1
      · by_cases a2 : a = j
        · subst a2; rw [h3]; exact h.degN
        · obtain rfl : a = j + 1 := by omega
          rw [s1, h.deg hlt.2]; exact hd
    · have e := phi_sym (N := N) he
      rw [e.1] at h3
      have s1 := step j
      rw [h3, h2] at s1
      have e3 := h.othr hd hm hr ht
      rw [e.2] at e3
      rw [e3] at s1
      refine ⟨j + 1, fun a ha => ?_, h3, s1⟩
      by_cases a1 : a < j
      · exact h1 a a1
      · obtain rfl : a = j := by omega
        rw [h3, h.deg hlt.2]; exact hd
theorem Prt.endV (h : Prt N S H U V) {v u : Int} (hu : u ∈ nb S v) (hv : (nb S v).length ≠ 2) : Go.Proofs.Ytgjaikekpgdehaa.endV H (N + 1) v (phi N U V v u) = Go.Proofs.Ytgjaikekpgdehaa.endV S N v u := by
  obtain ⟨k, hk, hL, hend, -, -⟩ := way_facts h.right hu hv
  have e1 := (end_at h.right hu hv hL hend).1
  obtain ⟨j, g1, g2, g3⟩ := h.walk hu k hL
  have hvH : (nb H v).length ≠ 2 := by rw [h.deg (h.lt hu).1]; exact hv
  have hn := xs_next hu hL k (Nat.le_refl _)
  have hlt := h.lt hn
  rw [e1]
  by_cases he : (xs S v u k = U ∧ xs S v u (k + 1) = V) ∨ (xs S v u k = V ∧ xs S v u (k + 1) = U)
  · rw [(phi_edge (N := N) he).1] at g3
    have s1 : xs H v (phi N U V v u) (j + 2) = Go.Proofs.Ytgjaikekpgdehaa.othr (nb H (xs H v (phi N U V v u) (j + 1))) (xs H v (phi N U V v u) j) := rfl
    rw [g3, g2, h.through he] at s1
    have hL2 : Live H v (phi N U V v u) (j + 1) := fun a ha => by
      by_cases a1 : a < j
      · exact g1 a a1
      · obtain rfl : a = j := by omega
        rw [g3]; exact h.degN
    have := (end_at h.more (h.phi_in hu) hvH hL2 (by rw [s1, h.deg hlt.2]; exact hend)).1
    rw [this, s1]
  · rw [(phi_sym (N := N) he).1] at g3
    have := (end_at h.more (h.phi_in hu) hvH g1 (by rw [g3, h.deg hlt.2]; exact hend)).1
    rw [this, g3]
theorem Prt.m (h : Prt N S H U V) {p q : Int} (hp : p ∈ corV S N) : mE H (N + 1) p q = mE S N p q := by
  obtain ⟨a, b, c⟩ := mem_corV.1 hp
  unfold mE
  rw [← ((h.perm (x := p) (by omega)).filter _).length_eq, List.filter_map, List.length_map]
  congr 1
  refine List.filter_congr fun u hu => ?_
  show decide (Go.Proofs.Ytgjaikekpgdehaa.endV H (N + 1) p (phi N U V p u) = q) = _
  rw [h.endV hu (by omega)]
theorem Prt.cov (h : Prt N S H U V) (hc : ∀ x y, y ∈ nb S x → Cov S N x y) : ∀ x y, y ∈ nb H x → Cov H (N + 1) x y := by
  have key : ∀ x y, y ∈ nb S x → ∃ d ∈ crD H (N + 1), ∃ j, Live H d.1 d.2 j ∧ xs H d.1 d.2 j = x ∧ xs H d.1 d.2 (j + 1) = phi N U V x y := fun x y hy => by
    obtain ⟨d, hd, i, hL, e1, e2⟩ := hc x y hy
    obtain ⟨h2, h3⟩ := crD_cor hd
    obtain ⟨j, g1, g2, g3⟩ := h.walk h3 i hL
    rw [e1] at g2
    rw [e1, e2] at g3
    exact ⟨(d.1, phi N U V d.1 d.2), crD_of (by rw [h.cor]; exact h2) (h.phi_in h3), j, g1, g2, g3⟩
  have hE := h.ends
  intro x y hy
  rcases (h.mem x y).1 hy with ⟨h1, h2⟩ | ⟨h1, rfl⟩ | ⟨rfl, h1⟩
  · obtain ⟨d, hd, j, g1, g2, g3⟩ := key x y h1
    rw [(phi_sym (N := N) h2).1] at g3
    exact ⟨d, hd, j, g1, g2, g3⟩
  · rcases h1 with rfl | rfl
    · obtain ⟨d, hd, j, g1, g2, g3⟩ := key _ _ h.edge
      rw [(phi_edge (N := N) (.inl ⟨rfl, rfl⟩)).1] at g3
      exact ⟨d, hd, j, g1, g2, g3⟩
    · obtain ⟨d, hd, j, g1, g2, g3⟩ := key _ _ hE.2.2.2
      rw [(phi_edge (N := N) (.inr ⟨rfl, rfl⟩)).1] at g3
      exact ⟨d, hd, j, g1, g2, g3⟩
  · have fin : ∀ p c, (p = U ∧ c = V) ∨ (p = V ∧ c = U) → c ∈ nb S p → Cov H (N + 1) (N : Int) c := fun p c he hcp => by
      obtain ⟨d, hd, j, g1, g2, g3⟩ := key p c hcp
      rw [(phi_edge (N := N) he).1] at g3
      have s1 : xs H d.1 d.2 (j + 2) = Go.Proofs.Ytgjaikekpgdehaa.othr (nb H (xs H d.1 d.2 (j + 1))) (xs H d.1 d.2 j) := rfl
      rw [g3, g2, h.through he] at s1
      refine ⟨d, hd, j + 1, fun a ha => ?_, g3, s1⟩
      by_cases a1 : a < j
      · exact g1 a a1
      · obtain rfl : a = j := by omega
        rw [g3]; exact h.degN
    rcases h1 with rfl | rfl
    · exact fin V _ (.inr ⟨rfl, rfl⟩) hE.2.2.2
    · exact fin U _ (.inl ⟨rfl, rfl⟩) h.edge
theorem five_congr {C : List Int} {m m' : Int → Int → Nat} {W : Nat} (h : ∀ a ∈ C, ∀ b ∈ C, m' a b = m a b) : Five C m' W ↔ Five C m W := by
  unfold Five
  constructor
  · rintro ⟨a, b, c⟩; exact ⟨a, b, fun x hx y hy hxy => by rw [← h x hx y hy]; exact c x hx y hy hxy⟩
  · rintro ⟨a, b, c⟩; exact ⟨a, b, fun x hx y hy hxy => by rw [h x hx y hy]; exact c x hx y hy hxy⟩
theorem three_congr {C : List Int} {m m' : Int → Int → Nat} {W : Nat} (h : ∀ a ∈ C, ∀ b ∈ C, m' a b = m a b) : Three C m' W ↔ Three C m W := by
  have e : ∀ c ∈ C, m' (C.getD 0 0) c = m (C.getD 0 0) c := fun c hc => h _ (getD_mem (List.length_pos_of_mem hc)) c hc
  have e1 : nrM C m' = nrM C m := List.filter_congr fun c hc => by rw [e c hc]
  have e2 : frM C m' = frM C m := List.filter_congr fun c hc => by rw [e c hc]
  unfold Three
  rw [e1, e2]
  have i1 : ∀ x ∈ nrM C m, x ∈ C := fun x hx => (List.mem_filter.1 hx).1
  have i2 : ∀ x ∈ frM C m, x ∈ C := fun x hx => (List.mem_filter.1 hx).1
  constructor
  · rintro ⟨a, b, c, d⟩; exact ⟨a, b, c, fun x hx y hy => by rw [← h x (i1 x hx) y (i2 y hy)]; exact d x hx y hy⟩
  · rintro ⟨a, b, c, d⟩; exact ⟨a, b, c, fun x hx y hy => by rw [h x (i1 x hx) y (i2 y hy)]; exact d x hx y hy⟩
theorem Prt.five (h : Prt N S H U V) (h1 : NoOne S) : fiveB (waysTo H (N + 1) (N + 1)) = fiveB (waysTo S N N) := by
  rw [Bool.eq_iff_iff, five_iff h.more (h.noone h1), five_iff h.right h1, h.cor, h.len h1]
  exact five_congr fun a ha b _ => h.m ha
theorem Prt.three (h : Prt N S H U V) (h1 : NoOne S) : threeB (waysTo H (N + 1) (N + 1)) = threeB (waysTo S N N) := by
  rw [Bool.eq_iff_iff, three_iff h.more (h.noone h1), three_iff h.right h1, h.cor, h.len h1]
  exact three_congr fun a ha b _ => h.m ha
theorem Prt.ws (h : Prt N S H U V) (hs : wsK N S = 0) : wsK (N + 1) H = 0 := by
  obtain ⟨h1, h2⟩ := (wsK_iff h.right).1 hs
  exact (wsK_iff h.more).2 ⟨h.noone h1, (on_iff h.more (h.noone h1)).2 (h.cov ((on_iff h.right h1).1 h2))⟩
end
end Go.Proofs.Ytgjaikekpgdehaa
