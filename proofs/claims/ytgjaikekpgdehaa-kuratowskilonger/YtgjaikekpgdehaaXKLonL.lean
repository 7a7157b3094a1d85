/-
  The graph of a witness's edges, one of them parted by a new vertex: made again it is a witness of the same kind. No program in this text.
-/
import Derived.Test.YtgjaikekpgdehaaQE
import Derived.Test.YtgjaikekpgdehaaQD
namespace Go.Proofs.Ytgjaikekpgdehaa
open Go Go.Proofs

theorem mem_keepL {l : List Ed} {p : Nat → Bool} {f : Ed} : ∀ {j : Nat}, j ≤ l.length → (f ∈ keepL l p j ↔ ∃ i, i < j ∧ p i = true ∧ l[i]? = some f)
  | 0, _ => by simp [keepL]
  | j + 1, h => by
    have hj : j < l.length := by omega
    have ih := mem_keepL (l := l) (p := p) (f := f) (j := j) (by omega)
    cases hp : p j with
    | true =>
      rw [keepL_in hj hp, List.mem_append, ih]
      constructor
      · rintro (⟨i, h1, h2⟩ | h1)
        · exact ⟨i, by omega, h2⟩
        · rw [List.mem_singleton.1 h1]; exact ⟨j, by omega, hp, List.getElem?_eq_getElem hj⟩
      · rintro ⟨i, h1, h2, h3⟩
        by_cases e : i = j
        · subst e
          rw [List.getElem?_eq_getElem hj] at h3
          exact .inr (List.mem_singleton.2 (Option.some.inj h3).symm)
        · exact .inl ⟨i, by omega, h2, h3⟩
    | false =>
      rw [keepL_out hp, ih]
      constructor
      · rintro ⟨i, h1, h2⟩; exact ⟨i, by omega, h2⟩
      · rintro ⟨i, h1, h2, h3⟩
        have : i ≠ j := fun e => by subst e; rw [hp] at h2; cases h2
        exact ⟨i, by omega, h2, h3⟩
theorem mem_nbR {n : Int} {l : List Ed} (hR : RightG n l) {x y : Int} : y ∈ nb l x ↔ ∃ f ∈ l, (f.1 = x ∧ f.2.1 = y) ∨ (f.2.1 = x ∧ f.1 = y) := by
  rw [mem_nb]
  constructor
  · rintro ⟨f, hf, h | ⟨_, h1, h2⟩⟩
    · exact ⟨f, hf, .inl h⟩
    · exact ⟨f, hf, .inr ⟨h1, h2⟩⟩
  · rintro ⟨f, hf, h | ⟨h1, h2⟩⟩
    · exact ⟨f, hf, .inl h⟩
    · have := (hR.each f hf).2
      exact ⟨f, hf, .inr ⟨by omega, h1, h2⟩⟩
theorem same_ends {n : Int} {l : List Ed} (hR : RightG n l) {i j : Nat} {f g : Ed} (hi : l[i]? = some f) (hj : l[j]? = some g) (h1 : f.1 = g.1) (h2 : f.2.1 = g.2.1) : i = j := by
  obtain ⟨hi', rfl⟩ := List.getElem?_eq_some_iff.1 hi
  obtain ⟨hj', rfl⟩ := List.getElem?_eq_some_iff.1 hj
  have hp := List.pairwise_iff_getElem.1 hR.rise
  rcases Nat.lt_trichotomy i j with h | h | h
  · have := lo_iff.1 (hp i j hi' hj' h); omega
  · exact h
  · have := lo_iff.1 (hp j i hj' hi' h); omega
/-- The edges but one, and the two that it becomes. -/
def lonP (a : List Int) (x : Int) (j : Nat) : Bool := !decide ((j : Int) = x) && inB a (j : Int)
def lonL (n : Int) (l : List Ed) (a : List Int) (x : Int) (e : Ed) : List Ed := keepL l (lonP a x) l.length ++ [(e.1, n, 0), (e.2.1, n, 0)]
theorem lon_prt {n : Int} {l : List Ed} {a : List Int} {x : Int} {e : Ed} (hR : RightG n l) (hx : x ∈ a) (h0 : 0 ≤ x) (he : l[x.toNat]? = some e) (hm : makeK (n + 1) (lonL n l a x e) = 0) : Prt n.toNat (subL l a) (makeL (n + 1) (lonL n l a x e)) e.1 e.2.1 := by
  have hn : ((n.toNat : Nat) : Int) = n := by have := hR.n0; omega
  have hRS : RightG ((n.toNat : Nat) : Int) (subL l a) := sub_right hR
  have hRH := make_right hm
  have eH : makeL (n + 1) (lonL n l a x e) = srt ((lonL n l a x e).map norm) := by unfold makeL; rw [if_pos hm]
  rw [eH]
  have heL : e ∈ l := List.mem_of_getElem? he
  have hee := hR.each e heL
  have hok := hee.1
  unfold okE at hok
  have hS : ∀ f, f ∈ subL l a ↔ ∃ i, i < l.length ∧ inB a (i : Int) = true ∧ l[i]? = some f := fun f => mem_keepL (Nat.le_refl _)
  have hKp : ∀ f, f ∈ keepL l (lonP a x) l.length ↔ ∃ i, i < l.length ∧ lonP a x i = true ∧ l[i]? = some f := fun f => mem_keepL (Nat.le_refl _)
  have hl1 : ∀ f ∈ l, norm f = f := fun f hf => norm_id (hR.each f hf).2
  have hH : ∀ f, f ∈ srt ((lonL n l a x e).map norm) ↔ f ∈ keepL l (lonP a x) l.length ∨ f = (e.1, n, 0) ∨ f = (e.2.1, n, 0) := fun f => by
    rw [(srt_perm _).mem_iff]
    unfold lonL
    rw [List.map_append, List.mem_append]
    have e1 : (keepL l (lonP a x) l.length).map norm = keepL l (lonP a x) l.length := by
      conv => rhs; rw [← List.map_id (keepL l (lonP a x) l.length)]
      refine List.map_congr_left fun g hg => ?_
      obtain ⟨i, _, _, h⟩ := (hKp g).1 hg
      exact hl1 g (List.mem_of_getElem? h)
    have e2 : norm (e.1, n, 0) = (e.1, n, 0) := norm_id (by simp only; omega)
    have e3 : norm (e.2.1, n, 0) = (e.2.1, n, 0) := norm_id (by simp only; omega)
    rw [e1, List.map_cons, List.map_cons, List.map_nil, e2, e3]
    simp
  refine ⟨hRS, ?_, ?_, fun p q => ?_⟩
  · have : (((n.toNat + 1 : Nat)) : Int) = n + 1 := by omega
    rw [this]; exact hRH
  · refine (mem_nbR hRS).2 ⟨e, (hS e).2 ⟨x.toNat, (List.getElem?_eq_some_iff.1 he).1, ?_, he⟩, .inl ⟨rfl, rfl⟩⟩
    rw [show ((x.toNat : Nat) : Int) = x by omega]
    exact inB_true.2 hx
  · rw [mem_nbR hRH, mem_nbR hRS, hn]
    constructor
    · rintro ⟨f, hf, hc⟩
      rcases (hH f).1 hf with hk | rfl | rfl
      · obtain ⟨i, hi, hp, hl⟩ := (hKp f).1 hk
        unfold lonP at hp
        simp only [Bool.and_eq_true, Bool.not_eq_true', decide_eq_false_iff_not] at hp
        refine .inl ⟨⟨f, (hS f).2 ⟨i, hi, hp.2, hl⟩, hc⟩, fun hne => hp.1 ?_⟩
        have hf2 := (hR.each f (List.mem_of_getElem? hl)).2
        have hee2 := hee.2
        have := same_ends hR hl he (by omega) (by omega)
        omega
      · simp only at hc
        rcases hc with ⟨rfl, rfl⟩ | ⟨rfl, rfl⟩
        · exact .inr (.inl ⟨.inl rfl, rfl⟩)
        · exact .inr (.inr ⟨rfl, .inl rfl⟩)
      · simp only at hc
        rcases hc with ⟨rfl, rfl⟩ | ⟨rfl, rfl⟩
        · exact .inr (.inl ⟨.inr rfl, rfl⟩)
        · exact .inr (.inr ⟨rfl, .inr rfl⟩)
    · rintro (⟨⟨f, hf, hc⟩, hne⟩ | ⟨hp | hp, hq⟩ | ⟨hp, hq | hq⟩)
      · obtain ⟨i, hi, hp, hl⟩ := (hS f).1 hf
        refine ⟨f, (hH f).2 (.inl ((hKp f).2 ⟨i, hi, ?_, hl⟩)), hc⟩
        unfold lonP
        rw [hp, Bool.and_true, Bool.not_eq_true', decide_eq_false_iff_not]
        intro ei
        have : l[x.toNat]? = some f := by rw [← hl]; congr 1; omega
        rw [he] at this
        have := Option.some.inj this
        subst this
        apply hne
        rcases hc with h | h
        · exact .inl ⟨h.1.symm, h.2.symm⟩
        · exact .inr ⟨h.1.symm, h.2.symm⟩
      · exact ⟨(e.1, n, 0), (hH _).2 (.inr (.inl rfl)), .inl ⟨hp.symm, hq.symm⟩⟩
      · exact ⟨(e.2.1, n, 0), (hH _).2 (.inr (.inr rfl)), .inl ⟨hp.symm, hq.symm⟩⟩
      · exact ⟨(e.1, n, 0), (hH _).2 (.inr (.inl rfl)), .inr ⟨hp.symm, hq.symm⟩⟩
      · exact ⟨(e.2.1, n, 0), (hH _).2 (.inr (.inr rfl)), .inr ⟨hp.symm, hq.symm⟩⟩
theorem sub_all (l : List Ed) : subL l (uptoL l.length) = l := by
  have go : ∀ j, j ≤ l.length → keepL l (fun i => inB (uptoL l.length) (i : Int)) j = l.take j := by
    intro j
    induction j with
    | zero => intro _; simp [keepL]
    | succ j ih =>
      intro hj
      have hp : inB (uptoL l.length) (j : Int) = true := inB_true.2 (List.mem_map.2 ⟨j, List.mem_range.2 (by omega), rfl⟩)
      rw [keepL_in (by omega) hp, ih (by omega), take_snoc (by omega)]
  have := go l.length (Nat.le_refl _)
  rw [List.take_length] at this
  exact this
/-- A witness, made longer, is one of the same kind. -/
theorem longer {n : Int} {l : List Ed} {a : List Int} {x : Int} {e : Ed} (hc : clsK n l a = 0) (hx : x ∈ a) (h0 : 0 ≤ x) (he : l[x.toNat]? = some e) (hm : makeK (n + 1) (lonL n l a x e) = 0) :
    clsV (makeN (n + 1) (lonL n l a x e)) (makeL (n + 1) (lonL n l a x e)) (uptoL (makeL (n + 1) (lonL n l a x e)).length) = clsV n l a ∧ clsK (makeN (n + 1) (lonL n l a x e)) (makeL (n + 1) (lonL n l a x e)) (uptoL (makeL (n + 1) (lonL n l a x e)).length) = 0 ∧ (clsV n l a = 5 ∨ clsV n l a = 33) := by
  obtain ⟨hw, h1, h2, h3⟩ := cls_iff.1 hc
  have hR := (wgtK_zero hw).1
  have hP := lon_prt hR hx h0 he hm
  have eN : makeN (n + 1) (lonL n l a x e) = n + 1 := by unfold makeN; rw [if_pos hm]
  rw [eN]
  generalize makeL (n + 1) (lonL n l a x e) = H at *
  have hRS : RightG ((n.toNat : Nat) : Int) (subL l a) := sub_right hR
  have hs : wsK n.toNat (subL l a) = 0 := (wsK_iff hRS).2 ⟨h1, h2⟩
  have hs2 := hP.ws hs
  have et : (n + 1).toNat = n.toNat + 1 := by have := hR.n0; omega
  have hRH : RightG (n + 1) H := by
    have := hP.more
    rwa [show (((n.toNat + 1 : Nat)) : Int) = n + 1 by have := hR.n0; omega] at this
  have hw2 : wgtK (n + 1) H (uptoL H.length) = 0 := wgtK_iff.2 ⟨hRH, fun y hy => by
    obtain ⟨i, hi, rfl⟩ := List.mem_map.1 hy
    have := List.mem_range.1 hi
    exact ⟨by omega, by omega⟩, List.pairwise_map.2 ((List.pairwise_lt_range (n := H.length)).imp fun h => by omega)⟩
  have k1 : wyK n l a = 0 := by unfold wyK; rw [if_pos hw]; exact hs
  have k2 : wyL n l a = waysTo (subL l a) n.toNat n.toNat := by unfold wyL wsL; rw [if_pos hw, if_pos hs]
  have k3 : wyK (n + 1) H (uptoL H.length) = 0 := by unfold wyK; rw [if_pos hw2, sub_all, et]; exact hs2
  have k4 : wyL (n + 1) H (uptoL H.length) = waysTo H (n.toNat + 1) (n.toNat + 1) := by unfold wyL wsL; rw [if_pos hw2, sub_all, et, if_pos hs2]
  unfold clsV clsK
  rw [k1, k2, k3, k4, hP.five h1, hP.three h1]
  simp only [if_true]
  by_cases f5 : fiveB (waysTo (subL l a) n.toNat n.toNat) = true
  · simp [f5]
  · have f3 : threeB (waysTo (subL l a) n.toNat n.toNat) = true := h3.resolve_left f5
    simp [f5, f3]
theorem lonL_len (n : Int) (l : List Ed) (a : List Int) (x : Int) (e : Ed) : (lonL n l a x e).length ≤ l.length + 2 := by
  have := keepL_len l (lonP a x) l.length
  unfold lonL
  simp
  omega
theorem cls_bad {n : Int} {l : List Ed} {a : List Int} (h : clsK n l a ≠ 0) : clsV n l a = 0 := by
  unfold clsK at h
  unfold clsV
  by_cases hk : wyK n l a = 0
  · rw [if_pos hk] at h ⊢
    by_cases f5 : fiveB (wyL n l a) = true
    · rw [if_pos f5] at h; exact absurd rfl h
    · rw [if_neg f5] at h ⊢
      by_cases f3 : threeB (wyL n l a) = true
      · rw [if_pos f3] at h; exact absurd rfl h
      · rw [if_neg f3]
  · rw [if_neg hk]
end Go.Proofs.Ytgjaikekpgdehaa
