/-
  Bridges by how many components there are. No program in this text.
-/
import Derived.Test.YtonfhkdciaiilaaXPLowS
import Derived.Test.YtonfhkdciaiilaaXPKeep
namespace Go.Proofs.Ytonfhkdciaiilaa
open Go Go.Proofs

theorem keepL_iff {l : List Ed} {pred : Nat → Bool} {e : Ed} : ∀ {j : Nat}, e ∈ keepL l pred j ↔ ∃ k, k < j ∧ l[k]? = some e ∧ pred k = true
  | 0 => by simp [keepL]
  | j + 1 => by
    rw [keepL, List.mem_append, keepL_iff (j := j)]
    constructor
    · rintro (⟨k, h1, h2, h3⟩ | h)
      · exact ⟨k, by omega, h2, h3⟩
      · split at h
        · rename_i hp
          exact ⟨j, by omega, by simpa using h, hp⟩
        · simp at h
    · rintro ⟨k, h1, h2, h3⟩
      by_cases hk : k = j
      · subst hk
        right
        rw [if_pos h3]
        simpa using h2
      · exact .inl ⟨k, by omega, h2, h3⟩
theorem keepL_take {l : List Ed} {pred : Nat → Bool} : ∀ {j : Nat}, j ≤ l.length → (keepL l pred j).Sublist (l.take j)
  | 0, _ => by simp [keepL]
  | j + 1, h => by
    have hj : j < l.length := by omega
    rw [take_snoc hj]
    cases hp : pred j with
    | false =>
      rw [keepL_out hp]
      exact (keepL_take (by omega)).trans (List.sublist_append_left _ _)
    | true =>
      rw [keepL_in hj hp]
      exact (keepL_take (by omega)).append (List.Sublist.refl _)
theorem keep_right {n : Int} {l : List Ed} (hR : RightG n l) (pred : Nat → Bool) : RightG n (keepL l pred l.length) := by
  have hs := keepL_take (l := l) (pred := pred) (Nat.le_refl _)
  rw [List.take_length] at hs
  exact ⟨hR.n0, hR.n1, Nat.le_trans hs.length_le hR.m1, fun e he => hR.each e (hs.subset he), hR.rise.sublist hs⟩
theorem keep_adj {l : List Ed} {pred : Nat → Bool} {N : Nat} (hR : RightG (N : Int) l) {x y : Nat} : Adj (keepL l pred l.length) x y ↔ ∃ k, Joins l k x y ∧ pred k = true := by
  constructor
  · rintro ⟨e, he, h⟩
    obtain ⟨k, h1, h2, h3⟩ := keepL_iff.1 he
    have := (hR.each e (List.mem_of_getElem? h2)).1
    unfold okE at this
    refine ⟨k, ⟨e, h2, ?_⟩, h3⟩
    omega
  · rintro ⟨k, h, h3⟩
    have hlt := h.lt
    obtain ⟨e, h2, h1⟩ := h
    refine ⟨e, keepL_iff.2 ⟨k, hlt, h2, h3⟩, ?_⟩
    omega
/-- How many components. -/
def comps (N : Nat) (l : List Ed) : Nat := (rcAt (labAt N l N) N N).length
theorem comps_roots (N : Nat) (l : List Ed) : comps N l = (rootsN (labAt N l N) N).length := by unfold comps; rw [rc_roots, List.length_map]
/-- The least one of a component. -/
def Rt (N : Nat) (l : List Ed) (u : Nat) : Prop := u < N ∧ ∀ x, x < N → Conn l u x → u ≤ x
theorem rt_iff {N : Nat} {l : List Ed} (hE : Ends N l) {u : Nat} (hu : u < N) : (labAt N l N).getD u 0 = (u : Int) ↔ Rt N l u := by
  obtain ⟨x, h1, h2, h3, h4⟩ := lab_least hE hu
  constructor
  · intro e
    have : x = u := by omega
    subst this
    exact ⟨hu, h4⟩
  · rintro ⟨_, h⟩
    have := h x h2 h3
    have := h4 u hu (.refl _)
    omega
theorem rt_of {N : Nat} {l : List Ed} (hE : Ends N l) {u : Nat} (hu : u < N) : ∃ r, Rt N l r ∧ Conn l u r := by
  obtain ⟨x, h1, h2, h3, h4⟩ := lab_least hE hu
  exact ⟨x, ⟨h2, fun y hy hc => h4 y hy (h3.trans hc)⟩, h3⟩
theorem Rt.one {N : Nat} {l : List Ed} {a b : Nat} (ha : Rt N l a) (hb : Rt N l b) (h : Conn l a b) : a = b := by
  have := ha.2 b hb.1 h
  have := hb.2 a ha.1 h.symm
  omega
theorem Conn.mono {l H : List Ed} (h : ∀ x y, Adj H x y → Adj l x y) {a b : Nat} (hc : Conn H a b) : Conn l a b := by
  induction hc using Conn.ind with
  | refl => exact .refl _
  | step h1 _ ih => exact .step (h _ _ h1) ih
theorem Rt.less {N : Nat} {l H : List Ed} (h : ∀ x y, Adj H x y → Adj l x y) {a : Nat} (ha : Rt N l a) : Rt N H a := ⟨ha.1, fun x hx hc => ha.2 x hx (hc.mono h)⟩
/-- Roots that are new. -/
def newR (N : Nat) (l H : List Ed) : List Nat := (List.range N).filter fun u => decide ((labAt N H N).getD u 0 = (u : Int)) && !decide ((labAt N l N).getD u 0 = (u : Int))
theorem newR_mem {N : Nat} {l H : List Ed} (hE : Ends N l) (hF : Ends N H) {u : Nat} : u ∈ newR N l H ↔ Rt N H u ∧ ¬ Rt N l u := by
  unfold newR
  rw [List.mem_filter, List.mem_range, Bool.and_eq_true, decide_eq_true_iff, Bool.not_eq_true', decide_eq_false_iff_not]
  constructor
  · rintro ⟨h1, h2, h3⟩
    exact ⟨(rt_iff hF h1).1 h2, fun h => h3 ((rt_iff hE h1).2 h)⟩
  · rintro ⟨h1, h2⟩
    exact ⟨h1.1, (rt_iff hF h1.1).2 h1, fun h => h2 ((rt_iff hE h1.1).1 h)⟩
theorem filter_parts {p q : Nat → Bool} : ∀ (L : List Nat), (∀ x ∈ L, p x = true → q x = true) → (L.filter q).length = (L.filter p).length + (L.filter fun x => q x && !p x).length
  | [], _ => rfl
  | x :: L, h => by
    have ih := filter_parts L (fun y hy => h y (List.mem_cons_of_mem _ hy))
    have hx := h x (List.mem_cons_self ..)
    rw [List.filter_cons, List.filter_cons, List.filter_cons]
    cases hp : p x with
    | false =>
      cases hq : q x with
      | false => simpa using ih
      | true =>
        simp only [Bool.not_false, Bool.and_true, if_true, List.length_cons]
        simp only [Bool.false_eq_true, if_false]
        omega
    | true =>
      rw [hx hp]
      simp only [Bool.not_true, Bool.and_false, if_true, List.length_cons, Bool.false_eq_true, if_false]
      omega
theorem comps_new {N : Nat} {l H : List Ed} (hE : Ends N l) (hF : Ends N H) (h : ∀ x y, Adj H x y → Adj l x y) : comps N H = comps N l + (newR N l H).length := by
  rw [comps_roots, comps_roots]
  unfold rootsN newR
  refine filter_parts (p := fun u => decide ((labAt N l N).getD u 0 = ((u : Nat) : Int))) (q := fun u => decide ((labAt N H N).getD u 0 = ((u : Nat) : Int))) (List.range N) fun x hx hp => ?_
  have hxN := List.mem_range.1 hx
  rw [decide_eq_true_iff] at hp ⊢
  exact (rt_iff hF hxN).2 (((rt_iff hE hxN).1 hp).less h)
theorem newR_nodup (N : Nat) (l H : List Ed) : (newR N l H).Nodup := List.Pairwise.filter _ List.nodup_range
theorem two_in {L : List Nat} (hn : L.Nodup) : 2 ≤ L.length ↔ ∃ a b, a ∈ L ∧ b ∈ L ∧ a ≠ b := by
  constructor
  · intro h
    match L, hn, h with
    | a :: b :: L, hn, _ =>
      refine ⟨a, b, List.mem_cons_self .., List.mem_cons_of_mem _ (List.mem_cons_self ..), fun e => ?_⟩
      subst e
      exact (List.nodup_cons.1 hn).1 (List.mem_cons_self ..)
  · rintro ⟨a, b, ha, hb, hne⟩
    match L, ha, hb with
    | [x], ha, hb =>
      have h1 := List.mem_singleton.1 ha
      have h2 := List.mem_singleton.1 hb
      exact absurd (h1.trans h2.symm) hne
    | x :: y :: L, _, _ => simp
/-- Without an edge there are more components just if its ends do not hang together any more. -/
theorem bridge_iff {N : Nat} {l H : List Ed} (hR : RightG (N : Int) l) (hF : Ends N H) {p a b : Nat} (hp : Joins l p a b) (hH : ∀ x y, Adj H x y ↔ ∃ k, Joins l k x y ∧ k ≠ p) : comps N l < comps N H ↔ ¬ Conn H a b := by
  have hE := right_ends hR
  have hsub : ∀ x y, Adj H x y → Adj l x y := fun x y h => by
    obtain ⟨k, h1, _⟩ := (hH x y).1 h
    exact h1.adj
  have hcn := comps_new hE hF hsub
  have h2 : comps N l < comps N H ↔ ∃ u, u ∈ newR N l H := by
    rw [hcn]
    constructor
    · intro h
      exact ⟨_, List.getElem_mem (by omega : 0 < (newR N l H).length)⟩
    · rintro ⟨u, hu⟩
      have := List.length_pos_of_mem hu
      omega
  rw [h2]
  obtain ⟨haN, hbN⟩ := hp.below hR
  constructor
  · rintro ⟨u, hu⟩ hab
    obtain ⟨h1, h3⟩ := (newR_mem hE hF).1 hu
    refine h3 ⟨h1.1, fun x hx hc => h1.2 x hx ?_⟩
    clear h1 h3 hu
    induction hc using Conn.ind with
    | refl => exact .refl _
    | step g1 _ ih =>
      rename_i c d e _
      have := ih hx
      refine Conn.trans ?_ this
      obtain ⟨k, hk⟩ := adj_joins hR g1
      by_cases hkp : k = p
      · subst hkp
        rcases hk.uniq hp with ⟨rfl, rfl⟩ | ⟨rfl, rfl⟩
        · exact hab
        · exact hab.symm
      · exact .one ((hH c d).2 ⟨k, hk, hkp⟩)
  · intro hn
    obtain ⟨r, hr, har⟩ := rt_of hE haN
    obtain ⟨x, hx, hax⟩ := rt_of hF haN
    obtain ⟨y, hy, hby⟩ := rt_of hF hbN
    have hxy : x ≠ y := fun e => by subst e; exact hn (hax.trans hby.symm)
    have cx : Conn l a x := hax.mono hsub
    have cy : Conn l a y := .step hp.adj (hby.mono hsub)
    have notl : ∀ {z}, Conn l a z → z ≠ r → ¬ Rt N l z := fun {z} h1 h2 h3 => h2 (h3.one hr (h1.symm.trans har))
    by_cases ex : x = r
    · exact ⟨y, (newR_mem hE hF).2 ⟨hy, notl cy (fun e => hxy (ex.trans e.symm))⟩⟩
    · exact ⟨x, (newR_mem hE hF).2 ⟨hx, notl cx ex⟩⟩
def lessG (l : List Ed) (p : Nat) : List Ed := keepL l (lessP [(p : Int)]) l.length
theorem lessG_adj {N : Nat} {l : List Ed} (hR : RightG (N : Int) l) (p : Nat) : ∀ x y, Adj (lessG l p) x y ↔ ∃ k, Joins l k x y ∧ k ≠ p := by
  intro x y
  unfold lessG
  rw [keep_adj hR]
  constructor
  · rintro ⟨k, h1, h2⟩
    refine ⟨k, h1, fun e => ?_⟩
    subst e
    simp [lessP, inB] at h2
  · rintro ⟨k, h1, h2⟩
    refine ⟨k, h1, ?_⟩
    simp [lessP, inB]
    omega
def thoseL (Pk : Nat → Bool) (j : Nat) : List Int := ((List.range j).filter Pk).map fun (k : Nat) => (k : Int)
theorem thoseL_len (Pk : Nat → Bool) (j : Nat) : (thoseL Pk j).length ≤ j := by
  unfold thoseL
  rw [List.length_map]
  have := List.length_filter_le Pk (List.range j)
  simpa using this
theorem thoseL_succ (Pk : Nat → Bool) (j : Nat) : thoseL Pk (j + 1) = thoseL Pk j ++ (if Pk j then [(j : Int)] else []) := by
  unfold thoseL
  rw [List.range_succ, List.filter_append, List.map_append]
  by_cases h : Pk j <;> simp [h]
end Go.Proofs.Ytonfhkdciaiilaa
