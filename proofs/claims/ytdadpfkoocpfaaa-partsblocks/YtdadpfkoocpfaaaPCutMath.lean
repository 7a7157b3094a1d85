/-
  Cut vertices and bridges by how many components there are, and by labels. No program in this text.
-/
import Derived.Test.YtdadpfkoocpfaaaPLab
import Derived.Test.YtdadpfkoocpfaaaM4
namespace Go.Proofs.Ytdadpfkoocpfaaa
open Go Go.Proofs

theorem keepL_iff {l : List Ed} {pred : Nat → Bool} {e : Ed} : ∀ {j : Nat}, e ∈ keepL l pred j ↔ ∃ k, k < j ∧ l[k]? = some e ∧ pred k = true
  | 0 => by simp [keepL]
  | j + 1 => by
    rw [keepL, List.mem_append, keepL_iff (j := j)]
    constructor
    · rintro (⟨k, h1, h2, h3⟩ | h)
      · exact ⟨k, by omega, h2, h3⟩
      · split at h
        · rename_i hp
          exact ⟨j, by omega, by simpa using h, hp⟩
        · simp at h
    · rintro ⟨k, h1, h2, h3⟩
      by_cases hk : k = j
      · subst hk
        right
        rw [if_pos h3]
        simpa using h2
      · exact .inl ⟨k, by omega, h2, h3⟩
theorem keepL_take {l : List Ed} {pred : Nat → Bool} : ∀ {j : Nat}, j ≤ l.length → (keepL l pred j).Sublist (l.take j)
  | 0, _ => by simp [keepL]
  | j + 1, h => by
    have hj : j < l.length := by omega
    rw [take_snoc hj]
    cases hp : pred j with
    | false =>
      rw [keepL_out hp]
      exact (keepL_take (by omega)).trans (List.sublist_append_left _ _)
    | true =>
      rw [keepL_in hj hp]
      exact (keepL_take (by omega)).append (List.Sublist.refl _)
theorem keep_right {n : Int} {l : List Ed} (hR : RightG n l) (pred : Nat → Bool) : RightG n (keepL l pred l.length) := by
  have hs := keepL_take (l := l) (pred := pred) (Nat.le_refl _)
  rw [List.take_length] at hs
  exact ⟨hR.n0, hR.n1, Nat.le_trans hs.length_le hR.m1, fun e he => hR.each e (hs.subset he), hR.rise.sublist hs⟩
theorem keep_adj {l : List Ed} {pred : Nat → Bool} {N : Nat} (hR : RightG (N : Int) l) {x y : Nat} : Adj (keepL l pred l.length) x y ↔ ∃ k, Joins l k x y ∧ pred k = true := by
  constructor
  · rintro ⟨e, he, h⟩
    obtain ⟨k, h1, h2, h3⟩ := keepL_iff.1 he
    have := (hR.each e (List.mem_of_getElem? h2)).1
    unfold okE at this
    refine ⟨k, ⟨e, h2, ?_⟩, h3⟩
    omega
  · rintro ⟨k, h, h3⟩
    have hlt := h.lt
    obtain ⟨e, h2, h1⟩ := h
    refine ⟨e, keepL_iff.2 ⟨k, hlt, h2, h3⟩, ?_⟩
    omega
/-- All but one. -/
def butL (N : Nat) (v : Nat) : List Bool := (List.range N).map fun i => decide (i ≠ v)
theorem butL_len (N v : Nat) : (butL N v).length = N := by simp [butL]
theorem kept_all {N v x : Nat} (hx : x < N) : keptB (butL N v) (x : Int) = decide (x ≠ v) := by
  unfold keptB
  rw [butL_len, decide_eq_true (by omega : (x : Int) < (N : Int))]
  simp [butL, hx]
def cutG (N : Nat) (l : List Ed) (v : Nat) : List Ed := keepL l (onlyP l (butL N v)) l.length
theorem cutG_nov {N : Nat} {l : List Ed} (hR : RightG (N : Int) l) (v : Nat) : NoV l v (cutG N l v) := by
  intro x y
  unfold cutG
  rw [keep_adj hR]
  constructor
  · rintro ⟨k, h, h3⟩
    have hb := h.below hR
    obtain ⟨e, h1, h2⟩ := h
    refine ⟨Joins.adj ⟨e, h1, h2⟩, ?_⟩
    unfold onlyP at h3
    rw [h1, Option.getD_some, Bool.and_eq_true] at h3
    rcases h2 with ⟨e1, e2⟩ | ⟨e1, e2⟩
    · rw [e1, e2, kept_all hb.1, kept_all hb.2] at h3
      simpa using h3
    · rw [e1, e2, kept_all hb.1, kept_all hb.2] at h3
      have : y ≠ v ∧ x ≠ v := by simpa using h3
      exact ⟨this.2, this.1⟩
  · rintro ⟨h, hx, hy⟩
    obtain ⟨k, hk⟩ := adj_joins hR h
    have hb := hk.below hR
    refine ⟨k, hk, ?_⟩
    obtain ⟨e, h1, h2⟩ := hk
    unfold onlyP
    rw [h1, Option.getD_some, Bool.and_eq_true]
    rcases h2 with ⟨e1, e2⟩ | ⟨e1, e2⟩
    · rw [e1, e2, kept_all hb.1, kept_all hb.2]
      simpa using ⟨hx, hy⟩
    · rw [e1, e2, kept_all hb.1, kept_all hb.2]
      simpa using ⟨hy, hx⟩
/-- How many components. -/
def comps (N : Nat) (l : List Ed) : Nat := (rcAt (labAt N l N) N N).length
theorem comps_roots (N : Nat) (l : List Ed) : comps N l = (rootsN (labAt N l N) N).length := by unfold comps; rw [rc_roots, List.length_map]
/-- The least one of a component. -/
def Rt (N : Nat) (l : List Ed) (u : Nat) : Prop := u < N ∧ ∀ x, x < N → Conn l u x → u ≤ x
theorem rt_iff {N : Nat} {l : List Ed} (hE : Ends N l) {u : Nat} (hu : u < N) : (labAt N l N).getD u 0 = (u : Int) ↔ Rt N l u := by
  obtain ⟨x, h1, h2, h3, h4⟩ := lab_least hE hu
  constructor
  · intro e
    have : x = u := by omega
    subst this
    exact ⟨hu, h4⟩
  · rintro ⟨_, h⟩
    have := h x h2 h3
    have := h4 u hu (.refl _)
    omega
theorem rt_of {N : Nat} {l : List Ed} (hE : Ends N l) {u : Nat} (hu : u < N) : ∃ r, Rt N l r ∧ Conn l u r := by
  obtain ⟨x, h1, h2, h3, h4⟩ := lab_least hE hu
  exact ⟨x, ⟨h2, fun y hy hc => h4 y hy (h3.trans hc)⟩, h3⟩
theorem Rt.one {N : Nat} {l : List Ed} {a b : Nat} (ha : Rt N l a) (hb : Rt N l b) (h : Conn l a b) : a = b := by
  have := ha.2 b hb.1 h
  have := hb.2 a ha.1 h.symm
  omega
theorem Conn.mono {l H : List Ed} (h : ∀ x y, Adj H x y → Adj l x y) {a b : Nat} (hc : Conn H a b) : Conn l a b := by
  induction hc using Conn.ind with
  | refl => exact .refl _
  | step h1 _ ih => exact .step (h _ _ h1) ih
theorem Rt.less {N : Nat} {l H : List Ed} (h : ∀ x y, Adj H x y → Adj l x y) {a : Nat} (ha : Rt N l a) : Rt N H a := ⟨ha.1, fun x hx hc => ha.2 x hx (hc.mono h)⟩
/-- Roots that are new. -/
def newR (N : Nat) (l H : List Ed) : List Nat := (List.range N).filter fun u => decide ((labAt N H N).getD u 0 = (u : Int)) && !decide ((labAt N l N).getD u 0 = (u : Int))
theorem newR_mem {N : Nat} {l H : List Ed} (hE : Ends N l) (hF : Ends N H) {u : Nat} : u ∈ newR N l H ↔ Rt N H u ∧ ¬ Rt N l u := by
  unfold newR
  rw [List.mem_filter, List.mem_range, Bool.and_eq_true, decide_eq_true_iff, Bool.not_eq_true', decide_eq_false_iff_not]
  constructor
  · rintro ⟨h1, h2, h3⟩
    exact ⟨(rt_iff hF h1).1 h2, fun h => h3 ((rt_iff hE h1).2 h)⟩
  · rintro ⟨h1, h2⟩
    exact ⟨h1.1, (rt_iff hF h1.1).2 h1, fun h => h2 ((rt_iff hE h1.1).1 h)⟩
theorem filter_parts {p q : Nat → Bool} : ∀ (L : List Nat), (∀ x ∈ L, p x = true → q x = true) → (L.filter q).length = (L.filter p).length + (L.filter fun x => q x && !p x).length
  | [], _ => rfl
  | x :: L, h => by
    have ih := filter_parts L (fun y hy => h y (List.mem_cons_of_mem _ hy))
    have hx := h x (List.mem_cons_self ..)
    rw [List.filter_cons, List.filter_cons, List.filter_cons]
    cases hp : p x with
    | false =>
      cases hq : q x with
      | false => simpa using ih
      | true =>
        simp only [Bool.not_false, Bool.and_true, if_true, List.length_cons]
        simp only [Bool.false_eq_true, if_false]
        omega
    | true =>
      rw [hx hp]
      simp only [Bool.not_true, Bool.and_false, if_true, List.length_cons, Bool.false_eq_true, if_false]
      omega
theorem comps_new {N : Nat} {l H : List Ed} (hE : Ends N l) (hF : Ends N H) (h : ∀ x y, Adj H x y → Adj l x y) : comps N H = comps N l + (newR N l H).length := by
  rw [comps_roots, comps_roots]
  unfold rootsN newR
  refine filter_parts (p := fun u => decide ((labAt N l N).getD u 0 = ((u : Nat) : Int))) (q := fun u => decide ((labAt N H N).getD u 0 = ((u : Nat) : Int))) (List.range N) fun x hx hp => ?_
  have hxN := List.mem_range.1 hx
  rw [decide_eq_true_iff] at hp ⊢
  exact (rt_iff hF hxN).2 (((rt_iff hE hxN).1 hp).less h)
theorem newR_nodup (N : Nat) (l H : List Ed) : (newR N l H).Nodup := List.Pairwise.filter _ List.nodup_range
theorem two_in {L : List Nat} (hn : L.Nodup) : 2 ≤ L.length ↔ ∃ a b, a ∈ L ∧ b ∈ L ∧ a ≠ b := by
  constructor
  · intro h
    match L, hn, h with
    | a :: b :: L, hn, _ =>
      refine ⟨a, b, List.mem_cons_self .., List.mem_cons_of_mem _ (List.mem_cons_self ..), fun e => ?_⟩
      subst e
      exact (List.nodup_cons.1 hn).1 (List.mem_cons_self ..)
  · rintro ⟨a, b, ha, hb, hne⟩
    match L, ha, hb with
    | [x], ha, hb =>
      have h1 := List.mem_singleton.1 ha
      have h2 := List.mem_singleton.1 hb
      exact absurd (h1.trans h2.symm) hne
    | x :: y :: L, _, _ => simp
/-- From u to v: the last one ahead of v, and up to it without v. -/
theorem NoV.last {l H K : List Ed} {v : Nat} (hH : NoV l v H) (hK : ∀ x y, Adj K x y → Adj l x y) {u : Nat} (h : Conn K u v) (hne : u ≠ v) : ∃ a, Adj K a v ∧ Conn H u a := by
  obtain ⟨v', hv'⟩ : ∃ v', v' = v := ⟨v, rfl⟩
  rw [← hv'] at h
  induction h using Conn.ind with
  | refl => exact absurd hv' hne
  | step h1 _ ih =>
    rename_i x y z _
    by_cases hy : y = v
    · subst hy
      exact ⟨x, h1, .refl _⟩
    · obtain ⟨a, h2, h3⟩ := ih hy hv'
      exact ⟨a, h2, .step ((hH x y).2 ⟨hK _ _ h1, hne, hy⟩) h3⟩
theorem NoV.sub {l H : List Ed} {v : Nat} (hH : NoV l v H) : ∀ x y, Adj H x y → Adj l x y := fun x y h => ((hH x y).1 h).1
theorem NoV.alone {l H : List Ed} {v : Nat} (hH : NoV l v H) {u : Nat} (h : Conn H u v) : u = v := by
  obtain ⟨v', hv'⟩ : ∃ v', v' = v := ⟨v, rfl⟩
  rw [← hv'] at h ⊢
  induction h using Conn.ind with
  | refl => rfl
  | step h1 _ ih =>
    have e := ih hv'
    subst e
    exact absurd hv' (((hH _ _).1 h1).2.2)
/-- More than one component more: two neighbours that do not hang together without the vertex. -/
theorem cut_iff {N : Nat} {l H : List Ed} (hR : RightG (N : Int) l) (hF : Ends N H) {v : Nat} (hv : v < N) (hH : NoV l v H) : comps N l + 1 < comps N H ↔ ∃ a b, Adj l a v ∧ Adj l b v ∧ ¬ Conn H a b := by
  have hE := right_ends hR
  have hcn := comps_new hE hF hH.sub
  have h2 : comps N l + 1 < comps N H ↔ 2 ≤ (newR N l H).length := by omega
  rw [h2, two_in (newR_nodup N l H)]
  obtain ⟨r, hr, hvr⟩ := rt_of hE hv
  have hvH : Rt N H v := ⟨hv, fun x hx hc => by have := hH.alone hc.symm; omega⟩
  have hle : ∀ {x y}, Conn H x y → Conn l x y := fun h => h.mono hH.sub
  constructor
  · rintro ⟨x, y, hx, hy, hne⟩
    apply Classical.byContradiction
    intro hn
    have hall : ∀ a b, Adj l a v → Adj l b v → Conn H a b := fun a b ha hb => by
      apply Classical.byContradiction
      intro h
      exact hn ⟨a, b, ha, hb, h⟩
    obtain ⟨x1, x2⟩ := (newR_mem hE hF).1 hx
    obtain ⟨y1, y2⟩ := (newR_mem hE hF).1 hy
    have tov : ∀ {x}, Rt N H x → ¬ Rt N l x → Conn l x v := fun {x} h1 h2 => by
      apply Classical.byContradiction
      intro h3
      refine h2 ⟨h1.1, fun z hz hc => h1.2 z hz ?_⟩
      clear h1 h2
      induction hc using Conn.ind with
      | refl => exact .refl _
      | step g1 _ ih =>
        rename_i a b c _
        have hbv : ¬ Conn l b v := fun e => h3 (.step g1 e)
        exact .step ((hH a b).2 ⟨g1, fun e => h3 (by rw [e]; exact .refl _), fun e => hbv (by rw [e]; exact .refl _)⟩) (ih hbv hz)
    have same : ∀ {x y}, Rt N H x → Rt N H y → Conn l x v → Conn l y v → x ≠ v → y ≠ v → x = y := fun {x y} h1 h2 h3 h4 h5 h6 => by
      obtain ⟨a, a1, a2⟩ := hH.last (fun _ _ h => h) h3 h5
      obtain ⟨b, b1, b2⟩ := hH.last (fun _ _ h => h) h4 h6
      exact h1.one h2 (a2.trans ((hall a b a1 b1).trans b2.symm))
    have hrH := hr.less hH.sub
    have hxr : x ≠ r := fun e => by subst e; exact x2 hr
    have hyr : y ≠ r := fun e => by subst e; exact y2 hr
    have hxv := tov x1 x2
    have hyv := tov y1 y2
    by_cases ex : x = v
    · exact hyr (same y1 hrH hyv hvr.symm (fun e => hne (ex.trans e.symm)) (fun e => hxr (ex.trans e.symm)))
    · by_cases ey : y = v
      · exact hxr (same x1 hrH hxv hvr.symm ex (fun e => hyr (ey.trans e.symm)))
      · exact hne (same x1 y1 hxv hyv ex ey)
  · rintro ⟨a, b, ha, hb, hn⟩
    have haN := (adj_below hE ha).1
    have hbN := (adj_below hE hb).1
    obtain ⟨x, hx, hax⟩ := rt_of hF haN
    obtain ⟨y, hy, hby⟩ := rt_of hF hbN
    have hav' : a ≠ v := fun e => by
      obtain ⟨k, hk⟩ := adj_joins hR ha
      exact hk.ne hR e
    have hbv' : b ≠ v := fun e => by
      obtain ⟨k, hk⟩ := adj_joins hR hb
      exact hk.ne hR e
    have hxv : x ≠ v := fun e => by subst e; exact hav' (hH.alone hax)
    have hyv : y ≠ v := fun e => by subst e; exact hbv' (hH.alone hby)
    have hxy : x ≠ y := fun e => by subst e; exact hn (hax.trans hby.symm)
    have cx : Conn l v x := .step ha.symm (hle hax)
    have cy : Conn l v y := .step hb.symm (hle hby)
    have notl : ∀ {z}, Conn l v z → z ≠ r → ¬ Rt N l z := fun {z} h1 h2 h3 => h2 (h3.one hr (h1.symm.trans hvr))
    by_cases er : v = r
    · exact ⟨x, y, (newR_mem hE hF).2 ⟨hx, notl cx (fun e => hxv (e.trans er.symm))⟩, (newR_mem hE hF).2 ⟨hy, notl cy (fun e => hyv (e.trans er.symm))⟩, hxy⟩
    · have hvn := (newR_mem hE hF).2 ⟨hvH, notl (.refl _) er⟩
      by_cases exr : x = r
      · exact ⟨v, y, hvn, (newR_mem hE hF).2 ⟨hy, notl cy (fun e => hxy (exr.trans e.symm))⟩, fun e => hyv e.symm⟩
      · exact ⟨v, x, hvn, (newR_mem hE hF).2 ⟨hx, notl cx exr⟩, fun e => hxv e.symm⟩
/-- Without an edge there are more components just if its ends do not hang together any more. -/
theorem bridge_iff {N : Nat} {l H : List Ed} (hR : RightG (N : Int) l) (hF : Ends N H) {p a b : Nat} (hp : Joins l p a b) (hH : ∀ x y, Adj H x y ↔ ∃ k, Joins l k x y ∧ k ≠ p) : comps N l < comps N H ↔ ¬ Conn H a b := by
  have hE := right_ends hR
  have hsub : ∀ x y, Adj H x y → Adj l x y := fun x y h => by
    obtain ⟨k, h1, _⟩ := (hH x y).1 h
    exact h1.adj
  have hcn := comps_new hE hF hsub
  have h2 : comps N l < comps N H ↔ ∃ u, u ∈ newR N l H := by
    rw [hcn]
    constructor
    · intro h
      exact ⟨_, List.getElem_mem (by omega : 0 < (newR N l H).length)⟩
    · rintro ⟨u, hu⟩
      have := List.length_pos_of_mem hu
      omega
  rw [h2]
  obtain ⟨haN, hbN⟩ := hp.below hR
  constructor
  · rintro ⟨u, hu⟩ hab
    obtain ⟨h1, h3⟩ := (newR_mem hE hF).1 hu
    refine h3 ⟨h1.1, fun x hx hc => h1.2 x hx ?_⟩
    clear h1 h3 hu
    induction hc using Conn.ind with
    | refl => exact .refl _
    | step g1 _ ih =>
      rename_i c d e _
      have := ih hx
      refine Conn.trans ?_ this
      obtain ⟨k, hk⟩ := adj_joins hR g1
      by_cases hkp : k = p
      · subst hkp
        rcases hk.uniq hp with ⟨rfl, rfl⟩ | ⟨rfl, rfl⟩
        · exact hab
        · exact hab.symm
      · exact .one ((hH c d).2 ⟨k, hk, hkp⟩)
  · intro hn
    obtain ⟨r, hr, har⟩ := rt_of hE haN
    obtain ⟨x, hx, hax⟩ := rt_of hF haN
    obtain ⟨y, hy, hby⟩ := rt_of hF hbN
    have hxy : x ≠ y := fun e => by subst e; exact hn (hax.trans hby.symm)
    have cx : Conn l a x := hax.mono hsub
    have cy : Conn l a y := .step hp.adj (hby.mono hsub)
    have notl : ∀ {z}, Conn l a z → z ≠ r → ¬ Rt N l z := fun {z} h1 h2 h3 => h2 (h3.one hr (h1.symm.trans har))
    by_cases ex : x = r
    · exact ⟨y, (newR_mem hE hF).2 ⟨hy, notl cy (fun e => hxy (ex.trans e.symm))⟩⟩
    · exact ⟨x, (newR_mem hE hF).2 ⟨hx, notl cx ex⟩⟩
/-- Cut vertices, told by labels. -/
theorem cutB_iff {N : Nat} {l : List Ed} (hR : RightG (N : Int) l) {v : Nat} (hv : v < N) : cutB (linksL N l) (walkW N l).block v = true ↔ ∃ a b, Adj l a v ∧ Adj l b v ∧ ¬ Conn (cutG N l v) a b := by
  have hP := links_p hR
  have hL := walk_labof hR
  have T := walk_tr hR
  have hN := cutG_nov hR v
  unfold cutB
  rw [List.any_eq_true]
  constructor
  · rintro ⟨x, hx, h⟩
    obtain ⟨y, k, rfl, _, hJ⟩ := hP.sound v x hv hx
    have hlen : 0 < ((linksL N l).getD v []).length := List.length_pos_of_mem hx
    have h0 : ((linksL N l).getD v []).getD 0 (0, 0) ∈ (linksL N l).getD v [] := by
      generalize (linksL N l).getD v [] = L at hlen
      rw [List.getD_eq_getElem?_getD, List.getElem?_eq_getElem hlen]
      exact List.getElem_mem hlen
    obtain ⟨y0, k0, e0, _, hJ0⟩ := hP.sound v _ hv h0
    rw [e0] at h
    have hne : (walkW N l).block.getD k 0 ≠ (walkW N l).block.getD k0 0 := by
      have : at_ (walkW N l).block (k : Int) ≠ at_ (walkW N l).block (k0 : Int) := by simpa using h
      simpa [at_] using this
    exact ⟨y, y0, hJ.adj.symm, hJ0.adj.symm, fun hc => hne ((hL.at hR T hN hJ hJ0).2 hc)⟩
  · rintro ⟨a, b, ha, hb, hn⟩
    obtain ⟨k, hk⟩ := adj_joins hR ha.symm
    obtain ⟨k', hk'⟩ := adj_joins hR hb.symm
    have hne : (walkW N l).block.getD k 0 ≠ (walkW N l).block.getD k' 0 := fun e => hn ((hL.at hR T hN hk hk').1 e)
    have m1 := hP.full k v a hv hk
    have m2 := hP.full k' v b hv hk'
    apply Classical.byContradiction
    intro hno
    have hall : ∀ x ∈ (linksL N l).getD v [], at_ (walkW N l).block x.2 = at_ (walkW N l).block (((linksL N l).getD v []).getD 0 (0, 0)).2 := fun x hx => by
      apply Classical.byContradiction
      intro h
      exact hno ⟨x, hx, by simpa using h⟩
    have e1 := hall _ m1
    have e2 := hall _ m2
    rw [← e2] at e1
    simp only [at_, Int.toNat_natCast] at e1
    exact hne e1
theorem count_one {B : List Int} {p : Nat} (hp : p < B.length) : B.count (B.getD p 0) = 1 ↔ ∀ k, k < B.length → B.getD k 0 = B.getD p 0 → k = p := by
  have e : B.getD p 0 = B[p] := by rw [List.getD_eq_getElem?_getD, List.getElem?_eq_getElem hp]; rfl
  have hsplit : B = B.take p ++ B[p] :: B.drop (p + 1) := by rw [List.getElem_cons_drop, List.take_append_drop]
  have hc : B.count B[p] = (B.take p).count B[p] + 1 + (B.drop (p + 1)).count B[p] := by
    have := congrArg (List.count B[p]) hsplit
    rw [List.count_append, List.count_cons_self] at this
    omega
  rw [e, hc]
  constructor
  · intro h k hk ek
    have ek' : B[k] = B[p] := by rw [← ek, List.getD_eq_getElem?_getD, List.getElem?_eq_getElem hk]; rfl
    have z1 : (B.take p).count B[p] = 0 := by omega
    have z2 : (B.drop (p + 1)).count B[p] = 0 := by omega
    rw [List.count_eq_zero] at z1 z2
    rcases Nat.lt_trichotomy k p with hlt | heq | hgt
    · exfalso
      refine z1 ?_
      rw [← ek']
      exact List.mem_take_iff_getElem.2 ⟨k, by omega, rfl⟩
    · exact heq
    · exfalso
      refine z2 ?_
      rw [← ek']
      refine List.mem_drop_iff_getElem.2 ⟨k - (p + 1), by omega, ?_⟩
      congr 1
      omega
  · intro h
    have z1 : (B.take p).count B[p] = 0 := List.count_eq_zero.2 fun hm => by
      obtain ⟨k, hk, ek⟩ := List.mem_take_iff_getElem.1 hm
      have := h k (by omega) (by rw [List.getD_eq_getElem?_getD, List.getElem?_eq_getElem (by omega)]; exact ek)
      omega
    have z2 : (B.drop (p + 1)).count B[p] = 0 := List.count_eq_zero.2 fun hm => by
      obtain ⟨k, hk, ek⟩ := List.mem_drop_iff_getElem.1 hm
      have := h (p + 1 + k) (by omega) (by rw [List.getD_eq_getElem?_getD, List.getElem?_eq_getElem (by omega)]; exact ek)
      omega
    omega
def lessG (l : List Ed) (p : Nat) : List Ed := keepL l (lessP [(p : Int)]) l.length
theorem lessG_adj {N : Nat} {l : List Ed} (hR : RightG (N : Int) l) (p : Nat) : ∀ x y, Adj (lessG l p) x y ↔ ∃ k, Joins l k x y ∧ k ≠ p := by
  intro x y
  unfold lessG
  rw [keep_adj hR]
  constructor
  · rintro ⟨k, h1, h2⟩
    refine ⟨k, h1, fun e => ?_⟩
    subst e
    simp [lessP, inB] at h2
  · rintro ⟨k, h1, h2⟩
    refine ⟨k, h1, ?_⟩
    simp [lessP, inB]
    omega
/-- Bridges, told by labels. -/
theorem bridgeB_iff {N : Nat} {l : List Ed} (hR : RightG (N : Int) l) {p a b : Nat} (hp : Joins l p a b) : bridgeB (walkW N l).block p = true ↔ ¬ Conn (lessG l p) a b := by
  have hL := walk_labof hR
  have T := walk_tr hR
  have hH := lessG_adj hR p
  have hlen : (walkW N l).block.length = l.length := (walkW_ok hR).lenK
  have hpl : p < (walkW N l).block.length := by rw [hlen]; exact hp.lt
  have hcount : bridgeB (walkW N l).block p = true ↔ ∀ k, k < l.length → (walkW N l).block.getD k 0 = (walkW N l).block.getD p 0 → k = p := by
    unfold bridgeB
    generalize (walkW N l).block = B at *
    have hone : B.count (B.getD p 0) = 1 ↔ ∀ k, k < B.length → B.getD k 0 = B.getD p 0 → k = p := count_one hpl
    rw [hlen] at hone
    rw [← hone]
    simp
    omega
  rw [hcount]
  constructor
  · intro h hc
    obtain ⟨c, h1, h2⟩ := (cutG_nov hR a).last (fun x y h => by obtain ⟨k, h1, _⟩ := (hH x y).1 h; exact h1.adj) hc.symm (hp.ne hR).symm
    obtain ⟨k, h3, h4⟩ := (hH c a).1 h1
    exact h4 (h k h3.lt ((hL.at hR T (cutG_nov hR a) h3.symm hp).2 h2.symm))
  · intro hn k hk e
    apply Classical.byContradiction
    intro hne
    have hG : ∀ j j', Loc l (cutG N l) j j' → (if j = p then (0 : Int) else 1) = (if j' = p then (0 : Int) else 1) := by
      have key : ∀ {j' v c d : Nat}, Joins l p v c → Joins l j' v d → Conn (cutG N l v) c d → j' ≠ p → False := by
        intro j' v c d h1 h2 h3 h4
        have hvc : Conn (lessG l p) v c := by
          refine .step ((hH v d).2 ⟨j', h2, h4⟩) (Conn.symm ?_)
          refine h3.mono fun x y hxy => ?_
          obtain ⟨g1, g2, g3⟩ := (cutG_nov hR v x y).1 hxy
          obtain ⟨m, hm⟩ := adj_joins hR g1
          refine (hH x y).2 ⟨m, hm, fun e => ?_⟩
          subst e
          rcases hm.uniq h1 with ⟨rfl, _⟩ | ⟨_, rfl⟩
          · exact g2 rfl
          · exact g3 rfl
        rcases h1.uniq hp with ⟨rfl, rfl⟩ | ⟨rfl, rfl⟩
        · exact hn hvc
        · exact hn hvc.symm
      rintro j j' ⟨v, c, d, h1, h2, h3⟩
      by_cases ej : j = p
      · by_cases ej' : j' = p
        · rw [if_pos ej, if_pos ej']
        · subst ej
          exact (key h1 h2 h3 ej').elim
      · by_cases ej' : j' = p
        · subst ej'
          exact (key h2 h1 h3.symm ej).elim
        · rw [if_neg ej, if_neg ej']
    have := hL.parts hR T (fun v _ => cutG_nov hR v) hG hk hp.lt e
    rw [if_neg hne, if_pos rfl] at this
    omega
end Go.Proofs.Ytdadpfkoocpfaaa
