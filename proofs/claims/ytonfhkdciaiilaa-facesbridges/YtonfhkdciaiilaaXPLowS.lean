/-
  Trees of a walk: ways back, which edges lead up, where a block begins. No program in this text.
-/
import Derived.Test.YtonfhkdciaiilaaXPTree
namespace Go.Proofs.Ytonfhkdciaiilaa
open Go Go.Proofs

/-- The edge at place k joins a and b. -/
def Joins (l : List Ed) (k a b : Nat) : Prop := ∃ e, l[k]? = some e ∧ ((e.1 = (a : Int) ∧ e.2.1 = (b : Int)) ∨ (e.1 = (b : Int) ∧ e.2.1 = (a : Int)))
theorem Joins.symm {l : List Ed} {k a b : Nat} (h : Joins l k a b) : Joins l k b a := by
  obtain ⟨e, h1, h2⟩ := h
  exact ⟨e, h1, h2.symm⟩
theorem Joins.lt {l : List Ed} {k a b : Nat} (h : Joins l k a b) : k < l.length := by
  obtain ⟨e, h1, h2⟩ := h
  exact (List.getElem?_eq_some_iff.1 h1).1
theorem Joins.adj {l : List Ed} {k a b : Nat} (h : Joins l k a b) : Adj l a b := by
  obtain ⟨e, h1, h2⟩ := h
  refine ⟨e, List.mem_of_getElem? h1, ?_⟩
  omega
theorem Joins.uniq {l : List Ed} {k a b c d : Nat} (h : Joins l k a b) (h' : Joins l k c d) : (a = c ∧ b = d) ∨ (a = d ∧ b = c) := by
  obtain ⟨e, h1, h2⟩ := h
  obtain ⟨e', h1', h2'⟩ := h'
  rw [h1] at h1'
  cases h1'
  omega
theorem adj_joins {N : Nat} {l : List Ed} (hR : RightG (N : Int) l) {a b : Nat} (h : Adj l a b) : ∃ k, Joins l k a b := by
  obtain ⟨e, he, h1⟩ := h
  obtain ⟨k, hk⟩ := List.getElem?_of_mem he
  have := (hR.each e he).1
  unfold okE at this
  refine ⟨k, e, hk, ?_⟩
  omega
theorem Joins.ne {N : Nat} {l : List Ed} (hR : RightG (N : Int) l) {k a b : Nat} (h : Joins l k a b) : a ≠ b := by
  obtain ⟨e, h1, h2⟩ := h
  have := (hR.each e (List.mem_of_getElem? h1)).2
  omega
theorem Joins.below {N : Nat} {l : List Ed} (hR : RightG (N : Int) l) {k a b : Nat} (h : Joins l k a b) : a < N ∧ b < N := adj_below (right_ends hR) h.adj
/-- No two edges have the same ends. -/
theorem Joins.same {N : Nat} {l : List Ed} (hR : RightG (N : Int) l) {k j a b : Nat} (h : Joins l k a b) (h' : Joins l j a b) : k = j := by
  obtain ⟨e, h1, h2⟩ := h
  obtain ⟨d, h3, h4⟩ := h'
  obtain ⟨hk, ek⟩ := List.getElem?_eq_some_iff.1 h1
  obtain ⟨hj, ej⟩ := List.getElem?_eq_some_iff.1 h3
  have r1 := (hR.each e (List.mem_of_getElem? h1)).2
  have r2 := (hR.each d (List.mem_of_getElem? h3)).2
  have key : ∀ x y : Nat, (hx : x < l.length) → (hy : y < l.length) → x < y → lo l[x] l[y] = true := fun x y hx hy hxy => List.pairwise_iff_getElem.1 hR.rise x y hx hy hxy
  have e1 : e.1 = d.1 := by omega
  have e2 : e.2.1 = d.2.1 := by omega
  rcases Nat.lt_trichotomy k j with hlt | heq | hgt
  · have := key k j hk hj hlt
    rw [ek, ej] at this
    unfold lo at this
    simp [e1, e2] at this
  · exact heq
  · have := key j k hj hk hgt
    rw [ek, ej] at this
    unfold lo at this
    simp [e1, e2] at this
/-- It leads from w up to u. -/
def EdP (l : List Ed) (D : List Int) (k u w : Nat) : Prop := Joins l k u w ∧ D.getD u 0 < D.getD w 0
theorem EdP.uniq {l : List Ed} {D : List Int} {k u w u' w' : Nat} (h : EdP l D k u w) (h' : EdP l D k u' w') : u = u' ∧ w = w' := by
  rcases h.1.uniq h'.1 with h1 | ⟨rfl, rfl⟩
  · exact h1
  · have h2 := h.2
    have h3 := h'.2
    omega
theorem Anc.cases {F : List Int} {u v : Nat} (h : Anc F u v) : v = u ∨ ∃ x : Nat, F.getD v 0 = (x : Int) ∧ Anc F u x := by
  obtain ⟨ls, hl⟩ := h
  cases ls with
  | nil => exact .inl hl
  | cons x ls => exact .inr ⟨x, hl.1, ls, hl.2⟩
theorem Anc.trans {F : List Int} {a b c : Nat} (h : Anc F a b) (h' : Anc F b c) : Anc F a c := by
  obtain ⟨ls, hl⟩ := h'
  induction ls generalizing c with
  | nil =>
    have e : c = b := hl
    subst e
    exact h
  | cons x ls ih => exact .up hl.1 (ih hl.2)
theorem Anc.comp {F : List Int} {a b w : Nat} (h : Anc F a w) (h' : Anc F b w) : Anc F a b ∨ Anc F b a := by
  obtain ⟨ls, hl⟩ := h
  induction ls generalizing w with
  | nil =>
    have e : w = a := hl
    subst e
    exact .inr h'
  | cons x ls ih =>
    rcases h'.cases with rfl | ⟨y, hy, hb⟩
    · exact .inl ⟨x :: ls, hl⟩
    · have hx := hl.1
      have : x = y := by omega
      subst this
      exact ih hb hl.2
/-- What a walk over all leaves. -/
structure Tr (N : Nat) (l : List Ed) (D F : List Int) : Prop where
  pos : ∀ v, v < N → 0 ≤ D.getD v 0
  par : ∀ v, v < N → (D.getD v 0 = 0 ∧ F.getD v 0 = -1) ∨ ∃ u : Nat, u < N ∧ F.getD v 0 = (u : Int) ∧ D.getD v 0 = D.getD u 0 + 1 ∧ Adj l u v
  edge : ∀ k u w, Joins l k u w → Anc F u w ∨ Anc F w u
theorem walk_tr {N : Nat} {l : List Ed} (hR : RightG (N : Int) l) : Tr N l (walkW N l).depth (walkW N l).from_ := by
  refine ⟨fun v hv => (tree_par hR hv).1, fun v hv => ?_, fun k u w h => ?_⟩
  · rcases (tree_par hR hv).2 with h | ⟨u, a, b, c, d, e⟩
    · exact .inl ⟨h.1, h.2.1⟩
    · exact .inr ⟨u, a, b, d, c⟩
  · rcases tree_edge hR (h.below hR).1 h.adj with h1 | h1
    · exact .inr h1
    · exact .inl h1
theorem Tr.anc {N : Nat} {l : List Ed} {D F : List Int} (T : Tr N l D F) {u v : Nat} (hv : v < N) (h : Anc F u v) : u < N ∧ (u = v ∨ D.getD u 0 < D.getD v 0) := by
  obtain ⟨ls, hl⟩ := h
  induction ls generalizing v with
  | nil =>
    have e : v = u := hl
    subst e
    exact ⟨hv, .inl rfl⟩
  | cons x ls ih =>
    have hx := hl.1
    rcases T.par v hv with ⟨_, h2⟩ | ⟨y, a, b, c, _⟩
    · omega
    · have : x = y := by omega
      subst this
      obtain ⟨h3, h4⟩ := ih a hl.2
      refine ⟨h3, .inr ?_⟩
      rcases h4 with rfl | h4 <;> omega
theorem Tr.le {N : Nat} {l : List Ed} {D F : List Int} (T : Tr N l D F) {u v : Nat} (hv : v < N) (h : Anc F u v) : D.getD u 0 ≤ D.getD v 0 := by
  rcases (T.anc hv h).2 with rfl | h1
  · exact Int.le_refl _
  · omega
theorem Tr.anti {N : Nat} {l : List Ed} {D F : List Int} (T : Tr N l D F) {u v : Nat} (hv : v < N) (h : Anc F u v) (h' : Anc F v u) : u = v := by
  obtain ⟨hu, h1⟩ := T.anc hv h
  rcases h1 with h1 | h1
  · exact h1
  · have := T.le hu h'
    omega
theorem EdP.anc {N : Nat} {l : List Ed} {D F : List Int} (hR : RightG (N : Int) l) (T : Tr N l D F) {k u w : Nat} (h : EdP l D k u w) : Anc F u w := by
  rcases T.edge k u w h.1 with h1 | h1
  · exact h1
  · have := T.le (h.1.below hR).1 h1
    have := h.2
    omega
/-- Each edge leads up, from one of its ends. -/
theorem Tr.edp {N : Nat} {l : List Ed} {D F : List Int} (hR : RightG (N : Int) l) (T : Tr N l D F) {k u w : Nat} (h : Joins l k u w) : EdP l D k u w ∨ EdP l D k w u := by
  obtain ⟨hu, hw⟩ := h.below hR
  rcases T.edge k u w h with h1 | h1
  · rcases (T.anc hw h1).2 with h2 | h2
    · exact absurd h2 (h.ne hR)
    · exact .inl ⟨h, h2⟩
  · rcases (T.anc hu h1).2 with h2 | h2
    · exact absurd h2.symm (h.ne hR)
    · exact .inr ⟨h.symm, h2⟩
/-- Nothing beyond h leads past the one it was come from. -/
def Head (l : List Ed) (D F : List Int) (h : Nat) : Prop := ∃ q : Nat, F.getD h 0 = (q : Int) ∧ ∀ k u w, EdP l D k u w → Anc F h w → D.getD q 0 ≤ D.getD u 0
/-- h is the nearest such one on the way back from w. -/
def HeadOf (l : List Ed) (D F : List Int) (h w : Nat) : Prop := Anc F h w ∧ Head l D F h ∧ ∀ y, Anc F y w → Anc F h y → y ≠ h → ¬ Head l D F y
/-- A vertex that is come to from the first one is a head. -/
theorem Tr.first {N : Nat} {l : List Ed} {D F : List Int} (hR : RightG (N : Int) l) (T : Tr N l D F) {w : Nat} (hw : w < N) (hd : 0 < D.getD w 0) : ∃ y, Anc F y w ∧ Head l D F y := by
  obtain ⟨n, hn⟩ : ∃ n : Nat, D.getD w 0 = (n : Int) := ⟨(D.getD w 0).toNat, by omega⟩
  induction n generalizing w with
  | zero => omega
  | succ n ih =>
    rcases T.par w hw with ⟨h1, _⟩ | ⟨u, a, b, c, _⟩
    · omega
    · by_cases hu : D.getD u 0 = 0
      · refine ⟨w, Anc.refl _ _, u, b, fun k x y h _ => ?_⟩
        have := T.pos x (h.1.below hR).1
        omega
      · have := T.pos u a
        obtain ⟨y, h1, h2⟩ := ih a (by omega) (by omega)
        exact ⟨y, .up b h1, h2⟩
/-- The links, with their places. -/
structure LinksP (N : Nat) (l : List Ed) (lk : List (List (Int × Int))) : Prop where
  sound : ∀ v x, v < N → x ∈ lk.getD v [] → ∃ y k : Nat, x = ((y : Int), (k : Int)) ∧ y < N ∧ Joins l k v y
  full : ∀ k v y, v < N → Joins l k v y → ((y : Int), (k : Int)) ∈ lk.getD v []
theorem linkOf_iff {v : Int} {x : Int × Int} : ∀ {l : List Ed} {p : Nat}, x ∈ linkOf v p l ↔ ∃ k e, l[k]? = some e ∧ x.2 = ((p + k : Nat) : Int) ∧ ((e.1 = v ∧ x.1 = e.2.1) ∨ (e.1 ≠ v ∧ e.2.1 = v ∧ x.1 = e.1))
  | [], p => by simp [linkOf]
  | e :: l, p => by
    rw [linkOf, List.mem_append, linkOf_iff (l := l) (p := p + 1)]
    constructor
    · rintro (h | ⟨k, d, h1, h2, h3⟩)
      · refine ⟨0, e, rfl, ?_⟩
        split at h
        · rename_i he
          have := List.mem_singleton.1 h
          subst this
          exact ⟨rfl, .inl ⟨he, rfl⟩⟩
        · rename_i he
          split at h
          · rename_i he2
            have := List.mem_singleton.1 h
            subst this
            exact ⟨rfl, .inr ⟨he, he2, rfl⟩⟩
          · simp at h
      · exact ⟨k + 1, d, by rw [List.getElem?_cons_succ]; exact h1, by rw [h2]; congr 1; omega, h3⟩
    · rintro ⟨k, d, h1, h2, h3⟩
      cases k with
      | zero =>
        left
        rw [List.getElem?_cons_zero] at h1
        cases h1
        obtain ⟨x1, x2⟩ := x
        simp only at h2 h3
        rcases h3 with ⟨h4, h5⟩ | ⟨h4, h5, h6⟩
        · rw [if_pos h4]
          exact List.mem_singleton.2 (by rw [h2, h5]; rfl)
        · rw [if_neg h4, if_pos h5]
          exact List.mem_singleton.2 (by rw [h2, h6]; rfl)
      | succ k =>
        right
        rw [List.getElem?_cons_succ] at h1
        exact ⟨k, d, h1, by rw [h2]; congr 1; omega, h3⟩
theorem links_p {N : Nat} {l : List Ed} (hR : RightG (N : Int) l) : LinksP N l (linksL N l) := by
  refine ⟨fun v x hv hx => ?_, fun k v y hv h => ?_⟩
  · rw [linksL_get hv] at hx
    obtain ⟨k, e, h1, h2, h3⟩ := linkOf_iff.1 hx
    have := (hR.each e (List.mem_of_getElem? h1)).1
    unfold okE at this
    obtain ⟨x1, x2⟩ := x
    simp only at h2 h3
    refine ⟨x1.toNat, k, ?_, ?_, e, h1, ?_⟩
    · rw [h2, Nat.zero_add, Int.toNat_of_nonneg (by omega)]
    · omega
    · omega
  · rw [linksL_get hv]
    have hne := h.ne hR
    obtain ⟨e, h1, h2⟩ := h
    refine linkOf_iff.2 ⟨k, e, h1, by simp, ?_⟩
    show (e.1 = (v : Int) ∧ (y : Int) = e.2.1) ∨ (e.1 ≠ (v : Int) ∧ e.2.1 = (v : Int) ∧ (y : Int) = e.1)
    omega
end Go.Proofs.Ytonfhkdciaiilaa
