/-
  The labels behind N rounds: of each vertex the least one that hangs together with it. No program in this text.
-/
import Derived.Test.YtdgecflljgnobaaXPRefLab
namespace Go.Proofs.Ytdgecflljgnobaa
open Go Go.Proofs

/-- An edge joins them. -/
def Adj (es : List Ed) (u v : Nat) : Prop := ∃ e ∈ es, (e.1.toNat = u ∧ e.2.1.toNat = v) ∨ (e.1.toNat = v ∧ e.2.1.toNat = u)
theorem Adj.symm {es : List Ed} {u v : Nat} (h : Adj es u v) : Adj es v u := by
  obtain ⟨e, he, h⟩ := h
  exact ⟨e, he, h.symm⟩
/-- They hang together. -/
def WayN (es : List Ed) : Nat → List Nat → Nat → Prop
  | a, [], c => a = c
  | a, b :: l, c => Adj es a b ∧ WayN es b l c
def Conn (es : List Ed) (a c : Nat) : Prop := ∃ l, WayN es a l c
theorem Conn.refl {es : List Ed} (v : Nat) : Conn es v v := ⟨[], rfl⟩
theorem Conn.step {es : List Ed} {a b c : Nat} (h : Adj es a b) (h' : Conn es b c) : Conn es a c := by
  obtain ⟨l, hl⟩ := h'
  exact ⟨b :: l, h, hl⟩
theorem Conn.ind {es : List Ed} {motive : (a c : Nat) → Conn es a c → Prop} (refl : ∀ v, motive v v (Conn.refl v)) (step : ∀ {a b c : Nat} (h1 : Adj es a b) (h2 : Conn es b c), motive b c h2 → motive a c (Conn.step h1 h2)) : ∀ {a c : Nat} (h : Conn es a c), motive a c h := by
  have key : ∀ (l : List Nat) (a c : Nat) (hl : WayN es a l c), motive a c ⟨l, hl⟩ := by
    intro l
    induction l with
    | nil =>
      intro a c hl
      have e : a = c := hl
      subst e
      exact refl a
    | cons b l ih =>
      intro a c hl
      exact step hl.1 ⟨l, hl.2⟩ (ih b c hl.2)
  intro a c h
  obtain ⟨l, hl⟩ := h
  exact key l a c hl
theorem Conn.trans {es : List Ed} {a b c : Nat} (h : Conn es a b) (h' : Conn es b c) : Conn es a c := by
  induction h using Conn.ind with
  | refl => exact h'
  | step h1 _ ih => exact .step h1 (ih h')
theorem Conn.one {es : List Ed} {a b : Nat} (h : Adj es a b) : Conn es a b := .step h (.refl _)
theorem Conn.symm {es : List Ed} {a b : Nat} (h : Conn es a b) : Conn es b a := by
  induction h using Conn.ind with
  | refl => exact .refl _
  | step h1 _ ih => exact ih.trans (.one h1.symm)
/-- Each end of each edge is below N. -/
def Ends (N : Nat) (es : List Ed) : Prop := ∀ e ∈ es, e.1.toNat < N ∧ e.2.1.toNat < N
theorem relax_get {L : List Int} {e : Ed} (h1 : e.1.toNat < L.length) (h2 : e.2.1.toNat < L.length) (v : Nat) : (relax L e).getD v 0 = if v = e.1.toNat ∨ v = e.2.1.toNat then min (L.getD e.1.toNat 0) (L.getD e.2.1.toNat 0) else L.getD v 0 := by
  unfold relax
  rw [List.getD_eq_getElem?_getD, List.getElem?_set]
  by_cases hv2 : e.2.1.toNat = v
  · subst hv2
    rw [if_pos rfl, if_pos (by simpa using h2), if_pos (.inr rfl)]
    rfl
  · rw [if_neg hv2, List.getElem?_set]
    by_cases hv1 : e.1.toNat = v
    · subst hv1
      rw [if_pos rfl, if_pos h1, if_pos (.inl rfl)]
      rfl
    · rw [if_neg hv1, if_neg (by omega), List.getD_eq_getElem?_getD]
theorem relax_le {L : List Int} {e : Ed} (h1 : e.1.toNat < L.length) (h2 : e.2.1.toNat < L.length) (v : Nat) : (relax L e).getD v 0 ≤ L.getD v 0 := by
  rw [relax_get h1 h2]
  split
  · rename_i h
    rcases h with rfl | rfl
    · exact Int.min_le_left _ _
    · exact Int.min_le_right _ _
  · exact Int.le_refl _
theorem fold_le {N : Nat} : ∀ {es : List Ed} {L : List Int}, Ends N es → L.length = N → ∀ v, (es.foldl relax L).getD v 0 ≤ L.getD v 0
  | [], _, _, _, _ => Int.le_refl _
  | e :: es, L, h, hl, v => by
    obtain ⟨h1, h2⟩ := h e (List.mem_cons_self ..)
    have ih := fold_le (es := es) (L := relax L e) (fun x hx => h x (List.mem_cons_of_mem _ hx)) (by rw [relax_len, hl]) v
    rw [List.foldl_cons]
    exact Int.le_trans ih (relax_le (by omega) (by omega) v)
theorem fold_adj {N : Nat} : ∀ {es : List Ed} {L : List Int}, Ends N es → L.length = N → ∀ {u v : Nat}, Adj es u v → (es.foldl relax L).getD u 0 ≤ L.getD v 0
  | [], _, _, _, u, v, h => by obtain ⟨e, he, _⟩ := h; simp at he
  | e :: es, L, h, hl, u, v, ha => by
    obtain ⟨h1, h2⟩ := h e (List.mem_cons_self ..)
    have hE : Ends N es := fun x hx => h x (List.mem_cons_of_mem _ hx)
    have hl' : (relax L e).length = N := by rw [relax_len, hl]
    rw [List.foldl_cons]
    obtain ⟨d, hd, hends⟩ := ha
    rcases List.mem_cons.1 hd with rfl | hd
    · have hle := fold_le hE hl' u
      have hr := relax_get (L := L) (e := d) (by omega) (by omega) u
      rcases hends with ⟨rfl, rfl⟩ | ⟨rfl, rfl⟩
      · rw [if_pos (.inl rfl)] at hr
        have := Int.min_le_right (L.getD d.1.toNat 0) (L.getD d.2.1.toNat 0)
        omega
      · rw [if_pos (.inr rfl)] at hr
        have := Int.min_le_left (L.getD d.1.toNat 0) (L.getD d.2.1.toNat 0)
        omega
    · have ih := fold_adj (es := es) (L := relax L e) hE hl' (u := u) (v := v) ⟨d, hd, hends⟩
      have := relax_le (L := L) (e := e) (by omega) (by omega) v
      omega
/-- Each label is a vertex that hangs together with its own. -/
def Sound (N : Nat) (es : List Ed) (L : List Int) : Prop := ∀ v, v < N → ∃ x : Nat, L.getD v 0 = (x : Int) ∧ x < N ∧ Conn es v x
theorem relax_sound {N : Nat} {es : List Ed} {L : List Int} {e : Ed} (hl : L.length = N) (hE : Ends N es) (he : e ∈ es) (h : Sound N es L) : Sound N es (relax L e) := by
  intro v hv
  obtain ⟨h1, h2⟩ := hE e he
  rw [relax_get (by omega) (by omega)]
  split
  · rename_i hv'
    obtain ⟨x, hx, hxN, hxc⟩ := h _ h1
    obtain ⟨y, hy, hyN, hyc⟩ := h _ h2
    have hadj : Adj es e.1.toNat e.2.1.toNat := ⟨e, he, .inl ⟨rfl, rfl⟩⟩
    rw [hx, hy]
    by_cases hxy : (x : Int) ≤ (y : Int)
    · rw [Int.min_eq_left hxy]
      refine ⟨x, rfl, hxN, ?_⟩
      rcases hv' with rfl | rfl
      · exact hxc
      · exact .step hadj.symm hxc
    · rw [Int.min_eq_right (by omega)]
      refine ⟨y, rfl, hyN, ?_⟩
      rcases hv' with rfl | rfl
      · exact .step hadj hyc
      · exact hyc
  · exact h v hv
theorem fold_sound {N : Nat} {es : List Ed} (hE : Ends N es) : ∀ {ds : List Ed} {L : List Int}, (∀ e ∈ ds, e ∈ es) → L.length = N → Sound N es L → Sound N es (ds.foldl relax L)
  | [], _, _, _, h => h
  | d :: ds, L, hsub, hl, h => by
    rw [List.foldl_cons]
    exact fold_sound hE (fun e he => hsub e (List.mem_cons_of_mem _ he)) (by rw [relax_len, hl]) (relax_sound hl hE (hsub d (List.mem_cons_self ..)) h)
theorem labAt_sound {N : Nat} {es : List Ed} (hE : Ends N es) : ∀ i, Sound N es (labAt N es i)
  | 0 => fun v hv => ⟨v, by simp [labAt, idL, hv], hv, .refl _⟩
  | i + 1 => fold_sound hE (fun _ h => h) (labAt_len N es i) (labAt_sound hE i)
/-- Within i steps. -/
def ball (es : List Ed) : Nat → Nat → Nat → Bool
  | 0, v, u => v == u
  | i + 1, v, u => ball es i v u || es.any fun e => (e.1.toNat == v && ball es i e.2.1.toNat u) || (e.2.1.toNat == v && ball es i e.1.toNat u)
theorem ball_next {es : List Ed} {i v u : Nat} : ball es (i + 1) v u = true ↔ ball es i v u = true ∨ ∃ w, Adj es v w ∧ ball es i w u = true := by
  rw [ball, Bool.or_eq_true, List.any_eq_true]
  refine or_congr_right ⟨?_, ?_⟩
  · rintro ⟨e, he, h⟩
    simp only [Bool.or_eq_true, Bool.and_eq_true, beq_iff_eq] at h
    rcases h with ⟨h1, h2⟩ | ⟨h1, h2⟩
    · exact ⟨_, ⟨e, he, .inl ⟨h1, rfl⟩⟩, h2⟩
    · exact ⟨_, ⟨e, he, .inr ⟨rfl, h1⟩⟩, h2⟩
  · rintro ⟨w, ⟨e, he, h⟩, hb⟩
    refine ⟨e, he, ?_⟩
    simp only [Bool.or_eq_true, Bool.and_eq_true, beq_iff_eq]
    rcases h with ⟨h1, h2⟩ | ⟨h1, h2⟩
    · exact .inl ⟨h1, by rw [h2]; exact hb⟩
    · exact .inr ⟨h2, by rw [h1]; exact hb⟩
theorem ball_mono {es : List Ed} {i v u : Nat} (h : ball es i v u = true) : ball es (i + 1) v u = true := ball_next.2 (.inl h)
theorem labAt_ball {N : Nat} {es : List Ed} (hE : Ends N es) : ∀ (i : Nat) {v u : Nat}, v < N → ball es i v u = true → (labAt N es i).getD v 0 ≤ (u : Int)
  | 0, v, u, hv, h => by
    have : v = u := by simpa [ball] using h
    subst this
    simp [labAt, idL, hv]
  | i + 1, v, u, hv, h => by
    show (es.foldl relax (labAt N es i)).getD v 0 ≤ _
    rcases ball_next.1 h with h | ⟨w, ha, h⟩
    · exact Int.le_trans (fold_le hE (labAt_len N es i) v) (labAt_ball hE i hv h)
    · have hw : w < N := by
        obtain ⟨e, he, h1⟩ := ha
        have := hE e he
        rcases h1 with ⟨_, rfl⟩ | ⟨rfl, _⟩
        · exact this.2
        · exact this.1
      exact Int.le_trans (fold_adj hE (labAt_len N es i) ha) (labAt_ball hE i hw h)
theorem countP_grow {α : Type} {p q : α → Bool} : ∀ {l : List α}, (∀ x ∈ l, p x = true → q x = true) → (∃ x ∈ l, q x = true ∧ p x = false) → l.countP p + 1 ≤ l.countP q
  | [], _, h => by obtain ⟨x, hx, _⟩ := h; simp at hx
  | a :: l, hm, h => by
    obtain ⟨x, hx, hq, hp⟩ := h
    have mono : l.countP p ≤ l.countP q := List.countP_mono_left fun y hy => hm y (List.mem_cons_of_mem _ hy)
    rw [List.countP_cons, List.countP_cons]
    rcases List.mem_cons.1 hx with rfl | hx
    · rw [hq, hp]
      simp
      exact mono
    · have ih := countP_grow (l := l) (fun y hy => hm y (List.mem_cons_of_mem _ hy)) ⟨x, hx, hq, hp⟩
      have ha := hm a (List.mem_cons_self ..)
      cases hpa : p a with
      | false => cases q a <;> simp <;> omega
      | true => rw [ha hpa]; simp; omega
theorem adj_below {N : Nat} {es : List Ed} (hE : Ends N es) {v w : Nat} (h : Adj es v w) : v < N ∧ w < N := by
  obtain ⟨e, he, h1⟩ := h
  have := hE e he
  rcases h1 with ⟨rfl, rfl⟩ | ⟨rfl, rfl⟩
  · exact this
  · exact ⟨this.2, this.1⟩
/-- A step that finds nothing new is the last one. -/
def Still (N : Nat) (es : List Ed) (u i : Nat) : Prop := ∀ v, v < N → ball es (i + 1) v u = true → ball es i v u = true
theorem still_on {N : Nat} {es : List Ed} (hE : Ends N es) {u i : Nat} (h : Still N es u i) : ∀ k, ∀ v, v < N → ball es (i + k) v u = true → ball es i v u = true
  | 0, _, _, hb => hb
  | k + 1, v, hv, hb => by
    have hb' : ball es (i + k + 1) v u = true := hb
    rcases ball_next.1 hb' with h1 | ⟨w, ha, h1⟩
    · exact still_on hE h k v hv h1
    · exact h v hv (ball_next.2 (.inr ⟨w, ha, still_on hE h k w (adj_below hE ha).2 h1⟩))
theorem ball_up {es : List Ed} {i v u : Nat} (h : ball es i v u = true) : ∀ k, ball es (i + k) v u = true
  | 0 => h
  | k + 1 => ball_mono (ball_up h k)
def cntB (N : Nat) (es : List Ed) (u i : Nat) : Nat := (List.range N).countP fun v => ball es i v u
theorem still_soon {N : Nat} {es : List Ed} {u : Nat} (hu : u < N) : ∀ i, (∃ j, j < i ∧ Still N es u j) ∨ i + 1 ≤ cntB N es u i
  | 0 => by
    refine .inr ?_
    have : 0 < cntB N es u 0 := List.countP_pos_iff.2 ⟨u, List.mem_range.2 hu, by simp [ball]⟩
    omega
  | i + 1 => by
    rcases still_soon (N := N) (es := es) hu i with ⟨j, hj, h⟩ | h
    · exact .inl ⟨j, by omega, h⟩
    · by_cases hs : Still N es u i
      · exact .inl ⟨i, by omega, hs⟩
      · refine .inr ?_
        have hex : ∃ v, v < N ∧ ball es (i + 1) v u = true ∧ ball es i v u = false := by
          refine Classical.byContradiction fun hno => hs fun v hv hb => ?_
          cases hc : ball es i v u with
          | true => rfl
          | false => exact absurd ⟨v, hv, hb, hc⟩ hno
        obtain ⟨v, hv, h1, h2⟩ := hex
        have := countP_grow (l := List.range N) (p := fun v => ball es i v u) (q := fun v => ball es (i + 1) v u) (fun x _ hx => ball_mono hx) ⟨v, List.mem_range.2 hv, h1, h2⟩
        have h3 : cntB N es u i + 1 ≤ cntB N es u (i + 1) := this
        omega
theorem conn_some {es : List Ed} {v u : Nat} (h : Conn es v u) : ∃ k, ball es k v u = true := by
  induction h using Conn.ind with
  | refl v => exact ⟨0, by simp [ball]⟩
  | step ha _ ih =>
    obtain ⟨k, hk⟩ := ih
    exact ⟨k + 1, ball_next.2 (.inr ⟨_, ha, hk⟩)⟩
theorem conn_ball {N : Nat} {es : List Ed} (hE : Ends N es) {v u : Nat} (hv : v < N) (hu : u < N) (h : Conn es v u) : ball es N v u = true := by
  obtain ⟨k, hk⟩ := conn_some h
  rcases still_soon (N := N) (es := es) hu N with ⟨j, hj, hs⟩ | hc
  · have h1 : ball es j v u = true := by
      by_cases hkj : k ≤ j
      · have := ball_up hk (j - k)
        rwa [show k + (j - k) = j by omega] at this
      · exact still_on hE hs (k - j) v hv (by rw [show j + (k - j) = k by omega]; exact hk)
    have := ball_up h1 (N - j)
    rwa [show j + (N - j) = N by omega] at this
  · have : cntB N es u N ≤ N := by
      have := List.countP_le_length (p := fun v => ball es N v u) (l := List.range N)
      rw [List.length_range] at this
      exact this
    omega
/-- The label of a vertex is the least one that hangs together with it. -/
theorem lab_least {N : Nat} {es : List Ed} (hE : Ends N es) {v : Nat} (hv : v < N) : ∃ x : Nat, (labAt N es N).getD v 0 = (x : Int) ∧ x < N ∧ Conn es v x ∧ ∀ u, u < N → Conn es v u → x ≤ u := by
  obtain ⟨x, hx, hxN, hc⟩ := labAt_sound hE N v hv
  refine ⟨x, hx, hxN, hc, fun u hu h => ?_⟩
  have := labAt_ball hE N hv (conn_ball hE hv hu h)
  rw [hx] at this
  omega
theorem lab_same {N : Nat} {es : List Ed} (hE : Ends N es) {v u : Nat} (hv : v < N) (hu : u < N) : (labAt N es N).getD v 0 = (labAt N es N).getD u 0 ↔ Conn es v u := by
  obtain ⟨x, hx, hxN, hxc, hxl⟩ := lab_least hE hv
  obtain ⟨y, hy, hyN, hyc, hyl⟩ := lab_least hE hu
  rw [hx, hy]
  constructor
  · intro e
    have : x = y := by omega
    subst this
    exact hxc.trans hyc.symm
  · intro h
    have h1 := hxl y hyN (h.trans hyc)
    have h2 := hyl x hxN (h.symm.trans hxc)
    omega
theorem right_ends {N : Nat} {es : List Ed} (h : RightG (N : Int) es) : Ends N es := fun e he => by
  have := (h.each e he).1
  unfold okE at this
  omega
end Go.Proofs.Ytdgecflljgnobaa
