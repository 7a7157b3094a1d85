/-
  Two colours: the reference's rounds, held against how deep the walk came to each vertex. No program in this text.
-/
import Derived.Test.YtdgecflljgnobaaXPTree
namespace Go.Proofs.Ytdgecflljgnobaa
open Go Go.Proofs

/-- The first of the two looks at an edge. -/
def tint1 (L : List Int) (u v : Nat) : List Int := if L.getD u 0 ≠ 0 ∧ L.getD v 0 = 0 then L.set v (3 - L.getD u 0) else L
def tint (L : List Int) (e : Ed) : List Int := tint1 (tint1 L e.1.toNat e.2.1.toNat) e.2.1.toNat e.1.toNat
theorem tint1_len (L : List Int) (u v : Nat) : (tint1 L u v).length = L.length := by unfold tint1; split <;> simp
theorem tint_len (L : List Int) (e : Ed) : (tint L e).length = L.length := by unfold tint; rw [tint1_len, tint1_len]
theorem fold_tint_len : ∀ (es : List Ed) (L : List Int), (es.foldl tint L).length = L.length
  | [], _ => rfl
  | e :: es, L => by rw [List.foldl_cons, fold_tint_len es, tint_len]
def c0L (N : Nat) (es : List Ed) : List Int := (List.range N).map fun (v : Nat) => if (labAt N es N).getD v 0 = (v : Int) then 1 else 0
def cAt (N : Nat) (es : List Ed) : Nat → List Int
  | 0 => c0L N es
  | i + 1 => es.foldl tint (cAt N es i)
theorem cAt_len (N : Nat) (es : List Ed) : ∀ i, (cAt N es i).length = N
  | 0 => by simp [cAt, c0L]
  | i + 1 => by rw [cAt, fold_tint_len, cAt_len N es i]
/-- Colours are none, one, two. -/
def Cols (L : List Int) : Prop := ∀ y, L.getD y 0 = 0 ∨ L.getD y 0 = 1 ∨ L.getD y 0 = 2
theorem tint1_get {L : List Int} {u v : Nat} (hv : v < L.length) (y : Nat) : (tint1 L u v).getD y 0 = if L.getD u 0 ≠ 0 ∧ L.getD v 0 = 0 ∧ y = v then 3 - L.getD u 0 else L.getD y 0 := by
  unfold tint1
  by_cases h : L.getD u 0 ≠ 0 ∧ L.getD v 0 = 0
  · rw [if_pos h, set_getD]
    by_cases e : v = y
    · rw [if_pos ⟨e, hv⟩, if_pos ⟨h.1, h.2, e.symm⟩]
    · rw [if_neg (fun a => e a.1), if_neg (fun a => e a.2.2.symm)]
  · rw [if_neg h, if_neg (fun a => h ⟨a.1, a.2.1⟩)]
theorem tint1_cols {L : List Int} {u v : Nat} (hv : v < L.length) (h : Cols L) : Cols (tint1 L u v) := by
  intro y
  rw [tint1_get hv]
  split
  · rename_i hc
    rcases h u with h1 | h1 | h1 <;> omega
  · exact h y
theorem tint1_keep {L : List Int} {u v : Nat} (hv : v < L.length) {y : Nat} (hy : L.getD y 0 ≠ 0) : (tint1 L u v).getD y 0 = L.getD y 0 := by
  rw [tint1_get hv]
  split
  · rename_i hc
    rw [hc.2.2] at hy
    exact absurd hc.2.1 hy
  · rfl
theorem tint1_on {L : List Int} {u v : Nat} (hv : v < L.length) (h : Cols L) (hu : L.getD u 0 ≠ 0) : (tint1 L u v).getD v 0 ≠ 0 := by
  rw [tint1_get hv]
  split
  · rcases h u with h1 | h1 | h1 <;> omega
  · rename_i hc
    exact fun e => hc ⟨hu, e, rfl⟩
theorem tint_cols {L : List Int} {e : Ed} {N : Nat} (hL : L.length = N) (he : e.1.toNat < N ∧ e.2.1.toNat < N) (h : Cols L) : Cols (tint L e) :=
  tint1_cols (by rw [tint1_len]; omega) (tint1_cols (by omega) h)
theorem tint_keep {L : List Int} {e : Ed} {N : Nat} (hL : L.length = N) (he : e.1.toNat < N ∧ e.2.1.toNat < N) {y : Nat} (hy : L.getD y 0 ≠ 0) : (tint L e).getD y 0 = L.getD y 0 := by
  have h1 := tint1_keep (u := e.1.toNat) (v := e.2.1.toNat) (L := L) (by omega) hy
  have h2 := tint1_keep (u := e.2.1.toNat) (v := e.1.toNat) (L := tint1 L e.1.toNat e.2.1.toNat) (by rw [tint1_len]; omega) (y := y) (by rw [h1]; exact hy)
  exact h2.trans h1
theorem tint_on {L : List Int} {e : Ed} {N : Nat} (hL : L.length = N) (he : e.1.toNat < N ∧ e.2.1.toNat < N) (h : Cols L) : (L.getD e.1.toNat 0 ≠ 0 → (tint L e).getD e.2.1.toNat 0 ≠ 0) ∧ (L.getD e.2.1.toNat 0 ≠ 0 → (tint L e).getD e.1.toNat 0 ≠ 0) := by
  have hl1 : (tint1 L e.1.toNat e.2.1.toNat).length = N := by rw [tint1_len]; exact hL
  constructor
  · intro hu
    have h1 := tint1_on (v := e.2.1.toNat) (by omega) h hu
    unfold tint
    rw [tint1_keep (by omega) h1]
    exact h1
  · intro hv
    have h1 : (tint1 L e.1.toNat e.2.1.toNat).getD e.2.1.toNat 0 ≠ 0 := by rw [tint1_keep (by omega) hv]; exact hv
    exact tint1_on (by omega) (tint1_cols (by omega) h) h1
theorem fold_cols {N : Nat} : ∀ {es : List Ed} {L : List Int}, Ends N es → L.length = N → Cols L → Cols (es.foldl tint L)
  | [], _, _, _, h => h
  | e :: es, L, hE, hL, h => by
    rw [List.foldl_cons]
    exact fold_cols (fun x hx => hE x (List.mem_cons_of_mem _ hx)) (by rw [tint_len]; exact hL) (tint_cols hL (hE e (List.mem_cons_self ..)) h)
theorem fold_keep {N : Nat} : ∀ {es : List Ed} {L : List Int}, Ends N es → L.length = N → ∀ {y : Nat}, L.getD y 0 ≠ 0 → (es.foldl tint L).getD y 0 = L.getD y 0
  | [], _, _, _, _, _ => rfl
  | e :: es, L, hE, hL, y, hy => by
    have h1 := tint_keep hL (hE e (List.mem_cons_self ..)) hy
    rw [List.foldl_cons, fold_keep (fun x hx => hE x (List.mem_cons_of_mem _ hx)) (by rw [tint_len]; exact hL) (by rw [h1]; exact hy), h1]
theorem fold_on {N : Nat} {a b : Nat} : ∀ {es : List Ed} {L : List Int}, Ends N es → L.length = N → Cols L → Adj es a b → L.getD b 0 ≠ 0 → (es.foldl tint L).getD a 0 ≠ 0
  | [], _, _, _, _, h, _ => by obtain ⟨e, he, _⟩ := h; simp at he
  | e :: es, L, hE, hL, hC, h, hb => by
    have hE' : Ends N es := fun x hx => hE x (List.mem_cons_of_mem _ hx)
    have he := hE e (List.mem_cons_self ..)
    have hl := (tint_len L e).trans hL
    rw [List.foldl_cons]
    obtain ⟨x, hx, hxe⟩ := h
    rcases List.mem_cons.1 hx with rfl | hx
    · have hon := tint_on hL he hC
      have : (tint L x).getD a 0 ≠ 0 := by
        rcases hxe with ⟨h1, h2⟩ | ⟨h1, h2⟩
        · rw [← h1]; exact hon.2 (by rw [h2]; exact hb)
        · rw [← h2]; exact hon.1 (by rw [h1]; exact hb)
      rw [fold_keep hE' hl this]
      exact this
    · exact fold_on hE' hl (tint_cols hL he hC) ⟨x, hx, hxe⟩ (by rw [tint_keep hL he hb]; exact hb)
theorem cAt_cols {N : Nat} {es : List Ed} (hE : Ends N es) : ∀ i, Cols (cAt N es i)
  | 0 => fun y => by
    by_cases h : y < N
    · have : (cAt N es 0).getD y 0 = if (labAt N es N).getD y 0 = (y : Int) then 1 else 0 := by simp [cAt, c0L, h]
      rw [this]
      split <;> simp
    · have : (cAt N es 0).getD y 0 = 0 := by simp [cAt, c0L, h]
      exact .inl this
  | i + 1 => fold_cols hE (cAt_len N es i) (cAt_cols hE i)
theorem cAt_ball {N : Nat} {es : List Ed} (hE : Ends N es) {r : Nat} (hr : r < N) (hlab : (labAt N es N).getD r 0 = (r : Int)) : ∀ (i : Nat) {v : Nat}, v < N → ball es i v r = true → (cAt N es i).getD v 0 ≠ 0
  | 0, v, hv, h => by
    have : v = r := by simpa [ball] using h
    subst this
    have : (cAt N es 0).getD v 0 = if (labAt N es N).getD v 0 = (v : Int) then 1 else 0 := by simp [cAt, c0L, hv]
    rw [this, if_pos hlab]
    decide
  | i + 1, v, hv, h => by
    show (es.foldl tint (cAt N es i)).getD v 0 ≠ 0
    rcases ball_next.1 h with h | ⟨w, ha, h⟩
    · have := cAt_ball hE hr hlab i hv h
      rw [fold_keep hE (cAt_len N es i) this]
      exact this
    · have hw : w < N := (adj_below hE ha).2
      exact fold_on hE (cAt_len N es i) (cAt_cols hE i) ha (cAt_ball hE hr hlab i hw h)
/-- All get a colour. -/
theorem cAt_all {N : Nat} {es : List Ed} (hE : Ends N es) {v : Nat} (hv : v < N) : (cAt N es N).getD v 0 ≠ 0 := by
  obtain ⟨x, hx, hxN, hxc, hxl⟩ := lab_least hE hv
  refine cAt_ball hE hxN ?_ N hv (conn_ball hE hv hxN hxc)
  rw [← (lab_same hE hv hxN).2 hxc]
  exact hx
/-- The colour that is told by how deep a vertex lies. -/
def colD (D : List Int) (y : Nat) : Int := 1 + D.getD y 0 % 2
def Proper (D : List Int) (es : List Ed) : Prop := ∀ e ∈ es, D.getD e.1.toNat 0 % 2 ≠ D.getD e.2.1.toNat 0 % 2
theorem tint1_proper {L D : List Int} {u v : Nat} (hv : v < L.length) (hd : D.getD u 0 % 2 ≠ D.getD v 0 % 2) (h : ∀ y, L.getD y 0 ≠ 0 → L.getD y 0 = colD D y) : ∀ y, (tint1 L u v).getD y 0 ≠ 0 → (tint1 L u v).getD y 0 = colD D y := by
  intro y
  rw [tint1_get hv]
  split
  · rename_i hc
    intro _
    have := h u hc.1
    rw [this, hc.2.2]
    unfold colD
    omega
  · exact h y
theorem fold_proper {N : Nat} {D : List Int} : ∀ {es : List Ed} {L : List Int}, Ends N es → L.length = N → Proper D es → (∀ y, L.getD y 0 ≠ 0 → L.getD y 0 = colD D y) → ∀ y, (es.foldl tint L).getD y 0 ≠ 0 → (es.foldl tint L).getD y 0 = colD D y
  | [], _, _, _, _, h => h
  | e :: es, L, hE, hL, hP, h => by
    rw [List.foldl_cons]
    have he := hE e (List.mem_cons_self ..)
    have hp := hP e (List.mem_cons_self ..)
    refine fold_proper (fun x hx => hE x (List.mem_cons_of_mem _ hx)) (by rw [tint_len]; exact hL) (fun x hx => hP x (List.mem_cons_of_mem _ hx)) ?_
    exact tint1_proper (by rw [tint1_len]; omega) (Ne.symm hp) (tint1_proper (by omega) hp h)
theorem cAt_proper {N : Nat} {l : List Ed} (hR : RightG (N : Int) l) (hP : Proper (walkW N l).depth l) : ∀ i y, (cAt N l i).getD y 0 ≠ 0 → (cAt N l i).getD y 0 = colD (walkW N l).depth y
  | 0, y, h => by
    by_cases hy : y < N
    · have e : (cAt N l 0).getD y 0 = if (labAt N l N).getD y 0 = (y : Int) then 1 else 0 := by simp [cAt, c0L, hy]
      rw [e] at h ⊢
      by_cases hr : (labAt N l N).getD y 0 = (y : Int)
      · rw [if_pos hr]
        rw [← walk_root hR] at hr
        have := (root_iff hR hy).1 hr
        unfold colD
        rw [this]
        rfl
      · rw [if_neg hr] at h
        exact absurd rfl h
    · have : (cAt N l 0).getD y 0 = 0 := by simp [cAt, c0L, hy]
      exact absurd this h
  | i + 1, y, h => fold_proper (right_ends hR) (cAt_len N l i) hP (cAt_proper hR hP i) y h
theorem two_yes {N : Nat} {l : List Ed} (hR : RightG (N : Int) l) (hP : Proper (walkW N l).depth l) {v : Nat} (hv : v < N) : (cAt N l N).getD v 0 = colD (walkW N l).depth v := cAt_proper hR hP N v (cAt_all (right_ends hR) hv)
/-- If no edge has one colour at both ends, then colours are told by how deep. -/
theorem two_deep {N : Nat} {l : List Ed} (hR : RightG (N : Int) l) (hc : ∀ a b, a < N → Adj l a b → (cAt N l N).getD a 0 ≠ (cAt N l N).getD b 0) : ∀ (k v : Nat), v < N → (walkW N l).depth.getD v 0 = (k : Int) → (cAt N l N).getD v 0 = colD (walkW N l).depth v
  | 0, v, hv, hd => by
    have hr := (root_iff hR hv).2 hd
    rw [walk_root hR] at hr
    have h0 : ∀ i, (cAt N l i).getD v 0 = 1 := fun i => by
      induction i with
      | zero =>
        have e : (cAt N l 0).getD v 0 = if (labAt N l N).getD v 0 = (v : Int) then 1 else 0 := by simp [cAt, c0L, hv]
        rw [e, if_pos hr]
      | succ i ih => exact (fold_keep (right_ends hR) (cAt_len N l i) (by rw [ih]; decide)).trans ih
    rw [h0]
    unfold colD
    rw [hd]
    rfl
  | k + 1, v, hv, hd => by
    obtain ⟨_, h | ⟨u, a, b, c, d, e⟩⟩ := tree_par hR hv
    · omega
    · have hu := two_deep hR hc k u a (by omega)
      have hne := hc u v a c
      have h1 := cAt_cols (right_ends hR) N v
      have h2 := cAt_all (right_ends hR) hv
      unfold colD at hu ⊢
      rw [d]
      omega
theorem adj_mem {l : List Ed} {e : Ed} (he : e ∈ l) : Adj l e.1.toNat e.2.1.toNat := ⟨e, he, .inl ⟨rfl, rfl⟩⟩
/-- The reference's answer is the walk's. -/
theorem two_iff {N : Nat} {l : List Ed} (hR : RightG (N : Int) l) : (∀ e ∈ l, (cAt N l N).getD e.1.toNat 0 ≠ (cAt N l N).getD e.2.1.toNat 0) ↔ Proper (walkW N l).depth l := by
  have hE := right_ends hR
  constructor
  · intro h e he hpar
    have hc : ∀ a b, a < N → Adj l a b → (cAt N l N).getD a 0 ≠ (cAt N l N).getD b 0 := fun a b _ hab => by
      obtain ⟨x, hx, ⟨rfl, rfl⟩ | ⟨rfl, rfl⟩⟩ := hab
      · exact h x hx
      · exact Ne.symm (h x hx)
    have g : ∀ v, v < N → (cAt N l N).getD v 0 = colD (walkW N l).depth v := fun v hv => two_deep hR hc ((walkW N l).depth.getD v 0).toNat v hv (by have := (tree_par hR hv).1; omega)
    refine h e he ?_
    rw [g _ (hE e he).1, g _ (hE e he).2]
    unfold colD
    rw [hpar]
  · intro hP e he heq
    rw [two_yes hR hP (hE e he).1, two_yes hR hP (hE e he).2] at heq
    unfold colD at heq
    exact hP e he (by omega)
end Go.Proofs.Ytdgecflljgnobaa
