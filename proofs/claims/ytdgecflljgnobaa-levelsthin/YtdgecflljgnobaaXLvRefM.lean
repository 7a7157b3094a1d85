/-
  What the reference's rounds over all edges come to: the levels. No program in this text.
-/
import Derived.Test.YtdgecflljgnobaaXLvMath
namespace Go.Proofs.Ytdgecflljgnobaa
open Go Go.Proofs

/-- An edge, looked at once. -/
def rlx (L : List Int) (e : Ed) : List Int := (L.set e.1.toNat (min (L.getD e.1.toNat 0) (L.getD e.2.1.toNat 0 + 1))).set e.2.1.toNat (min (L.getD e.2.1.toNat 0) (min (L.getD e.1.toNat 0) (L.getD e.2.1.toNat 0 + 1) + 1))
theorem rlx_len (L : List Int) (e : Ed) : (rlx L e).length = L.length := by simp [rlx]
theorem fold_rlx_len : ∀ (es : List Ed) (L : List Int), (es.foldl rlx L).length = L.length
  | [], _ => rfl
  | e :: es, L => by rw [List.foldl_cons, fold_rlx_len es, rlx_len]
theorem rlx_get {L : List Int} {e : Ed} {u v : Nat} (h1 : e.1.toNat = u) (h2 : e.2.1.toNat = v) (hu : u < L.length) (hv : v < L.length) (x : Nat) : (rlx L e).getD x 0 = if v = x then min (L.getD v 0) (min (L.getD u 0) (L.getD v 0 + 1) + 1) else if u = x then min (L.getD u 0) (L.getD v 0 + 1) else L.getD x 0 := by
  unfold rlx
  rw [h1, h2, set_getD, set_getD]
  simp [hu, hv]
theorem rlx_le {L : List Int} {e : Ed} (h1 : e.1.toNat < L.length) (h2 : e.2.1.toNat < L.length) (x : Nat) : (rlx L e).getD x 0 ≤ L.getD x 0 := by
  rw [rlx_get rfl rfl h1 h2]
  split
  · next h => subst h; omega
  · split
    · next h => subst h; omega
    · omega
theorem fold_rlx_le {N : Nat} : ∀ {es : List Ed} {L : List Int}, Ends N es → L.length = N → ∀ x, (es.foldl rlx L).getD x 0 ≤ L.getD x 0
  | [], _, _, _, _ => Int.le_refl _
  | e :: es, L, hE, hL, x => by
    rw [List.foldl_cons]
    have h1 := fold_rlx_le (es := es) (L := rlx L e) (fun a ha => hE a (List.mem_cons_of_mem _ ha)) (by rw [rlx_len, hL]) x
    have h2 := rlx_le (L := L) (e := e) (by rw [hL]; exact (hE e (by simp)).1) (by rw [hL]; exact (hE e (by simp)).2) x
    omega
theorem fold_rlx_adj {N : Nat} : ∀ {es : List Ed} {L : List Int}, Ends N es → L.length = N → ∀ {u v : Nat}, Adj es u v → (es.foldl rlx L).getD v 0 ≤ L.getD u 0 + 1
  | [], _, _, _, _, _, h => by obtain ⟨e, he, _⟩ := h; simp at he
  | e :: es, L, hE, hL, u, v, h => by
    rw [List.foldl_cons]
    have hE' : Ends N es := fun a ha => hE a (List.mem_cons_of_mem _ ha)
    have hL' : (rlx L e).length = N := by rw [rlx_len, hL]
    have b1 : e.1.toNat < L.length := by rw [hL]; exact (hE e (by simp)).1
    have b2 : e.2.1.toNat < L.length := by rw [hL]; exact (hE e (by simp)).2
    obtain ⟨a, ha, hc⟩ := h
    rcases List.mem_cons.1 ha with rfl | ha
    · have h1 := fold_rlx_le hE' hL' v
      have h2 := rlx_get rfl rfl b1 b2 v
      rcases hc with ⟨h3, h4⟩ | ⟨h3, h4⟩
      · rw [h3, h4, if_pos rfl] at h2
        omega
      · rw [h3, h4] at h2
        by_cases e : u = v
        · subst e
          have := rlx_le b1 b2 u
          omega
        · rw [if_neg e, if_pos rfl] at h2
          omega
    · have h1 := fold_rlx_adj hE' hL' ⟨a, ha, hc⟩
      have h2 := rlx_le b1 b2 u
      omega
/-- No number falls below the level. -/
def Over (N : Nat) (D L : List Int) : Prop := ∀ x, x < N → D.getD x 0 ≤ L.getD x 0 ∧ L.getD x 0 ≤ N
theorem rlx_over {N : Nat} {l : List Ed} {D : List Int} (hE : Ends N l) (hD : Lev N l D) {L : List Int} (hL : L.length = N) {e : Ed} (he : e ∈ l) (h : Over N D L) : Over N D (rlx L e) := by
  have b := hE e he
  intro x hx
  have h1 := (h _ b.1).1
  have h2 := (h _ b.2).1
  have e1 := hD.edge e.1.toNat e.2.1.toNat ⟨e, he, .inl ⟨rfl, rfl⟩⟩
  have e2 := hD.edge e.2.1.toNat e.1.toNat ⟨e, he, .inr ⟨rfl, rfl⟩⟩
  have hle := rlx_le (L := L) (e := e) (by omega) (by omega) x
  have h3 := h x hx
  refine ⟨?_, by omega⟩
  rw [rlx_get rfl rfl (by omega) (by omega)]
  split
  · next h => subst h; omega
  · split
    · next h => subst h; omega
    · omega
theorem fold_over {N : Nat} {l : List Ed} {D : List Int} (hE : Ends N l) (hD : Lev N l D) : ∀ {es : List Ed} {L : List Int}, (∀ e ∈ es, e ∈ l) → L.length = N → Over N D L → Over N D (es.foldl rlx L)
  | [], _, _, _, h => h
  | e :: es, L, hs, hL, h => by
    rw [List.foldl_cons]
    exact fold_over hE hD (fun a ha => hs a (List.mem_cons_of_mem _ ha)) (by rw [rlx_len, hL]) (rlx_over hE hD hL (hs e (by simp)) h)
/-- How the rounds begin: 0 at a component's least vertex, else the number of all. -/
def lvFrom (N : Nat) (l : List Ed) (j : Nat) : List Int := (List.range N).map fun (v : Nat) => if v < j ∧ labV N l v ≠ (v : Int) then (N : Int) else 0
theorem lvFrom_len (N : Nat) (l : List Ed) (j : Nat) : (lvFrom N l j).length = N := by simp [lvFrom]
theorem lvFrom_at {N : Nat} {l : List Ed} {j v : Nat} (h : v < N) : (lvFrom N l j)[v]? = some (if v < j ∧ labV N l v ≠ (v : Int) then (N : Int) else 0) := by simp [lvFrom, h]
theorem lvFrom_zero (N : Nat) (l : List Ed) : lvFrom N l 0 = List.replicate N 0 := by
  apply List.ext_getElem?
  intro v
  by_cases h : v < N
  · rw [lvFrom_at h]; simp [h]
  · rw [List.getElem?_eq_none (by rw [lvFrom_len]; omega), List.getElem?_eq_none (by simp; omega)]
theorem lvFrom_same {N : Nat} {l : List Ed} {j : Nat} (hj : labV N l j = (j : Int)) : lvFrom N l (j + 1) = lvFrom N l j := by
  apply List.ext_getElem?
  intro v
  by_cases h : v < N
  · rw [lvFrom_at h, lvFrom_at h]
    congr 1
    by_cases e : v = j
    · subst e; simp [hj]
    · simp only [show (v < j + 1) = (v < j) from propext (by omega)]
  · rw [List.getElem?_eq_none (by rw [lvFrom_len]; omega), List.getElem?_eq_none (by rw [lvFrom_len]; omega)]
theorem lvFrom_set {N : Nat} {l : List Ed} {j : Nat} (h : j < N) (hj : labV N l j ≠ (j : Int)) : (lvFrom N l j).set j (N : Int) = lvFrom N l (j + 1) := by
  apply List.ext_getElem?
  intro v
  by_cases hv : v < N
  · rw [List.getElem?_set, lvFrom_len, lvFrom_at hv, lvFrom_at hv]
    by_cases e : j = v
    · subst e
      rw [if_pos rfl, if_pos h, if_pos ⟨by omega, hj⟩]
    · rw [if_neg e]
      simp only [show (v < j + 1) = (v < j) from propext (by omega)]
  · rw [List.getElem?_eq_none (by rw [List.length_set, lvFrom_len]; omega), List.getElem?_eq_none (by rw [lvFrom_len]; omega)]
def lvAt (N : Nat) (l : List Ed) : Nat → List Int
  | 0 => lvFrom N l N
  | i + 1 => l.foldl rlx (lvAt N l i)
theorem lvAt_len (N : Nat) (l : List Ed) : ∀ i, (lvAt N l i).length = N
  | 0 => lvFrom_len N l N
  | i + 1 => by rw [lvAt, fold_rlx_len, lvAt_len N l i]
theorem lvAt_over {N : Nat} {l : List Ed} {D : List Int} (hE : Ends N l) (hD : Lev N l D) : ∀ i, Over N D (lvAt N l i)
  | 0 => fun x hx => by
    have h1 := hD.ran x hx
    have h2 := hD.zero x hx
    have h3 : (lvAt N l 0).getD x 0 = if x < N ∧ labV N l x ≠ (x : Int) then (N : Int) else 0 := by
      rw [lvAt, List.getD_eq_getElem?_getD, lvFrom_at hx]; rfl
    rw [h3]
    by_cases e : labV N l x = (x : Int)
    · rw [if_neg (fun h => h.2 e)]
      have := h2.2 e
      omega
    · rw [if_pos ⟨hx, e⟩]
      omega
  | i + 1 => fold_over hE hD (fun _ h => h) (lvAt_len N l i) (lvAt_over hE hD i)
theorem lvAt_soon {N : Nat} {l : List Ed} {D : List Int} (hE : Ends N l) (hD : Lev N l D) : ∀ (i : Nat) (x : Nat), x < N → D.getD x 0 ≤ (i : Int) → (lvAt N l i).getD x 0 ≤ D.getD x 0
  | 0, x, hx, h => by
    have h1 := hD.ran x hx
    have h0 : D.getD x 0 = 0 := by omega
    have h2 := (hD.zero x hx).1 h0
    have h3 : (lvAt N l 0).getD x 0 = if x < N ∧ labV N l x ≠ (x : Int) then (N : Int) else 0 := by
      rw [lvAt, List.getD_eq_getElem?_getD, lvFrom_at hx]; rfl
    rw [h3, if_neg (fun h => h.2 h2)]
    omega
  | i + 1, x, hx, h => by
    have h1 := hD.ran x hx
    by_cases h0 : D.getD x 0 ≤ (i : Int)
    · have h2 := lvAt_soon hE hD i x hx h0
      have h3 := fold_rlx_le hE (lvAt_len N l i) x
      rw [lvAt]
      omega
    · obtain ⟨u, hu, he⟩ := hD.prev x hx (by omega)
      have huN := (adj_below hE hu).1
      have h2 := lvAt_soon hE hD i u huN (by omega)
      have h3 := fold_rlx_adj hE (lvAt_len N l i) hu
      rw [lvAt]
      omega
theorem lev_ref {N : Nat} {l : List Ed} {D : List Int} (hE : Ends N l) (hD : Lev N l D) : lvAt N l N = D := by
  have hlen := lvAt_len N l N
  apply List.ext_getElem
  · rw [hlen, hD.len]
  · intro v h1 h2
    have hv : v < N := by omega
    have a := (lvAt_over hE hD N v hv).1
    have b := lvAt_soon hE hD N v hv (by have := (hD.ran v hv).2; omega)
    have e1 : (lvAt N l N).getD v 0 = (lvAt N l N)[v] := by simp [h1]
    have e2 : D.getD v 0 = D[v] := by simp [h2]
    omega
end Go.Proofs.Ytdgecflljgnobaa
