/-
  What the way by last edges costs; how far a vertex can be.
-/
import Derived.Test.YtejemnjadgihbaaXWaWay
import Derived.Test.YtejemnjadgihbaaQB
namespace Go.Proofs.Ytejemnjadgihbaa

theorem IsD.few {l : List Eg} {s n M : Nat} {d : List Int} (h : IsD l s n d) (hl : ∀ e ∈ l, e.1 < n ∧ e.2.1 < n) (hs : s < n) (hM : ∀ e ∈ l, e.2.2 ≤ M) {v : Nat} (hv : v < n) : at' d v ≤ ((n * M : Nat) : Int) := by
  rcases h.2 v hv with ⟨h1, _⟩ | ⟨c, h1, ⟨L, h2⟩, h3⟩
  · omega
  · obtain ⟨t, c', k1, k2, k3⟩ := sw_simple h2
    have h4 := sw_cost hM k1
    have h5 := nodup_le n _ k3 (sw_lt hl hs k1)
    have h6 := Nat.mul_le_mul_right M h5
    have h7 := h3 _ _ k1
    omega
theorem OKc.valid {l : List Eg} {s n : Nat} {d via : List Int} (h : OKc l s n d via) : ValidV l n via := fun v hv => by
  by_cases e : v = s
  · subst e; exact .inl h.zero
  · rcases h.last v hv e with h1 | ⟨_, i, h1, e', h2, h3, _⟩
    · exact .inl h1.2
    · exact .inr ⟨i, e', h1, h2, h3⟩
/-- The weight of the edge at a place. -/
def wP (l : List Eg) (p : Int) : Int := ((l.getD p.toNat (0, 0, 0)).2.2 : Int)
def sumP (l : List Eg) (A : List Int) : Int := (A.map (wP l)).sum
theorem sumP_nil (l : List Eg) : sumP l [] = 0 := rfl
theorem sumP_cons (l : List Eg) (p : Int) (A : List Int) : sumP l (p :: A) = wP l p + sumP l A := by simp [sumP]
theorem sumP_append (l : List Eg) (A B : List Int) : sumP l (A ++ B) = sumP l A + sumP l B := by simp [sumP]
theorem sumP_reverse (l : List Eg) : ∀ A : List Int, sumP l A.reverse = sumP l A
  | [] => rfl
  | p :: A => by rw [List.reverse_cons, sumP_append, sumP_reverse l A, sumP_cons, sumP_cons, sumP_nil]; omega
theorem sumP_few {l : List Eg} {M : Nat} (hM : ∀ e ∈ l, e.2.2 ≤ M) : ∀ A : List Int, 0 ≤ sumP l A ∧ sumP l A ≤ ((A.length * M : Nat) : Int)
  | [] => by simp [sumP]
  | p :: A => by
    have h := sumP_few hM A
    have h1 : 0 ≤ wP l p ∧ wP l p ≤ (M : Int) := by
      unfold wP
      rw [List.getD_eq_getElem?_getD]
      cases hq : l[p.toNat]? with
      | none => simp
      | some e => have := hM e (List.mem_of_getElem? hq); simp; omega
    have e1 : (p :: A).length * M = A.length * M + M := Nat.succ_mul _ _
    rw [sumP_cons]
    omega
theorem wayM_len (l : List Eg) (via : List Int) : ∀ (k v : Nat), (wayM l via k v).length ≤ k
  | 0, _ => Nat.le_refl _
  | k + 1, v => by
    unfold wayM
    split
    · simp
    · have := wayM_len l via k (par l via v); simp; omega
theorem wayM_valid {l : List Eg} {n : Nat} {via : List Int} (hl : ∀ e ∈ l, e.1 < n ∧ e.2.1 < n) (hV : ValidV l n via) : ∀ (k v : Nat), v < n → ∀ p ∈ wayM l via k v, ∃ i : Nat, p = i ∧ i < l.length
  | 0, _, _, p, hp => by simp [wayM] at hp
  | k + 1, v, hv, p, hp => by
    unfold wayM at hp
    split at hp
    · simp at hp
    · rename_i hne
      rcases List.mem_cons.1 hp with rfl | hp
      · rcases hV v hv with h | ⟨i, e, h1, h2, _⟩
        · exact absurd h hne
        · exact ⟨i, h1, (List.getElem?_eq_some_iff.1 h2).1⟩
      · exact wayM_valid hl hV k _ (par_ltV hl hV hv) p hp
theorem way_sum {l : List Eg} {s n : Nat} {d via : List Int} (h : OKc l s n d via) (hl : ∀ e ∈ l, e.1 < n ∧ e.2.1 < n) (hs : s < n) : ∀ (t : List Nat) (k v : Nat), v < n → 0 ≤ at' d v → CH l via s (v :: t) → t.length ≤ k → sumP l (wayM l via k v) = at' d v := by
  have hbase : ∀ k, sumP l (wayM l via k s) = at' d s := fun k => by rw [wayM_none h.zero, sumP_nil, h.dist.zero hs]
  intro t
  induction t with
  | nil =>
    intro k v hv h0 hc _
    have : v = s := hc
    subst this
    exact hbase k
  | cons u t ih =>
    intro k v hv h0 hc hk
    by_cases e : v = s
    · subst e; exact hbase k
    · rcases h.last v hv e with h1 | ⟨_, hL⟩
      · omega
      · obtain ⟨k', rfl⟩ : ∃ k', k = k' + 1 := ⟨k - 1, by simp at hk; omega⟩
        obtain ⟨i, hi, e', he, hm, hj, hp, hd⟩ := hL.par
        have hk1 := kept_le (h.dist.kept hl hm) hj.symm h0
        have hpl := par_lt hl hL
        have hc2 := hc.2
        rw [hc.1] at hc2
        have ih' := ih k' (par l via v) hpl hk1.1 hc2 (by simp at hk; omega)
        rw [wayM_step (by omega), sumP_cons, ih', hd]
        have hw : wP l (at' via v) = (e'.2.2 : Int) := by
          unfold wP
          rw [hi, Int.toNat_natCast, List.getD_eq_getElem?_getD, he]
          rfl
        rw [hw]
        omega
theorem OKc.sum {l : List Eg} {s n : Nat} {d via : List Int} (h : OKc l s n d via) (hl : ∀ e ∈ l, e.1 < n ∧ e.2.1 < n) (hs : s < n) {v : Nat} (hv : v < n) (h0 : 0 ≤ at' d v) : sumP l (wayM l via n v).reverse = at' d v := by
  obtain ⟨t, h1, h2⟩ := h.short hl hs hv h0
  rw [sumP_reverse]
  exact way_sum h hl hs t n v hv h0 h1 (by omega)
end Go.Proofs.Ytejemnjadgihbaa
