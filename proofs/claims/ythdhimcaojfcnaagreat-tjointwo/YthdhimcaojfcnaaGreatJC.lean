/-
  What the way by last edges costs; how far a vertex can be.
-/
import Derived.Test.YthdhimcaojfcnaaGreatXWaWay
import Derived.Test.YthdhimcaojfcnaaGreatJB
namespace Go.Proofs.YthdhimcaojfcnaaGreat

theorem IsD.few {l : List Eg} {s n M : Nat} {d : List Int} (h : IsD l s n d) (hl : ∀ e ∈ l, e.1 < n ∧ e.2.1 < n) (hs : s < n) (hM : ∀ e ∈ l, e.2.2 ≤ M) {v : Nat} (hv : v < n) : at' d v ≤ ((n * M : Nat) : Int) := by
  rcases h.2 v hv with ⟨h1, _⟩ | ⟨c, h1, ⟨L, h2⟩, h3⟩
  · omega
  · obtain ⟨t, c', k1, k2, k3⟩ := sw_simple h2
    have h4 := sw_cost hM k1
    have h5 := nodup_le n _ k3 (sw_lt hl hs k1)
    have h6 := Nat.mul_le_mul_right M h5
    have h7 := h3 _ _ k1
    omega
theorem OKc.valid {l : List Eg} {s n : Nat} {d via : List Int} (h : OKc l s n d via) : ValidV l n via := fun v hv => by
  by_cases e : v = s
  · subst e; exact .inl h.zero
  · rcases h.last v hv e with h1 | ⟨_, i, h1, e', h2, h3, _⟩
    · exact .inl h1.2
    · exact .inr ⟨i, e', h1, h2, h3⟩
/-- The weight of the edge at a place. -/
def wP (l : List Eg) (p : Int) : Int := ((l.getD p.toNat (0, 0, 0)).2.2 : Int)
def sumP (l : List Eg) (A : List Int) : Int := (A.map (wP l)).sum
theorem sumP_nil (l : List Eg) : sumP l [] = 0 := rfl
theorem sumP_cons (l : List Eg) (p : Int) (A : List Int) : sumP l (p :: A) = wP l p + sumP l A := by simp [sumP]
theorem sumP_append (l : List Eg) (A B : List Int) : sumP l (A ++ B) = sumP l A + sumP l B := by simp [sumP]
theorem sumP_reverse (l : List Eg) : ∀ A : List Int, sumP l A.reverse = sumP l A
  | [] => rfl
  | p :: A => by rw [List.reverse_cons, sumP_append, sumP_reverse l A, sumP_cons, sumP_cons, sumP_nil]; omega
theorem sumP_few {l : List Eg} {M : Nat} (hM : ∀ e ∈ l, e.2.2 ≤ M) : ∀ A : List Int, 0 ≤ sumP l A ∧ sumP l A ≤ ((A.length * M : Nat) : Int)
  | [] => by simp [sumP]
  | p :: A => by
    have h := sumP_few hM A
    have h1 : 0 ≤ wP l p ∧ wP l p ≤ (M : Int) := by
      unfold wP
      rw [List.getD_eq_getElem?_getD]
      cases hq : l[p.toNat]? with
      | none => simp
      | some e => have := hM e (List.mem_of_getElem? hq); simp; omega
    have e1 : (p :: A).length * M = A.length * M + M := Nat.succ_mul _ _
    rw [sumP_cons]
    omega
theorem wayM_len (l : List Eg) (via : List Int) : ∀ (k v : Nat), (wayM l via k v).length ≤ k
  | 0, _ => Nat.le_refl _
  | k + 1, v => by
    unfold wayM
    split
    · simp
    · have := wayM_len l via k (par l via v); simp; omega
theorem wayM_valid {l : List Eg} {n : Nat} {via : List Int} (hl : ∀ e ∈ l, e.1 < n ∧ e.2.1 < n) (hV : ValidV l n via) : ∀ (k v : Nat), v < n → ∀ p ∈ wayM l via k v, ∃ i : Nat, p = i ∧ i < l.length
  | 0, _, _, p, hp => by simp [wayM] at hp
  | k + 1, v, hv, p, hp => by
    unfold wayM at hp
    split at hp
    · simp at hp
    · rename_i hne
      rcases List.mem_cons.1 hp with rfl | hp
      · rcases hV v hv with h | ⟨i, e, h1, h2, _⟩
        · exact absurd h hne
        · exact ⟨i, h1, (List.getElem?_eq_some_iff.1 h2).1⟩
      · exact wayM_valid hl hV k _ (par_ltV hl hV hv) p hp
theorem way_sum {l : List Eg} {s n : Nat} {d via : List Int} (h : OKc l s n d via) (hl : ∀ e ∈ l, e.1 < n ∧ e.2.1 < n) (hs : s < n) : ∀ (t : List Nat) (k v : Nat), v < n → 0 ≤ at' d v → CH l via s (v :: t) → t.length ≤ k → sumP l (wayM l via k v) = at' d v := by
  have hbase : ∀ k, sumP l (wayM l via k s) = at' d s := fun k => by rw [wayM_none h.zero, sumP_nil, h.dist.zero hs]
  intro t
  induction t with
  | nil =>
    intro k v hv h0 hc _
    have : v = s := hc
    subst this
    exact hbase k
  | cons u t ih =>
    intro k v hv h0 hc hk
    by_cases e : v = s
    · subst e; exact hbase k
    · rcases h.last v hv e with h1 | ⟨_, hL⟩
      · omega
      · obtain ⟨k', rfl⟩ : ∃ k', k = k' + 1 := ⟨k - 1, by simp at hk; omega⟩
        obtain ⟨i, hi, e', he, hm, hj, hp, hd⟩ := hL.par
        have hk1 := kept_le (h.dist.kept hl hm) hj.symm h0
        have hpl := par_lt hl hL
        have hc2 := hc.2
        rw [hc.1] at hc2
        have ih' := ih k' (par l via v) hpl hk1.1 hc2 (by simp at hk; omega)
        rw [wayM_step (by omega), sumP_cons, ih', hd]
        have hw : wP l (at' via v) = (e'.2.2 : Int) := by
          unfold wP
          rw [hi, Int.toNat_natCast, List.getD_eq_getElem?_getD, he]
          rfl
        rw [hw]
        omega
theorem OKc.sum {l : List Eg} {s n : Nat} {d via : List Int} (h : OKc l s n d via) (hl : ∀ e ∈ l, e.1 < n ∧ e.2.1 < n) (hs : s < n) {v : Nat} (hv : v < n) (h0 : 0 ≤ at' d v) : sumP l (wayM l via n v).reverse = at' d v := by
  obtain ⟨t, h1, h2⟩ := h.short hl hs hv h0
  rw [sumP_reverse]
  exact way_sum h hl hs t n v hv h0 h1 (by omega)
end Go.Proofs.YthdhimcaojfcnaaGreat

namespace Go.Proofs.YthdhimcaojfcnaaGreat

theorem least_of {P : Nat → Prop} (h : ∃ k, P k) : ∃ k, P k ∧ ∀ j, j < k → ¬ P j := by
  obtain ⟨k, hk⟩ := h
  induction k using Nat.strongRecOn with
  | ind k ih =>
    by_cases e : ∃ j, j < k ∧ P j
    · obtain ⟨j, hj, hp⟩ := e
      exact ih j hj hp
    · exact ⟨k, hk, fun j hj hp => e ⟨j, hj, hp⟩⟩
theorem oth_ends {e : Eg} {u x : Nat} (h : e.1 = u ∨ e.2.1 = u) : tog e x = ((u == x) ^^ (oth e u == x)) := by
  unfold tog oth
  by_cases k : e.1 = u
  · rw [if_pos k, k]
  · rw [if_neg k, h.resolve_left k, Bool.xor_comm]
theorem oth_two {e : Eg} {u x : Nat} (h : e.1 = u ∨ e.2.1 = u) (h' : e.1 = x ∨ e.2.1 = x) (hne : u ≠ x) : oth e x = u := by
  unfold oth
  by_cases k : e.1 = x
  · rw [if_pos k]; exact h.resolve_left fun q => hne (q.symm.trans k)
  · rw [if_neg k]
    have := h'.resolve_left k
    exact h.resolve_right fun q => hne (q.symm.trans this)
theorem up_lt {l : List Eg} {n : Nat} {V : List Int} (hl : ∀ e ∈ l, e.1 < n ∧ e.2.1 < n) (hV : ValidV l n V) : ∀ (k v : Nat), v < n → up l V k v < n
  | 0, _, h => h
  | k + 1, _, h => up_lt hl hV k _ (par_ltV hl hV h)

theorem way_once {l : List Eg} {s n : Nat} {V : List Int} (hl : ∀ e ∈ l, e.1 < n ∧ e.2.1 < n) (hV : ValidV l n V) (hz : at' V s = -1) : ∀ (k u : Nat), u < n → up l V k u = s → (∀ j, j < k → up l V j u ≠ s) → ∀ K, (wayM l V K u).Nodup ∧ ∀ p ∈ wayM l V K u, ∃ j, j < k ∧ p = at' V (up l V j u) := by
  intro k
  induction k with
  | zero =>
    intro u hu h0 _ K
    have : u = s := h0
    subst this
    rw [wayM_none hz]
    exact ⟨List.nodup_nil, by simp⟩
  | succ k ih =>
    intro u hu h0 hmin K
    cases K with
    | zero => exact ⟨by simp [wayM], by simp [wayM]⟩
    | succ K =>
      by_cases hn : at' V u = -1
      · rw [wayM_none hn]; exact ⟨List.nodup_nil, by simp⟩
      · rw [wayM_step hn]
        have hpl := par_ltV hl hV hu
        obtain ⟨a, b⟩ := ih (par l V u) hpl h0 (fun j hj => hmin (j + 1) (by omega)) K
        refine ⟨?_, ?_⟩
        · rw [List.nodup_cons]
          refine ⟨fun hm => ?_, a⟩
          obtain ⟨j, hj, he⟩ := b _ hm
          have hx := up_lt hl hV j (par l V u) hpl
          have back : ∀ q, q ≤ k + 1 → 0 < q → up l V q u ≠ u := fun q hq h1 hc => by
            refine hmin (k + 1 - q) (by omega) ?_
            have h3 := up_add l V q (k + 1 - q) u
            rw [show q + (k + 1 - q) = k + 1 by omega, hc, h0] at h3
            exact h3.symm
          have hne : u ≠ up l V j (par l V u) := fun hc => back (j + 1) (by omega) (by omega) hc.symm
          rcases hV u hu with h1 | ⟨i, e, h1, h2, h3⟩
          · exact hn h1
          · rcases hV _ hx with k1 | ⟨i', e', k1, k2, k3⟩
            · exact hn (he.trans k1)
            · have : i = i' := by have := h1.symm.trans (he.trans k1); omega
              subst this
              have : e = e' := Option.some.inj (h2.symm.trans k2)
              subst this
              refine back (j + 2) (by omega) (by omega) ?_
              show up l V (j + 1) (par l V u) = u
              rw [up_succ, par_of k1 k2]
              exact oth_two h3 k3 hne
        · intro p hp
          rcases List.mem_cons.1 hp with rfl | hp
          · exact ⟨0, by omega, rfl⟩
          · obtain ⟨j, hj, he⟩ := b p hp
            exact ⟨j + 1, by omega, he⟩
theorem way_oddA {l : List Eg} {s n : Nat} {V : List Int} (hl : ∀ e ∈ l, e.1 < n ∧ e.2.1 < n) (hV : ValidV l n V) (hz : at' V s = -1) (hne : ∀ u, u < n → u ≠ s → (∃ k, up l V k u = s) → at' V u ≠ -1) : ∀ (k u : Nat), u < n → up l V k u = s → ∀ K, k ≤ K → ∀ x, oddA l (wayM l V K u) x = ((u == x) ^^ (s == x)) := by
  intro k
  induction k with
  | zero =>
    intro u hu h0 K _ x
    have : u = s := h0
    subst this
    rw [wayM_none hz, oddA_nil, Bool.xor_self]
  | succ k ih =>
    intro u hu h0 K hK x
    by_cases e : u = s
    · subst e; rw [wayM_none hz, oddA_nil, Bool.xor_self]
    · obtain ⟨K', rfl⟩ : ∃ K', K = K' + 1 := ⟨K - 1, by omega⟩
      have hn := hne u hu e ⟨k + 1, h0⟩
      rw [wayM_step hn, oddA_cons, ih (par l V u) (par_ltV hl hV hu) h0 K' (by omega) x]
      rcases hV u hu with h1 | ⟨i, e', h1, h2, h3⟩
      · exact absurd h1 hn
      · rw [h1, edgeAt_of h2, oth_ends h3, par_of h1 h2, ← Bool.xor_assoc, Bool.xor_assoc (u == x), Bool.xor_self, Bool.xor_false]

/-- Places are turned, one behind the other. -/
def flips (T : List Bool) (A : List Int) : List Bool := A.foldl (fun T p => flipB T p.toNat) T
theorem flips_len : ∀ (A : List Int) (T : List Bool), (flips T A).length = T.length
  | [], _ => rfl
  | p :: A, T => by show (flips (flipB T p.toNat) A).length = _; rw [flips_len A, flipB_len]
theorem flips_snoc (T : List Bool) (A : List Int) (p : Int) : flips T (A ++ [p]) = flipB (flips T A) p.toNat := by simp [flips]
theorem flips_at : ∀ (A : List Int) (T : List Bool), (∀ p ∈ A, 0 ≤ p ∧ p < (T.length : Int)) → A.Nodup → ∀ i : Nat, bAt (flips T A) i = (bAt T i ^^ decide ((i : Int) ∈ A))
  | [], T, _, _, i => by simp [flips]
  | p :: A, T, h, hn, i => by
    have hp := h p (by simp)
    have hl : p.toNat < T.length := by omega
    rw [List.nodup_cons] at hn
    show bAt (flips (flipB T p.toNat) A) i = _
    rw [flips_at A _ (fun q hq => by rw [flipB_len]; exact h q (by simp [hq])) hn.2 i, flipB_at hl, Bool.xor_assoc]
    congr 1
    by_cases e : (i : Int) = p
    · subst e
      have : decide ((i : Int) ∈ A) = false := by simpa using hn.1
      rw [this]; simp
    · have h1 : (p.toNat == i) = false := by rw [beq_eq_false_iff_ne]; omega
      rw [h1, Bool.false_xor]
      simp [e]
theorem perm_of_mem : ∀ {A B : List Int}, A.Nodup → B.Nodup → (∀ x, x ∈ A ↔ x ∈ B) → A.Perm B := fun ha hb h => (List.perm_ext_iff_of_nodup ha hb).2 h
theorem rise_nodup {A : List Int} (h : A.Pairwise (· < ·)) : A.Nodup := by
  unfold List.Nodup
  exact h.imp fun h => Int.ne_of_lt h
theorem flips_mem {M : Nat} {A : List Int} (h : ∀ p ∈ A, 0 ≤ p ∧ p < (M : Int)) (hn : A.Nodup) : (trueL (flips (List.replicate M false) A)).Perm A := by
  have h2 : ∀ i : Nat, bAt (flips (List.replicate M false) A) i = decide ((i : Int) ∈ A) := fun i => by
    rw [flips_at A _ (by simpa using h) hn]
    have : bAt (List.replicate M false) i = false := by
      unfold bAt
      rw [List.getD_eq_getElem?_getD, List.getElem?_replicate]
      split <;> rfl
    rw [this, Bool.false_xor]
  refine perm_of_mem (rise_nodup (trueK_rise _ _)) hn fun x => ?_
  rw [trueL_mem, flips_len, List.length_replicate]
  constructor
  · rintro ⟨i, rfl, _, h3⟩
    rw [h2] at h3
    simpa using h3
  · intro hx
    obtain ⟨h3, h4⟩ := h x hx
    refine ⟨x.toNat, by omega, by omega, ?_⟩
    rw [h2, Int.toNat_of_nonneg h3]
    simpa using hx
theorem sumP_perm {l : List Eg} {A B : List Int} (h : A.Perm B) : sumP l A = sumP l B := by
  induction h with
  | nil => rfl
  | cons x _ ih => rw [sumP_cons, sumP_cons, ih]
  | swap x y l' => rw [sumP_cons, sumP_cons, sumP_cons, sumP_cons]; omega
  | trans _ _ h1 h2 => exact h1.trans h2

/-- The places in the whole of places in the component. -/
def whole (R : Nat → Nat) (r : Nat) (l : List Eg) (A : List Int) : List Int := A.map fun p => (((subP R r l).getD p.toNat 0 : Nat) : Int)
theorem whole_at {R : Nat → Nat} {r : Nat} {l : List Eg} {i : Nat} (h : i < (subE R r l).length) : ∃ j e, (subP R r l)[i]? = some j ∧ (subP R r l).getD i 0 = j ∧ l[j]? = some e ∧ R e.1 = r ∧ (subE R r l)[i]? = some (ren R r e) := by
  have hl : i < (subP R r l).length := by rw [← (sub_len R r l).1]; exact h
  obtain ⟨e, h1, h2, h3⟩ := sub_at (List.getElem?_eq_getElem hl)
  exact ⟨_, e, List.getElem?_eq_getElem hl, by rw [List.getD_eq_getElem?_getD, List.getElem?_eq_getElem hl]; rfl, h1, h2, h3⟩
theorem whole_lt {R : Nat → Nat} {r : Nat} {l : List Eg} {A : List Int} (hA : ∀ p ∈ A, ∃ i : Nat, p = i ∧ i < (subE R r l).length) : ∀ p ∈ whole R r l A, 0 ≤ p ∧ p < (l.length : Int) := fun p hp => by
  obtain ⟨q, hq, rfl⟩ := List.mem_map.1 hp
  obtain ⟨i, rfl, hi⟩ := hA q hq
  obtain ⟨j, e, h1, h2, h3, _⟩ := whole_at hi
  rw [Int.toNat_natCast, h2]
  have := (List.getElem?_eq_some_iff.1 h3).1
  omega
theorem whole_sum {R : Nat → Nat} {r : Nat} {l : List Eg} : ∀ {A : List Int}, (∀ p ∈ A, ∃ i : Nat, p = i ∧ i < (subE R r l).length) → sumP l (whole R r l A) = sumP (subE R r l) A
  | [], _ => rfl
  | p :: A, hA => by
    show sumP l (_ :: whole R r l A) = _
    rw [sumP_cons, sumP_cons, whole_sum fun q hq => hA q (by simp [hq])]
    obtain ⟨i, rfl, hi⟩ := hA p (by simp)
    obtain ⟨j, e, h1, h2, h3, _, h5⟩ := whole_at hi
    have a : wP l (((subP R r l).getD (i : Int).toNat 0 : Nat) : Int) = (e.2.2 : Int) := by
      rw [Int.toNat_natCast, h2]
      simp [wP, h3]
    have b : wP (subE R r l) (i : Int) = (e.2.2 : Int) := by simp [wP, h5, ren]
    rw [a, b]
theorem whole_nodup {R : Nat → Nat} {r : Nat} {l : List Eg} {A : List Int} (hA : ∀ p ∈ A, ∃ i : Nat, p = i ∧ i < (subE R r l).length) (hn : A.Nodup) : (whole R r l A).Nodup := by
  induction A with
  | nil => simp [whole]
  | cons p A ih =>
    rw [List.nodup_cons] at hn
    show (_ :: whole R r l A).Nodup
    rw [List.nodup_cons]
    refine ⟨fun hm => ?_, ih (fun q hq => hA q (by simp [hq])) hn.2⟩
    obtain ⟨q, hq, he⟩ := List.mem_map.1 hm
    obtain ⟨i, rfl, hi⟩ := hA p (by simp)
    obtain ⟨i', rfl, hi'⟩ := hA q (by simp [hq])
    obtain ⟨j, e, h1, h2, _⟩ := whole_at hi
    obtain ⟨j', e', k1, k2, _⟩ := whole_at hi'
    dsimp only at he
    rw [Int.toNat_natCast, Int.toNat_natCast, h2, k2] at he
    have hj : j' = j := by omega
    subst hj
    obtain ⟨a1, a2⟩ := List.getElem?_eq_some_iff.1 h1
    obtain ⟨b1, b2⟩ := List.getElem?_eq_some_iff.1 k1
    have hii : i' = i := by
      rcases Nat.lt_trichotomy i' i with c | c | c
      · have := List.pairwise_iff_getElem.1 (subP_rise R r l) i' i b1 a1 c
        omega
      · exact c
      · have := List.pairwise_iff_getElem.1 (subP_rise R r l) i i' a1 b1 c
        omega
    subst hii
    exact hn.1 hq
theorem whole_odd {R : Nat → Nat} {r : Nat} {l : List Eg} (hR : ∀ e ∈ l, R e.1 = R e.2.1) {v : Nat} (hv : R v = r) : ∀ {A : List Int}, (∀ p ∈ A, ∃ i : Nat, p = i ∧ i < (subE R r l).length) → oddA l (whole R r l A) v = oddA (subE R r l) A (nm R r v)
  | [], _ => rfl
  | p :: A, hA => by
    show oddA l (_ :: whole R r l A) v = _
    rw [oddA_cons, oddA_cons, whole_odd hR hv fun q hq => hA q (by simp [hq])]
    obtain ⟨i, rfl, hi⟩ := hA p (by simp)
    obtain ⟨j, e, h1, h2, h3, h4, h5⟩ := whole_at hi
    dsimp only
    rw [Int.toNat_natCast, h2, edgeAt_of h3, edgeAt_of h5]
    have he2 : R e.2.1 = r := (hR e (List.mem_of_getElem? h3)).symm.trans h4
    congr 1
    unfold tog ren
    have q1 : (e.1 == v) = (nm R r e.1 == nm R r v) := by
      by_cases c : e.1 = v
      · rw [c]; simp
      · have : nm R r e.1 ≠ nm R r v := fun k => c (nm_inj h4 hv k)
        rw [beq_eq_false_iff_ne.2 c, beq_eq_false_iff_ne.2 this]
    have q2 : (e.2.1 == v) = (nm R r e.2.1 == nm R r v) := by
      by_cases c : e.2.1 = v
      · rw [c]; simp
      · have : nm R r e.2.1 ≠ nm R r v := fun k => c (nm_inj he2 hv k)
        rw [beq_eq_false_iff_ne.2 c, beq_eq_false_iff_ne.2 this]
    rw [q1, q2]
theorem whole_off {R : Nat → Nat} {r : Nat} {l : List Eg} (hR : ∀ e ∈ l, R e.1 = R e.2.1) {v : Nat} (hv : R v ≠ r) : ∀ {A : List Int}, (∀ p ∈ A, ∃ i : Nat, p = i ∧ i < (subE R r l).length) → oddA l (whole R r l A) v = false
  | [], _ => rfl
  | p :: A, hA => by
    show oddA l (_ :: whole R r l A) v = _
    rw [oddA_cons, whole_off hR hv fun q hq => hA q (by simp [hq])]
    obtain ⟨i, rfl, hi⟩ := hA p (by simp)
    obtain ⟨j, e, h1, h2, h3, h4, h5⟩ := whole_at hi
    dsimp only
    rw [Int.toNat_natCast, h2, edgeAt_of h3]
    have he2 : R e.2.1 = r := (hR e (List.mem_of_getElem? h3)).symm.trans h4
    unfold tog
    have q1 : (e.1 == v) = false := beq_eq_false_iff_ne.2 fun c => hv (by rw [← c]; exact h4)
    have q2 : (e.2.1 == v) = false := beq_eq_false_iff_ne.2 fun c => hv (by rw [← c]; exact he2)
    rw [q1, q2]
    rfl

/-- What is taken: the places of the way from a to b within the component. -/
def tookT (R : Nat → Nat) (r n : Nat) (l : List Eg) (V : List Int) (a : Nat) : List Bool := flips (List.replicate l.length false) (whole R r l (wayM (subE R r l) V n (nm R r a)).reverse)
theorem took_len (R : Nat → Nat) (r n : Nat) (l : List Eg) (V : List Int) (a : Nat) : (tookT R r n l V a).length = l.length := by
  unfold tookT
  rw [flips_len, List.length_replicate]
/-- What is taken rises, is odd just at the two, and costs as much as they are apart. -/
theorem took_all {R : Nat → Nat} {r N a b : Nat} {l : List Eg} (hl : ∀ e ∈ l, e.1 < N ∧ e.2.1 < N) (hR : ∀ e ∈ l, R e.1 = R e.2.1) (ha : a < N) (hb : b < N) (hab : a < b) (ra : R a = r) (rb : R b = r) {D V : List Int} (h : OKc (subE R r l) (nm R r b) (nm R r N) D V) (h0 : 0 ≤ at' D (nm R r a)) :
    rsB (trueL (tookT R r (nm R r N) l V a)) l.length = true ∧ oddV N l (trueL (tookT R r (nm R r N) l V a)) = [(a : Int), (b : Int)] ∧ sumP l (trueL (tookT R r (nm R r N) l V a)) = at' D (nm R r a) := by
  have hls := sub_ends (r := r) hl hR
  have hna := nm_lt ra ha
  have hnb := nm_lt rb hb
  have hV := h.valid
  have hval := wayM_valid hls hV (nm R r N) (nm R r a) hna
  have hval' : ∀ p ∈ (wayM (subE R r l) V (nm R r N) (nm R r a)).reverse, ∃ i : Nat, p = i ∧ i < (subE R r l).length := fun p hp => hval p (List.mem_reverse.1 hp)
  obtain ⟨k, hk, hkm⟩ := least_of (h.come _ hna h0)
  obtain ⟨hnd, _⟩ := way_once hls hV h.zero k _ hna hk hkm (nm R r N)
  have hwn := whole_nodup hval' (List.Perm.nodup_iff (List.reverse_perm _) |>.2 hnd)
  have hperm : (trueL (tookT R r (nm R r N) l V a)).Perm (whole R r l (wayM (subE R r l) V (nm R r N) (nm R r a)).reverse) := flips_mem (M := l.length) (whole_lt hval') hwn
  have hkl : k ≤ nm R r N := by
    obtain ⟨t, h1, h2⟩ := h.short hls hnb hna h0
    have h3 := ch_up h1
    by_cases c : k ≤ t.length
    · omega
    · exact absurd h3 (hkm _ (by omega))
  have hodd := way_oddA hls hV h.zero (fun u hu hne ⟨q, hq⟩ => by
    rcases h.last u hu hne with h1 | ⟨_, h2⟩
    · intro _
      have : ∀ q, up (subE R r l) V q u = u := fun q => by
        induction q with
        | zero => rfl
        | succ q ih => rw [up_succ, ih, par_none h1.2]
      exact hne ((this q).symm.trans hq)
    · obtain ⟨i, hi, _⟩ := h2.par
      omega) k _ hna hk (nm R r N) hkl
  refine ⟨?_, ?_, ?_⟩
  · rw [rs_iff]
    refine ⟨fun x hx => ?_, trueK_rise _ _⟩
    obtain ⟨i, rfl, h1, _⟩ := trueL_mem.1 hx
    rw [took_len] at h1
    omega
  · have hat : ∀ v, v < N → oddA l (trueL (tookT R r (nm R r N) l V a)) v = ((a == v) ^^ (b == v)) := fun v hv => by
      rw [oddA_perm hperm]
      by_cases c : R v = r
      · rw [whole_odd hR c hval', oddA_reverse, hodd]
        have q : ∀ x, R x = r → (nm R r x == nm R r v) = (x == v) := fun x hx => by
          by_cases d : x = v
          · rw [d]; simp
          · rw [beq_eq_false_iff_ne.2 d, beq_eq_false_iff_ne.2 fun k => d (nm_inj hx c k)]
        rw [q a ra, q b rb]
      · have q1 : (a == v) = false := beq_eq_false_iff_ne.2 fun d => c (by rw [← d]; exact ra)
        have q2 : (b == v) = false := beq_eq_false_iff_ne.2 fun d => c (by rw [← d]; exact rb)
        rw [whole_off hR c hval', q1, q2]
        rfl
    refine rise_ext (trueK_rise _ _) (by simp; omega) fun x => ?_
    rw [oddV, trueL_mem, oddT_len]
    constructor
    · rintro ⟨i, rfl, h1, h2⟩
      rw [oddT_bAt h1, hat i h1] at h2
      by_cases c : a = i
      · subst c; simp
      · rw [beq_eq_false_iff_ne.2 c, Bool.false_xor, beq_iff_eq] at h2
        subst h2; simp
    · intro hx
      simp only [List.mem_cons, List.not_mem_nil, or_false] at hx
      rcases hx with rfl | rfl
      · refine ⟨a, rfl, ha, ?_⟩
        rw [oddT_bAt ha, hat a ha, beq_eq_false_iff_ne.2 (show b ≠ a by omega)]; simp
      · refine ⟨b, rfl, hb, ?_⟩
        rw [oddT_bAt hb, hat b hb, beq_eq_false_iff_ne.2 (show a ≠ b by omega)]; simp
  · rw [sumP_perm hperm, whole_sum hval', h.sum hls hnb hna h0]
end Go.Proofs.YthdhimcaojfcnaaGreat
