/-
  Levels: of how many edges the shortest way from the least vertex of the same component is. No program in this text.
-/
import Derived.Test.YtdgecflljgnobaaXPLabMath
import Derived.Test.YtdgecflljgnobaaXPWalkMath
import Derived.Test.YtdgecflljgnobaaXGNbMath
namespace Go.Proofs.Ytdgecflljgnobaa
open Go Go.Proofs

theorem nodup_leV : ∀ (n : Nat) (L : List Nat), L.Nodup → (∀ v ∈ L, v < n) → L.length ≤ n
  | 0, L, _, h => by
    cases L with
    | nil => simp
    | cons a L => exact absurd (h a (by simp)) (by omega)
  | n + 1, L, hn, h => by
    have h1 := nodup_leV n (L.filter fun v => decide (v ≠ n)) (hn.filter _) (fun v hv => by
      rw [List.mem_filter] at hv
      have := h v hv.1
      have := hv.2
      simp at this
      omega)
    have h2 : L.length = (L.filter fun v => decide (v ≠ n)).length + L.count n := by
      clear h1 h hn
      induction L with
      | nil => rfl
      | cons a L ih =>
        by_cases e : a = n
        · subst e; simp [ih]; omega
        · simp [e, ih]; omega
    have h3 : L.count n ≤ 1 := List.nodup_iff_count.1 hn n
    omega

theorem nb_adj {N : Nat} {l : List Ed} (hR : RightG (N : Int) l) {q : Nat} {x : Int} : x ∈ nb l (q : Int) ↔ ∃ u : Nat, x = (u : Int) ∧ u < N ∧ Adj l q u := by
  rw [mem_nb]
  constructor
  · rintro ⟨e, he, h⟩
    have hok := (hR.each e he).1
    unfold okE at hok
    refine ⟨x.toNat, by omega, by omega, e, he, ?_⟩
    omega
  · rintro ⟨u, rfl, hu, e, he, h⟩
    have hok := (hR.each e he).1
    unfold okE at hok
    refine ⟨e, he, ?_⟩
    omega
theorem adj_lt {N : Nat} {l : List Ed} (hR : RightG (N : Int) l) {u v : Nat} (h : Adj l u v) : u < N ∧ v < N := by
  obtain ⟨e, he, h⟩ := h
  have hok := (hR.each e he).1
  unfold okE at hok
  omega

/-- A vertex's number in the labels. -/
def labV (N : Nat) (l : List Ed) (v : Nat) : Int := (labAt N l N).getD v 0
theorem labV_adj {N : Nat} {l : List Ed} (hR : RightG (N : Int) l) {u v : Nat} (h : Adj l u v) : labV N l u = labV N l v :=
  (lab_same (right_ends hR) (adj_lt hR h).1 (adj_lt hR h).2).2 (.one h)
/-- What is closed holds of a vertex's least one. -/
theorem closed_conn {l : List Ed} {S : Nat → Prop} (hS : ∀ u v, Adj l u v → S u → S v) {a c : Nat} (h : Conn l a c) : S a → S c := by
  refine Conn.ind (motive := fun a c _ => S a → S c) (fun _ h => h) (fun h1 _ ih h => ih (hS _ _ h1 h)) h

structure Lev (N : Nat) (l : List Ed) (L : List Int) : Prop where
  len : L.length = N
  ran : ∀ v, v < N → 0 ≤ L.getD v 0 ∧ L.getD v 0 < N
  zero : ∀ v, v < N → (L.getD v 0 = 0 ↔ labV N l v = (v : Int))
  edge : ∀ u v, Adj l u v → L.getD v 0 ≤ L.getD u 0 + 1
  prev : ∀ v, v < N → 0 < L.getD v 0 → ∃ u, Adj l u v ∧ L.getD u 0 + 1 = L.getD v 0
theorem Lev.le {N : Nat} {l : List Ed} (hR : RightG (N : Int) l) {L M : List Int} (hL : Lev N l L) (hM : Lev N l M) : ∀ (n : Nat) (v : Nat), v < N → M.getD v 0 = (n : Int) → L.getD v 0 ≤ (n : Int)
  | 0, v, hv, h => by
    have h1 := (hM.zero v hv).1 h
    have h2 := (hL.zero v hv).2 h1
    omega
  | n + 1, v, hv, h => by
    obtain ⟨u, hu, he⟩ := hM.prev v hv (by omega)
    have h1 := hL.le hR hM n u (adj_lt hR hu).1 (by omega)
    have h2 := hL.edge u v hu
    omega
theorem Lev.uniq {N : Nat} {l : List Ed} (hR : RightG (N : Int) l) {L M : List Int} (hL : Lev N l L) (hM : Lev N l M) : L = M := by
  apply List.ext_getElem
  · rw [hL.len, hM.len]
  · intro v h1 h2
    have hv : v < N := by rw [← hL.len]; exact h1
    have a := hL.le hR hM (M.getD v 0).toNat v hv (by have := (hM.ran v hv).1; omega)
    have b := hM.le hR hL (L.getD v 0).toNat v hv (by have := (hL.ran v hv).1; omega)
    have c := (hM.ran v hv).1
    have d := (hL.ran v hv).1
    have e1 : L.getD v 0 = L[v] := by simp [h1]
    have e2 : M.getD v 0 = M[v] := by simp [h2]
    omega

/-- Between two components: what is met, below f all. -/
structure Met (N : Nat) (l : List Ed) (f : Nat) (L : List Int) : Prop where
  len : L.length = N
  ran : ∀ v, v < N → -1 ≤ L.getD v 0 ∧ L.getD v 0 < N
  first : ∀ v, v < f → v < N → 0 ≤ L.getD v 0
  clos : ∀ u v, Adj l u v → 0 ≤ L.getD u 0 → 0 ≤ L.getD v 0 ∧ L.getD v 0 ≤ L.getD u 0 + 1
  zero : ∀ v, v < N → 0 ≤ L.getD v 0 → (L.getD v 0 = 0 ↔ labV N l v = (v : Int))
  prev : ∀ v, v < N → 0 < L.getD v 0 → ∃ u, Adj l u v ∧ L.getD u 0 + 1 = L.getD v 0
theorem rep_getD (N : Nat) {v : Nat} (h : v < N) : (List.replicate N (-1 : Int)).getD v 0 = -1 := by simp [h]
theorem Met.start {N : Nat} {l : List Ed} (hR : RightG (N : Int) l) : Met N l 0 (List.replicate N (-1)) := by
  refine ⟨by simp, fun v hv => ?_, fun v hv => by omega, fun u v h h0 => ?_, fun v hv h0 => ?_, fun v hv h0 => ?_⟩
  · rw [rep_getD N hv]; omega
  · rw [rep_getD N (adj_lt hR h).1] at h0; omega
  · rw [rep_getD N hv] at h0; omega
  · rw [rep_getD N hv] at h0; omega
theorem Met.skip {N : Nat} {l : List Ed} {f : Nat} {L : List Int} (h : Met N l f L) (hm : L.getD f 0 ≠ -1) : Met N l (f + 1) L := by
  refine { h with first := fun v hv hN => ?_ }
  by_cases e : v = f
  · subst e; have := (h.ran v hN).1; omega
  · exact h.first v (by omega) hN
theorem Met.full {N : Nat} {l : List Ed} {L : List Int} (hR : RightG (N : Int) l) (h : Met N l N L) : Lev N l L :=
  ⟨h.len, fun v hv => ⟨h.first v hv hv, (h.ran v hv).2⟩, fun v hv => h.zero v hv (h.first v hv hv), fun u v ha => (h.clos u v ha (h.first u (adj_lt hR ha).1 (adj_lt hR ha).1)).2, h.prev⟩

/-- A component under way: Q is the line, at the place that is gone through, i of its neighbours are. -/
structure Run (N : Nat) (l : List Ed) (f : Nat) (A L : List Int) (Q : List Nat) (at_ i : Nat) : Prop where
  met : Met N l f A
  fN : f < N
  f0 : A.getD f 0 = -1
  len : L.length = N
  q0 : Q[0]? = some f
  nod : Q.Nodup
  inN : ∀ q ∈ Q, q < N ∧ A.getD q 0 = -1 ∧ 0 ≤ L.getD q 0 ∧ labV N l q = (f : Int)
  old : ∀ v, v < N → v ∉ Q → L.getD v 0 = A.getD v 0
  lvl : ∀ (k q : Nat), Q[k]? = some q → L.getD q 0 ≤ (k : Int) ∧ (L.getD q 0 = 0 ↔ k = 0)
  up : ∀ (k j q p : Nat), k ≤ j → Q[k]? = some q → Q[j]? = some p → L.getD q 0 ≤ L.getD p 0
  near : ∀ (q p k : Nat), Q[at_]? = some q → Q[k]? = some p → L.getD p 0 ≤ L.getD q 0 + 1
  prev : ∀ (k q : Nat), Q[k]? = some q → k ≠ 0 → ∃ u, Adj l u q ∧ u ∈ Q ∧ L.getD u 0 + 1 = L.getD q 0
  done : ∀ (k q : Nat), k < at_ → Q[k]? = some q → ∀ v, Adj l q v → 0 ≤ L.getD v 0 ∧ L.getD v 0 ≤ L.getD q 0 + 1
  now : ∀ q, Q[at_]? = some q → ∀ (k : Nat) (u : Nat), k < i → (nb l (q : Int))[k]? = some (u : Int) → 0 ≤ L.getD u 0 ∧ L.getD u 0 ≤ L.getD q 0 + 1
theorem Run.few {N : Nat} {l : List Ed} {f : Nat} {A L : List Int} {Q : List Nat} {at_ i : Nat} (h : Run N l f A L Q at_ i) : Q.length ≤ N :=
  nodup_leV N Q h.nod fun v hv => (h.inN v hv).1
theorem Run.start {N : Nat} {l : List Ed} {f : Nat} {A : List Int} (hR : RightG (N : Int) l) (h : Met N l f A) (hf : f < N) (h0 : A.getD f 0 = -1) : Run N l f A (A.set f 0) [f] 0 0 := by
  have hA := h.len
  have hg : ∀ v, (A.set f 0).getD v 0 = if f = v ∧ f < A.length then 0 else A.getD v 0 := fun v => set_getD A f v 0
  have hff : (A.set f 0).getD f 0 = 0 := by rw [hg, if_pos ⟨rfl, by omega⟩]
  have hlab : labV N l f = (f : Int) := by
    obtain ⟨x, hx, hxN, hc, hl⟩ := lab_least (right_ends hR) hf
    have hxf := hl f hf (.refl f)
    by_cases e : x = f
    · subst e; exact hx
    · have h1 := h.first x (by omega) hxN
      have h2 := closed_conn (S := fun v => 0 ≤ A.getD v 0) (fun u v ha hu => (h.clos u v ha hu).1) hc.symm h1
      omega
  have one : ∀ {k q : Nat}, ([f] : List Nat)[k]? = some q → k = 0 ∧ q = f := fun {k q} hk => by
    cases k with
    | zero => simp at hk; exact ⟨rfl, hk.symm⟩
    | succ k => simp at hk
  refine ⟨h, hf, h0, by simp [hA], rfl, by simp, fun q hq => ?_, fun v hv hq => ?_, fun k q hk => ?_, fun k j q p _ hk hj => ?_, fun q p k hk hj => ?_, fun k q hk hk0 => ?_, fun k q hk => by omega, fun q _ k u hk => by omega⟩
  · simp at hq
    subst hq
    exact ⟨hf, h0, by omega, hlab⟩
  · simp at hq
    rw [hg, if_neg (fun e => hq e.1.symm)]
  · obtain ⟨rfl, rfl⟩ := one hk
    rw [hff]; simp
  · have a := (one hk).2
    have b := (one hj).2
    rw [a, b]; omega
  · have a := (one hk).2
    have b := (one hj).2
    rw [a, b]; omega
  · exact absurd (one hk).1 hk0
/-- A neighbour that is met already. -/
theorem Run.hit {N : Nat} {l : List Ed} {f : Nat} {A L : List Int} {Q : List Nat} {at_ i : Nat} (hR : RightG (N : Int) l) (h : Run N l f A L Q at_ i) {q u : Nat} (hq : Q[at_]? = some q) (hu : (nb l (q : Int))[i]? = some (u : Int)) (hm : L.getD u 0 ≠ -1) : Run N l f A L Q at_ (i + 1) := by
  refine { h with now := fun q' hq' k x hk hx => ?_ }
  rw [hq] at hq'
  cases hq'
  by_cases e : k = i
  · subst e
    rw [hu] at hx
    have hxu : x = u := by have := Option.some.inj hx; omega
    subst hxu
    obtain ⟨y, hy, hyN, hadj⟩ := (nb_adj hR).1 (List.mem_of_getElem? hu)
    have hxy : x = y := by omega
    subst hxy
    by_cases hin : x ∈ Q
    · obtain ⟨k', hk'⟩ := List.mem_iff_getElem?.1 hin
      exact ⟨(h.inN x hin).2.2.1, h.near q x k' hq hk'⟩
    · have h1 := h.old x hyN hin
      have h2 := (h.met.ran x hyN).1
      have h3 := (h.met.clos x q hadj.symm (by omega)).1
      have h4 := (h.inN q (List.mem_of_getElem? hq)).2.1
      omega
  · exact h.now q hq k x (by omega) hx
/-- A neighbour that is unmet: it gets its level, and stands behind all others. -/
theorem Run.new {N : Nat} {l : List Ed} {f : Nat} {A L : List Int} {Q : List Nat} {at_ i : Nat} (hR : RightG (N : Int) l) (h : Run N l f A L Q at_ i) {q u : Nat} (hq : Q[at_]? = some q) (hu : (nb l (q : Int))[i]? = some (u : Int)) (hm : L.getD u 0 = -1) : Run N l f A (L.set u (L.getD q 0 + 1)) (Q ++ [u]) at_ (i + 1) := by
  obtain ⟨y, hy, hyN, hadj⟩ := (nb_adj hR).1 (List.mem_of_getElem? hu)
  have hxy : u = y := by omega
  subst hxy
  have hL := h.len
  have hqm := List.mem_of_getElem? hq
  have hqL := (h.inN q hqm).2.2.1
  have hat : at_ < Q.length := (List.getElem?_eq_some_iff.1 hq).1
  have hnin : u ∉ Q := fun hin => by have := (h.inN u hin).2.2.1; omega
  have hg : ∀ v, (L.set u (L.getD q 0 + 1)).getD v 0 = if u = v ∧ u < L.length then L.getD q 0 + 1 else L.getD v 0 := fun v => set_getD L u v _
  have hgu : (L.set u (L.getD q 0 + 1)).getD u 0 = L.getD q 0 + 1 := by rw [hg, if_pos ⟨rfl, by omega⟩]
  have hgo : ∀ v, v ≠ u → (L.set u (L.getD q 0 + 1)).getD v 0 = L.getD v 0 := fun v hv => by rw [hg, if_neg (fun e => hv e.1.symm)]
  have hgq : ∀ v ∈ Q, (L.set u (L.getD q 0 + 1)).getD v 0 = L.getD v 0 := fun v hv => hgo v (fun e => hnin (e ▸ hv))
  have split : ∀ {k x : Nat}, (Q ++ [u])[k]? = some x → (k < Q.length ∧ Q[k]? = some x) ∨ (k = Q.length ∧ x = u) := fun {k x} hx => by
    rw [List.getElem?_append] at hx
    by_cases hk : k < Q.length
    · rw [if_pos hk] at hx; exact .inl ⟨hk, hx⟩
    · rw [if_neg hk] at hx
      have h1 := (List.getElem?_eq_some_iff.1 hx).1
      simp at h1
      have h2 : k = Q.length := by omega
      subst h2
      simp at hx
      exact .inr ⟨rfl, hx.symm⟩
  have hq2 : ∀ {x : Nat}, (Q ++ [u])[at_]? = some x → x = q := fun {x} hx => by
    rw [List.getElem?_append_left hat, hq] at hx
    cases hx
    rfl
  have hAu : A.getD u 0 = -1 := by rw [← h.old u hyN hnin]; exact hm
  refine ⟨h.met, h.fN, h.f0, by simp [hL], ?_, ?_, ?_, ?_, ?_, ?_, ?_, ?_, ?_, ?_⟩
  · rw [List.getElem?_append_left (by omega)]; exact h.q0
  · rw [List.nodup_append]
    refine ⟨h.nod, by simp, fun a ha b hb e => ?_⟩
    simp at hb
    subst hb
    subst e
    exact hnin ha
  · intro x hx
    rw [List.mem_append] at hx
    rcases hx with hx | hx
    · rw [hgq x hx]; exact h.inN x hx
    · simp at hx
      subst hx
      refine ⟨hyN, hAu, by rw [hgu]; omega, ?_⟩
      rw [← labV_adj hR hadj]
      exact (h.inN q hqm).2.2.2
  · intro v hv hnv
    rw [List.mem_append] at hnv
    rw [hgo v (fun e => hnv (.inr (by simp [e])))]
    exact h.old v hv (fun e => hnv (.inl e))
  · intro k x hx
    rcases split hx with ⟨hk, hx⟩ | ⟨rfl, rfl⟩
    · rw [hgq x (List.mem_of_getElem? hx)]; exact h.lvl k x hx
    · rw [hgu]
      have := (h.lvl at_ q hq).1
      omega
  · intro k j x p hkj hx hp
    rcases split hx with ⟨hk, hx2⟩ | ⟨rfl, rfl⟩
    · rcases split hp with ⟨hj, hp2⟩ | ⟨rfl, e⟩
      · rw [hgq x (List.mem_of_getElem? hx2), hgq p (List.mem_of_getElem? hp2)]; exact h.up k j x p hkj hx2 hp2
      · rw [e, hgq x (List.mem_of_getElem? hx2), hgu]; exact h.near q x k hq hx2
    · rcases split hp with ⟨hj, hp⟩ | ⟨rfl, rfl⟩
      · omega
      · omega
  · intro q' p k hq' hp
    cases hq2 hq'
    rw [hgq q hqm]
    rcases split hp with ⟨hj, hp⟩ | ⟨rfl, rfl⟩
    · rw [hgq p (List.mem_of_getElem? hp)]; exact h.near q p k hq hp
    · rw [hgu]; omega
  · intro k x hx hk0
    rcases split hx with ⟨hk, hx⟩ | ⟨rfl, rfl⟩
    · obtain ⟨z, h1, h2, h3⟩ := h.prev k x hx hk0
      exact ⟨z, h1, List.mem_append_left _ h2, by rw [hgq z h2, hgq x (List.mem_of_getElem? hx)]; exact h3⟩
    · exact ⟨q, hadj, List.mem_append_left _ hqm, by rw [hgu, hgq q hqm]⟩
  · intro k x hk hx v hv
    rcases split hx with ⟨hk', hx⟩ | ⟨rfl, rfl⟩
    · obtain ⟨h1, h2⟩ := h.done k x hk hx v hv
      have hvu : v ≠ u := fun e => by subst e; omega
      rw [hgo v hvu, hgq x (List.mem_of_getElem? hx)]
      exact ⟨h1, h2⟩
    · omega
  · intro q' hq' k x hk hx
    cases hq2 hq'
    rw [hgq q hqm]
    by_cases e : x = u
    · subst e; rw [hgu]; omega
    · rw [hgo x e]
      by_cases ek : k = i
      · subst ek
        rw [hu] at hx
        exact absurd (by have := Option.some.inj hx; omega) e
      · exact h.now q hq k x (by omega) hx
/-- All neighbours are gone through. -/
theorem Run.next {N : Nat} {l : List Ed} {f : Nat} {A L : List Int} {Q : List Nat} {at_ i : Nat} (hR : RightG (N : Int) l) (h : Run N l f A L Q at_ i) {q : Nat} (hq : Q[at_]? = some q) (hi : (nb l (q : Int)).length ≤ i) : Run N l f A L Q (at_ + 1) 0 := by
  refine { h with near := fun q' p k hq' hp => ?_, done := fun k x hk hx v hv => ?_, now := fun q' hq' k u hk => by omega }
  · have h1 := h.up at_ (at_ + 1) q q' (by omega) hq hq'
    have h2 := h.near q p k hq hp
    omega
  · by_cases e : k = at_
    · subst e
      rw [hq] at hx
      cases hx
      obtain ⟨j, hj⟩ := List.mem_iff_getElem?.1 ((nb_adj hR).2 ⟨v, rfl, (adj_lt hR hv).2, hv⟩)
      exact h.now q hq j v (by have := (List.getElem?_eq_some_iff.1 hj).1; omega) hj
    · exact h.done k x (by omega) hx v hv
/-- The line is gone through. -/
theorem Run.fin {N : Nat} {l : List Ed} {f : Nat} {A L : List Int} {Q : List Nat} {at_ i : Nat} (hR : RightG (N : Int) l) (h : Run N l f A L Q at_ i) (hat : Q.length ≤ at_) : Met N l (f + 1) L := by
  have hfew := h.few
  have hL : ∀ v, v < N → v ∉ Q → L.getD v 0 = A.getD v 0 := h.old
  refine ⟨h.len, fun v hv => ?_, fun v hv hN => ?_, fun u v ha h0 => ?_, fun v hv h0 => ?_, fun v hv h0 => ?_⟩
  · by_cases hin : v ∈ Q
    · obtain ⟨k, hk⟩ := List.mem_iff_getElem?.1 hin
      have h1 := (h.lvl k v hk).1
      have h2 := (List.getElem?_eq_some_iff.1 hk).1
      have h3 := (h.inN v hin).2.2.1
      omega
    · rw [hL v hv hin]; exact h.met.ran v hv
  · by_cases hin : v ∈ Q
    · exact (h.inN v hin).2.2.1
    · rw [hL v hN hin]
      by_cases e : v = f
      · subst e
        exact absurd (List.mem_of_getElem? h.q0) hin
      · exact h.met.first v (by omega) hN
  · by_cases hin : u ∈ Q
    · obtain ⟨k, hk⟩ := List.mem_iff_getElem?.1 hin
      exact h.done k u (by have := (List.getElem?_eq_some_iff.1 hk).1; omega) hk v ha
    · have hb := adj_lt hR ha
      rw [hL u hb.1 hin] at h0 ⊢
      obtain ⟨h1, h2⟩ := h.met.clos u v ha h0
      by_cases hin2 : v ∈ Q
      · have := (h.inN v hin2).2.1
        omega
      · rw [hL v hb.2 hin2]
        exact ⟨h1, h2⟩
  · by_cases hin : v ∈ Q
    · obtain ⟨k, hk⟩ := List.mem_iff_getElem?.1 hin
      rw [(h.lvl k v hk).2, (h.inN v hin).2.2.2]
      have hQ0 := h.q0
      constructor
      · rintro rfl
        rw [hQ0] at hk
        cases hk
        rfl
      · intro e
        have e2 : f = v := by omega
        subst e2
        have h1 := (List.getElem?_eq_some_iff.1 hk).1
        have h2 := (List.getElem?_eq_some_iff.1 hQ0).1
        exact (List.getElem?_inj h1 h.nod).1 (hk.trans hQ0.symm)
    · rw [hL v hv hin] at h0 ⊢
      exact h.met.zero v hv h0
  · by_cases hin : v ∈ Q
    · obtain ⟨k, hk⟩ := List.mem_iff_getElem?.1 hin
      obtain ⟨u, h1, _, h3⟩ := h.prev k v hk (fun e => by have := (h.lvl k v hk).2; omega)
      exact ⟨u, h1, h3⟩
    · rw [hL v hv hin] at h0 ⊢
      obtain ⟨u, h1, h2⟩ := h.met.prev v hv h0
      refine ⟨u, h1, ?_⟩
      by_cases hin2 : u ∈ Q
      · have := (h.inN u hin2).2.1
        have := (h.met.clos v u h1.symm (by omega)).1
        omega
      · rw [hL u (adj_lt hR h1).1 hin2]; exact h2
end Go.Proofs.Ytdgecflljgnobaa
