/-
  Ways in multigraphs: what the distances from a vertex are, that they are told by no edge's being too long and by ways that are as long, and the ways by last edges. No program.
-/

namespace Go.Proofs.YthdhimcaojfcnaaGreat

/-- An edge: its ends, its weight. -/
abbrev Eg := Nat × Nat × Nat
def Jn (e : Eg) (a b : Nat) : Prop := (e.1 = a ∧ e.2.1 = b) ∨ (e.1 = b ∧ e.2.1 = a)
theorem Jn.symm {e : Eg} {a b : Nat} (h : Jn e a b) : Jn e b a := h.elim .inr .inl
/-- A walk from s, its last vertex first, and what it costs. -/
def SW (l : List Eg) (s : Nat) : List Nat → Nat → Prop
  | [], _ => False
  | [v], c => v = s ∧ c = 0
  | v :: u :: t, c => ∃ e, e ∈ l ∧ Jn e u v ∧ ∃ c', c = c' + e.2.2 ∧ SW l s (u :: t) c'
theorem SW.cons {l : List Eg} {s u v : Nat} {t : List Nat} {c : Nat} {e : Eg} (he : e ∈ l) (hj : Jn e u v) (h : SW l s (u :: t) c) : SW l s (v :: u :: t) (c + e.2.2) := ⟨e, he, hj, c, rfl, h⟩
theorem SW.one (l : List Eg) (s : Nat) : SW l s [s] 0 := ⟨rfl, rfl⟩
theorem sw_cut {l : List Eg} {s : Nat} : ∀ {L : List Nat} {c : Nat} {v : Nat}, SW l s L c → v ∈ L → ∃ t c', SW l s (v :: t) c' ∧ c' ≤ c ∧ (v :: t).Sublist L
  | [], _, _, h, _ => h.elim
  | [x], c, v, h, hv => by
    have : v = x := by simpa using hv
    subst this
    exact ⟨[], c, h, Nat.le_refl _, List.Sublist.refl _⟩
  | x :: u :: t, c, v, h, hv => by
    by_cases e : v = x
    · subst e
      exact ⟨u :: t, c, h, Nat.le_refl _, List.Sublist.refl _⟩
    · have hv' : v ∈ u :: t := by
        rcases List.mem_cons.1 hv with h1 | h1
        · exact absurd h1 e
        · exact h1
      obtain ⟨e', _, _, c', hc, h'⟩ := h
      obtain ⟨t', c'', h1, h2, h3⟩ := sw_cut h' hv'
      exact ⟨t', c'', h1, by omega, h3.cons _⟩
theorem sw_simple {l : List Eg} {s : Nat} : ∀ {L : List Nat} {c : Nat} {v : Nat}, SW l s (v :: L) c → ∃ t c', SW l s (v :: t) c' ∧ c' ≤ c ∧ (v :: t).Nodup
  | [], c, v, h => ⟨[], c, h, Nat.le_refl _, by simp⟩
  | u :: t, c, v, h => by
    obtain ⟨e, he, hj, c', hc, h'⟩ := h
    obtain ⟨t1, c1, h1, h2, h3⟩ := sw_simple h'
    by_cases hv : v ∈ u :: t1
    · obtain ⟨t2, c2, k1, k2, k3⟩ := sw_cut h1 hv
      exact ⟨t2, c2, k1, by omega, h3.sublist k3⟩
    · exact ⟨u :: t1, c1 + e.2.2, h1.cons he hj, by omega, List.nodup_cons.2 ⟨hv, h3⟩⟩
theorem sw_lt {l : List Eg} {n s : Nat} (hl : ∀ e ∈ l, e.1 < n ∧ e.2.1 < n) (hs : s < n) : ∀ {L : List Nat} {c : Nat}, SW l s L c → ∀ v ∈ L, v < n
  | [], _, h => h.elim
  | [x], c, h => by
    intro v hv
    have : v = x := by simpa using hv
    subst this
    rw [h.1]; exact hs
  | x :: u :: t, c, h => by
    obtain ⟨e, he, hj, c', hc, h'⟩ := h
    intro v hv
    rcases List.mem_cons.1 hv with h1 | h1
    · subst h1
      have := hl e he
      rcases hj with ⟨a, b⟩ | ⟨a, b⟩ <;> omega
    · exact sw_lt hl hs h' v h1
theorem nodup_le : ∀ (n : Nat) (L : List Nat), L.Nodup → (∀ v ∈ L, v < n) → L.length ≤ n
  | 0, [], _, _ => Nat.le_refl _
  | 0, x :: L, _, h => absurd (h x (by simp)) (by omega)
  | n + 1, L, hn, h => by
    have h1 : (L.erase n).length ≤ n := nodup_le n (L.erase n) (hn.sublist (List.erase_sublist)) fun v hv => by
      have h2 := (hn.mem_erase_iff).1 hv
      have := h v h2.2
      have := h2.1
      omega
    have := List.length_erase_le (a := n) (l := L)
    have h3 : L.length - 1 ≤ (L.erase n).length := by
      rw [List.length_erase]
      split <;> omega
    omega

/-- What a list of numbers says of a vertex. -/
def at' (d : List Int) (v : Nat) : Int := d.getD v (-1)
theorem at_get {d : List Int} {v : Nat} (h : v < d.length) : at' d v = d[v] := by simp [at', h]
theorem at_get? {d : List Int} {v : Nat} (h : v < d.length) : d[v]? = some (at' d v) := by simp [at', h]
theorem at_set {d : List Int} {v : Nat} (x : Int) (h : v < d.length) (u : Nat) : at' (d.set v x) u = if u = v then x else at' d u := by
  unfold at'
  by_cases e : u = v
  · subst e; simp [List.getD, h]
  · rw [if_neg e]; simp [List.getD, List.getElem?_set_ne (Ne.symm e)]
/-- The distances from s of all n vertices. -/
def IsD (l : List Eg) (s n : Nat) (d : List Int) : Prop :=
  d.length = n ∧ ∀ v, v < n → (at' d v = -1 ∧ ∀ L c, ¬ SW l s (v :: L) c) ∨ ∃ c : Nat, at' d v = c ∧ (∃ L, SW l s (v :: L) c) ∧ ∀ L c', SW l s (v :: L) c' → c ≤ c'
theorem IsD.uniq {l : List Eg} {s n : Nat} {d d' : List Int} (h : IsD l s n d) (h' : IsD l s n d') : d = d' := by
  refine List.ext_getElem (h.1.trans h'.1.symm) fun v h1 h2 => ?_
  rw [← at_get h1, ← at_get h2]
  have hv : v < n := by rw [← h.1]; exact h1
  rcases h.2 v hv with ⟨a, b⟩ | ⟨c, a, ⟨L, b⟩, k⟩ <;> rcases h'.2 v hv with ⟨a', b'⟩ | ⟨c', a', ⟨L', b'⟩, k'⟩
  · omega
  · exact absurd b' (b L' c')
  · exact absurd b (b' L c)
  · have := k L' c' b'
    have := k' L c b
    omega
/-- No edge makes a shorter way. -/
def Kept (d : List Int) (e : Eg) : Prop := (at' d e.1 < 0 ∧ at' d e.2.1 = at' d e.1) ∨ (0 ≤ at' d e.1 ∧ 0 ≤ at' d e.2.1 ∧ at' d e.1 - at' d e.2.1 ≤ e.2.2 ∧ at' d e.2.1 - at' d e.1 ≤ e.2.2)
theorem kept_le {d : List Int} {e : Eg} (h : Kept d e) {a b : Nat} (hj : Jn e a b) (ha : 0 ≤ at' d a) : 0 ≤ at' d b ∧ at' d b ≤ at' d a + e.2.2 := by
  rcases hj with ⟨rfl, rfl⟩ | ⟨rfl, rfl⟩ <;> rcases h with h | h <;> omega
theorem sw_ge {l : List Eg} {s : Nat} {d : List Int} (hs : at' d s = 0) (hk : ∀ e ∈ l, Kept d e) : ∀ {L : List Nat} {v c : Nat}, SW l s (v :: L) c → 0 ≤ at' d v ∧ at' d v ≤ c
  | [], v, c, h => by rw [h.1, hs, h.2]; simp
  | u :: t, v, c, h => by
    obtain ⟨e, he, hj, c', hc, h'⟩ := h
    have h1 := sw_ge hs hk h'
    have h2 := kept_le (hk e he) hj h1.1
    omega
theorem isD_of {l : List Eg} {s n : Nat} {d : List Int} (hn : d.length = n) (hs : at' d s = 0) (hk : ∀ e ∈ l, Kept d e) (hw : ∀ v, v < n → at' d v = -1 ∨ ∃ L, ∃ c : Nat, at' d v = c ∧ SW l s (v :: L) c) : IsD l s n d := by
  refine ⟨hn, fun v hv => ?_⟩
  rcases hw v hv with h | ⟨L, c, h, h'⟩
  · refine .inl ⟨h, fun L c h' => ?_⟩
    have := sw_ge hs hk h'
    omega
  · refine .inr ⟨c, h, ⟨L, h'⟩, fun L' c' h'' => ?_⟩
    have := sw_ge hs hk h''
    omega
theorem IsD.zero {l : List Eg} {s n : Nat} {d : List Int} (h : IsD l s n d) (hs : s < n) : at' d s = 0 := by
  rcases h.2 s hs with ⟨_, b⟩ | ⟨c, a, _, k⟩
  · exact absurd (SW.one l s) (b [] 0)
  · have := k [] 0 (SW.one l s)
    omega
theorem IsD.ge {l : List Eg} {s n : Nat} {d : List Int} (h : IsD l s n d) {v : Nat} (hv : v < n) : -1 ≤ at' d v := by
  rcases h.2 v hv with ⟨_, b⟩ | ⟨c, a, _, k⟩ <;> omega
theorem IsD.kept {l : List Eg} {s n : Nat} {d : List Int} (h : IsD l s n d) (hl : ∀ e ∈ l, e.1 < n ∧ e.2.1 < n) {e : Eg} (he : e ∈ l) : Kept d e := by
  have hstep : ∀ a b, Jn e a b → a < n → b < n → 0 ≤ at' d a → 0 ≤ at' d b ∧ at' d b ≤ at' d a + e.2.2 := by
    intro a b hj ha hb h0
    rcases h.2 a ha with ⟨h1, _⟩ | ⟨c, h1, ⟨L, h2⟩, _⟩
    · omega
    · have h3 := h2.cons he hj
      rcases h.2 b hb with ⟨_, k2⟩ | ⟨c', k1, _, k3⟩
      · exact absurd h3 (k2 _ _)
      · have := k3 _ _ h3
        omega
  obtain ⟨h1, h2⟩ := hl e he
  have a := hstep e.1 e.2.1 (.inl ⟨rfl, rfl⟩) h1 h2
  have b := hstep e.2.1 e.1 (.inr ⟨rfl, rfl⟩) h2 h1
  have c := h.ge h1
  have c' := h.ge h2
  by_cases k : 0 ≤ at' d e.1
  · exact .inr (by have := a k; have := b this.1; omega)
  · by_cases k' : 0 ≤ at' d e.2.1
    · have := b k'; omega
    · exact .inl (by omega)

/-- The end of an edge of v's that is not v (of a loop: v). -/
def oth (e : Eg) (v : Nat) : Nat := if e.1 = v then e.2.1 else e.1
theorem oth_jn {e : Eg} {v : Nat} (h : e.1 = v ∨ e.2.1 = v) : Jn e (oth e v) v := by
  unfold oth Jn
  by_cases k : e.1 = v
  · rw [if_pos k]; exact .inr ⟨k, rfl⟩
  · rw [if_neg k]; exact .inl ⟨rfl, h.resolve_left k⟩
theorem oth_of {e : Eg} {a b : Nat} (h : Jn e a b) : oth e b = a := by
  unfold oth
  rcases h with ⟨h1, h2⟩ | ⟨h1, h2⟩
  · by_cases k : e.1 = b
    · rw [if_pos k]; omega
    · rw [if_neg k]; omega
  · rw [if_pos h1]; exact h2
/-- Where going by last edges comes to from v by one step. -/
def par (l : List Eg) (via : List Int) (v : Nat) : Nat := if at' via v = -1 then v else oth (l.getD (at' via v).toNat (0, 0, 0)) v
def up (l : List Eg) (via : List Int) : Nat → Nat → Nat
  | 0, v => v
  | k + 1, v => up l via k (par l via v)
theorem up_add (l : List Eg) (via : List Int) : ∀ (j k v : Nat), up l via (j + k) v = up l via k (up l via j v)
  | 0, k, v => by simp [up]
  | j + 1, k, v => by rw [Nat.succ_add]; exact up_add l via j k _
theorem up_succ (l : List Eg) (via : List Int) (k v : Nat) : up l via (k + 1) v = par l via (up l via k v) := up_add l via k 1 v
theorem par_none {l : List Eg} {via : List Int} {v : Nat} (h : at' via v = -1) : par l via v = v := if_pos h
theorem up_none {l : List Eg} {via : List Int} {v : Nat} (h : at' via v = -1) : ∀ k, up l via k v = v
  | 0 => rfl
  | k + 1 => by show up l via k (par l via v) = v; rw [par_none h]; exact up_none h k
/-- The last edge of v is one that ends there, and its other end is nearer by its weight. -/
def Last (l : List Eg) (d via : List Int) (v : Nat) : Prop := ∃ i : Nat, at' via v = i ∧ ∃ e, l[i]? = some e ∧ (e.1 = v ∨ e.2.1 = v) ∧ at' d (oth e v) = at' d v - e.2.2
theorem Last.par {l : List Eg} {d via : List Int} {v : Nat} (h : Last l d via v) : ∃ i : Nat, at' via v = i ∧ ∃ e, l[i]? = some e ∧ e ∈ l ∧ Jn e (par l via v) v ∧ par l via v = oth e v ∧ at' d (par l via v) = at' d v - e.2.2 := by
  obtain ⟨i, hi, e, he, hv, hd⟩ := h
  have hp : Go.Proofs.YthdhimcaojfcnaaGreat.par l via v = oth e v := by
    unfold Go.Proofs.YthdhimcaojfcnaaGreat.par
    rw [if_neg (by omega), hi]
    have : l.getD i (0, 0, 0) = e := by simp [List.getD, he]
    rw [Int.toNat_natCast, this]
  exact ⟨i, hi, e, he, List.mem_of_getElem? he, by rw [hp]; exact oth_jn hv, hp, by rw [hp]; exact hd⟩
/-- What is right: the distances, and last edges of shortest ways. -/
structure OKc (l : List Eg) (s n : Nat) (d via : List Int) : Prop where
  dist : IsD l s n d
  len : via.length = n
  zero : at' via s = -1
  last : ∀ v, v < n → v ≠ s → (at' d v < 0 ∧ at' via v = -1) ∨ (0 ≤ at' d v ∧ Last l d via v)
  come : ∀ v, v < n → 0 ≤ at' d v → ∃ k, up l via k v = s
end Go.Proofs.YthdhimcaojfcnaaGreat

namespace Go.Proofs.YthdhimcaojfcnaaGreat

theorem par_lt {l : List Eg} {d via : List Int} {v n : Nat} (hl : ∀ e ∈ l, e.1 < n ∧ e.2.1 < n) (h : Last l d via v) : par l via v < n := by
  obtain ⟨i, hi, e, he, hm, hj, hp, _⟩ := h.par
  have := hl e hm
  rcases hj with ⟨a, b⟩ | ⟨a, b⟩ <;> omega
theorem okc_walk {l : List Eg} {s n : Nat} {d via : List Int} (hl : ∀ e ∈ l, e.1 < n ∧ e.2.1 < n) (h0 : at' d s = 0) (hz : at' via s = -1) (hk : ∀ e ∈ l, Kept d e)
    (hr : ∀ v, v < n → v ≠ s → (at' d v = -1 ∧ at' via v = -1) ∨ (0 ≤ at' d v ∧ Last l d via v)) : ∀ (k v : Nat), v < n → 0 ≤ at' d v → at' via (up l via k v) = -1 → (∃ L, ∃ c : Nat, at' d v = c ∧ SW l s (v :: L) c) ∧ up l via k v = s := by
  have hone : ∀ k, (∃ L, ∃ c : Nat, at' d s = c ∧ SW l s (s :: L) c) ∧ up l via k s = s := fun k => ⟨⟨[], 0, by simpa using h0, SW.one l s⟩, up_none hz k⟩
  intro k
  induction k with
  | zero =>
    intro v hv h1 h2
    by_cases e : v = s
    · subst e; exact hone 0
    · have h2' : at' via v = -1 := h2
      rcases hr v hv e with h | ⟨_, i, hi, _⟩ <;> omega
  | succ k ih =>
    intro v hv h1 h2
    by_cases e : v = s
    · subst e; exact hone _
    · rcases hr v hv e with h | ⟨_, hL⟩
      · omega
      · obtain ⟨i, hi, e', he, hm, hj, hp, hd⟩ := hL.par
        have k1 := kept_le (hk e' hm) hj.symm h1
        obtain ⟨⟨L, c, h3, h4⟩, h5⟩ := ih (par l via v) (par_lt hl hL) k1.1 h2
        exact ⟨⟨_, _, by omega, h4.cons hm hj⟩, h5⟩
theorem okc_of {l : List Eg} {s n : Nat} {d via : List Int} (hl : ∀ e ∈ l, e.1 < n ∧ e.2.1 < n) (hd : d.length = n) (hv : via.length = n) (h0 : at' d s = 0) (hz : at' via s = -1) (hk : ∀ e ∈ l, Kept d e)
    (hr : ∀ v, v < n → v ≠ s → (at' d v = -1 ∧ at' via v = -1) ∨ (0 ≤ at' d v ∧ Last l d via v)) (he : ∀ v, v < n → ∃ k, at' via (up l via k v) = -1) : OKc l s n d via := by
  have hw := okc_walk hl h0 hz hk hr
  refine ⟨isD_of hd h0 hk fun v hvn => ?_, hv, hz, fun v hvn hne => ?_, fun v hvn h1 => ?_⟩
  · by_cases e : v = s
    · subst e; exact .inr ⟨[], 0, by simpa using h0, SW.one l v⟩
    · rcases hr v hvn e with h | ⟨h1, _⟩
      · exact .inl h.1
      · obtain ⟨k, hk'⟩ := he v hvn
        exact .inr (hw k v hvn h1 hk').1
  · rcases hr v hvn hne with h | h
    · exact .inl ⟨by omega, h.2⟩
    · exact .inr h
  · obtain ⟨k, hk'⟩ := he v hvn
    exact ⟨k, (hw k v hvn h1 hk').2⟩
theorem OKc.round {l : List Eg} {s n : Nat} {d via : List Int} (h : OKc l s n d via) {v : Nat} (hv : v < n) (M : Nat → Prop) (hM : M v) (hs : ∀ x, x < n → M x → at' via x ≠ -1 ∧ M (par l via x)) (hl : ∀ e ∈ l, e.1 < n ∧ e.2.1 < n) : False := by
  have hne : v ≠ s := fun e => (hs v hv hM).1 (e ▸ h.zero)
  rcases h.last v hv hne with h1 | ⟨h1, _⟩
  · exact (hs v hv hM).1 h1.2
  · have hall : ∀ k x, x < n → M x → up l via k x ≠ s := by
      intro k
      induction k with
      | zero => intro x hx hm e; exact (hs x hx hm).1 ((show x = s from e) ▸ h.zero)
      | succ k ih =>
        intro x hx hm
        have hxs : x ≠ s := fun e => (hs x hx hm).1 (e ▸ h.zero)
        rcases h.last x hx hxs with h1 | ⟨_, h1⟩
        · exact absurd h1.2 (hs x hx hm).1
        · exact ih _ (par_lt hl h1) (hs x hx hm).2
    obtain ⟨k, hk⟩ := h.come v hv h1
    exact hall k v hv hM hk

/-- A way by last edges to s, as vertices. -/
def CH (l : List Eg) (via : List Int) (s : Nat) : List Nat → Prop
  | [] => False
  | [v] => v = s
  | v :: u :: t => u = par l via v ∧ CH l via s (u :: t)
theorem ch_up {l : List Eg} {via : List Int} {s : Nat} : ∀ {L : List Nat} {v : Nat}, CH l via s (v :: L) → up l via L.length v = s
  | [], v, h => h
  | u :: t, v, h => by
    show up l via t.length (par l via v) = s
    rw [← h.1]; exact ch_up h.2
theorem ch_cut {l : List Eg} {via : List Int} {s : Nat} : ∀ {L : List Nat} {v : Nat}, CH l via s L → v ∈ L → ∃ t, CH l via s (v :: t) ∧ (v :: t).Sublist L
  | [], _, h, _ => h.elim
  | [x], v, h, hv => by
    have : v = x := by simpa using hv
    subst this
    exact ⟨[], h, List.Sublist.refl _⟩
  | x :: u :: t, v, h, hv => by
    by_cases e : v = x
    · subst e; exact ⟨u :: t, h, List.Sublist.refl _⟩
    · obtain ⟨t', h1, h2⟩ := ch_cut h.2 ((List.mem_cons.1 hv).resolve_left e)
      exact ⟨t', h1, h2.cons _⟩
theorem ch_of {l : List Eg} {via : List Int} {s : Nat} : ∀ (k v : Nat), up l via k v = s → ∃ t, CH l via s (v :: t) ∧ (v :: t).Nodup
  | 0, v, h => ⟨[], h, by simp⟩
  | k + 1, v, h => by
    obtain ⟨t, h1, h2⟩ := ch_of k (par l via v) h
    by_cases hv : v ∈ par l via v :: t
    · obtain ⟨t', h3, h4⟩ := ch_cut h1 hv
      exact ⟨t', h3, h2.sublist h4⟩
    · exact ⟨par l via v :: t, ⟨rfl, h1⟩, List.nodup_cons.2 ⟨hv, h2⟩⟩
theorem OKc.short {l : List Eg} {s n : Nat} {d via : List Int} (h : OKc l s n d via) (hl : ∀ e ∈ l, e.1 < n ∧ e.2.1 < n) (hs : s < n) {v : Nat} (hv : v < n) (h0 : 0 ≤ at' d v) : ∃ t, CH l via s (v :: t) ∧ t.length < n := by
  obtain ⟨k, hk⟩ := h.come v hv h0
  obtain ⟨t, h1, h2⟩ := ch_of k v hk
  have hall : ∀ (t : List Nat) (v : Nat), v < n → CH l via s (v :: t) → ∀ x ∈ v :: t, x < n := by
    intro t
    induction t with
    | nil => intro v hv _ x hx; have : x = v := by simpa using hx
             omega
    | cons u t ih =>
      intro v hv hc x hx
      rcases List.mem_cons.1 hx with h1 | h1
      · omega
      · refine ih u ?_ hc.2 x h1
        rw [hc.1]
        by_cases e : v = s
        · subst e; rw [par_none h.zero]; exact hv
        · rcases h.last v hv e with h2 | ⟨_, h2⟩
          · rw [par_none h2.2]; exact hv
          · exact par_lt hl h2
  have := nodup_le n _ h2 (hall t v hv h1)
  exact ⟨t, h1, by simp at this; omega⟩
/-- Where all have come to s, or not. -/
theorem up_to {l : List Eg} {via : List Int} {s : Nat} (hz : at' via s = -1) {i k v : Nat} (h : up l via i v = s) (hk : i ≤ k) : up l via k v = s := by
  obtain ⟨j, rfl⟩ := Nat.exists_eq_add_of_le hk
  rw [up_add, h]; exact up_none hz j

/-! ### From behind -/
theorem sw_first {l : List Eg} {s s' : Nat} {e : Eg} (he : e ∈ l) (hj : Jn e s' s) : ∀ {L : List Nat} {v c : Nat}, SW l s (v :: L) c → ∃ L', SW l s' (v :: L') (c + e.2.2)
  | [], v, c, h => by
    obtain ⟨rfl, rfl⟩ := h
    exact ⟨[s'], (SW.one l s').cons he hj⟩
  | u :: t, v, c, h => by
    obtain ⟨e', he', hj', c', hc, h'⟩ := h
    obtain ⟨L', h1⟩ := sw_first he hj h'
    refine ⟨u :: L', ?_⟩
    have := h1.cons he' hj'
    rwa [show c' + e.2.2 + e'.2.2 = c + e.2.2 by omega] at this
theorem sw_back {l : List Eg} {s : Nat} : ∀ {L : List Nat} {v c : Nat}, SW l s (v :: L) c → ∃ L', SW l v (s :: L') c
  | [], v, c, h => by
    obtain ⟨rfl, rfl⟩ := h
    exact ⟨[], SW.one l v⟩
  | u :: t, v, c, h => by
    obtain ⟨e', he', hj', c', hc, h'⟩ := h
    obtain ⟨L', h1⟩ := sw_back h'
    obtain ⟨L'', h2⟩ := sw_first he' hj'.symm h1
    exact ⟨L'', hc ▸ h2⟩
theorem mutual_at {l : List Eg} {a b n : Nat} {d e : List Int} (h : IsD l a n d) (h' : IsD l b n e) (ha : a < n) (hb : b < n) : at' d b = at' e a := by
  rcases h.2 b hb with ⟨h1, h2⟩ | ⟨c, h1, ⟨L, h2⟩, h3⟩ <;> rcases h'.2 a ha with ⟨k1, k2⟩ | ⟨c', k1, ⟨L', k2⟩, k3⟩
  · omega
  · obtain ⟨L'', x⟩ := sw_back k2; exact absurd x (h2 _ _)
  · obtain ⟨L'', x⟩ := sw_back h2; exact absurd x (k2 _ _)
  · obtain ⟨L1, x1⟩ := sw_back k2
    obtain ⟨L2, x2⟩ := sw_back h2
    have := h3 _ _ x1
    have := k3 _ _ x2
    omega

/-! ### Edges that make a way shorter, again and again -/
def rel1 (d : List Int) (a b w : Nat) : List Int := if 0 ≤ at' d a ∧ (at' d b < 0 ∨ at' d a + w < at' d b) then d.set b (at' d a + w) else d
def relE (d : List Int) (e : Eg) : List Int := rel1 (rel1 d e.1 e.2.1 e.2.2) e.2.1 e.1 e.2.2
def relL (d : List Int) (l : List Eg) : List Int := l.foldl relE d
def relN (l : List Eg) (d : List Int) : Nat → List Int
  | 0 => d
  | i + 1 => relL (relN l d i) l
theorem rel1_len (d : List Int) (a b w : Nat) : (rel1 d a b w).length = d.length := by unfold rel1; split <;> simp
theorem relE_len (d : List Int) (e : Eg) : (relE d e).length = d.length := by unfold relE; rw [rel1_len, rel1_len]
theorem relL_len : ∀ (l : List Eg) (d : List Int), (relL d l).length = d.length
  | [], _ => rfl
  | e :: l, d => (relL_len l (relE d e)).trans (relE_len d e)
theorem relN_len (l : List Eg) (d : List Int) : ∀ i, (relN l d i).length = d.length
  | 0 => rfl
  | i + 1 => (relL_len l _).trans (relN_len l d i)
theorem relL_step {d : List Int} {l : List Eg} {k : Nat} (h : k < l.length) : relL d (l.take (k + 1)) = relE (relL d (l.take k)) l[k] := by
  unfold relL
  rw [List.take_succ_eq_append_getElem h, List.foldl_append]
  rfl
/-- What a list of tentative distances bears. -/
structure BF (l : List Eg) (s n : Nat) (b : Nat) (d : List Int) : Prop where
  len : d.length = n
  zero : at' d s = 0
  reach : ∀ v, v < n → at' d v = -1 ∨ ∃ L, ∃ c : Nat, at' d v = c ∧ SW l s (v :: L) c
  few : ∀ v, at' d v ≤ b
theorem BF.mono {l : List Eg} {s n b b' : Nat} {d : List Int} (h : BF l s n b d) (hb : b ≤ b') : BF l s n b' d := ⟨h.len, h.zero, h.reach, fun v => by have := h.few v; omega⟩
theorem BF.rel1 {l : List Eg} {s n b : Nat} {d : List Int} (h : BF l s n b d) {e : Eg} (he : e ∈ l) {x y : Nat} (hj : Jn e x y) (hx : x < n) (hy : y < n) : BF l s n (b + e.2.2) (rel1 d x y e.2.2) := by
  unfold Go.Proofs.YthdhimcaojfcnaaGreat.rel1
  split
  · rename_i hc
    have hlt : y < d.length := by rw [h.len]; exact hy
    refine ⟨by simp [h.len], ?_, fun v hv => ?_, fun v => ?_⟩
    · rw [at_set _ hlt]
      split
      · rename_i e'; subst e'; have := h.zero; omega
      · exact h.zero
    · rw [at_set _ hlt]
      split
      · rename_i e'; subst e'
        rcases h.reach x hx with h1 | ⟨L, c, h1, h2⟩
        · omega
        · exact .inr ⟨_, c + e.2.2, by omega, h2.cons he hj⟩
      · exact h.reach v hv
    · rw [at_set _ hlt]
      have := h.few v
      have := h.few x
      split <;> omega
  · exact h.mono (by omega)
theorem BF.relE {l : List Eg} {s n b : Nat} {d : List Int} (h : BF l s n b d) {e : Eg} (he : e ∈ l) (hl : ∀ e ∈ l, e.1 < n ∧ e.2.1 < n) : BF l s n (b + 2 * e.2.2) (relE d e) := by
  have h1 := h.rel1 he (.inl ⟨rfl, rfl⟩) (hl e he).1 (hl e he).2
  have h2 := h1.rel1 he (.inr ⟨rfl, rfl⟩) (hl e he).2 (hl e he).1
  exact h2.mono (by omega)
theorem BF.relL {l : List Eg} {s n b M : Nat} {d : List Int} (h : BF l s n b d) (hl : ∀ e ∈ l, e.1 < n ∧ e.2.1 < n) (hM : ∀ e ∈ l, e.2.2 ≤ M) : ∀ k, k ≤ l.length → BF l s n (b + k * (2 * M)) (relL d (l.take k))
  | 0, _ => by simpa [Go.Proofs.YthdhimcaojfcnaaGreat.relL] using h
  | k + 1, hk => by
    have h1 := BF.relL h hl hM k (by omega)
    have hm := List.getElem_mem (l := l) (n := k) (by omega)
    rw [relL_step (by omega)]
    refine (h1.relE hm hl).mono ?_
    have := hM _ hm
    have e1 : (k + 1) * (2 * M) = k * (2 * M) + 2 * M := Nat.succ_mul _ _
    omega
theorem BF.relN {l : List Eg} {s n b M : Nat} {d : List Int} (h : BF l s n b d) (hl : ∀ e ∈ l, e.1 < n ∧ e.2.1 < n) (hM : ∀ e ∈ l, e.2.2 ≤ M) : ∀ i, BF l s n (b + i * (l.length * (2 * M))) (relN l d i)
  | 0 => by simpa [Go.Proofs.YthdhimcaojfcnaaGreat.relN] using h
  | i + 1 => by
    have h1 := (BF.relN h hl hM i).relL hl hM l.length (Nat.le_refl _)
    rw [List.take_length] at h1
    refine BF.mono h1 ?_
    have e1 : (i + 1) * (l.length * (2 * M)) = i * (l.length * (2 * M)) + l.length * (2 * M) := Nat.succ_mul _ _
    omega
/-- Nothing has become farther. -/
def Mn (d d' : List Int) : Prop := ∀ v, 0 ≤ at' d v → 0 ≤ at' d' v ∧ at' d' v ≤ at' d v
theorem Mn.refl (d : List Int) : Mn d d := fun _ h => ⟨h, Int.le_refl _⟩
theorem Mn.trans {a b c : List Int} (h : Mn a b) (h' : Mn b c) : Mn a c := fun v hv => by
  have := h v hv
  have := h' v this.1
  omega
theorem rel1_mn (d : List Int) {a b w : Nat} (hb : b < d.length) : Mn d (rel1 d a b w) ∧ (0 ≤ at' d a → 0 ≤ at' (rel1 d a b w) b ∧ at' (rel1 d a b w) b ≤ at' d a + w) := by
  unfold rel1
  split
  · rename_i hc
    refine ⟨fun v hv => ?_, fun h => ?_⟩
    · rw [at_set _ hb]
      split
      · rename_i e; subst e; omega
      · omega
    · rw [at_set _ hb, if_pos rfl]; omega
  · exact ⟨Mn.refl d, fun h => by omega⟩
theorem relE_mn (d : List Int) (e : Eg) (h1 : e.1 < d.length) (h2 : e.2.1 < d.length) : Mn d (relE d e) ∧ ∀ a b, Jn e a b → 0 ≤ at' d a → 0 ≤ at' (relE d e) b ∧ at' (relE d e) b ≤ at' d a + e.2.2 := by
  unfold relE
  obtain ⟨m1, k1⟩ := rel1_mn d (a := e.1) (w := e.2.2) h2
  obtain ⟨m2, k2⟩ := rel1_mn (rel1 d e.1 e.2.1 e.2.2) (a := e.2.1) (w := e.2.2) (b := e.1) (by rw [rel1_len]; exact h1)
  refine ⟨m1.trans m2, fun a b hj ha => ?_⟩
  rcases hj with ⟨rfl, rfl⟩ | ⟨rfl, rfl⟩
  · have x := k1 ha
    have := m2 _ x.1
    omega
  · have x := m1 _ ha
    have := k2 x.1
    omega
theorem relL_mn : ∀ (l : List Eg) (d : List Int), (∀ e ∈ l, e.1 < d.length ∧ e.2.1 < d.length) → Mn d (relL d l) ∧ ∀ e ∈ l, ∀ a b, Jn e a b → 0 ≤ at' d a → 0 ≤ at' (relL d l) b ∧ at' (relL d l) b ≤ at' d a + e.2.2
  | [], d, _ => ⟨Mn.refl d, fun e he => by simp at he⟩
  | e :: l, d, h => by
    obtain ⟨m1, k1⟩ := relE_mn d e (h e (by simp)).1 (h e (by simp)).2
    obtain ⟨m2, k2⟩ := relL_mn l (relE d e) (fun x hx => by rw [relE_len]; exact h x (by simp [hx]))
    refine ⟨m1.trans m2, fun x hx a b hj ha => ?_⟩
    rcases List.mem_cons.1 hx with rfl | hx
    · have y := k1 a b hj ha
      have := m2 _ y.1
      show 0 ≤ at' (relL (relE d x) l) b ∧ at' (relL (relE d x) l) b ≤ _
      omega
    · have y := m1 _ ha
      have := k2 x hx a b hj y.1
      show 0 ≤ at' (relL (relE d e) l) b ∧ at' (relL (relE d e) l) b ≤ _
      omega
theorem relN_walk {l : List Eg} {s n : Nat} {d : List Int} {b M : Nat} (h : BF l s n b d) (hl : ∀ e ∈ l, e.1 < n ∧ e.2.1 < n) (hM : ∀ e ∈ l, e.2.2 ≤ M) : ∀ (i : Nat) (L : List Nat) (v c : Nat), L.length ≤ i → SW l s (v :: L) c → 0 ≤ at' (relN l d i) v ∧ at' (relN l d i) v ≤ c := by
  intro i
  induction i with
  | zero =>
    intro L v c hL hw
    obtain rfl := List.eq_nil_of_length_eq_zero (Nat.le_zero.1 hL)
    obtain ⟨rfl, rfl⟩ := hw
    have : at' (relN l d 0) v = 0 := h.zero
    omega
  | succ i ih =>
    intro L v c hL hw
    have hB := h.relN hl hM (i + 1)
    match L, hw with
    | [], hw =>
      obtain ⟨rfl, rfl⟩ := hw
      have := hB.zero
      omega
    | u :: t, hw =>
      obtain ⟨e, he, hj, c', hc, h'⟩ := hw
      have h1 := ih t u c' (by simp at hL; omega) h'
      have h2 := (relL_mn l (relN l d i) (fun x hx => by rw [relN_len, h.len]; exact hl x hx)).2 e he u v hj h1.1
      show 0 ≤ at' (relL (relN l d i) l) v ∧ at' (relL (relN l d i) l) v ≤ c
      omega
theorem relN_isD {l : List Eg} {s n : Nat} {d : List Int} {b M : Nat} (hs : s < n) (h : BF l s n b d) (hl : ∀ e ∈ l, e.1 < n ∧ e.2.1 < n) (hM : ∀ e ∈ l, e.2.2 ≤ M) : IsD l s n (relN l d n) := by
  have hB := h.relN hl hM n
  have hle : ∀ L v c, SW l s (v :: L) c → 0 ≤ at' (relN l d n) v ∧ at' (relN l d n) v ≤ c := by
    intro L v c hw
    obtain ⟨t, c', h1, h2, h3⟩ := sw_simple hw
    have h4 := nodup_le n _ h3 (sw_lt hl hs h1)
    have := relN_walk h hl hM n t v c' (by simp at h4; omega) h1
    omega
  refine ⟨hB.len, fun v hv => ?_⟩
  rcases hB.reach v hv with h1 | ⟨L, c, h1, h2⟩
  · exact .inl ⟨h1, fun L c hw => by have := hle L v c hw; omega⟩
  · exact .inr ⟨c, h1, ⟨L, h2⟩, fun L' c' hw => by have := hle L' v c' hw; omega⟩
def negs (n : Nat) : List Int := List.replicate n (-1)
theorem at_negs (n v : Nat) : at' (negs n) v = -1 := by
  unfold at' negs
  by_cases h : v < n
  · simp [h]
  · simp [List.getD, h]
def dist0 (n s : Nat) : List Int := (negs n).set s 0
theorem dist0_bf (l : List Eg) {s n : Nat} (hs : s < n) : BF l s n 0 (dist0 n s) := by
  have hlen : s < (negs n).length := by simpa [negs] using hs
  refine ⟨by simp [dist0, negs], ?_, fun v hv => ?_, fun v => ?_⟩
  · unfold dist0; rw [at_set _ hlen, if_pos rfl]
  · unfold dist0; rw [at_set _ hlen]
    split
    · rename_i e; subst e; exact .inr ⟨[], 0, rfl, SW.one l v⟩
    · exact .inl (at_negs n v)
  · unfold dist0; rw [at_set _ hlen, at_negs]; split <;> omega
end Go.Proofs.YthdhimcaojfcnaaGreat

namespace Go.Proofs.YthdhimcaojfcnaaGreat

/-- A walk along which nothing is farther than by it. -/
def SWD (l : List Eg) (s : Nat) (d : List Int) : List Nat → Nat → Prop
  | [], _ => False
  | [v], c => v = s ∧ c = 0 ∧ at' d v = 0
  | v :: u :: t, c => (0 ≤ at' d v ∧ at' d v ≤ c) ∧ ∃ e, e ∈ l ∧ Jn e u v ∧ ∃ c', c = c' + e.2.2 ∧ SWD l s d (u :: t) c'
theorem SWD.sw {l : List Eg} {s : Nat} {d : List Int} : ∀ {L : List Nat} {c : Nat}, SWD l s d L c → SW l s L c
  | [], _, h => h
  | [v], c, h => ⟨h.1, h.2.1⟩
  | v :: u :: t, c, h => by
    obtain ⟨_, e, he, hj, c', hc, h'⟩ := h
    exact ⟨e, he, hj, c', hc, h'.sw⟩
theorem SWD.le {l : List Eg} {s : Nat} {d : List Int} : ∀ {L : List Nat} {c : Nat} {v : Nat}, SWD l s d L c → v ∈ L → 0 ≤ at' d v ∧ at' d v ≤ c
  | [], _, _, h, _ => h.elim
  | [x], c, v, h, hv => by
    have : v = x := by simpa using hv
    subst this
    have := h.2.2
    have := h.2.1
    omega
  | x :: u :: t, c, v, h, hv => by
    obtain ⟨h0, e, he, hj, c', hc, h'⟩ := h
    rcases List.mem_cons.1 hv with h1 | h1
    · subst h1; exact h0
    · have := SWD.le h' h1
      omega
theorem SWD.less {l : List Eg} {s : Nat} {d d' : List Int} (hs : at' d' s = 0) (hm : Mn d d') : ∀ {L : List Nat} {c : Nat}, SWD l s d L c → SWD l s d' L c
  | [], _, h => h
  | [v], c, h => by
    obtain ⟨rfl, h2, h3⟩ := h
    exact ⟨rfl, h2, hs⟩
  | v :: u :: t, c, h => by
    obtain ⟨h0, e, he, hj, c', hc, h'⟩ := h
    exact ⟨by have := hm v h0.1; omega, e, he, hj, c', hc, h'.less hs hm⟩
theorem sw_cost {l : List Eg} {s M : Nat} (hM : ∀ e ∈ l, e.2.2 ≤ M) : ∀ {L : List Nat} {c : Nat}, SW l s L c → c ≤ L.length * M
  | [], _, h => h.elim
  | [v], c, h => by rw [h.2]; omega
  | v :: u :: t, c, h => by
    obtain ⟨e, he, hj, c', hc, h'⟩ := h
    have := sw_cost hM h'
    have := hM e he
    have e1 : (v :: u :: t).length * M = (u :: t).length * M + M := Nat.succ_mul _ _
    omega

/-- Distances, last edges, and what waits. -/
structure FI (l : List Eg) (s n : Nat) (D V : List Int) (Q : List (Nat × Nat)) : Prop where
  lenD : D.length = n
  lenV : V.length = n
  zero : at' D s = 0
  none : at' V s = -1
  reach : ∀ v, v < n → (at' D v = -1 ∧ at' V v = -1) ∨ ∃ c : Nat, at' D v = c ∧ ∃ L, SWD l s D (v :: L) c ∧ (v :: L).Nodup
  via : ∀ v, v < n → v ≠ s → 0 ≤ at' D v → ∃ i : Nat, at' V v = i ∧ ∃ e, l[i]? = some e ∧ (e.1 = v ∨ e.2.1 = v) ∧ 0 ≤ at' D (oth e v) ∧ at' D (oth e v) + e.2.2 ≤ at' D v
  chain : ∀ v, v < n → 0 ≤ at' D v → ∃ k, up l V k v = s
  queue : ∀ x ∈ Q, x.2 < n ∧ 0 ≤ at' D x.2 ∧ at' D x.2 ≤ x.1
/-- Each vertex waits, or no edge of its makes a shorter way; of u this is known of some places alone. -/
def Opn (l : List Eg) (n : Nat) (D : List Int) (Q : List (Nat × Nat)) (u : Nat) (pl : List Nat) : Prop :=
  ∀ x, x < n → 0 ≤ at' D x → (∃ c : Nat, at' D x = c ∧ (c, x) ∈ Q) ∨ ∀ (i : Nat) e, l[i]? = some e → (x = u → i ∈ pl ∨ e.1 = e.2.1) → ∀ b, Jn e x b → 0 ≤ at' D b ∧ at' D b ≤ at' D x + e.2.2
theorem FI.perm {l : List Eg} {s n : Nat} {D V : List Int} {Q Q' : List (Nat × Nat)} (h : FI l s n D V Q) (hp : ∀ x ∈ Q', x ∈ Q) : FI l s n D V Q' := ⟨h.lenD, h.lenV, h.zero, h.none, h.reach, h.via, h.chain, fun x hx => h.queue x (hp x hx)⟩
theorem FI.ge {l : List Eg} {s n : Nat} {D V : List Int} {Q : List (Nat × Nat)} (h : FI l s n D V Q) {v : Nat} (hv : v < n) : -1 ≤ at' D v := by
  rcases h.reach v hv with h1 | ⟨c, h1, _⟩ <;> omega
theorem FI.few {l : List Eg} {s n M : Nat} {D V : List Int} {Q : List (Nat × Nat)} (h : FI l s n D V Q) (hl : ∀ e ∈ l, e.1 < n ∧ e.2.1 < n) (hs : s < n) (hM : ∀ e ∈ l, e.2.2 ≤ M) {v : Nat} (hv : v < n) : at' D v ≤ ((n * M : Nat) : Int) := by
  rcases h.reach v hv with h1 | ⟨c, h1, L, h2, h3⟩
  · omega
  · have h4 := sw_cost hM h2.sw
    have h5 := nodup_le n _ h3 (sw_lt hl hs h2.sw)
    have := Nat.mul_le_mul_right M h5
    omega
theorem FI.start (l : List Eg) {s n : Nat} (hs : s < n) {Q : List (Nat × Nat)} (hQ : ∀ x, x ∈ Q ↔ x = (0, s)) : FI l s n (dist0 n s) ((negs n).set s (-1)) Q ∧ Opn l n (dist0 n s) Q n [] := by
  have hlen : s < (negs n).length := by simpa [negs] using hs
  have hV : ∀ v, at' ((negs n).set s (-1)) v = -1 := fun v => by rw [at_set _ hlen, at_negs]; simp
  have hD : ∀ v, at' (dist0 n s) v = if v = s then 0 else -1 := fun v => by unfold dist0; rw [at_set _ hlen, at_negs]
  refine ⟨⟨by simp [dist0, negs], by simp [negs], by rw [hD, if_pos rfl], hV s, fun v hv => ?_, fun v hv hne h0 => ?_, fun v hv h0 => ?_, fun x hx => ?_⟩, fun x hx h0 => ?_⟩
  · by_cases e : v = s
    · subst e
      exact .inr ⟨0, by rw [hD, if_pos rfl]; rfl, [], ⟨rfl, rfl, by rw [hD, if_pos rfl]⟩, by simp⟩
    · exact .inl ⟨by rw [hD, if_neg e], hV v⟩
  · rw [hD, if_neg hne] at h0; omega
  · by_cases e : v = s
    · exact ⟨0, e⟩
    · rw [hD, if_neg e] at h0; omega
  · rw [(hQ x).1 hx]
    exact ⟨hs, by rw [hD, if_pos rfl]; simp, by rw [hD, if_pos rfl]; simp⟩
  · by_cases e : x = s
    · subst e
      exact .inl ⟨0, by rw [hD, if_pos rfl]; rfl, (hQ _).2 rfl⟩
    · rw [hD, if_neg e] at h0; omega
/-- A vertex's parent by last edges is not farther. -/
theorem FI.par {l : List Eg} {s n : Nat} {D V : List Int} {Q : List (Nat × Nat)} (h : FI l s n D V Q) (hl : ∀ e ∈ l, e.1 < n ∧ e.2.1 < n) {v : Nat} (hv : v < n) (h0 : 0 ≤ at' D v) : par l V v < n ∧ 0 ≤ at' D (par l V v) ∧ at' D (par l V v) ≤ at' D v := by
  by_cases e : v = s
  · subst e
    rw [par_none h.none]
    exact ⟨hv, h0, Int.le_refl _⟩
  · obtain ⟨i, hi, e', he, hx, h1, h2⟩ := h.via v hv e h0
    have hp : Go.Proofs.YthdhimcaojfcnaaGreat.par l V v = oth e' v := by
      unfold Go.Proofs.YthdhimcaojfcnaaGreat.par
      rw [if_neg (by omega), hi]
      have : l.getD i (0, 0, 0) = e' := by simp [List.getD, he]
      rw [Int.toNat_natCast, this]
    rw [hp]
    have hm := hl e' (List.mem_of_getElem? he)
    refine ⟨?_, h1, by omega⟩
    rcases oth_jn hx with ⟨a, b⟩ | ⟨a, b⟩ <;> omega
theorem FI.up {l : List Eg} {s n : Nat} {D V : List Int} {Q : List (Nat × Nat)} (h : FI l s n D V Q) (hl : ∀ e ∈ l, e.1 < n ∧ e.2.1 < n) : ∀ (k v : Nat), v < n → 0 ≤ at' D v → up l V k v < n ∧ 0 ≤ at' D (up l V k v) ∧ at' D (up l V k v) ≤ at' D v
  | 0, v, hv, h0 => ⟨hv, h0, Int.le_refl _⟩
  | k + 1, v, hv, h0 => by
    obtain ⟨h1, h2, h3⟩ := h.par hl hv h0
    obtain ⟨h4, h5, h6⟩ := FI.up h hl k (Go.Proofs.YthdhimcaojfcnaaGreat.par l V v) h1 h2
    exact ⟨h4, h5, Int.le_trans h6 h3⟩
theorem par_set {l : List Eg} {V : List Int} {b : Nat} (hb : b < V.length) (i : Int) {x : Nat} (hx : x ≠ b) : par l (V.set b i) x = par l V x := by
  unfold par
  rw [at_set _ hb, if_neg hx]
theorem up_set {l : List Eg} {V : List Int} {b : Nat} (hb : b < V.length) (i : Int) : ∀ (k x : Nat), (∀ j, up l V j x ≠ b) → up l (V.set b i) k x = up l V k x
  | 0, x, _ => rfl
  | k + 1, x, h => by
    show up l (V.set b i) k (par l (V.set b i) x) = up l V k (par l V x)
    rw [par_set (x := x) hb i (h 0)]
    exact up_set hb i k _ fun j => h (j + 1)
/-- A vertex b that becomes nearer, over an edge from u. -/
theorem FI.come {l : List Eg} {s n : Nat} {D V : List Int} {Q : List (Nat × Nat)} (h : FI l s n D V Q) (hl : ∀ e ∈ l, e.1 < n ∧ e.2.1 < n) {i u b c : Nat} {e : Eg} (he : l[i]? = some e) (hj : Jn e u b) (hu : u < n) (hb : b < n) (hc : at' D u = c)
    (hnew : at' D b = -1 ∨ ((c + e.2.2 : Nat) : Int) < at' D b) {Q' : List (Nat × Nat)} (hQ : ∀ x ∈ Q', x = (c + e.2.2, b) ∨ x ∈ Q) : FI l s n (D.set b ((c + e.2.2 : Nat) : Int)) (V.set b (i : Int)) Q' := by
  have hbD : b < D.length := by rw [h.lenD]; exact hb
  have hbV : b < V.length := by rw [h.lenV]; exact hb
  have hem := List.mem_of_getElem? he
  have hbs : b ≠ s := by
    intro x
    subst x
    have := h.zero
    omega
  have hD : ∀ v, at' (D.set b ((c + e.2.2 : Nat) : Int)) v = if v = b then ((c + e.2.2 : Nat) : Int) else at' D v := at_set _ hbD
  have hV : ∀ v, at' (V.set b (i : Int)) v = if v = b then (i : Int) else at' V v := at_set _ hbV
  have hub : u ≠ b := by
    intro x
    subst x
    omega
  have hno : at' D b = -1 ∨ at' D u < at' D b := by omega
  have hzero' : at' (D.set b ((c + e.2.2 : Nat) : Int)) s = 0 := by rw [hD, if_neg (Ne.symm hbs)]; exact h.zero
  have hbefore : ∀ k x, x < n → 0 ≤ at' D x → at' D x ≤ at' D u → Go.Proofs.YthdhimcaojfcnaaGreat.up l V k x ≠ b := by
    intro k x hx h0 hle e'
    have := h.up hl k x hx h0
    rw [e'] at this
    omega
  have hsame : ∀ k, Go.Proofs.YthdhimcaojfcnaaGreat.up l (V.set b (i : Int)) k u = Go.Proofs.YthdhimcaojfcnaaGreat.up l V k u := fun k => up_set hbV _ k u fun j => hbefore j u hu (by omega) (Int.le_refl _)
  have hpb : Go.Proofs.YthdhimcaojfcnaaGreat.par l (V.set b (i : Int)) b = u := by
    unfold Go.Proofs.YthdhimcaojfcnaaGreat.par
    rw [hV, if_pos rfl, if_neg (by omega), Int.toNat_natCast]
    have : l.getD i (0, 0, 0) = e := by simp [List.getD, he]
    rw [this]
    exact oth_of hj
  have hMn : Mn D (D.set b ((c + e.2.2 : Nat) : Int)) := fun v hv => by
    rw [hD]
    split
    · rename_i e'; subst e'; omega
    · omega
  have hge : ∀ v, v < n → -1 ≤ at' D v := fun v hv => h.ge hv
  refine ⟨by simp [h.lenD], by simp [h.lenV], hzero', by rw [hV, if_neg (Ne.symm hbs)]; exact h.none, fun v hv => ?_, fun v hv hne h0 => ?_, fun v hv h0 => ?_, fun x hx => ?_⟩
  · by_cases e' : v = b
    · subst e'
      refine .inr ⟨c + e.2.2, by rw [hD, if_pos rfl], ?_⟩
      rcases h.reach u hu with h1 | ⟨c1, h1, L, h2, h3⟩
      · omega
      · obtain rfl : c1 = c := by omega
        refine ⟨u :: L, ⟨?_, e, hem, hj, c1, rfl, h2.less hzero' hMn⟩, List.nodup_cons.2 ⟨fun hm => ?_, h3⟩⟩
        · rw [hD, if_pos rfl]; omega
        · have := h2.le hm
          omega
    · rcases h.reach v hv with h1 | ⟨c1, h1, L, h2, h3⟩
      · exact .inl ⟨by rw [hD, if_neg e']; exact h1.1, by rw [hV, if_neg e']; exact h1.2⟩
      · exact .inr ⟨c1, by rw [hD, if_neg e']; exact h1, L, h2.less hzero' hMn, h3⟩
  · by_cases e' : v = b
    · subst e'
      refine ⟨i, by rw [hV, if_pos rfl], e, he, ?_, ?_⟩
      · rcases hj with ⟨x, y⟩ | ⟨x, y⟩
        · exact .inr y
        · exact .inl x
      · rw [oth_of hj, hD, hD, if_pos rfl, if_neg hub]; omega
    · rw [hD, if_neg e'] at h0
      obtain ⟨i1, k1, e1, k2, k3, k4, k5⟩ := h.via v hv hne h0
      have := hMn _ k4
      exact ⟨i1, by rw [hV, if_neg e']; exact k1, e1, k2, k3, this.1, by rw [hD v, if_neg e']; omega⟩
  · have hu' : ∃ k, Go.Proofs.YthdhimcaojfcnaaGreat.up l (V.set b (i : Int)) k u = s := by
      obtain ⟨k, hk⟩ := h.chain u hu (by omega)
      exact ⟨k, by rw [hsame]; exact hk⟩
    have hb' : ∃ k, Go.Proofs.YthdhimcaojfcnaaGreat.up l (V.set b (i : Int)) k b = s := by
      obtain ⟨k, hk⟩ := hu'
      exact ⟨k + 1, by show Go.Proofs.YthdhimcaojfcnaaGreat.up l (V.set b (i : Int)) k (Go.Proofs.YthdhimcaojfcnaaGreat.par l (V.set b (i : Int)) b) = s; rw [hpb]; exact hk⟩
    have hall : ∀ k x, Go.Proofs.YthdhimcaojfcnaaGreat.up l V k x = s → ∃ k', Go.Proofs.YthdhimcaojfcnaaGreat.up l (V.set b (i : Int)) k' x = s := by
      intro k
      induction k with
      | zero => intro x hx; exact ⟨0, hx⟩
      | succ k ih =>
        intro x hx
        by_cases e' : x = b
        · subst e'; exact hb'
        · obtain ⟨k', hk'⟩ := ih (Go.Proofs.YthdhimcaojfcnaaGreat.par l V x) hx
          exact ⟨k' + 1, by show Go.Proofs.YthdhimcaojfcnaaGreat.up l (V.set b (i : Int)) k' (Go.Proofs.YthdhimcaojfcnaaGreat.par l (V.set b (i : Int)) x) = s; rw [par_set hbV _ e']; exact hk'⟩
    by_cases e' : v = b
    · subst e'; exact hb'
    · rw [hD, if_neg e'] at h0
      obtain ⟨k, hk⟩ := h.chain v hv h0
      exact hall k v hk
  · rcases hQ x hx with h1 | h1
    · subst h1
      exact ⟨hb, by rw [hD, if_pos rfl]; omega, by rw [hD, if_pos rfl]; exact Int.le_refl _⟩
    · obtain ⟨k1, k2, k3⟩ := h.queue x h1
      have := hMn _ k2
      exact ⟨k1, this.1, by omega⟩
theorem Opn.come {l : List Eg} {n : Nat} {D : List Int} {Q : List (Nat × Nat)} {i u b c : Nat} {pl : List Nat} {e : Eg} (h : Opn l n D Q u pl) (hlen : D.length = n) (he : l[i]? = some e) (hj : Jn e u b) (hne : u ≠ b) (hb : b < n) (hc : at' D u = c)
    (hnew : at' D b = -1 ∨ ((c + e.2.2 : Nat) : Int) < at' D b) {Q' : List (Nat × Nat)} (hQ1 : (c + e.2.2, b) ∈ Q') (hQ2 : ∀ x ∈ Q, x ∈ Q') : Opn l n (D.set b ((c + e.2.2 : Nat) : Int)) Q' u (i :: pl) := by
  have hbD : b < D.length := by rw [hlen]; exact hb
  have hD : ∀ v, at' (D.set b ((c + e.2.2 : Nat) : Int)) v = if v = b then ((c + e.2.2 : Nat) : Int) else at' D v := at_set _ hbD
  have hMn : Mn D (D.set b ((c + e.2.2 : Nat) : Int)) := fun v hv => by
    rw [hD]
    split
    · rename_i e'; subst e'; omega
    · omega
  intro x hx h0
  by_cases e' : x = b
  · subst e'
    exact .inl ⟨c + e.2.2, by rw [hD, if_pos rfl], hQ1⟩
  · rw [hD, if_neg e'] at h0
    rcases h x hx h0 with ⟨c1, k1, k2⟩ | k
    · exact .inl ⟨c1, by rw [hD, if_neg e']; exact k1, hQ2 _ k2⟩
    · refine .inr fun i1 e1 h1 h2 b1 h3 => ?_
      rw [hD x, if_neg e']
      by_cases ei : x = u ∧ i1 = i
      · obtain ⟨rfl, rfl⟩ := ei
        rw [he] at h1
        obtain rfl := Option.some.inj h1
        have hb1 : b1 = b := by
          have := oth_of h3.symm
          have := oth_of hj.symm
          omega
        subst hb1
        rw [hD, if_pos rfl]
        omega
      · have := k i1 e1 h1 (fun hxu => by
          rcases h2 hxu with h4 | h4
          · rcases List.mem_cons.1 h4 with h5 | h5
            · exact absurd ⟨hxu, h5⟩ ei
            · exact .inl h5
          · exact .inr h4) b1 h3
        have := hMn _ this.1
        omega
theorem Opn.skip {l : List Eg} {n : Nat} {D : List Int} {Q : List (Nat × Nat)} {i u b c : Nat} {pl : List Nat} {e : Eg} (h : Opn l n D Q u pl) (he : l[i]? = some e) (hj : Jn e u b) (hc : at' D u = c) (hold : 0 ≤ at' D b ∧ at' D b ≤ ((c + e.2.2 : Nat) : Int)) : Opn l n D Q u (i :: pl) := by
  intro x hx h0
  rcases h x hx h0 with k | k
  · exact .inl k
  · refine .inr fun i1 e1 h1 h2 b1 h3 => ?_
    by_cases ei : x = u ∧ i1 = i
    · obtain ⟨rfl, rfl⟩ := ei
      rw [he] at h1
      obtain rfl := Option.some.inj h1
      have hb1 : b1 = b := by
        have := oth_of h3.symm
        have := oth_of hj.symm
        omega
      subst hb1
      omega
    · exact k i1 e1 h1 (fun hxu => by
        rcases h2 hxu with h4 | h4
        · rcases List.mem_cons.1 h4 with h5 | h5
          · exact absurd ⟨hxu, h5⟩ ei
          · exact .inl h5
        · exact .inr h4) b1 h3
/-- A stop that comes off: an old one, or its vertex is left. -/
theorem Opn.stale {l : List Eg} {n : Nat} {D : List Int} {Q Q' : List (Nat × Nat)} {c v : Nat} (h : Opn l n D Q n []) (hst : at' D v ≠ (c : Int)) (hQ : ∀ x ∈ Q, x = (c, v) ∨ x ∈ Q') : Opn l n D Q' n [] := by
  intro x hx h0
  rcases h x hx h0 with ⟨c1, k1, k2⟩ | k
  · refine .inl ⟨c1, k1, (hQ _ k2).resolve_left fun e => ?_⟩
    have e1 := congrArg Prod.fst e
    have e2 := congrArg Prod.snd e
    simp only at e1 e2
    subst e1 e2
    exact hst k1
  · exact .inr k
theorem Opn.take {l : List Eg} {n : Nat} {D : List Int} {Q Q' : List (Nat × Nat)} {c v : Nat} (h : Opn l n D Q n []) (hQ : ∀ x ∈ Q, x = (c, v) ∨ x ∈ Q') : Opn l n D Q' v [] := by
  intro x hx h0
  by_cases e : x = v
  · subst e
    refine .inr fun i e he h2 b hj => ?_
    rcases h2 rfl with h3 | h3
    · simp at h3
    · have : b = x := by rcases hj with ⟨a, b⟩ | ⟨a, b⟩ <;> omega
      subst this
      omega
  · rcases h x hx h0 with ⟨c1, k1, k2⟩ | k
    · exact .inl ⟨c1, k1, (hQ _ k2).resolve_left fun e' => e (congrArg Prod.snd e')⟩
    · exact .inr fun i e1 h1 _ b hj => k i e1 h1 (fun hxn => absurd hxn (by omega)) b hj
theorem Opn.full {l : List Eg} {n : Nat} {D : List Int} {Q : List (Nat × Nat)} {v : Nat} {pl : List Nat} (h : Opn l n D Q v pl) (hpl : ∀ (i : Nat) e, l[i]? = some e → (e.1 = v ∨ e.2.1 = v) → i ∈ pl ∨ e.1 = e.2.1) : Opn l n D Q n [] := by
  intro x hx h0
  rcases h x hx h0 with k | k
  · exact .inl k
  · refine .inr fun i e1 h1 _ b hj => k i e1 h1 (fun hxv => ?_) b hj
    subst hxv
    exact hpl i e1 h1 (by rcases hj with ⟨a, b⟩ | ⟨a, b⟩; exact .inl a; exact .inr b)
theorem FI.okc {l : List Eg} {s n : Nat} {D V : List Int} (h : FI l s n D V []) (ho : Opn l n D [] n []) (hl : ∀ e ∈ l, e.1 < n ∧ e.2.1 < n) : OKc l s n D V := by
  have hstep : ∀ e ∈ l, ∀ a b, Jn e a b → a < n → 0 ≤ at' D a → 0 ≤ at' D b ∧ at' D b ≤ at' D a + e.2.2 := by
    intro e he a b hj ha h0
    obtain ⟨i, hi⟩ := List.getElem?_of_mem he
    rcases ho a ha h0 with ⟨c, _, hc⟩ | k
    · simp at hc
    · exact k i e hi (fun hx => absurd hx (by omega)) b hj
  have hkept : ∀ e ∈ l, Kept D e := by
    intro e he
    obtain ⟨h1, h2⟩ := hl e he
    have a := hstep e he e.1 e.2.1 (.inl ⟨rfl, rfl⟩) h1
    have b := hstep e he e.2.1 e.1 (.inr ⟨rfl, rfl⟩) h2
    have c := h.ge h1
    have c' := h.ge h2
    by_cases k : 0 ≤ at' D e.1
    · exact .inr (by have := a k; have := b this.1; omega)
    · by_cases k' : 0 ≤ at' D e.2.1
      · have := b k'; omega
      · exact .inl (by omega)
  refine ⟨isD_of h.lenD h.zero hkept fun v hv => ?_, h.lenV, h.none, fun v hv hne => ?_, h.chain⟩
  · rcases h.reach v hv with h1 | ⟨c, h1, L, h2, _⟩
    · exact .inl h1.1
    · exact .inr ⟨L, c, h1, h2.sw⟩
  · rcases h.reach v hv with h1 | ⟨c, h1, _⟩
    · exact .inl ⟨by omega, h1.2⟩
    · have h0 : 0 ≤ at' D v := by omega
      obtain ⟨i, k1, e, k2, k3, k4, k5⟩ := h.via v hv hne h0
      have hm := List.mem_of_getElem? k2
      have := kept_le (hkept e hm) (oth_jn k3) k4
      exact .inr ⟨h0, i, k1, e, k2, k3, by omega⟩

/-! ### How long it can go on -/
def potI (B : Nat) (x : Int) : Nat := if x < 0 then B else x.toNat
def pot (B : Nat) (D : List Int) : Nat := (D.map (potI B)).sum
theorem sum_set : ∀ (L : List Nat) (i x : Nat) (h : i < L.length), (L.set i x).sum + L[i] = L.sum + x
  | [], i, x, h => by simp at h
  | y :: L, 0, x, h => by simp; omega
  | y :: L, i + 1, x, h => by
    have := sum_set L i x (by simpa using h)
    simp at this ⊢
    omega
theorem pot_less {B : Nat} {D : List Int} {b : Nat} (hb : b < D.length) {x : Nat} (hx : x < B) (hnew : at' D b = -1 ∨ (x : Int) < at' D b) : pot B (D.set b (x : Int)) < pot B D := by
  unfold pot
  rw [List.map_set]
  have hl : b < (D.map (potI B)).length := by simpa using hb
  have h1 := sum_set (D.map (potI B)) b (potI B (x : Int)) hl
  have h2 : (D.map (potI B))[b] = potI B (at' D b) := by rw [at_get hb]; simp
  have h3 : potI B (x : Int) = x := by unfold potI; rw [if_neg (by omega)]; simp
  have h4 : x < potI B (at' D b) := by
    unfold potI
    split <;> omega
  omega
end Go.Proofs.YthdhimcaojfcnaaGreat

namespace Go.Proofs.YthdhimcaojfcnaaGreat

theorem sw_app {l : List Eg} {u v : Nat} {L' : List Nat} {c' : Nat} (h' : SW l u (v :: L') c') : ∀ {L : List Nat} {w c : Nat}, SW l v (w :: L) c → ∃ L'', SW l u (w :: L'') (c' + c)
  | [], w, c, h => by
    obtain ⟨rfl, rfl⟩ := h
    exact ⟨L', h'⟩
  | x :: t, w, c, h => by
    obtain ⟨e, he, hj, c1, rfl, h1⟩ := h
    obtain ⟨L2, h2⟩ := sw_app h' h1
    exact ⟨x :: L2, by rw [← Nat.add_assoc]; exact h2.cons he hj⟩
/-- Two vertices hang together. -/
def Conn (l : List Eg) (u v : Nat) : Prop := ∃ L c, SW l u (v :: L) c
theorem Conn.refl (l : List Eg) (u : Nat) : Conn l u u := ⟨[], 0, SW.one l u⟩
theorem Conn.symm {l : List Eg} {u v : Nat} (h : Conn l u v) : Conn l v u := by
  obtain ⟨L, c, h⟩ := h
  obtain ⟨L', h'⟩ := sw_back h
  exact ⟨L', c, h'⟩
theorem Conn.trans {l : List Eg} {u v w : Nat} (h : Conn l u v) (h' : Conn l v w) : Conn l u w := by
  obtain ⟨L, c, h⟩ := h
  obtain ⟨L', c', h'⟩ := h'
  obtain ⟨L2, h2⟩ := sw_app h h'
  exact ⟨L2, _, h2⟩
theorem Conn.edge {l : List Eg} {e : Eg} (he : e ∈ l) : Conn l e.1 e.2.1 := ⟨[e.1], _, (SW.one l e.1).cons he (.inl ⟨rfl, rfl⟩)⟩
theorem conn_keep {l : List Eg} {R : Nat → Nat} (hR : ∀ e ∈ l, R e.1 = R e.2.1) {u : Nat} : ∀ {L : List Nat} {v c : Nat}, SW l u (v :: L) c → R v = R u
  | [], v, c, h => by rw [h.1]
  | x :: t, v, c, h => by
    obtain ⟨e, he, hj, c1, _, h1⟩ := h
    rw [← conn_keep hR h1]
    have := hR e he
    rcases hj with ⟨a, b⟩ | ⟨a, b⟩
    · rw [← a, ← b]; exact this.symm
    · rw [← a, ← b]; exact this

/-- Where a vertex is linked to. -/
def pf (P : List Nat) (v : Nat) : Nat := P.getD v 0
theorem pf_set {P : List Nat} {v x u : Nat} (h : v < P.length) : pf (P.set v x) u = if u = v then x else pf P u := by
  unfold pf
  by_cases e : u = v
  · subst e; simp [List.getD, h]
  · rw [if_neg e]; simp [List.getD, List.getElem?_set_ne (Ne.symm e)]
theorem pf_get? {P : List Nat} {v : Nat} (h : v < P.length) : P[v]? = some (pf P v) := by simp [pf, h]
structure UF (l : List Eg) (N k : Nat) (P : List Nat) (R : Nat → Nat) : Prop where
  len : P.length = N
  le : ∀ v, v < N → pf P v ≤ v
  par : ∀ v, v < N → R (pf P v) = R v
  root : ∀ v, v < N → pf P v = v → R v = v
  low : ∀ v, v < N → R v ≤ v
  conn : ∀ v, v < N → Conn l v (R v)
  done : ∀ i, i < k → ∀ e, l[i]? = some e → R e.1 = R e.2.1
theorem UF.start (l : List Eg) (N : Nat) : UF l N 0 (List.range N) id :=
  ⟨by simp, fun v hv => by simp [pf, hv], fun v hv => by simp [pf, hv], fun _ _ _ => rfl, fun _ _ => Nat.le_refl _, fun v _ => Conn.refl l v, fun i hi => absurd hi (by omega)⟩
theorem UF.half {l : List Eg} {N k : Nat} {P : List Nat} {R : Nat → Nat} (h : UF l N k P R) {v : Nat} (hv : v < N) : UF l N k (P.set v (pf P (pf P v))) R := by
  have hl : v < P.length := by rw [h.len]; exact hv
  have h1 := h.le v hv
  have h2 := h.le (pf P v) (by omega)
  refine ⟨by rw [List.length_set]; exact h.len, fun u hu => ?_, fun u hu => ?_, fun u hu he => ?_, h.low, h.conn, h.done⟩
  · rw [pf_set hl]; split
    · omega
    · exact h.le u hu
  · rw [pf_set hl]; split
    · next e => subst e; rw [h.par _ (by omega), h.par _ hv]
    · exact h.par u hu
  · rw [pf_set hl] at he
    split at he
    · next e => subst e; exact h.root u hv (by omega)
    · exact h.root u hu he
theorem UF.rooted {l : List Eg} {N k : Nat} {P : List Nat} {R : Nat → Nat} (h : UF l N k P R) {a : Nat} (ha : a < N) (hr : R a = a) : pf P a = a := by
  have h1 := h.le a ha
  have h2 := h.par a ha
  have h3 := h.low (pf P a) (by omega)
  omega
theorem UF.stays {l : List Eg} {N k : Nat} {P : List Nat} {R : Nat → Nat} (h : UF l N k P R) {v : Nat} (hv : v < N) {i : Nat} (hi : i < N) (he : pf P i = R i) : pf (P.set v (pf P (pf P v))) i = R i := by
  have hl : v < P.length := by rw [h.len]; exact hv
  rw [pf_set hl]
  split
  · next e =>
    subst e
    have h1 := h.par i hi
    have h2 := h.le i hi
    rw [he] at h1 ⊢
    exact h.rooted (by omega) h1
  · exact he
/-- Two roots become one: the greater is linked to the lesser. -/
theorem UF.join {l : List Eg} {N k : Nat} {P : List Nat} {R : Nat → Nat} (h : UF l N k P R) {a b : Nat} (ha : a < N) (hb : b < N) (pa : pf P a = a) (pb : pf P b = b) {e : Eg} (he : l[k]? = some e) (ea : R e.1 = a) (eb : R e.2.1 = b) (h1 : e.1 < N) (h2 : e.2.1 < N) :
    UF l N (k + 1) (P.set (max a b) (min a b)) (fun w => if R w = max a b then min a b else R w) := by
  have hl : max a b < P.length := by rw [h.len]; omega
  have ra := h.root a ha pa
  have rb := h.root b hb pb
  have rmn : R (min a b) = min a b := by
    rcases Nat.le_total a b with k | k
    · rw [Nat.min_eq_left k]; exact ra
    · rw [Nat.min_eq_right k]; exact rb
  have rmx : R (max a b) = max a b := by
    rcases Nat.le_total a b with k | k
    · rw [Nat.max_eq_right k]; exact rb
    · rw [Nat.max_eq_left k]; exact ra
  have hmm : min a b ≤ max a b := by omega
  have cab : Conn l a b := by
    have c0 := Conn.edge (List.mem_of_getElem? he)
    have c1 := h.conn e.1 h1
    have c2 := h.conn e.2.1 h2
    rw [ea] at c1
    rw [eb] at c2
    exact c1.symm.trans (c0.trans c2)
  have cmm : Conn l (max a b) (min a b) := by
    rcases Nat.le_total a b with k | k
    · rw [Nat.max_eq_right k, Nat.min_eq_left k]; exact cab.symm
    · rw [Nat.max_eq_left k, Nat.min_eq_right k]; exact cab
  refine ⟨by rw [List.length_set]; exact h.len, fun u hu => ?_, fun u hu => ?_, fun u hu he' => ?_, fun u hu => ?_, fun u hu => ?_, fun i hi e' he' => ?_⟩
  · rw [pf_set hl]; split
    · omega
    · exact h.le u hu
  · rw [pf_set hl]
    show (if R (if u = max a b then min a b else pf P u) = max a b then min a b else R (if u = max a b then min a b else pf P u)) = if R u = max a b then min a b else R u
    by_cases eu : u = max a b
    · rw [if_pos eu, rmn, eu, rmx, if_pos rfl]
      by_cases k : min a b = max a b
      · rw [if_pos k]
      · rw [if_neg k]
    · rw [if_neg eu, h.par u hu]
  · show (if R u = max a b then min a b else R u) = u
    rw [pf_set hl] at he'
    by_cases eu : u = max a b
    · rw [if_pos eu] at he'
      rw [eu, rmx, if_pos rfl, he', eu]
    · rw [if_neg eu] at he'
      have := h.root u hu he'
      rw [this, if_neg eu]
  · show (if R u = max a b then min a b else R u) ≤ u
    have := h.low u hu
    split <;> omega
  · show Conn l u (if R u = max a b then min a b else R u)
    split
    · next k => have := h.conn u hu; rw [k] at this; exact this.trans cmm
    · exact h.conn u hu
  · show (if R e'.1 = max a b then min a b else R e'.1) = if R e'.2.1 = max a b then min a b else R e'.2.1
    by_cases ik : i = k
    · subst ik
      rw [he] at he'
      cases he'
      rw [ea, eb]
      rcases Nat.le_total a b with k | k
      · rw [Nat.max_eq_right k, Nat.min_eq_left k, if_pos rfl]; split <;> omega
      · rw [Nat.max_eq_left k, Nat.min_eq_right k, if_pos rfl]; split <;> omega
    · rw [h.done i (by omega) e' he']
theorem UF.all {l : List Eg} {N : Nat} {P : List Nat} {R : Nat → Nat} (h : UF l N l.length P R) : ∀ e ∈ l, R e.1 = R e.2.1 := fun e he => by
  obtain ⟨i, hi, rfl⟩ := List.getElem_of_mem he
  exact h.done i hi _ (List.getElem?_eq_getElem hi)
theorem UF.iff {l : List Eg} {N : Nat} {P : List Nat} {R : Nat → Nat} (h : UF l N l.length P R) {u v : Nat} (hu : u < N) (hv : v < N) : R u = R v ↔ Conn l u v := by
  constructor
  · intro e
    have h1 := h.conn u hu
    rw [e] at h1
    exact h1.trans (h.conn v hv).symm
  · rintro ⟨L, c, h'⟩
    exact (conn_keep h.all h').symm
theorem UF.twice {l : List Eg} {N : Nat} {P : List Nat} {R : Nat → Nat} (h : UF l N l.length P R) {v : Nat} (hv : v < N) : R (R v) = R v := by
  obtain ⟨L, c, h'⟩ := h.conn v hv
  exact conn_keep h.all h'
theorem UF.flat {l : List Eg} {N : Nat} {P : List Nat} {R : Nat → Nat} (h : UF l N l.length P R) {v : Nat} (hv : v < N) : UF l N l.length (P.set v (R v)) R := by
  have hl : v < P.length := by rw [h.len]; exact hv
  refine ⟨by rw [List.length_set]; exact h.len, fun u hu => ?_, fun u hu => ?_, fun u hu he => ?_, h.low, h.conn, h.done⟩
  · rw [pf_set hl]; split
    · next e => subst e; exact h.low u hv
    · exact h.le u hu
  · rw [pf_set hl]; split
    · next e => subst e; exact h.twice hv
    · exact h.par u hu
  · rw [pf_set hl] at he
    split at he
    · next e => subst e; exact he
    · exact h.root u hu he
/-- What the leaders tell. -/
structure LeadP (l : List Eg) (N : Nat) (R : Nat → Nat) : Prop where
  low : ∀ v, v < N → R v ≤ v
  all : ∀ e ∈ l, R e.1 = R e.2.1
  iff : ∀ u v, u < N → v < N → (R u = R v ↔ Conn l u v)
theorem UF.lead {l : List Eg} {N : Nat} {P : List Nat} {R : Nat → Nat} (h : UF l N l.length P R) : LeadP l N R := ⟨h.low, h.all, fun _ _ hu hv => h.iff hu hv⟩
end Go.Proofs.YthdhimcaojfcnaaGreat

namespace Go.Proofs.YthdhimcaojfcnaaGreat

/-- How many of a component stand ahead of v. -/
def nm (R : Nat → Nat) (r v : Nat) : Nat := ((List.range v).filter fun w => R w == r).length
theorem nm_zero (R : Nat → Nat) (r : Nat) : nm R r 0 = 0 := rfl
theorem nm_succ (R : Nat → Nat) (r v : Nat) : nm R r (v + 1) = nm R r v + if R v = r then 1 else 0 := by
  unfold nm
  rw [List.range_succ, List.filter_append, List.length_append]
  by_cases h : R v = r
  · simp [h]
  · simp [h]
theorem nm_mono (R : Nat → Nat) (r : Nat) {u : Nat} : ∀ {v : Nat}, u ≤ v → nm R r u ≤ nm R r v
  | 0, h => by obtain rfl : u = 0 := by omega
               exact Nat.le_refl _
  | v + 1, h => by
    by_cases e : u = v + 1
    · subst e; exact Nat.le_refl _
    · have := nm_mono R r (u := u) (v := v) (by omega)
      rw [nm_succ]; omega
theorem nm_lt {R : Nat → Nat} {r u v : Nat} (hu : R u = r) (h : u < v) : nm R r u < nm R r v := by
  have := nm_mono R r (u := u + 1) (v := v) (by omega)
  rw [nm_succ, if_pos hu] at this
  omega
theorem nm_inj {R : Nat → Nat} {r u v : Nat} (hu : R u = r) (hv : R v = r) (h : nm R r u = nm R r v) : u = v := by
  rcases Nat.lt_trichotomy u v with k | k | k
  · have := nm_lt hu k; omega
  · exact k
  · have := nm_lt hv k; omega
theorem nm_le (R : Nat → Nat) (r : Nat) : ∀ v : Nat, nm R r v ≤ v
  | 0 => Nat.le_refl _
  | v + 1 => by have := nm_le R r v; rw [nm_succ]; split <;> omega
def ren (R : Nat → Nat) (r : Nat) (e : Eg) : Eg := (nm R r e.1, nm R r e.2.1, e.2.2)
/-- A component's edges: each one's place, and the edge by its ends' new names. -/
def subZ (R : Nat → Nat) (r : Nat) (l : List Eg) : List (Nat × Eg) := (l.zipIdx.filter fun x => R x.1.1 == r).map fun x => (x.2, ren R r x.1)
def subE (R : Nat → Nat) (r : Nat) (l : List Eg) : List Eg := (subZ R r l).map (·.2)
def subP (R : Nat → Nat) (r : Nat) (l : List Eg) : List Nat := (subZ R r l).map (·.1)
theorem subZ_mem {R : Nat → Nat} {r : Nat} {l : List Eg} {i : Nat} {e' : Eg} : (i, e') ∈ subZ R r l ↔ ∃ e, l[i]? = some e ∧ R e.1 = r ∧ e' = ren R r e := by
  unfold subZ
  rw [List.mem_map]
  constructor
  · rintro ⟨⟨e, j⟩, h, he⟩
    rw [List.mem_filter, List.mem_zipIdx_iff_getElem?] at h
    simp only [Prod.mk.injEq] at he
    obtain ⟨rfl, rfl⟩ := he
    exact ⟨e, h.1, by simpa using h.2, rfl⟩
  · rintro ⟨e, h, hr, rfl⟩
    exact ⟨(e, i), by rw [List.mem_filter, List.mem_zipIdx_iff_getElem?]; exact ⟨h, by simpa using hr⟩, rfl⟩
theorem subZ_step {R : Nat → Nat} {r : Nat} {l : List Eg} {k : Nat} (h : k < l.length) : subZ R r (l.take (k + 1)) = subZ R r (l.take k) ++ if R l[k].1 = r then [(k, ren R r l[k])] else [] := by
  unfold subZ
  rw [List.take_succ_eq_append_getElem h, List.zipIdx_append, List.filter_append, List.map_append]
  congr 1
  rw [List.length_take, Nat.min_eq_left (by omega), Nat.zero_add]
  by_cases e : R l[k].1 = r
  · simp [e]
  · simp [e]
theorem subE_step {R : Nat → Nat} {r : Nat} {l : List Eg} {k : Nat} (h : k < l.length) : subE R r (l.take (k + 1)) = subE R r (l.take k) ++ if R l[k].1 = r then [ren R r l[k]] else [] := by
  unfold subE
  rw [subZ_step h, List.map_append]
  split <;> simp
theorem subP_step {R : Nat → Nat} {r : Nat} {l : List Eg} {k : Nat} (h : k < l.length) : subP R r (l.take (k + 1)) = subP R r (l.take k) ++ if R l[k].1 = r then [k] else [] := by
  unfold subP
  rw [subZ_step h, List.map_append]
  split <;> simp
theorem sub_len (R : Nat → Nat) (r : Nat) (l : List Eg) : (subE R r l).length = (subP R r l).length ∧ (subE R r l).length ≤ l.length := by
  unfold subE subP subZ
  refine ⟨by simp, ?_⟩
  rw [List.length_map, List.length_map]
  have := List.length_filter_le (fun x : Eg × Nat => R x.1.1 == r) l.zipIdx
  simpa using this
theorem sub_at {R : Nat → Nat} {r : Nat} {l : List Eg} {j i : Nat} (h : (subP R r l)[j]? = some i) : ∃ e, l[i]? = some e ∧ R e.1 = r ∧ (subE R r l)[j]? = some (ren R r e) := by
  unfold subP at h
  rw [List.getElem?_map, Option.map_eq_some_iff] at h
  obtain ⟨⟨i', e'⟩, h1, rfl⟩ := h
  obtain ⟨e, h2, h3, rfl⟩ := subZ_mem.1 (List.mem_of_getElem? h1)
  exact ⟨e, h2, h3, by unfold subE; rw [List.getElem?_map, h1]; rfl⟩
theorem subE_mem {R : Nat → Nat} {r : Nat} {l : List Eg} {e' : Eg} : e' ∈ subE R r l ↔ ∃ e ∈ l, R e.1 = r ∧ e' = ren R r e := by
  unfold subE
  rw [List.mem_map]
  constructor
  · rintro ⟨⟨i, e''⟩, h, rfl⟩
    obtain ⟨e, h1, h2, h3⟩ := subZ_mem.1 h
    exact ⟨e, List.mem_of_getElem? h1, h2, h3⟩
  · rintro ⟨e, h1, h2, rfl⟩
    obtain ⟨i, hi, rfl⟩ := List.getElem_of_mem h1
    exact ⟨(i, ren R r l[i]), subZ_mem.2 ⟨_, List.getElem?_eq_getElem hi, h2, rfl⟩, rfl⟩
theorem zipIdx_lt {α : Type} : ∀ (l : List α) (n : Nat), ((l.zipIdx n).map (·.2)).Pairwise (· < ·)
  | [], n => by simp
  | x :: l, n => by
    rw [List.zipIdx_cons, List.map_cons, List.pairwise_cons]
    refine ⟨fun y hy => ?_, zipIdx_lt l (n + 1)⟩
    rw [List.mem_map] at hy
    obtain ⟨⟨a, j⟩, h, rfl⟩ := hy
    have := List.le_snd_of_mem_zipIdx h
    show n < j
    simp only at this
    omega
theorem subP_rise (R : Nat → Nat) (r : Nat) (l : List Eg) : (subP R r l).Pairwise (· < ·) := by
  unfold subP subZ
  rw [List.map_map]
  have h := zipIdx_lt l 0
  have h2 : ((l.zipIdx.filter fun x => R x.1.1 == r).map (·.2)).Sublist (l.zipIdx.map (·.2)) := List.Sublist.map _ (List.filter_sublist)
  exact h.sublist h2
theorem subP_lt {R : Nat → Nat} {r : Nat} {l : List Eg} {i : Nat} (h : i ∈ subP R r l) : i < l.length := by
  obtain ⟨j, hj, rfl⟩ := List.getElem_of_mem h
  obtain ⟨e, h1, _⟩ := sub_at (List.getElem?_eq_getElem hj)
  exact (List.getElem?_eq_some_iff.1 h1).1
theorem sub_ends {R : Nat → Nat} {r N : Nat} {l : List Eg} (hl : ∀ e ∈ l, e.1 < N ∧ e.2.1 < N) (hR : ∀ e ∈ l, R e.1 = R e.2.1) : ∀ e ∈ subE R r l, e.1 < nm R r N ∧ e.2.1 < nm R r N := fun e' he' => by
  obtain ⟨e, h1, h2, rfl⟩ := subE_mem.1 he'
  exact ⟨nm_lt h2 (hl e h1).1, nm_lt ((hR e h1).symm.trans h2) (hl e h1).2⟩
theorem sub_fwd {R : Nat → Nat} {r : Nat} {l : List Eg} (hR : ∀ e ∈ l, R e.1 = R e.2.1) {s : Nat} (hs : R s = r) : ∀ {L : List Nat} {v c : Nat}, SW l s (v :: L) c → R v = r ∧ SW (subE R r l) (nm R r s) ((v :: L).map (nm R r)) c
  | [], v, c, h => by
    obtain ⟨rfl, rfl⟩ := h
    exact ⟨hs, rfl, rfl⟩
  | x :: t, v, c, h => by
    obtain ⟨e, he, hj, c1, rfl, h1⟩ := h
    obtain ⟨hx, h2⟩ := sub_fwd hR hs h1
    have he12 := hR e he
    have hv : R v = r := by
      rcases hj with ⟨a, b⟩ | ⟨a, b⟩
      · rw [← b, ← he12, a]; exact hx
      · rw [← a, he12, b]; exact hx
    have he1 : R e.1 = r := by rcases hj with ⟨a, _⟩ | ⟨a, _⟩ <;> rw [a] <;> assumption
    refine ⟨hv, ren R r e, subE_mem.2 ⟨e, he, he1, rfl⟩, ?_, c1, rfl, h2⟩
    rcases hj with ⟨a, b⟩ | ⟨a, b⟩
    · exact .inl ⟨by show nm R r e.1 = _; rw [a], by show nm R r e.2.1 = _; rw [b]⟩
    · exact .inr ⟨by show nm R r e.1 = _; rw [a], by show nm R r e.2.1 = _; rw [b]⟩
theorem sub_bwd {R : Nat → Nat} {r : Nat} {l : List Eg} (hR : ∀ e ∈ l, R e.1 = R e.2.1) {s : Nat} (hs : R s = r) : ∀ {L' : List Nat} {v' c : Nat}, SW (subE R r l) (nm R r s) (v' :: L') c → ∃ v L, v' = nm R r v ∧ R v = r ∧ L' = L.map (nm R r) ∧ SW l s (v :: L) c
  | [], v', c, h => by
    obtain ⟨rfl, rfl⟩ := h
    exact ⟨s, [], rfl, hs, rfl, rfl, rfl⟩
  | x' :: t', v', c, h => by
    obtain ⟨e', he', hj, c1, rfl, h1⟩ := h
    obtain ⟨x, t, rfl, hx, rfl, h2⟩ := sub_bwd hR hs h1
    obtain ⟨e, he, he1, rfl⟩ := subE_mem.1 he'
    have he2 : R e.2.1 = r := (hR e he).symm.trans he1
    rcases hj with ⟨a, b⟩ | ⟨a, b⟩
    · exact ⟨e.2.1, x :: t, b.symm, he2, rfl, e, he, .inl ⟨nm_inj he1 hx a, rfl⟩, c1, rfl, h2⟩
    · exact ⟨e.1, x :: t, a.symm, he1, rfl, e, he, .inr ⟨rfl, nm_inj he2 hx b⟩, c1, rfl, h2⟩
/-- As far within the component as in all. -/
theorem sub_dist {R : Nat → Nat} {r N : Nat} {l : List Eg} (hR : ∀ e ∈ l, R e.1 = R e.2.1) {s v : Nat} (hs : R s = r) (hv : R v = r) (hvN : v < N) {D D' : List Int} (hD : IsD l s N D) (hD' : IsD (subE R r l) (nm R r s) (nm R r N) D') : at' D' (nm R r v) = at' D v := by
  have hlt := nm_lt hv hvN
  rcases hD.2 v hvN with ⟨a, b⟩ | ⟨c, a, ⟨L, b⟩, k⟩ <;> rcases hD'.2 _ hlt with ⟨a', b'⟩ | ⟨c', a', ⟨L', b'⟩, k'⟩
  · omega
  · obtain ⟨v1, L1, e1, h1, rfl, h2⟩ := sub_bwd hR hs b'
    have := nm_inj hv h1 e1
    subst this
    exact absurd h2 (b _ _)
  · exact absurd (sub_fwd hR hs b).2 (b' _ _)
  · obtain ⟨v1, L1, e1, h1, rfl, h2⟩ := sub_bwd hR hs b'
    have := nm_inj hv h1 e1
    subst this
    have := k _ _ h2
    have := k' _ _ (sub_fwd hR hs b).2
    omega
end Go.Proofs.YthdhimcaojfcnaaGreat

namespace Go.Proofs.YthdhimcaojfcnaaGreat

/-! ### Lists that rise -/
def RiseP (l : List Int) (n : Int) : Prop := (∀ x ∈ l, 0 ≤ x ∧ x < n) ∧ l.Pairwise (· < ·)
def rsB (l : List Int) (n : Int) : Bool := (l.all fun x => decide (0 ≤ x ∧ x < n)) && decide (l.Pairwise (· < ·))
theorem rs_iff {l : List Int} {n : Int} : rsB l n = true ↔ RiseP l n := by simp [rsB, RiseP]
theorem rs_not {l : List Int} {n : Int} (h : ¬ RiseP l n) : rsB l n = false := by rw [← Bool.not_eq_true, rs_iff]; exact h
/-- As far as k all rise, and are below the least that may come. -/
def RI (l : List Int) (n : Int) (k : Nat) (least : Int) : Prop := RiseP (l.take k) n ∧ 0 ≤ least ∧ (∀ x ∈ l.take k, x < least) ∧ (least = 0 ∨ ∃ j, j < k ∧ l[j]? = some (least - 1))
theorem RI.start (l : List Int) (n : Int) : RI l n 0 0 := ⟨⟨by simp, by simp⟩, Int.le_refl _, by simp, .inl rfl⟩
theorem RI.next {l : List Int} {n : Int} {k : Nat} {least : Int} (h : RI l n k least) (hk : k < l.length) (h1 : least ≤ l[k]) (h2 : l[k] < n) : RI l n (k + 1) (l[k] + 1) := by
  obtain ⟨⟨a, b⟩, c, d, e⟩ := h
  refine ⟨⟨?_, ?_⟩, by omega, ?_, .inr ⟨k, by omega, by rw [List.getElem?_eq_getElem hk]; congr 1; omega⟩⟩
  · intro x hx
    rw [List.take_succ_eq_append_getElem hk, List.mem_append] at hx
    rcases hx with hx | hx
    · exact a x hx
    · rw [List.mem_singleton.1 hx]; omega
  · rw [List.take_succ_eq_append_getElem hk, List.pairwise_append]
    refine ⟨b, by simp, fun x hx y hy => ?_⟩
    rw [List.mem_singleton.1 hy]
    have := d x hx
    omega
  · intro x hx
    rw [List.take_succ_eq_append_getElem hk, List.mem_append] at hx
    rcases hx with hx | hx
    · have := d x hx; omega
    · rw [List.mem_singleton.1 hx]; omega
theorem RI.low {l : List Int} {n : Int} {k : Nat} {least : Int} (h : RI l n k least) (hk : k < l.length) (h1 : l[k] < least) : rsB l n = false := by
  refine rs_not fun ⟨a, b⟩ => ?_
  obtain ⟨_, c, d, e⟩ := h
  rcases e with e | ⟨j, hj, e⟩
  · have := (a l[k] (List.getElem_mem hk)).1; omega
  · obtain ⟨hj', e⟩ := List.getElem?_eq_some_iff.1 e
    have := List.pairwise_iff_getElem.1 b j k hj' hk hj
    omega
theorem RI.high {l : List Int} {n : Int} {k : Nat} (hk : k < l.length) (h1 : n ≤ l[k]) : rsB l n = false :=
  rs_not fun ⟨a, _⟩ => by have := (a l[k] (List.getElem_mem hk)).2; omega
theorem RI.done {l : List Int} {n : Int} {least : Int} (h : RI l n l.length least) : rsB l n = true := by
  rw [rs_iff]
  have := h.1
  rwa [List.take_length] at this
theorem RI.lt {l : List Int} {n : Int} {k : Nat} {least : Int} (h : RI l n k least) (hn : 0 ≤ n) : least ≤ n := by
  rcases h.2.2.2 with e | ⟨j, hj, e⟩
  · omega
  · have := (h.1.1 (least - 1) (List.mem_of_getElem? (by rw [List.getElem?_take, if_pos hj]; exact e))).2
    omega

theorem RI.zero {l : List Int} {n least : Int} (h : RI l n 0 least) : least = 0 := by
  rcases h.2.2.2 with e | ⟨j, hj, _⟩
  · exact e
  · omega
theorem RI.prev {l : List Int} {n : Int} {k : Nat} {least : Int} (h : RI l n (k + 1) least) (hk : k < l.length) : least = l[k] + 1 := by
  obtain ⟨⟨a, b⟩, c, d, e⟩ := h
  have hm : l[k] ∈ l.take (k + 1) := List.mem_of_getElem? (by rw [List.getElem?_take, if_pos (Nat.lt_succ_self k), List.getElem?_eq_getElem hk])
  have h1 := d _ hm
  rcases e with e | ⟨j, hj, e⟩
  · have := (a _ hm).1; omega
  · obtain ⟨hj', e⟩ := List.getElem?_eq_some_iff.1 e
    by_cases hjk : j = k
    · subst hjk; omega
    · have h2 := List.pairwise_iff_getElem.1 b j k (by simp; omega) (by simp; omega) (by omega)
      simp only [List.getElem_take] at h2
      omega

/-! ### Odd vertices -/
def edgeAt (L : List Eg) (i : Int) : Eg := L.getD i.toNat (0, 0, 0)
theorem edgeAt_of {L : List Eg} {i : Nat} {e : Eg} (h : L[i]? = some e) : edgeAt L (i : Int) = e := by simp [edgeAt, h]
/-- Does an edge's ends turn v? (A loop turns it twice.) -/
def tog (e : Eg) (v : Nat) : Bool := (e.1 == v) ^^ (e.2.1 == v)
def oddA (L : List Eg) (B : List Int) (v : Nat) : Bool := B.foldr (fun i b => tog (edgeAt L i) v ^^ b) false
theorem oddA_nil (L : List Eg) (v : Nat) : oddA L [] v = false := rfl
theorem oddA_cons (L : List Eg) (i : Int) (B : List Int) (v : Nat) : oddA L (i :: B) v = (tog (edgeAt L i) v ^^ oddA L B v) := rfl
theorem oddA_append (L : List Eg) (A B : List Int) (v : Nat) : oddA L (A ++ B) v = (oddA L A v ^^ oddA L B v) := by
  induction A with
  | nil => simp [oddA_nil]
  | cons i A ih => rw [List.cons_append, oddA_cons, oddA_cons, ih, Bool.xor_assoc]
theorem oddA_perm {L : List Eg} {A B : List Int} (h : A.Perm B) (v : Nat) : oddA L A v = oddA L B v := by
  induction h with
  | nil => rfl
  | cons x _ ih => rw [oddA_cons, oddA_cons, ih]
  | swap x y l => rw [oddA_cons, oddA_cons, oddA_cons, oddA_cons, ← Bool.xor_assoc, ← Bool.xor_assoc, Bool.xor_comm (tog (edgeAt L y) v)]
  | trans _ _ h1 h2 => exact h1.trans h2
theorem oddA_reverse (L : List Eg) (A : List Int) (v : Nat) : oddA L A.reverse v = oddA L A v := oddA_perm (List.reverse_perm A) v
def oddT (N : Nat) (L : List Eg) (B : List Int) : List Bool := (List.range N).map (oddA L B)
theorem oddT_len (N : Nat) (L : List Eg) (B : List Int) : (oddT N L B).length = N := by simp [oddT]
theorem oddT_at {N : Nat} {L : List Eg} {B : List Int} {v : Nat} (h : v < N) : (oddT N L B)[v]? = some (oddA L B v) := by simp [oddT, h]
theorem oddT_nil (N : Nat) (L : List Eg) : oddT N L [] = List.replicate N false := by
  apply List.ext_getElem <;> simp [oddT, oddA_nil]
/-- What stands at a place of a list of truths. -/
def bAt (T : List Bool) (v : Nat) : Bool := T.getD v false
theorem bAt_get? {T : List Bool} {v : Nat} (h : v < T.length) : T[v]? = some (bAt T v) := by simp [bAt, h]
theorem bAt_set {T : List Bool} {v : Nat} {x : Bool} (h : v < T.length) (u : Nat) : bAt (T.set v x) u = if u = v then x else bAt T u := by
  unfold bAt
  by_cases e : u = v
  · subst e; simp [List.getD, h]
  · rw [if_neg e]; simp [List.getD, List.getElem?_set_ne (Ne.symm e)]
theorem oddT_bAt {N : Nat} {L : List Eg} {B : List Int} {v : Nat} (h : v < N) : bAt (oddT N L B) v = oddA L B v := by
  unfold bAt
  rw [List.getD_eq_getElem?_getD, oddT_at h]; rfl
theorem bools_ext {A B : List Bool} (hl : A.length = B.length) (h : ∀ v, v < A.length → bAt A v = bAt B v) : A = B := by
  apply List.ext_getElem hl
  intro i h1 h2
  have := h i h1
  simpa [bAt, h1, h2] using this
/-- A place is turned. -/
def flipB (T : List Bool) (v : Nat) : List Bool := T.set v (!bAt T v)
theorem flipB_len (T : List Bool) (v : Nat) : (flipB T v).length = T.length := by simp [flipB]
theorem flipB_at {T : List Bool} {v : Nat} (h : v < T.length) (u : Nat) : bAt (flipB T v) u = (bAt T u ^^ (v == u)) := by
  unfold flipB
  rw [bAt_set h]
  by_cases e : u = v
  · subst e; simp
  · rw [if_neg e]
    have : (v == u) = false := by rw [beq_eq_false_iff_ne]; omega
    rw [this, Bool.xor_false]
theorem oddT_step {N : Nat} {L : List Eg} {B : List Int} {i : Int} (h1 : (edgeAt L i).1 < N) (h2 : (edgeAt L i).2.1 < N) : flipB (flipB (oddT N L B) (edgeAt L i).1) (edgeAt L i).2.1 = oddT N L (B ++ [i]) := by
  refine bools_ext (by rw [flipB_len, flipB_len, oddT_len, oddT_len]) fun v hv => ?_
  rw [flipB_len, flipB_len, oddT_len] at hv
  rw [flipB_at (by rw [flipB_len, oddT_len]; exact h2), flipB_at (by rw [oddT_len]; exact h1), oddT_bAt hv, oddT_bAt hv, oddA_append, oddA_cons, oddA_nil, Bool.xor_false]
  unfold tog
  rw [Bool.xor_assoc]
/-- The places of the truths, rising. -/
def trueK (T : List Bool) (k : Nat) : List Int := ((List.range k).filter fun i => bAt T i).map fun i : Nat => (i : Int)
def trueL (T : List Bool) : List Int := trueK T T.length
theorem trueK_succ (T : List Bool) (k : Nat) : trueK T (k + 1) = trueK T k ++ if bAt T k then [(k : Int)] else [] := by
  unfold trueK
  rw [List.range_succ, List.filter_append, List.map_append]
  by_cases h : bAt T k <;> simp [h]
theorem trueK_len (T : List Bool) (k : Nat) : (trueK T k).length ≤ k := by
  unfold trueK
  rw [List.length_map]
  have := List.length_filter_le (fun i => bAt T i) (List.range k)
  simpa using this
theorem trueK_mem {T : List Bool} {k : Nat} {x : Int} : x ∈ trueK T k ↔ ∃ i : Nat, x = i ∧ i < k ∧ bAt T i = true := by
  unfold trueK
  simp only [List.mem_map, List.mem_filter, List.mem_range]
  constructor
  · rintro ⟨i, ⟨h1, h2⟩, rfl⟩; exact ⟨i, rfl, h1, h2⟩
  · rintro ⟨i, rfl, h1, h2⟩; exact ⟨i, ⟨h1, h2⟩, rfl⟩
theorem trueK_rise (T : List Bool) : ∀ k : Nat, (trueK T k).Pairwise (· < ·)
  | 0 => by simp [trueK]
  | k + 1 => by
    rw [trueK_succ, List.pairwise_append]
    refine ⟨trueK_rise T k, by split <;> simp, fun x hx y hy => ?_⟩
    obtain ⟨i, rfl, h1, _⟩ := trueK_mem.1 hx
    split at hy
    · rw [List.mem_singleton.1 hy]; omega
    · simp at hy
theorem trueL_mem {T : List Bool} {x : Int} : x ∈ trueL T ↔ ∃ i : Nat, x = i ∧ i < T.length ∧ bAt T i = true := trueK_mem
/-- Places that are edges'. -/
def plcB (m : Nat) (B : List Int) : Bool := B.all fun x => decide (0 ≤ x ∧ x < (m : Int))
theorem plc_iff {m : Nat} {B : List Int} : plcB m B = true ↔ ∀ x ∈ B, 0 ≤ x ∧ x < (m : Int) := by simp [plcB]
theorem plc_not {m : Nat} {B : List Int} {x : Int} (hx : x ∈ B) (h : x < 0 ∨ (m : Int) ≤ x) : plcB m B = false := by
  rw [← Bool.not_eq_true, plc_iff]
  intro h'
  have := h' x hx
  omega
def oddV (N : Nat) (L : List Eg) (B : List Int) : List Int := trueL (oddT N L B)
theorem oddV_nil (N : Nat) (L : List Eg) : oddV N L [] = [] := by
  rw [List.eq_nil_iff_forall_not_mem]
  intro x hx
  obtain ⟨i, _, h1, h2⟩ := trueL_mem.1 hx
  rw [oddT_len] at h1
  rw [oddT_bAt h1, oddA_nil] at h2
  cases h2
theorem rise_ext : ∀ {A B : List Int}, A.Pairwise (· < ·) → B.Pairwise (· < ·) → (∀ x, x ∈ A ↔ x ∈ B) → A = B
  | [], [], _, _, _ => rfl
  | [], b :: B, _, _, h => absurd ((h b).2 (by simp)) (by simp)
  | a :: A, [], _, _, h => absurd ((h a).1 (by simp)) (by simp)
  | a :: A, b :: B, ha, hb, h => by
    rw [List.pairwise_cons] at ha hb
    have hab : a = b := by
      have h1 := (h a).1 (by simp)
      have h2 := (h b).2 (by simp)
      rcases List.mem_cons.1 h1 with e | h1
      · exact e
      · rcases List.mem_cons.1 h2 with e | h2
        · exact e.symm
        · have := ha.1 b h2
          have := hb.1 a h1
          omega
    subst hab
    congr 1
    refine rise_ext ha.2 hb.2 fun x => ⟨fun hx => ?_, fun hx => ?_⟩
    · have := ha.1 x hx
      rcases List.mem_cons.1 ((h x).1 (by simp [hx])) with e | e
      · omega
      · exact e
    · have := hb.1 x hx
      rcases List.mem_cons.1 ((h x).2 (by simp [hx])) with e | e
      · omega
      · exact e
end Go.Proofs.YthdhimcaojfcnaaGreat
