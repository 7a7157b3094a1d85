/-
  Graphs as lists of edges, without the program: kinds, order, sorting, neighbours, sums.
-/
import Derived.Lib.Small
namespace Go.Proofs.Ytdgecflljgnobaa
open Go Go.Proofs

abbrev Ed := Int × Int × Int

/-- The order by ends. -/
def lo (a b : Ed) : Bool := decide (a.1 < b.1) || (decide (a.1 = b.1) && decide (a.2.1 < b.2.1))
theorem lo_iff {a b : Ed} : lo a b = true ↔ a.1 < b.1 ∨ (a.1 = b.1 ∧ a.2.1 < b.2.1) := by simp [lo]
theorem lo_not {a b : Ed} : lo a b = false ↔ b.1 < a.1 ∨ (a.1 = b.1 ∧ b.2.1 ≤ a.2.1) := by
  rw [← Bool.not_eq_true, lo_iff]; omega
def cfE (a b : Ed) : Int := if Lib.compareInt a.1 b.1 = 0 then Lib.compareInt a.2.1 b.2.1 else Lib.compareInt a.1 b.1
theorem cfE_cases (a b : Ed) : (cfE a b = -1 ∧ lo a b = true) ∨ (cfE a b = 0 ∧ a.1 = b.1 ∧ a.2.1 = b.2.1) ∨ (cfE a b = 1 ∧ lo b a = true) := by
  unfold cfE Lib.compareInt
  simp only [lo_iff]
  split <;> split <;> (try split) <;> (try split) <;> omega
theorem cfE_lt (a b : Ed) : decide (cfE a b < 0) = lo a b := by
  rcases cfE_cases a b with ⟨h, h'⟩ | ⟨h, h'⟩ | ⟨h, h'⟩
  · rw [h, h']; rfl
  · rw [h]; have : lo a b = false := lo_not.2 (by omega)
    rw [this]; rfl
  · rw [h]; have : lo a b = false := lo_not.2 (by have := lo_iff.1 h'; omega)
    rw [this]; rfl
theorem lo_trans {a b c : Ed} (h : lo a b = true) (h' : lo b c = true) : lo a c = true := by rw [lo_iff] at *; omega
theorem lo_irrefl (a : Ed) : lo a a = false := lo_not.2 (by omega)

/-! ### Kinds -/
def manyK (n m : Int) : Int := if n < 0 then 1 else if 1048576 < n ∨ 4194304 < m then 4 else 0
def edgeK (n : Int) (e : Ed) : Int := if e.1 < 0 ∨ n ≤ e.1 ∨ e.2.1 < 0 ∨ n ≤ e.2.1 then 5 else if e.1 = e.2.1 then 6 else if e.2.2 ≤ -2147483648 ∨ 2147483648 ≤ e.2.2 then 8 else 0
def riseK (a e : Ed) : Int := if lo a e = true then 0 else if lo e a = true then 1 else 7
def riseO : Option Ed → Ed → Int
  | none, _ => 0
  | some a, e => riseK a e
def oneK (n : Int) (p : Option Ed) (e : Ed) : Int := if edgeK n e = 0 then (if e.2.1 < e.1 then 1 else riseO p e) else edgeK n e
def listK (n : Int) : Option Ed → List Ed → Int
  | _, [] => 0
  | p, e :: l => if oneK n p e = 0 then listK n (some e) l else oneK n p e
def rightK (n : Int) (l : List Ed) : Int := if manyK n l.length = 0 then listK n none l else manyK n l.length
def firstK (n : Int) : List Ed → Int
  | [] => 0
  | e :: l => if edgeK n e = 0 then firstK n l else edgeK n e
/-- The one ahead of a place. -/
def prevA (l : List Ed) : Nat → Option Ed
  | 0 => none
  | j + 1 => l[j]?
theorem listK_step {n : Int} {l : List Ed} {i : Nat} (h : i < l.length) : listK n (prevA l i) (l.drop i) = if oneK n (prevA l i) l[i] = 0 then listK n (prevA l (i + 1)) (l.drop (i + 1)) else oneK n (prevA l i) l[i] := by
  rw [List.drop_eq_getElem_cons h, listK, show prevA l (i + 1) = some l[i] from List.getElem?_eq_getElem h]
theorem listK_end {n : Int} {l : List Ed} : listK n (prevA l l.length) (l.drop l.length) = 0 := by simp [listK]
theorem firstK_step {n : Int} {l : List Ed} {i : Nat} (h : i < l.length) : firstK n (l.drop i) = if edgeK n l[i] = 0 then firstK n (l.drop (i + 1)) else edgeK n l[i] := by
  rw [List.drop_eq_getElem_cons h, firstK]
theorem many_ok {n m : Int} (h : manyK n m = 0) : 0 ≤ n ∧ n ≤ 1048576 ∧ m ≤ 4194304 := by
  unfold manyK at h; split at h
  · cases h
  · split at h
    · cases h
    · omega
def okE (n : Int) (e : Ed) : Prop := 0 ≤ e.1 ∧ e.1 < n ∧ 0 ≤ e.2.1 ∧ e.2.1 < n ∧ e.1 ≠ e.2.1 ∧ -2147483648 < e.2.2 ∧ e.2.2 < 2147483648
theorem edge_ok {n : Int} {e : Ed} (h : edgeK n e = 0) : okE n e := by
  unfold edgeK at h; split at h
  · cases h
  · split at h
    · cases h
    · split at h
      · cases h
      · unfold okE; omega
theorem edge_of {n : Int} {e : Ed} (h : okE n e) : edgeK n e = 0 := by
  unfold okE at h; unfold edgeK; rw [if_neg (by omega), if_neg (by omega), if_neg (by omega)]
theorem first_ok {n : Int} : ∀ {l : List Ed}, firstK n l = 0 → ∀ e ∈ l, okE n e
  | [], _, _, he => by cases he
  | a :: l, h, e, he => by
    rw [firstK] at h
    split at h
    · rename_i h0
      rcases List.mem_cons.1 he with rfl | he
      · exact edge_ok h0
      · exact first_ok h e he
    · exact absurd h (by assumption)
theorem first_of {n : Int} : ∀ {l : List Ed}, (∀ e ∈ l, okE n e) → firstK n l = 0
  | [], _ => rfl
  | a :: l, h => by rw [firstK, if_pos (edge_of (h a (List.mem_cons_self ..))), first_of fun e he => h e (List.mem_cons_of_mem _ he)]

/-- A right graph. -/
structure RightG (n : Int) (l : List Ed) : Prop where
  n0 : 0 ≤ n
  n1 : n ≤ 1048576
  m1 : l.length ≤ 4194304
  each : ∀ e ∈ l, okE n e ∧ e.1 < e.2.1
  rise : l.Pairwise fun a b => lo a b = true
theorem list_ok {n : Int} : ∀ {l : List Ed} {p : Option Ed}, listK n p l = 0 → (∀ e ∈ l, okE n e ∧ e.1 < e.2.1) ∧ (l.Pairwise fun a b => lo a b = true) ∧ ∀ a, p = some a → ∀ e ∈ l, lo a e = true
  | [], _, _ => ⟨by simp, .nil, by simp⟩
  | x :: l, p, h => by
    rw [listK] at h
    split at h
    · rename_i h0
      unfold oneK at h0
      split at h0
      · rename_i hk
        split at h0
        · cases h0
        · rename_i huv
          obtain ⟨h1, h2, h3⟩ := list_ok h
          have hx := edge_ok hk
          have hp : ∀ a, p = some a → lo a x = true := by
            intro a ha; subst ha
            simp only [riseO, riseK] at h0
            split at h0
            · assumption
            · split at h0 <;> cases h0
          refine ⟨?_, List.Pairwise.cons (h3 x rfl) h2, ?_⟩
          · intro e he
            rcases List.mem_cons.1 he with rfl | he
            · exact ⟨hx, by unfold okE at hx; omega⟩
            · exact h1 e he
          · intro a ha e he
            rcases List.mem_cons.1 he with rfl | he
            · exact hp a ha
            · exact lo_trans (hp a ha) (h3 x rfl e he)
      · exact absurd h0 (by assumption)
    · exact absurd h (by assumption)
theorem list_of {n : Int} : ∀ {l : List Ed} {p : Option Ed}, (∀ e ∈ l, okE n e ∧ e.1 < e.2.1) → (l.Pairwise fun a b => lo a b = true) → (∀ a, p = some a → ∀ e ∈ l, lo a e = true) → listK n p l = 0
  | [], _, _, _, _ => rfl
  | x :: l, p, h1, h2, h3 => by
    have hx := h1 x (List.mem_cons_self ..)
    have h0 : oneK n p x = 0 := by
      unfold oneK
      rw [if_pos (edge_of hx.1), if_neg (by omega)]
      cases p with
      | none => rfl
      | some a => simp only [riseO, riseK]; rw [if_pos (h3 a rfl x (List.mem_cons_self ..))]
    rw [listK, if_pos h0]
    refine list_of (fun e he => h1 e (List.mem_cons_of_mem _ he)) (List.pairwise_cons.1 h2).2 fun a ha e he => ?_
    cases ha
    exact (List.pairwise_cons.1 h2).1 e he
theorem right_iff {n : Int} {l : List Ed} : rightK n l = 0 ↔ RightG n l := by
  constructor
  · intro h
    unfold rightK at h
    split at h
    · rename_i h0
      obtain ⟨a, b, c⟩ := many_ok h0
      obtain ⟨h1, h2, _⟩ := list_ok h
      exact ⟨a, b, by omega, h1, h2⟩
    · exact absurd h (by assumption)
  · intro h
    have h0 : manyK n l.length = 0 := by
      have := h.n0; have := h.n1; have := h.m1
      unfold manyK; rw [if_neg (by omega), if_neg (by omega)]
    unfold rightK
    rw [if_pos h0]
    exact list_of h.each h.rise (by simp)

/-! ### Sorting -/
def norm (e : Ed) : Ed := (min e.1 e.2.1, max e.1 e.2.1, e.2.2)
abbrev Alone (l : List Ed) : Prop := l.Pairwise fun a b => ¬ (a.1 = b.1 ∧ a.2.1 = b.2.1)
theorem alone_perm {l l' : List Ed} (h : l.Perm l') : Alone l ↔ Alone l' := h.pairwise_iff fun h1 h2 => h1 ⟨h2.1.symm, h2.2.symm⟩
def Weak (l : List Ed) : Prop := l.Pairwise fun a b => lo b a = false
def Strict (l : List Ed) : Prop := l.Pairwise fun a b => lo a b = true
theorem strict_alone {l : List Ed} (h : Strict l) : Alone l := h.imp fun h1 h2 => by rw [lo_iff] at h1; omega
theorem weak_strict {l : List Ed} (h : Weak l) (h' : Alone l) : Strict l := (List.Pairwise.and h h').imp fun {a b} h => by
  have := lo_not.1 h.1; have := h.2; rw [lo_iff]; omega
theorem strict_uniq {l l' : List Ed} (hp : l.Perm l') (h : Strict l) (h' : Strict l') : l = l' := by
  refine List.Perm.eq_of_pairwise (le := fun a b => lo a b = true) ?_ h h' hp
  intro a b _ _ h1 h2
  rw [lo_iff] at h1 h2; omega
def srt (l : List Ed) : List Ed := l.mergeSort fun a b => !lo b a
theorem srt_perm (l : List Ed) : (srt l).Perm l := List.mergeSort_perm ..
theorem srt_weak (l : List Ed) : Weak (srt l) := by
  have h := List.pairwise_mergeSort (le := fun a b : Ed => !lo b a) (fun a b c h1 h2 => by simp [lo_not] at *; omega) (fun a b => by
    cases h : lo b a
    · simp
    · have : lo a b = false := lo_not.2 (by rw [lo_iff] at h; omega)
      simp [this]) l
  exact h.imp fun h => by simpa using h
theorem srt_len (l : List Ed) : (srt l).length = l.length := (srt_perm l).length_eq
theorem srt_eq {l s : List Ed} (hp : s.Perm l) (h : Strict s) : s = srt l :=
  have ha : Alone (srt l) := (alone_perm (hp.trans (srt_perm l).symm)).1 (strict_alone h)
  strict_uniq (hp.trans (srt_perm l).symm) h (weak_strict (srt_weak l) ha)
def makeK (n : Int) (l : List Ed) : Int := if manyK n l.length = 0 then (if firstK n l = 0 then (if Alone (l.map norm) then 0 else 7) else firstK n l) else manyK n l.length
def makeN (n : Int) (l : List Ed) : Int := if makeK n l = 0 then n else 0
def makeL (n : Int) (l : List Ed) : List Ed := if makeK n l = 0 then srt (l.map norm) else []
theorem make_ok {n : Int} {l : List Ed} (h : makeK n l = 0) : manyK n l.length = 0 ∧ firstK n l = 0 ∧ Alone (l.map norm) := by
  unfold makeK at h
  split at h
  · split at h
    · split at h
      · exact ⟨by assumption, by assumption, by assumption⟩
      · cases h
    · exact absurd h (by assumption)
  · exact absurd h (by assumption)
theorem make_right {n : Int} {l : List Ed} (h : makeK n l = 0) : RightG n (srt (l.map norm)) := by
  obtain ⟨h1, h2, h3⟩ := make_ok h
  obtain ⟨a, b, c⟩ := many_ok h1
  refine ⟨a, b, by rw [srt_len, List.length_map]; omega, fun e he => ?_, weak_strict (srt_weak _) ((alone_perm (srt_perm _)).2 h3)⟩
  obtain ⟨x, hx, rfl⟩ := List.mem_map.1 ((srt_perm _).mem_iff.1 he)
  have := first_ok h2 x hx
  unfold okE norm at *
  simp only
  omega
theorem norm_id {e : Ed} (h : e.1 < e.2.1) : norm e = e := by
  obtain ⟨u, v, w⟩ := e
  simp only [norm] at *
  rw [Int.min_eq_left (by omega), Int.max_eq_right (by omega)]

/-- Two graphs of a right one's edges, in any order and with their ends in any order: that one. -/
theorem make_again {n : Int} {l l' : List Ed} (h : RightG n l) (hp : (l'.map norm).Perm l) (hok : ∀ e ∈ l', okE n e) : makeK n l' = 0 ∧ srt (l'.map norm) = l := by
  have hlen : l'.length = l.length := by have := hp.length_eq; simpa using this
  have h0 : manyK n l'.length = 0 := by
    have := h.n0; have := h.n1; have := h.m1
    unfold manyK; rw [if_neg (by omega), if_neg (by omega)]
  have ha : Alone (l'.map norm) := (alone_perm hp).2 (strict_alone h.rise)
  exact ⟨by unfold makeK; rw [if_pos h0, if_pos (first_of hok), if_pos ha], (srt_eq hp.symm h.rise).symm⟩

/-! ### One more edge, as the definition lays it -/
theorem ins_facts {s : List Ed} {e : Ed} {k : Nat} (hs : Weak s) (hk : k ≤ s.length) (hbig : ∀ j x, k ≤ j → s[j]? = some x → lo e x = true) (hsm : k = 0 ∨ ∃ x, s[k - 1]? = some x ∧ lo e x = false) :
    Weak (s.take k ++ e :: s.drop k) ∧ (s.take k ++ e :: s.drop k).Perm (e :: s) ∧ (Alone (e :: s) ↔ Alone s ∧ ¬ (0 < k ∧ ∃ x, s[k - 1]? = some x ∧ lo x e = false)) := by
  have hbig' : ∀ x ∈ s.drop k, lo e x = true := by
    intro x hx
    obtain ⟨j, hj⟩ := List.getElem?_of_mem hx
    rw [List.getElem?_drop] at hj
    exact hbig _ x (by omega) hj
  have hsm' : ∀ x ∈ s.take k, lo e x = false := by
    intro x hx
    obtain ⟨j, hj⟩ := List.getElem?_of_mem hx
    have hjk : j < k := by
      have := (List.getElem?_eq_some_iff.1 hj).1
      simp at this; omega
    rw [List.getElem?_take_of_lt hjk] at hj
    rcases hsm with h0 | ⟨y, hy, hle⟩
    · omega
    · by_cases hj' : j = k - 1
      · subst hj'; rw [hj] at hy; cases hy; exact hle
      · obtain ⟨h1, h1'⟩ := List.getElem?_eq_some_iff.1 hj
        obtain ⟨h2, h2'⟩ := List.getElem?_eq_some_iff.1 hy
        have := List.pairwise_iff_getElem.1 hs j (k - 1) h1 h2 (by omega)
        rw [h1', h2'] at this
        rw [lo_not] at *; omega
  refine ⟨?_, ?_, ?_⟩
  · refine List.pairwise_append.2 ⟨(List.Pairwise.sublist (List.take_sublist _ _) hs), List.Pairwise.cons ?_ (List.Pairwise.sublist (List.drop_sublist _ _) hs), ?_⟩
    · intro x hx; have := hbig' x hx; rw [lo_iff] at this; rw [lo_not]; omega
    · intro a ha b hb
      rcases List.mem_cons.1 hb with rfl | hb
      · exact hsm' a ha
      · have h1 := hsm' a ha; have h2 := hbig' b hb
        rw [lo_iff] at h2; rw [lo_not] at *; omega
  · have h1 : (s.take k ++ e :: s.drop k).Perm (e :: (s.take k ++ s.drop k)) := List.perm_middle
    rwa [List.take_append_drop] at h1
  · unfold Alone
    rw [List.pairwise_cons]
    constructor
    · rintro ⟨h1, h2⟩
      refine ⟨h2, ?_⟩
      rintro ⟨hk0, x, hx, hle⟩
      have hxs := List.mem_of_getElem? hx
      have hxe := h1 x hxs
      have := hsm' x (List.mem_of_getElem? (i := k - 1) (by rw [List.getElem?_take_of_lt (by omega)]; exact hx))
      rw [lo_not] at *; omega
    · rintro ⟨h2, hno⟩
      refine ⟨?_, h2⟩
      intro x hx heq
      obtain ⟨j, hj⟩ := List.getElem?_of_mem hx
      have hjk : j < k := Nat.lt_of_not_le fun hkj => by have := hbig j x hkj hj; rw [lo_iff] at this; omega
      have hl : k - 1 < s.length := by omega
      refine hno ⟨by omega, s[k - 1], List.getElem?_eq_getElem hl, ?_⟩
      have h5 := hsm' s[k - 1] (List.mem_of_getElem? (i := k - 1) (by rw [List.getElem?_take_of_lt (by omega)]; exact List.getElem?_eq_getElem hl))
      by_cases hj' : j = k - 1
      · subst hj'
        have : s[k - 1] = x := Option.some.inj ((List.getElem?_eq_getElem hl).symm.trans hj)
        rw [this]; rw [lo_not]; omega
      · obtain ⟨h1, h1'⟩ := List.getElem?_eq_some_iff.1 hj
        have := List.pairwise_iff_getElem.1 hs j (k - 1) h1 hl (by omega)
        rw [h1'] at this
        rw [lo_not] at *; omega

end Go.Proofs.Ytdgecflljgnobaa
