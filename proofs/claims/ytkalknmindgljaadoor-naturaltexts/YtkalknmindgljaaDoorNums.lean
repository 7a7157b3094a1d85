/-
  Plain mathematics of numbers written as lists of limbs below 2^32, the lowest first: no Go in it.
-/
namespace Go.Proofs.YtkalknmindgljaaDoor

/-- The limb at a place; 0 beyond the end. (A name of its own: the walk's simp does not look behind it.) -/
def nth (zs : List Int) (j : Nat) : Int := zs[j]?.getD 0
theorem nth_zero (z : Int) (r : List Int) : nth (z :: r) 0 = z := by simp [nth]
theorem nth_succ (z : Int) (r : List Int) (j : Nat) : nth (z :: r) (j + 1) = nth r j := by simp [nth]
theorem nth_lt {zs : List Int} {j : Nat} (h : j < zs.length) : nth zs j = zs[j] := by simp [nth, h]
theorem nth_ge {zs : List Int} {j : Nat} (h : zs.length ≤ j) : nth zs j = 0 := by simp [nth, List.getElem?_eq_none h]
theorem nth_take {zs : List Int} {j k : Nat} (h : j < k) : nth (zs.take k) j = nth zs j := by simp [nth, h]
theorem nth_append_left {a b : List Int} {j : Nat} (h : j < a.length) : nth (a ++ b) j = nth a j := by simp [nth, List.getElem?_append_left h]
theorem nth_append_right {a b : List Int} {j : Nat} (h : a.length ≤ j) : nth (a ++ b) j = nth b (j - a.length) := by simp [nth, List.getElem?_append_right h]
theorem nth_drop {zs : List Int} {j k : Nat} : nth (zs.drop k) j = nth zs (k + j) := by simp [nth]
theorem nth_set_eq {zs : List Int} {j : Nat} (h : j < zs.length) (x : Int) : nth (zs.set j x) j = x := by simp [nth, h]
theorem nth_set_ne {zs : List Int} {j k : Nat} (h : j ≠ k) (x : Int) : nth (zs.set j x) k = nth zs k := by simp [nth, List.getElem?_set_ne h]
theorem ext_nth {a b : List Int} (hl : a.length = b.length) (h : ∀ j, j < a.length → nth a j = nth b j) : a = b := by
  apply List.ext_getElem hl
  intro i h1 h2
  have := h i h1
  rwa [nth_lt h1, nth_lt h2] at this

/-- Without the noughts at the high end. -/
def trimL : List Int → List Int
  | [] => []
  | z :: r => if trimL r = [] ∧ z = 0 then [] else z :: trimL r

theorem trimL_nil (zs : List Int) (h : ∀ j, j < zs.length → nth zs j = 0) : trimL zs = [] := by
  induction zs with
  | nil => rfl
  | cons z r ih =>
    have h0 := h 0 (by simp)
    rw [nth_zero] at h0
    have hr := ih (fun j hj => by have := h (j + 1) (by simp; omega); rwa [nth_succ] at this)
    simp [trimL, hr, h0]

theorem trimL_take (zs : List Int) (k : Nat) (hk : k < zs.length) (hn : nth zs k ≠ 0) (h : ∀ j, k < j → j < zs.length → nth zs j = 0) : trimL zs = zs.take (k + 1) := by
  induction zs generalizing k with
  | nil => simp at hk
  | cons z r ih =>
    cases k with
    | zero =>
      have hr := trimL_nil r (fun j hj => by have := h (j + 1) (by omega) (by simp; omega); rwa [nth_succ] at this)
      rw [nth_zero] at hn
      simp [trimL, hr, hn]
    | succ k =>
      have hr := ih k (by simpa using hk) (by rwa [nth_succ] at hn) (fun j h1 h2 => by have := h (j + 1) (by omega) (by simp; omega); rwa [nth_succ] at this)
      have hl : r.take (k + 1) ≠ [] := by
        intro e
        have := congrArg List.length e
        rw [List.length_take, List.length_nil] at this
        simp only [List.length_cons] at hk
        omega
      simp only [trimL, hr, List.take_succ_cons]
      rw [if_neg (fun e => hl e.1)]

/-- The value of limbs. -/
def val : List Int → Int
  | [] => 0
  | z :: r => z + 4294967296 * val r

def Dig (zs : List Int) : Prop := ∀ z ∈ zs, 0 ≤ z ∧ z < 4294967296

theorem val_trimL (zs : List Int) : val (trimL zs) = val zs := by
  induction zs with
  | nil => rfl
  | cons z r ih =>
    by_cases c : trimL r = [] ∧ z = 0
    · rw [c.1] at ih
      simp [trimL, c, val, ← ih]
    · simp [trimL, c, val, ih]

theorem Dig.tail {z : Int} {r : List Int} (h : Dig (z :: r)) : Dig r := fun x hx => h x (List.mem_cons_of_mem _ hx)
theorem Dig.head {z : Int} {r : List Int} (h : Dig (z :: r)) : 0 ≤ z ∧ z < 4294967296 := h z List.mem_cons_self
theorem Dig.take {zs : List Int} (h : Dig zs) (k : Nat) : Dig (zs.take k) := fun x hx => h x (List.mem_of_mem_take hx)
theorem Dig.nil : Dig [] := fun _ h => by cases h
theorem Dig.get {zs : List Int} (h : Dig zs) (k : Nat) : 0 ≤ nth zs k ∧ nth zs k < 4294967296 := by
  by_cases c : k < zs.length
  · rw [nth_lt c]; exact h _ (List.getElem_mem c)
  · rw [nth_ge (by omega)]; omega
theorem val_nonneg {zs : List Int} (h : Dig zs) : 0 ≤ val zs := by
  induction zs with
  | nil => simp [val]
  | cons z r ih => have := ih h.tail; have := h.head; simp only [val]; omega
theorem trimL_length (zs : List Int) : (trimL zs).length ≤ zs.length := by
  induction zs with
  | nil => simp [trimL]
  | cons z r ih =>
    simp only [trimL]
    split
    · simp
    · simpa using ih
theorem Dig.trimL {zs : List Int} (h : Dig zs) : Dig (trimL zs) := by
  induction zs with
  | nil => exact Dig.nil
  | cons z r ih =>
    simp only [Go.Proofs.YtkalknmindgljaaDoor.trimL]
    split
    · exact Dig.nil
    · intro x hx
      rcases List.mem_cons.1 hx with rfl | hx
      · exact h.head
      · exact ih h.tail x hx

/-- Normal limbs are told by their value. -/
theorem trimL_inj {a b : List Int} (ha : Dig a) (hb : Dig b) (h : val a = val b) : trimL a = trimL b := by
  have zero : ∀ b : List Int, Dig b → val b = 0 → trimL b = [] := by
    intro b
    induction b with
    | nil => intro _ _; rfl
    | cons z r ih =>
      intro hd hv
      have h1 := hd.head; have h2 := val_nonneg hd.tail
      simp only [val] at hv
      have := ih hd.tail (by omega)
      have : z = 0 := by omega
      simp [trimL, *]
  induction a generalizing b with
  | nil => rw [show trimL [] = [] from rfl, zero b hb (by simpa [val] using h.symm)]
  | cons z r ih =>
    cases b with
    | nil => rw [show trimL [] = [] from rfl, zero _ ha (by simpa [val] using h)]
    | cons y s =>
      have h1 := ha.head; have h2 := hb.head
      simp only [val] at h
      have e1 : val r = val s := by omega
      have e2 : z = y := by omega
      have := ih ha.tail hb.tail e1
      simp [trimL, this, e2]

theorem val_zero {b : List Int} (hd : Dig b) (hv : val b = 0) : trimL b = [] := trimL_inj hd Dig.nil hv
theorem trimL_trimL (zs : List Int) : trimL (trimL zs) = trimL zs := by
  induction zs with
  | nil => rfl
  | cons z r ih =>
    by_cases c : trimL r = [] ∧ z = 0
    · simp [trimL, c]
    · simp only [trimL, if_neg c, ih]

/-- -1, 0 or 1 as a is below, as, or above b. -/
def cmpI (a b : Int) : Int := if a < b then -1 else if b < a then 1 else 0
theorem cmpI_lt {a b : Int} (h : a < b) : cmpI a b = -1 := by simp [cmpI, h]
theorem cmpI_gt {a b : Int} (h : b < a) : cmpI a b = 1 := by simp [cmpI, h]; omega
theorem cmpI_eq {a b : Int} (h : a = b) : cmpI a b = 0 := by simp [cmpI, h]

/-- A normal number of more limbs is greater. -/
theorem val_lt_len {x y : List Int} (hx : Dig x) (hy : Dig y) (hn : trimL y = y) (hl : x.length < y.length) : val x < val y := by
  induction y generalizing x with
  | nil => simp at hl
  | cons z' s ih =>
    have hz' := hy.head
    have hs := val_nonneg hy.tail
    cases x with
    | nil =>
      rcases Int.lt_or_eq_of_le (val_nonneg hy) with h | h
      · simpa [val] using h
      · have := val_zero hy h.symm
        rw [this] at hn
        cases hn
    | cons z r =>
      have hz := hx.head
      have hs2 : trimL s = s := by
        simp only [trimL] at hn
        split at hn
        · cases hn
        · simpa using hn
      have := ih hx.tail hy.tail hs2 (by simpa using hl)
      simp only [val]
      omega

theorem cmp_len {a b : List Int} (ha : Dig a) (hb : Dig b) (h : (trimL a).length ≠ (trimL b).length) : cmpI ((trimL a).length : Int) ((trimL b).length : Int) = cmpI (val a) (val b) := by
  rcases Nat.lt_or_gt_of_ne h with h | h
  · have := val_lt_len ha.trimL hb.trimL (trimL_trimL b) h
    rw [val_trimL, val_trimL] at this
    rw [cmpI_lt this, cmpI_lt (by omega)]
  · have := val_lt_len hb.trimL ha.trimL (trimL_trimL a) h
    rw [val_trimL, val_trimL] at this
    rw [cmpI_gt this, cmpI_gt (by omega)]

/-- Of as many limbs each, the highest that differ tell the order. -/
theorem cmp_top {x y : List Int} (hx : Dig x) (hy : Dig y) (hl : x.length = y.length) (k : Nat) (hk : k < x.length) (hne : nth x k ≠ nth y k) (h : ∀ j, k < j → j < x.length → nth x j = nth y j) : cmpI (val x) (val y) = cmpI (nth x k) (nth y k) := by
  induction x generalizing y k with
  | nil => simp at hk
  | cons z r ih =>
    cases y with
    | nil => simp at hl
    | cons z' s =>
      simp only [List.length_cons] at hl hk
      have h1 := hx.head; have h2 := hy.head
      cases k with
      | zero =>
        have : r = s := ext_nth (by omega) (fun j hj => by have := h (j + 1) (by omega) (by simp; omega); rwa [nth_succ, nth_succ] at this)
        subst this
        simp only [val, nth_zero]
        simp only [cmpI]
        repeat (first | rw [if_pos (by omega)] | rw [if_neg (by omega)] | split | omega)
      | succ k =>
        rw [nth_succ, nth_succ] at hne ⊢
        have := ih hx.tail hy.tail (by omega) k (by omega) hne (fun j h1 h2 => by have := h (j + 1) (by omega) (by simp; omega); rwa [nth_succ, nth_succ] at this)
        rw [← this]
        simp only [val]
        rcases Int.lt_trichotomy (val r) (val s) with c | c | c
        · rw [cmpI_lt c, cmpI_lt (by omega)]
        · rw [cmpI_eq c] at this
          rcases Int.lt_or_gt_of_ne hne with d | d
          · rw [cmpI_lt d] at this; omega
          · rw [cmpI_gt d] at this; omega
        · rw [cmpI_gt c, cmpI_gt (by omega)]

end Go.Proofs.YtkalknmindgljaaDoor
