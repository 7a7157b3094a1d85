/-
  Plain mathematics of limbs: the values of the first limbs, and the one normal list of a number. No Go in it.
-/
import Derived.Test.YtkalknmindgljaaDoorNums2
namespace Go.Proofs.YtkalknmindgljaaDoor

/-- 2^32 to the n. -/
def pB (n : Nat) : Int := 4294967296 ^ n
theorem pB_zero : pB 0 = 1 := rfl
theorem pB_succ (n : Nat) : pB (n + 1) = pB n * 4294967296 := Int.pow_succ _ _
theorem pB_pos (n : Nat) : 0 < pB n := by
  induction n with
  | zero => simp [pB]
  | succ n ih => rw [pB_succ]; omega
theorem pB_add (m n : Nat) : pB (m + n) = pB m * pB n := Int.pow_add _ _ _
theorem pB_le {m n : Nat} (h : m ≤ n) : pB m ≤ pB n := by
  obtain ⟨t, rfl⟩ := Nat.exists_eq_add_of_le h
  induction t with
  | zero => exact Int.le_refl _
  | succ t ih => have := ih (by omega); rw [← Nat.add_assoc, pB_succ]; have := pB_pos (m + t); omega

/-- The value of the first n limbs. -/
def U (x : List Int) : Nat → Int
  | 0 => 0
  | n + 1 => U x n + pB n * nth x n
theorem U_congr {x y : List Int} {n : Nat} (h : ∀ j, j < n → nth x j = nth y j) : U x n = U y n := by
  induction n with
  | zero => rfl
  | succ n ih => simp only [U]; rw [ih (fun j hj => h j (by omega)), h n (by omega)]
theorem U_cons (z : Int) (r : List Int) (n : Nat) : U (z :: r) (n + 1) = z + 4294967296 * U r n := by
  induction n with
  | zero => simp [U, pB, nth]
  | succ n ih =>
    show U (z :: r) (n + 1) + pB (n + 1) * nth (z :: r) (n + 1) = _
    rw [ih, nth_succ, pB_succ]
    simp only [U]
    rw [Int.mul_add, Int.mul_comm (pB n) 4294967296, Int.mul_assoc, Int.add_assoc]
theorem U_val (x : List Int) : U x x.length = val x := by
  induction x with
  | nil => rfl
  | cons z r ih => simp only [List.length_cons, val]; rw [U_cons, ih]
theorem U_ge (x : List Int) (n : Nat) (h : x.length ≤ n) : U x n = val x := by
  obtain ⟨t, rfl⟩ := Nat.exists_eq_add_of_le h
  induction t with
  | zero => exact U_val x
  | succ t ih =>
    show U x (x.length + t) + pB (x.length + t) * nth x (x.length + t) = _
    rw [ih (by omega), nth_ge (by omega)]; omega
theorem U_set {x : List Int} {k n : Nat} (h : n ≤ k) (v : Int) : U (x.set k v) n = U x n := U_congr (fun j hj => nth_set_ne (by omega) v)
theorem U_set_succ {x : List Int} {k : Nat} (h : k < x.length) (v : Int) : U (x.set k v) (k + 1) = U x k + pB k * v := by
  simp only [U]; rw [U_set (Nat.le_refl _), nth_set_eq h]
theorem U_lt {x : List Int} (h : Dig x) (n : Nat) : 0 ≤ U x n ∧ U x n < pB n := by
  induction n with
  | zero => simp [U, pB]
  | succ n ih =>
    simp only [U]
    rw [pB_succ]
    have h1 := h.get n
    have h2 := pB_pos n
    have h3 : pB n * nth x n ≤ pB n * 4294967295 := Int.mul_le_mul_of_nonneg_left (by omega) (by omega)
    have h4 : 0 ≤ pB n * nth x n := Int.mul_nonneg (by omega) h1.1
    omega
theorem val_lt {x : List Int} (h : Dig x) : val x < pB x.length := by rw [← U_val]; exact (U_lt h _).2
theorem Dig.set {x : List Int} (h : Dig x) (k : Nat) {v : Int} (hv : 0 ≤ v ∧ v < 4294967296) : Dig (x.set k v) := fun z hz => by
  rcases List.mem_or_eq_of_mem_set hz with h1 | rfl
  · exact h z h1
  · exact hv
theorem Dig.append {x y : List Int} (h : Dig x) (k : Dig y) : Dig (x ++ y) := fun z hz => (List.mem_append.1 hz).elim (h z) (k z)
theorem Dig.one {z : Int} (h : 0 ≤ z ∧ z < 4294967296) : Dig [z] := fun y hy => by simp at hy; rw [hy]; exact h
theorem Dig.replicate (n : Nat) : Dig (List.replicate n 0) := fun z hz => by rw [(List.mem_replicate.1 hz).2]; omega
theorem Dig.drop {zs : List Int} (h : Dig zs) (k : Nat) : Dig (zs.drop k) := fun x hx => h x (List.mem_of_mem_drop hx)

/-- The one normal list of a number, by so many steps at most. -/
def limbsF : Nat → Nat → List Int
  | 0, _ => []
  | f + 1, n => if n = 0 then [] else ((n % 4294967296 : Nat) : Int) :: limbsF f (n / 4294967296)
def limbsN (n : Nat) : List Int := limbsF n n
def num (v : Int) : List Int := limbsN v.toNat
theorem limbsF_more (f g n : Nat) (hf : n ≤ f) (hg : n ≤ g) : limbsF f n = limbsF g n := by
  induction f generalizing g n with
  | zero =>
    obtain rfl : n = 0 := by omega
    cases g <;> simp [limbsF]
  | succ f ih =>
    cases g with
    | zero =>
      obtain rfl : n = 0 := by omega
      simp [limbsF]
    | succ g =>
      simp only [limbsF]
      by_cases h : n = 0
      · simp [h]
      · rw [if_neg h, if_neg h, ih g (n / 4294967296) (by omega) (by omega)]
theorem limbsN_zero : limbsN 0 = [] := rfl
theorem limbsN_pos {n : Nat} (h : n ≠ 0) : limbsN n = ((n % 4294967296 : Nat) : Int) :: limbsN (n / 4294967296) := by
  obtain ⟨m, rfl⟩ : ∃ m, n = m + 1 := ⟨n - 1, by omega⟩
  show limbsF (m + 1) (m + 1) = _
  simp only [limbsF]
  rw [if_neg h]
  congr 1
  exact limbsF_more _ _ _ (by omega) (Nat.le_refl _)
theorem limbsN_val (n : Nat) : val (limbsN n) = n := by
  induction n using Nat.strongRecOn with
  | ind n ih =>
    by_cases h : n = 0
    · subst h; rw [limbsN_zero]; rfl
    · rw [limbsN_pos h, val, ih (n / 4294967296) (by omega)]; omega
theorem limbsN_dig (n : Nat) : Dig (limbsN n) := by
  induction n using Nat.strongRecOn with
  | ind n ih =>
    by_cases h : n = 0
    · subst h; rw [limbsN_zero]; exact Dig.nil
    · rw [limbsN_pos h]
      intro z hz
      rcases List.mem_cons.1 hz with rfl | hz
      · omega
      · exact ih (n / 4294967296) (by omega) z hz
theorem limbsN_norm (n : Nat) : trimL (limbsN n) = limbsN n := by
  induction n using Nat.strongRecOn with
  | ind n ih =>
    by_cases h : n = 0
    · subst h; rw [limbsN_zero]; rfl
    · rw [limbsN_pos h, trimL, ih (n / 4294967296) (by omega), if_neg]
      rintro ⟨h1, h2⟩
      have := limbsN_val (n / 4294967296)
      rw [h1] at this
      simp [val] at this
      omega
theorem num_val {v : Int} (h : 0 ≤ v) : val (num v) = v := by unfold num; rw [limbsN_val]; omega
theorem num_dig (v : Int) : Dig (num v) := limbsN_dig _
theorem num_norm (v : Int) : trimL (num v) = num v := limbsN_norm _
theorem trimL_num {zs : List Int} (h : Dig zs) : trimL zs = num (val zs) := by
  rw [← num_norm]
  exact trimL_inj h (num_dig _) (num_val (val_nonneg h)).symm
theorem num_zero : num 0 = [] := limbsN_zero
theorem num_length {zs : List Int} (h : Dig zs) : (num (val zs)).length ≤ zs.length := by rw [← trimL_num h]; exact trimL_length zs
theorem num_inj {v u : Int} (hv : 0 ≤ v) (hu : 0 ≤ u) (h : num v = num u) : v = u := by rw [← num_val hv, h, num_val hu]
theorem num_nil {v : Int} (h : 0 ≤ v) : num v = [] ↔ v = 0 := ⟨fun e => by rw [← num_val h, e]; rfl, fun e => by rw [e, num_zero]⟩
theorem val_full (k : Nat) : val (List.replicate k 4294967295) = pB k - 1 := by
  induction k with
  | zero => rfl
  | succ k ih => rw [List.replicate_succ, val, ih, pB_succ]; omega
/-- A number below 2^32 to the k has at most k limbs. -/
theorem num_len {v : Int} {k : Nat} (h : v < pB k) : (num v).length ≤ k := by
  by_cases h0 : 0 ≤ v
  · by_cases c : (num v).length ≤ k
    · exact c
    · exfalso
      have := val_lt_len (x := List.replicate k 4294967295) (y := num v) (fun z hz => by rw [(List.mem_replicate.1 hz).2]; omega) (num_dig v) (num_norm v) (by simp; omega)
      rw [num_val h0] at this
      have e := val_full k
      omega
  · rw [show num v = [] by unfold num; rw [show v.toNat = 0 by omega]; exact limbsN_zero]; exact Nat.zero_le _
theorem len_num {v : Int} {k : Nat} (h : pB k ≤ v) : k < (num v).length := by
  have h0 := pB_pos k
  have := val_lt (num_dig v)
  rw [num_val (by omega)] at this
  by_cases c : k < (num v).length
  · exact c
  · have := pB_le (show (num v).length ≤ k by omega); omega

end Go.Proofs.YtkalknmindgljaaDoor
