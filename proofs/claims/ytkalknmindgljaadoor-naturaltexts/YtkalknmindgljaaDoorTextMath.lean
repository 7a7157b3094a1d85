/-
  Plain mathematics of decimal digits: a number in pieces of nine digits, and its numeral. No Go in it.
-/
import Derived.Lib.ItoaNum
import Derived.Test.YtkalknmindgljaaDoorNums3
namespace Go.Proofs.YtkalknmindgljaaDoor
open Go

/-- A number in pieces of nine digits, the lowest first. -/
def pcsF : Nat → Nat → List Int
  | 0, _ => []
  | f + 1, n => if n = 0 then [] else ((n % 1000000000 : Nat) : Int) :: pcsF f (n / 1000000000)
def pcsN (n : Nat) : List Int := pcsF n n
theorem pcsF_more (f g n : Nat) (hf : n ≤ f) (hg : n ≤ g) : pcsF f n = pcsF g n := by
  induction f generalizing g n with
  | zero =>
    obtain rfl : n = 0 := by omega
    cases g <;> simp [pcsF]
  | succ f ih =>
    cases g with
    | zero =>
      obtain rfl : n = 0 := by omega
      simp [pcsF]
    | succ g =>
      simp only [pcsF]
      by_cases h : n = 0
      · simp [h]
      · rw [if_neg h, if_neg h, ih g (n / 1000000000) (by omega) (by omega)]
theorem pcsN_zero : pcsN 0 = [] := rfl
theorem pcsN_pos {n : Nat} (h : n ≠ 0) : pcsN n = ((n % 1000000000 : Nat) : Int) :: pcsN (n / 1000000000) := by
  obtain ⟨m, rfl⟩ : ∃ m, n = m + 1 := ⟨n - 1, by omega⟩
  show pcsF (m + 1) (m + 1) = _
  simp only [pcsF]
  rw [if_neg h]
  congr 1
  exact pcsF_more _ _ _ (by omega) (Nat.le_refl _)
theorem pcs_len {n k : Nat} (h : n < 2 ^ (29 * k)) : (pcsN n).length ≤ k := by
  induction k generalizing n with
  | zero =>
    obtain rfl : n = 0 := by simpa using h
    simp [pcsN_zero]
  | succ k ih =>
    by_cases h0 : n = 0
    · rw [h0, pcsN_zero]; simp
    · rw [pcsN_pos h0]
      have : n / 1000000000 < 2 ^ (29 * k) := by
        rw [Nat.mul_succ, Nat.pow_add] at h
        have e : (2 : Nat) ^ 29 = 536870912 := by decide
        rw [e] at h
        generalize 2 ^ (29 * k) = q at *
        omega
      have := ih this
      simp
      omega

theorem dec_small {u : Nat} (h : u < 10) : Lib.decDigits u = [UInt8.ofNat (48 + u)] := by rw [Lib.decDigits]; simp [h]
theorem dec_big {u : Nat} (h : 10 ≤ u) : Lib.decDigits u = Lib.decDigits (u / 10) ++ [UInt8.ofNat (48 + u % 10)] := by rw [Lib.decDigits]; simp [show ¬ u < 10 by omega]
/-- The last k digits. -/
def dk : Nat → Nat → List UInt8
  | 0, _ => []
  | k + 1, r => dk k (r / 10) ++ [UInt8.ofNat (48 + r % 10)]
theorem dk_length (k r : Nat) : (dk k r).length = k := by
  induction k generalizing r with
  | zero => rfl
  | succ k ih => simp [dk, ih]
theorem dec_join {q r k : Nat} (hq : 0 < q) (hr : r < 10 ^ k) : Lib.decDigits (q * 10 ^ k + r) = Lib.decDigits q ++ dk k r := by
  induction k generalizing r with
  | zero =>
    obtain rfl : r = 0 := by simpa using hr
    simp [dk]
  | succ k ih =>
    rw [Nat.pow_succ] at hr ⊢
    have hp : 0 < 10 ^ k := Nat.pow_pos (by omega)
    have h10 : 10 ≤ q * (10 ^ k * 10) + r := by
      have : 1 * 1 ≤ q * 10 ^ k := Nat.mul_le_mul hq hp
      rw [← Nat.mul_assoc]; omega
    have e1 : (q * (10 ^ k * 10) + r) / 10 = q * 10 ^ k + r / 10 := by rw [← Nat.mul_assoc]; omega
    have e2 : (q * (10 ^ k * 10) + r) % 10 = r % 10 := by rw [← Nat.mul_assoc]; omega
    rw [dec_big h10, e1, e2, ih (by omega), dk, List.append_assoc]
theorem dec_len_pos (u : Nat) : 0 < (Lib.decDigits u).length := by
  by_cases h : u < 10
  · rw [dec_small h]; simp
  · rw [dec_big (by omega)]; simp
theorem dec_len {u k : Nat} (hk : 0 < k) (h : u < 10 ^ k) : (Lib.decDigits u).length ≤ k := by
  induction k generalizing u with
  | zero => omega
  | succ k ih =>
    by_cases h0 : u < 10
    · rw [dec_small h0]; simp
    · rw [dec_big (by omega)]
      rw [Nat.pow_succ] at h
      have : 0 < k := by
        rcases Nat.eq_zero_or_pos k with e | e
        · rw [e] at h; simp at h; omega
        · exact e
      have := ih (u := u / 10) this (by omega)
      simp
      omega
theorem dk_zero (k : Nat) : dk k 0 = List.replicate k 48 := by
  induction k with
  | zero => rfl
  | succ k ih => rw [dk, show (0 : Nat) / 10 = 0 from rfl, ih, List.replicate_succ']; rfl
theorem dk_pad {r k : Nat} (hk : 0 < k) (hr : r < 10 ^ k) : dk k r = List.replicate (k - (Lib.decDigits r).length) 48 ++ Lib.decDigits r := by
  induction k generalizing r with
  | zero => omega
  | succ k ih =>
    by_cases h0 : r < 10
    · rw [dk, dec_small h0, show r / 10 = 0 by omega, dk_zero, show r % 10 = r by omega]
      simp
    · rw [Nat.pow_succ] at hr
      have hk0 : 0 < k := by
        rcases Nat.eq_zero_or_pos k with e | e
        · rw [e] at hr; simp at hr; omega
        · exact e
      rw [dk, ih hk0 (by omega), dec_big (u := r) (by omega)]
      have := dec_len (u := r / 10) hk0 (by omega)
      simp
theorem pcs_nth (n j : Nat) : nth (pcsN n) j = ((n / 1000000000 ^ j % 1000000000 : Nat) : Int) := by
  induction j generalizing n with
  | zero =>
    by_cases h : n = 0
    · subst h; rw [pcsN_zero]; simp [nth]
    · rw [pcsN_pos h, nth_zero]; simp
  | succ j ih =>
    by_cases h : n = 0
    · subst h; rw [pcsN_zero]; simp [nth]
    · rw [pcsN_pos h, nth_succ, ih, Nat.pow_succ, Nat.mul_comm, Nat.div_div_eq_div_mul]
theorem pcs_top {n j : Nat} (h : j < (pcsN n).length) : 0 < n / 1000000000 ^ j := by
  induction j generalizing n with
  | zero =>
    by_cases h0 : n = 0
    · subst h0; rw [pcsN_zero] at h; simp at h
    · simp; omega
  | succ j ih =>
    by_cases h0 : n = 0
    · subst h0; rw [pcsN_zero] at h; simp at h
    · rw [pcsN_pos h0] at h
      have := ih (n := n / 1000000000) (by simpa using h)
      rw [Nat.div_div_eq_div_mul] at this
      rwa [Nat.pow_succ, Nat.mul_comm]
theorem pcs_end (n j : Nat) (h : (pcsN n).length ≤ j) : n / 1000000000 ^ j = 0 := by
  induction j generalizing n with
  | zero =>
    by_cases h0 : n = 0
    · subst h0; rfl
    · rw [pcsN_pos h0] at h; simp at h
  | succ j ih =>
    by_cases h0 : n = 0
    · subst h0; simp
    · rw [pcsN_pos h0] at h
      have := ih (n / 1000000000) (by simpa using h)
      rw [Nat.div_div_eq_div_mul] at this
      rwa [Nat.pow_succ, Nat.mul_comm]
/-- What Text writes at place x. -/
def txtAt (ps : List Int) (x : Nat) : List UInt8 := (if x < ps.length - 1 then List.replicate (9 - (Lib.decDigits (nth ps x).toNat).length) 48 else []) ++ Lib.decDigits (nth ps x).toNat
theorem txt_top {n x : Nat} (hx : x + 1 = (pcsN n).length) : txtAt (pcsN n) x = Lib.decDigits (n / 1000000000 ^ x) := by
  unfold txtAt
  rw [if_neg (by omega), pcs_nth, List.nil_append]
  have h1 := pcs_end n (x + 1) (by omega)
  rw [Nat.pow_succ, ← Nat.div_div_eq_div_mul] at h1
  rw [Int.toNat_natCast, Nat.mod_eq_of_lt (by omega)]
theorem txt_step {n x : Nat} (hx : x + 1 < (pcsN n).length) : Lib.decDigits (n / 1000000000 ^ (x + 1)) ++ txtAt (pcsN n) x = Lib.decDigits (n / 1000000000 ^ x) := by
  have hq := pcs_top hx
  have hm : n / 1000000000 ^ x % 1000000000 < 10 ^ 9 := by omega
  unfold txtAt
  rw [if_pos (by omega), pcs_nth, Int.toNat_natCast, ← dk_pad (k := 9) (by omega) hm, ← dec_join hq hm]
  congr 1
  rw [Nat.pow_succ, ← Nat.div_div_eq_div_mul]
  omega

end Go.Proofs.YtkalknmindgljaaDoor
