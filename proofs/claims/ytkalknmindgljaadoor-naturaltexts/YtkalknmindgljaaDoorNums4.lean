/-
  Plain mathematics of shifts of limbs. No Go in it.
-/
import Derived.Test.YtkalknmindgljaaDoorNums3
namespace Go.Proofs.YtkalknmindgljaaDoor

theorem limb_shift (d e x1 x0 : Int) (hd : 0 < d) (he : 0 < e) (hde : d * e = 4294967296) (h0 : 0 ≤ x0 ∧ x0 < 4294967296) : (x1 * 4294967296 + x0) / d % 4294967296 = (x1 % d) * e + x0 / d := by
  have e1 : (x1 * 4294967296 + x0) / d = x1 * e + x0 / d := by
    rw [← hde, show x1 * (d * e) + x0 = x0 + d * (x1 * e) by grind, Int.add_mul_ediv_left _ _ (by omega)]; omega
  have hx := Int.mul_ediv_add_emod x1 d
  have e2 : x1 * e + x0 / d = ((x1 % d) * e + x0 / d) + 4294967296 * (x1 / d) := by
    rw [← hde]
    generalize x1 / d = q at *
    generalize x1 % d = r at *
    subst hx
    grind
  have r0 := Int.emod_nonneg x1 (show d ≠ 0 by omega)
  have r1 := Int.emod_lt_of_pos x1 hd
  have q0 : 0 ≤ x0 / d := Int.ediv_nonneg h0.1 (by omega)
  have q1 : x0 / d < e := Int.ediv_lt_of_lt_mul hd (by rw [Int.mul_comm, hde]; exact h0.2)
  rw [e1, e2, Int.add_mul_emod_self_left, Int.emod_eq_of_lt]
  · exact Int.add_nonneg (Int.mul_nonneg r0 (by omega)) q0
  · have : (x1 % d) * e ≤ (d - 1) * e := Int.mul_le_mul_of_nonneg_right (by omega) (by omega)
    rw [Int.sub_mul, hde] at this
    omega

theorem shr_sum (d e : Int) (hde : d * e = 4294967296) (a r : List Int) (n : Nat) (h : ∀ j, j < n → nth r j = (nth a (j + 1) % d) * e + nth a j / d) : d * U r n = U a n + pB n * (nth a n % d) - nth a 0 % d := by
  induction n with
  | zero => simp [U, pB]
  | succ n ih =>
    have h1 := ih (fun j hj => h j (by omega))
    simp only [U]
    rw [Int.mul_add, h1, h n (by omega), pB_succ]
    have hx := Int.mul_ediv_add_emod (nth a n) d
    generalize nth a n / d = q at *
    generalize nth a n % d = r0 at *
    generalize nth a (n + 1) % d = r1 at *
    rw [← hx, ← hde]
    grind

theorem shr_val {a r : List Int} (da : Dig a) (hl : r.length = a.length) (s : Nat) (hs : s ≤ 32) (h : ∀ j, j < a.length → nth r j = (nth a (j + 1) * 4294967296 + nth a j) / 2 ^ s % 4294967296) : val r = val a / 2 ^ s := by
  have hd := pow_pos2 s
  have he := pow_pos2 (32 - s)
  have hde : (2 : Int) ^ s * 2 ^ (32 - s) = 4294967296 := by rw [← Int.pow_add, show s + (32 - s) = 32 by omega]; rfl
  generalize (2 : Int) ^ s = d at *
  generalize (2 : Int) ^ (32 - s) = e at *
  have hsum := shr_sum d e hde a r a.length (fun j hj => by rw [h j hj, limb_shift d e _ _ hd he hde (da.get j)])
  rw [nth_ge (Nat.le_refl _), U_val, ← hl, U_val] at hsum
  simp at hsum
  have c0 := Int.emod_nonneg (nth a 0) (show d ≠ 0 by omega)
  have c1 := Int.emod_lt_of_pos (nth a 0) hd
  generalize nth a 0 % d = c at *
  have : val a = c + d * val r := by omega
  rw [this, Int.add_mul_ediv_left _ _ (by omega), Int.ediv_eq_zero_of_lt c0 c1]; omega

end Go.Proofs.YtkalknmindgljaaDoor
