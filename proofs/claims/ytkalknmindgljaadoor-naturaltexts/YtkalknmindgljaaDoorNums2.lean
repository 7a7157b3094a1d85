/-
  Plain mathematics of bits: no Go in it.
-/
import Derived.Test.YtkalknmindgljaaDoorNums
namespace Go.Proofs.YtkalknmindgljaaDoor

/-- The first n bits of z, the lowest first. -/
def bN (n : Nat) (z : Int) : List Int := (List.range n).map (fun k => z / 2 ^ k % 2)
/-- All bits of limbs. -/
def bitsL : List Int → List Int
  | [] => []
  | z :: r => bN 32 z ++ bitsL r

theorem bN_length (n : Nat) (z : Int) : (bN n z).length = n := by simp [bN]
theorem bN_succ (n : Nat) (z : Int) : bN (n + 1) z = bN n z ++ [z / 2 ^ n % 2] := by simp [bN, List.range_succ]
theorem bitsL_length (zs : List Int) : (bitsL zs).length = 32 * zs.length := by
  induction zs with
  | nil => rfl
  | cons z r ih => simp [bitsL, bN_length, ih]; omega
theorem bitsL_append (a b : List Int) : bitsL (a ++ b) = bitsL a ++ bitsL b := by
  induction a with
  | nil => rfl
  | cons z r ih => simp [bitsL, ih]
theorem take_succ_nth (zs : List Int) (k : Nat) (h : k < zs.length) : zs.take (k + 1) = zs.take k ++ [nth zs k] := by
  rw [List.take_succ_eq_append_getElem h, nth_lt h]
theorem bitsL_take_succ (zs : List Int) (k : Nat) (h : k < zs.length) : bitsL (zs.take (k + 1)) = bitsL (zs.take k) ++ bN 32 (nth zs k) := by
  rw [take_succ_nth zs k h, bitsL_append]; simp [bitsL]

/-- The value of the first n bits. -/
def V (x : List Int) : Nat → Int
  | 0 => 0
  | n + 1 => V x n + 2 ^ n * nth x n

def Bit (x : List Int) : Prop := ∀ z ∈ x, z = 0 ∨ z = 1
theorem Bit.get {x : List Int} (h : Bit x) (k : Nat) : nth x k = 0 ∨ nth x k = 1 := by
  by_cases c : k < x.length
  · rw [nth_lt c]; exact h _ (List.getElem_mem c)
  · rw [nth_ge (by omega)]; exact .inl rfl
theorem Bit.append {x y : List Int} (h : Bit x) (k : Bit y) : Bit (x ++ y) := fun z hz => (List.mem_append.1 hz).elim (h z) (k z)
theorem Bit.one {z : Int} (h : z = 0 ∨ z = 1) : Bit [z] := fun y hy => by simp at hy; rw [hy]; exact h
theorem Bit.nil : Bit [] := fun z hz => by cases hz
theorem bit_bN (n : Nat) (z : Int) : Bit (bN n z) := by
  intro y hy
  simp only [bN, List.mem_map] at hy
  obtain ⟨k, _, rfl⟩ := hy
  omega
theorem bit_bitsL (zs : List Int) : Bit (bitsL zs) := by
  induction zs with
  | nil => exact Bit.nil
  | cons z r ih => exact (bit_bN 32 z).append ih

theorem V_congr {x y : List Int} {n : Nat} (h : ∀ j, j < n → nth x j = nth y j) : V x n = V y n := by
  induction n with
  | zero => rfl
  | succ n ih => simp only [V]; rw [ih (fun j hj => h j (by omega)), h n (by omega)]
theorem pow_pos2 (n : Nat) : (0 : Int) < 2 ^ n := by
  induction n with
  | zero => simp
  | succ n ih => rw [Int.pow_succ]; omega
theorem V_lt {x : List Int} (h : Bit x) (n : Nat) : 0 ≤ V x n ∧ V x n < 2 ^ n := by
  induction n with
  | zero => simp [V]
  | succ n ih =>
    simp only [V]
    rw [Int.pow_succ]
    have := pow_pos2 n
    rcases h.get n with e | e <;> rw [e] <;> omega
theorem V_ge (x : List Int) (n m : Nat) (h : x.length ≤ n) : V x (n + m) = V x n := by
  induction m with
  | zero => rfl
  | succ m ih => show V x (n + m) + 2 ^ (n + m) * nth x (n + m) = _; rw [nth_ge (by omega), ih]; omega
theorem V_append (x y : List Int) (m : Nat) : V (x ++ y) (x.length + m) = V x x.length + 2 ^ x.length * V y m := by
  induction m with
  | zero =>
    simp only [Nat.add_zero, V, Int.mul_zero, Int.add_zero]
    exact V_congr (fun j hj => nth_append_left hj)
  | succ m ih =>
    show V (x ++ y) (x.length + m) + 2 ^ (x.length + m) * nth (x ++ y) (x.length + m) = _
    rw [ih, nth_append_right (by omega), Nat.add_sub_cancel_left]
    simp only [V]
    rw [Int.pow_add, Int.mul_add, Int.mul_assoc, Int.add_assoc]
theorem V_bN (n : Nat) (z : Int) (h0 : 0 ≤ z) (m : Nat) (hm : m ≤ n) : V (bN n z) m = z % 2 ^ m := by
  induction m with
  | zero => simp [V]
  | succ m ih =>
    have e : nth (bN n z) m = z / 2 ^ m % 2 := by simp [nth, bN, show m < n by omega]
    simp only [V]
    rw [ih (by omega), e]
    obtain ⟨a, rfl⟩ := Int.eq_ofNat_of_zero_le h0
    have := Nat.mod_mul (x := a) (a := 2 ^ m) (b := 2)
    rw [← Nat.pow_succ] at this
    have := congrArg (Nat.cast (R := Int)) this
    simp only [Int.natCast_emod, Int.natCast_pow, Int.natCast_add, Int.natCast_mul, Int.natCast_ediv] at this
    exact this.symm
theorem V_bitsL (zs : List Int) (hd : Dig zs) : V (bitsL zs) (32 * zs.length) = val zs := by
  induction zs with
  | nil => rfl
  | cons z r ih =>
    have h := V_append (bN 32 z) (bitsL r) (32 * r.length)
    rw [bN_length] at h
    have hz := hd.head
    rw [V_bN 32 z hz.1 32 (by omega), ih hd.tail] at h
    simp only [bitsL, val, List.length_cons, Nat.mul_succ]
    rw [Nat.add_comm, h]
    have : z % 2 ^ 32 = z := Int.emod_eq_of_lt hz.1 (by simpa using hz.2)
    rw [this]; rfl

theorem V_gap {x y : List Int} {m : Nat} (h : ∀ j, m ≤ j → nth x j = nth y j) (t : Nat) : V x (m + t) - V y (m + t) = V x m - V y m := by
  induction t with
  | zero => rfl
  | succ t ih =>
    have := h (m + t) (by omega)
    show (V x (m + t) + 2 ^ (m + t) * nth x (m + t)) - (V y (m + t) + 2 ^ (m + t) * nth y (m + t)) = _
    rw [this]; omega
theorem V_less {x y : List Int} (hx : Bit x) (hy : Bit y) {m n : Nat} (hn : m < n) (h : ∀ j, m + 1 ≤ j → nth x j = nth y j) (hlt : nth x m < nth y m) : V x n < V y n := by
  obtain ⟨t, rfl⟩ : ∃ t, n = m + 1 + t := ⟨n - (m + 1), by omega⟩
  have g := V_gap h t
  have h1 := V_lt hx m
  have h2 := V_lt hy m
  have e1 : nth x m = 0 := by rcases hx.get m with e | e <;> rcases hy.get m with e' | e' <;> omega
  have e2 : nth y m = 1 := by rcases hx.get m with e | e <;> rcases hy.get m with e' | e' <;> omega
  simp only [V, e1, e2] at g
  omega
theorem V_full (zs : List Int) (hd : Dig zs) (n : Nat) (h : 32 * zs.length ≤ n) : V (bitsL zs) n = val zs := by
  obtain ⟨t, rfl⟩ : ∃ t, n = 32 * zs.length + t := ⟨n - 32 * zs.length, by omega⟩
  rw [V_ge _ _ _ (by rw [bitsL_length]; omega), V_bitsL zs hd]

end Go.Proofs.YtkalknmindgljaaDoor
