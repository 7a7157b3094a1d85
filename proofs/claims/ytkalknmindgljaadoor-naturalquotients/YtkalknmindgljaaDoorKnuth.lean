/-
  Plain mathematics of long division (Knuth's algorithm D) and of shifts to the left. No Go in it.
-/
import Derived.Test.YtkalknmindgljaaDoorNums4
namespace Go.Proofs.YtkalknmindgljaaDoor

theorem pow_le2 {a b : Nat} (h : a ≤ b) : (2 : Int) ^ a ≤ 2 ^ b := by
  obtain ⟨t, rfl⟩ := Nat.exists_eq_add_of_le h
  rw [Int.pow_add]
  have h1 := pow_pos2 a
  have h2 := pow_pos2 t
  have : (2 : Int) ^ a * 1 ≤ 2 ^ a * 2 ^ t := Int.mul_le_mul_of_nonneg_left (by omega) (by omega)
  omega
theorem U_split (zs : List Int) (o m : Nat) : U zs (o + m) = U zs o + pB o * U (zs.drop o) m := by
  induction m with
  | zero => simp [U]
  | succ m ih =>
    rw [← Nat.add_assoc]
    simp only [U]
    rw [ih, nth_drop, pB_add]
    grind

/-- shiftLeft's loop: what has been written when i limbs are done. -/
structure ShlInv (a zs : List Int) (s i : Nat) : Prop where
  len : zs.length = a.length + 1
  dig : Dig zs
  cur : nth zs i < 2 ^ s
  high : ∀ j, i < j → nth zs j = 0
  sum : U zs (i + 1) = 2 ^ s * U a i
theorem nth_repl (n j : Nat) : nth (List.replicate n (0 : Int)) j = 0 := by
  unfold nth
  rw [List.getElem?_replicate]
  split <;> rfl
theorem ShlInv.start (a : List Int) (s : Nat) : ShlInv a (List.replicate (a.length + 1) 0) s 0 :=
  ⟨by simp, Dig.replicate _, by rw [nth_repl]; exact pow_pos2 s, fun j _ => nth_repl _ j, by simp [U, nth_repl]⟩
theorem shl_low (x : Int) (s : Nat) (hs : s < 32) : x * 2 ^ s % 4294967296 = 2 ^ s * (x % 2 ^ (32 - s)) := by
  have hde : (2 : Int) ^ s * 2 ^ (32 - s) = 4294967296 := by rw [← Int.pow_add, show s + (32 - s) = 32 by omega]; rfl
  rw [← hde, Int.mul_comm x, Int.mul_emod_mul_of_pos _ _ (pow_pos2 s)]
theorem ShlInv.bound {a zs : List Int} {s i : Nat} (h : ShlInv a zs s i) (hs : s < 32) : 0 ≤ nth zs i + nth a i * 2 ^ s % 4294967296 ∧ nth zs i + nth a i * 2 ^ s % 4294967296 < 4294967296 := by
  have hde : (2 : Int) ^ s * 2 ^ (32 - s) = 4294967296 := by rw [← Int.pow_add, show s + (32 - s) = 32 by omega]; rfl
  have h0 := h.dig.get i
  have h1 := h.cur
  have he := pow_pos2 (32 - s)
  have hp := pow_pos2 s
  rw [shl_low _ _ hs]
  have r0 := Int.emod_nonneg (nth a i) (show (2 : Int) ^ (32 - s) ≠ 0 by omega)
  have r1 := Int.emod_lt_of_pos (nth a i) he
  have h2 : (2 : Int) ^ s * (nth a i % 2 ^ (32 - s)) ≤ 2 ^ s * (2 ^ (32 - s) - 1) := Int.mul_le_mul_of_nonneg_left (by omega) (by omega)
  have h3 := Int.mul_nonneg (show (0 : Int) ≤ 2 ^ s by omega) r0
  rw [Int.mul_sub, hde] at h2
  omega
theorem shl_high {x : Int} (hx : 0 ≤ x ∧ x < 4294967296) (s : Nat) (hs : s < 32) : 0 ≤ x * 2 ^ s / 4294967296 ∧ x * 2 ^ s / 4294967296 < 2 ^ s ∧ 0 ≤ x * 2 ^ s ∧ x * 2 ^ s < 9223372036854775808 := by
  have hp := pow_pos2 s
  have hp2 : (2 : Int) ^ s ≤ 2147483648 := by have := pow_le2 (show s ≤ 31 by omega); simpa using this
  have h0 := Int.mul_nonneg hx.1 (show (0 : Int) ≤ 2 ^ s by omega)
  have h1 : x * 2 ^ s < 4294967296 * 2 ^ s := Int.mul_lt_mul_of_pos_right hx.2 hp
  exact ⟨by omega, Int.ediv_lt_of_lt_mul (by omega) (by omega), h0, by omega⟩
theorem ShlInv.step {a zs : List Int} {s i : Nat} (h : ShlInv a zs s i) (da : Dig a) (hs : s < 32) (hi : i < a.length) :
    ShlInv a ((zs.set i (nth zs i + nth a i * 2 ^ s % 4294967296)).set (i + 1) (nth a i * 2 ^ s / 4294967296)) s (i + 1) := by
  have hb := h.bound hs
  have hh := shl_high (da.get i) s hs
  have hp2 : (2 : Int) ^ s ≤ 2147483648 := by have := pow_le2 (show s ≤ 31 by omega); simpa using this
  refine ⟨by simp [h.len], (h.dig.set _ hb).set _ (by omega), ?_, fun j hj => ?_, ?_⟩
  · rw [nth_set_eq (by rw [List.length_set, h.len]; omega)]; exact hh.2.1
  · rw [nth_set_ne (by omega), nth_set_ne (by omega)]; exact h.high j (by omega)
  · rw [U_set_succ (by rw [List.length_set, h.len]; omega), U_set_succ (by rw [h.len]; omega), pB_succ]
    have := h.sum
    simp only [U] at this ⊢
    have e := Int.mul_ediv_add_emod (nth a i * 2 ^ s) 4294967296
    generalize nth a i * 2 ^ s / 4294967296 = hi at *
    generalize nth a i * 2 ^ s % 4294967296 = lo at *
    rw [Int.mul_add, Int.mul_add, ← Int.add_assoc, this]
    have e2 : pB i * (4294967296 * hi + lo) = pB i * (nth a i * 2 ^ s) := by rw [e]
    grind
theorem ShlInv.fin {a zs : List Int} {s : Nat} (h : ShlInv a zs s a.length) : val zs = 2 ^ s * val a := by
  rw [← U_val, ← U_val, h.len]; exact h.sum

/-- The divisor's highest limb, shifted so that its highest bit is on. -/
theorem shl_top {b zs : List Int} {s : Nat} (db : Dig b) (dz : Dig zs) (h : val zs = 2 ^ s * val b) (hn : 1 ≤ b.length) (h1 : 2147483648 ≤ nth b (b.length - 1) * 2 ^ s) (h2 : (nth b (b.length - 1) + 1) * 2 ^ s ≤ 4294967296) :
    (trimL zs).length = b.length ∧ 2147483648 ≤ nth (trimL zs) (b.length - 1) := by
  obtain ⟨m, hm⟩ : ∃ m, b.length = m + 1 := ⟨b.length - 1, by omega⟩
  have hv : val b = U b m + pB m * nth b m := by rw [← U_val, hm]; rfl
  have hU := U_lt db m
  rw [hm] at h1 h2 ⊢
  simp only [Nat.add_sub_cancel] at h1 h2 ⊢
  have hp := pow_pos2 s
  have hpB := pB_pos m
  have hlo : pB m * 2147483648 ≤ val zs := by
    have k1 : pB m * 2147483648 ≤ pB m * (nth b m * 2 ^ s) := Int.mul_le_mul_of_nonneg_left h1 (by omega)
    have k2 : 0 ≤ 2 ^ s * U b m := Int.mul_nonneg (by omega) hU.1
    have k3 : 2 ^ s * val b = 2 ^ s * U b m + pB m * (nth b m * 2 ^ s) := by rw [hv]; grind
    omega
  have hhi : val zs < pB (m + 1) := by
    have k1 : pB m * ((nth b m + 1) * 2 ^ s) ≤ pB m * 4294967296 := Int.mul_le_mul_of_nonneg_left h2 (by omega)
    have k2 : 2 ^ s * U b m < 2 ^ s * pB m := Int.mul_lt_mul_of_pos_left hU.2 hp
    have k3 : 2 ^ s * val b = 2 ^ s * U b m + pB m * ((nth b m + 1) * 2 ^ s) - 2 ^ s * pB m := by rw [hv]; grind
    rw [pB_succ]
    omega
  have hlen : (trimL zs).length = m + 1 := by
    rw [trimL_num dz]
    have := num_len hhi
    have := len_num (show pB m ≤ val zs by omega)
    omega
  refine ⟨hlen, ?_⟩
  have e : val zs = U (trimL zs) m + pB m * nth (trimL zs) m := by rw [← val_trimL, ← U_val, hlen]; rfl
  have hU2 := U_lt dz.trimL m
  rcases Int.lt_or_le (nth (trimL zs) m) 2147483648 with c | c
  · have k1 : pB m * nth (trimL zs) m ≤ pB m * 2147483647 := Int.mul_le_mul_of_nonneg_left (by omega) (by omega)
    omega
  · exact c

theorem knuth_up (G v12 t p v v' u u' : Int) (hv : v = v12 * p + v') (hu : u = t * p + u') (hv' : 0 ≤ v' ∧ v' < p) (hu' : 0 ≤ u' ∧ u' < p) (hG : 0 ≤ G ∧ G < 4294967296) (h : G * v12 ≤ t) (hbig : 4294967296 * p ≤ v) : G * v < u + v := by
  have k1 : G * v12 * p ≤ t * p := Int.mul_le_mul_of_nonneg_right h (by omega)
  have k2 : G * v' ≤ 4294967295 * v' := Int.mul_le_mul_of_nonneg_right (by omega) hv'.1
  have e : G * v = G * v12 * p + G * v' := by rw [hv]; grind
  omega
theorem knuth_low (Q v12 t p v v' u u' : Int) (hv : v = v12 * p + v') (hu : u = t * p + u') (hv' : 0 ≤ v' ∧ v' < p) (hu' : 0 ≤ u' ∧ u' < p) (hQ : 0 ≤ Q) (h : Q * v ≤ u) : Q * v12 ≤ t := by
  have k1 : 0 ≤ Q * v' := Int.mul_nonneg hQ hv'.1
  have e : Q * v = Q * v12 * p + Q * v' := by rw [hv]; grind
  have k2 : Q * v12 * p < (t + 1) * p := by rw [Int.add_mul]; omega
  have := Int.lt_of_mul_lt_mul_right k2 (by omega)
  omega
theorem same_of_mult {x y p k : Int} (hx : 0 ≤ x ∧ x < p) (hy : 0 ≤ y ∧ y < p) (h : x = y + p * k) : x = y := by
  rcases Int.lt_trichotomy k 0 with c | c | c
  · have : p * k ≤ p * (-1) := Int.mul_le_mul_of_nonneg_left (by omega) (by omega)
    omega
  · rw [c] at h; omega
  · have : p * 1 ≤ p * k := Int.mul_le_mul_of_nonneg_left (by omega) (by omega)
    omega

/-- What the guess is told of the window and of the divisor's two highest limbs: the quotient, or one more. -/
theorem guess_near {zs b : List Int} {n0 : Nat} {G : Int} (dz : Dig zs) (db : Dig b) (hb : b.length = n0 + 2) (h31 : 2147483648 ≤ nth b (n0 + 1)) (hG : 0 ≤ G ∧ G < 4294967296) (hu : U zs (n0 + 3) < val b * 4294967296)
    (h : nth zs (n0 + 2) ≤ nth b (n0 + 1) → G * (nth b (n0 + 1) * 4294967296 + nth b n0) ≤ (nth zs (n0 + 2) * 4294967296 + nth zs (n0 + 1)) * 4294967296 + nth zs n0 ∧ ∀ Q : Int, 0 ≤ Q → Q < 4294967296 → Q * (nth b (n0 + 1) * 4294967296 + nth b n0) ≤ (nth zs (n0 + 2) * 4294967296 + nth zs (n0 + 1)) * 4294967296 + nth zs n0 → Q ≤ G) :
    (G - 1) * val b < U zs (n0 + 3) ∧ U zs (n0 + 3) < (G + 1) * val b := by
  have hv : val b = (nth b (n0 + 1) * 4294967296 + nth b n0) * pB n0 + U b n0 := by rw [← U_val, hb]; simp only [U, pB_succ]; grind
  have hw : U zs (n0 + 3) = ((nth zs (n0 + 2) * 4294967296 + nth zs (n0 + 1)) * 4294967296 + nth zs n0) * pB n0 + U zs n0 := by simp only [U, pB_succ]; grind
  have hU := U_lt db n0
  have hW := U_lt dz n0
  have g1 := db.get (n0 + 1)
  have g0 := db.get n0
  have z2 := dz.get (n0 + 2)
  have z1 := dz.get (n0 + 1)
  have z0 := dz.get n0
  have hp := pB_pos n0
  have hbig : 4294967296 * pB n0 ≤ val b := by
    rw [hv]
    have : 4294967296 * pB n0 ≤ (nth b (n0 + 1) * 4294967296 + nth b n0) * pB n0 := Int.mul_le_mul_of_nonneg_right (by omega) (by omega)
    omega
  have hcond : nth zs (n0 + 2) ≤ nth b (n0 + 1) := by
    rcases Int.lt_or_le (nth b (n0 + 1)) (nth zs (n0 + 2)) with c | c
    · exfalso
      have k1 : val b ≤ (nth b (n0 + 1) + 1) * (4294967296 * pB n0) := by
        rw [hv]
        have : nth b n0 * pB n0 ≤ 4294967295 * pB n0 := Int.mul_le_mul_of_nonneg_right (by omega) (by omega)
        grind
      have k2 : (nth b (n0 + 1) + 1) * (4294967296 * pB n0) ≤ nth zs (n0 + 2) * (4294967296 * pB n0) := Int.mul_le_mul_of_nonneg_right (by omega) (by omega)
      have k3 : 0 ≤ nth zs (n0 + 1) * (4294967296 * pB n0) := Int.mul_nonneg z1.1 (by omega)
      have k4 : 0 ≤ nth zs n0 * pB n0 := Int.mul_nonneg z0.1 (by omega)
      have k5 : U zs (n0 + 3) = nth zs (n0 + 2) * (4294967296 * pB n0) * 4294967296 + nth zs (n0 + 1) * (4294967296 * pB n0) + nth zs n0 * pB n0 + U zs n0 := by rw [hw]; grind
      omega
    · exact c
  obtain ⟨h1, h2⟩ := h hcond
  have hup := knuth_up G _ _ _ _ _ _ _ hv hw hU hW hG h1 hbig
  have hvp : 0 < val b := by omega
  have hu0 := (U_lt dz (n0 + 3)).1
  have hq0 : 0 ≤ U zs (n0 + 3) / val b := Int.ediv_nonneg hu0 (by omega)
  have hq1 : U zs (n0 + 3) / val b < 4294967296 := Int.ediv_lt_of_lt_mul hvp (by rw [Int.mul_comm]; exact hu)
  have hq2 : U zs (n0 + 3) / val b * val b ≤ U zs (n0 + 3) := Int.ediv_mul_le _ (by omega)
  have hle := h2 _ hq0 hq1 (knuth_low _ _ _ _ _ _ _ _ hv hw hU hW hq0 hq2)
  refine ⟨by rw [Int.sub_mul]; omega, ?_⟩
  have k1 : U zs (n0 + 3) < (U zs (n0 + 3) / val b + 1) * val b := Int.lt_ediv_add_one_mul_self _ hvp
  have k2 : (U zs (n0 + 3) / val b + 1) * val b ≤ (G + 1) * val b := Int.mul_le_mul_of_nonneg_right (by omega) (by omega)
  omega

/-- The division's loop, when the places from i on are done. -/
structure LongInv (A : Int) (b zs qs : List Int) (i : Nat) : Prop where
  lt : U zs (i + b.length) < val b * pB i
  sum : A = U zs (i + b.length) + val b * pB i * val (qs.drop i)
theorem set_drop {qs : List Int} {i : Nat} (h : i < qs.length) (x : Int) : (qs.set i x).drop i = x :: qs.drop (i + 1) := by
  rw [List.drop_eq_getElem_cons (by rw [List.length_set]; exact h)]
  simp [List.drop_set_of_lt]
theorem LongInv.step {A Q : Int} {b zs zs' qs : List Int} {i : Nat} (h : LongInv A b zs qs (i + 1)) (hi : i < qs.length) (hz : U zs' (i + b.length) = U zs (i + 1 + b.length) - Q * val b * pB i) (hlt : U zs' (i + b.length) < val b * pB i) : LongInv A b zs' (qs.set i Q) i := by
  refine ⟨hlt, ?_⟩
  rw [set_drop hi, val, hz, h.sum, pB_succ]
  grind
theorem LongInv.fin {s : Nat} {a b c zs qs : List Int} (h : LongInv (2 ^ s * val a) b zs qs 0) (hb : val b = 2 ^ s * val c) (dz : Dig zs) (hc : 0 < val c) : val qs = val a / val c ∧ U zs b.length / 2 ^ s = val a % val c := by
  have h1 := h.lt
  have h2 := h.sum
  simp only [Nat.zero_add, pB_zero, Int.mul_one, List.drop_zero] at h1 h2
  have hp := pow_pos2 s
  have h0 := (U_lt dz b.length).1
  rw [hb] at h1 h2
  generalize U zs b.length = r at *
  have e : r = 2 ^ s * (val a - val c * val qs) := by grind
  have hr0 : 0 ≤ val a - val c * val qs := by
    rcases Int.lt_or_le (val a - val c * val qs) 0 with k | k
    · have : 2 ^ s * (val a - val c * val qs) < 2 ^ s * 0 := Int.mul_lt_mul_of_pos_left k hp
      omega
    · exact k
  have hr1 : val a - val c * val qs < val c := by
    rw [e] at h1
    exact Int.lt_of_mul_lt_mul_left h1 (by omega)
  have e2 : val a = (val a - val c * val qs) + val c * val qs := by omega
  constructor
  · rw [e2, Int.add_mul_ediv_left _ _ (by omega), Int.ediv_eq_zero_of_lt hr0 hr1]; omega
  · rw [e, Int.mul_ediv_cancel_left _ (by omega)]
    conv => rhs; rw [e2]
    rw [Int.add_mul_emod_self_left, Int.emod_eq_of_lt hr0 hr1]
end Go.Proofs.YtkalknmindgljaaDoor
