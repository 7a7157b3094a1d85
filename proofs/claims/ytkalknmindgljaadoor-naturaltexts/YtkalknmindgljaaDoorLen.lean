/-
  The contract of natural.aboveRoot.
-/
import Derived.Test.YtkalknmindgljaaDoorShelf
import Derived.Test.YtkalknmindgljaaDoorTrimB
import Derived.Test.YtkalknmindgljaaDoorMul
namespace Go.Proofs.YtkalknmindgljaaDoor
open Go Go.Proofs Go.RowKit Go.Shelf

theorem bitLen_bounds (x : Nat) (h : x < 4294967296) : (x ≠ 0 → 2 ^ (Lib.bitLen x) ≤ 2 * x) ∧ x < 2 ^ Lib.bitLen x ∧ Lib.bitLen x ≤ 32 := by
  have key : ∀ k x : Nat, x < 2 ^ k → k ≤ 63 → (x ≠ 0 → 2 ^ (Lib.bitLen x) ≤ 2 * x) ∧ x < 2 ^ Lib.bitLen x ∧ Lib.bitLen x ≤ k := by
    intro k
    induction k with
    | zero => intro x hx _; obtain rfl : x = 0 := by simpa using hx
              exact ⟨fun h => absurd rfl h, by decide, by decide⟩
    | succ k ih =>
      intro x hx hk
      by_cases h0 : x = 0
      · subst h0; exact ⟨fun h => absurd rfl h, by decide, by have : Lib.bitLen 0 = 0 := by decide
                                                              omega⟩
      · have hp : 2 ^ (k + 1) ≤ 2 ^ 64 := Nat.pow_le_pow_right (by omega) (by omega)
        obtain ⟨h1, h2, h3⟩ := ih (x / 2) (by rw [Nat.pow_succ] at hx; omega) (by omega)
        rw [Lib.bitLen_half x h0 (by omega), Nat.add_comm, Nat.pow_succ]
        refine ⟨fun _ => ?_, by omega, by omega⟩
        by_cases hx2 : x / 2 = 0
        · have : Lib.bitLen (x / 2) = 0 := by rw [hx2]; decide
          rw [this]; omega
        · have := h1 hx2; omega
  exact key 32 x (by simpa using h) (by omega)

theorem pB_two (n : Nat) : pB n = 2 ^ (32 * n) := by unfold pB; rw [Int.pow_mul]; rfl
theorem pow2_le {a b : Nat} (h : a ≤ b) : (2 : Int) ^ a ≤ 2 ^ b := by
  obtain ⟨t, rfl⟩ := Nat.exists_eq_add_of_le h
  rw [Int.pow_add]
  have h1 := pow_pos2 a
  have h2 := pow_pos2 t
  have := Int.mul_le_mul_of_nonneg_left (show (1 : Int) ≤ 2 ^ t by omega) (show 0 ≤ (2 : Int) ^ a by omega)
  omega
theorem pow16_pB (n : Nat) : (2 : Int) ^ (16 * n) ≤ pB n := by rw [pB_two]; exact pow2_le (by omega)
theorem pow2_mod {s : Nat} (h : s < 32) : (2 : Int) ^ s % 4294967296 = 2 ^ s := by
  refine Int.emod_eq_of_lt (Int.le_of_lt (pow_pos2 s)) ?_
  have : (2 : Int) ^ s < 2 ^ 32 := Int.pow_lt_pow_of_lt (by omega) h
  simpa using this
theorem power_val (E : Nat) : val ((List.replicate (E / 32 + 1) (0 : Int)).set (E / 32) (2 ^ (E % 32) % 4294967296)) = 2 ^ E := by
  rw [← U_val, List.length_set, List.length_replicate, U_set_succ (by simp), U_zero (fun j _ => nth_replicate _ j), pow2_mod (Nat.mod_lt _ (by omega)), pB_two, ← Int.pow_add, Nat.div_add_mod]
  omega
theorem power_dig (E : Nat) : Dig ((List.replicate (E / 32 + 1) (0 : Int)).set (E / 32) (2 ^ (E % 32) % 4294967296)) := (Dig.replicate _).set _ ⟨Int.emod_nonneg _ (by omega), Int.emod_lt_of_pos _ (by omega)⟩
theorem power_norm (E : Nat) : (List.replicate (E / 32 + 1) (0 : Int)).set (E / 32) (2 ^ (E % 32) % 4294967296) = num (2 ^ E) := by
  have h1 := power_val E
  have h2 := trimL_num (power_dig E)
  have h3 : nth ((List.replicate (E / 32 + 1) (0 : Int)).set (E / 32) (2 ^ (E % 32) % 4294967296)) (E / 32) ≠ 0 := by
    rw [nth_set_eq (by simp), pow2_mod (Nat.mod_lt _ (by omega))]
    have := pow_pos2 (E % 32)
    omega
  have h4 := trimL_take _ (E / 32) (by simp) h3 (fun j h1 h2 => by simp at h2; omega)
  rw [List.take_of_length_le (by simp)] at h4
  rw [← h1, ← h2, h4]
theorem power_above {a : List Int} {m B E : Nat} (da : Dig a) (hm : a.length = m + 1) (hB : (nth a m).toNat < 2 ^ B) (hE : E = (m * 32 + B + 1) / 2) : val a < 2 ^ E * 2 ^ E := by
  have h1 : val a = U a m + pB m * nth a m := by rw [← U_val, hm]; rfl
  have h2 := (U_lt da m).2
  have h3 := pB_pos m
  have hg := da.get m
  have h4 : nth a m + 1 ≤ 2 ^ B := by
    have : ((nth a m).toNat : Int) < ((2 ^ B : Nat) : Int) := by exact_mod_cast hB
    rw [Int.natCast_pow] at this
    have e : ((nth a m).toNat : Int) = nth a m := by omega
    rw [e] at this
    exact this
  have h5 : pB m * (nth a m + 1) ≤ pB m * 2 ^ B := Int.mul_le_mul_of_nonneg_left h4 (by omega)
  rw [Int.mul_add] at h5
  have h6 : pB m * 2 ^ B = 2 ^ (32 * m + B) := by rw [pB_two, Int.pow_add]
  have h7 : (2 : Int) ^ (32 * m + B) ≤ 2 ^ (E + E) := pow2_le (by omega)
  rw [Int.pow_add 2 E E] at h7
  omega

set_option maxRecDepth 100000 in
set_option maxHeartbeats 1000000 in
theorem aboveRoot_any {a : List Int} {w : World} {sa : Value} (hA : U32 w sa a) (da : Dig a) (hn : trimL a = a) (h0 : 0 < a.length) (ha : a.length ≤ 1048576) :
    Calls Tryd.prog 47 #[sa] w fun e w' => ∃ sv r, e = .returned sv ∧ U32 w' sv (num r) ∧ (num r).length ≤ a.length + 1 ∧ 0 < r ∧ val a < r * r ∧ r ≤ 2 ^ (16 * a.length) ∧ Below w.heap.size w w' := by
  obtain ⟨i0, hi, hz0, hz1, hz2⟩ := info_parts info42
  obtain ⟨b, off, cap, rfl, hb, hl, hc⟩ := hA.pos h0
  obtain ⟨m, hm⟩ : ∃ m, a.length = m + 1 := ⟨a.length - 1, by omega⟩
  have hcx := hc m (by omega)
  have hg := da.get m
  obtain ⟨t1, t2, t3⟩ := bitLen_bounds (nth a m).toNat (by omega)
  generalize hB : Lib.bitLen (nth a m).toNat = B at *
  have HB : Hid (Lib.bitLen (nth a m).toNat = B) := hB
  clear hB
  rw [hm]
  have hm3 : m < 1048576 := by omega
  have HM : Hid (a.length = m + 1) := hm
  have HN : Hid (trimL a = a) := hn
  clear hm hn h0 ha hl
  obtain ⟨E, hE⟩ : ∃ E, E = (m * 32 + B + 1) / 2 := ⟨_, rfl⟩
  have eE : ((m : Int) * 32 + (B : Int) + 1) / 2 = (E : Int) := by omega
  have HE : Hid (E = (m * 32 + B + 1) / 2) := hE
  have hE1 : E ≤ 16777216 := by omega
  clear hE
  go_enter Tryd.func47, Tryd.ntmps47
  go_wp2_with (first | (go_at_call 65; refine (Tryd.bits_Len32 _ _ hg.1 (by omega)).mono ?_; rintro e w' ⟨rfl, rfl⟩; rw [HB.out]) | (at_make; refine wpList_make_full _ rfl _ _ 23 rfl w'.heap.size 42 i0 (.int .u32 0) 1 Tryd.underlying23 hi hz0 hz1 .i64 .i64 _ _ (E / 32 + 1) rfl rfl (by omega) (by omega) (by rw [hz2]; omega) (by unfold maxLen; omega) (Nat.le_refl _) ?_; intro w3 hown hgrow; have hrow := Row.made hown; have hcl := hrow.cell (j := E / 32) (by simp); have hfr := hrow.frozen (E / 32)))
  go_ret
  have hset := hrow.set (E / 32) (2 ^ (E % 32) % 4294967296)
  have hseg := hset.seg
  rw [List.length_set, List.length_replicate] at hseg
  have hbw : Below w'.heap.size w' w3 := (Below.refl _ _).grown hgrow (Nat.le_refl _) (fun k e => by cases e)
  have hEv := HE.out
  rw [power_norm] at hseg
  refine ⟨_, 2 ^ E, rfl, hseg, by rw [← power_norm]; simp; omega, pow_pos2 E, power_above da HM.out t2 HE.out, ?_, hbw.setCell (p := ⟨w'.heap.size, E / 32, none⟩) (Nat.le_refl _) _⟩
  exact pow2_le (by omega)

end Go.Proofs.YtkalknmindgljaaDoor
