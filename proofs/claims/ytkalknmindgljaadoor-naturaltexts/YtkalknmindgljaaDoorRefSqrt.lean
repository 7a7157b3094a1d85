/-
  The contract of filigreeref01.Sqrt.
-/
import Derived.BigRegion
import Derived.Test.YtkalknmindgljaaDoorSqrt
import Derived.Test.YtkalknmindgljaaDoorMade
import Derived.Test.YtkalknmindgljaaDoorRefMul
namespace Go.Proofs.YtkalknmindgljaaDoor
open Go Go.Proofs Go.RowKit Go.Shelf

theorem V_set (zs : List Int) (q : Nat) (v : Int) (n : Nat) (h : q < zs.length) (hn : q < n) : V (zs.set q v) n = V zs n + 2 ^ q * (v - nth zs q) := by
  induction n with
  | zero => omega
  | succ n ih =>
    simp only [V]
    by_cases c : q = n
    · subst c
      rw [nth_set_eq h, V_congr (x := zs.set q v) (y := zs) (fun j hj => nth_set_ne (by omega) v)]
      grind
    · rw [ih (by omega), nth_set_ne c]
      grind
/-- The root's loop: the bits from k on are found. -/
structure RootInv (A : Int) (rs : List Int) (N k : Nat) : Prop where
  len : rs.length = N
  bit : Bit rs
  low : ∀ j, j < k → nth rs j = 0
  le : V rs N * V rs N ≤ A
  lt : A < (V rs N + 2 ^ k) * (V rs N + 2 ^ k)
theorem RootInv.start {A : Int} {N : Nat} (h0 : 0 ≤ A) (h : A < 2 ^ N * 2 ^ N) : RootInv A (List.replicate N 0) N N :=
  ⟨by simp, Bit.zeros N, fun j _ => nth_replicate N j, by rw [V_zeros]; simpa using h0, by rw [V_zeros]; simpa using h⟩
theorem RootInv.try {A : Int} {rs : List Int} {N k : Nat} (h : RootInv A rs N (k + 1)) (hk : k < N) : V (rs.set k 1) N = V rs N + 2 ^ k ∧ Bit (rs.set k 1) := by
  refine ⟨?_, fun z hz => ?_⟩
  · rw [V_set _ _ _ _ (by rw [h.len]; exact hk) hk, h.low k (by omega)]; simp
  · rcases List.mem_or_eq_of_mem_set hz with h1 | rfl
    · exact h.bit z h1
    · exact .inr rfl
theorem RootInv.yes {A : Int} {rs : List Int} {N k : Nat} (h : RootInv A rs N (k + 1)) (hk : k < N) (hle : (V rs N + 2 ^ k) * (V rs N + 2 ^ k) ≤ A) : RootInv A (rs.set k 1) N k := by
  obtain ⟨e, b⟩ := h.try hk
  refine ⟨by rw [List.length_set]; exact h.len, b, fun j hj => ?_, by rw [e]; exact hle, ?_⟩
  · rw [nth_set_ne (by omega)]; exact h.low j (by omega)
  · rw [e, show V rs N + 2 ^ k + 2 ^ k = V rs N + 2 ^ (k + 1) by rw [Int.pow_succ]; omega]; exact h.lt
theorem RootInv.no {A : Int} {rs : List Int} {N k : Nat} (h : RootInv A rs N (k + 1)) (hgt : A < (V rs N + 2 ^ k) * (V rs N + 2 ^ k)) : RootInv A ((rs.set k 1).set k 0) N k := by
  have e : (rs.set k 1).set k 0 = rs := by
    refine ext_nth (by simp) (fun j hj => ?_)
    simp only [List.length_set] at hj
    by_cases c : k = j
    · subst c; rw [nth_set_eq (by simpa using hj), h.low k (by omega)]
    · rw [nth_set_ne c, nth_set_ne c]
  rw [e]
  exact ⟨h.len, h.bit, fun j hj => h.low j (by omega), h.le, hgt⟩
theorem RootInv.fin {A : Int} {rs : List Int} {N : Nat} (h : RootInv A rs N 0) : IsRoot A (V rs N) := ⟨(V_lt h.bit N).1, h.le, by simpa using h.lt⟩

set_option maxRecDepth 100000 in
set_option maxHeartbeats 2000000 in
theorem refSqrt_any {a : List Int} {w : World} {sa : Value} (hA : U32 w sa a) (da : Dig a) (ha : a.length ≤ 1000) :
    Calls Tryd.prog 27 #[sa] w fun e w' => ∃ sv r, e = .returned sv ∧ U32 w' sv (num r) ∧ IsRoot (val a) r ∧ Below w.heap.size w w' := by
  obtain ⟨i0, hi, hz0, hz1, hz2⟩ := info_parts info5
  have l1 : (bitsL a).length = 32 * a.length := bitsL_length a
  obtain ⟨N, hN⟩ : ∃ N, N = (bitsL a).length / 2 + 1 := ⟨_, rfl⟩
  have hN1 : N ≤ 16001 := by omega
  have hN0 : 0 < N := by omega
  have hst : RootInv (val a) (List.replicate N 0) N N := by
    refine RootInv.start (val_nonneg da) ?_
    rw [← Int.pow_add, ← V_bitsL a da]
    have h1 := (V_lt (bit_bitsL a) (32 * a.length)).2
    have h2 := pow2_le (show 32 * a.length ≤ N + N by omega)
    omega
  have eN : ((bitsL a).length : Int) / 2 + 1 = (N : Int) := by omega
  have HL : Hid ((bitsL a).length = 32 * a.length) := l1
  have hll : (bitsL a).length ≤ 32000 := by omega
  clear l1 hN
  obtain ⟨pa, ca, rfl⟩ := hA.len
  go_enter Tryd.func27, Tryd.ntmps27
  go_wp2_with fail
  refine (bits_any hA (by omega) da).mono ?_
  rintro e w1 ⟨s1, rfl, h1, hb1⟩
  obtain ⟨p1, c1, rfl⟩ := h1.len
  have hd1 : IntKind.i64.wrap (((bitsL a).length : Int).tdiv 2) = ((bitsL a).length : Int) / 2 := by rw [IntWalk.i64_quo _ _ ⟨by omega, by omega, by omega⟩]
  go_wp2_with (at_make; refine wpList_make_full _ rfl _ _ 49 rfl w1.heap.size 5 i0 (.int .u8 0) 1 Tryd.underlying49 hi hz0 hz1 .i64 .i64 _ _ N rfl rfl (by omega) (by omega) (by rw [hz2]; omega) (by unfold maxLen; omega) (Nat.le_refl _) ?_; intro w3 hown hgrow)
  have hrow := Row.made hown
  have hb3 : Below w1.heap.size w1 w3 := (Below.refl _ _).grown hgrow (Nat.le_refl _) (fun k e => by cases e)
  have hA3 := (hA.go hb1).go hb3
  clear hown hgrow h1
  go_loopw [4] (fun i wr => ∃ (k : Nat) (rs : List Int), k ≤ N ∧ i = .int .i64 ((k : Int) - 1) ∧ Row .u8 5 wr w1.heap.size rs ∧ Below w1.heap.size w3 wr ∧ RootInv (val a) rs N k) (fun i _ => (intOf i + 1).toNat)
  case atStart => exact ⟨N, _, Nat.le_refl _, rfl, hrow, Below.refl _ _, hst⟩
  case round =>
    obtain ⟨k, rs, hk, rfl, hr, hnx, hinv⟩ := hrel
    have lt1 := hr.lt
    by_cases hk0 : 0 < k
    · obtain ⟨m, rfl⟩ : ∃ m, k = m + 1 := ⟨k - 1, by omega⟩
      have em : (((m + 1 : Nat) : Int) - 1) = (m : Int) := by omega
      rw [em]
      have hmN : m < N := by omega
      have hcl := hr.cell (j := m) (by rw [hinv.len]; exact hmN)
      have hfr := hr.frozen m
      have hr1 := hr.set m 1
      have hb4 : Below w1.heap.size w3 (wr.setCell ⟨w1.heap.size, m, none⟩ (.int .u8 1)) := hnx.setCell (p := ⟨w1.heap.size, m, none⟩) (Nat.le_refl _) _
      obtain ⟨eV, bV⟩ := hinv.try hmN
      have hseg := hr1.seg
      have hl1 : (rs.set m 1).length = N := by rw [List.length_set]; exact hinv.len
      rw [hl1] at hseg
      obtain ⟨X, hX⟩ : ∃ X, X = V (rs.set m 1) N := ⟨_, rfl⟩
      have hX0 : 0 ≤ X ∧ X < pB 501 := by
        have k1 := V_lt bV N
        have k2 := pow2_le (show N ≤ 32 * 501 by omega)
        rw [← pB_two] at k2
        omega
      have hXX : 0 ≤ X * X ∧ X * X < pB 1002 := ⟨Int.mul_nonneg hX0.1 hX0.1, by rw [show (1002 : Nat) = 501 + 501 from rfl, pB_add]; exact mul_lt hX0 hX0⟩
      have hn1 := num_len hX0.2
      have hn2 := num_len hXX.2
      have hv1 := num_val hX0.1
      have hv2 := num_val hXX.1
      have HX : Hid (X = V (rs.set m 1) N) := hX
      have HV : Hid (V (rs.set m 1) N = V rs N + 2 ^ m) := eV
      have HL1 : Hid ((rs.set m 1).length = N) := hl1
      have HI : Hid (RootInv (val a) rs N (m + 1)) := hinv
      have HH : Hid _ := hnx
      clear hX eV hl1 hinv
      go_wp2_with fail
      refine (limbs_any hseg bV (by rw [HL1.out]; omega)).mono ?_
      rintro e w5 ⟨s5, rfl, h5, hb5⟩
      rw [HL1.out, ← HX.out] at h5
      have hrow5 := Row.go hr1 hb5
      have hbl5 : Below w1.heap.size w3 w5 := hb4.trans (hb5.mono (by simp; omega))
      clear hr hr1 hb4 hb5 hseg hcl hfr
      go_wp2_with fail
      refine (refMul_any h5 h5 (num_dig _) (num_dig _) (by omega) (by omega)).mono ?_
      rintro e w6 ⟨s6, rfl, h6, hb6⟩
      rw [hv1] at h6
      have hA5 : U32 w5 (.slice pa a.length ca) a := (hA.go hb1).go (hb3.trans hbl5)
      go_wp2_with fail
      refine (refCmp_any h6 (hA5.go hb6) (num_dig _) da (by omega) (by omega)).mono ?_
      rintro e w7 ⟨rfl, hb7⟩
      rw [hv2]
      have hb57 := hb6.trans (hb7.mono hb6.size)
      have hrow7 := Row.go hrow5 hb57
      have lt5 := hrow5.lt
      have hbl7 : Below w1.heap.size w3 w7 := hbl5.trans (hb57.mono (by omega))
      clear hb6 hb7 hb57 hbl5 hrow5 hA5 h5 h6 hnx HH hn1 hn2 hv1 hv2
      by_cases hgt : val a < X * X
      · rw [cmpI_gt hgt]
        have hstep := HI.out.no (by rw [← HV.out, ← HX.out]; exact hgt)
        have hc7 := hrow7.cell (j := m) (by rw [HL1.out]; exact hmN)
        have hf7 := hrow7.frozen m
        go_wp2
        go_roundw
        case rel => exact ⟨m, _, by omega, by go_num, hrow7.set _ _, hbl7.setCell (p := ⟨w1.heap.size, m, none⟩) (Nat.le_refl _) _, hstep⟩
        case measure => simp [intOf]
      · have hcc : cmpI (X * X) (val a) ≤ 0 := by unfold cmpI; split <;> (try split) <;> omega
        have hstep := HI.out.yes hmN (by rw [← HV.out, ← HX.out]; omega)
        generalize cmpI (X * X) (val a) = cc at *
        clear hgt
        go_wp2
        go_roundw
        case rel => exact ⟨m, _, by omega, by go_num, hrow7, hbl7, hstep⟩
        case measure => simp [intOf]
    · obtain rfl : k = 0 := by omega
      have hfin := hinv.fin
      have hl0 := hinv.len
      have hb0 := hinv.bit
      have hseg := hr.seg
      rw [hl0] at hseg
      have HF : Hid (IsRoot (val a) (V rs N)) := hfin
      have HL1 : Hid (rs.length = N) := hl0
      clear hfin hl0 hinv
      go_wp2_with fail
      refine (limbs_any hseg hb0 (by rw [HL1.out]; omega)).mono ?_
      rintro e w5 ⟨s5, rfl, h5, hb5⟩
      rw [HL1.out] at h5
      go_wp2
      go_ret
      have hbl := hb1.trans ((hb3.trans hnx).mono hb1.size)
      exact ⟨_, _, rfl, h5, HF.out, hbl.trans (hb5.mono hbl.size)⟩

end Go.Proofs.YtkalknmindgljaaDoor
