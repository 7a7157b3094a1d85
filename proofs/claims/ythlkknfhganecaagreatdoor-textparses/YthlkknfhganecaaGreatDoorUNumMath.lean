/-
  Plain mathematics: which texts are numbers. No Go in it.
-/
import Derived.Lib.ParseIntBCases
import Derived.Lib.ItoaLen
import Derived.Test.YthlkknfhganecaaGreatDoorUNum
namespace Go.Proofs.YthlkknfhganecaaGreatDoor
open Go

def dvL (l : List UInt8) : Int := l.foldl (fun a b => a * 10 + ((b.toNat : Int) - 48)) 0
def digL (l : List UInt8) : Prop := ∀ b ∈ l, 48 ≤ b.toNat ∧ b.toNat ≤ 57
theorem dvL_snoc (l : List UInt8) (b : UInt8) : dvL (l ++ [b]) = dvL l * 10 + ((b.toNat : Int) - 48) := by simp [dvL]
theorem dec_small {n : Nat} (h : n < 10) : Lib.decDigits n = [UInt8.ofNat (48 + n)] := Lib.decDigits_one h
theorem dec_big {n : Nat} (h : 10 ≤ n) : Lib.decDigits n = Lib.decDigits (n / 10) ++ [UInt8.ofNat (48 + n % 10)] := by rw [Lib.decDigits, dif_neg (by omega)]
theorem dig_byte {d : Nat} (h : d < 10) : (UInt8.ofNat (48 + d)).toNat = 48 + d := by
  rw [UInt8.toNat_ofNat']
  exact Nat.mod_eq_of_lt (by omega)
theorem dec_value (n : Nat) : dvL (Lib.decDigits n) = n ∧ digL (Lib.decDigits n) := by
  induction n using Nat.strongRecOn with
  | ind n ih =>
    by_cases h : n < 10
    · rw [dec_small h]
      have := dig_byte h
      refine ⟨?_, fun b hb => ?_⟩
      · simp only [dvL, List.foldl_cons, List.foldl_nil]
        omega
      · rw [List.mem_singleton.1 hb]
        omega
    · obtain ⟨h1, h2⟩ := ih (n / 10) (by omega)
      have hd := dig_byte (d := n % 10) (by omega)
      rw [dec_big (by omega)]
      refine ⟨?_, fun b hb => ?_⟩
      · rw [dvL_snoc, h1]
        omega
      · rcases List.mem_append.1 hb with hb | hb
        · exact h2 b hb
        · rw [List.mem_singleton.1 hb]
          omega
theorem head_app {x y : List UInt8} (h : x ≠ []) : (x ++ y).head? = x.head? := by
  cases x with
  | nil => exact absurd rfl h
  | cons => rfl
/-- The first byte is no nought, or the numeral is that of 0. -/
def noLead (l : List UInt8) : Prop := l ≠ [] ∧ (l.head?.map UInt8.toNat ≠ some 48)
theorem dec_lead {n : Nat} (h : 1 ≤ n) : noLead (Lib.decDigits n) := by
  induction n using Nat.strongRecOn with
  | ind n ih =>
    by_cases h10 : n < 10
    · rw [dec_small h10]
      have := dig_byte h10
      refine ⟨by simp, ?_⟩
      simp only [List.head?_cons, Option.map_some]
      intro e
      have := Option.some.inj e
      omega
    · obtain ⟨h1, h2⟩ := ih (n / 10) (by omega) (by omega)
      rw [dec_big (by omega)]
      refine ⟨by simp, ?_⟩
      rw [head_app h1]
      exact h2
theorem back_dec {l : List UInt8} (hd : digL l) (hn : noLead l) : 1 ≤ dvL l ∧ Lib.decDigits (dvL l).toNat = l := by
  have key : ∀ (k : Nat) (l : List UInt8), l.length = k → digL l → noLead l → 1 ≤ dvL l ∧ Lib.decDigits (dvL l).toNat = l := by
    intro k
    induction k with
    | zero => intro l hl _ hn; exact absurd (List.eq_nil_of_length_eq_zero hl) hn.1
    | succ k ih =>
      intro l hl hd hn
      obtain ⟨l', b, rfl⟩ : ∃ l' b, l = l' ++ [b] := ⟨l.dropLast, l.getLast hn.1, (List.dropLast_concat_getLast hn.1).symm⟩
      have hb := hd b (by simp)
      have hbb : UInt8.ofNat (48 + (b.toNat - 48)) = b := by rw [show 48 + (b.toNat - 48) = b.toNat by omega]; exact UInt8.ofNat_toNat
      rw [dvL_snoc]
      by_cases h0 : l' = []
      · subst h0
        have hb1 : b.toNat ≠ 48 := by
          intro e
          apply hn.2
          simp [e]
        have e0 : dvL [] = 0 := rfl
        rw [e0]
        refine ⟨by omega, ?_⟩
        rw [show (0 * 10 + ((b.toNat : Int) - 48)).toNat = b.toNat - 48 by omega, dec_small (by omega), hbb]
        rfl
      · have hn' : noLead l' := ⟨h0, by have := hn.2; rwa [head_app h0] at this⟩
        obtain ⟨h1, h2⟩ := ih l' (by simpa using hl) (fun c hc => hd c (by simp [hc])) hn'
        refine ⟨by omega, ?_⟩
        have e1 : (dvL l' * 10 + ((b.toNat : Int) - 48)).toNat = (dvL l').toNat * 10 + (b.toNat - 48) := by omega
        rw [e1, dec_big (by omega), show ((dvL l').toNat * 10 + (b.toNat - 48)) / 10 = (dvL l').toNat by omega, show ((dvL l').toNat * 10 + (b.toNat - 48)) % 10 = b.toNat - 48 by omega, h2, hbb]
  exact key l.length l rfl hd hn

/-! ### What ParseInt reads -/
def valN (acc : Nat) (l : List UInt8) : Nat := l.foldl (fun a b => a * 10 + (b.toNat - 48)) acc
theorem valN_cons (acc : Nat) (c : UInt8) (r : List UInt8) : valN acc (c :: r) = valN (acc * 10 + (c.toNat - 48)) r := by unfold valN; rw [List.foldl_cons]
theorem valN_le : ∀ (r : List UInt8) (acc : Nat), acc ≤ valN acc r
  | [], acc => Nat.le_refl _
  | c :: r, acc => by rw [valN_cons]; have := valN_le r (acc * 10 + (c.toNat - 48)); omega
theorem valN_dvL {l : List UInt8} (h : digL l) : (valN 0 l : Int) = dvL l := by
  have key : ∀ (l : List UInt8) (a : Nat), digL l → ((valN a l : Nat) : Int) = l.foldl (fun a b => a * 10 + ((b.toNat : Int) - 48)) (a : Int) := by
    intro l
    induction l with
    | nil => intro a _; rfl
    | cons c r ih =>
      intro a hd
      have hc := hd c (List.mem_cons_self ..)
      rw [valN_cons, ih _ (fun b hb => hd b (List.mem_cons_of_mem _ hb)), List.foldl_cons]
      congr 1
      omega
  exact key l 0 h
theorem parse_digits (M : Nat) (hM : M ≤ 18446744073709551615) (r : List UInt8) : ∀ acc, digL r → valN acc r ≤ M → Lib.parseUintM M acc r = .ok (valN acc r) := by
  induction r with
  | nil => intro acc _ _; rfl
  | cons c r ih =>
    intro acc hd hv
    have hc := hd c (List.mem_cons_self ..)
    rw [valN_cons] at hv ⊢
    have hle := valN_le r (acc * 10 + (c.toNat - 48))
    rw [Lib.parseUintM, if_pos hc, if_neg (by omega), if_neg (by omega)]
    exact ih _ (fun b hb => hd b (List.mem_cons_of_mem _ hb)) hv
theorem parse_uint {t : List UInt8} (hd : digL t) (hn : t ≠ []) (hv : dvL t ≤ 18446744073709551615) : Lib.parseUintB 64 t = .ok (valN 0 t) := by
  have h1 := valN_dvL hd
  have hM : (2 ^ 64 - 1 : Nat) = 18446744073709551615 := by decide
  unfold Lib.parseUintB
  rw [if_neg hn, hM]
  exact parse_digits _ (Nat.le_refl _) t 0 hd (by omega)

/-! ### The definition's numbers -/
def digB (l : List UInt8) : Bool := l.all fun b => decide (48 ≤ b.toNat ∧ b.toNat ≤ 57)
theorem digB_iff {l : List UInt8} : digB l = true ↔ digL l := by simp [digB, digL]
def negB (l : List UInt8) : Bool := l.head? == some 45
def tailN (l : List UInt8) : List UInt8 := if negB l = true then l.drop 1 else l
def shapeB (neg : Bool) (t : List UInt8) : Bool := decide (t = []) || decide (19 < t.length) || (decide (t.head? = some 48) && (decide (1 < t.length) || neg))
def lastO (neg : Bool) (v : Int) : Option Int := if neg = true then (if v ≤ 9223372036854775808 then some (-v) else none) else if v ≤ 9223372036854775807 then some v else none
def refO (l : List UInt8) : Option Int := if shapeB (negB l) (tailN l) = true then none else if digB (tailN l) = true then lastO (negB l) (dvL (tailN l)) else none
theorem shape_ok {neg : Bool} {t : List UInt8} (h : shapeB neg t = false) : t ≠ [] ∧ t.length ≤ 19 ∧ (t = [48] ∧ neg = false ∨ t.head? ≠ some 48) := by
  simp only [shapeB, Bool.or_eq_false_iff, Bool.and_eq_false_iff, decide_eq_false_iff_not] at h
  obtain ⟨⟨h1, h2⟩, h3⟩ := h
  refine ⟨h1, by omega, ?_⟩
  rcases h3 with h3 | ⟨h3, h4⟩
  · exact .inr h3
  · by_cases hh : t.head? = some 48
    · left
      refine ⟨?_, h4⟩
      match t, h1, hh, h3 with
      | c :: r, _, hh, h3 =>
        have hr : r = [] := List.eq_nil_of_length_eq_zero (by simp only [List.length_cons] at h3; omega)
        subst hr
        simpa using hh
    · exact .inr hh
theorem lead_of {t : List UInt8} (h1 : t ≠ []) (h2 : t.head? ≠ some 48) : noLead t := by
  refine ⟨h1, fun e => h2 ?_⟩
  match t, h1 with
  | c :: r, _ =>
    simp only [List.head?_cons, Option.map_some, Option.some.injEq] at e ⊢
    exact UInt8.toNat_inj.1 (by rw [e]; rfl)
theorem dv_bound : ∀ (t : List UInt8), digL t → 0 ≤ dvL t ∧ dvL t < 10 ^ t.length := by
  intro t
  have key : ∀ (k : Nat) (t : List UInt8), t.length = k → digL t → 0 ≤ dvL t ∧ dvL t < 10 ^ k := by
    intro k
    induction k with
    | zero => intro t ht _; obtain rfl := List.eq_nil_of_length_eq_zero ht; exact ⟨by decide, by decide⟩
    | succ k ih =>
      intro t ht hd
      have hne : t ≠ [] := fun e => by subst e; simp at ht
      obtain ⟨l', b, rfl⟩ : ∃ l' b, t = l' ++ [b] := ⟨t.dropLast, t.getLast hne, (List.dropLast_concat_getLast hne).symm⟩
      have hb := hd b (by simp)
      obtain ⟨h1, h2⟩ := ih l' (by simpa using ht) (fun c hc => hd c (by simp [hc]))
      rw [dvL_snoc, Int.pow_succ]
      omega
  exact key t.length t rfl
theorem dv19 {t : List UInt8} (hd : digL t) (hl : t.length ≤ 19) : 0 ≤ dvL t ∧ dvL t < 10000000000000000000 := by
  obtain ⟨h1, h2⟩ := dv_bound t hd
  refine ⟨h1, Int.lt_of_lt_of_le h2 ?_⟩
  have : (10 : Int) ^ t.length ≤ 10 ^ 19 := by
    have h := Nat.pow_le_pow_right (n := 10) (by omega) hl
    exact_mod_cast h
  simpa using this
theorem dec_of_shape {neg : Bool} {t : List UInt8} (hs : shapeB neg t = false) (hd : digL t) : Lib.decDigits (dvL t).toNat = t := by
  obtain ⟨h1, h2, h3⟩ := shape_ok hs
  rcases h3 with ⟨rfl, _⟩ | h3
  · have : dvL [48] = 0 := by decide
    rw [this, dec_small (by decide)]; rfl
  · exact (back_dec hd (lead_of h1 h3)).2

theorem itoa_pos {v : Int} (h : 0 ≤ v) : Lib.itoa v = Lib.decDigits v.toNat := by unfold Lib.itoa; rw [if_neg (by omega)]
theorem itoa_neg {v : Int} (h : v < 0) : Lib.itoa v = 45 :: Lib.decDigits v.natAbs := by unfold Lib.itoa; rw [if_pos h]
/-- What the definition calls a number is what ParseInt reads, and FormatInt writes. -/
theorem ref_num {l : List UInt8} {v : Int} (h : refO l = some v) : Lib.parseIntB 64 l = .ok v ∧ Lib.itoa v = l := by
  unfold refO at h
  have hC : (2 ^ (64 - 1) : Nat) = 9223372036854775808 := by decide
  generalize ht0 : tailN l = t at h
  generalize hn0 : negB l = neg at h
  cases hs : shapeB neg t with
  | true => rw [hs, if_pos rfl] at h; cases h
  | false =>
    rw [hs, if_neg (by simp)] at h
    cases hdb : digB t with
    | false => rw [hdb, if_neg (by simp)] at h; cases h
    | true =>
      rw [hdb, if_pos rfl] at h
      have hd := digB_iff.1 hdb
      obtain ⟨h1, h2, h3⟩ := shape_ok hs
      have hdec := dec_of_shape hs hd
      obtain ⟨hv0, hv1⟩ := dv19 hd h2
      have hval := valN_dvL hd
      have hpu := parse_uint hd h1 (by omega)
      cases neg with
      | true =>
        have hl : l = 45 :: t := by
          rw [← ht0]
          unfold tailN
          rw [hn0, if_pos rfl]
          match l, hn0 with
          | [], hn => simp [negB] at hn
          | c :: r, hn => simp [negB] at hn; simp [hn]
        clear ht0 hn0
        subst hl
        have hlead : t.head? ≠ some 48 := by
          rcases h3 with ⟨_, h3⟩ | h3
          · cases h3
          · exact h3
        have hpos := (back_dec hd (lead_of h1 hlead)).1
        simp only [lastO, if_true] at h
        split at h
        · cases h
          constructor
          · rw [Lib.parseIntB_minus, hpu]
            simp only [Lib.signedC]
            rw [if_neg (by omega), hval]
          · rw [itoa_neg (by omega), show (-(dvL t)).natAbs = (dvL t).toNat by omega, hdec]
        · cases h
      | false =>
        have hl : l = t := by
          rw [← ht0]
          unfold tailN
          rw [hn0, if_neg (by simp)]
        clear ht0 hn0
        subst hl
        simp only [lastO, Bool.false_eq_true, if_false] at h
        split at h
        · cases h
          refine ⟨?_, by rw [itoa_pos hv0, hdec]⟩
          obtain ⟨c, r, rfl⟩ : ∃ c r, l = c :: r := by
            cases l with
            | nil => exact absurd rfl h1
            | cons c r => exact ⟨c, r, rfl⟩
          have hc := hd c (List.mem_cons_self ..)
          rw [Lib.parseIntB_plain _ _ _ (by omega) (by omega), hpu]
          simp only [Lib.signlessC]
          rw [if_neg (by omega), hval]
        · cases h
theorem dec_len {n : Nat} (h : n < 10000000000000000000) : (Lib.decDigits n).length ≤ 19 := by
  rw [Lib.decDigits_length]
  apply Nat.le_of_not_lt
  intro hlt
  have key : ∀ (k n : Nat), k < Lib.nDigits n → k = 0 ∨ 10 ^ k ≤ n := by
    intro k
    induction k with
    | zero => intro n _; exact .inl rfl
    | succ k ih =>
      intro n hk
      right
      by_cases h10 : n < 10
      · rw [Lib.nDigits_small h10] at hk; omega
      · rw [Lib.nDigits_big h10] at hk
        rcases ih (n / 10) (by omega) with rfl | h
        · simp; omega
        · rw [Nat.pow_succ]; omega
  rcases key 19 n hlt with h0 | h0
  · omega
  · have : (10 : Nat) ^ 19 = 10000000000000000000 := by decide
    omega
theorem dec_shape {n : Nat} (h : n < 10000000000000000000) (neg : Bool) (hn : neg = true → 1 ≤ n) : shapeB neg (Lib.decDigits n) = false := by
  have hl := dec_len h
  have hdv := dec_value n
  simp only [shapeB, Bool.or_eq_false_iff, Bool.and_eq_false_iff, decide_eq_false_iff_not]
  by_cases h0 : n = 0
  · subst h0
    have e : Lib.decDigits 0 = [48] := by rw [dec_small (by decide)]; rfl
    rw [e]
    refine ⟨⟨by simp, by simp⟩, .inr ⟨by simp, ?_⟩⟩
    cases neg with
    | false => rfl
    | true => have := hn rfl; omega
  · obtain ⟨h1, h2⟩ := dec_lead (n := n) (by omega)
    refine ⟨⟨h1, by omega⟩, .inl fun e => h2 ?_⟩
    rw [e]; rfl
theorem num_ref {v : Int} (h0 : -9223372036854775808 ≤ v) (h1 : v ≤ 9223372036854775807) : refO (Lib.itoa v) = some v := by
  by_cases hv : v < 0
  · rw [itoa_neg hv]
    have hn : negB (45 :: Lib.decDigits v.natAbs) = true := by simp [negB]
    have ht : tailN (45 :: Lib.decDigits v.natAbs) = Lib.decDigits v.natAbs := by unfold tailN; rw [hn, if_pos rfl]; rfl
    obtain ⟨hd1, hd2⟩ := dec_value v.natAbs
    unfold refO
    rw [hn, ht, dec_shape (by omega) true (fun _ => by omega), if_neg (by simp), digB_iff.2 hd2, if_pos rfl, hd1]
    simp only [lastO, if_true]
    rw [if_pos (by omega)]
    congr 1
    omega
  · rw [itoa_pos (by omega)]
    obtain ⟨hd1, hd2⟩ := dec_value v.toNat
    have hn : negB (Lib.decDigits v.toNat) = false := by
      cases hl : Lib.decDigits v.toNat with
      | nil => rfl
      | cons c r =>
        have hc := hd2 c (by rw [hl]; exact List.mem_cons_self ..)
        simp only [negB, List.head?_cons]
        rw [beq_eq_false_iff_ne]
        intro e
        have e2 : c = 45 := Option.some.inj e
        rw [e2] at hc
        exact absurd hc (by decide)
    have ht : tailN (Lib.decDigits v.toNat) = Lib.decDigits v.toNat := by unfold tailN; rw [hn, if_neg (by simp)]
    unfold refO
    rw [hn, ht, dec_shape (by omega) false (fun h => by cases h), if_neg (by simp), digB_iff.2 hd2, if_pos rfl, hd1]
    simp only [lastO, Bool.false_eq_true, if_false]
    rw [if_pos (by omega)]
    congr 1
    omega
theorem numO_ref (s : ByteArray) : numO s = refO s.data.toList := by
  cases h2 : refO s.data.toList with
  | some v =>
    obtain ⟨h3, h4⟩ := ref_num h2
    unfold numO
    rw [h3]
    simp [h4]
  | none =>
    cases h1 : numO s with
    | none => rfl
    | some v =>
      unfold numO at h1
      split at h1
      · rename_i u hu
        split at h1
        · rename_i hi
          cases h1
          obtain ⟨r0, r1⟩ := parse_range hu
          have := num_ref r0 r1
          rw [hi, h2] at this
          cases this
        · cases h1
      · cases h1

end Go.Proofs.YthlkknfhganecaaGreatDoor
