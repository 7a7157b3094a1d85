/-
  Plain mathematics: numerals tell their numbers, and numbers their numerals. No Go in it.
-/
import Derived.Test.YtkalknmindgljabDoorParse
namespace Go.Proofs.YtkalknmindgljabDoor
open Go

theorem dig_byte {d : Nat} (h : d < 10) : (UInt8.ofNat (48 + d)).toNat = 48 + d := by
  rw [UInt8.toNat_ofNat']
  exact Nat.mod_eq_of_lt (by omega)
theorem dec_value (n : Nat) : dvL (Lib.decDigits n) = n ∧ digL (Lib.decDigits n) := by
  induction n using Nat.strongRecOn with
  | ind n ih =>
    by_cases h : n < 10
    · rw [dec_small h]
      have := dig_byte h
      refine ⟨?_, fun b hb => ?_⟩
      · simp only [dvL, List.foldl_cons, List.foldl_nil]
        omega
      · rw [List.mem_singleton.1 hb]
        omega
    · obtain ⟨h1, h2⟩ := ih (n / 10) (by omega)
      have hd := dig_byte (d := n % 10) (by omega)
      rw [dec_big (by omega)]
      refine ⟨?_, fun b hb => ?_⟩
      · rw [dvL_snoc, h1]
        omega
      · rcases List.mem_append.1 hb with hb | hb
        · exact h2 b hb
        · rw [List.mem_singleton.1 hb]
          omega
theorem head_app {x y : List UInt8} (h : x ≠ []) : (x ++ y).head? = x.head? := by
  cases x with
  | nil => exact absurd rfl h
  | cons => rfl
/-- The first byte is no nought, or the numeral is that of 0. -/
def noLead (l : List UInt8) : Prop := l ≠ [] ∧ (l.head?.map UInt8.toNat ≠ some 48)
theorem dec_lead {n : Nat} (h : 1 ≤ n) : noLead (Lib.decDigits n) := by
  induction n using Nat.strongRecOn with
  | ind n ih =>
    by_cases h10 : n < 10
    · rw [dec_small h10]
      have := dig_byte h10
      refine ⟨by simp, ?_⟩
      simp only [List.head?_cons, Option.map_some]
      intro e
      have := Option.some.inj e
      omega
    · obtain ⟨h1, h2⟩ := ih (n / 10) (by omega) (by omega)
      rw [dec_big (by omega)]
      refine ⟨by simp, ?_⟩
      rw [head_app h1]
      exact h2
theorem back_dec {l : List UInt8} (hd : digL l) (hn : noLead l) : 1 ≤ dvL l ∧ Lib.decDigits (dvL l).toNat = l := by
  have key : ∀ (k : Nat) (l : List UInt8), l.length = k → digL l → noLead l → 1 ≤ dvL l ∧ Lib.decDigits (dvL l).toNat = l := by
    intro k
    induction k with
    | zero => intro l hl _ hn; exact absurd (List.eq_nil_of_length_eq_zero hl) hn.1
    | succ k ih =>
      intro l hl hd hn
      obtain ⟨l', b, rfl⟩ : ∃ l' b, l = l' ++ [b] := ⟨l.dropLast, l.getLast hn.1, (List.dropLast_concat_getLast hn.1).symm⟩
      have hb := hd b (by simp)
      have hbb : UInt8.ofNat (48 + (b.toNat - 48)) = b := by rw [show 48 + (b.toNat - 48) = b.toNat by omega]; exact UInt8.ofNat_toNat
      rw [dvL_snoc]
      by_cases h0 : l' = []
      · subst h0
        have hb1 : b.toNat ≠ 48 := by
          intro e
          apply hn.2
          simp [e]
        have e0 : dvL [] = 0 := rfl
        rw [e0]
        refine ⟨by omega, ?_⟩
        rw [show (0 * 10 + ((b.toNat : Int) - 48)).toNat = b.toNat - 48 by omega, dec_small (by omega), hbb]
        rfl
      · have hn' : noLead l' := ⟨h0, by have := hn.2; rwa [head_app h0] at this⟩
        obtain ⟨h1, h2⟩ := ih l' (by simpa using hl) (fun c hc => hd c (by simp [hc])) hn'
        refine ⟨by omega, ?_⟩
        have e1 : (dvL l' * 10 + ((b.toNat : Int) - 48)).toNat = (dvL l').toNat * 10 + (b.toNat - 48) := by omega
        rw [e1, dec_big (by omega), show ((dvL l').toNat * 10 + (b.toNat - 48)) / 10 = (dvL l').toNat by omega, show ((dvL l').toNat * 10 + (b.toNat - 48)) % 10 = b.toNat - 48 by omega, h2, hbb]
  exact key l.length l rfl hd hn
theorem decOK_iff (s : ByteArray) : DecOK s ↔ digL s.data.toList ∧ (s.data.toList = [48] ∨ noLead s.data.toList) := by
  have hl := bytes_len s
  have hb0 : ∀ b r, s.data.toList = b :: r → byteAt s 0 = (b.toNat : Int) := fun b r e => by unfold byteAt; rw [e]; rfl
  constructor
  · rintro ⟨h1, h2, h3⟩
    refine ⟨(digs_iff s).1 h3, ?_⟩
    match hc : s.data.toList with
    | [] => rw [hc] at hl; simp at hl; omega
    | b :: r =>
      have e := hb0 b r hc
      by_cases h : b.toNat = 48
      · have := h2 (by rw [e, h]; rfl)
        rw [hc] at hl
        have hr : r = [] := List.eq_nil_of_length_eq_zero (by simp at hl; omega)
        left
        rw [hr, show b = 48 from UInt8.toNat_inj.1 (by rw [h]; rfl)]
      · right
        refine ⟨by simp, ?_⟩
        simp only [List.head?_cons, Option.map_some]
        intro e
        exact h (Option.some.inj e)
  · rintro ⟨h1, h2⟩
    refine ⟨?_, ?_, (digs_iff s).2 h1⟩
    · rcases h2 with h2 | h2
      · rw [h2] at hl; simp at hl; omega
      · rcases Nat.eq_zero_or_pos s.size with e | e
        · exact absurd (List.eq_nil_of_length_eq_zero (by omega)) h2.1
        · exact e
    · intro h
      rcases h2 with h2 | h2
      · rw [h2] at hl; simpa using hl.symm
      · match hc : s.data.toList with
        | [] => exact absurd hc h2.1
        | b :: r =>
          have e := hb0 b r hc
          exfalso
          apply h2.2
          rw [hc]
          simp only [List.head?_cons, Option.map_some]
          rw [show b.toNat = 48 by omega]
theorem dec_ok (n : Nat) : DecOK ⟨(Lib.decDigits n).toArray⟩ := by
  rw [decOK_iff]
  refine ⟨(dec_value n).2, ?_⟩
  by_cases h : n = 0
  · left
    subst h
    show Lib.decDigits 0 = [48]
    rw [dec_small (by omega)]
    rfl
  · exact .inr (dec_lead (by omega))
theorem ok_dec {s : ByteArray} (h : DecOK s) : 0 ≤ dvL s.data.toList ∧ Lib.decDigits (dvL s.data.toList).toNat = s.data.toList := by
  obtain ⟨h1, h2⟩ := (decOK_iff s).1 h
  rcases h2 with h2 | h2
  · rw [h2]
    refine ⟨by decide, ?_⟩
    have : dvL [48] = 0 := by decide
    rw [this, dec_small (by omega)]
    rfl
  · have := back_dec h1 h2
    exact ⟨by omega, this.2⟩

end Go.Proofs.YtkalknmindgljabDoor
