/-
  The walk of filigreelaw01.NaturalBack: for any list and any text it returns true, and nothing that lay has turned.
-/
import Derived.Test.YtkalknmindgljabDoorText
import Derived.Test.YtkalknmindgljabDoorBackMath
import Derived.Test.YtkalknmindgljabDoorMade
import Derived.Test.YtkalknmindgljabDoorAlive
namespace Go.Proofs.YtkalknmindgljabDoor
open Go Go.Proofs Go.RowKit Go.Shelf

theorem pB_ten (k : Nat) : pB k ≤ 10 ^ (10 * k) := by
  induction k with
  | zero => simp [pB]
  | succ k ih =>
    rw [pB_succ, Nat.mul_succ, Int.pow_add]
    have e : (10 : Int) ^ 10 = 10000000000 := by decide
    rw [e]
    have := pB_pos k
    omega
theorem dec_count {a : List Int} (da : Dig a) (ha : a.length ≤ 1000) : (Lib.decDigits (val a).toNat).length ≤ 10000 := by
  obtain ⟨k, hk⟩ : ∃ k, k = 10 * 1000 := ⟨_, rfl⟩
  have h0 := val_nonneg da
  have h1 := val_lt da
  have h2 := pB_le ha
  have h3 := pB_ten 1000
  rw [← hk] at h3
  have h4 : ((10 ^ k : Nat) : Int) = 10 ^ k := Int.natCast_pow 10 k
  have := dec_len (u := (val a).toNat) (k := k) (by omega) (by omega)
  omega
theorem bytes_back (s : ByteArray) : (⟨s.data.toList.toArray⟩ : ByteArray) = s := by cases s; simp

set_option maxRecDepth 100000 in
set_option maxHeartbeats 4000000 in
theorem back_walk (a : List Int) (s : ByteArray) (ha : a.length ≤ 9223372036854775807) (hs : s.size ≤ 9223372036854775807) (da : Dig a) (w : World) (pa : Option Addr) (ca : Nat) (hA : U32 w (.slice pa a.length ca) a) (htab : Tab w) :
    Calls Tryd.prog 6 #[.slice pa a.length ca, .string s] w fun e w' => e = .returned (.bool true) ∧ Below w.heap.size w w' := by
  go_enter Tryd.func6, Tryd.ntmps6
  by_cases h1 : a.length ≤ 100
  · by_cases h2 : s.size ≤ 500
    · have ma : Num (val a) 100 a := ⟨rfl, da, h1⟩
      have hv0 := ma.pos
      have hdc := dec_count da (by omega)
      have hdv := (dec_value (val a).toNat).1
      have hok := dec_ok (val a).toNat
      rw [show (((val a).toNat : Nat) : Int) = val a by omega] at hdv
      have HDV : Hid _ := hdv
      have HOK : Hid _ := hok
      clear hdv hok
      go_wp2_with fail
      refine (text_any hA da (by omega) htab).mono ?_
      rintro e w1 ⟨rfl, hb1⟩
      have hA1 := hA.go hb1
      have htab1 := tab_below htab hb1
      go_wp2_with fail
      refine (parse_any ⟨(Lib.decDigits (val a).toNat).toArray⟩ (by simp [ByteArray.size]; omega) w1).mono ?_
      rintro e w2 ⟨hP, hb2⟩
      obtain ⟨s2, rfl, hs2⟩ := hP.1 HOK.out
      have hs2' : U32 w2 s2 (num (val a)) := by
        have := hs2
        simp only at this
        rwa [HDV.out] at this
      have hA2 := hA1.go hb2
      have htab2 := tab_below htab1 hb2
      have hbl2 := hb1.trans (hb2.mono hb1.size)
      have m2 : Nrm (val a) 100 (num (val a)) := Nrm.of hv0 ma.lt
      clear hs2 hP hA1 htab1 hb1 hb2
      go_wp2_with fail
      refine (refNorm_made ma (by omega) hA2).mono ?_
      rintro e w3 ⟨s3, L3, rfl, hs3, m3, hb3⟩
      go_wp2_with fail
      refine (same_made m2 m3 (by omega) (by omega) (hs2'.go hb3) hs3 rfl).mono ?_
      rintro e w4 ⟨rfl, hb4⟩
      have hb24 := hb3.trans (hb4.mono hb3.size)
      have htab4 := tab_below htab2 hb24
      have hbl4 := hbl2.trans (hb24.mono hbl2.size)
      clear hs2' hs3 m3 m2 hb3 hb4 hb24 htab2 hbl2 hA2
      go_wp2_with fail
      refine (parse_any s (by omega) w4).mono ?_
      rintro e w5 ⟨hP, hb5⟩
      have htab5 := tab_below htab4 hb5
      have hbl5 := hbl4.trans (hb5.mono hbl4.size)
      clear hb5 htab4 hbl4
      by_cases hD : DecOK s
      · obtain ⟨s5, rfl, hs5⟩ := hP.1 hD
        obtain ⟨o1, o2⟩ := ok_dec hD
        have hdl := dvL_len ((decOK_iff s).1 hD).1
        rw [bytes_len] at hdl
        have ht5 := text_any hs5 (num_dig _) (by omega) htab5
        rw [num_val o1, o2, bytes_back] at ht5
        clear hP o1 o2
        go_wp2_with fail
        refine ht5.mono ?_
        rintro e w6 ⟨rfl, hb6⟩
        have hbl6 := hbl5.trans (hb6.mono hbl5.size)
        clear ht5 hb6 hbl5
        go_wp2_with fail
        refine (alive_any _).mono ?_
        rintro e w7 ⟨rfl, hb7⟩
        go_wp2
        go_ret
        exact ⟨rfl, hbl6.trans (hb7.mono hbl6.size)⟩
      · have := hP.2 hD
        subst this
        clear hP
        go_wp2_with fail
        refine (alive_any _).mono ?_
        rintro e w7 ⟨rfl, hb7⟩
        go_wp2
        go_ret
        exact ⟨rfl, hbl5.trans (hb7.mono hbl5.size)⟩
    · go_wp2_with fail
      refine (alive_any _).mono ?_
      rintro e w2 ⟨rfl, hb2⟩
      go_wp2
      go_ret
      exact ⟨rfl, hb2⟩
  · go_wp2_with fail
    refine (alive_any _).mono ?_
    rintro e w2 ⟨rfl, hb2⟩
    go_wp2
    go_ret
    exact ⟨rfl, hb2⟩

end Go.Proofs.YtkalknmindgljabDoor
