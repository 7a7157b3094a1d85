/-
  The reference's Digits (filigreeref05): the decimal text of a number.
-/
import Derived.Laws.IdiomStrings
import Derived.Lib.ItoaLen
import Derived.Test.YthlkknfhganecaaGreatDoorUSays
namespace Go.Proofs.YthlkknfhganecaaGreatDoor
open Go Go.Proofs Go.RowKit

theorem dec_smallU {u : Nat} (h : u < 10) : Lib.decDigits u = [UInt8.ofNat (48 + u)] := by rw [Lib.decDigits]; simp [h]
theorem dec_bigU {u : Nat} (h : 10 ≤ u) : Lib.decDigits u = Lib.decDigits (u / 10) ++ [UInt8.ofNat (48 + u % 10)] := by rw [Lib.decDigits]; simp [show ¬ u < 10 by omega]
theorem byte_nat {d : Nat} (h : d < 10) : ((UInt8.ofNat (48 + d)).toNat : Int) = 48 + (d : Int) := by
  rw [UInt8.toNat_ofNat', Nat.mod_eq_of_lt (by omega)]; omega
/-- The byte of a digit. -/
def dgt (d : Nat) : UInt8 := UInt8.ofNat (48 + d)
/-- A slice of one byte made into a string. -/
theorem conv1 (a : Addr) (x : Int) (d : Nat) (hd : d < 10) (hx : x = 48 + (d : Int)) (W : World) (h : W.cell? a = some (.int .u8 x)) :
    (convert 27 9 (.slice (some a) 1 1)).run Tryz.prog W = .ok (.string ⟨#[dgt d]⟩) W :=
  run_convert_bytes_back (P := Tryz.prog) W 27 9 5 a 1 [UInt8.ofNat (48 + d)] Tryz.underlying27 Tryz.underlying5 Tryz.underlying9 (fun j hj => by
    obtain rfl : j = 0 := by simp at hj; exact hj
    have e : a.add 0 = a := by cases a; simp [Addr.add]
    rw [e, h, hx, ← byte_nat hd]; rfl)
theorem str_app (x y : List UInt8) : (⟨x.toArray⟩ : ByteArray) ++ ⟨y.toArray⟩ = ⟨(x ++ y).toArray⟩ := by
  apply ByteArray.ext; simp
theorem str_cons (x : UInt8) (l : List UInt8) : (⟨(x :: l).toArray⟩ : ByteArray) = ⟨#[x]⟩ ++ ⟨l.toArray⟩ := (str_app [x] l).symm
theorem itoa_dec {n : Int} : Lib.itoa n = (if n < 0 then 45 :: Lib.decDigits n.natAbs else Lib.decDigits n.toNat) := rfl
theorem dec_lenU {n : Int} (h0 : -9223372036854775808 ≤ n) (h1 : n ≤ 9223372036854775807) : (Lib.decDigits n.natAbs).length ≤ 21 := by
  have := Lib.itoa_length_le n h0 h1
  rw [itoa_dec] at this
  split at this
  · simp at this; omega
  · rwa [show n.toNat = n.natAbs by omega] at this

theorem dig_step {m r : Nat} {acc : List UInt8} (h : Lib.decDigits m = Lib.decDigits r ++ acc) (hr : 10 ≤ r) : Lib.decDigits m = Lib.decDigits (r / 10) ++ (dgt (r % 10) :: acc) := by
  rw [h, dec_bigU hr]; simp [dgt]
theorem dig_last {m r : Nat} {acc : List UInt8} (h : Lib.decDigits m = Lib.decDigits r ++ acc) (hr : r < 10) : Lib.decDigits m = dgt (r % 10) :: acc := by
  rw [h, dec_smallU hr, Nat.mod_eq_of_lt hr]; rfl
theorem acc_len {m r : Nat} {acc : List UInt8} (h : Lib.decDigits m = Lib.decDigits r ++ acc) (hm : (Lib.decDigits m).length ≤ 21) : acc.length ≤ 21 := by
  rw [h, List.length_append] at hm; omega

set_option maxRecDepth 100000 in
set_option maxHeartbeats 1000000 in
theorem digits_any (n : Int) (h0 : -9223372036854775808 ≤ n) (h1 : n ≤ 9223372036854775807) (w : World) :
    Calls Tryz.prog 35 #[.int .i64 n] w fun e w' => e = .returned (.string ⟨(Lib.itoa n).toArray⟩) ∧ Below w.heap.size w w' := by
  have hL := dec_lenU h0 h1
  by_cases hneg : n < 0
  · obtain ⟨m, rfl⟩ : ∃ m : Nat, n = -(m : Int) := ⟨n.natAbs, by omega⟩
    rw [show (-(m : Int)).natAbs = m by omega] at hL
    have HI : Hid (Lib.itoa (-(m : Int)) = 45 :: Lib.decDigits m) := by rw [Hid, itoa_dec, if_pos hneg, show (-(m : Int)).natAbs = m by omega]
    have HL : Hid ((Lib.decDigits m).length ≤ 21) := hL
    clear hL
    go_enter Tryz.func35, Tryz.ntmps35
    go_wp2_with fail
    go_loopw [0, 3] (fun nv dv wr => ∃ (r : Nat) (acc : List UInt8), nv = .int .i64 (-(r : Int)) ∧ dv = .string ⟨acc.toArray⟩ ∧ r ≤ m ∧ acc.length ≤ 21 ∧ Hid (Lib.decDigits m = Lib.decDigits r ++ acc) ∧ Below w.heap.size w wr) (fun nv _ _ => (intOf nv).natAbs)
    case atStart => exact ⟨m, [], rfl, rfl, Nat.le_refl _, by simp, by rw [Hid]; simp, Below.refl _ _⟩
    case round =>
      obtain ⟨r, acc, rfl, rfl, hrm, hal, HD, hb⟩ := hrel
      have hc := conv1 ⟨wr.heap.size, 0, none⟩ (48 + ((r % 10 : Nat) : Int)) (r % 10) (by omega) (by omega)
      have hm0 : 0 < m := by omega
      have hsz : ¬ 9223372036854775807 < 1 + acc.length := by omega
      by_cases hr : r < 10
      · have hq : ((-((r : Int) / 10)) == 0) = true := by simp; omega
        have HF : Hid (Lib.decDigits m = dgt (r % 10) :: acc) := dig_last HD.out hr
        by_cases hk : (r : Int) % 10 = 0
        · go_wp2
          go_ret
          exact ⟨by rw [HI.out, HF.out, str_cons, str_cons]; rfl, hb.trans (((Below.refl _ _).alloc (Nat.le_refl _) _).mono hb.size)⟩
        · have hk1 : (0 : Int) < (r : Int) % 10 := by omega
          go_wp2
          go_ret
          exact ⟨by rw [HI.out, HF.out, str_cons, str_cons]; rfl, hb.trans (((Below.refl _ _).alloc (Nat.le_refl _) _).mono hb.size)⟩
      · have hq : ((-((r : Int) / 10)) == 0) = false := by simp; omega
        have HF : Hid (Lib.decDigits m = Lib.decDigits (r / 10) ++ (dgt (r % 10) :: acc)) := dig_step HD.out (by omega)
        have hal2 := acc_len HF.out HL.out
        by_cases hk : (r : Int) % 10 = 0
        · go_wp2
          exact ⟨⟨r / 10, dgt (r % 10) :: acc, by simp, by rw [str_cons (dgt (r % 10)) acc], by omega, hal2, HF, hb.trans (((Below.refl _ _).alloc (Nat.le_refl _) _).mono hb.size)⟩, by simp [intOf]; omega⟩
        · have hk1 : (0 : Int) < (r : Int) % 10 := by omega
          go_wp2
          exact ⟨⟨r / 10, dgt (r % 10) :: acc, by simp, by rw [str_cons (dgt (r % 10)) acc], by omega, hal2, HF, hb.trans (((Below.refl _ _).alloc (Nat.le_refl _) _).mono hb.size)⟩, by simp [intOf]; omega⟩
  · obtain ⟨m, rfl⟩ : ∃ m : Nat, n = (m : Int) := ⟨n.natAbs, by omega⟩
    rw [show ((m : Nat) : Int).natAbs = m by omega] at hL
    have HI : Hid (Lib.itoa (m : Int) = Lib.decDigits m) := by rw [Hid, itoa_dec, if_neg hneg]; rfl
    have HL : Hid ((Lib.decDigits m).length ≤ 21) := hL
    clear hL
    go_enter Tryz.func35, Tryz.ntmps35
    go_wp2_with fail
    go_loopw [0, 3] (fun nv dv wr => ∃ (r : Nat) (acc : List UInt8), nv = .int .i64 (r : Int) ∧ dv = .string ⟨acc.toArray⟩ ∧ r ≤ m ∧ acc.length ≤ 21 ∧ Hid (Lib.decDigits m = Lib.decDigits r ++ acc) ∧ Below w.heap.size w wr) (fun nv _ _ => (intOf nv).natAbs)
    case atStart => exact ⟨m, [], rfl, rfl, Nat.le_refl _, by simp, by rw [Hid]; simp, Below.refl _ _⟩
    case round =>
      obtain ⟨r, acc, rfl, rfl, hrm, hal, HD, hb⟩ := hrel
      have hc := conv1 ⟨wr.heap.size, 0, none⟩ (48 + ((r % 10 : Nat) : Int)) (r % 10) (by omega) (by omega)
      have hsz : ¬ 9223372036854775807 < 1 + acc.length := by omega
      by_cases hr : r < 10
      · have hq : (((r : Int) / 10) == 0) = true := by simp; omega
        have HF : Hid (Lib.decDigits m = dgt (r % 10) :: acc) := dig_last HD.out hr
        go_wp2
        go_ret
        exact ⟨by rw [HI.out, HF.out, str_cons]; rfl, hb.trans (((Below.refl _ _).alloc (Nat.le_refl _) _).mono hb.size)⟩
      · have hq : (((r : Int) / 10) == 0) = false := by simp; omega
        have HF : Hid (Lib.decDigits m = Lib.decDigits (r / 10) ++ (dgt (r % 10) :: acc)) := dig_step HD.out (by omega)
        have hal2 := acc_len HF.out HL.out
        go_wp2
        exact ⟨⟨r / 10, dgt (r % 10) :: acc, by simp, by rw [str_cons (dgt (r % 10)) acc], by omega, hal2, HF, hb.trans (((Below.refl _ _).alloc (Nat.le_refl _) _).mono hb.size)⟩, by simp [intOf]; omega⟩

end Go.Proofs.YthlkknfhganecaaGreatDoor
