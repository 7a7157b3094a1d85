/-
  The contracts of filigreeref03.Digits, api.number, (api.Kind).Error, and fault.text at a kind.
-/
import Derived.Laws.IdiomStrings
import Derived.Test.YteleldeeakklpaaDoorFText
namespace Go.Proofs.YteleldeeakklpaaDoor
open Go Go.Proofs Go.RowKit

theorem dec_small {u : Nat} (h : u < 10) : Lib.decDigits u = [UInt8.ofNat (48 + u)] := by rw [Lib.decDigits]; simp [h]
theorem dec_big {u : Nat} (h : 10 ≤ u) : Lib.decDigits u = Lib.decDigits (u / 10) ++ [UInt8.ofNat (48 + u % 10)] := by rw [Lib.decDigits]; simp [show ¬ u < 10 by omega]
theorem itoa_small {n : Int} (h0 : 0 ≤ n) (h : n < 10) : Lib.itoa n = [UInt8.ofNat (48 + n.toNat)] := by
  unfold Lib.itoa; rw [if_neg (by omega)]; exact dec_small (by omega)
theorem itoa_big {n : Int} (h : 10 ≤ n) : Lib.itoa n = Lib.itoa (n / 10) ++ [UInt8.ofNat (48 + (n % 10).toNat)] := by
  unfold Lib.itoa; rw [if_neg (by omega), if_neg (by omega), dec_big (by omega)]
  rw [show (n / 10).toNat = n.toNat / 10 by omega, show (n % 10).toNat = n.toNat % 10 by omega]
theorem itoa_msmall {n : Int} (h0 : n < 0) (h : -10 < n) : Lib.itoa n = [45, UInt8.ofNat (48 + n.natAbs)] := by
  unfold Lib.itoa; rw [if_pos h0, dec_small (by omega)]
theorem itoa_mbig {n : Int} (h : n ≤ -10) : Lib.itoa n = Lib.itoa (-((n.natAbs / 10 : Nat) : Int)) ++ [UInt8.ofNat (48 + n.natAbs % 10)] := by
  unfold Lib.itoa; rw [if_pos (by omega), if_pos (by omega), dec_big (by omega), show (-((n.natAbs / 10 : Nat) : Int)).natAbs = n.natAbs / 10 by omega]; rfl
theorem byte_nat {d : Nat} (h : d < 10) : ((UInt8.ofNat (48 + d)).toNat : Int) = 48 + (d : Int) := by
  rw [UInt8.toNat_ofNat', Nat.mod_eq_of_lt (by omega)]; omega

/-- The byte of a digit. -/
def dgt (d : Nat) : UInt8 := UInt8.ofNat (48 + d)
/-- A slice of one byte made into a string. -/
theorem conv1 (a : Addr) (x : Int) (d : Nat) (hd : d < 10) (hx : x = 48 + (d : Int)) (W : World) (h : W.cell? a = some (.int .u8 x)) :
    (convert 69 9 (.slice (some a) 1 1)).run Tryd.prog W = .ok (.string ⟨#[dgt d]⟩) W :=
  run_convert_bytes_back (P := Tryd.prog) W 69 9 5 a 1 [UInt8.ofNat (48 + d)] Tryd.underlying69 Tryd.underlying5 Tryd.underlying9 (fun j hj => by
    obtain rfl : j = 0 := by simp at hj; exact hj
    have e : a.add 0 = a := by cases a; simp [Addr.add]
    rw [e, h, hx, ← byte_nat hd]; rfl)

theorem str_app (x y : List UInt8) : (⟨x.toArray⟩ : ByteArray) ++ ⟨y.toArray⟩ = ⟨(x ++ y).toArray⟩ := by
  apply ByteArray.ext; simp

set_option maxRecDepth 100000 in
set_option maxHeartbeats 1000000 in
theorem digits_any (n : Int) (h0 : -9223372036854775808 ≤ n) (h1 : n ≤ 9223372036854775807) (w : World) :
    Calls Tryd.prog 25 #[.int .i64 n] w fun e w' => e = .returned (.string ⟨(Lib.itoa n).toArray⟩) ∧ Below w.heap.size w w' := by
  induction hk : n.natAbs using Nat.strongRecOn generalizing n w with
  | ind k ih =>
    by_cases hneg : n < 0
    · obtain ⟨m, rfl⟩ : ∃ m : Nat, n = -(m : Int) := ⟨n.natAbs, by omega⟩
      have hc := conv1 ⟨w.heap.size, 0, none⟩ (48 + ((m % 10 : Nat) : Int)) (m % 10) (by omega) (by omega)
      have hb1 : Below w.heap.size w (w.alloc (.cells #[.int .u8 (48 + (m : Int) % 10)] 5)) := (Below.refl _ _).alloc (Nat.le_refl _) _
      by_cases hs : -10 < -(m : Int)
      · have hE := itoa_msmall (n := -(m : Int)) (by omega) hs
        have HE : Hid _ := hE
        clear hE
        go_enter Tryd.func25, Tryd.ntmps25
        go_wp2
        go_ret
        exact ⟨by rw [HE.out, show (-(m : Int)).natAbs = m % 10 by omega]; rfl, hb1⟩
      · have hE := itoa_mbig (n := -(m : Int)) (by omega)
        rw [show (-(m : Int)).natAbs = m by omega] at hE
        have HE : Hid _ := hE
        have hih := ih (m / 10) (by omega) (-((m : Int) / 10)) (by omega) (by omega) (w.alloc (.cells #[.int .u8 (48 + (m : Int) % 10)] 5)) (by omega)
        have hl := Lib.itoa_length_le (-((m : Int) / 10)) (by omega) (by omega)
        have hn1 : ¬ 9223372036854775807 < (Lib.itoa (-((m : Int) / 10))).length + 1 := by omega
        clear hE ih
        go_enter Tryd.func25, Tryd.ntmps25
        go_wp2_with fail
        refine hih.mono ?_
        clear hih
        rintro e w2 ⟨rfl, hb2⟩
        go_wp2
        go_ret
        exact ⟨by rw [HE.out, show ((m / 10 : Nat) : Int) = (m : Int) / 10 by omega, ← str_app]; rfl, hb1.trans (hb2.mono (by simp))⟩
    · have hc := conv1 ⟨w.heap.size, 0, none⟩ (48 + n % 10) (n % 10).toNat (by omega) (by omega)
      have hb1 : Below w.heap.size w (w.alloc (.cells #[.int .u8 (48 + n % 10)] 5)) := (Below.refl _ _).alloc (Nat.le_refl _) _
      by_cases hs : n < 10
      · have hE := itoa_small (n := n) (by omega) hs
        have HE : Hid _ := hE
        clear hE
        go_enter Tryd.func25, Tryd.ntmps25
        go_wp2
        go_ret
        exact ⟨by rw [HE.out, show (n % 10).toNat = n.toNat by omega]; rfl, hb1⟩
      · have hE := itoa_big (n := n) (by omega)
        have HE : Hid _ := hE
        have hih := ih (n / 10).natAbs (by omega) (n / 10) (by omega) (by omega) (w.alloc (.cells #[.int .u8 (48 + n % 10)] 5)) rfl
        have hl := Lib.itoa_length_le (n / 10) (by omega) (by omega)
        have hn1 : ¬ 9223372036854775807 < (Lib.itoa (n / 10)).length + 1 := by omega
        clear hE ih
        go_enter Tryd.func25, Tryd.ntmps25
        go_wp2_with fail
        refine hih.mono ?_
        clear hih
        rintro e w2 ⟨rfl, hb2⟩
        go_wp2
        go_ret
        exact ⟨by rw [HE.out, ← str_app]; rfl, hb1.trans (hb2.mono (by simp))⟩

theorem cellUp {W w2 : World} (hb : Below W.heap.size W w2) (a : Addr) (v : Value) (h : W.cell? a = some v) : w2.cell? a = some v := by
  refine (hb.cell (p := a) ?_).trans h
  rcases Nat.lt_or_ge a.block W.heap.size with h1 | h1
  · exact h1
  · simp [World.cell?, Array.getElem?_eq_none h1] at h
/-- The text of a kind's number. -/
def numB (k : Int) : ByteArray := if 0 ≤ k ∧ k ≤ 999 then ⟨(Lib.itoa k).toArray⟩ else ⟨#[63]⟩
theorem numB_bad {k : Int} (h : ¬ (0 ≤ k ∧ k ≤ 999)) : numB k = ⟨#[63]⟩ := if_neg h
theorem numB_ok {k : Int} (h0 : 0 ≤ k) (h1 : k ≤ 999) : numB k = ⟨(Lib.itoa k).toArray⟩ := if_pos ⟨h0, h1⟩
theorem numB_size (k : Int) : (numB k).size ≤ 21 := by
  unfold numB
  split
  · rename_i h
    exact Lib.itoa_length_le k (by omega) (by omega)
  · decide

set_option maxRecDepth 100000 in
set_option maxHeartbeats 1000000 in
theorem number_bad (k : Int) (h : k < 0 ∨ 999 < k) (w : World) :
    Calls Tryd.prog 80 #[.int .i64 k] w fun e w' => e = .returned (.string ⟨#[63]⟩) ∧ Below w.heap.size w w' := by
  rcases h with h | h
  · go_enter Tryd.func80, Tryd.ntmps80
    go_wp2
    go_ret
    exact ⟨rfl, Below.refl _ _⟩
  · have h' : ¬ k < 0 := by omega
    go_enter Tryd.func80, Tryd.ntmps80
    go_wp2
    go_ret
    exact ⟨rfl, Below.refl _ _⟩

set_option maxRecDepth 100000 in
set_option maxHeartbeats 1000000 in
theorem number_ok (n : Nat) (h : n ≤ 999) (w : World) :
    Calls Tryd.prog 80 #[.int .i64 n] w fun e w' => e = .returned (.string ⟨(Lib.itoa n).toArray⟩) ∧ Below w.heap.size w w' := by
  induction n using Nat.strongRecOn generalizing w with
  | ind n ih =>
    have h0 : ¬ (n : Int) < 0 := by omega
    have h9 : ¬ 999 < (n : Int) := by omega
    by_cases hs : (n : Int) < 10
    · have hc := conv1 ⟨w.heap.size, 0, none⟩ (48 + (n : Int)) n (by omega) rfl
      have HE : Hid _ := itoa_small (n := (n : Int)) (by omega) hs
      have hb1 : Below w.heap.size w (w.alloc (.cells #[.int .u8 (48 + (n : Int))] 5)) := (Below.refl _ _).alloc (Nat.le_refl _) _
      go_enter Tryd.func80, Tryd.ntmps80
      go_wp2
      go_ret
      exact ⟨by rw [HE.out]; rfl, hb1⟩
    · have HE : Hid _ := itoa_big (n := (n : Int)) (by omega)
      have hih := fun W => ih (n / 10) (by omega) (by omega) W
      have hl := Lib.itoa_length_le ((n : Int) / 10) (by omega) (by omega)
      have hn1 : ¬ 9223372036854775807 < (Lib.itoa ((n : Int) / 10)).length + 1 := by omega
      have hc := fun a => conv1 a (48 + (n : Int) % 10) (n % 10) (by omega) (by omega)
      have e10 : ((n / 10 : Nat) : Int) = (n : Int) / 10 := by omega
      rw [e10] at hih
      clear ih e10
      have hw1 : IntKind.i64.wrap ((n : Int) / 10) = (n : Int) / 10 := by rw [IntKind.wrap_i64]; omega
      have hw0 : (n : Int).tmod 10 = (n : Int) % 10 := Int.tmod_eq_emod_of_nonneg (by omega)
      have hw2 : IntKind.i64.wrap (48 + (n : Int) % 10) = 48 + (n : Int) % 10 := by rw [IntKind.wrap_i64]; omega
      have hw3 : IntKind.u8.wrap (48 + (n : Int) % 10) = 48 + (n : Int) % 10 := by rw [IntKind.wrap_u8]; omega
      have HI : Hid _ := hih
      clear hih
      go_enter Tryd.func80, Tryd.ntmps80
      go_wp2
      refine wp_cutF (fun a' w' => Below w.heap.size w w' ∧ ∃ u16 u17 u18 u19 u20 u21 u22 u23 u24 u25, a' = { tmps := #[.int .i64 n, undef, .string (⟨(Lib.itoa ((n : Int) / 10)).toArray⟩ ++ ⟨#[dgt (n % 10)]⟩), .int .i64 n, .bool false, .bool false, .int .i64 n, .bool false, .bool false, .int .i64 n, .bool false, undef, undef, undef, undef, undef, u16, u17, u18, u19, u20, u21, u22, u23, u24, u25], defers := [] }) ?_ ?_
      · go_region_with (go_at_call 80; refine (HI.out _).mono ?_; rintro e w2 ⟨rfl, hb2⟩; have dz := cellUp hb2 ⟨w.heap.size, 0, none⟩ (.int .u8 (48 + (n : Int) % 10)); try simp at dz)
        all_goals first
          | exact ⟨(Below.drew (Below.refl _ _)).trans (hb2.alloc hb2.size _), _, _, _, _, _, _, _, _, _, _, rfl⟩
          | exact ⟨(Below.drew ((Below.refl _ _).alloc (Nat.le_refl _) _)).trans (hb2.mono (by simp)), _, _, _, _, _, _, _, _, _, _, rfl⟩
      · rintro a' w' ⟨hb, u16, u17, u18, u19, u20, u21, u22, u23, u24, u25, rfl⟩
        go_wp2
        go_ret
        exact ⟨by rw [HE.out, ← str_app, show ((n : Int) % 10).toNat = n % 10 by omega]; rfl, hb⟩

theorem number_any (k : Int) (w : World) :
    Calls Tryd.prog 80 #[.int .i64 k] w fun e w' => e = .returned (.string (numB k)) ∧ Below w.heap.size w w' := by
  by_cases h : 0 ≤ k ∧ k ≤ 999
  · obtain ⟨n, rfl⟩ : ∃ n : Nat, k = n := ⟨k.toNat, by omega⟩
    rw [numB_ok h.1 h.2]
    exact number_ok n (by omega) w
  · rw [numB_bad h]
    exact number_bad k (by omega) w

/-- The text of a kind. -/
def kindB (k : Int) : ByteArray := ⟨#[102, 105, 108, 105, 103, 114, 101, 101, 32, 101, 114, 114, 111, 114, 32]⟩ ++ numB k
theorem kindB_size (k : Int) : (kindB k).size ≤ 36 := by
  have := numB_size k
  unfold kindB
  rw [ByteArray.size_append]
  show 15 + _ ≤ 36
  omega

set_option maxRecDepth 100000 in
set_option maxHeartbeats 1000000 in
theorem kindError_any (k : Int) (w : World) :
    Calls Tryd.prog 79 #[.int .i64 k] w fun e w' => e = .returned (.string (kindB k)) ∧ Below w.heap.size w w' := by
  have hs := numB_size k
  have hn : ¬ 9223372036854775807 < 15 + (numB k).size := by omega
  go_enter Tryd.func79, Tryd.ntmps79
  go_wp2_with fail
  refine (number_any k w).mono ?_
  rintro e w2 ⟨rfl, hb2⟩
  go_wp2
  go_ret
  exact ⟨rfl, hb2⟩

theorem mErrorK (v : Value) (w : World) : (Go.method 250 23 v "Error").run Tryd.prog w = .ok (79, v) w := by kernel_rfl
theorem nilAheadK (v : Value) (w : World) : (nilAhead 250 23 v "Error").run Tryd.prog w = .ok (some false) w := by kernel_rfl

set_option maxRecDepth 100000 in
set_option maxHeartbeats 1000000 in
theorem text_kind (k : Int) (w : World) :
    Calls Tryd.prog 33 #[.iface 23 (.int .i64 k)] w fun e w' => e = .returned (.string (kindB k)) ∧ Below w.heap.size w w' := by
  have hm := hmf
  have haK := assertK
  have hmE := mErrorK
  have hb1 : Below w.heap.size w (w.alloc (.cells #[.string ⟨#[]⟩] 9)) := (Below.refl _ _).alloc (Nat.le_refl _) _
  have cr : (w.alloc (.cells #[.string ⟨#[]⟩] 9)).cell? ⟨w.heap.size, 0, none⟩ = some (.string ⟨#[]⟩) := by simp
  have fr : (w.alloc (.cells #[.string ⟨#[]⟩] 9)).frozen? ⟨w.heap.size, 0, none⟩ = false := by simp
  go_enter_defers Tryd.func33, Tryd.ntmps33
  go_wp2_with fail
  refine (kindError_any k _).mono ?_
  rintro e w2 ⟨rfl, hb2⟩
  have dr := (hb2.cell (p := ⟨w.heap.size, 0, none⟩) (by simp)).trans cr
  have df := (hb2.frozen (p := ⟨w.heap.size, 0, none⟩) (by simp)).trans fr
  have hbw := (hb1.trans (hb2.mono (by simp))).setCell (p := ⟨w.heap.size, 0, none⟩) (Nat.le_refl _) (.string (kindB k))
  have hz : w.heap.size < w2.heap.size := by have := hb2.size; simp at this; omega
  go_wp2
  refine leaves_cons (f := 45) (args := #[.pointer (some ⟨w.heap.size, 0, none⟩)]) (by simp) (by simp [go_sem]) ?_
  refine (idle45 ⟨w.heap.size, 0, none⟩ _).mono ?_
  rintro e u' w'' ⟨rfl, rfl, rfl⟩
  simp [Leaves, settle, results, Tryd.results33, go_sem, dr]
  exact hbw

end Go.Proofs.YteleldeeakklpaaDoor
