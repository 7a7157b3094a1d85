/-
  The contract of math/bits.Sub32.
-/
import Derived.Test.YtkalknmindgljaaDoorTrimB
namespace Go.Proofs.YtkalknmindgljaaDoor
open Go Go.Proofs Go.RowKit Go.Shelf

/-- The borrow. -/
def bw (a b c : Int) : Int := if a < b + c then 1 else 0
theorem bw_nat (A B D : Nat) (c : Int) (hA : A < 4294967296) (hB : B < 4294967296) (hD : (D : Int) = ((A : Int) - B - c) % 4294967296) (hc : 0 ≤ c ∧ c ≤ 1) :
    ((((((4294967295 ^^^ A) &&& B) ||| ((4294967295 ^^^ (A ^^^ B)) &&& D)) / 2147483648 : Nat)) : Int) = bw A B c := by
  have hD2 : D < 4294967296 := by omega
  have e : ∀ n : Nat, n / 2147483648 = n >>> 31 := fun n => by rw [Nat.shiftRight_eq_div_pow]
  rw [e, Nat.shiftRight_or_distrib, Nat.shiftRight_and_distrib, Nat.shiftRight_and_distrib, Nat.shiftRight_xor_distrib, Nat.shiftRight_xor_distrib, Nat.shiftRight_xor_distrib, ← e A, ← e B, ← e D]
  have h1 : (4294967295 : Nat) >>> 31 = 1 := by decide
  rw [h1]
  have a1 : A / 2147483648 = 0 ∨ A / 2147483648 = 1 := by omega
  have b1 : B / 2147483648 = 0 ∨ B / 2147483648 = 1 := by omega
  have d1 : D / 2147483648 = 0 ∨ D / 2147483648 = 1 := by omega
  unfold bw
  rcases a1 with a1 | a1 <;> rcases b1 with b1 | b1 <;> rcases d1 with d1 | d1 <;> rw [a1, b1, d1] <;> simp <;> omega
theorem bw_bits (a b c : Int) (ha : 0 ≤ a ∧ a < 4294967296) (hb : 0 ≤ b ∧ b < 4294967296) (hc : 0 ≤ c ∧ c ≤ 1) :
    bits BinOp.or IntKind.u32 (bits BinOp.and IntKind.u32 (bits BinOp.xor IntKind.u32 IntKind.u32.max a) b) (bits BinOp.and IntKind.u32 (bits BinOp.xor IntKind.u32 IntKind.u32.max (bits BinOp.xor IntKind.u32 a b)) ((a - b - c) % 4294967296)) / 2147483648 = bw a b c := by
  obtain ⟨A, rfl⟩ := Int.eq_ofNat_of_zero_le ha.1
  obtain ⟨B, rfl⟩ := Int.eq_ofNat_of_zero_le hb.1
  obtain ⟨D, hD⟩ := Int.eq_ofNat_of_zero_le (show 0 ≤ ((A : Int) - B - c) % 4294967296 from Int.emod_nonneg _ (by omega))
  have hD2 : D < 4294967296 := by omega
  have hM : IntKind.u32.max = ((4294967295 : Nat) : Int) := by rfl
  have hA2 : A < 4294967296 := by omega
  have hB2 : B < 4294967296 := by omega
  have x1 : 4294967295 ^^^ A < 4294967296 := Nat.xor_lt_two_pow (n := 32) (by omega) (by omega)
  have x2 : A ^^^ B < 4294967296 := Nat.xor_lt_two_pow (n := 32) (by omega) (by omega)
  have x3 : 4294967295 ^^^ (A ^^^ B) < 4294967296 := Nat.xor_lt_two_pow (n := 32) (by omega) (by omega)
  have x4 : (4294967295 ^^^ A) &&& B < 4294967296 := Nat.and_lt_two_pow (n := 32) _ (by omega)
  have x5 : (4294967295 ^^^ (A ^^^ B)) &&& D < 4294967296 := Nat.and_lt_two_pow (n := 32) _ (by omega)
  rw [hD, hM, u32_xor_nat _ _ (by omega) hA2, u32_xor_nat _ _ hA2 hB2, u32_xor_nat _ _ (by omega) x2, u32_and_nat _ _ x1 hB2, u32_and_nat _ _ x3 hD2, u32_or_nat _ _ x4 x5]
  rw [← bw_nat A B D c hA2 hB2 hD.symm hc]
  rfl

set_option maxHeartbeats 400000 in
theorem sub32_any (a b c : Int) (ha : 0 ≤ a ∧ a < 4294967296) (hb : 0 ≤ b ∧ b < 4294967296) (hc : 0 ≤ c ∧ c ≤ 1) (w : World) :
    Calls Tryd.prog 38 #[.int .u32 a, .int .u32 b, .int .u32 c] w fun e w' => e = .returned (.tuple #[.int .u32 ((a - b - c) % 4294967296), .int .u32 (bw a b c)]) ∧ w' = w := by
  have hbw := bw_bits a b c ha hb hc
  go_enter Tryd.func38, Tryd.ntmps38
  go_wp2
  all_goals
    go_ret2
    first | exact ⟨rfl, rfl⟩ | trace_state

end Go.Proofs.YtkalknmindgljaaDoor
