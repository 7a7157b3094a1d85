/-
  The contract of parts.fromEach, over any invariant that a call of start carries on.
-/
import Derived.Test.YtdgecflljgnobaaXPLsts
namespace Go.Proofs.Ytdgecflljgnobaa
open Go Go.Proofs Go.RowKit

theorem enters_start (args : Array Value) (W : World) : (callFunc 47 args).run Try.prog W = .ok (.enter 47 args) W := by kernel_rfl

set_option maxRecDepth 100000 in
set_option maxHeartbeats 2000000 in
theorem fromEach_any (N : Nat) (hN : N ≤ 1048576) (wb : Nat) (Inv : Nat → World → Prop) (hcall : ∀ k W, k < N → Inv k W → Calls Try.prog 47 #[.pointer (some ⟨wb, 0, none⟩), .int .i64 (k : Int)] W fun e w' => e = .returned (.tuple #[]) ∧ Inv (k + 1) w') (w : World) (h0 : Inv 0 w) :
    Calls Try.prog 46 #[.int .i64 (N : Int), .func (.func 47) #[.pointer (some ⟨wb, 0, none⟩)] #[]] w fun e w' => e = .returned (.tuple #[]) ∧ Inv N w' := by
  go_enter Try.func46, Try.ntmps46
  go_wp2
  go_loopw [6] (fun i wr => ∃ j : Nat, j ≤ N ∧ i = .int .i64 j ∧ Inv j wr) (fun i _ => N - (intOf i).toNat)
  case atStart => exact ⟨0, Nat.zero_le _, rfl, h0⟩
  case round =>
    obtain ⟨j, hj, rfl, hI⟩ := hrel
    by_cases hlt : j < N
    · have hjl : (j : Int) < (N : Int) := by omega
      have hc := hcall j wr hlt hI
      have hent := enters_start
      go_wp2_with fail
      refine hc.mono ?_
      rintro e w2 ⟨rfl, h2⟩
      go_wp2
      exact ⟨⟨j + 1, by omega, by go_num, h2⟩, by simp [intOf]; omega⟩
    · obtain rfl : j = N := by omega
      have hjl : ¬ (j : Int) < (j : Int) := by omega
      go_wp2
      (try simp only [Exit.inBlock, Exit.then])
      refine bodyPost_end (results_none rfl _ _ _) rfl ?_
      exact ⟨rfl, hI⟩
end Go.Proofs.Ytdgecflljgnobaa
