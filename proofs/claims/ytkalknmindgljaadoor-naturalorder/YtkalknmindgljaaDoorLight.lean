/-
  The contract of filigreelaw01.Light.
-/
import Derived.Test.YtkalknmindgljaaDoorTrimB
namespace Go.Proofs.YtkalknmindgljaaDoor
open Go Go.Proofs Go.RowKit Go.Shelf

/-- Are all lengths at most 12? -/
def lightB (f : Nat → Nat) (n : Nat) : Bool := decide (∀ j, j < n → f j ≤ 12)

set_option maxRecDepth 100000 in
set_option maxHeartbeats 1000000 in
theorem light_any (w : World) (b n c : Nat) (p : Nat → Option Addr) (f g : Nat → Nat) (hn : n ≤ 100) (hc : ∀ j, j < n → w.cell? ⟨b, j, none⟩ = some (.slice (p j) (f j) (g j))) (hf : ∀ j, j < n → f j ≤ 9223372036854775807) :
    Calls Tryd.prog 9 #[.slice (some ⟨b, 0, none⟩) n c] w fun e w' => e = .returned (.bool (lightB f n)) ∧ w' = w := by
  go_enter Tryd.func9, Tryd.ntmps9
  go_wp2
  go_loop [3] (fun i => ∃ k : Nat, k ≤ n ∧ i = .int .i64 k ∧ (∀ j, j < k → f j ≤ 12)) (fun i => n - (intOf i).toNat)
  case atStart => exact ⟨0, Nat.zero_le _, rfl, by intro j hj; omega⟩
  case round =>
    obtain ⟨k, hk, rfl, hj⟩ := hrel
    by_cases hlt : k < n
    · have hcx := hc k hlt
      have hfk := hf k hlt
      by_cases h12 : f k ≤ 12
      · have HE : Hid (∀ j, j < k + 1 → f j ≤ 12) := fun j hj' => by
          rcases Nat.lt_or_ge j k with h | h
          · exact hj j h
          · obtain rfl : j = k := by omega
            exact h12
        go_wp2
        go_round
        case rel => exact ⟨k + 1, by omega, by go_num, HE.out⟩
        case measure => simp [intOf]; omega
      · have hL : lightB f n = false := by
          simp only [lightB, decide_eq_false_iff_not]
          intro h; exact h12 (h k hlt)
        have HL : Hid (lightB f n = false) := hL
        clear hL
        go_wp2
        go_ret
        exact ⟨by rw [HL.out]; rfl, rfl⟩
    · obtain rfl : k = n := by omega
      have hL : lightB f k = true := by
        simp only [lightB, decide_eq_true_eq]
        exact hj
      have HL : Hid (lightB f k = true) := hL
      clear hL
      go_wp2
      go_ret
      exact ⟨by rw [HL.out]; rfl, rfl⟩

end Go.Proofs.YtkalknmindgljaaDoor
