/-
  The contract of filigreelaw01.Light.
-/
import Derived.Test.YtkalknmindgljaaDoorTrimB
namespace Go.Proofs.YtkalknmindgljaaDoor
open Go Go.Proofs Go.RowKit Go.Shelf

/-- Are all lengths at most 12? -/
def lightB (f : Nat → Nat) (n : Nat) : Bool := decide (∀ j, j < n → f j ≤ 12)

set_option maxRecDepth 100000 in
set_option maxHeartbeats 1000000 in
theorem light_any (w : World) (b n c : Nat) (p : Nat → Option Addr) (f g : Nat → Nat) (hn : n ≤ 100) (hc : ∀ j, j < n → w.cell? ⟨b, j, none⟩ = some (.slice (p j) (f j) (g j))) (hf : ∀ j, j < n → f j ≤ 9223372036854775807) :
    Calls Tryd.prog 9 #[.slice (some ⟨b, 0, none⟩) n c] w fun e w' => e = .returned (.bool (lightB f n)) ∧ w' = w := by
  go_enter Tryd.func9, Tryd.ntmps9
  go_wp2
  go_loop [3] (fun i => ∃ k : Nat, k ≤ n ∧ i = .int .i64 k ∧ (∀ j, j < k → f j ≤ 12)) (fun i => n - (intOf i).toNat)
  case atStart => exact ⟨0, Nat.zero_le _, rfl, by intro j hj; omega⟩
  case round =>
    obtain ⟨k, hk, rfl, hj⟩ := hrel
    by_cases hlt : k < n
    · have hcx := hc k hlt
      have hfk := hf k hlt
      by_cases h12 : f k ≤ 12
      · have HE : Hid (∀ j, j < k + 1 → f j ≤ 12) := fun j hj' => by
          rcases Nat.lt_or_ge j k with h | h
          · exact hj j h
          · obtain rfl : j = k := by omega
            exact h12
        go_wp2
        go_round
        case rel => exact ⟨k + 1, by omega, by go_num, HE.out⟩
        case measure => simp [intOf]; omega
      · have hL : lightB f n = false := by
          simp only [lightB, decide_eq_false_iff_not]
          intro h; exact h12 (h k hlt)
        have HL : Hid (lightB f n = false) := hL
        clear hL
        go_wp2
        go_ret
        exact ⟨by rw [HL.out]; rfl, rfl⟩
    · obtain rfl : k = n := by omega
      have hL : lightB f k = true := by
        simp only [lightB, decide_eq_true_eq]
        exact hj
      have HL : Hid (lightB f k = true) := hL
      clear hL
      go_wp2
      go_ret
      exact ⟨by rw [HL.out]; rfl, rfl⟩

theorem lightB_two (x y : Nat) (f : Nat → Nat) (h0 : f 0 = x) (h1 : f 1 = y) : lightB f 2 = decide (x ≤ 12 ∧ y ≤ 12) := by
  unfold lightB
  congr 1
  apply propext
  constructor
  · intro h
    have a := h 0 (by omega)
    have b := h 1 (by omega)
    omega
  · intro h j hj
    have : j = 0 ∨ j = 1 := by omega
    rcases this with rfl | rfl <;> omega

theorem light_two (w : World) (pa pb : Option Addr) (la lb ca cb : Nat) (ha : la ≤ 9223372036854775807) (hb : lb ≤ 9223372036854775807) :
    Calls Tryd.prog 9 #[.slice (some ⟨w.heap.size, 0, none⟩) 2 2] (w.alloc (.cells #[.slice pa la ca, .slice pb lb cb] 23)) fun e w' => e = .returned (.bool (decide (la ≤ 12 ∧ lb ≤ 12))) ∧ w' = w.alloc (.cells #[.slice pa la ca, .slice pb lb cb] 23) := by
  have hl := light_any (w.alloc (.cells #[.slice pa la ca, .slice pb lb cb] 23)) w.heap.size 2 2 (fun j => if j = 0 then pa else pb) (fun j => if j = 0 then la else lb) (fun j => if j = 0 then ca else cb) (by omega)
    (fun j hj => by
      rw [cell_new]
      have : j = 0 ∨ j = 1 := by omega
      rcases this with rfl | rfl <;> rfl)
    (fun j hj => by
      have : j = 0 ∨ j = 1 := by omega
      rcases this with rfl | rfl
      · simpa using ha
      · simpa using hb)
  rw [lightB_two la lb _ rfl rfl] at hl
  exact hl
theorem lightB_three (x y z : Nat) (f : Nat → Nat) (h0 : f 0 = x) (h1 : f 1 = y) (h2 : f 2 = z) : lightB f 3 = decide (x ≤ 12 ∧ y ≤ 12 ∧ z ≤ 12) := by
  unfold lightB
  congr 1
  apply propext
  constructor
  · intro h
    have a := h 0 (by omega)
    have b := h 1 (by omega)
    have c := h 2 (by omega)
    omega
  · intro h j hj
    have : j = 0 ∨ j = 1 ∨ j = 2 := by omega
    rcases this with rfl | rfl | rfl <;> omega
theorem light_three (w : World) (pa pb pc : Option Addr) (la lb lc ca cb cc : Nat) (ha : la ≤ 9223372036854775807) (hb : lb ≤ 9223372036854775807) (hc : lc ≤ 9223372036854775807) :
    Calls Tryd.prog 9 #[.slice (some ⟨w.heap.size, 0, none⟩) 3 3] (w.alloc (.cells #[.slice pa la ca, .slice pb lb cb, .slice pc lc cc] 23)) fun e w' => e = .returned (.bool (decide (la ≤ 12 ∧ lb ≤ 12 ∧ lc ≤ 12))) ∧ w' = w.alloc (.cells #[.slice pa la ca, .slice pb lb cb, .slice pc lc cc] 23) := by
  have hl := light_any (w.alloc (.cells #[.slice pa la ca, .slice pb lb cb, .slice pc lc cc] 23)) w.heap.size 3 3 (fun j => if j = 0 then pa else if j = 1 then pb else pc) (fun j => if j = 0 then la else if j = 1 then lb else lc) (fun j => if j = 0 then ca else if j = 1 then cb else cc) (by omega)
    (fun j hj => by
      rw [cell_new]
      have : j = 0 ∨ j = 1 ∨ j = 2 := by omega
      rcases this with rfl | rfl | rfl <;> rfl)
    (fun j hj => by
      have : j = 0 ∨ j = 1 ∨ j = 2 := by omega
      rcases this with rfl | rfl | rfl
      · simpa using ha
      · simpa using hb
      · simpa using hc)
  rw [lightB_three la lb lc _ rfl rfl rfl] at hl
  exact hl

end Go.Proofs.YtkalknmindgljaaDoor
