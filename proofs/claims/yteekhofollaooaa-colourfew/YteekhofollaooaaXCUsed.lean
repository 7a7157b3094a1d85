/-
  The contracts of colour.Used and the reference's.
-/
import Derived.Test.YteekhofollaooaaQA
namespace Go.Proofs.Yteekhofollaooaa
open Go Go.Proofs Go.RowKit

/-- The greatest of these, or -1. -/
def mxL (L : List Int) : Int := L.foldl (fun a b => if a < b then b else a) (-1)
theorem mxL_snoc (L : List Int) (x : Int) : mxL (L ++ [x]) = if mxL L < x then x else mxL L := by
  unfold mxL
  rw [List.foldl_append]
  rfl
theorem mxL_take {L : List Int} {j : Nat} (h : j < L.length) : mxL (L.take (j + 1)) = if mxL (L.take j) < L[j] then L[j] else mxL (L.take j) := by
  rw [List.take_add_one, List.getElem?_eq_getElem h]
  exact mxL_snoc _ _
theorem mxL_lo : ∀ j (L : List Int), -1 ≤ mxL (L.take j) := by
  intro j L
  induction j with
  | zero => simp [mxL]
  | succ j ih =>
    by_cases h : j < L.length
    · rw [mxL_take h]; split <;> omega
    · rw [List.take_of_length_le (by omega)]
      rw [List.take_of_length_le (by omega)] at ih
      exact ih
theorem mxL_hi {B : Int} (hB : -1 < B) {L : List Int} (hL : ∀ x ∈ L, x < B) : ∀ j, mxL (L.take j) < B := by
  intro j
  induction j with
  | zero => simpa [mxL] using hB
  | succ j ih =>
    by_cases h : j < L.length
    · rw [mxL_take h]
      have := hL _ (List.getElem_mem h)
      split <;> omega
    · rw [List.take_of_length_le (by omega)]
      rw [List.take_of_length_le (by omega)] at ih
      exact ih

set_option maxRecDepth 100000 in
set_option maxHeartbeats 2000000 in
theorem used_any (c : List Int) (hl : c.length ≤ 9223372036854775807) (hc : ∀ x ∈ c, x < 4611686018427387904) (sv : Value) (n : Nat) (w : World) (h : Ints n w sv c) :
    Calls Try.prog 13 #[sv] w fun e w' => e = .returned (.int .i64 (mxL c + 1)) ∧ w' = w := by
  obtain ⟨p, k, rfl⟩ := h.len
  have HI : Hid (Ints n w (.slice p c.length k) c) := h
  have HC : Hid (∀ x ∈ c, x < 4611686018427387904) := hc
  clear h hc
  go_enter Try.func13, Try.ntmps13
  go_wp2
  go_loop [3, 8] (fun gv iv => ∃ j : Nat, j ≤ c.length ∧ gv = .int .i64 (mxL (c.take j)) ∧ iv = .int .i64 j) (fun _ iv => c.length - (intOf iv).toNat)
  case atStart => exact ⟨0, Nat.zero_le _, rfl, rfl⟩
  case round =>
    obtain ⟨j, hj, rfl, rfl⟩ := hrel
    have h1 := mxL_lo j c
    have h2 := mxL_hi (by decide) HC.out j
    by_cases hlt : j < c.length
    · have hjl : (j : Int) < (c.length : Int) := by omega
      obtain ⟨b, off, rfl, hbb, hcap, hcc⟩ := HI.out.open hlt
      have c0 := hcc w (Below.refl _ _) j hlt
      have HS : Hid _ := mxL_take hlt
      generalize mxL (c.take j) = g at *
      generalize c[j] = x at *
      clear hcc
      rcases Int.lt_trichotomy g x with hx | hx | hx
      · have HM : Hid (mxL (c.take (j + 1)) = x) := HS.out.trans (if_pos hx)
        clear HS
        go_wp2
        exact ⟨⟨j + 1, by omega, by rw [HM.out], by go_num⟩, by simp [intOf]; omega⟩
      · subst hx
        have HM : Hid (mxL (c.take (j + 1)) = g) := HS.out.trans (if_neg (by omega))
        clear HS
        go_wp2
        exact ⟨⟨j + 1, by omega, by rw [HM.out], by go_num⟩, by simp [intOf]; omega⟩
      · have HM : Hid (mxL (c.take (j + 1)) = g) := HS.out.trans (if_neg (by omega))
        clear HS
        go_wp2
        exact ⟨⟨j + 1, by omega, by rw [HM.out], by go_num⟩, by simp [intOf]; omega⟩
    · obtain rfl : j = c.length := by omega
      have hjl : ¬ (c.length : Int) < (c.length : Int) := by omega
      rw [List.take_length] at h1 h2 ⊢
      have hne : (mxL c == 9223372036854775807) = false := by rw [beq_eq_false_iff_ne]; omega
      generalize hgg : mxL c = g at *
      have HGG : Hid (mxL c = g) := hgg
      clear hgg
      go_wp2
      go_ret
      exact ⟨by rw [HGG.out]; rfl, rfl⟩

set_option maxRecDepth 100000 in
set_option maxHeartbeats 2000000 in
theorem refUsed_any (c : List Int) (hl : c.length ≤ 9223372036854775807) (hc : ∀ x ∈ c, x < 4611686018427387904) (sv : Value) (n : Nat) (w : World) (h : Ints n w sv c) :
    Calls Try.prog 14 #[sv] w fun e w' => e = .returned (.int .i64 (mxL c + 1)) ∧ w' = w := by
  obtain ⟨p, k, rfl⟩ := h.len
  have HI : Hid (Ints n w (.slice p c.length k) c) := h
  have HC : Hid (∀ x ∈ c, x < 4611686018427387904) := hc
  clear h hc
  go_enter Try.func14, Try.ntmps14
  go_wp2
  go_loop [3, 4] (fun gv iv => ∃ j : Nat, j ≤ c.length ∧ gv = .int .i64 (mxL (c.take j) + 1) ∧ iv = .int .i64 j) (fun _ iv => c.length - (intOf iv).toNat)
  case atStart => exact ⟨0, Nat.zero_le _, rfl, rfl⟩
  case round =>
    obtain ⟨j, hj, rfl, rfl⟩ := hrel
    have h1 := mxL_lo j c
    have h2 := mxL_hi (by decide) HC.out j
    by_cases hlt : j < c.length
    · have hjl : (j : Int) < (c.length : Int) := by omega
      obtain ⟨b, off, rfl, hbb, hcap, hcc⟩ := HI.out.open hlt
      have c0 := hcc w (Below.refl _ _) j hlt
      have hx4 := HC.out _ (List.getElem_mem hlt)
      have HS : Hid _ := mxL_take hlt
      generalize mxL (c.take j) = g at *
      generalize c[j] = x at *
      clear hcc
      by_cases hx : g < x
      · have HM : Hid (mxL (c.take (j + 1)) = x) := HS.out.trans (if_pos hx)
        have hx' : g + 1 ≤ x := by omega
        clear HS
        go_wp2
        exact ⟨⟨j + 1, by omega, by rw [HM.out], by go_num⟩, by simp [intOf]; omega⟩
      · have HM : Hid (mxL (c.take (j + 1)) = g) := HS.out.trans (if_neg hx)
        have hx' : ¬ g + 1 ≤ x := by omega
        clear HS
        go_wp2
        exact ⟨⟨j + 1, by omega, by rw [HM.out], by go_num⟩, by simp [intOf]; omega⟩
    · obtain rfl : j = c.length := by omega
      have hjl : ¬ (c.length : Int) < (c.length : Int) := by omega
      rw [List.take_length] at h1 h2 ⊢
      generalize hgg : mxL c = g at *
      have HGG : Hid (mxL c = g) := hgg
      clear hgg
      go_wp2
      go_ret
      exact ⟨by rw [HGG.out]; rfl, rfl⟩
end Go.Proofs.Yteekhofollaooaa
