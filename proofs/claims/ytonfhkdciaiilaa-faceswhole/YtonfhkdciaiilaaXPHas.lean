/-
  The contract of the reference's Has.
-/
import Derived.Test.YtonfhkdciaiilaaQA
namespace Go.Proofs.Ytonfhkdciaiilaa
open Go Go.Proofs Go.RowKit

theorem take_snoc {α : Type} {a : List α} {j : Nat} (h : j < a.length) : a.take (j + 1) = a.take j ++ [a[j]] := by rw [List.take_add_one, List.getElem?_eq_getElem h]; rfl
def inB (a : List Int) (x : Int) : Bool := decide (x ∈ a)
theorem inB_true {a : List Int} {x : Int} : inB a x = true ↔ x ∈ a := by simp [inB]
theorem inB_false {a : List Int} {x : Int} : inB a x = false ↔ x ∉ a := by simp [inB]
theorem inB_snoc (a : List Int) (y x : Int) : inB (a ++ [y]) x = (inB a x || decide (x = y)) := by simp [inB]
set_option maxRecDepth 100000 in
theorem has_any (a : List Int) (ha : a.length ≤ 4194304) (x : Int) (sa : Value) (m : Nat) (w : World) (hA : Ints m w sa a) :
    Calls Try.prog 17 #[sa, .int .i64 x] w fun r w' => r = .returned (.bool (inB a x)) ∧ w' = w := by
  obtain ⟨p, c, rfl⟩ := hA.len
  go_enter Try.func17, Try.ntmps17
  go_wp2
  go_loop [5] (fun i => ∃ j : Nat, j ≤ a.length ∧ i = .int .i64 j ∧ Hid (inB (a.take j) x = false)) (fun i => a.length - (intOf i).toNat)
  case atStart => exact ⟨0, Nat.zero_le _, rfl, inB_false.2 (by simp)⟩
  case round =>
    obtain ⟨j, hj, rfl, hr⟩ := hrel
    by_cases hlt : j < a.length
    · obtain ⟨b, off, rfl, hbb, hcap, hc⟩ := hA.open hlt
      have c0 := hc w (Below.refl _ _) j hlt
      have hjl : (j : Int) < (a.length : Int) := by omega
      by_cases he : a[j] = x
      · have he' : (a[j] == x) = true := by simpa using he
        have HE : Hid (inB a x = true) := by
          unfold Hid; rw [inB_true, ← he]; exact List.getElem_mem hlt
        clear hc hr he
        go_wp2
        go_ret
        exact ⟨by rw [HE.out]; rfl, rfl⟩
      · have he' : (a[j] == x) = false := by simpa using he
        have HS : Hid (inB (a.take (j + 1)) x = false) := by
          unfold Hid
          rw [take_snoc hlt, inB_snoc, hr.out]
          simp
          exact fun h => he h.symm
        clear hc hr he
        go_wp2
        exact ⟨⟨j + 1, by omega, by go_num, HS⟩, by simp [intOf]; omega⟩
    · obtain rfl : j = a.length := by omega
      have HE : Hid (inB a x = false) := by have := hr.out; rwa [List.take_length] at this
      clear hr
      go_wp2
      go_ret
      exact ⟨by rw [HE.out]; rfl, rfl⟩

end Go.Proofs.Ytonfhkdciaiilaa
