/-
  The contract of filigreelaw01.alive: it returns true.
-/
import Derived.Test.YtkalknmindgljaaDoorDivMod
import Derived.Test.YtkalknmindgljaaDoorPow
import Derived.Test.YtkalknmindgljaaDoorLight
namespace Go.Proofs.YtkalknmindgljaaDoor
open Go Go.Proofs Go.RowKit Go.Shelf

theorem smallLong : LongOK (fun r => r < 4294967296) := by
  intro a b w sa sb hA hB da db na nb h2 hle hl hok
  have := val_lt_len (x := [4294967295]) (y := b) (Dig.one (by omega)) db nb (by simp; omega)
  simp [val] at this
  exfalso
  have hok' : val b < 4294967296 := hok
  omega
theorem smallDiv : DivOK (fun r => r < 4294967296) := divMod_of smallLong

theorem num_lit (zs : List Int) (hd : Dig zs) (hn : trimL zs = zs) : num (val zs) = zs := by rw [← trimL_num hd, hn]
theorem dig_lit (zs : List Int) (h : zs.all (fun z => decide (0 ≤ z ∧ z < 4294967296)) = true) : Dig zs := fun z hz => by
  have := List.all_eq_true.1 h z hz
  simpa using this

theorem num_64 : num (4294967296 * 4294967296) = [0, 0, 1] := by
  have := num_lit [0, 0, 1] (dig_lit _ (by decide)) (by decide)
  rwa [show val [0, 0, 1] = 4294967296 * 4294967296 by decide] at this
theorem num_99 : num 99 = [99] := by
  have := num_lit [99] (dig_lit _ (by decide)) (by decide)
  rwa [show val [99] = 99 by decide] at this
theorem num_9 : num 9 = [9] := by
  have := num_lit [9] (dig_lit _ (by decide)) (by decide)
  rwa [show val [9] = 9 by decide] at this

set_option maxRecDepth 100000 in
set_option maxHeartbeats 2000000 in
theorem alive_any (w : World) : Calls Tryd.prog 10 #[] w fun e w' => e = .returned (.bool true) ∧ Below w.heap.size w w' := by
  have l1 : trimL [4294967296 % 4294967296, 4294967296 / 4294967296] = num 4294967296 := ofL 4294967296 (by omega)
  have hl32 : (num 4294967296).length ≤ 2 := num_len (by decide)
  have v32 := num_val (v := 4294967296) (by omega)
  go_enter Tryd.func10, Tryd.ntmps10
  go_wp2_with fail
  refine (of_any 4294967296 (by omega) _).mono ?_
  rintro e w1 ⟨s1, rfl, h1, hb1⟩
  rw [l1] at h1
  go_wp2_with fail
  refine (of_any 4294967296 (by omega) _).mono ?_
  rintro e w2 ⟨s2, rfl, h2, hb2⟩
  rw [l1] at h2
  have h12 := h1.go hb2
  go_wp2_with fail
  refine (mul_any h12 h2 (num_dig _) (num_dig _) (by omega) (by omega)).mono ?_
  rintro e w3 ⟨s3, rfl, h3, hb3⟩
  rw [v32, num_64] at h3
  have hB3 : Below w.heap.size w w3 := hb1.trans ((hb2.trans (hb3.mono hb2.size)).mono hb1.size)
  clear h1 h2 h12 hb1 hb2 hb3 l1
  have h4 := Seg.new (q := .u32) w3 #[.int .u32 0, .int .u32 0, .int .u32 1] 42 [0, 0, 1] 3 (by simp) (vs3 _ _ _)
  have hb4 : Below w3.heap.size w3 (w3.alloc (.cells #[.int .u32 0, .int .u32 0, .int .u32 1] 42)) := (Below.refl _ _).alloc (Nat.le_refl _) _
  go_wp2_with fail
  refine (same_any [0, 0, 1] [0, 0, 1] (by simp) (by simp) _ _ _ (h3.go hb4) (h4.up (by simp))).mono ?_
  rintro e w5 ⟨rfl, hb5⟩
  have hB5 : Below w.heap.size w w5 := hB3.trans ((hb4.trans (hb5.mono hb4.size)).mono hB3.size)
  clear h3 h4 hb4 hb5
  rw [show decide (([0, 0, 1] : List Int) = [0, 0, 1]) = true by decide]
  go_wp2_with fail
  refine (of_any 99 (by omega) _).mono ?_
  rintro e w6 ⟨s6, rfl, h6, hb6⟩
  rw [ofL 99 (by omega)] at h6
  have hB6 : Below w.heap.size w w6 := hB5.trans (hb6.mono hB5.size)
  go_wp2_with fail
  have hok99 : ∀ r : Int, 0 < r → r ≤ 2 ^ (16 * (trimL (num 99)).length) → r < 4294967296 := fun r hr0 hr1 => by
    rw [num_norm, num_99] at hr1
    have : r ≤ 65536 := by simpa using hr1
    omega
  refine (sqrt_any smallDiv h6 (num_dig _) (by rw [num_99]; simp) hok99).mono ?_
  rintro e w7 ⟨s7, r, rfl, h7, hroot, hb7⟩
  rw [num_val (by omega)] at hroot
  obtain rfl : r = 9 := root_unique hroot ⟨by omega, by omega, by omega⟩
  rw [num_9] at h7
  have hB7 : Below w.heap.size w w7 := hB6.trans (hb7.mono hB6.size)
  have h8 := Seg.new (q := .u32) w7 #[.int .u32 9] 42 [9] 1 (by simp) (vs1 _)
  have hb8 : Below w7.heap.size w7 (w7.alloc (.cells #[.int .u32 9] 42)) := (Below.refl _ _).alloc (Nat.le_refl _) _
  go_wp2_with fail
  refine (same_any [9] [9] (by simp) (by simp) _ _ _ (h7.go hb8) (h8.up (by simp))).mono ?_
  rintro e w9 ⟨rfl, hb9⟩
  have hB9 : Below w.heap.size w w9 := hB7.trans ((hb8.trans (hb9.mono hb8.size)).mono hB7.size)
  rw [show decide (([9] : List Int) = [9]) = true by decide]
  go_wp2_with fail
  refine (text_nil _).mono ?_
  rintro e w10 ⟨rfl, hb10⟩
  go_wp2
  go_ret
  exact ⟨by simp, hB9.trans (hb10.mono hB9.size)⟩

end Go.Proofs.YtkalknmindgljaaDoor
