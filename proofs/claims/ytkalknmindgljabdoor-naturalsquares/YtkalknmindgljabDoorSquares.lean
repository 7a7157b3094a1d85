/-
  The walk of filigreelaw01.NaturalSquares: for any list it returns true, and nothing that lay has turned.
-/
import Derived.Test.YtkalknmindgljabDoorDivMade
import Derived.Test.YtkalknmindgljabDoorAlive
namespace Go.Proofs.YtkalknmindgljabDoor
open Go Go.Proofs Go.RowKit Go.Shelf

set_option maxRecDepth 100000 in
set_option maxHeartbeats 4000000 in
theorem squares_walk (a : List Int) (ha : a.length ≤ 9223372036854775807) (da : Dig a) (w : World) (pa : Option Addr) (ca : Nat) (hA : U32 w (.slice pa a.length ca) a) :
    Calls Tryd.prog 5 #[.slice pa a.length ca] w fun e w' => e = .returned (.bool true) ∧ Below w.heap.size w w' := by
  go_enter Tryd.func5, Tryd.ntmps5
  by_cases h1 : a.length ≤ 100
  · have ma : Num (val a) 100 a := ⟨rfl, da, h1⟩
    have m1 : Num 1 1 [1] := ⟨rfl, Dig.one (by omega), by simp⟩
    go_wp2_with fail
    refine (sqrt_made ma (by omega) hA).mono ?_
    rintro e w1 ⟨s1, r, L1, rfl, hs1, ms, hroot, hb1⟩
    obtain ⟨r0, r1, r2⟩ := hroot
    have hA1 := hA.go hb1
    have hn := Seg.new (q := .u32) w1 #[.int .u32 1] 35 [1] 1 (by simp) (vs1 1)
    have hbn : Below w1.heap.size w1 (w1.alloc (.cells #[.int .u32 1] 35)) := (Below.refl _ _).alloc (Nat.le_refl _) _
    go_wp2_with fail
    refine (add_made ms.num m1 (by omega) (by omega) (hs1.go hbn) (hn.up (by simp))).mono ?_
    rintro e w2 ⟨s2, L2, rfl, h2, m2, hb2⟩
    have hb12 := hbn.trans (hb2.mono hbn.size)
    have hA2 := hA1.go hb12
    have hs2 := hs1.go hb12
    have hbl2 := hb1.trans (hb12.mono hb1.size)
    clear hb1 hb2 hbn hb12 hA1 hs1 hn
    go_wp2_with fail
    refine (mul_made ms.num ms.num (by omega) (by omega) hs2 hs2).mono ?_
    rintro e w3 ⟨s3, L3, rfl, h3, m3, hb3⟩
    go_wp2_with fail
    refine (cmp_made m3.num ma (by omega) (by omega) h3 (hA2.go hb3)).mono ?_
    rintro e w4 ⟨rfl, hb4⟩
    have hc1 : cmpI (r * r) (val a) ≤ 0 := by unfold cmpI; split <;> (try split) <;> omega
    generalize cmpI (r * r) (val a) = c1 at *
    have hb24 := hb3.trans (hb4.mono hb3.size)
    have hA4 := hA2.go hb24
    have h4 := h2.go hb24
    have hbl4 := hbl2.trans (hb24.mono hbl2.size)
    clear hb3 hb4 hb24 hbl2 hA2 hs2 h2 h3
    go_wp2_with fail
    refine (mul_made m2.num m2.num (by omega) (by omega) h4 h4).mono ?_
    rintro e w5 ⟨s5, L5, rfl, h5, m5, hb5⟩
    go_wp2_with fail
    refine (cmp_made m5.num ma (by omega) (by omega) h5 (hA4.go hb5)).mono ?_
    rintro e w6 ⟨rfl, hb6⟩
    rw [cmpI_gt r2]
    have hb46 := hb5.trans (hb6.mono hb5.size)
    have hA6 := hA4.go hb46
    have hbl6 := hbl4.trans (hb46.mono hbl4.size)
    clear hb5 hb6 hb46 hbl4 hA4 h4 h5
    go_wp2_with fail
    refine (mul_made ma ma (by omega) (by omega) hA6 hA6).mono ?_
    rintro e w7 ⟨s7, L7, rfl, h7, m7, hb7⟩
    go_wp2_with fail
    refine (sqrt_made m7.num (by omega) h7).mono ?_
    rintro e w8 ⟨s8, r8, L8, rfl, h8, m8, hr8, hb8⟩
    have e8 : r8 = val a := root_unique hr8 (root_sq ma.pos)
    have hb68 := hb7.trans (hb8.mono hb7.size)
    go_wp2_with fail
    refine (refNorm_made ma (by omega) (hA6.go hb68)).mono ?_
    rintro e w9 ⟨s9, L9, rfl, h9, m9, hb9⟩
    go_wp2_with fail
    refine (same_made m8 m9 (by omega) (by omega) (h8.go hb9) h9 e8).mono ?_
    rintro e w10 ⟨rfl, hb10⟩
    have hb69 := hb68.trans (hb9.mono hb68.size)
    have hb610 := hb69.trans (hb10.mono hb69.size)
    have hbl10 := hbl6.trans (hb610.mono hbl6.size)
    clear hb7 hb8 hb9 hb10 hb68 hb69 hb610 hbl6 hA6 h7 h8 h9 e8
    go_wp2_with fail
    refine (alive_any _).mono ?_
    rintro e w11 ⟨rfl, hb11⟩
    go_wp2
    go_ret
    exact ⟨rfl, hbl10.trans (hb11.mono hbl10.size)⟩
  · go_wp2_with fail
    refine (alive_any _).mono ?_
    rintro e w2 ⟨rfl, hb2⟩
    go_wp2
    go_ret
    exact ⟨rfl, hb2⟩

end Go.Proofs.YtkalknmindgljabDoor
