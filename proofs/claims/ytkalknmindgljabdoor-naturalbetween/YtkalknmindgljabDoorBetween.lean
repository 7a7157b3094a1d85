/-
  The walk of filigreelaw01.NaturalBetween: for any two lists it returns true, and nothing that lay has turned.
-/
import Derived.Test.YtkalknmindgljabDoorDivMade
import Derived.Test.YtkalknmindgljabDoorAlive
namespace Go.Proofs.YtkalknmindgljabDoor
open Go Go.Proofs Go.RowKit Go.Shelf

/-- What lies from a square to the one ahead of the next square has that root. -/
theorem root_between {a b : Int} (ha : 0 ≤ a) (hb : 0 ≤ b) (h : a * a + b ≤ a * a + (a + a)) : IsRoot (a * a + b) a := ⟨ha, by omega, by grind⟩
theorem root_above {x a r : Int} (ha : 0 ≤ a) (h : a * a + (a + a) < x) (hr : IsRoot x r) : a < r := by
  obtain ⟨h0, h1, h2⟩ := hr
  rcases Int.lt_or_le a r with c | c
  · exact c
  · have : (r + 1) * (r + 1) ≤ (a + 1) * (a + 1) := Int.mul_le_mul (by omega) (by omega) (by omega) (by omega)
    have e : (a + 1) * (a + 1) = a * a + (a + a) + 1 := by grind
    omega

set_option maxRecDepth 100000 in
set_option maxHeartbeats 4000000 in
theorem between_walk (a b : List Int) (ha : a.length ≤ 9223372036854775807) (hb : b.length ≤ 9223372036854775807) (da : Dig a) (db : Dig b) (w : World) (pa pb : Option Addr) (ca cb : Nat) (hA : U32 w (.slice pa a.length ca) a) (hB : U32 w (.slice pb b.length cb) b) :
    Calls Tryd.prog 7 #[.slice pa a.length ca, .slice pb b.length cb] w fun e w' => e = .returned (.bool true) ∧ Below w.heap.size w w' := by
  go_enter Tryd.func7, Tryd.ntmps7
  by_cases h1 : a.length ≤ 60
  · by_cases h2 : b.length ≤ 60
    · have ma : Num (val a) 60 a := ⟨rfl, da, h1⟩
      have mb : Num (val b) 60 b := ⟨rfl, db, h2⟩
      have p1 := ma.pos
      have p2 := mb.pos
      go_wp2_with fail
      refine (mul_made ma ma (by omega) (by omega) hA hA).mono ?_
      rintro e w1 ⟨s1, L1, rfl, hs1, m1, hb1⟩
      have hA1 := hA.go hb1
      have hB1 := hB.go hb1
      go_wp2_with fail
      refine (add_made ma ma (by omega) (by omega) hA1 hA1).mono ?_
      rintro e w2 ⟨s2, L2, rfl, hs2, m2, hb2⟩
      go_wp2_with fail
      refine (add_made m1.num m2.num (by omega) (by omega) (hs1.go hb2) hs2).mono ?_
      rintro e w3 ⟨s3, L3, rfl, hs3, m3, hb3⟩
      have hb13 := hb2.trans (hb3.mono hb2.size)
      have hA3 := hA1.go hb13
      have hB3 := hB1.go hb13
      have hs1 := hs1.go hb13
      have hbl3 := hb1.trans (hb13.mono hb1.size)
      clear hb1 hb2 hb3 hb13 hA1 hB1 hs2
      go_wp2_with fail
      refine (add_made m1.num mb (by omega) (by omega) hs1 hB3).mono ?_
      rintro e w4 ⟨s4, L4, rfl, hs4, m4, hb4⟩
      go_wp2_with fail
      refine (cmp_made m4.num m3.num (by omega) (by omega) hs4 (hs3.go hb4)).mono ?_
      rintro e w5 ⟨rfl, hb5⟩
      have hb35 := hb4.trans (hb5.mono hb4.size)
      have hA5 := hA3.go hb35
      have hs3 := hs3.go hb35
      have hs4 := hs4.go hb5
      have hbl5 := hbl3.trans (hb35.mono hbl3.size)
      clear hb4 hb5 hb35 hA3 hB3 hs1 hbl3
      by_cases hc : val a * val a + (val a + val a) < val a * val a + val b
      · rw [cmpI_gt hc]
        go_wp2_with fail
        refine (sqrt_made m4.num (by omega) hs4).mono ?_
        rintro e w6 ⟨s6, r6, L6, rfl, hs6, m6, hr6, hb6⟩
        have hab := root_above p1 hc hr6
        go_wp2_with fail
        refine (cmp_made m6.num ma (by omega) (by omega) hs6 (hA5.go hb6)).mono ?_
        rintro e w7 ⟨rfl, hb7⟩
        rw [cmpI_gt hab]
        have hb57 := hb6.trans (hb7.mono hb6.size)
        have hA7 := hA5.go hb57
        have hs3 := hs3.go hb57
        have hbl7 := hbl5.trans (hb57.mono hbl5.size)
        clear hb6 hb7 hb57 hA5 hs4 hs6 hbl5
        go_wp2_with fail
        refine (sqrt_made m3.num (by omega) hs3).mono ?_
        rintro e w8 ⟨s8, r8, L8, rfl, hs8, m8, hr8, hb8⟩
        have e8 : r8 = val a := root_unique hr8 (root_between p1 (by omega) (by omega))
        go_wp2_with fail
        refine (refNorm_made ma (by omega) (hA7.go hb8)).mono ?_
        rintro e w9 ⟨s9, L9, rfl, hs9, m9, hb9⟩
        go_wp2_with fail
        refine (same_made m8 m9 (by omega) (by omega) (hs8.go hb9) hs9 e8).mono ?_
        rintro e w10 ⟨rfl, hb10⟩
        have hb79 := hb8.trans (hb9.mono hb8.size)
        have hb710 := hb79.trans (hb10.mono hb79.size)
        have hbl10 := hbl7.trans (hb710.mono hbl7.size)
        clear hb8 hb9 hb10 hb79 hb710 hbl7 hA7 hs3 hs8 hs9 e8
        go_wp2_with fail
        refine (alive_any _).mono ?_
        rintro e w11 ⟨rfl, hb11⟩
        go_wp2
        go_ret
        exact ⟨rfl, hbl10.trans (hb11.mono hbl10.size)⟩
      · have hcc : cmpI (val a * val a + val b) (val a * val a + (val a + val a)) ≤ 0 := by unfold cmpI; split <;> (try split) <;> omega
        generalize cmpI (val a * val a + val b) (val a * val a + (val a + val a)) = cc at *
        have HC : Hid (val a * val a + val b ≤ val a * val a + (val a + val a)) := show _ ≤ _ by omega
        clear hc
        go_wp2_with fail
        refine (sqrt_made m4.num (by omega) hs4).mono ?_
        rintro e w6 ⟨s6, r6, L6, rfl, hs6, m6, hr6, hb6⟩
        have e6 : r6 = val a := root_unique hr6 (root_between p1 p2 HC.out)
        go_wp2_with fail
        refine (refNorm_made ma (by omega) (hA5.go hb6)).mono ?_
        rintro e w9 ⟨s9, L9, rfl, hs9, m9, hb9⟩
        go_wp2_with fail
        refine (same_made m6 m9 (by omega) (by omega) (hs6.go hb9) hs9 e6).mono ?_
        rintro e w10 ⟨rfl, hb10⟩
        have hb79 := hb6.trans (hb9.mono hb6.size)
        have hb710 := hb79.trans (hb10.mono hb79.size)
        have hbl10 := hbl5.trans (hb710.mono hbl5.size)
        clear hb6 hb9 hb10 hb79 hb710 hbl5 hA5 hs3 hs4 hs6 hs9 e6
        go_wp2_with fail
        refine (alive_any _).mono ?_
        rintro e w11 ⟨rfl, hb11⟩
        go_wp2
        go_ret
        exact ⟨rfl, hbl10.trans (hb11.mono hbl10.size)⟩
    · go_wp2_with fail
      refine (alive_any _).mono ?_
      rintro e w2 ⟨rfl, hb2⟩
      go_wp2
      go_ret
      exact ⟨rfl, hb2⟩
  · go_wp2_with fail
    refine (alive_any _).mono ?_
    rintro e w2 ⟨rfl, hb2⟩
    go_wp2
    go_ret
    exact ⟨rfl, hb2⟩

end Go.Proofs.YtkalknmindgljabDoor
