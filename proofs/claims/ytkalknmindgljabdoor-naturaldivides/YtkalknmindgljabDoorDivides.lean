/-
  The walk of filigreelaw01.NaturalDivides: for any two lists it returns true, and nothing that lay has turned.
-/
import Derived.Test.YtkalknmindgljabDoorDivMade
import Derived.Test.YtkalknmindgljabDoorAlive
namespace Go.Proofs.YtkalknmindgljabDoor
open Go Go.Proofs Go.RowKit Go.Shelf

set_option maxRecDepth 100000 in
set_option maxHeartbeats 4000000 in
theorem divides_walk (a b : List Int) (ha : a.length ≤ 9223372036854775807) (hb : b.length ≤ 9223372036854775807) (da : Dig a) (db : Dig b) (w : World) (pa pb : Option Addr) (ca cb : Nat) (hA : U32 w (.slice pa a.length ca) a) (hB : U32 w (.slice pb b.length cb) b) :
    Calls Tryd.prog 4 #[.slice pa a.length ca, .slice pb b.length cb] w fun e w' => e = .returned (.bool true) ∧ Below w.heap.size w w' := by
  go_enter Tryd.func4, Tryd.ntmps4
  by_cases h1 : a.length ≤ 200
  · by_cases h2 : b.length ≤ 200
    · have ma : Num (val a) 200 a := ⟨rfl, da, h1⟩
      have mb : Num (val b) 200 b := ⟨rfl, db, h2⟩
      by_cases hz : val b = 0
      · go_wp2_with fail
        refine (divMod_zero hA hB db (by omega) (by omega) hz).mono ?_
        rintro e w1 ⟨rfl, hb1⟩
        have hA1 := hA.go hb1
        have hB1 := hB.go hb1
        go_wp2_with fail
        refine (refNorm_made mb (by omega) hB1).mono ?_
        rintro e w2 ⟨s2, l2, rfl, h2, m2, hb2⟩
        have hl2 : l2 = [] := by rw [m2.eq, hz, num_zero]
        subst hl2
        obtain ⟨p2, c2, rfl⟩ := h2.len
        have hbl2 := hb1.trans (hb2.mono hb1.size)
        clear hb1 hb2 hA1 hB1
        go_wp2_with fail
        refine (alive_any _).mono ?_
        rintro e w3 ⟨rfl, hb3⟩
        go_wp2
        go_ret
        exact ⟨rfl, hbl2.trans (hb3.mono hbl2.size)⟩
      · have hy : 0 < val b := by have := mb.pos; omega
        go_wp2_with fail
        refine (divMod_made ma mb (by omega) (by omega) hy hA hB).mono ?_
        rintro e w1 ⟨sq, sr, q, r, rfl, hq, hr, mq, mr, hb1⟩
        have hA1 := hA.go hb1
        have hB1 := hB.go hb1
        go_wp2_with fail
        refine (refNorm_made mb (by omega) hB1).mono ?_
        rintro e w2 ⟨s2, l2, rfl, h2, m2, hb2⟩
        have hl2 : ((l2.length : Int) == 0) = false := by
          rw [beq_eq_false_iff_ne]
          intro h
          have e0 : l2 = [] := List.eq_nil_of_length_eq_zero (by omega)
          have := m2.num.val
          rw [e0] at this
          simp [val] at this
          omega
        obtain ⟨p2, c2, rfl⟩ := h2.len
        have hA2 := hA1.go hb2
        have hB2 := hB1.go hb2
        have hq := hq.go hb2
        have hr := hr.go hb2
        have hbl2 := hb1.trans (hb2.mono hb1.size)
        clear hA1 hB1 hb1 hb2
        go_wp2_with fail
        refine (mul_made mq.num mb (by omega) (by omega) hq hB2).mono ?_
        rintro e w3 ⟨s3, l3, rfl, h3, m3, hb3⟩
        go_wp2_with fail
        refine (add_made m3.num mr.num (by omega) (by omega) h3 (hr.go hb3)).mono ?_
        rintro e w4 ⟨s4, l4, rfl, h4, m4, hb4⟩
        have hb24 := hb3.trans (hb4.mono hb3.size)
        go_wp2_with fail
        refine (refNorm_made ma (by omega) (hA2.go hb24)).mono ?_
        rintro e w5 ⟨s5, l5, rfl, h5, m5, hb5⟩
        go_wp2_with fail
        refine (same_made m4 m5 (by omega) (by omega) (h4.go hb5) h5 (by rw [Int.mul_comm]; exact Int.mul_ediv_add_emod _ _)).mono ?_
        rintro e w6 ⟨rfl, hb6⟩
        have hb25 := hb24.trans (hb5.mono hb24.size)
        have hb26 := hb25.trans (hb6.mono hb25.size)
        have hr6 := hr.go hb26
        have hB6 := hB2.go hb26
        have hbl6 := hbl2.trans (hb26.mono hbl2.size)
        clear hb3 hb4 hb5 hb6 hb24 hb25 hb26 hbl2 hA2 hB2 hq hr h3 h4 h5
        go_wp2_with fail
        refine (cmp_made mr.num mb (by omega) (by omega) hr6 hB6).mono ?_
        rintro e w7 ⟨rfl, hb7⟩
        rw [cmpI_lt (Int.emod_lt_of_pos _ hy)]
        have hbl7 := hbl6.trans (hb7.mono hbl6.size)
        clear hb7 hbl6 hr6 hB6
        go_wp2_with fail
        refine (alive_any _).mono ?_
        rintro e w8 ⟨rfl, hb8⟩
        go_wp2
        go_ret
        exact ⟨rfl, hbl7.trans (hb8.mono hbl7.size)⟩
    · go_wp2_with fail
      refine (alive_any _).mono ?_
      rintro e w2 ⟨rfl, hb2⟩
      go_wp2
      go_ret
      exact ⟨rfl, hb2⟩
  · go_wp2_with fail
    refine (alive_any _).mono ?_
    rintro e w2 ⟨rfl, hb2⟩
    go_wp2
    go_ret
    exact ⟨rfl, hb2⟩

end Go.Proofs.YtkalknmindgljabDoor
