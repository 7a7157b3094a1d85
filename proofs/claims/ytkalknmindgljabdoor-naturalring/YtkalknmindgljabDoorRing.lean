/-
  The walk of filigreelaw01.NaturalRing: for any three lists it returns true, and nothing that lay has turned.
-/
import Derived.Test.YtkalknmindgljabDoorMade
import Derived.Test.YtkalknmindgljabDoorAlive
import Derived.Test.YtkalknmindgljabDoorLight
namespace Go.Proofs.YtkalknmindgljabDoor
open Go Go.Proofs Go.RowKit Go.Shelf

set_option maxRecDepth 100000 in
set_option maxHeartbeats 4000000 in
theorem ring_walk (a b c : List Int) (ha : a.length ≤ 9223372036854775807) (hb : b.length ≤ 9223372036854775807) (hc : c.length ≤ 9223372036854775807) (da : Dig a) (db : Dig b) (dc : Dig c) (w : World) (pa pb pc : Option Addr) (ca cb cc : Nat) (hA : U32 w (.slice pa a.length ca) a) (hB : U32 w (.slice pb b.length cb) b) (hC : U32 w (.slice pc c.length cc) c) :
    Calls Tryd.prog 3 #[.slice pa a.length ca, .slice pb b.length cb, .slice pc c.length cc] w fun e w' => e = .returned (.bool true) ∧ Below w.heap.size w w' := by
  have hl := light_three w pa pb pc a.length b.length c.length ca cb cc ha hb hc
  have hb0 : Below w.heap.size w (w.alloc (.cells #[.slice pa a.length ca, .slice pb b.length cb, .slice pc c.length cc] 22)) := (Below.refl _ _).alloc (Nat.le_refl _) _
  go_enter Tryd.func3, Tryd.ntmps3
  go_wp2_with fail
  refine hl.mono ?_
  clear hl
  rintro e w1 ⟨rfl, rfl⟩
  by_cases hlt : a.length ≤ 12 ∧ b.length ≤ 12 ∧ c.length ≤ 12
  · rw [show decide (a.length ≤ 12 ∧ b.length ≤ 12 ∧ c.length ≤ 12) = true by simpa using hlt]
    have ma : Num (val a) 12 a := ⟨rfl, da, hlt.1⟩
    have mb : Num (val b) 12 b := ⟨rfl, db, hlt.2.1⟩
    have mc : Num (val c) 12 c := ⟨rfl, dc, hlt.2.2⟩
    have hA1 := hA.go hb0
    have hB1 := hB.go hb0
    have hC1 := hC.go hb0
    generalize (w.alloc (.cells #[.slice pa a.length ca, .slice pb b.length cb, .slice pc c.length cc] 22)) = w1 at *
    go_wp2_with fail
    refine (mul_made ma mb (by omega) (by omega) hA1 hB1).mono ?_
    rintro e w2 ⟨s2, l2, rfl, h2, m2, hb2⟩
    have hA2 := hA1.go hb2
    have hB2 := hB1.go hb2
    have hC2 := hC1.go hb2
    have hbl2 := hb0.trans (hb2.mono hb0.size)
    clear hA1 hB1 hC1 hb2 hb0
    go_wp2_with fail
    refine (mul_made mb ma (by omega) (by omega) hB2 hA2).mono ?_
    rintro e w3 ⟨s3, l3, rfl, h3, m3, hb3⟩
    have hA3 := hA2.go hb3
    have hB3 := hB2.go hb3
    have hC3 := hC2.go hb3
    have h2 := h2.go hb3
    have hbl3 := hbl2.trans (hb3.mono hbl2.size)
    clear hA2 hB2 hC2 hb3 hbl2
    go_wp2_with fail
    refine (add_made mb mc (by omega) (by omega) hB3 hC3).mono ?_
    rintro e w4 ⟨s4, l4, rfl, h4, m4, hb4⟩
    have hA4 := hA3.go hb4
    have hB4 := hB3.go hb4
    have hC4 := hC3.go hb4
    have h2 := h2.go hb4
    have h3 := h3.go hb4
    have hbl4 := hbl3.trans (hb4.mono hbl3.size)
    clear hA3 hB3 hC3 hb4 hbl3
    go_wp2_with fail
    refine (add_made ma mb (by omega) (by omega) hA4 hB4).mono ?_
    rintro e w5 ⟨s5, l5, rfl, h5, m5, hb5⟩
    go_wp2_with fail
    refine (sub_made m5.num mb (by omega) (by omega) h5 (hB4.go hb5) (by have := ma.pos; omega)).mono ?_
    rintro e w6 ⟨s6, l6, rfl, h6, m6, hb6⟩
    have hb46 := hb5.trans (hb6.mono hb5.size)
    have hA6 := hA4.go hb46
    have hB6 := hB4.go hb46
    have hC6 := hC4.go hb46
    have h2 := h2.go hb46
    have h3 := h3.go hb46
    have h4 := h4.go hb46
    have hbl6 := hbl4.trans (hb46.mono hbl4.size)
    clear hA4 hB4 hC4 hb5 hb6 hb46 hbl4 h5 m5
    go_wp2_with fail
    refine (same_made m2 m3 (by omega) (by omega) h2 h3 (Int.mul_comm _ _)).mono ?_
    rintro e w7 ⟨rfl, hb7⟩
    have hA7 := hA6.go hb7
    have hB7 := hB6.go hb7
    have hC7 := hC6.go hb7
    have h2 := h2.go hb7
    have h4 := h4.go hb7
    have h6 := h6.go hb7
    have hbl7 := hbl6.trans (hb7.mono hbl6.size)
    clear hA6 hB6 hC6 hb7 hbl6 h3 m3
    go_wp2_with fail
    refine (add_made ma mb (by omega) (by omega) hA7 hB7).mono ?_
    rintro e w8 ⟨s8, l8, rfl, h8, m8, hb8⟩
    go_wp2_with fail
    refine (add_made mb ma (by omega) (by omega) (hB7.go hb8) (hA7.go hb8)).mono ?_
    rintro e w9 ⟨s9, l9, rfl, h9, m9, hb9⟩
    go_wp2_with fail
    refine (same_made m8 m9 (by omega) (by omega) (h8.go hb9) h9 (Int.add_comm _ _)).mono ?_
    rintro e w10 ⟨rfl, hb10⟩
    have hb710 := (hb8.trans (hb9.mono hb8.size)).trans (hb10.mono (hb8.trans (hb9.mono hb8.size)).size)
    have hA10 := hA7.go hb710
    have hB10 := hB7.go hb710
    have hC10 := hC7.go hb710
    have h2 := h2.go hb710
    have h4 := h4.go hb710
    have h6 := h6.go hb710
    have hbl10 := hbl7.trans (hb710.mono hbl7.size)
    clear hA7 hB7 hC7 hb8 hb9 hb10 hb710 hbl7 h8 m8 h9 m9
    go_wp2_with fail
    refine (mul_made ma m4.num (by omega) (by omega) hA10 h4).mono ?_
    rintro e w11 ⟨s11, l11, rfl, h11, m11, hb11⟩
    go_wp2_with fail
    refine (mul_made ma mc (by omega) (by omega) (hA10.go hb11) (hC10.go hb11)).mono ?_
    rintro e w12 ⟨s12, l12, rfl, h12, m12, hb12⟩
    have hb1012 := hb11.trans (hb12.mono hb11.size)
    go_wp2_with fail
    refine (add_made m2.num m12.num (by omega) (by omega) (h2.go hb1012) h12).mono ?_
    rintro e w13 ⟨s13, l13, rfl, h13, m13, hb13⟩
    go_wp2_with fail
    refine (same_made m11 m13 (by omega) (by omega) ((h11.go hb12).go hb13) h13 (by rw [Int.mul_add])).mono ?_
    rintro e w14 ⟨rfl, hb14⟩
    have hb1014 := (hb1012.trans (hb13.mono hb1012.size)).trans (hb14.mono (hb1012.trans (hb13.mono hb1012.size)).size)
    have hA14 := hA10.go hb1014
    have hB14 := hB10.go hb1014
    have hC14 := hC10.go hb1014
    have h2 := h2.go hb1014
    have h6 := h6.go hb1014
    have hbl14 := hbl10.trans (hb1014.mono hbl10.size)
    clear hA10 hB10 hC10 hb11 hb12 hb13 hb14 hb1012 hb1014 hbl10 h11 m11 h12 m12 h13 m13 h4 m4
    go_wp2_with fail
    refine (mul_made m2.num mc (by omega) (by omega) h2 hC14).mono ?_
    rintro e w15 ⟨s15, l15, rfl, h15, m15, hb15⟩
    go_wp2_with fail
    refine (mul_made mb mc (by omega) (by omega) (hB14.go hb15) (hC14.go hb15)).mono ?_
    rintro e w16 ⟨s16, l16, rfl, h16, m16, hb16⟩
    have hb1416 := hb15.trans (hb16.mono hb15.size)
    go_wp2_with fail
    refine (mul_made ma m16.num (by omega) (by omega) (hA14.go hb1416) h16).mono ?_
    rintro e w17 ⟨s17, l17, rfl, h17, m17, hb17⟩
    go_wp2_with fail
    refine (same_made m15 m17 (by omega) (by omega) ((h15.go hb16).go hb17) h17 (Int.mul_assoc _ _ _)).mono ?_
    rintro e w18 ⟨rfl, hb18⟩
    have hb1418 := (hb1416.trans (hb17.mono hb1416.size)).trans (hb18.mono (hb1416.trans (hb17.mono hb1416.size)).size)
    have hA18 := hA14.go hb1418
    have h6 := h6.go hb1418
    have hbl18 := hbl14.trans (hb1418.mono hbl14.size)
    clear hA14 hB14 hC14 hb15 hb16 hb17 hb18 hb1416 hb1418 hbl14 h15 m15 h16 m16 h17 m17 h2 m2
    go_wp2_with fail
    refine (refNorm_made ma (by omega) hA18).mono ?_
    rintro e w19 ⟨s19, l19, rfl, h19, m19, hb19⟩
    go_wp2_with fail
    refine (same_made m6 m19 (by omega) (by omega) (h6.go hb19) h19 (by omega)).mono ?_
    rintro e w20 ⟨rfl, hb20⟩
    have hb1820 := hb19.trans (hb20.mono hb19.size)
    have hbl20 := hbl18.trans (hb1820.mono hbl18.size)
    clear hA18 hb19 hb20 hb1820 hbl18 h19 m19 h6 m6
    go_wp2_with fail
    refine (alive_any _).mono ?_
    rintro e w21 ⟨rfl, hb21⟩
    go_wp2
    go_ret
    exact ⟨rfl, hbl20.trans (hb21.mono hbl20.size)⟩
  · rw [show decide (a.length ≤ 12 ∧ b.length ≤ 12 ∧ c.length ≤ 12) = false by simpa using hlt]
    go_wp2_with fail
    refine (alive_any _).mono ?_
    rintro e w2 ⟨rfl, hb2⟩
    go_wp2
    go_ret
    exact ⟨rfl, hb0.trans (hb2.mono hb0.size)⟩

end Go.Proofs.YtkalknmindgljabDoor
