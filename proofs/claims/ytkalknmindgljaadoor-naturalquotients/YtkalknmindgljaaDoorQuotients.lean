/-
  The walk of filigreelaw01.NaturalQuotients: for any two lists it returns true, and nothing that lay has turned.
-/
import Derived.Test.YtkalknmindgljaaDoorDivMade
import Derived.Test.YtkalknmindgljaaDoorRefDiv
import Derived.Test.YtkalknmindgljaaDoorAlive
import Derived.Test.YtkalknmindgljaaDoorLight
namespace Go.Proofs.YtkalknmindgljaaDoor
open Go Go.Proofs Go.RowKit Go.Shelf

set_option maxRecDepth 100000 in
set_option maxHeartbeats 4000000 in
theorem quotients_walk (a b : List Int) (ha : a.length ≤ 9223372036854775807) (hb : b.length ≤ 9223372036854775807) (da : Dig a) (db : Dig b) (w : World) (pa pb : Option Addr) (ca cb : Nat) (hA : U32 w (.slice pa a.length ca) a) (hB : U32 w (.slice pb b.length cb) b) :
    Calls Tryd.prog 6 #[.slice pa a.length ca, .slice pb b.length cb] w fun e w' => e = .returned (.bool true) ∧ Below w.heap.size w w' := by
  have hl := light_two w pa pb a.length b.length ca cb ha hb
  have hb0 : Below w.heap.size w (w.alloc (.cells #[.slice pa a.length ca, .slice pb b.length cb] 23)) := (Below.refl _ _).alloc (Nat.le_refl _) _
  go_enter Tryd.func6, Tryd.ntmps6
  go_wp2_with fail
  refine hl.mono ?_
  clear hl
  rintro e w1 ⟨rfl, rfl⟩
  by_cases hlt : a.length ≤ 12 ∧ b.length ≤ 12
  · rw [show decide (a.length ≤ 12 ∧ b.length ≤ 12) = true by simpa using hlt]
    have ma : Num (val a) 12 a := ⟨rfl, da, hlt.1⟩
    have mb : Num (val b) 12 b := ⟨rfl, db, hlt.2⟩
    have hA1 := hA.go hb0
    have hB1 := hB.go hb0
    generalize (w.alloc (.cells #[.slice pa a.length ca, .slice pb b.length cb] 23)) = w1 at *
    by_cases hz : val b = 0
    · have m0 : Nrm 0 1 [] := ⟨num_zero.symm, by omega, by simp⟩
      go_wp2_with fail
      refine (divMod_zero hA1 hB1 db (by omega) (by omega) hz).mono ?_
      rintro e w2 ⟨rfl, hb2⟩
      have hB2 := hB1.go hb2
      have hbl2 := hb0.trans (hb2.mono hb0.size)
      go_wp2_with fail
      refine (refDivMod_zero hB2 db (by omega) hz).mono ?_
      rintro e w3 ⟨rfl, hb3⟩
      have hbl3 := hbl2.trans (hb3.mono hbl2.size)
      clear hb2 hb3 hbl2 hA1 hB1 hB2 hb0
      have e0 : ∀ X : World, U32 X (.slice none 0 0) [] := fun X => .inl ⟨⟨_, _, rfl⟩, rfl⟩
      go_wp2_with fail
      refine (same_made m0 m0 (by omega) (by omega) (e0 _) (e0 _) rfl).mono ?_
      rintro e w4 ⟨rfl, hb4⟩
      go_wp2_with fail
      refine (same_made m0 m0 (by omega) (by omega) (e0 _) (e0 _) rfl).mono ?_
      rintro e w5 ⟨rfl, hb5⟩
      have hbl5 := hbl3.trans ((hb4.trans (hb5.mono hb4.size)).mono hbl3.size)
      clear hb4 hb5 hbl3
      go_wp2_with fail
      refine (alive_any _).mono ?_
      rintro e w6 ⟨rfl, hb6⟩
      go_wp2
      go_ret
      exact ⟨rfl, hbl5.trans (hb6.mono hbl5.size)⟩
    · have hy : 0 < val b := by have := mb.pos; omega
      go_wp2_with fail
      refine (divMod_made ma mb (by omega) (by omega) hy hA1 hB1).mono ?_
      rintro e w2 ⟨sq, sr, q, r, rfl, hq, hr, mq, mr, hb2⟩
      have hA2 := hA1.go hb2
      have hB2 := hB1.go hb2
      have hbl2 := hb0.trans (hb2.mono hb0.size)
      go_wp2_with fail
      refine (refDivMod_any hA2 hB2 da db (by omega) (by omega) hy).mono ?_
      rintro e w3 ⟨tq, tr, rfl, gq, gr, hb3⟩
      have hq := hq.go hb3
      have hr := hr.go hb3
      have hbl3 := hbl2.trans (hb3.mono hbl2.size)
      clear hb2 hb3 hbl2 hA1 hB1 hA2 hB2 hb0
      have nq : Nrm (val a / val b) 12 (num (val a / val b)) := by have := mq; rwa [← mq.eq]
      have nr : Nrm (val a % val b) 12 (num (val a % val b)) := by have := mr; rwa [← mr.eq]
      go_wp2_with fail
      refine (same_made mq nq (by omega) (by omega) hq gq rfl).mono ?_
      rintro e w4 ⟨rfl, hb4⟩
      go_wp2_with fail
      refine (same_made mr nr (by omega) (by omega) (hr.go hb4) (gr.go hb4) rfl).mono ?_
      rintro e w5 ⟨rfl, hb5⟩
      have hbl5 := hbl3.trans ((hb4.trans (hb5.mono hb4.size)).mono hbl3.size)
      clear hb4 hb5 hbl3 hq hr gq gr
      go_wp2_with fail
      refine (alive_any _).mono ?_
      rintro e w6 ⟨rfl, hb6⟩
      go_wp2
      go_ret
      exact ⟨rfl, hbl5.trans (hb6.mono hbl5.size)⟩
  · rw [show decide (a.length ≤ 12 ∧ b.length ≤ 12) = false by simpa using hlt]
    go_wp2_with fail
    refine (alive_any _).mono ?_
    rintro e w2 ⟨rfl, hb2⟩
    go_wp2
    go_ret
    exact ⟨rfl, hb0.trans (hb2.mono hb0.size)⟩

end Go.Proofs.YtkalknmindgljaaDoor
