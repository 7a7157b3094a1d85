/-
  The walk of filigreelaw01.NaturalProducts: for any two lists it returns true, and nothing that lay has turned.
-/
import Derived.Test.YtkalknmindgljaaDoorMade
import Derived.Test.YtkalknmindgljaaDoorRefMul
import Derived.Test.YtkalknmindgljaaDoorAlive
import Derived.Test.YtkalknmindgljaaDoorLight
namespace Go.Proofs.YtkalknmindgljaaDoor
open Go Go.Proofs Go.RowKit Go.Shelf

theorem refMul_made {x y : Int} {m n : Nat} {a b : List Int} {w : World} {sa sb : Value} (ma : Num x m a) (mb : Num y n b) (hm : m ≤ 100000) (hn : n ≤ 100000) (hA : U32 w sa a) (hB : U32 w sb b) :
    Calls Tryd.prog 23 #[sa, sb] w fun e w' => ∃ sv L, e = .returned sv ∧ U32 w' sv L ∧ Nrm (x * y) (m + n) L ∧ Below w.heap.size w w' := by
  have := ma.len
  have := mb.len
  refine (refMul_any hA hB ma.dig mb.dig (by omega) (by omega)).mono ?_
  rintro e w' ⟨sv, rfl, h, hb⟩
  rw [ma.val, mb.val] at h
  exact ⟨sv, _, rfl, h, Nrm.of (Int.mul_nonneg ma.pos mb.pos) (lt_mul ma mb), hb⟩

set_option maxRecDepth 100000 in
set_option maxHeartbeats 4000000 in
theorem products_walk (a b : List Int) (ha : a.length ≤ 9223372036854775807) (hb : b.length ≤ 9223372036854775807) (da : Dig a) (db : Dig b) (w : World) (pa pb : Option Addr) (ca cb : Nat) (hA : U32 w (.slice pa a.length ca) a) (hB : U32 w (.slice pb b.length cb) b) :
    Calls Tryd.prog 5 #[.slice pa a.length ca, .slice pb b.length cb] w fun e w' => e = .returned (.bool true) ∧ Below w.heap.size w w' := by
  have hl := light_two w pa pb a.length b.length ca cb ha hb
  have hb0 : Below w.heap.size w (w.alloc (.cells #[.slice pa a.length ca, .slice pb b.length cb] 23)) := (Below.refl _ _).alloc (Nat.le_refl _) _
  go_enter Tryd.func5, Tryd.ntmps5
  go_wp2_with fail
  refine hl.mono ?_
  clear hl
  rintro e w1 ⟨rfl, rfl⟩
  by_cases hlt : a.length ≤ 12 ∧ b.length ≤ 12
  · rw [show decide (a.length ≤ 12 ∧ b.length ≤ 12) = true by simpa using hlt]
    have ma : Num (val a) 12 a := ⟨rfl, da, hlt.1⟩
    have mb : Num (val b) 12 b := ⟨rfl, db, hlt.2⟩
    have hA1 := hA.go hb0
    have hB1 := hB.go hb0
    generalize (w.alloc (.cells #[.slice pa a.length ca, .slice pb b.length cb] 23)) = w1 at *
    go_wp2_with fail
    refine (mul_made ma mb (by omega) (by omega) hA1 hB1).mono ?_
    rintro e w2 ⟨s2, l2, rfl, h2, m2, hb2⟩
    go_wp2_with fail
    refine (refMul_made ma mb (by omega) (by omega) (hA1.go hb2) (hB1.go hb2)).mono ?_
    rintro e w3 ⟨s3, l3, rfl, h3, m3, hb3⟩
    go_wp2_with fail
    refine (same_made m2 m3 (by omega) (by omega) (h2.go hb3) h3 rfl).mono ?_
    rintro e w4 ⟨rfl, hb4⟩
    have hB14 : Below w1.heap.size w1 w4 := hb2.trans ((hb3.trans (hb4.mono hb3.size)).mono hb2.size)
    have hbl4 : Below w.heap.size w w4 := hb0.trans (hB14.mono hb0.size)
    clear h2 m2 h3 m3 hb2 hb3 hb4 hB14 hA1 hB1 hb0
    go_wp2_with fail
    refine (alive_any _).mono ?_
    rintro e w10 ⟨rfl, hb10⟩
    go_wp2
    go_ret
    exact ⟨rfl, hbl4.trans (hb10.mono hbl4.size)⟩
  · rw [show decide (a.length ≤ 12 ∧ b.length ≤ 12) = false by simpa using hlt]
    go_wp2
    go_ret
    exact ⟨rfl, hb0⟩

end Go.Proofs.YtkalknmindgljaaDoor
