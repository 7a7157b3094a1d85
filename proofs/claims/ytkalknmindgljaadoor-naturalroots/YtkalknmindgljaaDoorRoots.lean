/-
  The walk of filigreelaw01.NaturalRoots: for any list it returns true, and nothing that lay has turned.
-/
import Derived.Test.YtkalknmindgljaaDoorDivMade
import Derived.Test.YtkalknmindgljaaDoorRefSqrt
import Derived.Test.YtkalknmindgljaaDoorAlive
namespace Go.Proofs.YtkalknmindgljaaDoor
open Go Go.Proofs Go.RowKit Go.Shelf

set_option maxRecDepth 100000 in
set_option maxHeartbeats 4000000 in
theorem roots_walk (a : List Int) (ha : a.length ≤ 9223372036854775807) (da : Dig a) (w : World) (pa : Option Addr) (ca : Nat) (hA : U32 w (.slice pa a.length ca) a) :
    Calls Tryd.prog 7 #[.slice pa a.length ca] w fun e w' => e = .returned (.bool true) ∧ Below w.heap.size w w' := by
  go_enter Tryd.func7, Tryd.ntmps7
  by_cases h1 : a.length ≤ 6
  · have ma : Num (val a) 6 a := ⟨rfl, da, h1⟩
    go_wp2_with fail
    refine (sqrt_made ma (by omega) hA).mono ?_
    rintro e w1 ⟨s1, r, L1, rfl, hs1, ms, hroot, hb1⟩
    have hA1 := hA.go hb1
    go_wp2_with fail
    refine (refSqrt_any hA1 da (by omega)).mono ?_
    rintro e w2 ⟨s2, r2, rfl, hs2, hroot2, hb2⟩
    have hlt := ma.lt
    have hle := root_le hroot2
    have m2 : Nrm r2 6 (num r2) := Nrm.of hle.1 (by omega)
    go_wp2_with fail
    refine (same_made ms m2 (by omega) (by omega) (hs1.go hb2) hs2 (root_unique hroot hroot2)).mono ?_
    rintro e w3 ⟨rfl, hb3⟩
    have hb12 := hb1.trans (hb2.mono hb1.size)
    have hbl3 := hb12.trans (hb3.mono hb12.size)
    clear hb1 hb2 hb3 hb12 hA1 hs1 hs2
    go_wp2_with fail
    refine (alive_any _).mono ?_
    rintro e w4 ⟨rfl, hb4⟩
    go_wp2
    go_ret
    exact ⟨rfl, hbl3.trans (hb4.mono hbl3.size)⟩
  · go_wp2
    go_ret
    exact ⟨rfl, Below.refl _ _⟩

end Go.Proofs.YtkalknmindgljaaDoor
