/-
  The walk of filigreelaw01.NaturalOrder: for every number and any two lists it returns true, and nothing that lay has turned.
-/
import Derived.Test.YtkalknmindgljaaDoorAlive
namespace Go.Proofs.YtkalknmindgljaaDoor
open Go Go.Proofs Go.RowKit Go.Shelf

set_option maxRecDepth 100000 in
set_option maxHeartbeats 4000000 in
theorem order_walk (n : Int) (hn : 0 ≤ n ∧ n < 18446744073709551616) (a b : List Int) (ha : a.length ≤ 9223372036854775807) (hb : b.length ≤ 9223372036854775807) (da : Dig a) (db : Dig b) (w : World) (pa pb : Option Addr) (ca cb : Nat) (hA : U32 w (.slice pa a.length ca) a) (hB : U32 w (.slice pb b.length cb) b) :
    Calls Tryd.prog 3 #[.int .u64 n, .slice pa a.length ca, .slice pb b.length cb] w fun e w' => e = .returned (.bool true) ∧ Below w.heap.size w w' := by
  have hl := light_two w pa pb a.length b.length ca cb ha hb
  have hb0 : Below w.heap.size w (w.alloc (.cells #[.slice pa a.length ca, .slice pb b.length cb] 23)) := (Below.refl _ _).alloc (Nat.le_refl _) _
  go_enter Tryd.func3, Tryd.ntmps3
  go_wp2_with fail
  refine hl.mono ?_
  clear hl
  rintro e w1 ⟨rfl, rfl⟩
  by_cases hlt : a.length ≤ 12 ∧ b.length ≤ 12
  · rw [show decide (a.length ≤ 12 ∧ b.length ≤ 12) = true by simpa using hlt]
    have hA1 := hA.go hb0
    have hB1 := hB.go hb0
    generalize (w.alloc (.cells #[.slice pa a.length ca, .slice pb b.length cb] 23)) = w1 at *
    go_wp2_with fail
    refine (of_any n hn _).mono ?_
    rintro e w2 ⟨s2, rfl, h2, hb2⟩
    go_wp2_with fail
    refine (refOf_any n hn _).mono ?_
    rintro e w3 ⟨s3, rfl, h3, hb3⟩
    have l2 := trimL_length [n % 4294967296, n / 4294967296]
    go_wp2_with fail
    refine (same_any _ _ (by simp at l2; omega) (by simp at l2; omega) _ _ _ (h2.go hb3) h3).mono ?_
    rintro e w4 ⟨rfl, hb4⟩
    rw [show decide (trimL [n % 4294967296, n / 4294967296] = trimL [n % 4294967296, n / 4294967296]) = true by simp]
    have hB14 : Below w1.heap.size w1 w4 := hb2.trans ((hb3.trans (hb4.mono hb3.size)).mono hb2.size)
    have hA4 := hA1.go hB14
    have hB4 := hB1.go hB14
    have hbl4 : Below w.heap.size w w4 := hb0.trans (hB14.mono hb0.size)
    clear h2 h3 hb2 hb3 hb4 hA1 hB1 hB14 l2
    have l5 := trimL_length a
    go_wp2_with fail
    refine (norm_any a (by omega) _ _ hA4).mono ?_
    rintro e w5 ⟨s5, rfl, h5, hb5⟩
    go_wp2_with fail
    refine (refNorm_any a (by omega) _ _ (hA4.go hb5)).mono ?_
    rintro e w6 ⟨s6, rfl, h6, hb6⟩
    go_wp2_with fail
    refine (same_any _ _ (by omega) (by omega) _ _ _ (h5.go hb6) h6).mono ?_
    rintro e w7 ⟨rfl, hb7⟩
    rw [show decide (trimL a = trimL a) = true by simp]
    have hB47 : Below w4.heap.size w4 w7 := hb5.trans ((hb6.trans (hb7.mono hb6.size)).mono hb5.size)
    have hA7 := hA4.go hB47
    have hB7 := hB4.go hB47
    have hbl7 : Below w.heap.size w w7 := hbl4.trans (hB47.mono hbl4.size)
    clear h5 h6 hb5 hb6 hb7 hA4 hB4 hB47 hbl4
    go_wp2_with fail
    refine (cmp_any hA7 hB7 da db (by omega) (by omega)).mono ?_
    rintro e w8 ⟨rfl, hb8⟩
    go_wp2_with fail
    refine (refCmp_any (hA7.go hb8) (hB7.go hb8) da db (by omega) (by omega)).mono ?_
    rintro e w9 ⟨rfl, hb9⟩
    have hbl9 : Below w.heap.size w w9 := hbl7.trans ((hb8.trans (hb9.mono hb8.size)).mono hbl7.size)
    generalize cmpI (val a) (val b) = c at *
    have hc : (c == c) = true := by simp
    go_wp2_with fail
    refine (alive_any _).mono ?_
    rintro e w10 ⟨rfl, hb10⟩
    go_wp2
    go_ret
    exact ⟨by simp, hbl9.trans (hb10.mono hbl9.size)⟩
  · rw [show decide (a.length ≤ 12 ∧ b.length ≤ 12) = false by simpa using hlt]
    go_wp2_with fail
    refine (alive_any _).mono ?_
    rintro e w2 ⟨rfl, hb2⟩
    go_wp2
    go_ret
    exact ⟨rfl, hb0.trans (hb2.mono hb0.size)⟩

end Go.Proofs.YtkalknmindgljaaDoor
