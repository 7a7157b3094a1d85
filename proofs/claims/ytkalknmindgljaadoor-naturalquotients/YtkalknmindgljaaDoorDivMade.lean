/-
  The contracts of natural.DivMod and natural.Sqrt, said over what a list means.
-/
import Derived.Test.YtkalknmindgljaaDoorLong4
import Derived.Test.YtkalknmindgljaaDoorDivMod
import Derived.Test.YtkalknmindgljaaDoorMade
namespace Go.Proofs.YtkalknmindgljaaDoor
open Go Go.Proofs Go.RowKit Go.Shelf

theorem longAll : LongOK (fun _ => True) := divideLong_any
theorem divAll : DivOK (fun _ => True) := divMod_of longAll
theorem divMod_made {x y : Int} {m n : Nat} {a b : List Int} {w : World} {sa sb : Value} (ma : Num x m a) (mb : Num y n b) (hm : m ≤ 100000) (hn : n ≤ 100000) (hy : 0 < y) (hA : U32 w sa a) (hB : U32 w sb b) :
    Calls Tryd.prog 24 #[sa, sb] w fun e w' => ∃ sq sr q r, e = .returned (.tuple #[sq, sr, .int .i64 0]) ∧ U32 w' sq q ∧ U32 w' sr r ∧ Nrm (x / y) m q ∧ Nrm (x % y) n r ∧ Below w.heap.size w w' := by
  have := ma.len
  have := mb.len
  have h1 := ma.pos
  have h2 := ma.lt
  have h3 := mb.lt
  refine (divAll a b w sa sb hA hB ma.dig mb.dig (by omega) (by omega) (by rw [mb.val]; exact hy) trivial).mono ?_
  rintro e w' ⟨sq, sr, rfl, hq, hr, hb⟩
  rw [ma.val, mb.val] at hq hr
  have k1 := Int.ediv_nonneg h1 (show 0 ≤ y by omega)
  have k2 := Int.ediv_le_self y h1
  have k3 := Int.emod_nonneg x (show y ≠ 0 by omega)
  have k4 := Int.emod_lt_of_pos x hy
  exact ⟨sq, sr, _, _, rfl, hq, hr, Nrm.of k1 (by omega), Nrm.of k3 (by omega), hb⟩
theorem root_le {x r : Int} (h : IsRoot x r) : 0 ≤ r ∧ r ≤ x := by
  obtain ⟨h0, h1, h2⟩ := h
  refine ⟨h0, ?_⟩
  rcases Int.lt_or_le r 1 with c | c
  · obtain rfl : r = 0 := by omega
    omega
  · have : r * 1 ≤ r * r := Int.mul_le_mul_of_nonneg_left c h0
    omega
theorem sqrt_made {x : Int} {m : Nat} {a : List Int} {w : World} {sa : Value} (ma : Num x m a) (hm : m ≤ 100000) (hA : U32 w sa a) :
    Calls Tryd.prog 26 #[sa] w fun e w' => ∃ sv r L, e = .returned sv ∧ U32 w' sv L ∧ Nrm r m L ∧ IsRoot x r ∧ Below w.heap.size w w' := by
  have := ma.len
  refine (sqrt_any divAll hA ma.dig (by omega) (fun _ _ _ => trivial)).mono ?_
  rintro e w' ⟨sv, r, rfl, h, hr, hb⟩
  rw [ma.val] at hr
  have k := root_le hr
  have := ma.lt
  exact ⟨sv, r, _, rfl, h, Nrm.of k.1 (by omega), hr, hb⟩
theorem root_sq {r : Int} (h : 0 ≤ r) : IsRoot (r * r) r := ⟨h, Int.le_refl _, by grind⟩

set_option maxRecDepth 100000 in
set_option maxHeartbeats 1000000 in
/-- .. and by 0. -/
theorem divMod_zero {a b : List Int} {w : World} {sa sb : Value} (hA : U32 w sa a) (hB : U32 w sb b) (db : Dig b) (ha : a.length ≤ 1048576) (hb : b.length ≤ 1048577) (hz : val b = 0) :
    Calls Tryd.prog 24 #[sa, sb] w fun e w' => e = .returned (.tuple #[.slice none 0 0, .slice none 0 0, .int .i64 15]) ∧ Below w.heap.size w w' := by
  have hn : trimL b = [] := by rw [trimL_num db, hz, num_zero]
  go_enter Tryd.func24, Tryd.ntmps24
  go_wp2_with fail
  refine (trim_at hA (by omega) (Nat.le_refl _)).mono ?_
  rintro e w1 ⟨sx, rfl, hx, hb1⟩
  have hB1 := Seg.below hb1 hB
  obtain ⟨px, cx, rfl⟩ := hx.len
  go_wp2_with fail
  refine (trim_at hB1 (by omega) hb1.size).mono ?_
  rintro e w2 ⟨sy, rfl, hy, hb2⟩
  rw [hn] at hy
  obtain ⟨py, cy, rfl⟩ := hy.len
  go_wp2
  go_ret3
  exact ⟨rfl, hb1.trans (hb2.mono hb1.size)⟩

end Go.Proofs.YtkalknmindgljaaDoor
