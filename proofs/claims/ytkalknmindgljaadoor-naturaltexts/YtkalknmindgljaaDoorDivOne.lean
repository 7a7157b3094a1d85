/-
  The contract of natural.DivMod at a divisor of one limb, with where the quotient lies.
-/
import Derived.Test.YtkalknmindgljaaDoorDbl2
import Derived.Test.YtkalknmindgljaaDoorAlive
namespace Go.Proofs.YtkalknmindgljaaDoor
open Go Go.Proofs Go.RowKit Go.Shelf

set_option maxRecDepth 100000 in
set_option maxHeartbeats 2000000 in
theorem divMod_one {R d : Int} {w : World} {sa sb : Value} (hA : U32 w sa (num R)) (hB : U32 w sb [d]) (hR : 0 < R) (hl : (num R).length ≤ 1000000) (hd : 0 < d ∧ d < 4294967296) :
    Calls Tryd.prog 24 #[sa, sb] w fun e w' => ∃ sq sr, e = .returned (.tuple #[sq, sr, .int .i64 0]) ∧ U32 w' sq (num (R / d)) ∧ U32 w' sr (num (R % d)) ∧ Below w.heap.size w w' ∧ (∀ x m k, sq = .slice (some x) m k → w.heap.size ≤ x.block) := by
  have hn := num_norm R
  have hdg := num_dig R
  have hv := num_val (show 0 ≤ R by omega)
  have h1 : trimL [d] = [d] := by simp [trimL]; omega
  have hpos : 0 < (num R).length := by
    rcases Nat.eq_zero_or_pos (num R).length with h | h
    · have := (num_nil (show 0 ≤ R by omega)).1 (List.eq_nil_of_length_eq_zero h)
      omega
    · exact h
  go_enter Tryd.func24, Tryd.ntmps24
  go_wp2_with fail
  refine (trim_at hA (by omega) (Nat.le_refl _)).mono ?_
  rintro e w1 ⟨sx, rfl, hx, hb1⟩
  rw [hn] at hx
  have hB1 := Seg.below hb1 hB
  go_wp2_with fail
  refine (trim_at hB1 (by simp) hb1.size).mono ?_
  rintro e w2 ⟨sy, rfl, hy, hb2⟩
  rw [h1] at hy
  have hx2 := (Seg.below (hb2.mono hb1.size) hx).up (Nat.le_trans hb1.size hb2.size)
  have hbl : Below w.heap.size w w2 := hb1.trans (hb2.mono hb1.size)
  have hy2 := hy.up hbl.size
  clear hx hB1 hb1 hb2 hA hB hy
  obtain ⟨px, cx, rfl⟩ := hx2.len
  obtain ⟨b1, o1, c1, rfl, hb1, hl1, hc1⟩ := hy2.pos (by simp)
  have hc0 : w2.cell? ⟨b1, o1, none⟩ = some (.int .u32 d) := by have := hc1 0 (by simp); simpa [nth] using this
  generalize num R = x at *
  go_wp2_with fail
  refine (divideByLimb2_any hx2 hdg (by omega) hd).mono ?_
  rintro e w3 ⟨sq, sr, rfl, hq, hr, hb3, hf⟩
  rw [hv] at hq hr
  go_wp2
  go_ret3
  exact ⟨_, _, rfl, hq, hr, hbl.trans (hb3.mono hbl.size), fun x m k e => Nat.le_trans hbl.size (hf x m k e)⟩

end Go.Proofs.YtkalknmindgljaaDoor
