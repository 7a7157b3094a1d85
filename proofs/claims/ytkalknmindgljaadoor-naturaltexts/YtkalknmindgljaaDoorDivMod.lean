/-
  The contract of natural.DivMod, given divideLong's.
-/
import Derived.Test.YtkalknmindgljaaDoorDbl
import Derived.Test.YtkalknmindgljaaDoorSqrt
namespace Go.Proofs.YtkalknmindgljaaDoor
open Go Go.Proofs Go.RowKit Go.Shelf

/-- divideLong does as it should, at divisors of which 'ok' holds. -/
def LongOK (ok : Int → Prop) : Prop := ∀ (a b : List Int) (w : World) (sa sb : Value), U32 w sa a → U32 w sb b → Dig a → Dig b → trimL a = a → trimL b = b → 2 ≤ b.length → b.length ≤ a.length → a.length ≤ 1048576 → ok (val b) →
  Calls Tryd.prog 46 #[sa, sb] w fun e w' => ∃ sq sr, e = .returned (.tuple #[sq, sr]) ∧ U32 w' sq (num (val a / val b)) ∧ U32 w' sr (num (val a % val b)) ∧ Below w.heap.size w w'

set_option maxRecDepth 100000 in
set_option maxHeartbeats 2000000 in
theorem divMod_of {ok : Int → Prop} (hL : LongOK ok) : DivOK ok := by
  intro a b w sa sb hA hB da db ha hb hpos hok
  have l1 := trimL_length a
  have l2 := trimL_length b
  have dx := da.trimL
  have dy := db.trimL
  have nx := trimL_trimL a
  have ny := trimL_trimL b
  have v1 : Hid (val (trimL a) = val a) := val_trimL a
  have v2 : Hid (val (trimL b) = val b) := val_trimL b
  have hlen := fun (h : (trimL a).length < (trimL b).length) => val_lt_len dx dy ny h
  go_enter Tryd.func24, Tryd.ntmps24
  go_wp2_with fail
  refine (trim_at hA (by omega) (Nat.le_refl _)).mono ?_
  rintro e w1 ⟨sx, rfl, hx, hb1⟩
  have hB1 := Seg.below hb1 hB
  go_wp2_with fail
  refine (trim_at hB1 (by omega) hb1.size).mono ?_
  rintro e w2 ⟨sy, rfl, hy, hb2⟩
  have hx2 := (Seg.below (hb2.mono hb1.size) hx).up (Nat.le_trans hb1.size hb2.size)
  have hbl : Below w.heap.size w w2 := hb1.trans (hb2.mono hb1.size)
  have hy2 := hy.up hbl.size
  clear hx hB1 hb1 hb2 hA hB hy
  generalize trimL a = x at *
  generalize trimL b = y at *
  have hyl : 0 < y.length := by
    rcases Nat.eq_zero_or_pos y.length with h | h
    · have := List.eq_nil_of_length_eq_zero h
      have hv := v2.out
      rw [this] at hv
      simp [val] at hv
      omega
    · exact h
  have HO : Hid (ok (val b)) := hok
  have HX : Hid (trimL x = x) := nx
  have HY : Hid (trimL y = y) := ny
  clear hok nx ny
  obtain ⟨px, cx, rfl⟩ := hx2.len
  have hz : ((y.length : Int) == 0) = false := by rw [beq_eq_false_iff_ne]; omega
  by_cases hlt : x.length < y.length
  · obtain ⟨py, cy, rfl⟩ := hy2.len
    have hv := hlen hlt
    rw [v1.out, v2.out] at hv
    clear hlen
    have ha0 := val_nonneg da
    go_wp2_with fail
    refine (norm_any x (by omega) w2 _ hx2).mono ?_
    rintro e w3 ⟨sn, rfl, hn, hb3⟩
    go_wp2
    go_ret3
    refine ⟨.slice none 0 0, sn, rfl, ?_, ?_, hbl.trans (hb3.mono hbl.size)⟩
    · rw [Int.ediv_eq_zero_of_lt ha0 hv, num_zero]; exact .inl ⟨⟨_, _, rfl⟩, rfl⟩
    · rw [Int.emod_eq_of_lt ha0 hv, ← v1.out, ← trimL_num dx]; exact hn
  · clear hlen
    by_cases h1 : y.length = 1
    · obtain ⟨b1, o1, c1, rfl, hb1, hl1, hc1⟩ := hy2.pos hyl
      have hc0 := hc1 0 hyl
      rw [Nat.add_zero] at hc0
      have hvy : val y = nth y 0 := by
        match y, h1 with
        | [z], _ => simp [val, nth]
      have hd := dy.get 0
      have hdp : 0 < nth y 0 := by rw [← hvy, v2.out]; exact hpos
      have H1 : Hid (y.length = 1) := h1
      rw [h1] at *
      go_wp2_with fail
      refine (divideByLimb_any hx2 dx (by omega) ⟨hdp, hd.2⟩).mono ?_
      rintro e w3 ⟨sq, sr, rfl, hq, hr, hb3⟩
      rw [← hvy, v1.out, v2.out] at hq hr
      go_wp2
      go_ret3
      exact ⟨_, _, rfl, hq, hr, hbl.trans (hb3.mono hbl.size)⟩
    · obtain ⟨py, cy, rfl⟩ := hy2.len
      have hz1 : ((y.length : Int) == 1) = false := by rw [beq_eq_false_iff_ne]; omega
      go_wp2_with fail
      refine (hL x y w2 _ _ hx2 hy2 dx dy HX.out HY.out (by omega) (by omega) (by omega) (by rw [v2.out]; exact HO.out)).mono ?_
      rintro e w3 ⟨sq, sr, rfl, hq, hr, hb3⟩
      rw [v1.out, v2.out] at hq hr
      go_wp2
      go_ret3
      exact ⟨_, _, rfl, hq, hr, hbl.trans (hb3.mono hbl.size)⟩

end Go.Proofs.YtkalknmindgljaaDoor
