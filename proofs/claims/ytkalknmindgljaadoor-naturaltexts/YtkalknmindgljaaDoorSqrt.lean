/-
  The contract of natural.Sqrt, given DivMod's.
-/
import Derived.Deep.LoopGhost
import Derived.Test.YtkalknmindgljaaDoorLen
import Derived.Test.YtkalknmindgljaaDoorShr
namespace Go.Proofs.YtkalknmindgljaaDoor
open Go Go.Proofs Go.RowKit Go.Shelf

/-- DivMod does as it should, at numbers of which 'ok' holds. -/
def DivOK (ok : Int → Prop) : Prop := ∀ (a b : List Int) (w : World) (sa sb : Value), U32 w sa a → U32 w sb b → Dig a → Dig b → a.length ≤ 1048576 → b.length ≤ 1048577 → 0 < val b → ok (val b) →
  Calls Tryd.prog 24 #[sa, sb] w fun e w' => ∃ sq sr, e = .returned (.tuple #[sq, sr, .int .i64 0]) ∧ U32 w' sq (num (val a / val b)) ∧ U32 w' sr (num (val a % val b)) ∧ Below w.heap.size w w'

/-- r is the root of n. -/
def IsRoot (n r : Int) : Prop := 0 ≤ r ∧ r * r ≤ n ∧ n < (r + 1) * (r + 1)

theorem newton_stop {a r : Int} (hr : 0 < r) (h : r ≤ (r + a / r) / 2) (hu : a < (r + 1) * (r + 1)) : IsRoot a r := by
  have h1 : r ≤ a / r := by omega
  have h2 : a / r * r ≤ a := Int.ediv_mul_le a (by omega)
  have h3 : r * r ≤ a / r * r := Int.mul_le_mul_of_nonneg_right h1 (by omega)
  exact ⟨by omega, by omega, hu⟩
theorem newton_step {a r : Int} (ha : 0 < a) (hr : 0 < r) (h : (r + a / r) / 2 < r) : 0 < (r + a / r) / 2 ∧ a < ((r + a / r) / 2 + 1) * ((r + a / r) / 2 + 1) := by
  have h1 : a < r * (a / r + 1) := by
    have := Int.lt_mul_ediv_self_add (x := a) hr
    rw [Int.mul_add]; omega
  have hq : 0 ≤ a / r := Int.ediv_nonneg (by omega) (by omega)
  generalize a / r = q at *
  refine ⟨?_, ?_⟩
  · by_cases hr1 : r = 1
    · subst hr1; omega
    · omega
  · generalize hn : (r + q) / 2 = n at *
    have h2 : r + q + 1 ≤ 2 * (n + 1) := by omega
    have h3 : (r + (q + 1)) * (r + (q + 1)) ≤ (2 * (n + 1)) * (2 * (n + 1)) := by
      have h4 : (r + (q + 1)) * (r + (q + 1)) ≤ (2 * (n + 1)) * (r + (q + 1)) := Int.mul_le_mul_of_nonneg_right (by omega) (by omega)
      have h5 : (2 * (n + 1)) * (r + (q + 1)) ≤ (2 * (n + 1)) * (2 * (n + 1)) := Int.mul_le_mul_of_nonneg_left (by omega) (by omega)
      omega
    have h6 : 0 ≤ (r - (q + 1)) * (r - (q + 1)) := by
      rcases Int.le_total 0 (r - (q + 1)) with c | c
      · exact Int.mul_nonneg c c
      · have := Int.mul_nonneg (show 0 ≤ -(r - (q + 1)) by omega) (show 0 ≤ -(r - (q + 1)) by omega)
        rwa [Int.neg_mul_neg] at this
    have h7 : (r + (q + 1)) * (r + (q + 1)) = (r - (q + 1)) * (r - (q + 1)) + 4 * (r * (q + 1)) := by grind
    have h8 : (2 * (n + 1)) * (2 * (n + 1)) = 4 * ((n + 1) * (n + 1)) := by grind
    omega

theorem root_unique {n r s : Int} (h : IsRoot n r) (k : IsRoot n s) : r = s := by
  obtain ⟨h1, h2, h3⟩ := h
  obtain ⟨k1, k2, k3⟩ := k
  rcases Int.lt_trichotomy r s with c | c | c
  · have : (r + 1) * (r + 1) ≤ s * s := by
      have := Int.mul_le_mul_of_nonneg_right (show r + 1 ≤ s by omega) (show 0 ≤ r + 1 by omega)
      have := Int.mul_le_mul_of_nonneg_left (show r + 1 ≤ s by omega) (show 0 ≤ s by omega)
      omega
    omega
  · exact c
  · have : (s + 1) * (s + 1) ≤ r * r := by
      have := Int.mul_le_mul_of_nonneg_right (show s + 1 ≤ r by omega) (show 0 ≤ s + 1 by omega)
      have := Int.mul_le_mul_of_nonneg_left (show s + 1 ≤ r by omega) (show 0 ≤ r by omega)
      omega
    omega

set_option maxRecDepth 100000 in
set_option maxHeartbeats 2000000 in
theorem sqrt_any {ok : Int → Prop} (hDM : DivOK ok) {a : List Int} {w : World} {sa : Value} (hA : U32 w sa a) (da : Dig a) (ha : a.length ≤ 1048576) (hok : ∀ r, 0 < r → r ≤ 2 ^ (16 * (trimL a).length) → ok r) :
    Calls Tryd.prog 26 #[sa] w fun e w' => ∃ sv r, e = .returned sv ∧ U32 w' sv (num r) ∧ IsRoot (val a) r ∧ Below w.heap.size w w' := by
  have l1 := trimL_length a
  have dx := da.trimL
  have nx := trimL_trimL a
  have v1 : Hid (val (trimL a) = val a) := val_trimL a
  go_enter Tryd.func26, Tryd.ntmps26
  go_wp2_with fail
  refine (trim_at hA (by omega) (Nat.le_refl _)).mono ?_
  rintro e w1 ⟨sx, rfl, hx, hb1⟩
  have hx1 := hx.up hb1.size
  have Hok : Hid (∀ r, 0 < r → r ≤ 2 ^ (16 * (trimL a).length) → ok r) := hok
  clear hok
  generalize trimL a = x at *
  by_cases h0 : x.length = 0
  · obtain rfl : x = [] := List.eq_nil_of_length_eq_zero h0
    obtain ⟨px, cx, rfl⟩ := hx.len
    go_wp2
    go_ret
    refine ⟨_, 0, rfl, ?_, ?_, hb1⟩
    · rw [num_zero]; exact .inl ⟨⟨_, _, rfl⟩, rfl⟩
    · rw [← v1.out]; exact ⟨by simp, by simp [val], by simp [val]⟩
  · obtain ⟨px, cx, rfl⟩ := hx.len
    have hz : ((x.length : Int) == 0) = false := by rw [beq_eq_false_iff_ne]; omega
    have hvx : 0 < val x := by
      rcases Int.lt_or_eq_of_le (val_nonneg dx) with h | h
      · exact h
      · have := val_zero dx h.symm
        rw [nx] at this
        rw [this] at h0
        exact absurd rfl h0
    go_wp2_with fail
    refine (aboveRoot_any hx1 dx nx (by omega) (by omega)).mono ?_
    rintro e w2 ⟨sr, r0, rfl, hr0, hl0, hp0, hs0, hP0, hb2⟩
    have hx2 := hx1.go hb2
    have hb12 : Below w.heap.size w w2 := hb1.trans (hb2.mono hb1.size)
    go_wp2
    go_loopg [3] r0.toNat (fun k rv wr => ∃ r : Int, k = r.toNat ∧ U32 wr rv (num r) ∧ (num r).length ≤ x.length + 1 ∧ 0 < r ∧ val x < (r + 1) * (r + 1) ∧ r ≤ 2 ^ (16 * x.length) ∧ Below w2.heap.size w2 wr)
    case atStart =>
      have hsq : val x < (r0 + 1) * (r0 + 1) := by
        have : (r0 + 1) * (r0 + 1) = r0 * r0 + 2 * r0 + 1 := by grind
        omega
      exact ⟨r0, rfl, hr0, hl0, hp0, hsq, hP0, Below.refl _ _⟩
    case round =>
      obtain ⟨r, hk, hR, hRl, hR0, hRu, hRP, hnx⟩ := hrel
      have HK : Hid (gk = r.toNat) := hk
      clear hk
      have hxr := hx2.go hnx
      have hRQ : r ≤ pB x.length := Int.le_trans hRP (pow16_pB _)
      have hvr := num_val (show 0 ≤ r by omega)
      have HVR : Hid (val (num r) = r) := hvr
      clear hvr
      go_wp2_with fail
      refine (hDM _ _ _ _ _ hxr hR dx (num_dig r) (by omega) (by omega) (by rw [HVR.out]; exact hR0) (by rw [HVR.out]; exact Hok.out r hR0 hRP)).mono ?_
      rintro e w3 ⟨sq, sm, rfl, hq, hm, hb3⟩
      rw [HVR.out] at hq hm
      have hR3 := hR.go hb3
      have hql : (num (val x / r)).length ≤ x.length := by
        refine num_len (Int.lt_of_le_of_lt (Int.ediv_le_self _ (val_nonneg dx)) (val_lt dx))
      have hq0 : 0 ≤ val x / r := Int.ediv_nonneg (val_nonneg dx) (by omega)
      go_wp2_with fail
      refine (add_any hR3 hq (num_dig _) (num_dig _) (by omega) (by omega)).mono ?_
      rintro e w4 ⟨ss, rfl, hs, hb4⟩
      rw [HVR.out, num_val hq0] at hs
      have hsl : (num (r + val x / r)).length ≤ x.length + 2 := by
        refine num_len ?_
        have h1 : val x / r ≤ val x := Int.ediv_le_self _ (val_nonneg dx)
        have h2 := val_lt dx
        have h3 := pB_pos x.length
        rw [show x.length + 2 = x.length + 1 + 1 by omega, pB_succ, pB_succ]
        omega
      go_wp2_with fail
      refine (shiftRight_any (s := 1) hs (num_dig _) (by omega) (by omega)).mono ?_
      rintro e w5 ⟨st, t, rfl, ht, hdt, hlt, hvt, hb5⟩
      rw [num_val (by omega)] at hvt
      have hvt2 : val t = (r + val x / r) / 2 := by rw [hvt]; rfl
      have HT : Hid (val t = (r + val x / r) / 2) := hvt2
      have HTL : Hid (t.length = (num (r + val x / r)).length) := hlt
      have htl : t.length ≤ x.length + 2 := by omega
      clear hvt hvt2 hlt
      go_wp2_with fail
      refine (trim_at ht (by omega) (Nat.le_refl _)).mono ?_
      rintro e w6 ⟨sn, rfl, hn, hb6⟩
      rw [trimL_num hdt, HT.out] at hn
      have hn6 := hn.up hb6.size
      have hB36 : Below w3.heap.size w3 w6 := hb4.trans ((hb5.trans (hb6.mono hb5.size)).mono hb4.size)
      have hR6 := hR3.go hB36
      have hB26 : Below w2.heap.size w2 w6 := hnx.trans ((hb3.trans (hB36.mono hb3.size)).mono hnx.size)
      have hnl : (num ((r + val x / r) / 2)).length ≤ x.length + 2 := by rw [← HT.out]; exact Nat.le_trans (num_length hdt) htl
      have hv6 : Hid (val (num ((r + val x / r) / 2)) = (r + val x / r) / 2) := num_val (by omega)
      go_wp2_with fail
      refine (cmp_any hn6 hR6 (num_dig _) (num_dig _) (by omega) (by omega)).mono ?_
      rintro e w7 ⟨rfl, hb7⟩
      rw [hv6.out, HVR.out]
      have hB27 : Below w2.heap.size w2 w7 := hB26.trans (hb7.mono hB26.size)
      by_cases hc : r ≤ (r + val x / r) / 2
      · have hcc : 0 ≤ cmpI ((r + val x / r) / 2) r := by unfold cmpI; split <;> (try split) <;> omega
        have hroot := newton_stop hR0 hc hRu
        generalize cmpI ((r + val x / r) / 2) r = cc at *
        go_wp2
        go_ret
        exact ⟨_, r, rfl, hR6.go hb7, by rw [← v1.out]; exact hroot, hb12.trans (hB27.mono hb12.size)⟩
      · have hcc : cmpI ((r + val x / r) / 2) r < 0 := by rw [cmpI_lt (by omega)]; omega
        obtain ⟨hs1, hs2⟩ := newton_step hvx hR0 (by omega)
        have hn7 := hn6.go hb7
        have hlen : (num ((r + val x / r) / 2)).length ≤ x.length + 1 := by
          refine num_len ?_
          have h3 := pB_pos x.length
          rw [pB_succ]
          omega
        generalize cmpI ((r + val x / r) / 2) r = cc at *
        go_wp2
        go_roundg ((r + val x / r) / 2).toNat
        case measure => rw [HK.out]; omega
        case rel => exact ⟨_, rfl, hn7, hlen, hs1, hs2, by omega, hB27⟩

end Go.Proofs.YtkalknmindgljaaDoor
