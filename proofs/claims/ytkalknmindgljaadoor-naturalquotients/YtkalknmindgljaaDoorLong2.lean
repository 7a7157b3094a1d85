/-
  The contract of natural.guessLimb.
-/
import Derived.BigRegion
import Derived.Test.YtkalknmindgljaaDoorLong1
import Derived.Test.YtkalknmindgljaaDoorRangeLib
namespace Go.Proofs.YtkalknmindgljaaDoor
open Go Go.Proofs Go.RowKit Go.Shelf

/-- The guess's loop: two is guess times the divisor's highest limb and the rest; nothing that fits is above the guess. -/
structure GI (v1 v2 two u2 G R : Int) : Prop where
  g0 : 0 ≤ G
  r0 : 0 ≤ R
  r1 : R < 8589934592
  sum : G * v1 + R = two
  low : ∀ Q : Int, 0 ≤ Q → Q < 4294967296 → Q * (v1 * 4294967296 + v2) ≤ two * 4294967296 + u2 → Q ≤ G
theorem GI.start {v1 v2 two u2 : Int} (h1 : 0 < v1) (h1' : v1 < 4294967296) (h2 : 0 ≤ v2) (ht : 0 ≤ two) (hu : 0 ≤ u2 ∧ u2 < 4294967296) : GI v1 v2 two u2 (two / v1) (two % v1) := by
  have hm := Int.emod_lt_of_pos two h1
  have hn := Int.emod_nonneg two (show v1 ≠ 0 by omega)
  refine ⟨Int.ediv_nonneg ht (by omega), hn, by omega, by rw [Int.mul_comm]; exact Int.mul_ediv_add_emod two v1, fun Q h0 hB h => ?_⟩
  refine Int.le_ediv_of_mul_le h1 ?_
  have h3 : 0 ≤ Q * v2 := Int.mul_nonneg h0 h2
  have e : Q * (v1 * 4294967296 + v2) = Q * v1 * 4294967296 + Q * v2 := by grind
  rw [e] at h
  omega
theorem GI.step {v1 v2 two u2 G R : Int} (h : GI v1 v2 two u2 G R) (hv : 2147483648 ≤ v1) (hv' : v1 < 4294967296) (hu : 0 ≤ u2) (hR : R < 4294967296) (hc : 4294967296 ≤ G ∨ R * 4294967296 + u2 < G * v2) : 1 ≤ G ∧ GI v1 v2 two u2 (G - 1) (R + v1) := by
  have hG : 1 ≤ G := by
    rcases hc with h' | h'
    · omega
    · have h0 := h.g0
      rcases Int.lt_or_eq_of_le h0 with h1 | h1
      · omega
      · rw [← h1] at h'
        have := h.r0
        omega
  refine ⟨hG, by omega, by have := h.r0; omega, by omega, by have := h.sum; rw [Int.sub_mul]; omega, fun Q h0 hB hQ => ?_⟩
  have hle := h.low Q h0 hB hQ
  rcases hc with h' | h'
  · omega
  · by_cases e : Q = G
    · subst e
      have hs := h.sum
      rw [← hs] at hQ
      have e1 : Q * (v1 * 4294967296 + v2) = Q * v1 * 4294967296 + Q * v2 := by grind
      have e2 : (Q * v1 + R) * 4294967296 = Q * v1 * 4294967296 + R * 4294967296 := by grind
      omega
    · omega
theorem GI.fin {v1 v2 two u2 u0 u1 G R : Int} (h : GI v1 v2 two u2 G R) (h2 : 0 ≤ v2 ∧ v2 < 4294967296) (hu : 0 ≤ u2) (hu1 : u1 < 4294967296) (ht : two = u0 * 4294967296 + u1) (h0 : u0 ≤ v1) (hv : 0 ≤ v1)
    (hx : 4294967296 ≤ R ∨ G < 4294967296 ∧ G * v2 ≤ R * 4294967296 + u2) : G < 4294967296 ∧ G * (v1 * 4294967296 + v2) ≤ two * 4294967296 + u2 := by
  have hs := h.sum
  have hr := h.r0
  have e1 : G * (v1 * 4294967296 + v2) = G * v1 * 4294967296 + G * v2 := by grind
  rw [e1]
  have hG : G < 4294967296 := by
    rcases hx with hx | hx
    · rcases Int.lt_or_le G 4294967296 with h' | h'
      · exact h'
      · have : 4294967296 * v1 ≤ G * v1 := Int.mul_le_mul_of_nonneg_right h' hv
        omega
    · exact hx.1
  refine ⟨hG, ?_⟩
  rcases hx with hx | hx
  · have h4 := mul_le_B h2 (t := G) ⟨h.g0, hG⟩
    rw [Int.mul_comm] at h4
    omega
  · omega

set_option maxRecDepth 100000 in
set_option maxHeartbeats 4000000 in
theorem guessLimb_core {w : World} {g o m c bb ob cb n0 n1 n2 : Nat} {v1 v2 u0 u1 u2 : Int} (e1 : (n2 : Int) - 1 = n1) (e2 : (n2 : Int) - 2 = n0) (hk : n2 ≤ 4294967296) (hm : n2 < m)
    (hc1 : w.cell? ⟨bb, ob + n1, none⟩ = some (.int .u32 v1)) (hc2 : w.cell? ⟨bb, ob + n0, none⟩ = some (.int .u32 v2))
    (hz0 : w.cell? ⟨g, o + n2, none⟩ = some (.int .u32 u0)) (hz1 : w.cell? ⟨g, o + n1, none⟩ = some (.int .u32 u1)) (hz2 : w.cell? ⟨g, o + n0, none⟩ = some (.int .u32 u2))
    (g1 : 2147483648 ≤ v1 ∧ v1 < 4294967296) (g2 : 0 ≤ v2 ∧ v2 < 4294967296) (y0 : 0 ≤ u0 ∧ u0 < 4294967296) (y1 : 0 ≤ u1 ∧ u1 < 4294967296) (y2 : 0 ≤ u2 ∧ u2 < 4294967296) :
    Calls Tryd.prog 62 #[.slice (some ⟨g, o, none⟩) m c, .slice (some ⟨bb, ob, none⟩) n2 cb] w fun e w' => ∃ G, e = .returned (.int .u32 G) ∧ (0 ≤ G ∧ G < 4294967296) ∧
      (u0 ≤ v1 → G * (v1 * 4294967296 + v2) ≤ (u0 * 4294967296 + u1) * 4294967296 + u2 ∧ ∀ Q : Int, 0 ≤ Q → Q < 4294967296 → Q * (v1 * 4294967296 + v2) ≤ (u0 * 4294967296 + u1) * 4294967296 + u2 → Q ≤ G) ∧
      w'.heap = w.heap ∧ Below w.heap.size w w' := by
  have hlt1 : n1 < n2 := by omega
  have hlt0 : n0 < n2 := by omega
  have hlm1 : n1 < m := by omega
  have hlm0 : n0 < m := by omega
  have hor := or_limbs u0 u1 y0 y1
  obtain ⟨two, htwo⟩ : ∃ two, two = u0 * 4294967296 + u1 := ⟨_, rfl⟩
  have HT : Hid (two = u0 * 4294967296 + u1) := htwo
  rw [← htwo] at hor
  have ht0 : 0 ≤ two ∧ two < 18446744073709551616 := by omega
  have hq : IntKind.u64.wrap (two.tdiv v1) = two / v1 := IntWalk.u64_quo _ _ ⟨by omega, by omega, by omega⟩
  have hst := GI.start (v1 := v1) (v2 := v2) (two := two) (u2 := u2) (by omega) (by omega) g2.1 ht0.1 y2
  clear htwo
  go_enter Tryd.func62, Tryd.ntmps62
  go_wp2
  go_region
  go_wp2
  go_region
  go_wp2
  have hcv : ∀ (x y : World) (p : Addr), x.heap = y.heap → x.cell? p = y.cell? p := fun x y p e => World.cell?_of_block (by rw [e])
  go_loopw [8, 9] (fun gv rv wr => ∃ (G R : Int), gv = .int .u64 G ∧ rv = .int .u64 R ∧ GI v1 v2 two u2 G R ∧ G < 18446744073709551616 ∧ wr.heap = w.heap ∧ Below w.heap.size w wr) (fun _ rv _ => (8589934592 - intOf rv).toNat)
  case atStart =>
    refine ⟨_, _, rfl, rfl, hst, ?_, rfl, (Below.refl _ _).drew.drew⟩
    have := Int.ediv_le_self v1 ht0.1
    omega
  case round =>
    obtain ⟨G, R, rfl, rfl, hgi, hG64, hheap, hbl⟩ := hrel
    have hg0 := hgi.g0
    have hr0 := hgi.r0
    have hr1 := hgi.r1
    have k1 := (hcv _ _ ⟨bb, ob + n0, none⟩ hheap).trans hc2
    have k2 := (hcv _ _ ⟨g, o + n0, none⟩ hheap).trans hz2
    have HH : Hid (wr.heap = w.heap) := hheap
    have Hbig : Hid (∀ (c : 4294967296 ≤ R ∨ G < 4294967296 ∧ G * v2 ≤ R * 4294967296 + u2), (0 ≤ G ∧ G < 4294967296) ∧ (u0 ≤ v1 → G * (v1 * 4294967296 + v2) ≤ (u0 * 4294967296 + u1) * 4294967296 + u2 ∧ ∀ Q : Int, 0 ≤ Q → Q < 4294967296 → Q * (v1 * 4294967296 + v2) ≤ (u0 * 4294967296 + u1) * 4294967296 + u2 → Q ≤ G) ∨ ¬ (0 ≤ G ∧ G < 4294967296) ∧ ¬ u0 ≤ v1) := fun c => by
      by_cases h' : u0 ≤ v1
      · have hf := hgi.fin g2 y2.1 y1.2 HT.out h' (by omega) c
        refine .inl ⟨⟨hg0, hf.1⟩, fun _ => ⟨?_, ?_⟩⟩
        · rw [← HT.out]; exact hf.2
        · rw [← HT.out]; exact hgi.low
      · by_cases h2 : G < 4294967296
        · exact .inl ⟨⟨hg0, h2⟩, fun h => absurd h h'⟩
        · exact .inr ⟨by omega, h'⟩
    clear hheap
    by_cases c1 : R < 4294967296
    · have f1 : (R / 4294967296 == 0) = true := by simp; omega
      have hor2 := or_limbs R u2 ⟨hr0, c1⟩ y2
      by_cases c2 : G < 4294967296
      · have f2 : (G / 4294967296 != 0) = false := by simp; omega
        have hm2 := mul_le_B (x := G) (t := v2) ⟨hg0, c2⟩ g2
        by_cases c3 : R * 4294967296 + u2 < G * v2
        · have hs := hgi.step g1.1 g1.2 y2.1 c1 (.inr c3)
          have hs1 := hs.1
          go_wp2
          go_region
          go_wp2
          go_roundw
          case rel => exact ⟨_, _, rfl, rfl, hs.2, by omega, HH.out, hbl.drew⟩
          case measure => simp [intOf]; omega
        · have hb := Hbig.out (.inr ⟨c2, by omega⟩)
          have c3' : G * v2 ≤ R * 4294967296 + u2 := by omega
          go_wp2
          go_region
          go_wp2
          go_ret
          rcases hb with hb | hb
          · exact ⟨_, rfl, by omega, hb.2, HH.out, hbl.drew⟩
          · omega
      · have f2 : (G / 4294967296 != 0) = true := by simp; omega
        have hs := hgi.step g1.1 g1.2 y2.1 c1 (.inl (by omega))
        have hs1 := hs.1
        go_wp2
        go_region
        go_wp2
        go_roundw
        case rel => exact ⟨_, _, rfl, rfl, hs.2, by omega, HH.out, hbl.drew⟩
        case measure => simp [intOf]; omega
    · have f1 : (R / 4294967296 == 0) = false := by simp; omega
      have hb := Hbig.out (.inl (by omega))
      go_wp2
      go_region
      go_wp2
      go_ret
      rcases hb with hb | hb
      · have hmod : G % 4294967296 = G := Int.emod_eq_of_lt hb.1.1 hb.1.2
        refine ⟨G % 4294967296, rfl, by omega, ?_, HH.out, hbl.drew⟩
        rw [hmod]
        exact hb.2
      · exact ⟨G % 4294967296, rfl, by omega, (fun h => by omega), HH.out, hbl.drew⟩

end Go.Proofs.YtkalknmindgljaaDoor
