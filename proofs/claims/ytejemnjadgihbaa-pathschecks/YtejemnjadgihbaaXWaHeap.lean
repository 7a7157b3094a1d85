/-
  container/heap over the queue of stops: what waits is the same stops, in some order; whatever comes off was there.
-/
import Derived.Test.YtejemnjadgihbaaXWaQ
namespace Go.Proofs.Ytejemnjadgihbaa
open Go Go.Proofs Go.RowKit

/-- The queue, and the cell that holds it. -/
structure QI (W : World) (sb base g cap : Nat) (L : List Stp) : Prop where
  cell : W.cell? ⟨sb, 5, none⟩ = some (.slice (some ⟨g, 0, none⟩) L.length cap)
  own : QO W base (.slice (some ⟨g, 0, none⟩) L.length cap) L
  ne : sb ≠ g
theorem QI.grown {W W' : World} {sb base g cap : Nat} {L L' : List Stp} (h : QI W sb base g cap L) (hg : W.grownBy W' (some g)) (hl : L'.length = L.length) (ho : QO W' base (.slice (some ⟨g, 0, none⟩) L.length cap) L') : QI W' sb base g cap L' := by
  refine ⟨?_, ?_, h.ne⟩
  · rw [hl]; exact hg.cell h.cell (fun e => h.ne (Option.some.inj e))
  · rw [hl]; exact ho

theorem qswap_at (base g cap : Nat) (L : List Stp) (i j m : Nat) (w : World) (hm : L.length = m) (h : QO w base (.slice (some ⟨g, 0, none⟩) m cap) L) (hi : i < m) (hj : j < m) :
    Calls Try.prog 55 #[.slice (some ⟨g, 0, none⟩) m cap, .int .i64 (i : Int), .int .i64 (j : Int)] w fun e w' => e = .returned (.tuple #[]) ∧ ∃ L', L'.length = m ∧ L'.Perm L ∧ (∀ k, k ≠ i → k ≠ j → L'[k]? = L[k]?) ∧ (L'[j]? = L[i]?) ∧ w.grownBy w' (some g) ∧ QO w' base (.slice (some ⟨g, 0, none⟩) m cap) L' := by
  subst hm
  refine (qswap_any base g cap L i j w h hi hj).mono ?_
  rintro e w' ⟨rfl, h1, h2⟩
  refine ⟨rfl, _, by simp, swap_perm hi hj, fun k k1 k2 => ?_, ?_, h1, h2⟩
  · rw [List.getElem?_set_ne (Ne.symm k2), List.getElem?_set_ne (Ne.symm k1)]
  · rw [List.getElem?_set_self (by simpa using hj), List.getElem?_eq_getElem hi]
def RetB (e : Ending) : Prop := ∃ b, e = .returned (.bool b)
/-- What is there behind a call: the same stops, in some order; the last one stands. -/
def SameQ (sb base g cap n : Nat) (L : List Stp) (w w' : World) : Prop := ∃ L', L'.Perm L ∧ L'[n]? = L[n]? ∧ w.grownBy w' (some g) ∧ QI w' sb base g cap L'

set_option maxRecDepth 100000 in
set_option maxHeartbeats 4000000 in
theorem up_any (sb base g cap : Nat) (L : List Stp) (j : Nat) (w : World) (h : QI w sb base g cap L) (hj : j < L.length) (hm : L.length ≤ 8796093022208) :
    Calls Try.prog 35 #[.iface 63 (.pointer (some ⟨sb, 5, none⟩)), .int .i64 (j : Int)] w fun e w' => e = .returned (.tuple #[]) ∧ ∃ L', L'.Perm L ∧ w.grownBy w' (some g) ∧ QI w' sb base g cap L' := by
  go_enter Try.func35, Try.ntmps35
  go_wp2
  go_loopw [1] (fun iv wr => ∃ (i : Nat) (Lr : List Stp), iv = .int .i64 i ∧ i < L.length ∧ Hid (Lr.length = L.length) ∧ Lr.Perm L ∧ w.grownBy wr (some g) ∧ QI wr sb base g cap Lr) (fun iv _ => (intOf iv).toNat)
  case atStart => exact ⟨j, L, rfl, hj, rfl, List.Perm.refl _, grown_refl _ _, h⟩
  case round =>
    obtain ⟨i, Lr, rfl, hi, HL, hp, hg, hq⟩ := hrel
    have hc := hq.cell
    rw [HL.out] at hc
    have m1 := method_less ⟨sb, 5, none⟩ wr _ hc
    by_cases h0 : i = 0
    · subst h0
      go_wp2
      exact bodyPost_end (results_none rfl _ _ _) rfl ⟨rfl, Lr, hp, hg, hq⟩
    · have hi1 : (1 : Int) ≤ (i : Int) := by omega
      have hi2 : (i : Int) ≤ 8796093022208 := by omega
      obtain ⟨k, hk⟩ : ∃ k : Nat, ((i : Int) - 1) / 2 = (k : Int) := ⟨(i - 1) / 2, by omega⟩
      have hki : k < i := by omega
      have hne : ¬ ((i : Int) - 1) / 2 = (i : Int) := by omega
      have hl : Calls Try.prog 54 #[.slice (some ⟨g, 0, none⟩) L.length cap, .int .i64 (i : Int), .int .i64 (((i : Int) - 1) / 2)] wr fun e w' => (∃ b, e = .returned (.bool b)) ∧ ∃ q, w' = wr.drewN q := by
        have := qless_any base g cap Lr i k wr hq.own (by rw [HL.out]; exact hi) (by rw [HL.out]; omega)
        rw [HL.out] at this
        rw [hk]; exact this
      have HK : Hid _ := hk
      clear hk
      go_wp2_with fail
      refine hl.mono ?_
      rintro e w1 ⟨⟨b, rfl⟩, q, rfl⟩
      clear hl m1
      have hq1 : QI (wr.drewN q) sb base g cap Lr := ⟨hq.cell, hq.own, hq.ne⟩
      have hg1 := grown_drewN hg q
      have hc1 : (wr.drewN q).cell? ⟨sb, 5, none⟩ = some (.slice (some ⟨g, 0, none⟩) L.length cap) := hc
      generalize wr.drewN q = w1 at hq1 hg1 hc1 ⊢
      clear hc hq hg
      cases b with
      | false =>
        go_wp2
        exact bodyPost_end (results_none rfl _ _ _) rfl ⟨rfl, Lr, hp, hg1, hq1⟩
      | true =>
        have m2 := method_swap ⟨sb, 5, none⟩ w1 _ hc1
        have hs : Calls Try.prog 55 #[.slice (some ⟨g, 0, none⟩) L.length cap, .int .i64 (((i : Int) - 1) / 2), .int .i64 (i : Int)] w1 fun e w' => e = .returned (.tuple #[]) ∧ ∃ L', Hid (L'.length = L.length) ∧ L'.Perm L ∧ w1.grownBy w' (some g) ∧ QI w' sb base g cap L' := by
          have h0 := hq1.own
          rw [HL.out] at h0
          rw [HK.out]
          refine (qswap_at base g cap Lr k i L.length w1 HL.out h0 (by omega) hi).mono ?_
          rintro e w' ⟨rfl, L', k1, k2, _, _, h2, h3⟩
          exact ⟨rfl, L', k1, k2.trans hp, h2, hq1.grown h2 (k1.trans HL.out.symm) (by rw [HL.out]; exact h3)⟩
        go_wp2_with fail
        refine hs.mono ?_
        rintro e w2 ⟨rfl, L2, HL2, hp2, hg2, hq2⟩
        clear hs m2 hc1
        go_wp2
        exact ⟨⟨k, L2, by rw [HK.out], by omega, HL2, hp2, grown_trans hg1 hg2, hq2⟩, by have := HK.out; simp [intOf]; omega⟩

set_option maxRecDepth 100000 in
set_option maxHeartbeats 4000000 in
theorem down_any (sb base g cap : Nat) (L : List Stp) (n : Nat) (w : World) (h : QI w sb base g cap L) (hn : n < L.length) (hm : L.length ≤ 8796093022208) :
    Calls Try.prog 36 #[.iface 63 (.pointer (some ⟨sb, 5, none⟩)), .int .i64 0, .int .i64 (n : Int)] w fun e w' => RetB e ∧ SameQ sb base g cap n L w w' := by
  go_enter Try.func36, Try.ntmps36
  go_wp2
  go_loopw [7] (fun iv wr => ∃ (i : Nat) (Lr : List Stp), iv = .int .i64 i ∧ i < L.length ∧ Hid (Lr.length = L.length) ∧ Lr.Perm L ∧ Hid (Lr[n]? = L[n]?) ∧ w.grownBy wr (some g) ∧ QI wr sb base g cap Lr) (fun iv _ => L.length - (intOf iv).toNat)
  case atStart => exact ⟨0, L, rfl, by omega, rfl, List.Perm.refl _, rfl, grown_refl _ _, h⟩
  case round =>
    obtain ⟨i, Lr, rfl, hi, HL, hp, HN, hg, hq⟩ := hrel
    have hi2 : (i : Int) ≤ 8796093022208 := by omega
    have hc := hq.cell
    rw [HL.out] at hc
    have hless : ∀ (W : World) (x y : Nat), QI W sb base g cap Lr → x < L.length → y < L.length → Calls Try.prog 54 #[.slice (some ⟨g, 0, none⟩) L.length cap, .int .i64 (x : Int), .int .i64 (y : Int)] W fun e w' => (∃ b, e = .returned (.bool b)) ∧ ∃ q, w' = W.drewN q := by
      intro W x y hW hx hy
      have := qless_any base g cap Lr x y W hW.own (by rw [HL.out]; exact hx) (by rw [HL.out]; exact hy)
      rwa [HL.out] at this
    have hend : ∀ W : World, w.grownBy W (some g) → QI W sb base g cap Lr → SameQ sb base g cap n L w W := fun W hW hQ => ⟨Lr, hp, HN.out, hW, hQ⟩
    by_cases h1 : 2 * i + 1 < n
    · have h1z : ¬ (n : Int) ≤ 2 * (i : Int) + 1 := by omega
      have h1y : ¬ 2 * (i : Int) + 1 < 0 := by omega
      -- behind the choice of a child k
      have hrest : ∀ (W : World) (k : Nat), QI W sb base g cap Lr → i < k → k < n → w.grownBy W (some g) →
          (Calls Try.prog 54 #[.slice (some ⟨g, 0, none⟩) L.length cap, .int .i64 (k : Int), .int .i64 (i : Int)] W fun e w' => (∃ b, e = .returned (.bool b)) ∧ ∃ q, w' = W.drewN q) ∧
          ∀ q, Calls Try.prog 55 #[.slice (some ⟨g, 0, none⟩) L.length cap, .int .i64 (i : Int), .int .i64 (k : Int)] (W.drewN q) fun e w' => e = .returned (.tuple #[]) ∧ ∃ L', Hid (L'.length = L.length) ∧ L'.Perm L ∧ Hid (L'[n]? = L[n]?) ∧ w.grownBy w' (some g) ∧ QI w' sb base g cap L' := by
        intro W k hW hik hkn hgW
        refine ⟨hless W k i hW (by omega) (by omega), fun q => ?_⟩
        have hq1 : QI (W.drewN q) sb base g cap Lr := ⟨hW.cell, hW.own, hW.ne⟩
        have h0 := hq1.own
        rw [HL.out] at h0
        refine (qswap_at base g cap Lr i k L.length (W.drewN q) HL.out h0 (by omega) (by omega)).mono ?_
        rintro e w' ⟨rfl, L', k1, k2, k3, _, h2, h3⟩
        exact ⟨rfl, L', k1, k2.trans hp, (k3 n (by omega) (by omega)).trans HN.out, grown_trans (grown_drewN hgW q) h2, hq1.grown h2 (k1.trans HL.out.symm) (by rw [HL.out]; exact h3)⟩
      have m1 := method_less ⟨sb, 5, none⟩ wr _ hc
      by_cases h2 : 2 * i + 2 < n
      · have h2z : 2 * (i : Int) + 1 + 1 < (n : Int) := by omega
        have hl : Calls Try.prog 54 #[.slice (some ⟨g, 0, none⟩) L.length cap, .int .i64 (2 * (i : Int) + 1 + 1), .int .i64 (2 * (i : Int) + 1)] wr fun e w' => (∃ b, e = .returned (.bool b)) ∧ ∃ q, w' = wr.drewN q := by
          have := hless wr (2 * i + 2) (2 * i + 1) hq (by omega) (by omega)
          rwa [show ((2 * i + 2 : Nat) : Int) = 2 * (i : Int) + 1 + 1 by omega, show ((2 * i + 1 : Nat) : Int) = 2 * (i : Int) + 1 by omega] at this
        have HR : Hid _ := hrest
        clear hless hrest
        go_wp2_with fail
        refine hl.mono ?_
        rintro e w1 ⟨⟨b, rfl⟩, q, rfl⟩
        clear hl m1
        have hq1 : QI (wr.drewN q) sb base g cap Lr := ⟨hq.cell, hq.own, hq.ne⟩
        have hg1 := grown_drewN hg q
        have hc1 : (wr.drewN q).cell? ⟨sb, 5, none⟩ = some (.slice (some ⟨g, 0, none⟩) L.length cap) := hc
        generalize wr.drewN q = w1 at hq1 hg1 hc1 ⊢
        clear hc hq hg
        have m1 := method_less ⟨sb, 5, none⟩ w1 _ hc1
        cases b with
        | false =>
          obtain ⟨r1, r2⟩ := HR.out w1 (2 * i + 1) hq1 (by omega) (by omega) hg1
          rw [show ((2 * i + 1 : Nat) : Int) = 2 * (i : Int) + 1 by omega] at r1 r2
          go_wp2_with fail
          refine r1.mono ?_
          rintro e w2 ⟨⟨b, rfl⟩, q2, rfl⟩
          clear r1 m1
          replace r2 := r2 q2
          have hq2 : QI (w1.drewN q2) sb base g cap Lr := ⟨hq1.cell, hq1.own, hq1.ne⟩
          have hg2 := grown_drewN hg1 q2
          have hc2 : (w1.drewN q2).cell? ⟨sb, 5, none⟩ = some (.slice (some ⟨g, 0, none⟩) L.length cap) := hc1
          generalize w1.drewN q2 = w2 at hq2 hg2 hc2 r2 ⊢
          clear hc1 hq1 hg1
          cases b with
          | false =>
            go_wp2
            go_ret
            exact ⟨⟨_, rfl⟩, hend _ hg2 hq2⟩
          | true =>
            have m2 := method_swap ⟨sb, 5, none⟩ w2 _ hc2
            go_wp2_with fail
            refine r2.mono ?_
            rintro e w3 ⟨rfl, L3, HL3, hp3, HN3, hg3, hq3⟩
            clear r2 m2 hc2
            go_wp2
            exact ⟨⟨2 * i + 1, L3, by go_num, by omega, HL3, hp3, HN3, hg3, hq3⟩, by simp [intOf]; omega⟩
        | true =>
          obtain ⟨r1, r2⟩ := HR.out w1 (2 * i + 2) hq1 (by omega) (by omega) hg1
          rw [show ((2 * i + 2 : Nat) : Int) = 2 * (i : Int) + 1 + 1 by omega] at r1 r2
          go_wp2_with fail
          refine r1.mono ?_
          rintro e w2 ⟨⟨b, rfl⟩, q2, rfl⟩
          clear r1 m1
          replace r2 := r2 q2
          have hq2 : QI (w1.drewN q2) sb base g cap Lr := ⟨hq1.cell, hq1.own, hq1.ne⟩
          have hg2 := grown_drewN hg1 q2
          have hc2 : (w1.drewN q2).cell? ⟨sb, 5, none⟩ = some (.slice (some ⟨g, 0, none⟩) L.length cap) := hc1
          generalize w1.drewN q2 = w2 at hq2 hg2 hc2 r2 ⊢
          clear hc1 hq1 hg1
          cases b with
          | false =>
            go_wp2
            go_ret
            exact ⟨⟨_, rfl⟩, hend _ hg2 hq2⟩
          | true =>
            have m2 := method_swap ⟨sb, 5, none⟩ w2 _ hc2
            go_wp2_with fail
            refine r2.mono ?_
            rintro e w3 ⟨rfl, L3, HL3, hp3, HN3, hg3, hq3⟩
            clear r2 m2 hc2
            go_wp2
            exact ⟨⟨2 * i + 2, L3, by go_num, by omega, HL3, hp3, HN3, hg3, hq3⟩, by simp [intOf]; omega⟩
      · have h2z : ¬ 2 * (i : Int) + 1 + 1 < (n : Int) := by omega
        obtain ⟨r1, r2⟩ := hrest wr (2 * i + 1) hq (by omega) (by omega) hg
        rw [show ((2 * i + 1 : Nat) : Int) = 2 * (i : Int) + 1 by omega] at r1 r2
        clear hless hrest
        go_wp2_with fail
        refine r1.mono ?_
        rintro e w2 ⟨⟨b, rfl⟩, q2, rfl⟩
        clear r1 m1
        replace r2 := r2 q2
        have hq2 : QI (wr.drewN q2) sb base g cap Lr := ⟨hq.cell, hq.own, hq.ne⟩
        have hg2 := grown_drewN hg q2
        have hc2 : (wr.drewN q2).cell? ⟨sb, 5, none⟩ = some (.slice (some ⟨g, 0, none⟩) L.length cap) := hc
        generalize wr.drewN q2 = w2 at hq2 hg2 hc2 r2 ⊢
        clear hc hq hg
        cases b with
        | false =>
          go_wp2
          go_ret
          exact ⟨⟨_, rfl⟩, hend _ hg2 hq2⟩
        | true =>
          have m2 := method_swap ⟨sb, 5, none⟩ w2 _ hc2
          go_wp2_with fail
          refine r2.mono ?_
          rintro e w3 ⟨rfl, L3, HL3, hp3, HN3, hg3, hq3⟩
          clear r2 m2 hc2
          go_wp2
          exact ⟨⟨2 * i + 1, L3, by go_num, by omega, HL3, hp3, HN3, hg3, hq3⟩, by simp [intOf]; omega⟩
    · have h1z : (n : Int) ≤ 2 * (i : Int) + 1 := by omega
      go_wp2
      go_ret
      exact ⟨⟨_, rfl⟩, hend _ hg hq⟩
end Go.Proofs.Ytejemnjadgihbaa
