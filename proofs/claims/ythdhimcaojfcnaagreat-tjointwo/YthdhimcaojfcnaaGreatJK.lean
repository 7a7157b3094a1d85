/-
  container/heap over the queue of stops: what waits is the same stops, in some order; whatever comes off was there.
-/
import Derived.Test.YthdhimcaojfcnaaGreatXWaQ
import Derived.Test.YthdhimcaojfcnaaGreatXGHeldL
namespace Go.Proofs.YthdhimcaojfcnaaGreat
open Go Go.Proofs Go.RowKit

/-- The queue, and the cell that holds it. -/
structure QI (W : World) (sb base g cap : Nat) (L : List Stp) : Prop where
  cell : W.cell? ⟨sb, 5, none⟩ = some (.slice (some ⟨g, 0, none⟩) L.length cap)
  own : QO W base (.slice (some ⟨g, 0, none⟩) L.length cap) L
  ne : sb ≠ g
theorem QI.grown {W W' : World} {sb base g cap : Nat} {L L' : List Stp} (h : QI W sb base g cap L) (hg : W.grownBy W' (some g)) (hl : L'.length = L.length) (ho : QO W' base (.slice (some ⟨g, 0, none⟩) L.length cap) L') : QI W' sb base g cap L' := by
  refine ⟨?_, ?_, h.ne⟩
  · rw [hl]; exact hg.cell h.cell (fun e => h.ne (Option.some.inj e))
  · rw [hl]; exact ho

theorem qswap_at (base g cap : Nat) (L : List Stp) (i j m : Nat) (w : World) (hm : L.length = m) (h : QO w base (.slice (some ⟨g, 0, none⟩) m cap) L) (hi : i < m) (hj : j < m) :
    Calls Tryz.prog 159 #[.slice (some ⟨g, 0, none⟩) m cap, .int .i64 (i : Int), .int .i64 (j : Int)] w fun e w' => e = .returned (.tuple #[]) ∧ ∃ L', L'.length = m ∧ L'.Perm L ∧ (∀ k, k ≠ i → k ≠ j → L'[k]? = L[k]?) ∧ (L'[j]? = L[i]?) ∧ w.grownBy w' (some g) ∧ QO w' base (.slice (some ⟨g, 0, none⟩) m cap) L' := by
  subst hm
  refine (qswap_any base g cap L i j w h hi hj).mono ?_
  rintro e w' ⟨rfl, h1, h2⟩
  refine ⟨rfl, _, by simp, swap_perm hi hj, fun k k1 k2 => ?_, ?_, h1, h2⟩
  · rw [List.getElem?_set_ne (Ne.symm k2), List.getElem?_set_ne (Ne.symm k1)]
  · rw [List.getElem?_set_self (by simpa using hj), List.getElem?_eq_getElem hi]
def RetB (e : Ending) : Prop := ∃ b, e = .returned (.bool b)
/-- What is there behind a call: the same stops, in some order; the last one stands. -/
def SameQ (sb base g cap n : Nat) (L : List Stp) (w w' : World) : Prop := ∃ L', L'.Perm L ∧ L'[n]? = L[n]? ∧ w.grownBy w' (some g) ∧ QI w' sb base g cap L'

set_option maxRecDepth 100000 in
set_option maxHeartbeats 4000000 in
theorem up_any (sb base g cap : Nat) (L : List Stp) (j : Nat) (w : World) (h : QI w sb base g cap L) (hj : j < L.length) (hm : L.length ≤ 8796093022208) :
    Calls Tryz.prog 92 #[.iface 120 (.pointer (some ⟨sb, 5, none⟩)), .int .i64 (j : Int)] w fun e w' => e = .returned (.tuple #[]) ∧ ∃ L', L'.Perm L ∧ w.grownBy w' (some g) ∧ QI w' sb base g cap L' := by
  go_enter Tryz.func92, Tryz.ntmps92
  go_wp2
  go_loopw [1] (fun iv wr => ∃ (i : Nat) (Lr : List Stp), iv = .int .i64 i ∧ i < L.length ∧ Hid (Lr.length = L.length) ∧ Lr.Perm L ∧ w.grownBy wr (some g) ∧ QI wr sb base g cap Lr) (fun iv _ => (intOf iv).toNat)
  case atStart => exact ⟨j, L, rfl, hj, rfl, List.Perm.refl _, grown_refl _ _, h⟩
  case round =>
    obtain ⟨i, Lr, rfl, hi, HL, hp, hg, hq⟩ := hrel
    have hc := hq.cell
    rw [HL.out] at hc
    have m1 := method_less ⟨sb, 5, none⟩ wr _ hc
    by_cases h0 : i = 0
    · subst h0
      go_wp2
      exact bodyPost_end (results_none rfl _ _ _) rfl ⟨rfl, Lr, hp, hg, hq⟩
    · have hi1 : (1 : Int) ≤ (i : Int) := by omega
      have hi2 : (i : Int) ≤ 8796093022208 := by omega
      obtain ⟨k, hk⟩ : ∃ k : Nat, ((i : Int) - 1) / 2 = (k : Int) := ⟨(i - 1) / 2, by omega⟩
      have hki : k < i := by omega
      have hne : ¬ ((i : Int) - 1) / 2 = (i : Int) := by omega
      have hl : Calls Tryz.prog 158 #[.slice (some ⟨g, 0, none⟩) L.length cap, .int .i64 (i : Int), .int .i64 (((i : Int) - 1) / 2)] wr fun e w' => (∃ b, e = .returned (.bool b)) ∧ ∃ q, w' = wr.drewN q := by
        have := qless_any base g cap Lr i k wr hq.own (by rw [HL.out]; exact hi) (by rw [HL.out]; omega)
        rw [HL.out] at this
        rw [hk]; exact this
      have HK : Hid _ := hk
      clear hk
      go_wp2_with fail
      refine hl.mono ?_
      rintro e w1 ⟨⟨b, rfl⟩, q, rfl⟩
      clear hl m1
      have hq1 : QI (wr.drewN q) sb base g cap Lr := ⟨hq.cell, hq.own, hq.ne⟩
      have hg1 := grown_drewN hg q
      have hc1 : (wr.drewN q).cell? ⟨sb, 5, none⟩ = some (.slice (some ⟨g, 0, none⟩) L.length cap) := hc
      generalize wr.drewN q = w1 at hq1 hg1 hc1 ⊢
      clear hc hq hg
      cases b with
      | false =>
        go_wp2
        exact bodyPost_end (results_none rfl _ _ _) rfl ⟨rfl, Lr, hp, hg1, hq1⟩
      | true =>
        have m2 := method_swap ⟨sb, 5, none⟩ w1 _ hc1
        have hs : Calls Tryz.prog 159 #[.slice (some ⟨g, 0, none⟩) L.length cap, .int .i64 (((i : Int) - 1) / 2), .int .i64 (i : Int)] w1 fun e w' => e = .returned (.tuple #[]) ∧ ∃ L', Hid (L'.length = L.length) ∧ L'.Perm L ∧ w1.grownBy w' (some g) ∧ QI w' sb base g cap L' := by
          have h0 := hq1.own
          rw [HL.out] at h0
          rw [HK.out]
          refine (qswap_at base g cap Lr k i L.length w1 HL.out h0 (by omega) hi).mono ?_
          rintro e w' ⟨rfl, L', k1, k2, _, _, h2, h3⟩
          exact ⟨rfl, L', k1, k2.trans hp, h2, hq1.grown h2 (k1.trans HL.out.symm) (by rw [HL.out]; exact h3)⟩
        go_wp2_with fail
        refine hs.mono ?_
        rintro e w2 ⟨rfl, L2, HL2, hp2, hg2, hq2⟩
        clear hs m2 hc1
        go_wp2
        exact ⟨⟨k, L2, by rw [HK.out], by omega, HL2, hp2, grown_trans hg1 hg2, hq2⟩, by have := HK.out; simp [intOf]; omega⟩

set_option maxRecDepth 100000 in
set_option maxHeartbeats 4000000 in
theorem down_any (sb base g cap : Nat) (L : List Stp) (n : Nat) (w : World) (h : QI w sb base g cap L) (hn : n < L.length) (hm : L.length ≤ 8796093022208) :
    Calls Tryz.prog 93 #[.iface 120 (.pointer (some ⟨sb, 5, none⟩)), .int .i64 0, .int .i64 (n : Int)] w fun e w' => RetB e ∧ SameQ sb base g cap n L w w' := by
  go_enter Tryz.func93, Tryz.ntmps93
  go_wp2
  go_loopw [7] (fun iv wr => ∃ (i : Nat) (Lr : List Stp), iv = .int .i64 i ∧ i < L.length ∧ Hid (Lr.length = L.length) ∧ Lr.Perm L ∧ Hid (Lr[n]? = L[n]?) ∧ w.grownBy wr (some g) ∧ QI wr sb base g cap Lr) (fun iv _ => L.length - (intOf iv).toNat)
  case atStart => exact ⟨0, L, rfl, by omega, rfl, List.Perm.refl _, rfl, grown_refl _ _, h⟩
  case round =>
    obtain ⟨i, Lr, rfl, hi, HL, hp, HN, hg, hq⟩ := hrel
    have hi2 : (i : Int) ≤ 8796093022208 := by omega
    have hc := hq.cell
    rw [HL.out] at hc
    have hless : ∀ (W : World) (x y : Nat), QI W sb base g cap Lr → x < L.length → y < L.length → Calls Tryz.prog 158 #[.slice (some ⟨g, 0, none⟩) L.length cap, .int .i64 (x : Int), .int .i64 (y : Int)] W fun e w' => (∃ b, e = .returned (.bool b)) ∧ ∃ q, w' = W.drewN q := by
      intro W x y hW hx hy
      have := qless_any base g cap Lr x y W hW.own (by rw [HL.out]; exact hx) (by rw [HL.out]; exact hy)
      rwa [HL.out] at this
    have hend : ∀ W : World, w.grownBy W (some g) → QI W sb base g cap Lr → SameQ sb base g cap n L w W := fun W hW hQ => ⟨Lr, hp, HN.out, hW, hQ⟩
    by_cases h1 : 2 * i + 1 < n
    · have h1z : ¬ (n : Int) ≤ 2 * (i : Int) + 1 := by omega
      have h1y : ¬ 2 * (i : Int) + 1 < 0 := by omega
      -- behind the choice of a child k
      have hrest : ∀ (W : World) (k : Nat), QI W sb base g cap Lr → i < k → k < n → w.grownBy W (some g) →
          (Calls Tryz.prog 158 #[.slice (some ⟨g, 0, none⟩) L.length cap, .int .i64 (k : Int), .int .i64 (i : Int)] W fun e w' => (∃ b, e = .returned (.bool b)) ∧ ∃ q, w' = W.drewN q) ∧
          ∀ q, Calls Tryz.prog 159 #[.slice (some ⟨g, 0, none⟩) L.length cap, .int .i64 (i : Int), .int .i64 (k : Int)] (W.drewN q) fun e w' => e = .returned (.tuple #[]) ∧ ∃ L', Hid (L'.length = L.length) ∧ L'.Perm L ∧ Hid (L'[n]? = L[n]?) ∧ w.grownBy w' (some g) ∧ QI w' sb base g cap L' := by
        intro W k hW hik hkn hgW
        refine ⟨hless W k i hW (by omega) (by omega), fun q => ?_⟩
        have hq1 : QI (W.drewN q) sb base g cap Lr := ⟨hW.cell, hW.own, hW.ne⟩
        have h0 := hq1.own
        rw [HL.out] at h0
        refine (qswap_at base g cap Lr i k L.length (W.drewN q) HL.out h0 (by omega) (by omega)).mono ?_
        rintro e w' ⟨rfl, L', k1, k2, k3, _, h2, h3⟩
        exact ⟨rfl, L', k1, k2.trans hp, (k3 n (by omega) (by omega)).trans HN.out, grown_trans (grown_drewN hgW q) h2, hq1.grown h2 (k1.trans HL.out.symm) (by rw [HL.out]; exact h3)⟩
      have m1 := method_less ⟨sb, 5, none⟩ wr _ hc
      by_cases h2 : 2 * i + 2 < n
      · have h2z : 2 * (i : Int) + 1 + 1 < (n : Int) := by omega
        have hl : Calls Tryz.prog 158 #[.slice (some ⟨g, 0, none⟩) L.length cap, .int .i64 (2 * (i : Int) + 1 + 1), .int .i64 (2 * (i : Int) + 1)] wr fun e w' => (∃ b, e = .returned (.bool b)) ∧ ∃ q, w' = wr.drewN q := by
          have := hless wr (2 * i + 2) (2 * i + 1) hq (by omega) (by omega)
          rwa [show ((2 * i + 2 : Nat) : Int) = 2 * (i : Int) + 1 + 1 by omega, show ((2 * i + 1 : Nat) : Int) = 2 * (i : Int) + 1 by omega] at this
        have HR : Hid _ := hrest
        clear hless hrest
        go_wp2_with fail
        refine hl.mono ?_
        rintro e w1 ⟨⟨b, rfl⟩, q, rfl⟩
        clear hl m1
        have hq1 : QI (wr.drewN q) sb base g cap Lr := ⟨hq.cell, hq.own, hq.ne⟩
        have hg1 := grown_drewN hg q
        have hc1 : (wr.drewN q).cell? ⟨sb, 5, none⟩ = some (.slice (some ⟨g, 0, none⟩) L.length cap) := hc
        generalize wr.drewN q = w1 at hq1 hg1 hc1 ⊢
        clear hc hq hg
        have m1 := method_less ⟨sb, 5, none⟩ w1 _ hc1
        cases b with
        | false =>
          obtain ⟨r1, r2⟩ := HR.out w1 (2 * i + 1) hq1 (by omega) (by omega) hg1
          rw [show ((2 * i + 1 : Nat) : Int) = 2 * (i : Int) + 1 by omega] at r1 r2
          go_wp2_with fail
          refine r1.mono ?_
          rintro e w2 ⟨⟨b, rfl⟩, q2, rfl⟩
          clear r1 m1
          replace r2 := r2 q2
          have hq2 : QI (w1.drewN q2) sb base g cap Lr := ⟨hq1.cell, hq1.own, hq1.ne⟩
          have hg2 := grown_drewN hg1 q2
          have hc2 : (w1.drewN q2).cell? ⟨sb, 5, none⟩ = some (.slice (some ⟨g, 0, none⟩) L.length cap) := hc1
          generalize w1.drewN q2 = w2 at hq2 hg2 hc2 r2 ⊢
          clear hc1 hq1 hg1
          cases b with
          | false =>
            go_wp2
            go_ret
            exact ⟨⟨_, rfl⟩, hend _ hg2 hq2⟩
          | true =>
            have m2 := method_swap ⟨sb, 5, none⟩ w2 _ hc2
            go_wp2_with fail
            refine r2.mono ?_
            rintro e w3 ⟨rfl, L3, HL3, hp3, HN3, hg3, hq3⟩
            clear r2 m2 hc2
            go_wp2
            exact ⟨⟨2 * i + 1, L3, by go_num, by omega, HL3, hp3, HN3, hg3, hq3⟩, by simp [intOf]; omega⟩
        | true =>
          obtain ⟨r1, r2⟩ := HR.out w1 (2 * i + 2) hq1 (by omega) (by omega) hg1
          rw [show ((2 * i + 2 : Nat) : Int) = 2 * (i : Int) + 1 + 1 by omega] at r1 r2
          go_wp2_with fail
          refine r1.mono ?_
          rintro e w2 ⟨⟨b, rfl⟩, q2, rfl⟩
          clear r1 m1
          replace r2 := r2 q2
          have hq2 : QI (w1.drewN q2) sb base g cap Lr := ⟨hq1.cell, hq1.own, hq1.ne⟩
          have hg2 := grown_drewN hg1 q2
          have hc2 : (w1.drewN q2).cell? ⟨sb, 5, none⟩ = some (.slice (some ⟨g, 0, none⟩) L.length cap) := hc1
          generalize w1.drewN q2 = w2 at hq2 hg2 hc2 r2 ⊢
          clear hc1 hq1 hg1
          cases b with
          | false =>
            go_wp2
            go_ret
            exact ⟨⟨_, rfl⟩, hend _ hg2 hq2⟩
          | true =>
            have m2 := method_swap ⟨sb, 5, none⟩ w2 _ hc2
            go_wp2_with fail
            refine r2.mono ?_
            rintro e w3 ⟨rfl, L3, HL3, hp3, HN3, hg3, hq3⟩
            clear r2 m2 hc2
            go_wp2
            exact ⟨⟨2 * i + 2, L3, by go_num, by omega, HL3, hp3, HN3, hg3, hq3⟩, by simp [intOf]; omega⟩
      · have h2z : ¬ 2 * (i : Int) + 1 + 1 < (n : Int) := by omega
        obtain ⟨r1, r2⟩ := hrest wr (2 * i + 1) hq (by omega) (by omega) hg
        rw [show ((2 * i + 1 : Nat) : Int) = 2 * (i : Int) + 1 by omega] at r1 r2
        clear hless hrest
        go_wp2_with fail
        refine r1.mono ?_
        rintro e w2 ⟨⟨b, rfl⟩, q2, rfl⟩
        clear r1 m1
        replace r2 := r2 q2
        have hq2 : QI (wr.drewN q2) sb base g cap Lr := ⟨hq.cell, hq.own, hq.ne⟩
        have hg2 := grown_drewN hg q2
        have hc2 : (wr.drewN q2).cell? ⟨sb, 5, none⟩ = some (.slice (some ⟨g, 0, none⟩) L.length cap) := hc
        generalize wr.drewN q2 = w2 at hq2 hg2 hc2 r2 ⊢
        clear hc hq hg
        cases b with
        | false =>
          go_wp2
          go_ret
          exact ⟨⟨_, rfl⟩, hend _ hg2 hq2⟩
        | true =>
          have m2 := method_swap ⟨sb, 5, none⟩ w2 _ hc2
          go_wp2_with fail
          refine r2.mono ?_
          rintro e w3 ⟨rfl, L3, HL3, hp3, HN3, hg3, hq3⟩
          clear r2 m2 hc2
          go_wp2
          exact ⟨⟨2 * i + 1, L3, by go_num, by omega, HL3, hp3, HN3, hg3, hq3⟩, by simp [intOf]; omega⟩
    · have h1z : (n : Int) ≤ 2 * (i : Int) + 1 := by omega
      go_wp2
      go_ret
      exact ⟨⟨_, rfl⟩, hend _ hg hq⟩
end Go.Proofs.YthdhimcaojfcnaaGreat

namespace Go.Proofs.YthdhimcaojfcnaaGreat
open Go Go.Proofs Go.RowKit

theorem infoQ : (Tryz.prog.info? 90).map (fun i => (i.zero, i.size, i.bytes)) = some (some (.agg #[.int .i64 0, .int .i64 0]), 2, 16) := by kernel_rfl
theorem info_partsQ {e : TypeId} {z : Value} {k b : Nat} (h : (Tryz.prog.info? e).map (fun i => (i.zero, i.size, i.bytes)) = some (some z, k, b)) : ∃ i, Tryz.prog.info? e = some i ∧ i.zero = some z ∧ i.size = k ∧ i.bytes = b := by
  cases hi : Tryz.prog.info? e with
  | none => rw [hi] at h; cases h
  | some i =>
    rw [hi] at h
    simp only [Option.map_some, Option.some.injEq, Prod.mk.injEq] at h
    exact ⟨i, rfl, h.1, h.2.1, h.2.2⟩
theorem newsQ {w : World} {t : TypeId} (d : Stp) : ∀ (i : Nat) (u : Value), (encQ d)[i]? = some u → (w.alloc (.cells #[.int .i64 (d.1 : Int), .int .i64 (d.2 : Int)] t)).cell? ((⟨w.heap.size, 0, none⟩ : Addr).add i) = some u := by
  intro i u h
  match i, h with
  | 0, h =>
    have : u = .int .i64 (d.1 : Int) := by simpa [encQ] using h.symm
    subst this
    simp [Addr.add]
  | 1, h =>
    have : u = .int .i64 (d.2 : Int) := by simpa [encQ] using h.symm
    subst this
    simp [Addr.add]
  | i + 2, h => simp [encQ] at h
theorem oneQ (d : Stp) : ∀ u ∈ encQ d, u.oneCell' = true := by
  intro u hu
  simp only [encQ, List.mem_cons, List.not_mem_nil, or_false] at hu
  rcases hu with rfl | rfl <;> rfl
theorem owns_sliceQ {W : World} {base : Nat} {e : TypeId} {size : Nat} {v : Value} {n : Nat} {xs : List Value} (h : W.ownsRow base e size v n xs) : ∃ p c, v = .slice p n c := by
  rcases h.2 with ⟨rfl, rfl⟩ | ⟨g, cap, cur, rfl, _⟩ <;> exact ⟨_, _, rfl⟩

/-- The block of the search, whose last cell is the queue; the others stand. -/
abbrev SB (W : World) (sb : Nat) (X : List Value) (qv : Value) : Prop := Blk 86 W sb (X ++ [qv])
/-- What an act upon the queue leaves as it was. -/
def QM (sb : Nat) (qv : Value) (w w' : World) : Prop :=
  w'.os = w.os ∧ w'.tape = w.tape ∧ w'.output = w.output ∧ w.heap.size ≤ w'.heap.size ∧ ∀ k, k < w.heap.size → k ≠ sb → some k ≠ qv.ownBlock → w'.heap[k]? = w.heap[k]?
/-- A queue's block is another one than the one that holds it; it stands, or is new. -/
def NewQ (w : World) (qv qv' : Value) : Prop := qv'.ownBlock = qv.ownBlock ∨ ∃ k, qv'.ownBlock = some k ∧ w.heap.size ≤ k

set_option maxRecDepth 100000 in
theorem assert_stop (a b : Value) (w : World) : (Instr.typeAssert (.iface 90 (.agg #[a, b])) 20 90 false).run Tryz.prog w = .ok (.agg #[a, b]) w := by kernel_rfl

set_option maxRecDepth 100000 in
set_option maxHeartbeats 4000000 in
theorem qpush_any (sb base : Nat) (X : List Value) (hX : X.length = 5) (qv : Value) (L : List Stp) (x : Stp) (w : World) (hS : SB w sb X qv) (hQ : QO w base qv L) (hne : some sb ≠ qv.ownBlock) (hm : L.length ≤ 8796093022207) (hbase : base ≤ w.heap.size) :
    Calls Tryz.prog 161 #[.pointer (some ⟨sb, 5, none⟩), .iface 90 (.agg #[.int .i64 (x.1 : Int), .int .i64 (x.2 : Int)])] w fun e w' => e = .returned (.tuple #[]) ∧ ∃ qv', SB w' sb X qv' ∧ QO w' base qv' (L ++ [x]) ∧ NewQ w qv qv' ∧ QM sb qv w w' := by
  have hc : w.cell? ⟨sb, 5, none⟩ = some qv := hS.cell (by rw [List.getElem?_append_right (by omega), hX]; rfl)
  obtain ⟨i0, hi, hz0, hz1, hz2⟩ := info_partsQ infoQ
  obtain ⟨pq, cq, rfl⟩ := owns_sliceQ hQ
  have hmix := mixed
  have hta := fun w => assert_stop (.int .i64 (x.1 : Int)) (.int .i64 (x.2 : Int)) w
  go_enter Tryz.func161, Tryz.ntmps161
  go_wp2_with fail
  refine wp_region_last (S := (fun w' : World => w'.cell? ⟨sb, 5, none⟩ = some (.slice pq L.length cq))) (by kernel_rfl) ?_ (fun hHeld => ?_)
  · (try dsimp only); go_keep
  refine wpAnyL_take (i := 0) (v := ?_) rfl (by kernel_rfl) (by kernel_rfl) (by kernel_rfl) (by kernel_rfl) (fun _ _ _ h => h) (Or.inl ⟨by rfl, ?_⟩) (by assumption) ?_
  rotate_left
  · intro w hSw; (try dsimp only at hSw); go_simp; (try with_reducible rfl)
  try simp only [Act.put, List.setIfInBounds_toArray]
  refine wpAnyL_take (i := 1) (v := ?_) rfl (by kernel_rfl) (by kernel_rfl) (by kernel_rfl) (by kernel_rfl) (fun _ _ _ h => h) (Or.inl ⟨by rfl, ?_⟩) (by assumption) ?_
  rotate_left
  · intro w hSw; (try dsimp only at hSw); go_simp; (try with_reducible rfl)
  try simp only [Act.put]
  refine wpAnyL_take (i := 2) (v := ?_) rfl (by kernel_rfl) (by kernel_rfl) (by kernel_rfl) (by kernel_rfl) (fun _ _ _ h => h) (Or.inl ⟨by rfl, ?_⟩) (by assumption) ?_
  rotate_left
  · intro w hSw; (try dsimp only at hSw); go_simp; (try with_reducible rfl)
  try simp only [Act.put]
  refine wpAnyL_take (i := 3) (v := ?_) rfl (by kernel_rfl) (by kernel_rfl) (by kernel_rfl) (by kernel_rfl) (fun _ _ _ h => h) (Or.inl ⟨by rfl, ?_⟩) (by assumption) ?_
  rotate_left
  · intro w hSw; (try dsimp only at hSw); go_simp; (try with_reducible rfl)
  try simp only [Act.put]
  refine wpAnyL_take (i := 4) (v := ?_) rfl (by kernel_rfl) (by kernel_rfl) (by kernel_rfl) (by kernel_rfl) (fun _ _ _ h => h) (Or.inl ⟨by rfl, ?_⟩) (by assumption) ?_
  rotate_left
  · intro w hSw; (try dsimp only at hSw); go_simp; (try with_reducible rfl)
  try simp only [Act.put]
  refine wpAnyL_take (i := 5) (v := ?_) rfl (by kernel_rfl) (by kernel_rfl) (by kernel_rfl) (by kernel_rfl) (fun _ _ _ h => h) (Or.inl ⟨by rfl, ?_⟩) (by assumption) ?_
  rotate_left
  · intro w hSw; (try dsimp only at hSw); go_simp; (try with_reducible rfl)
  try simp only [Act.put]
  have hgd : w.grownBy w.drew none := grown_drewN (grown_refl w none) 1
  have hQd : QO w.drew base (.slice pq L.length cq) L := hQ
  have hSd : SB w.drew sb X (.slice pq L.length cq) := hS
  have hbd : base ≤ w.drew.heap.size := hbase
  generalize w.drew = w1 at hgd hQd hSd hbd hHeld ⊢
  have hgA : w1.grownBy (w1.alloc (.cells #[.int .i64 (x.1 : Int), .int .i64 (x.2 : Int)] 90)) none := World.grownBy_alloc _ _ _
  have hQA := World.ownsRow.alloc hQd (.cells #[.int .i64 (x.1 : Int), .int .i64 (x.2 : Int)] 90)
  have hSA : SB (w1.alloc (.cells #[.int .i64 (x.1 : Int), .int .i64 (x.2 : Int)] 90)) sb X (.slice pq L.length cq) := (hgA.block sb hSd.lt (by simp)).trans hSd
  have hcA : (w1.alloc (.cells #[.int .i64 (x.1 : Int), .int .i64 (x.2 : Int)] 90)).cell? ⟨sb, 5, none⟩ = some (.slice pq L.length cq) := hSA.cell (by rw [List.getElem?_append_right (by omega), hX]; rfl)
  have hnw : Src (w1.alloc (.cells #[.int .i64 (x.1 : Int), .int .i64 (x.2 : Int)] 90)) (.slice (some ⟨w1.heap.size, 0, none⟩) 1 1) 1 2 (encQ x) := .inr ⟨⟨w1.heap.size, 0, none⟩, 1, rfl, rfl, newsQ x, oneQ x⟩
  have hmx : L.length + 1 ≤ maxLen := by unfold maxLen; omega
  have hby : (L.length + 1) * 16 ≤ 140737488355328 := by omega
  have hsA : base ≤ (w1.alloc (.cells #[.int .i64 (x.1 : Int), .int .i64 (x.2 : Int)] 90)).heap.size := Nat.le_trans hbd hgA.size
  refine wpAnyL_ready (rs := [6]) (by kernel_rfl) (by simp) ?_
  refine AllReadyL.cons rfl (fun K hK => ?_) AllReadyL.nil
  go_simp
  refine hK.out _ _ hcA (fun hHeld12 => ?_)
  clear hK K
  try simp only [Act.put, List.setIfInBounds_toArray, List.set_cons_zero, List.set_cons_succ]
  refine wpAnyL_ready (rs := [7]) (by kernel_rfl) (by simp) ?_
  refine AllReadyL.cons rfl (fun K hK => ?_) AllReadyL.nil
  refine step_append_src rfl _ _ 84 rfl base 90 i0 (.agg #[.int .i64 0, .int .i64 0]) 2 16 Tryz.underlying84 hi hz0 hz1 hz2 rfl (by decide) (.slice pq L.length cq) L.length (flatQ L) rfl hQA (.slice (some ⟨w1.heap.size, 0, none⟩) 1 1) 1 (encQ x) rfl hnw hmx hby hsA ?_
  intro v8 w12 ho8 hg8 hat8
  obtain ⟨a8, k8, rfl⟩ := owns_sliceQ ho8
  have hS12 : SB w12 sb X (.slice pq L.length cq) := (hg8.block sb hSA.lt hne).trans hSA
  have c12 : w12.cell? ⟨sb, 5, none⟩ = some (.slice pq L.length cq) := hS12.cell (by rw [List.getElem?_append_right (by omega), hX]; rfl)
  have f12 : w12.frozen? ⟨sb, 5, none⟩ = false := hS12.frozen 5
  refine hK.out _ _ c12 (fun hHeld13 => ?_)
  clear hK K
  try simp only [Act.put, List.setIfInBounds_toArray]
  refine wpAnyL_ready (rs := [8]) (by kernel_rfl) (by simp) ?_
  refine AllReadyL.cons rfl (fun K hK => ?_) AllReadyL.nil
  go_simp
  refine hK.out _ _ ?_ (fun hHeld => ?_)
  · (try dsimp only); first | (go_keep; done) | ((repeat' apply And.intro) <;> go_simp)
  clear hK K
  try simp only [Act.put, List.setIfInBounds_toArray, List.set_cons_zero, List.set_cons_succ]
  refine wpAnyL_ready (rs := [9]) (by kernel_rfl) (by simp) ?_
  refine AllReadyL.last rfl (by kernel_rfl) (fun K hK => ?_)
  go_simp
  refine hK.out _ _ ?_
  clear hK K
  try simp only [Act.put, List.setIfInBounds_toArray, List.set_cons_zero, List.set_cons_succ]
  refine wpAnyL_done (by kernel_rfl) ?_ _
  have hob : (Value.slice a8 (L.length + 1) k8).ownBlock = (Value.slice pq L.length cq).ownBlock ∨ ∃ k, (Value.slice a8 (L.length + 1) k8).ownBlock = some k ∧ w1.heap.size ≤ k := by
    rcases hat8 with h1 | h1
    · exact .inl h1
    · exact .inr ⟨_, h1, by simp⟩
  have hne8 : (Value.slice a8 (L.length + 1) k8).ownBlock ≠ some sb := by
    rcases hob with h1 | ⟨k, h1, h2⟩
    · rw [h1]; exact Ne.symm hne
    · rw [h1]; intro e; have := Option.some.inj e; have := hSd.lt; omega
  have hS' : SB (w12.setCell ⟨sb, 5, none⟩ (.slice a8 (L.length + 1) k8)) sb X (.slice a8 (L.length + 1) k8) := by
    have h1 := hS12.set 5 (.slice a8 (L.length + 1) k8)
    have h2 : (X ++ [Value.slice pq L.length cq]).set 5 (.slice a8 (L.length + 1) k8) = X ++ [.slice a8 (L.length + 1) k8] := by
      rw [List.set_append_right _ _ (by omega), hX]; rfl
    rwa [h2] at h1
  have hQ' : QO (w12.setCell ⟨sb, 5, none⟩ (.slice a8 (L.length + 1) k8)) base (.slice a8 (L.length + 1) k8) (L ++ [x]) := by
    have h1 := ownsRow_setCell_other ho8 (a := ⟨sb, 5, none⟩) hne8 (.slice a8 (L.length + 1) k8)
    unfold QO
    rw [flatQ_snoc, List.length_append]
    exact h1
  have hM : QM sb (.slice pq L.length cq) w (w12.setCell ⟨sb, 5, none⟩ (.slice a8 (L.length + 1) k8)) := by
    refine ⟨?_, ?_, ?_, ?_, fun k hk h1 h2 => ?_⟩
    · exact (hg8.os.trans hgA.os).trans hgd.os
    · exact (hg8.tape.trans hgA.tape).trans hgd.tape
    · exact (hg8.output.trans hgA.output).trans hgd.output
    · have := hgd.size; have := hgA.size; have := hg8.size; simp only [World.size_setCell]; omega
    · rw [heap_setCell_other w12 ⟨sb, 5, none⟩ k _ h1]
      have k1 : k < w1.heap.size := Nat.lt_of_lt_of_le hk hgd.size
      exact ((hg8.block k (Nat.lt_of_lt_of_le k1 hgA.size) h2).trans (hgA.block k k1 (by simp))).trans (hgd.block k hk (by simp))
  go_wp2
  refine bodyPost_end (results_none rfl _ _ _) rfl ⟨rfl, _, hS', hQ', ?_, hM⟩
  rcases hob with h1 | ⟨k, h1, h2⟩
  · exact .inl h1
  · exact .inr ⟨k, h1, Nat.le_trans hgd.size h2⟩
theorem QM.trans {sb : Nat} {qv qv' : Value} {a b c : World} (h : QM sb qv a b) (hn : NewQ a qv qv') (h' : QM sb qv' b c) : QM sb qv a c := by
  refine ⟨h'.1.trans h.1, h'.2.1.trans h.2.1, h'.2.2.1.trans h.2.2.1, Nat.le_trans h.2.2.2.1 h'.2.2.2.1, fun k hk h1 h2 => ?_⟩
  refine (h'.2.2.2.2 k (Nat.lt_of_lt_of_le hk h.2.2.2.1) h1 ?_).trans (h.2.2.2.2 k hk h1 h2)
  rcases hn with e | ⟨j, e, hj⟩
  · rw [e]; exact h2
  · rw [e]; intro e'; have := Option.some.inj e'; omega
theorem NewQ.trans {a b : World} {x y z : Value} (h : NewQ a x y) (hs : a.heap.size ≤ b.heap.size) (h' : NewQ b y z) : NewQ a x z := by
  rcases h' with e | ⟨k, e, hk⟩
  · rcases h with e' | ⟨j, e', hj⟩
    · exact .inl (e.trans e')
    · exact .inr ⟨j, e.trans e', hj⟩
  · exact .inr ⟨k, e, by omega⟩
theorem QM.of_grown {sb g : Nat} {qv : Value} {a b : World} (h : a.grownBy b (some g)) (hq : qv.ownBlock = some g) : QM sb qv a b := ⟨h.os, h.tape, h.output, h.size, fun k hk _ h2 => h.block k hk (by rw [← hq]; exact h2)⟩

set_option maxRecDepth 100000 in
set_option maxHeartbeats 4000000 in
theorem qpop_any (sb base g cap : Nat) (X : List Value) (hX : X.length = 5) (L : List Stp) (x : Stp) (w : World) (hS : SB w sb X (.slice (some ⟨g, 0, none⟩) (L.length + 1) cap)) (hQ : QO w base (.slice (some ⟨g, 0, none⟩) (L.length + 1) cap) (L ++ [x])) (hne : sb ≠ g) (hm : L.length ≤ 8796093022207) :
    Calls Tryz.prog 160 #[.pointer (some ⟨sb, 5, none⟩)] w fun e w' => e = .returned (.iface 90 (.agg #[.int .i64 (x.1 : Int), .int .i64 (x.2 : Int)])) ∧ SB w' sb X (.slice (some ⟨g, 0, none⟩) L.length cap) ∧ QO w' base (.slice (some ⟨g, 0, none⟩) L.length cap) L ∧ QM sb (.slice (some ⟨g, 0, none⟩) (L.length + 1) cap) w w' := by
  have hc : w.cell? ⟨sb, 5, none⟩ = some (.slice (some ⟨g, 0, none⟩) (L.length + 1) cap) := hS.cell (by rw [List.getElem?_append_right (by omega), hX]; rfl)
  have hf : w.frozen? ⟨sb, 5, none⟩ = false := hS.frozen 5
  have hsl := hS.lt
  have hc0 : w.cell? ⟨g, L.length * 2, none⟩ = some (.int .i64 (x.1 : Int)) ∧ w.cell? ⟨g, L.length * 2 + 1, none⟩ = some (.int .i64 (x.2 : Int)) := by
    have hlen : (L ++ [x]).length = L.length + 1 := by simp
    have hQ' : QO w base (.slice (some ⟨g, 0, none⟩) (L ++ [x]).length cap) (L ++ [x]) := by rw [hlen]; exact hQ
    have h1 := hQ'.cell (j := L.length) (by rw [hlen]; omega)
    simpa using h1
  obtain ⟨d0, d1⟩ := hc0
  have hgl : g < w.heap.size := World.block_lt_of_cell? w ⟨g, _, none⟩ d0
  have hcap : L.length + 1 ≤ cap := by
    rcases hQ.2 with ⟨h1, _⟩ | ⟨g', cap', cur, h1, _, _, h3, _⟩
    · cases h1
    · simp only [Value.slice.injEq] at h1
      obtain ⟨_, _, rfl⟩ := h1
      simpa using h3
  have HQ : Hid _ := hQ
  have HS : Hid _ := hS
  clear hQ hS
  go_enter Tryz.func160, Tryz.ntmps160
  go_wp2
  go_ret
  have hS0 : SB w sb X (.slice (some ⟨g, 0, none⟩) (L.length + 1) cap) := HS.out
  have hQ0 : w.ownsRow base 90 2 (.slice (some ⟨g, 0, none⟩) (L.length + 1) cap) (L.length + 1) (flatQ L ++ encQ x) := by
    have h1 : QO w base (.slice (some ⟨g, 0, none⟩) (L.length + 1) cap) (L ++ [x]) := HQ.out
    unfold QO at h1
    rw [flatQ_snoc, List.length_append] at h1
    exact h1
  have hQ1 := ownsRow_pop (flatQ_len L) hQ0
  have hQ2 := ownsRow_setCell_other hQ1 (a := ⟨sb, 5, none⟩) (by show some g ≠ some sb; intro e; exact hne (Option.some.inj e).symm) (.slice (some ⟨g, 0, none⟩) L.length cap)
  have hQ3 := World.ownsRow.alloc hQ2 (.cells #[.int .i64 (x.1 : Int), .int .i64 (x.2 : Int)] 90)
  have hS1 : SB (w.setCell ⟨sb, 5, none⟩ (.slice (some ⟨g, 0, none⟩) L.length cap)) sb X (.slice (some ⟨g, 0, none⟩) L.length cap) := by
    have h1 := hS0.set 5 (.slice (some ⟨g, 0, none⟩) L.length cap)
    have h2 : (X ++ [Value.slice (some ⟨g, 0, none⟩) (L.length + 1) cap]).set 5 (.slice (some ⟨g, 0, none⟩) L.length cap) = X ++ [.slice (some ⟨g, 0, none⟩) L.length cap] := by
      rw [List.set_append_right _ _ (by omega), hX]; rfl
    rwa [h2] at h1
  have hgA : (w.setCell ⟨sb, 5, none⟩ (.slice (some ⟨g, 0, none⟩) L.length cap)).grownBy ((w.setCell ⟨sb, 5, none⟩ (.slice (some ⟨g, 0, none⟩) L.length cap)).alloc (.cells #[.int .i64 (x.1 : Int), .int .i64 (x.2 : Int)] 90)) none := World.grownBy_alloc _ _ _
  refine ⟨rfl, (hgA.block sb hS1.lt (by simp)).trans hS1, hQ3, rfl, rfl, rfl, ?_, fun k hk h1 h2 => ?_⟩
  · have := hgA.size; simp only [World.size_setCell] at this; exact this
  · rw [hgA.block k (by simpa using hk) (by simp), heap_setCell_other w ⟨sb, 5, none⟩ k _ h1]

end Go.Proofs.YthdhimcaojfcnaaGreat

namespace Go.Proofs.YthdhimcaojfcnaaGreat
open Go Go.Proofs Go.RowKit Go.Joins

/-- The queue, in the search's block. -/
structure QS (w : World) (sb base : Nat) (X : List Value) (qv : Value) (L : List Stp) : Prop where
  blk : SB w sb X qv
  own : QO w base qv L
  ne : some sb ≠ qv.ownBlock
theorem QS.cell {w : World} {sb base : Nat} {X : List Value} {qv : Value} {L : List Stp} (h : QS w sb base X qv L) (hX : X.length = 5) : w.cell? ⟨sb, 5, none⟩ = some qv := h.blk.cell (by rw [List.getElem?_append_right (by omega), hX]; rfl)
/-- What a queue has become. -/
def Became (sb base : Nat) (X : List Value) (qv : Value) (L : List Stp) (w w' : World) : Prop := ∃ qv' L', L'.Perm L ∧ QS w' sb base X qv' L' ∧ NewQ w qv qv' ∧ QM sb qv w w'
theorem QI.qs {w : World} {sb base g cap : Nat} {X : List Value} {L L' : List Stp} {W : World} (hs : SB w sb X (.slice (some ⟨g, 0, none⟩) L.length cap)) (hg : w.grownBy W (some g)) (hq : QI W sb base g cap L') (hl : L'.length = L.length) : QS W sb base X (.slice (some ⟨g, 0, none⟩) L'.length cap) L' := by
  refine ⟨?_, hq.own, fun e => hq.ne (Option.some.inj e)⟩
  rw [hl]
  exact (hg.block sb hs.lt (fun e => hq.ne (Option.some.inj e))).trans hs

set_option maxRecDepth 100000 in
set_option maxHeartbeats 4000000 in
theorem hpush_any (sb base : Nat) (X : List Value) (hX : X.length = 5) (qv : Value) (L : List Stp) (x : Stp) (w : World) (h : QS w sb base X qv L) (hm : L.length ≤ 8796093022207) (hbase : base ≤ w.heap.size) :
    Calls Tryz.prog 78 #[.iface 120 (.pointer (some ⟨sb, 5, none⟩)), .iface 90 (.agg #[.int .i64 (x.1 : Int), .int .i64 (x.2 : Int)])] w fun e w' => e = .returned (.tuple #[]) ∧ Became sb base X qv (L ++ [x]) w w' := by
  have hmix := mixed
  have m1 := method_push ⟨sb, 5, none⟩ w
  have hp := qpush_any sb base X hX qv L x w h.blk h.own h.ne hm hbase
  go_enter Tryz.func78, Tryz.ntmps78
  go_wp2_with fail
  refine hp.mono ?_
  rintro e w1 ⟨rfl, qv1, hS1, hQ1, hn1, hM1⟩
  clear hp m1
  have hne1 : some sb ≠ qv1.ownBlock := by
    rcases hn1 with e | ⟨k, e, hk⟩
    · rw [e]; exact h.ne
    · rw [e]; intro e'; have := Option.some.inj e'; have := h.blk.lt; omega
  have hQS1 : QS w1 sb base X qv1 (L ++ [x]) := ⟨hS1, hQ1, hne1⟩
  obtain ⟨g, cap, rfl⟩ := ownsRow_form hQ1 (by simp)
  have hc1 := hQS1.cell hX
  have m2 := method_len ⟨sb, 5, none⟩ w1 _ hc1
  have hlen : (L ++ [x]).length = L.length + 1 := by simp
  have hq1 : QI w1 sb base g cap (L ++ [x]) := ⟨hc1, hQ1, fun e => hne1 (congrArg some e)⟩
  have hu := up_any sb base g cap (L ++ [x]) L.length w1 hq1 (by omega) (by omega)
  have HE : Hid _ := hlen
  rw [hlen] at m2 hc1
  clear hlen
  go_wp2_with (go_at_call 54; refine (qlen_any _ _ _ _).mono ?_; rintro e w' ⟨rfl, rfl⟩)
  refine hu.mono ?_
  rintro e w2 ⟨rfl, L2, hp2, hg2, hq2⟩
  clear hu m2 hc1
  go_wp2
  refine bodyPost_end (results_none rfl _ _ _) rfl ⟨rfl, _, L2, hp2, QI.qs hS1 hg2 hq2 hp2.length_eq, hn1.trans hM1.2.2.2.1 (.inl rfl), hM1.trans hn1 (QM.of_grown hg2 rfl)⟩

/-- What comes off: one of the stops, and the others stay. -/
def OffQ (sb base : Nat) (X : List Value) (qv : Value) (L : List Stp) (w : World) (e : Ending) (w' : World) : Prop := ∃ (x : Stp) (qv' : Value) (L' : List Stp), e = .returned (.iface 90 (.agg #[.int .i64 (x.1 : Int), .int .i64 (x.2 : Int)])) ∧ (x :: L').Perm L ∧ QS w' sb base X qv' L' ∧ NewQ w qv qv' ∧ QM sb qv w w'
set_option maxRecDepth 100000 in
set_option maxHeartbeats 4000000 in
theorem hpop_any (sb base : Nat) (X : List Value) (hX : X.length = 5) (qv : Value) (L : List Stp) (w : World) (h : QS w sb base X qv L) (h0 : 0 < L.length) (hm : L.length ≤ 8796093022208) :
    Calls Tryz.prog 79 #[.iface 120 (.pointer (some ⟨sb, 5, none⟩))] w fun e w' => OffQ sb base X qv L w e w' := by
  have hmix := mixed
  obtain ⟨g, cap, rfl⟩ := ownsRow_form h.own h0
  have hc := h.cell hX
  have m1 := method_len ⟨sb, 5, none⟩ w _ hc
  have m2 := method_swap ⟨sb, 5, none⟩ w _ hc
  obtain ⟨n, hn⟩ : ∃ n : Nat, L.length = n + 1 := ⟨L.length - 1, by omega⟩
  have hne : sb ≠ g := fun e => h.ne (congrArg some e)
  have hQ0 := h.own
  have hS0 := h.blk
  have HN : Hid _ := hn
  unfold QO at hQ0
  have hsw := qswap_at base g cap L 0 n (n + 1) w hn (by unfold QO; rw [hn] at hQ0 ⊢; exact hQ0) (by omega) (by omega)
  rw [hn] at hc m1 m2 hm
  rw [hn] at hS0 ⊢
  clear hn
  go_enter Tryz.func79, Tryz.ntmps79
  go_wp2_with (go_at_call 54; refine (qlen_any _ _ _ _).mono ?_; rintro e w' ⟨rfl, rfl⟩)
  refine hsw.mono ?_
  rintro e w1 ⟨rfl, L1, hl1, hp1, _, ha1, hg1, ho1⟩
  clear hsw m1 m2
  have hc1 : w1.cell? ⟨sb, 5, none⟩ = some (.slice (some ⟨g, 0, none⟩) (n + 1) cap) := hg1.cell hc (fun e => hne (Option.some.inj e))
  have HL1 : Hid _ := hl1
  have hq1 : QI w1 sb base g cap L1 := ⟨by rw [hl1]; exact hc1, by rw [hl1]; exact ho1, hne⟩
  have hd := down_any sb base g cap L1 n w1 hq1 (by omega) (by omega)
  clear hl1
  go_wp2_with fail
  refine hd.mono ?_
  rintro e w2 ⟨⟨b, rfl⟩, L2, hp2, ha2, hg2, hq2⟩
  clear hd hc1
  have hl2 : L2.length = n + 1 := hp2.length_eq.trans HL1.out
  have hg12 := grown_trans hg1 hg2
  -- the last one
  obtain ⟨L3, x, rfl⟩ : ∃ L3 x, L2 = L3 ++ [x] := by
    refine ⟨L2.dropLast, L2.getLast (by intro e; rw [e] at hl2; simp at hl2), (List.dropLast_concat_getLast _).symm⟩
  have hl3 : L3.length = n := by simpa using hl2
  have hc2 := hq2.cell
  have ho2 := hq2.own
  rw [hl2] at hc2 ho2
  have hS2 : SB w2 sb X (.slice (some ⟨g, 0, none⟩) (n + 1) cap) := (hg12.block sb hS0.lt (fun e => hne (Option.some.inj e))).trans hS0
  have m3 := method_pop ⟨sb, 5, none⟩ w2
  have hpop := qpop_any sb base g cap X hX L3 x w2 (by rw [hl3]; exact hS2) (by rw [hl3]; exact ho2) hne (by omega)
  have HL3 : Hid _ := hl3
  clear hl2 hl3
  go_wp2_with fail
  refine hpop.mono ?_
  rintro e w3 ⟨rfl, hS3, hQ3, hM3⟩
  clear hpop m3
  go_wp2
  go_ret
  refine ⟨x, _, L3, rfl, ?_, ⟨hS3, hQ3, fun e => hne (Option.some.inj e)⟩, .inl rfl, (QM.of_grown hg12 rfl).trans (.inl rfl) hM3⟩
  exact (List.perm_append_comm.trans hp2).trans hp1
end Go.Proofs.YthdhimcaojfcnaaGreat
