/-
  The walk of PathsMutual.
-/
import Derived.Test.YtejemnjadgihbaaXWaLawR
import Derived.Test.YtejemnjadgihbaaXWaMath4
namespace Go.Proofs.Ytejemnjadgihbaa
open Go Go.Proofs Go.RowKit

set_option maxRecDepth 100000 in
set_option maxHeartbeats 4000000 in
theorem mutual_main (N : Nat) (L : List Eg) (a b : Nat) (hN : N ≤ 40) (hm : L.length ≤ 160) (ha : a < N) (hb : b < N) (hE : ∀ e ∈ L, e.1 < N ∧ e.2.1 < N) (hW : ∀ e ∈ L, e.2.2 ≤ 2147483647) (hr : rgtW (N : Int) (L.map edE) = 0) (p : Option Addr) (q : Nat) (w : World) (hl : Edges w.heap.size w (.slice p L.length q) (L.map edE)) :
    Calls Try.prog 6 #[.agg #[.int .i64 (N : Int), .slice p L.length q], .int .i64 (a : Int), .int .i64 (b : Int)] w fun r w' => r = .returned (.bool true) ∧ Below w.heap.size w w' := by
  have hmix := mixed
  have hg1 : Grew w (w.alloc (.cells #[.int .i64 (N : Int), .slice p L.length q] 24)) := (Grew.refl w).alloc _
  have hlt := fun W => lightW_any (N : Int) p L.length q 40 (by omega) (by omega) W
  have hli : lightB (N : Int) L.length 40 = true := by unfold lightB; simp; omega
  rw [hli] at hlt
  have hrr := fun W (h : Below w.heap.size w W) => refRightW_any (N : Int) (L.map edE) _ W (hl.go h)
  rw [hr] at hrr
  have hfa := fun W (h : Below w.heap.size w W) => from_any N L a hN ha (by omega) hE hW hr _ W (hl.go h)
  have hfb := fun W (h : Below w.heap.size w W) => from_any N L b hN hb (by omega) hE hW hr _ W (hl.go h)
  have HFA : Hid _ := hfa
  have HFB : Hid _ := hfb
  have HRR : Hid _ := hrr
  have HL : Hid _ := hl
  have HE : Hid _ := hE
  have HW : Hid _ := hW
  have hal : (a : Int) < (N : Int) := by omega
  have hbl : (b : Int) < (N : Int) := by omega
  have hnd : decide (N ≤ a) = false := by simp; omega
  have hnd2 : decide (N ≤ b) = false := by simp; omega
  clear hfa hfb hrr hl hE hW hr hli
  go_enter Try.func6, Try.ntmps6
  go_wp2_with fail
  refine (hlt _).mono ?_
  rintro e w2 ⟨rfl, hg2⟩
  have hB2 := (hg1.trans hg2).below
  have hX2 : Blk 24 w2 w.heap.size [.int .i64 (N : Int), .slice p L.length q] := Blk.go (heap_alloc_new w _) hg2.below
  have q0 := hX2.cell (j := 0) rfl
  have q1 := hX2.cell (j := 1) rfl
  clear hg1 hg2 hlt
  go_wp2_with fail
  refine (HRR.out _ hB2).mono ?_
  rintro e w3 ⟨rfl, hg3⟩
  have hB3 := hB2.trans (hg3.below.mono hB2.size)
  have hX3 := hX2.go hg3.below
  clear q0 q1 hX2
  have q0 := hX3.cell (j := 0) rfl
  have q1 := hX3.cell (j := 1) rfl
  go_wp2_with fail
  refine (HFA.out _ hB3).mono ?_
  rintro e w4 ⟨D, V, bD, bV, rfl, hOK, hD, hV, hb4, hgD, hgV⟩
  have hB4 := hB3.trans (hb4.mono hB3.size)
  have hX4 := hX3.go hb4
  clear q0 q1 hX3 hB3 hb4
  have q0 := hX4.cell (j := 0) rfl
  have q1 := hX4.cell (j := 1) rfl
  go_wp2_with fail
  refine (HFB.out _ hB4).mono ?_
  rintro e w5 ⟨E, V2, bE, bV2, rfl, hOK2, hE5, _, hb5, hgE, _⟩
  have hB5 := hB4.trans (hb5.mono hB4.size)
  have hX5 := hX4.go hb5
  have hD5 := hD.go hb5
  have hV5 := hV.go hb5
  clear q0 q1 hX4 hB4 hb5 hD hV
  have hmut := mutual_at hOK.dist hOK2.dist ha hb
  have h00 := hOK.dist.zero ha
  have lD := hOK.dist.1
  have lV := hOK.len
  have lE := hOK2.dist.1
  have q0 := hX5.cell (j := 0) rfl
  have d0 : w5.cell? ⟨bD, b, none⟩ = some (.int .i64 (at' D b)) := hD5.cell (by rw [List.getElem?_map, at_get? (by rw [lD]; exact hb)]; rfl)
  have d1 : w5.cell? ⟨bD, a, none⟩ = some (.int .i64 0) := hD5.cell (by rw [List.getElem?_map, at_get? (by rw [lD]; exact ha), h00]; rfl)
  have e0 : w5.cell? ⟨bE, a, none⟩ = some (.int .i64 (at' D b)) := hE5.cell (by rw [List.getElem?_map, at_get? (by rw [lE]; exact ha), ← hmut]; rfl)
  have HLD : Hid _ := lD
  have HLV : Hid _ := lV
  clear hmut h00 lD lV lE hOK2 hE5
  obtain ⟨x, HX⟩ : ∃ x, Hid (at' D b = x) := ⟨_, show Hid _ from rfl⟩
  rw [HX.out] at d0 e0
  go_wp2
  go_quiet (fail)
  have hB6 := below_drewN hB5 nq
  have hX6 : Blk 24 (w5.drewN nq) w.heap.size [.int .i64 (N : Int), .slice p L.length q] := hX5
  have hD6 : Blk 2 (w5.drewN nq) bD (D.map (Value.int .i64)) := hD5
  have hV6 : Blk 3 (w5.drewN nq) bV (V.map (Value.int .i64)) := hV5
  clear hB5 hX5 hD5 hV5 q0 d0 d1 e0
  go_wp2
  generalize w5.drewN nq = w6 at *
  have hfew : ∀ v, v < N → at' D v ≤ 85899345880 := fun v hv => by
    have h1 := hOK.dist.few HE.out ha HW.out hv
    have h2 : N * 2147483647 ≤ 85899345880 := by omega
    omega
  have HFEW : Hid _ := hfew
  clear hfew
  go_loopw [13] (fun i wr => ∃ j : Nat, j ≤ L.length ∧ i = .int .i64 j ∧ ∃ n, wr = w6.drewN n) (fun i _ => L.length - (intOf i).toNat)
  case atStart => exact ⟨0, Nat.zero_le _, rfl, 0, rfl⟩
  case round =>
    obtain ⟨j, hj, rfl, n, rfl⟩ := hrel
    have hB7 := below_drewN hB6 n
    have hX7 : Blk 24 (w6.drewN n) w.heap.size [.int .i64 (N : Int), .slice p L.length q] := hX6
    have hD7 : Blk 2 (w6.drewN n) bD (D.map (Value.int .i64)) := hD6
    have hV7 : Blk 3 (w6.drewN n) bV (V.map (Value.int .i64)) := hV6
    obtain ⟨w7, HW7⟩ : ∃ w7, Hid (w6.drewN n = w7) := ⟨_, show Hid _ from rfl⟩
    rw [HW7.out] at hB7 hX7 hD7 hV7 ⊢
    have q1 := hX7.cell (j := 1) rfl
    by_cases hjl : j < L.length
    · obtain ⟨bl, ol, rfl, hbl2, hcl, hcel⟩ := Edges.eg HL.out hjl
      obtain ⟨e0, e1, e2⟩ := hcel w7 hB7 j hjl
      have hjl' : (j : Int) < (L.length : Int) := by omega
      have hem := List.getElem_mem hjl
      have hends := HE.out _ hem
      have hwt := HW.out _ hem
      have hK := hOK.dist.kept HE.out hem
      have d0 : w7.cell? ⟨bD, L[j].1, none⟩ = some (.int .i64 (at' D L[j].1)) := hD7.cell (by rw [List.getElem?_map, at_get? (by rw [HLD.out]; exact hends.1)]; rfl)
      have d1 : w7.cell? ⟨bD, L[j].2.1, none⟩ = some (.int .i64 (at' D L[j].2.1)) := hD7.cell (by rw [List.getElem?_map, at_get? (by rw [HLD.out]; exact hends.2)]; rfl)
      have f0 := HFEW.out _ hends.1
      have f1 := HFEW.out _ hends.2
      unfold Kept at hK
      generalize L[j] = e at e0 e1 e2 hends hwt hK d0 d1 f0 f1
      have i0 : (e.1 : Int) < (N : Int) := by omega
      have i1 : (e.2.1 : Int) < (N : Int) := by omega
      generalize at' D e.1 = xu at *
      generalize at' D e.2.1 = xv at *
      clear hcel hem
      go_wp2
      go_quiet (fail)
      have e2' : (w7.drewN nq).cell? ⟨bl, ol + j * 3 + 2, none⟩ = some (.int .i64 (e.2.2 : Int)) := e2
      have q1' : (w7.drewN nq).cell? ⟨w.heap.size, 1, none⟩ = some (.slice (some ⟨bl, ol, none⟩) L.length q) := q1
      have HDN : Hid (w7.drewN nq = w6.drewN (n + nq)) := by unfold Hid; rw [← HW7.out, World.drewN_drewN]
      clear e0 e1 e2 q1 d0 d1 hB7 hX7 hD7 hV7
      generalize w7.drewN nq = w8 at *
      rcases hK with ⟨k1, k2⟩ | ⟨k1, k2, k3, k4⟩
      · subst k2
        have hxn : ¬ 0 ≤ xv := by omega
        have hbd : decide (0 ≤ xv) = false := by simp; omega
        go_wp2
        exact ⟨⟨j + 1, by omega, by go_num, _, HDN.out⟩, by simp [intOf]; omega⟩
      · have hx1 : ¬ xu < 0 := by omega
        have hx2 : ¬ xv < 0 := by omega
        have hb1 : decide (xu < 0) = false := by simp; omega
        have hb2 : decide (xv < 0) = false := by simp; omega
        have hb3 : decide (0 ≤ xu) = true := by simp; omega
        have hb4 : ¬ (e.2.2 : Int) < xu - xv := by omega
        have hb5 : ¬ (e.2.2 : Int) < xv - xu := by omega
        have hb6 : decide ((e.2.2 : Int) < xu - xv) = false := by simp; omega
        have hb7 : decide ((e.2.2 : Int) < xv - xu) = false := by simp; omega
        clear k3 k4
        go_wp2
        exact ⟨⟨j + 1, by omega, by go_num, _, HDN.out⟩, by simp [intOf]; omega⟩
    · obtain rfl : j = L.length := by omega
      have hwy := way_any N L hN HE.out V HLV.out hOK.valid b hb _ _ w7 ((Edges.below HL.out hB7).mono hB7.size) (hV7.intsW HLV.out)
      have hval := wayM_valid HE.out hOK.valid N b hb
      have hsum : Hid (x < 0 ∨ sumP L (wayM L V N b).reverse = x) := by
        unfold Hid
        by_cases h0 : 0 ≤ at' D b
        · exact .inr (by rw [hOK.sum HE.out ha hb h0]; exact HX.out)
        · exact .inl (by have := HX.out; omega)
      have hsh : (wayM L V N b).length ≤ 40 := Nat.le_trans (wayM_len _ _ _ _) hN
      have HVAL : Hid (∀ p ∈ (wayM L V N b).reverse, ∃ i : Nat, p = i ∧ i < L.length) := fun p hp => hval p (List.mem_reverse.1 hp)
      have hrl : (wayM L V N b).length = (wayM L V N b).reverse.length := by simp
      rw [hrl] at hwy hsh
      generalize (wayM L V N b).reverse = A at *
      have q0 := hX7.cell (j := 0) rfl
      clear hval hrl hV7
      go_wp2_with fail
      refine hwy.mono ?_
      rintro r w8 ⟨rv, rfl, hO8, hb8⟩
      obtain ⟨pr, cr, rfl⟩ := owns_formP hO8
      have hI8 : Ints w8.heap.size w8 (.slice pr A.length cr) A := ints_owns hO8 rfl
      have hB8 := hB7.trans (hb8.mono hB7.size)
      have hX8 := hX7.go hb8
      have hD8 := hD7.go hb8
      clear hwy q0 q1 hO8 hX7 hD7 hB7 hb8
      go_wp2
      go_loopw [16, 18] (fun sv iv wr => ∃ k : Nat, k ≤ A.length ∧ iv = .int .i64 k ∧ sv = .int .i64 (sumP L (A.take k)) ∧ ∃ n, wr = w8.drewN n) (fun _ iv _ => A.length - (intOf iv).toNat)
      case atStart => exact ⟨0, Nat.zero_le _, rfl, rfl, 0, rfl⟩
      case round =>
        obtain ⟨k, hk, rfl, rfl, n2, rfl⟩ := hrel
        have hB9 := below_drewN hB8 n2
        have hX9 : Blk 24 (w8.drewN n2) w.heap.size [.int .i64 (N : Int), .slice p L.length q] := hX8
        have hD9 : Blk 2 (w8.drewN n2) bD (D.map (Value.int .i64)) := hD8
        have hI9 : Ints (w8.drewN n2).heap.size (w8.drewN n2) (.slice pr A.length cr) A := hI8
        obtain ⟨w9, HW9⟩ : ∃ w9, Hid (w8.drewN n2 = w9) := ⟨_, show Hid _ from rfl⟩
        rw [HW9.out] at hB9 hX9 hD9 hI9 ⊢
        have hfs := sumP_few HW.out (A.take k)
        have hfl : (A.take k).length * 2147483647 ≤ 85899345880 := by rw [List.length_take]; have : min k A.length ≤ 40 := by omega
                                                                      omega
        by_cases hkl : k < A.length
        · obtain ⟨pr', cr', hpe, hop⟩ := hI9.openW
          simp only [Value.slice.injEq] at hpe
          obtain ⟨rfl, _, rfl⟩ := hpe
          obtain ⟨ba, oa, rfl, hba, hca⟩ := hop (j := k) hkl
          have a0 := hca w9 (Below.refl _ _) k hkl
          obtain ⟨i, hi, hil⟩ := HVAL.out _ (at_mem hkl)
          rw [hi] at a0
          obtain ⟨bl, ol, rfl, hbl2, hcl, hcel⟩ := Edges.eg HL.out hil
          obtain ⟨e0, e1, e2⟩ := hcel w9 hB9 i hil
          have hwt := HW.out _ (List.getElem_mem hil)
          have HSN : Hid (sumP L (A.take (k + 1)) = sumP L (A.take k) + (L[i].2.2 : Int)) := by
            unfold Hid
            rw [List.take_succ_eq_append_getElem hkl, sumP_append, sumP_cons, sumP_nil, ← at_get hkl, hi]
            simp [wP, hil]
          have hkl' : (k : Int) < (A.length : Int) := by omega
          have hil' : (i : Int) < (L.length : Int) := by omega
          have hi0 : decide ((i : Int) < 0) = false := by simp
          have hid : decide (L.length ≤ i) = false := by simp; omega
          have q1 := hX9.cell (j := 1) rfl
          generalize L[i].2.2 = z at e2 hwt HSN
          generalize sumP L (A.take k) = sm at *
          have hwr := wrap_i (sm + (z : Int)) (by omega) (by omega)
          clear hcel hca hop hi e0 e1
          go_wp2
          go_quiet (fail)
          have a0' : (w9.drewN nq).cell? ⟨ba, oa + k, none⟩ = some (.int .i64 (i : Int)) := a0
          have q1' : (w9.drewN nq).cell? ⟨w.heap.size, 1, none⟩ = some (.slice (some ⟨bl, ol, none⟩) L.length q) := q1
          have e2' : (w9.drewN nq).cell? ⟨bl, ol + i * 3 + 2, none⟩ = some (.int .i64 (z : Int)) := e2
          obtain ⟨m, HDN⟩ : ∃ m, Hid (w9.drewN nq = w8.drewN m) := ⟨n2 + nq, by unfold Hid; rw [← HW9.out, World.drewN_drewN]⟩
          clear a0 q1 e2
          go_wp2
          generalize w9.drewN nq = w10 at *
          go_quiet (fail)
          have HDN2 : Hid (w10.drewN nq = w8.drewN (m + nq)) := by unfold Hid; rw [HDN.out, World.drewN_drewN]
          generalize w10.drewN nq = w11 at *
          go_wp2
          exact ⟨⟨k + 1, by omega, by go_num, by rw [HSN.out], _, HDN2.out⟩, by simp [intOf]; omega⟩
        · obtain rfl : k = A.length := by omega
          rw [List.take_length] at hfs ⊢
          have d0 : w9.cell? ⟨bD, b, none⟩ = some (.int .i64 x) := hD9.cell (by rw [List.getElem?_map, at_get? (by rw [HLD.out]; exact hb), HX.out]; rfl)
          generalize sumP L A = sm at *
          by_cases hx0 : x < 0
          · go_wp2_with fail
            refine (aliveW_any _).mono ?_
            rintro e w10 ⟨rfl, hb10⟩
            go_wp2
            go_ret
            exact ⟨rfl, hB9.trans (hb10.mono hB9.size)⟩
          · have hse : sm = x := hsum.out.resolve_left hx0
            subst hse
            have hsb : (sm == sm) = true := by simp
            go_wp2_with fail
            refine (aliveW_any _).mono ?_
            rintro e w10 ⟨rfl, hb10⟩
            go_wp2
            go_ret
            exact ⟨rfl, hB9.trans (hb10.mono hB9.size)⟩

set_option maxRecDepth 100000 in
set_option maxHeartbeats 4000000 in
theorem mutual_walk (n : Int) (l : List Ed) (a b : Int) (sv : Value) (w : World) (hl : Edges w.heap.size w sv l) :
    Calls Try.prog 6 #[.agg #[.int .i64 n, sv], .int .i64 a, .int .i64 b] w fun r w' => r = .returned (.bool true) ∧ Below w.heap.size w w' := by
  obtain ⟨p, q, rfl⟩ := hl.len
  have hg1 : Grew w (w.alloc (.cells #[.int .i64 n, .slice p l.length q] 24)) := (Grew.refl w).alloc _
  have hlt := fun W => lightW_any n p l.length q 40 (by omega) (by omega) W
  cases hli : lightB n l.length 40 with
  | false =>
    rw [hli] at hlt
    go_enter Try.func6, Try.ntmps6
    go_wp2_with fail
    refine (hlt _).mono ?_
    rintro e w2 ⟨rfl, hg2⟩
    go_wp2_with fail
    refine (aliveW_any _).mono ?_
    rintro e w3 ⟨rfl, hb3⟩
    go_wp2
    go_ret
    exact ⟨rfl, (hg1.trans hg2).below.trans (hb3.mono (hg1.trans hg2).below.size)⟩
  | true =>
    rw [hli] at hlt
    obtain ⟨hn40, hl40⟩ := lightW_true hli
    have hrr := fun W (h : Below w.heap.size w W) => refRightW_any n l _ W (hl.go h)
    clear hli
    by_cases hr : rgtW n l = 0
    · by_cases ha0 : a < 0
      · rw [hr] at hrr
        clear hr
        go_enter Try.func6, Try.ntmps6
        go_wp2_with fail
        refine (hlt _).mono ?_
        rintro e w2 ⟨rfl, hg2⟩
        have hB2 := (hg1.trans hg2).below
        have hX2 : Blk 24 w2 w.heap.size [.int .i64 n, .slice p l.length q] := Blk.go (heap_alloc_new w _) hg2.below
        have q0 := hX2.cell (j := 0) rfl
        have q1 := hX2.cell (j := 1) rfl
        clear hg1 hg2 hlt
        go_wp2_with fail
        refine (hrr _ hB2).mono ?_
        rintro e w3 ⟨rfl, hg3⟩
        have hB3 := hB2.trans (hg3.below.mono hB2.size)
        have hX3 := hX2.go hg3.below
        clear q0 q1
        have q0 := hX3.cell (j := 0) rfl
        go_wp2_with fail
        refine (aliveW_any _).mono ?_
        rintro e w4 ⟨rfl, hb4⟩
        go_wp2
        go_ret
        exact ⟨rfl, hB3.trans (hb4.mono hB3.size)⟩
      · by_cases hb0 : b < 0
        · rw [hr] at hrr
          clear hr
          go_enter Try.func6, Try.ntmps6
          go_wp2_with fail
          refine (hlt _).mono ?_
          rintro e w2 ⟨rfl, hg2⟩
          have hB2 := (hg1.trans hg2).below
          have hX2 : Blk 24 w2 w.heap.size [.int .i64 n, .slice p l.length q] := Blk.go (heap_alloc_new w _) hg2.below
          have q0 := hX2.cell (j := 0) rfl
          have q1 := hX2.cell (j := 1) rfl
          clear hg1 hg2 hlt
          go_wp2_with fail
          refine (hrr _ hB2).mono ?_
          rintro e w3 ⟨rfl, hg3⟩
          have hB3 := hB2.trans (hg3.below.mono hB2.size)
          have hX3 := hX2.go hg3.below
          clear q0 q1
          have q0 := hX3.cell (j := 0) rfl
          go_wp2_with fail
          refine (aliveW_any _).mono ?_
          rintro e w4 ⟨rfl, hb4⟩
          go_wp2
          go_ret
          exact ⟨rfl, hB3.trans (hb4.mono hB3.size)⟩
        · by_cases ha1 : n ≤ a
          · rw [hr] at hrr
            clear hr
            go_enter Try.func6, Try.ntmps6
            go_wp2_with fail
            refine (hlt _).mono ?_
            rintro e w2 ⟨rfl, hg2⟩
            have hB2 := (hg1.trans hg2).below
            have hX2 : Blk 24 w2 w.heap.size [.int .i64 n, .slice p l.length q] := Blk.go (heap_alloc_new w _) hg2.below
            have q0 := hX2.cell (j := 0) rfl
            have q1 := hX2.cell (j := 1) rfl
            clear hg1 hg2 hlt
            go_wp2_with fail
            refine (hrr _ hB2).mono ?_
            rintro e w3 ⟨rfl, hg3⟩
            have hB3 := hB2.trans (hg3.below.mono hB2.size)
            have hX3 := hX2.go hg3.below
            clear q0 q1
            have q0 := hX3.cell (j := 0) rfl
            go_wp2_with fail
            refine (aliveW_any _).mono ?_
            rintro e w4 ⟨rfl, hb4⟩
            go_wp2
            go_ret
            exact ⟨rfl, hB3.trans (hb4.mono hB3.size)⟩
          · by_cases hb1 : n ≤ b
            · rw [hr] at hrr
              clear hr
              go_enter Try.func6, Try.ntmps6
              go_wp2_with fail
              refine (hlt _).mono ?_
              rintro e w2 ⟨rfl, hg2⟩
              have hB2 := (hg1.trans hg2).below
              have hX2 : Blk 24 w2 w.heap.size [.int .i64 n, .slice p l.length q] := Blk.go (heap_alloc_new w _) hg2.below
              have q0 := hX2.cell (j := 0) rfl
              have q1 := hX2.cell (j := 1) rfl
              clear hg1 hg2 hlt
              go_wp2_with fail
              refine (hrr _ hB2).mono ?_
              rintro e w3 ⟨rfl, hg3⟩
              have hB3 := hB2.trans (hg3.below.mono hB2.size)
              have hX3 := hX2.go hg3.below
              clear q0 q1
              have q0 := hX3.cell (j := 0) rfl
              go_wp2_with fail
              refine (aliveW_any _).mono ?_
              rintro e w4 ⟨rfl, hb4⟩
              go_wp2
              go_ret
              exact ⟨rfl, hB3.trans (hb4.mono hB3.size)⟩
            · obtain ⟨N, L, rfl, _, rfl, hL, hE, hW⟩ := right_egs hr
              obtain ⟨s, rfl⟩ : ∃ s : Nat, a = s := ⟨a.toNat, by omega⟩
              obtain ⟨t, rfl⟩ : ∃ t : Nat, b = t := ⟨b.toNat, by omega⟩
              have hlen : (L.map edE).length = L.length := by simp
              rw [hlen] at hl hl40 ⊢
              exact mutual_main N L s t (by omega) (by omega) (by omega) (by omega) hE hW hr p q w hl
    · generalize rgtW n l = k at hrr hr
      have hk' : (k == 0) = false := by simpa using hr
      have hkn : ¬ k = 0 := hr
      go_enter Try.func6, Try.ntmps6
      go_wp2_with fail
      refine (hlt _).mono ?_
      rintro e w2 ⟨rfl, hg2⟩
      have hB2 := (hg1.trans hg2).below
      have hX2 : Blk 24 w2 w.heap.size [.int .i64 n, .slice p l.length q] := Blk.go (heap_alloc_new w _) hg2.below
      have q0 := hX2.cell (j := 0) rfl
      have q1 := hX2.cell (j := 1) rfl
      clear hg1 hg2 hlt
      go_wp2_with fail
      refine (hrr _ hB2).mono ?_
      rintro e w3 ⟨rfl, hg3⟩
      have hB3 := hB2.trans (hg3.below.mono hB2.size)
      have hX3 := hX2.go hg3.below
      clear q0 q1
      have q0 := hX3.cell (j := 0) rfl
      go_wp2_with fail
      refine (aliveW_any _).mono ?_
      rintro e w4 ⟨rfl, hb4⟩
      go_wp2
      go_ret
      exact ⟨rfl, hB3.trans (hb4.mono hB3.size)⟩
end Go.Proofs.Ytejemnjadgihbaa
