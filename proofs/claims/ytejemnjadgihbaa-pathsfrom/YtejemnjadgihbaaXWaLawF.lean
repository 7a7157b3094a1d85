/-
  The walk of PathsFrom.
-/
import Derived.Test.YtejemnjadgihbaaXWaLawR
namespace Go.Proofs.Ytejemnjadgihbaa
open Go Go.Proofs Go.RowKit

set_option maxRecDepth 100000 in
set_option maxHeartbeats 2000000 in
theorem from_walk (n : Int) (l : List Ed) (v : Int) (sv : Value) (w : World) (hl : Edges w.heap.size w sv l) :
    Calls Try.prog 4 #[.agg #[.int .i64 n, sv], .int .i64 v] w fun r w' => r = .returned (.bool true) ∧ Below w.heap.size w w' := by
  have hmix := mixed
  obtain ⟨p, q, rfl⟩ := hl.len
  have hg1 : Grew w (w.alloc (.cells #[.int .i64 n, .slice p l.length q] 24)) := (Grew.refl w).alloc _
  have hlt := fun W => lightW_any n p l.length q 40 (by omega) (by omega) W
  cases hli : lightB n l.length 40 with
  | false =>
    rw [hli] at hlt
    go_enter Try.func4, Try.ntmps4
    go_wp2_with fail
    refine (hlt _).mono ?_
    rintro e w2 ⟨rfl, hg2⟩
    go_wp2_with fail
    refine (aliveW_any _).mono ?_
    rintro e w3 ⟨rfl, hb3⟩
    go_wp2
    go_ret
    exact ⟨rfl, (hg1.trans hg2).below.trans (hb3.mono (hg1.trans hg2).below.size)⟩
  | true =>
    rw [hli] at hlt
    obtain ⟨hn40, hl40⟩ := lightW_true hli
    by_cases hr : rgtW n l = 0
    · cases hv : vtxB n v with
      | false =>
        have hv' := vtx_not.1 hv
        have hfr := fun W (h : Below w.heap.size w W) => from_none n v l _ W (hl.go h) hr hv
        have hrr := fun W (h : Below w.heap.size w W) => refRightW_any n l _ W (hl.go h)
        rw [hr] at hrr
        clear hr hv hli
        by_cases hv0 : v < 0
        · clear hv'
          go_enter Try.func4, Try.ntmps4
          go_wp2_with fail
          refine (hlt _).mono ?_
          rintro e w2 ⟨rfl, hg2⟩
          have hB2 := (hg1.trans hg2).below
          have hX2 : Blk 24 w2 w.heap.size [.int .i64 n, .slice p l.length q] := Blk.go (heap_alloc_new w _) hg2.below
          have q0 := hX2.cell (j := 0) rfl
          have q1 := hX2.cell (j := 1) rfl
          clear hg1 hg2 hlt
          go_wp2_with fail
          refine (hfr _ hB2).mono ?_
          rintro e w3 ⟨rfl, hg3⟩
          have hB3 := hB2.trans (hg3.below.mono hB2.size)
          have hX3 := hX2.go hg3.below
          clear q0 q1
          have q0 := hX3.cell (j := 0) rfl
          have q1 := hX3.cell (j := 1) rfl
          go_wp2_with fail
          refine (hrr _ hB3).mono ?_
          rintro e w4 ⟨rfl, hg4⟩
          have hB4 := hB3.trans (hg4.below.mono hB3.size)
          have hX4 := hX3.go hg4.below
          clear q0 q1
          have q0 := hX4.cell (j := 0) rfl
          go_wp2_with fail
          refine (aliveW_any _).mono ?_
          rintro e w5 ⟨rfl, hb5⟩
          go_wp2
          go_ret
          exact ⟨rfl, hB4.trans (hb5.mono hB4.size)⟩
        · have hv1 : n ≤ v := by omega
          clear hv'
          go_enter Try.func4, Try.ntmps4
          go_wp2_with fail
          refine (hlt _).mono ?_
          rintro e w2 ⟨rfl, hg2⟩
          have hB2 := (hg1.trans hg2).below
          have hX2 : Blk 24 w2 w.heap.size [.int .i64 n, .slice p l.length q] := Blk.go (heap_alloc_new w _) hg2.below
          have q0 := hX2.cell (j := 0) rfl
          have q1 := hX2.cell (j := 1) rfl
          clear hg1 hg2 hlt
          go_wp2_with fail
          refine (hfr _ hB2).mono ?_
          rintro e w3 ⟨rfl, hg3⟩
          have hB3 := hB2.trans (hg3.below.mono hB2.size)
          have hX3 := hX2.go hg3.below
          clear q0 q1
          have q0 := hX3.cell (j := 0) rfl
          have q1 := hX3.cell (j := 1) rfl
          go_wp2_with fail
          refine (hrr _ hB3).mono ?_
          rintro e w4 ⟨rfl, hg4⟩
          have hB4 := hB3.trans (hg4.below.mono hB3.size)
          have hX4 := hX3.go hg4.below
          clear q0 q1
          have q0 := hX4.cell (j := 0) rfl
          go_wp2_with fail
          refine (aliveW_any _).mono ?_
          rintro e w5 ⟨rfl, hb5⟩
          go_wp2
          go_ret
          exact ⟨rfl, hB4.trans (hb5.mono hB4.size)⟩
      | true =>
        obtain ⟨N, L, rfl, _, rfl, hL, hE, hW⟩ := right_egs hr
        have hf := vtx_iff.1 hv
        obtain ⟨s, rfl⟩ : ∃ s : Nat, v = s := ⟨v.toNat, by omega⟩
        have hlen : (L.map edE).length = L.length := by simp
        rw [hlen] at hl hlt hl40 ⊢
        have hfr := fun W (h : Below w.heap.size w W) => from_any N L s (by omega) (by omega) hL hE hW hr _ W (hl.go h)
        have hrr := fun W (h : Below w.heap.size w W) => refRightW_any (N : Int) (L.map edE) _ W (hl.go h)
        rw [hr] at hrr
        have hrd := fun W (h : Below w.heap.size w W) => refDist_any N L s (by omega) (by omega) (by omega) hE hW _ W (hl.go h)
        have hdI := relN_isD (n := N) (s := s) (by omega) (dist0_bf L (by omega)) hE hW
        have hrc := fun W (h : Below w.heap.size w W) D V dv vv hD hV => refCheck_any N L s (by omega) (by omega) (by omega) hE hW hr D V _ dv vv W (hl.go h) hD hV
        generalize relN L (dist0 N s) N = d at hrd hdI
        have HRC : Hid _ := hrc
        have HRD : Hid _ := hrd
        have HFR : Hid _ := hfr
        have HRR : Hid _ := hrr
        have HDI : Hid _ := hdI
        have hsl : (s : Int) < (N : Int) := by omega
        have hs0 : ¬ (s : Int) < 0 := by omega
        have hsd : decide (N ≤ s) = false := by simp; omega
        clear hrc hrd hfr hrr hdI hr hv hf hli hlen
        rw [show (L.map edE).length = L.length by simp] at hg1
        go_enter Try.func4, Try.ntmps4
        go_wp2_with fail
        refine (hlt _).mono ?_
        rintro e w2 ⟨rfl, hg2⟩
        have hB2 := (hg1.trans hg2).below
        have hX2 : Blk 24 w2 w.heap.size [.int .i64 (N : Int), .slice p L.length q] := Blk.go (heap_alloc_new w _) hg2.below
        have q0 := hX2.cell (j := 0) rfl
        have q1 := hX2.cell (j := 1) rfl
        clear hg1 hg2 hlt
        go_wp2_with fail
        refine (HFR.out _ hB2).mono ?_
        rintro e w3 ⟨D, V, bD, bV, rfl, hOK, hD, hV, hb3, hgD, hgV⟩
        have hB3 := hB2.trans (hb3.mono hB2.size)
        have hX3 := hX2.go hb3
        have hDd : D = d := IsD.uniq hOK.dist HDI.out
        have hlD := hOK.dist.1
        have hlV := hOK.len
        clear q0 q1
        have q0 := hX3.cell (j := 0) rfl
        have q1 := hX3.cell (j := 1) rfl
        have HDd : Hid _ := hDd
        have HLD : Hid _ := hlD
        have HLV : Hid _ := hlV
        clear hDd hlD hlV hX2
        go_wp2_with fail
        refine (HRR.out _ hB3).mono ?_
        rintro e w4 ⟨rfl, hg4⟩
        have hB4 := hB3.trans (hg4.below.mono hB3.size)
        have hX4 := hX3.go hg4.below
        have hD4 := hD.go hg4.below
        have hV4 := hV.go hg4.below
        clear q0 q1 hD hV hX3
        have q0 := hX4.cell (j := 0) rfl
        have q1 := hX4.cell (j := 1) rfl
        go_wp2_with fail
        refine (HRD.out _ hB4).mono ?_
        rintro e w5 ⟨g, rfl, hgw, hBd, hb5⟩
        have hB5 := hB4.trans (hb5.mono hB4.size)
        have hX5 := hX4.go hb5
        have hD5 := hD4.go hb5
        have hV5 := hV4.go hb5
        have hlo := longs_any D d _ _ w5 (hD5.intsW HLD.out) (hBd.intsW HDI.out.1) (by rw [HLD.out]; omega)
        rw [same_yes HDd.out] at hlo
        clear q0 q1 hD4 hV4 hX4
        go_wp2_with fail
        refine hlo.mono ?_
        rintro e w6 ⟨rfl, nq, rfl⟩
        have hB6 := below_drewN hB5 nq
        have hX6 : Blk 24 (w5.drewN nq) w.heap.size [.int .i64 (N : Int), .slice p L.length q] := hX5
        have hD6 : Blk 2 (w5.drewN nq) bD (D.map (Value.int .i64)) := hD5
        have hV6 : Blk 3 (w5.drewN nq) bV (V.map (Value.int .i64)) := hV5
        clear hlo hB5 hX5 hD5 hV5 hBd
        generalize w5.drewN nq = w6 at *
        have q0 := hX6.cell (j := 0) rfl
        have q1 := hX6.cell (j := 1) rfl
        have hck := HRC.out w6 hB6 D V _ _ (hD6.intsW HLD.out) (hV6.intsW HLV.out)
        go_wp2_with fail
        refine hck.mono ?_
        rintro e w7 ⟨he | he, hb7⟩
        · obtain ⟨rfl, _⟩ := he
          clear hck
          go_wp2_with fail
          refine (aliveW_any _).mono ?_
          rintro e w8 ⟨rfl, hb8⟩
          go_wp2
          go_ret
          have hB7 := hB6.trans (hb7.mono hB6.size)
          exact ⟨rfl, hB7.trans (hb8.mono hB7.size)⟩
        · exact absurd hOK he.2
    · have hfr := fun W (h : Below w.heap.size w W) => from_bad n v l _ W (hl.go h) hr
      have hrr := fun W (h : Below w.heap.size w W) => refRightW_any n l _ W (hl.go h)
      generalize rgtW n l = k at hfr hrr hr
      have hk' : (k == 0) = false := by simpa using hr
      have hkn : ¬ k = 0 := hr
      clear hli
      go_enter Try.func4, Try.ntmps4
      go_wp2_with fail
      refine (hlt _).mono ?_
      rintro e w2 ⟨rfl, hg2⟩
      have hB2 := (hg1.trans hg2).below
      have hX2 : Blk 24 w2 w.heap.size [.int .i64 n, .slice p l.length q] := Blk.go (heap_alloc_new w _) hg2.below
      have q0 := hX2.cell (j := 0) rfl
      have q1 := hX2.cell (j := 1) rfl
      clear hg1 hg2 hlt
      go_wp2_with fail
      refine (hfr _ hB2).mono ?_
      rintro e w3 ⟨rfl, hg3⟩
      have hB3 := hB2.trans (hg3.below.mono hB2.size)
      have hX3 := hX2.go hg3.below
      clear q0 q1
      have q0 := hX3.cell (j := 0) rfl
      have q1 := hX3.cell (j := 1) rfl
      go_wp2_with fail
      refine (hrr _ hB3).mono ?_
      rintro e w4 ⟨rfl, hg4⟩
      have hB4 := hB3.trans (hg4.below.mono hB3.size)
      clear q0 q1
      go_wp2_with fail
      refine (aliveW_any _).mono ?_
      rintro e w5 ⟨rfl, hb5⟩
      go_wp2
      go_ret
      exact ⟨rfl, hB4.trans (hb5.mono hB4.size)⟩
end Go.Proofs.Ytejemnjadgihbaa
