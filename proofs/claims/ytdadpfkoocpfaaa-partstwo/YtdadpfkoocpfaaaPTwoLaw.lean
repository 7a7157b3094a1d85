/-
  The walk of filigreelaw06.PartsTwo.
-/
import Derived.Deep.QuietTactic
import Derived.BigQuiet
import Derived.Test.YtdadpfkoocpfaaaPAlive
import Derived.Test.YtdadpfkoocpfaaaPRefTwo
import Derived.Test.YtdadpfkoocpfaaaPRefOdd
namespace Go.Proofs.Ytdadpfkoocpfaaa
open Go Go.Proofs Go.RowKit

theorem side_two {N : Nat} {l : List Ed} (hR : RightG (N : Int) l) (hP : Proper (walkW N l).depth l) : sideL (walkW N l).depth N N = twoL (cAt N l N) N N := by
  unfold sideL twoL
  refine List.map_congr_left fun v hv => ?_
  have hv' := List.mem_range.1 hv
  rw [if_pos hv', if_pos hv', two_yes hR hP hv']
  unfold sideB colD
  by_cases h : (walkW N l).depth.getD v 0 % 2 = 1
  · rw [h]; rfl
  · have h0 : (walkW N l).depth.getD v 0 % 2 = 0 := by omega
    rw [h0]; rfl
theorem Vals.cellB {n : Nat} {W : World} {sv : Value} {l : List Bool} (h : Bools n W sv l) (hl : 0 < l.length) : ∃ b off cap, sv = .slice (some ⟨b, off, none⟩) l.length cap ∧ b < n ∧ ∀ j x, l[j]? = some x → W.cell? ⟨b, off + j, none⟩ = some (.bool x) := by
  rcases h with ⟨_, h0⟩ | ⟨b, off, cap, e, hb, _, hc⟩
  · rw [h0] at hl; simp at hl
  · exact ⟨b, off, cap, e, hb, hc⟩

set_option maxRecDepth 100000 in
set_option maxHeartbeats 8000000 in
theorem two_law (n : Int) (l : List Ed) (sv : Value) (w : World) (hl : Edges w.heap.size w sv l) :
    Calls Try.prog 6 #[.agg #[.int .i64 n, sv]] w fun e w' => e = .returned (.bool true) ∧ Below w.heap.size w w' := by
  have hmix := mixed
  have hg1 : Grew w (w.alloc (.cells #[.int .i64 n, sv] 24)) := (Grew.refl w).alloc _
  have hl1 := hl.go hg1.below
  obtain ⟨p, c, rfl⟩ := hl.len
  have hlt := light_any n l 40 (by decide) (by decide) (.slice p l.length c) _ hl1
  go_enter Try.func6, Try.ntmps6
  go_wp2_with fail
  refine hlt.mono ?_
  rintro e w2 ⟨rfl, hg2⟩
  obtain ⟨q0, q1⟩ := box2 _ hg2
  have hbox := box2_lt hg2
  have hbw2 := (hg1.trans hg2).below
  have hl2 := hl.go hbw2
  clear hlt hl1 hg1 hg2
  cases hL : lightB n l 40 with
  | false =>
    go_wp2_with fail
    refine (alive_any w2).mono ?_
    rintro e w3 ⟨rfl, hb3⟩
    have HB : Hid _ := hbw2.trans (hb3.mono hbw2.size)
    clear hb3 hbw2 hl2
    go_wp2
    go_ret
    exact ⟨rfl, HB.out⟩
  | true =>
    have hlight := lightB_true hL
    by_cases hk : rightK n l = 0
    · have hR := right_iff.1 hk
      obtain ⟨N, rfl⟩ : ∃ N : Nat, n = (N : Int) := ⟨n.toNat, by have := hR.n0; omega⟩
      have htw := two_any N l hR (.slice p l.length c) w2 hl2
      have HR : Hid _ := hR
      clear hR hL
      go_wp2_with fail
      refine htw.mono ?_
      rintro e w3 ⟨hres, hb3⟩
      have r0 := cell_keepK hb3 q0
      have r1 := cell_keepK hb3 q1
      have hbw3 := hbw2.trans (hb3.mono hbw2.size)
      have hl3 := hl.go hbw3
      clear htw hb3 q0 q1 hl2 hbw2
      rcases hres with ⟨hP, bv, rfl, hBo⟩ | ⟨hP, rv, X, rfl, hI, hX⟩
      · have hlenB : (sideL (walkW N l).depth N N).length = N := by simp [sideL]
        have hbl := hBo.len
        rw [hlenB] at hbl
        obtain ⟨pb, cb, rfl⟩ := hbl
        have hrr := refRight_any (N : Int) l (.slice p l.length c) w3 hl3
        rw [hk] at hrr
        go_wp2_with fail
        refine hrr.mono ?_
        rintro e w4 ⟨rfl, hg4⟩
        have s0 := cell_keepK hg4.below r0
        have s1 := cell_keepK hg4.below r1
        have hbw4 := hbw3.trans (hg4.below.mono hbw3.size)
        have hl4 := hl.go hbw4
        have hBo4 := hBo.go hg4.below
        have hrt := refTwo_any N l HR.out (.slice p l.length c) w4 hl4
        clear hrr hg4 r0 r1 hl3 hBo hbw3
        go_wp2_with fail
        refine hrt.mono ?_
        rintro e w5 ⟨hres, hb5⟩
        have hBo5 := hBo4.go hb5
        have hbw5 := hbw4.trans (hb5.mono hbw4.size)
        clear hrt hBo4 hb5 hl4 hbw4 s0 s1
        rcases hres with ⟨_, bv2, rfl, hB2⟩ | ⟨hN, _⟩
        · have hlenT : (twoL (cAt N l N) N N).length = N := by simp [twoL]
          rw [← side_two HR.out hP] at hB2
          have hbl2 := hB2.len
          rw [hlenB] at hbl2
          obtain ⟨pb2, cb2, rfl⟩ := hbl2
          have HB1 : Hid (Bools w5.heap.size w5 (.slice pb N cb) (sideL (walkW N l).depth N N)) := hBo5
          have HB2 : Hid (Bools w5.heap.size w5 (.slice pb2 N cb2) (sideL (walkW N l).depth N N)) := hB2
          have HBw : Hid _ := hbw5
          have Hlen : Hid _ := hlenB
          have hN40 : (N : Int) ≤ 40 := hlight.1
          clear hBo5 hB2 hbw5 hlenB hlenT hP hk HR
          generalize sideL (walkW N l).depth N N = T at *
          go_wp2
          go_loopw [8] (fun iv wr => ∃ q : Nat, q ≤ N ∧ iv = .int .i64 q ∧ Grew w5 wr) (fun i _ => N - (intOf i).toNat)
          case atStart => exact ⟨0, Nat.zero_le _, rfl, Grew.refl _⟩
          case round =>
            obtain ⟨q, hq, rfl, hgq⟩ := hrel
            by_cases hlt : q < N
            · obtain ⟨x, hx⟩ : ∃ x, T[q]? = some x := ⟨_, List.getElem?_eq_getElem (by rw [Hlen.out]; exact hlt)⟩
              obtain ⟨b1, o1, k1, e1, hb1, hc1⟩ := Vals.cellB HB1.out (by rw [Hlen.out]; omega)
              obtain ⟨b2, o2, k2, e2, hb2, hc2⟩ := Vals.cellB HB2.out (by rw [Hlen.out]; omega)
              simp only [Value.slice.injEq] at e1 e2
              obtain ⟨rfl, _, _⟩ := e1
              obtain ⟨rfl, _, _⟩ := e2
              have d1 := cell_keepK hgq.below (hc1 q x hx)
              have d2 := cell_keepK hgq.below (hc2 q x hx)
              have hql : (q : Int) < (N : Int) := by omega
              have HGq : Hid (Grew w5 wr) := hgq
              clear hc1 hc2 hx hgq
              cases x
              · go_wp2
                go_quiet (fail)
                have HG2 : Hid (Grew w5 (wr.drewN nq)) := Grew.drewN HGq.out nq
                generalize wr.drewN nq = wn at HG2 ⊢
                go_wp2
                exact ⟨⟨q + 1, by omega, by go_num, HG2.out⟩, by simp [intOf]; omega⟩
              · go_wp2
                go_quiet (fail)
                have HG2 : Hid (Grew w5 (wr.drewN nq)) := Grew.drewN HGq.out nq
                generalize wr.drewN nq = wn at HG2 ⊢
                go_wp2
                exact ⟨⟨q + 1, by omega, by go_num, HG2.out⟩, by simp [intOf]; omega⟩
            · obtain rfl : N = q := by omega
              have hql : ¬ (N : Int) < (N : Int) := by omega
              have hbq := HBw.out.trans (hgq.below.mono HBw.out.size)
              clear hgq
              go_wp2_with fail
              refine (alive_any wr).mono ?_
              rintro e w9 ⟨rfl, hb9⟩
              have HB : Hid _ := hbq.trans (hb9.mono hbq.size)
              clear hb9 hbq
              go_wp2
              go_ret
              exact ⟨rfl, HB.out⟩
        · exact absurd ((two_iff HR.out).2 hP) hN
      · have hrr := refRight_any (N : Int) l (.slice p l.length c) w3 hl3
        rw [hk] at hrr
        have hfw := hX.few
        have hN40 := hlight.1
        have hM40 := hlight.2
        have hil := hI.len
        obtain ⟨pr, cr, rfl⟩ := hil
        go_wp2_with fail
        refine hrr.mono ?_
        rintro e w4 ⟨rfl, hg4⟩
        have s0 := cell_keepK hg4.below r0
        have s1 := cell_keepK hg4.below r1
        have hbw4 := hbw3.trans (hg4.below.mono hbw3.size)
        have hl4 := hl.go hbw4
        have hI4 := hI.go hg4.below
        have hrt := refTwo_any N l HR.out (.slice p l.length c) w4 hl4
        clear hrr hg4 r0 r1 hl3 hI hbw3
        go_wp2_with fail
        refine hrt.mono ?_
        rintro e w5 ⟨hres, hb5⟩
        have hI5 := hI4.go hb5
        have u0 := cell_keepK hb5 s0
        have u1 := cell_keepK hb5 s1
        have hbw5 := hbw4.trans (hb5.mono hbw4.size)
        have hl5 := hl.go hbw5
        clear hrt hI4 hb5 hl4 hbw4 s0 s1
        rcases hres with ⟨hN, _⟩ | ⟨_, rfl⟩
        · exact absurd ((two_iff HR.out).1 hN) hP
        · have hod := refOdd_true N l HR.out X hX (by omega) (.slice p l.length c) _ w5 hl5 hI5
          clear hX hP hI5 hl5 hk
          go_wp2_with fail
          refine hod.mono ?_
          rintro e w6 ⟨rfl, hb6⟩
          have hbw6 := hbw5.trans (hb6.mono hbw5.size)
          clear hod hb6 hbw5
          go_wp2_with fail
          refine (alive_any w6).mono ?_
          rintro e w7 ⟨rfl, hb7⟩
          have HB : Hid _ := hbw6.trans (hb7.mono hbw6.size)
          clear hb7 hbw6
          go_wp2
          go_ret
          exact ⟨rfl, HB.out⟩
    · have htb := two_bad n l hk (.slice p l.length c) w2 hl2
      go_wp2_with fail
      refine htb.mono ?_
      rintro e w3 ⟨rfl, hb3⟩
      have r0 := cell_keepK hb3 q0
      have r1 := cell_keepK hb3 q1
      have hbw3 := hbw2.trans (hb3.mono hbw2.size)
      have hl3 := hl.go hbw3
      have hrr := refRight_any n l (.slice p l.length c) w3 hl3
      clear htb hb3 q0 q1 hl2 hbw2
      generalize rightK n l = k at *
      go_wp2_with fail
      refine hrr.mono ?_
      rintro e w4 ⟨rfl, hg4⟩
      have hbw4 := hbw3.trans (hg4.below.mono hbw3.size)
      clear hrr hg4 hbw3 hl3 r0 r1
      go_wp2_with fail
      refine (alive_any w4).mono ?_
      rintro e w5 ⟨rfl, hb5⟩
      have HB : Hid _ := hbw4.trans (hb5.mono hbw4.size)
      clear hb5 hbw4
      go_wp2
      go_ret
      exact ⟨rfl, HB.out⟩
end Go.Proofs.Ytdadpfkoocpfaaa
