/-
  The walk of ColourGreedy.
-/
import Derived.Test.YteekhofollaooaaXCLawC
import Derived.Test.YteekhofollaooaaXCUsed
import Derived.Test.YteekhofollaooaaXCGrBad
import Derived.Test.YteekhofollaooaaXCRefGr
namespace Go.Proofs.Yteekhofollaooaa
open Go Go.Proofs Go.RowKit

/-- Both colour the same, or refuse. -/
theorem greedy_same (n : Int) (l : List Ed) (P : List Int) (sv ov : Value) (w : World) (hl : Edges w.heap.size w sv l) (ho : Ints w.heap.size w ov P) :
    ∃ (C : List Int) (k : Int), C.length ≤ 1048576 ∧ (∀ W, Below w.heap.size w W → Calls Try.prog 10 #[.agg #[.int .i64 n, sv], ov] W fun e w' => ∃ gv, e = .returned (.tuple #[gv, .int .i64 k]) ∧ Ints w'.heap.size w' gv C ∧ Below W.heap.size W w') ∧
      (∀ W, Below w.heap.size w W → Calls Try.prog 11 #[.agg #[.int .i64 n, sv], ov] W fun e w' => ∃ gv, e = .returned (.tuple #[gv, .int .i64 k]) ∧ Ints w'.heap.size w' gv C ∧ Below W.heap.size W w') := by
  have hnil : ∀ W : World, Ints W.heap.size W (.slice none 0 0) [] := fun W => .inl ⟨⟨_, _, rfl⟩, rfl⟩
  by_cases hk : rightK n l = 0
  · have hR := right_iff.1 hk
    obtain ⟨N, rfl⟩ : ∃ N : Nat, n = (N : Int) := ⟨n.toNat, by have := hR.n0; omega⟩
    have hN := hR.n1
    have hm1 := hR.m1
    cases hor : ordB P (N : Int) with
    | false =>
      refine ⟨[], 1, by simp, fun W hW => (greedy_bad2 N l hR P hor sv ov W (hl.go hW) (ho.go hW)).mono fun e w' h => ⟨_, h.1, hnil w', h.2⟩, fun W hW => ?_⟩
      by_cases hPl : P.length = N
      · refine (refGreedy_any N l hR 4194305 (fun v _ => by have := nb_len (v : Int) l; omega) (by omega) P hPl sv ov W (hl.go hW) (ho.go hW)).mono fun e w' h => ?_
        exact ⟨_, h.2.1 hor, hnil w', h.1⟩
      · exact (refGreedy_bad2 N l hR P hPl sv ov W (hl.go hW) (ho.go hW)).mono fun e w' h => ⟨_, h.1, hnil w', h.2⟩
    | true =>
      have hP := (ordB_iff P (N : Int)).1 hor
      have hlen := (grA_len N l (mostN (nearL N l)) P).1
      have hms : ∀ v, v < N → (nb l (v : Int)).length < mostN (nearL N l) := fun v hv => by
        have h1 := mostN_ge (LL := nearL N l) N v (by rw [nearL_len]; exact hv) hv
        rw [List.take_of_length_le (by rw [nearL_len]; omega)] at h1
        have h2 := nearL_at (l := l) hv
        rw [List.getElem?_eq_getElem (by rw [nearL_len]; exact hv)] at h2
        simp only [Option.some.injEq] at h2
        rwa [h2] at h1
      have hmb : mostN (nearL N l) ≤ 8388608 := by
        have h1 := mostN_le (B := 4194305) (LL := nearL N l) (fun x hx => by
          unfold nearL at hx
          obtain ⟨v, _, rfl⟩ := List.mem_map.1 hx
          have := nb_len (v : Int) l
          omega) N
        rw [List.take_of_length_le (by rw [nearL_len]; omega)] at h1
        omega
      refine ⟨(grA N l (mostN (nearL N l)) P).1, 0, by rw [hlen]; omega, fun W hW => (greedy_any N l hR P hP sv ov W (hl.go hW) (ho.go hW)).mono fun e w' h => ?_, fun W hW => (refGreedy_any N l hR (mostN (nearL N l)) hms hmb P (by have := hP.1; omega) sv ov W (hl.go hW) (ho.go hW)).mono fun e w' h => ?_⟩
      · obtain ⟨g, h1, _, h3, h4⟩ := h
        refine ⟨_, h1, ?_, h4⟩
        have h5 := Blk.ints h3
        rw [hlen] at h5
        exact h5
      · obtain ⟨g, h1, h3⟩ := h.2.2 hor
        refine ⟨_, h1, ?_, h.1⟩
        have h5 := Blk.ints h3
        rw [hlen] at h5
        exact h5
  · exact ⟨[], 1, by simp, fun W hW => (greedy_bad1 n l P hk sv ov W (hl.go hW) (ho.go hW)).mono fun e w' h => ⟨_, h.1, hnil w', h.2⟩, fun W hW => (refGreedy_bad1 n l P hk sv ov W (hl.go hW) (ho.go hW)).mono fun e w' h => ⟨_, h.1, hnil w', h.2⟩⟩

set_option maxRecDepth 100000 in
set_option maxHeartbeats 4000000 in
theorem greedyC_walk (n : Int) (l : List Ed) (P c : List Int) (hcl : c.length ≤ 9223372036854775807) (sv ov cv : Value) (w : World) (hl : Edges w.heap.size w sv l) (ho : Ints w.heap.size w ov P) (hc : Ints w.heap.size w cv c) :
    Calls Try.prog 4 #[.agg #[.int .i64 n, sv], ov, cv] w fun r w' => r = .returned (.bool true) ∧ Below w.heap.size w w' := by
  obtain ⟨C, kk, hCl, hk1, hk2⟩ := greedy_same n l P sv ov w hl ho
  obtain ⟨p, q, rfl⟩ := hl.len
  obtain ⟨po, co, rfl⟩ := ho.len
  obtain ⟨pc, cc, rfl⟩ := hc.len
  have hg1 : Grew w (w.alloc (.cells #[.int .i64 n, .slice p l.length q] 24)) := (Grew.refl w).alloc _
  have q0 := (box2 _ (Grew.refl (w.alloc (.cells #[.int .i64 n, .slice p l.length q] 24)))).1
  have q1 := (box2 _ (Grew.refl (w.alloc (.cells #[.int .i64 n, .slice p l.length q] 24)))).2
  have hlt := light_any n l 25 (by omega) (by omega) (.slice p l.length q) _ (hl.go hg1.below)
  cases hli : lightB n l 25 with
  | false =>
    rw [hli] at hlt
    go_enter Try.func4, Try.ntmps4
    go_wp2_with fail
    refine hlt.mono ?_
    rintro e w2 ⟨rfl, hg2⟩
    go_wp2_with fail
    refine (alive_any _).mono ?_
    rintro e w3 ⟨rfl, hb3⟩
    go_wp2
    go_ret
    exact ⟨rfl, (hg1.trans hg2).below.trans (hb3.mono (hg1.trans hg2).below.size)⟩
  | true =>
    rw [hli] at hlt
    by_cases h1 : (100 : Int) < (P.length : Int)
    · go_enter Try.func4, Try.ntmps4
      go_wp2_with fail
      refine hlt.mono ?_
      rintro e w2 ⟨rfl, hg2⟩
      go_wp2_with fail
      refine (alive_any _).mono ?_
      rintro e w3 ⟨rfl, hb3⟩
      go_wp2
      go_ret
      exact ⟨rfl, (hg1.trans hg2).below.trans (hb3.mono (hg1.trans hg2).below.size)⟩
    · have h1d : decide ((100 : Int) < (P.length : Int)) = false := by simp; omega
      have HK1 : Hid _ := hk1
      have HK2 : Hid _ := hk2
      have HC : Hid (Ints w.heap.size w (.slice pc c.length cc) c) := hc
      clear hk1 hk2
      go_enter Try.func4, Try.ntmps4
      go_wp2_with fail
      refine hlt.mono ?_
      rintro e w1 ⟨rfl, hg2⟩
      clear q0 q1
      have q0 := (box2 _ hg2).1
      have q1 := (box2 _ hg2).2
      have HB1 : Hid (Below w.heap.size w w1) := (hg1.trans hg2).below
      clear hlt hg1 hg2 hl ho hc
      go_wp2
      go_loopw [7] (fun iv wr => ∃ i : Nat, i ≤ c.length ∧ iv = .int .i64 i ∧ Hid (∀ j, j < i → c.getD j 0 < 4611686018427387904) ∧ wr = w1) (fun iv _ => c.length - (intOf iv).toNat)
      case atStart => exact ⟨0, Nat.zero_le _, rfl, fun j hj => absurd hj (Nat.not_lt_zero _), rfl⟩
      case round =>
        obtain ⟨i, hi, rfl, HS, rfl⟩ := hrel
        by_cases hlt : i < c.length
        · have hil : (i : Int) < (c.length : Int) := by omega
          obtain ⟨b, off, rfl, hbb, hcap, hcc⟩ := HC.out.open hlt
          have c0 := hcc _ HB1.out i hlt
          have HX : Hid (c.getD i 0 = c[i]) := by unfold Hid; rw [List.getD_eq_getElem?_getD, List.getElem?_eq_getElem hlt]; rfl
          generalize c[i] = x at *
          clear hcc
          by_cases hx : 4611686018427387904 ≤ x
          · go_wp2_with fail
            refine (alive_any _).mono ?_
            rintro e w3 ⟨rfl, hb3⟩
            have HB3 : Hid (Below w.heap.size w w3) := HB1.out.trans (hb3.mono HB1.out.size)
            clear hb3
            go_wp2
            go_ret
            exact ⟨rfl, HB3.out⟩
          · go_wp2
            refine ⟨⟨i + 1, hlt, by go_num, fun j hj => ?_, trivial⟩, by simp [intOf]; omega⟩
            by_cases e : j = i
            · subst e; rw [HX.out]; omega
            · exact HS.out j (by omega)
        · have hil : ¬ (i : Int) < (c.length : Int) := by omega
          have hall : ∀ x ∈ c, x < 4611686018427387904 := fun x hx => by
            obtain ⟨j, hj, rfl⟩ := List.mem_iff_getElem.1 hx
            have := HS.out j (by omega)
            rwa [List.getD_eq_getElem?_getD, List.getElem?_eq_getElem hj] at this
          have HALL : Hid (∀ x ∈ c, x < 4611686018427387904) := hall
          clear hall HS
          go_wp2_with fail
          refine (HK1.out _ HB1.out).mono ?_
          rintro e w2 ⟨gv, rfl, hI2, hb2⟩
          obtain ⟨pg, cg, rfl⟩ := hI2.len
          have HB2 : Hid (Below w.heap.size w w2) := HB1.out.trans (hb2.mono HB1.out.size)
          have r0 := cell_keepK hb2 q0
          have r1 := cell_keepK hb2 q1
          have HI2 : Hid (Ints w2.heap.size w2 (.slice pg C.length cg) C) := hI2
          clear q0 q1 hb2 hI2
          go_wp2_with fail
          refine (HK2.out _ HB2.out).mono ?_
          rintro e w3 ⟨hv, rfl, hI3, hb3⟩
          obtain ⟨ph, ch, rfl⟩ := hI3.len
          have HB3 : Hid (Below w.heap.size w w3) := HB2.out.trans (hb3.mono HB2.out.size)
          have hri := refInts_any C C (by omega) _ _ w3 (HI2.out.go hb3) hI3
          clear r0 r1 hb3 hI3
          go_wp2_with fail
          refine hri.mono ?_
          rintro e w4 ⟨rfl, hg4⟩
          have HB4 : Hid (Below w.heap.size w w4) := HB3.out.trans (hg4.below.mono HB3.out.size)
          have hu1 := used_any c hcl HALL.out _ _ w4 (HC.out.go HB4.out)
          have hu2 := refUsed_any c hcl HALL.out _ _ w4 (HC.out.go HB4.out)
          generalize mxL c + 1 = mx at *
          clear hri hg4
          simp only [decide_true]
          go_wp2_with (first | (go_at_call 13; refine hu1.mono ?_; rintro e w5 ⟨rfl, rfl⟩) | (go_at_call 14; refine hu2.mono ?_; rintro e w5 ⟨rfl, rfl⟩))
          refine (alive_any _).mono ?_
          rintro e w6 ⟨rfl, hb6⟩
          have HB6 : Hid (Below w.heap.size w w6) := HB4.out.trans (hb6.mono HB4.out.size)
          clear hb6
          go_wp2
          go_ret
          exact ⟨rfl, HB6.out⟩
end Go.Proofs.Yteekhofollaooaa
