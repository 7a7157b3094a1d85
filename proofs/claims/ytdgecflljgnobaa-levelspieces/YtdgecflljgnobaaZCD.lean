/-
  PROVED: filigreelaw18.LevelsPieces returns true for any arguments, and each argument reads afterwards as it read before. No condition.
-/
import Derived.Test.YtdgecflljgnobaaXLvAlive
import Derived.Test.YtdgecflljgnobaaZAE
namespace Go.Proofs.Ytdgecflljgnobaa
open Go Go.Proofs Go.RowKit

theorem cell_keepL {A B : World} (hb : Below A.heap.size A B) {a : Addr} {v : Value} (h : A.cell? a = some v) : B.cell? a = some v := (hb.cell (World.block_lt_of_cell? A a h)).trans h

set_option maxRecDepth 100000 in
set_option maxHeartbeats 4000000 in
theorem of_law (n : Int) (l : List Ed) (sv : Value) (w : World) (hl : Edges w.heap.size w sv l) :
    Calls Try.prog 3 #[.agg #[.int .i64 n, sv]] w fun e w' => e = .returned (.bool true) ∧ Below w.heap.size w w' := by
  have hg1 : Grew w (w.alloc (.cells #[.int .i64 n, sv] 24)) := (Grew.refl w).alloc _
  have hl1 := hl.go hg1.below
  obtain ⟨p, c, rfl⟩ := hl.len
  have hlt := light_any n l 40 (by decide) (by decide) (.slice p l.length c) _ hl1
  go_enter Try.func3, Try.ntmps3
  go_wp2_with fail
  refine hlt.mono ?_
  rintro e w2 ⟨rfl, hg2⟩
  obtain ⟨q0, q1⟩ := box2 _ hg2
  have hbw2 := (hg1.trans hg2).below
  have hl2 := hl.go hbw2
  clear hlt hl1 hg1 hg2
  cases hL : lightB n l 40 with
  | false =>
    go_wp2_with fail
    refine (alive_any w2).mono ?_
    rintro e w3 ⟨rfl, hb3⟩
    have HB : Hid _ := hbw2.trans (hb3.mono hbw2.size)
    clear hb3 hbw2 hl2
    go_wp2
    go_ret
    exact ⟨rfl, HB.out⟩
  | true =>
    have hlb := lightB_true hL
    clear hL
    by_cases hk : rightK n l = 0
    · have hR := right_iff.1 hk
      obtain ⟨N, rfl⟩ : ∃ N : Nat, n = (N : Int) := ⟨n.toNat, by have := hR.n0; omega⟩
      have hof := of_any N l hR (.slice p l.length c) w2 hl2
      go_wp2_with fail
      refine hof.mono ?_
      rintro e w3 ⟨g, L, rfl, hg, hBL, hLev, hb3⟩
      have r0 := cell_keepL hb3 q0
      have r1 := cell_keepL hb3 q1
      have hbw3 := hbw2.trans (hb3.mono hbw2.size)
      have hl3 := hl.go hbw3
      clear hof hb3 q0 q1 hbw2 hl2
      have hrr := refRight_any (N : Int) l (.slice p l.length c) w3 hl3
      rw [hk] at hrr
      clear hk
      go_wp2_with fail
      refine hrr.mono ?_
      rintro e w4 ⟨rfl, hg4⟩
      have s0 := cell_keepL hg4.below r0
      have s1 := cell_keepL hg4.below r1
      have hbw4 := hbw3.trans (hg4.below.mono hbw3.size)
      have hl4 := hl.go hbw4
      have hBL4 := hBL.go hg4.below
      clear hrr hg4 r0 r1 hbw3 hl3 hBL
      have hro := refOf_any N l hR L hLev (.slice p l.length c) w4 hl4
      go_wp2_with fail
      refine hro.mono ?_
      rintro e w5 ⟨g2, rfl, hB2, hg2, hb5⟩
      have hLl := hLev.len
      have hI1 : Ints w5.heap.size w5 (.slice (some ⟨g, 0, none⟩) N N) L := by
        have := (hBL4.go hb5).ints
        rwa [hLl] at this
      have hI2 : Ints w5.heap.size w5 (.slice (some ⟨g2, 0, none⟩) N N) L := by
        have := hB2.ints
        rwa [hLl] at this
      have hbw5 := hbw4.trans (hb5.mono hbw4.size)
      have hri := refInts_any L L (by omega) _ _ w5 hI1 hI2
      clear hro hb5 s0 s1 hbw4 hl4 hBL4 hB2 hI1 hI2
      go_wp2_with fail
      refine hri.mono ?_
      rintro e w6 ⟨rfl, hg6⟩
      have hbw6 := hbw5.trans (hg6.below.mono hbw5.size)
      clear hri hg6 hbw5
      simp only [decide_true]
      go_wp2_with fail
      refine (alive_any w6).mono ?_
      rintro e w7 ⟨rfl, hb7⟩
      have HB : Hid _ := hbw6.trans (hb7.mono hbw6.size)
      clear hb7 hbw6
      go_wp2
      go_ret
      exact ⟨rfl, HB.out⟩
    · have hof := of_bad n l hk (.slice p l.length c) w2 hl2
      go_wp2_with fail
      refine hof.mono ?_
      rintro e w3 ⟨rfl, hb3⟩
      have r0 := cell_keepL hb3 q0
      have r1 := cell_keepL hb3 q1
      have hbw3 := hbw2.trans (hb3.mono hbw2.size)
      have hl3 := hl.go hbw3
      clear hof hb3 q0 q1 hbw2 hl2
      have hrr := refRight_any n l (.slice p l.length c) w3 hl3
      have hk' : (rightK n l != 0) = true := by simpa using hk
      generalize rightK n l = q at *
      go_wp2_with fail
      refine hrr.mono ?_
      rintro e w4 ⟨rfl, hg4⟩
      have hbw4 := hbw3.trans (hg4.below.mono hbw3.size)
      clear hrr hg4 r0 r1 hbw3 hl3
      go_wp2_with fail
      refine (alive_any w4).mono ?_
      rintro e w5 ⟨rfl, hb5⟩
      have HB : Hid _ := hbw4.trans (hb5.mono hbw4.size)
      clear hb5 hbw4
      go_wp2
      go_ret
      exact ⟨rfl, HB.out⟩
end Go.Proofs.Ytdgecflljgnobaa

namespace Go.Proofs.Ytdgecflljgnobaa
open Go Go.Proofs Go.RowKit

theorem fitL_kinds (n : Int) (l : List Ed) (k s : Int) : fitL n l k s = 0 ∨ fitL n l k s = 1 ∨ fitL n l k s = 11 := by
  unfold fitL
  split
  · exact .inr (.inl rfl)
  · split
    · exact .inr (.inr rfl)
    · exact .inl rfl
theorem rc_short {L : List Int} {N : Nat} : ∀ x ∈ rcAt L N N, x.length ≤ N := fun x hx => by
  obtain ⟨_, v, _, _, h, _⟩ := rc_head (Nat.le_refl _) x hx
  rw [h]
  exact memAt_len L v N
theorem pieces_few (N : Nat) (l : List Ed) (kp : List Bool) : (piecesL N l kp).length ≤ N ∧ ∀ x ∈ piecesL N l kp, x.length ≤ N := by
  unfold piecesL
  exact ⟨Nat.le_trans (List.length_filter_le _ _) (rcAt_len _ _ _), fun x hx => rc_short x (List.mem_filter.1 hx).1⟩

set_option maxRecDepth 100000 in
set_option maxHeartbeats 8000000 in
theorem pieces_law (n : Int) (l : List Ed) (k s : Int) (sv : Value) (w : World) (hl : Edges w.heap.size w sv l) :
    Calls Try.prog 4 #[.agg #[.int .i64 n, sv], .int .i64 k, .int .i64 s] w fun e w' => e = .returned (.bool true) ∧ Below w.heap.size w w' := by
  have hmix := mixed
  have hg1 : Grew w (w.alloc (.cells #[.int .i64 n, sv] 24)) := (Grew.refl w).alloc _
  have hl1 := hl.go hg1.below
  obtain ⟨p, c, rfl⟩ := hl.len
  have hlt := light_any n l 30 (by decide) (by decide) (.slice p l.length c) _ hl1
  go_enter Try.func4, Try.ntmps4
  go_wp2_with fail
  refine hlt.mono ?_
  rintro e w2 ⟨rfl, hg2⟩
  obtain ⟨q0, q1⟩ := box2 _ hg2
  have hbw2 := (hg1.trans hg2).below
  have hl2 := hl.go hbw2
  clear hlt hl1 hg1 hg2
  cases hL : lightB n l 30 with
  | false =>
    go_wp2_with fail
    refine (alive_any w2).mono ?_
    rintro e w3 ⟨rfl, hb3⟩
    have HB : Hid _ := hbw2.trans (hb3.mono hbw2.size)
    clear hb3 hbw2 hl2
    go_wp2
    go_ret
    exact ⟨rfl, HB.out⟩
  | true =>
    clear hL
    by_cases hk : fitL n l k s = 0
    · obtain ⟨hR, hk1, hk8, hs0, hsk⟩ := fitL_ok.1 hk
      obtain ⟨N, rfl⟩ : ∃ N : Nat, n = (N : Int) := ⟨n.toNat, by have := hR.n0; omega⟩
      have hn1 := hR.n1
      have hkp := kept_any N l hR k s hk1 hk8 hs0 hsk (.slice p l.length c) w2 hl2
      go_wp2_with fail
      refine hkp.mono ?_
      rintro e w3 ⟨g, D, rfl, hg, hBK, hLev, hb3⟩
      have r0 := cell_keepL hb3 q0
      have r1 := cell_keepL hb3 q1
      have hbw3 := hbw2.trans (hb3.mono hbw2.size)
      have hl3 := hl.go hbw3
      clear hkp hb3 q0 q1 hbw2 hl2
      have hpc := pieces_any N l hR k s hk1 hk8 hs0 hsk (.slice p l.length c) w3 hl3
      go_wp2_with fail
      refine hpc.mono ?_
      rintro e w4 ⟨rv, D2, rfl, hLp, hLev2, hb4⟩
      obtain rfl : D2 = D := hLev2.uniq hR hLev
      have s0 := cell_keepL hb4 r0
      have s1 := cell_keepL hb4 r1
      have hbw4 := hbw3.trans (hb4.mono hbw3.size)
      have hl4 := hl.go hbw4
      have hBK4 := hBK.go hb4
      obtain ⟨pr, cr, rfl⟩ := hLp.len
      clear hpc hb4 r0 r1 hbw3 hl3 hBK hLev2
      have hak := askedL_any (N : Int) l k s (.slice p l.length c) w4 hl4
      rw [hk] at hak
      clear hk
      go_wp2_with fail
      refine hak.mono ?_
      rintro e w5 ⟨rfl, hb5⟩
      have t0 := cell_keepL hb5 s0
      have t1 := cell_keepL hb5 s1
      have hbw5 := hbw4.trans (hb5.mono hbw4.size)
      have hl5 := hl.go hbw5
      have hBK5 := hBK4.go hb5
      have hLp5 := hLp.go hb5
      clear hak hb5 s0 s1 hbw4 hl4 hBK4 hLp
      have hrk := refKept_any N l hR D2 hLev k s hk1 hk8 hs0 hsk (.slice p l.length c) w5 hl5
      go_wp2_with fail
      refine hrk.mono ?_
      rintro e w6 ⟨g2, rfl, hg2, hB2, hb6⟩
      have u0 := cell_keepL hb6 t0
      have u1 := cell_keepL hb6 t1
      have HBW : Hid (Below w.heap.size w w6) := hbw5.trans (hb6.mono hbw5.size)
      have HLP : Hid (Lsts w6.heap.size w6 _ _) := hLp5.go hb6
      have hBK6 := hBK5.go hb6
      have hkl : (staysL D2 k s).length = N := by rw [staysL_len, hLev.len]
      have HFEW : Hid _ := pieces_few N l (staysL D2 k s)
      have HPC : Hid (∀ W, Below w6.heap.size w6 W → Calls Try.prog 18 #[.agg #[.int .i64 (N : Int), .slice p l.length c], .int .i64 k, .int .i64 s] W fun r w' => ∃ rv, r = .returned rv ∧ Lsts w'.heap.size w' rv (piecesL N l (staysL D2 k s)) ∧ Below W.heap.size W w') := fun W hb => refPieces_any N l hR D2 hLev k s hk1 hk8 hs0 hsk (.slice p l.length c) W ((hl.go HBW.out).go hb)
      clear hrk hb6 t0 t1 hbw5 hl5 hBK5 hLp5
      generalize (piecesL N l (staysL D2 k s)).length = pl at *
      generalize staysL D2 k s = kp at *
      go_wp2
      go_loopw [13] (fun i wr => ∃ j : Nat, j ≤ N ∧ i = .int .i64 (j : Int) ∧ ∃ nq, wr = w6.drewN nq) (fun i _ => N - (intOf i).toNat)
      case atStart => exact ⟨0, Nat.zero_le _, rfl, 0, rfl⟩
      case round =>
        obtain ⟨j, hj, rfl, m, rfl⟩ := hrel
        by_cases hlt : j < N
        · have hjl : (j : Int) < (N : Int) := by omega
          have a0 : (w6.drewN m).cell? ⟨g, j, none⟩ = some (.bool (kp.getD j false)) := hBK6.cell (by rw [List.getElem?_map, List.getElem?_eq_getElem (by omega)]; simp [show j < kp.length by omega])
          have a1 : (w6.drewN m).cell? ⟨g2, j, none⟩ = some (.bool (kp.getD j false)) := hB2.cell (by rw [List.getElem?_map, List.getElem?_eq_getElem (by omega)]; simp [show j < kp.length by omega])
          generalize kp.getD j false = b at *
          obtain ⟨W, hW⟩ : ∃ W, w6.drewN m = W := ⟨_, rfl⟩
          rw [hW] at a0 a1
          rw [hW]
          have HWQ : Hid (W = w6.drewN m) := hW.symm
          clear hW
          go_wp2
          go_quiet (fail)
          have hbb : (b != b) = false := by simp

          go_wp2
          refine ⟨⟨j + 1, by omega, by go_num, m + nq, ?_⟩, by simp [intOf]; omega⟩
          rw [HWQ.out]
          exact World.drewN_drewN _ _ _
        · obtain rfl : N = j := by omega
          have hN : ¬ (N : Int) < (N : Int) := by omega
          have hbq : Below w6.heap.size w6 (w6.drewN m) := below_drewN (Below.refl _ _) m
          obtain ⟨W, hW⟩ : ∃ W, w6.drewN m = W := ⟨_, rfl⟩
          have v0 : W.cell? ⟨w.heap.size, 0, none⟩ = some (.int .i64 (N : Int)) := by rw [← hW]; exact u0
          have v1 : W.cell? ⟨w.heap.size, 1, none⟩ = some (.slice p l.length c) := by rw [← hW]; exact u1
          rw [hW] at hbq ⊢
          clear hW u0 u1
          have hrp := HPC.out W hbq
          have HLW : Hid (Lsts W.heap.size W (.slice pr pl cr) (piecesL N l kp)) := HLP.out.go hbq
          have HBW2 : Hid (Below w.heap.size w W) := HBW.out.trans (hbq.mono HBW.out.size)
          clear HPC HLP HBW hbq
          go_wp2_with fail
          refine hrp.mono ?_
          clear hrp v0 v1
          rintro e w7 ⟨rv2, rfl, hL7, hb7⟩
          have hfew := HFEW.out
          have hplen : (piecesL N l kp).length = pl := by
            obtain ⟨_, _, h⟩ := HLW.out.len
            simp only [Value.slice.injEq] at h
            exact h.2.1.symm
          have hrl := refLists_any (piecesL N l kp) (piecesL N l kp) (by omega) (fun x hx => by have := hfew.2 x hx; omega) _ _ w7 (HLW.out.go hb7) hL7
          obtain ⟨p7, c7, rfl⟩ := hL7.len
          have HB7 : Hid (Below w.heap.size w w7) := HBW2.out.trans (hb7.mono HBW2.out.size)
          clear HLW HBW2 hb7 hL7 hfew HFEW
          rw [hplen] at hrl ⊢
          clear hplen
          simp only [decide_true] at hrl
          go_wp2_with fail
          refine hrl.mono ?_
          clear hrl
          rintro e w8 ⟨rfl, hg8⟩
          have HB8 : Hid (Below w.heap.size w w8) := HB7.out.trans (hg8.below.mono HB7.out.size)
          clear hg8 HB7
          go_wp2_with fail
          refine (alive_any w8).mono ?_
          rintro e w9 ⟨rfl, hb9⟩
          have HB : Hid _ := HB8.out.trans (hb9.mono HB8.out.size)
          clear hb9 HB8
          go_wp2
          go_ret
          exact ⟨rfl, HB.out⟩
    · have hkd := fitL_kinds n l k s
      have hkb := kept_bad n l k s hk (.slice p l.length c) w2 hl2
      have hpb := fun W hb => pieces_bad n l k s hk (.slice p l.length c) W (hl2.go (W' := W) hb)
      have hab := fun W hb => askedL_any n l k s (.slice p l.length c) W (hl2.go (W' := W) hb)
      have hk' : (fitL n l k s != 0) = true := by simpa using hk
      generalize fitL n l k s = q at *
      go_wp2_with fail
      refine hkb.mono ?_
      rintro e w3 ⟨rfl, hb3⟩
      have r0 := cell_keepL hb3 q0
      have r1 := cell_keepL hb3 q1
      have hp3 := hpb w3 hb3
      clear hkb q0 q1
      go_wp2_with fail
      refine hp3.mono ?_
      rintro e w4 ⟨rfl, hb4⟩
      have s0 := cell_keepL hb4 r0
      have s1 := cell_keepL hb4 r1
      have hb24 := hb3.trans (hb4.mono hb3.size)
      have ha4 := hab w4 hb24
      clear hp3 hpb r0 r1 hb4
      go_wp2_with fail
      refine ha4.mono ?_
      rintro e w5 ⟨rfl, hb5⟩
      have hbw5 := hbw2.trans ((hb24.trans (hb5.mono hb24.size)).mono hbw2.size)
      have hqq : (q == q) = true := by simp
      clear ha4 hab s0 s1 hb5 hb24 hbw2 hl2
      go_wp2_with fail
      refine (alive_any w5).mono ?_
      rintro e w6 ⟨rfl, hb6⟩
      have HB : Hid _ := hbw5.trans (hb6.mono hbw5.size)
      clear hb6 hbw5
      go_wp2
      go_ret
      exact ⟨rfl, HB.out⟩
end Go.Proofs.Ytdgecflljgnobaa

namespace Go.Proofs.Ytdgecflljgnobaa.levelsPieces
open Go Go.ChangeShapes Go.WideShapes Go.ChangeAt Go.RowKit

set_option maxRecDepth 100000 in
set_option maxHeartbeats 1000000 in
theorem lifted (os : Os) (started : os.Started) (H : Type) (enc : TypeId × Value → H) :
    ReturnsInHanded {} Try.checked os 4 .any (Rows.levelsPiecesSpec.pre6 enc Try.prog Try.f4 Rows.levelsPiecesRow.domain false) (Rows.levelsPiecesSpec.post enc Try.prog Try.f4 false true false false) := by
  refine returnsInHanded_of_change (C := Try.checked) own started (by kernel_rfl) Try.func4
    (ChangeSpec.witness6 (enc := enc) (C := Try.checked) false ⟨#[], #[.agg #[.int .i64 0, .slice none 0 0], .int .i64 0, .int .i64 0], []⟩ 8 (by kernel_rfl) (by kernel_rfl) (by kernel_rfl) (by kernel_rfl)) ?_
  intro W base args ds gs before hval0 hW hcnd _
  have hval : ∀ (j : Nat) t v, Try.f4.params[j]? = some t → args[j]? = some v → Value.okWide Try.prog W .any base t v := hval0
  have hW' := hW
  obtain ⟨p, q, hA0, hV, rfl, hfz, hnd⟩ := hW
  have hA : DataW.TrodAll enc Try.prog W 0 (fun _ => true) true Try.f4.params.toList args.toList ds p := hA0
  rw [Try.params4] at hA hval
  obtain ⟨v0, vs0, d0, ds0, p0, q0, hargs, rfl, rfl, h0, r0⟩ := trodAll_cons hA
  obtain ⟨v1, vs1, d1, ds1, p1, q1, rfl, rfl, rfl, h1, r1⟩ := trodAll_cons r0
  obtain ⟨v2, vs2, d2, ds2, p2, q2, rfl, rfl, rfl, h2, r2⟩ := trodAll_cons r1
  obtain ⟨rfl, rfl, rfl⟩ := trodAll_nil r2
  obtain rfl : args = #[v0, v1, v2] := by cases args; simp_all
  obtain ⟨rfl, rfl⟩ := trodVars_none hV
  have k0 := h0
  have lt0 : ∀ x ∈ p0, x.block < W.heap.size := by obtain ⟨m, hm⟩ := k0; exact DataW.trod_lt m _ _ _ hm
  have k1 := h1
  have lt1 : ∀ x ∈ p1, x.block < W.heap.size := by obtain ⟨m, hm⟩ := k1; exact DataW.trod_lt m _ _ _ hm
  have k2 := h2
  have lt2 : ∀ x ∈ p2, x.block < W.heap.size := by obtain ⟨m, hm⟩ := k2; exact DataW.trod_lt m _ _ _ hm
  obtain ⟨n0, s0, l0, rfl, e0⟩ := graph_in (hval 0 24 v0 rfl rfl) h0
  obtain ⟨n1, hn1, _, _, wf1⟩ := open_int Try.underlying3 (hval 1 3 v1 rfl rfl) h1
  subst hn1
  obtain ⟨n2, hn2, _, _, wf2⟩ := open_int Try.underlying3 (hval 2 3 v2 rfl rfl) h2
  subst hn2
  clear hA0 hval0
  refine (pieces_law n0 l0 n1 n2 _ W e0).mono fun e W' ⟨he, bel⟩ => ?_
  subst he
  exact ⟨_, rfl, _, _, _, [], _, [], hW', trodAll_mk1 (shut_bool Try.underlying4 _), (trodAll_cons_mk (Below.trod laidOut (by kernel_rfl) (of_decide_eq_true (by kernel_rfl)) k0 bel lt0) (trodAll_cons_mk (Below.trod laidOut (by kernel_rfl) (of_decide_eq_true (by kernel_rfl)) k1 bel lt1) (trodAll_cons_mk (Below.trod laidOut (by kernel_rfl) (of_decide_eq_true (by kernel_rfl)) k2 bel lt2) trodAll_mk0))), rfl, bel.frame _, fun h => by cases h⟩

end Go.Proofs.Ytdgecflljgnobaa.levelsPieces

namespace Go.Proofs.Ytdgecflljgnobaa
open Go

theorem levelsPieces_holds : Rows.LevelsPiecesSaid :=
  OpenClaim.holds_of_wide 4 Try.f4 rfl rfl rfl rfl rfl rfl rfl ⟨rfl, rfl, rfl, rfl, rfl⟩ rfl rfl rfl rfl rfl (by kernel_rfl) Try.func4 (by kernel_rfl)
    (of_decide_eq_true (by kernel_rfl)) (by unfold Func.isWrapper; first | (rw [if_pos (by decide +kernel)]; kernel_rfl) | (rw [if_neg (by decide +kernel)]; exact ⟨rfl, rfl⟩))
    (fun os started H enc _ => levelsPieces.lifted os started H enc)

#print axioms levelsPieces_holds
end Go.Proofs.Ytdgecflljgnobaa
