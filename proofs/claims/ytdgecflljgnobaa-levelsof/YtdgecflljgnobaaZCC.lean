/-
  PROVED: filigreelaw18.LevelsOf returns true for any arguments, and each argument reads afterwards as it read before. No condition.
-/
import Derived.Test.YtdgecflljgnobaaXLvAlive
import Derived.Test.YtdgecflljgnobaaZAE
namespace Go.Proofs.Ytdgecflljgnobaa
open Go Go.Proofs Go.RowKit

theorem cell_keepL {A B : World} (hb : Below A.heap.size A B) {a : Addr} {v : Value} (h : A.cell? a = some v) : B.cell? a = some v := (hb.cell (World.block_lt_of_cell? A a h)).trans h

set_option maxRecDepth 100000 in
set_option maxHeartbeats 4000000 in
theorem of_law (n : Int) (l : List Ed) (sv : Value) (w : World) (hl : Edges w.heap.size w sv l) :
    Calls Try.prog 3 #[.agg #[.int .i64 n, sv]] w fun e w' => e = .returned (.bool true) ∧ Below w.heap.size w w' := by
  have hg1 : Grew w (w.alloc (.cells #[.int .i64 n, sv] 24)) := (Grew.refl w).alloc _
  have hl1 := hl.go hg1.below
  obtain ⟨p, c, rfl⟩ := hl.len
  have hlt := light_any n l 40 (by decide) (by decide) (.slice p l.length c) _ hl1
  go_enter Try.func3, Try.ntmps3
  go_wp2_with fail
  refine hlt.mono ?_
  rintro e w2 ⟨rfl, hg2⟩
  obtain ⟨q0, q1⟩ := box2 _ hg2
  have hbw2 := (hg1.trans hg2).below
  have hl2 := hl.go hbw2
  clear hlt hl1 hg1 hg2
  cases hL : lightB n l 40 with
  | false =>
    go_wp2_with fail
    refine (alive_any w2).mono ?_
    rintro e w3 ⟨rfl, hb3⟩
    have HB : Hid _ := hbw2.trans (hb3.mono hbw2.size)
    clear hb3 hbw2 hl2
    go_wp2
    go_ret
    exact ⟨rfl, HB.out⟩
  | true =>
    have hlb := lightB_true hL
    clear hL
    by_cases hk : rightK n l = 0
    · have hR := right_iff.1 hk
      obtain ⟨N, rfl⟩ : ∃ N : Nat, n = (N : Int) := ⟨n.toNat, by have := hR.n0; omega⟩
      have hof := of_any N l hR (.slice p l.length c) w2 hl2
      go_wp2_with fail
      refine hof.mono ?_
      rintro e w3 ⟨g, L, rfl, hg, hBL, hLev, hb3⟩
      have r0 := cell_keepL hb3 q0
      have r1 := cell_keepL hb3 q1
      have hbw3 := hbw2.trans (hb3.mono hbw2.size)
      have hl3 := hl.go hbw3
      clear hof hb3 q0 q1 hbw2 hl2
      have hrr := refRight_any (N : Int) l (.slice p l.length c) w3 hl3
      rw [hk] at hrr
      clear hk
      go_wp2_with fail
      refine hrr.mono ?_
      rintro e w4 ⟨rfl, hg4⟩
      have s0 := cell_keepL hg4.below r0
      have s1 := cell_keepL hg4.below r1
      have hbw4 := hbw3.trans (hg4.below.mono hbw3.size)
      have hl4 := hl.go hbw4
      have hBL4 := hBL.go hg4.below
      clear hrr hg4 r0 r1 hbw3 hl3 hBL
      have hro := refOf_any N l hR L hLev (.slice p l.length c) w4 hl4
      go_wp2_with fail
      refine hro.mono ?_
      rintro e w5 ⟨g2, rfl, hB2, hg2, hb5⟩
      have hLl := hLev.len
      have hI1 : Ints w5.heap.size w5 (.slice (some ⟨g, 0, none⟩) N N) L := by
        have := (hBL4.go hb5).ints
        rwa [hLl] at this
      have hI2 : Ints w5.heap.size w5 (.slice (some ⟨g2, 0, none⟩) N N) L := by
        have := hB2.ints
        rwa [hLl] at this
      have hbw5 := hbw4.trans (hb5.mono hbw4.size)
      have hri := refInts_any L L (by omega) _ _ w5 hI1 hI2
      clear hro hb5 s0 s1 hbw4 hl4 hBL4 hB2 hI1 hI2
      go_wp2_with fail
      refine hri.mono ?_
      rintro e w6 ⟨rfl, hg6⟩
      have hbw6 := hbw5.trans (hg6.below.mono hbw5.size)
      clear hri hg6 hbw5
      simp only [decide_true]
      go_wp2_with fail
      refine (alive_any w6).mono ?_
      rintro e w7 ⟨rfl, hb7⟩
      have HB : Hid _ := hbw6.trans (hb7.mono hbw6.size)
      clear hb7 hbw6
      go_wp2
      go_ret
      exact ⟨rfl, HB.out⟩
    · have hof := of_bad n l hk (.slice p l.length c) w2 hl2
      go_wp2_with fail
      refine hof.mono ?_
      rintro e w3 ⟨rfl, hb3⟩
      have r0 := cell_keepL hb3 q0
      have r1 := cell_keepL hb3 q1
      have hbw3 := hbw2.trans (hb3.mono hbw2.size)
      have hl3 := hl.go hbw3
      clear hof hb3 q0 q1 hbw2 hl2
      have hrr := refRight_any n l (.slice p l.length c) w3 hl3
      have hk' : (rightK n l != 0) = true := by simpa using hk
      generalize rightK n l = q at *
      go_wp2_with fail
      refine hrr.mono ?_
      rintro e w4 ⟨rfl, hg4⟩
      have hbw4 := hbw3.trans (hg4.below.mono hbw3.size)
      clear hrr hg4 r0 r1 hbw3 hl3
      go_wp2_with fail
      refine (alive_any w4).mono ?_
      rintro e w5 ⟨rfl, hb5⟩
      have HB : Hid _ := hbw4.trans (hb5.mono hbw4.size)
      clear hb5 hbw4
      go_wp2
      go_ret
      exact ⟨rfl, HB.out⟩
end Go.Proofs.Ytdgecflljgnobaa

namespace Go.Proofs.Ytdgecflljgnobaa.levelsOf
open Go Go.ChangeShapes Go.WideShapes Go.ChangeAt Go.RowKit

set_option maxRecDepth 100000 in
set_option maxHeartbeats 1000000 in
theorem lifted (os : Os) (started : os.Started) (H : Type) (enc : TypeId × Value → H) :
    ReturnsInHanded {} Try.checked os 3 .any (Rows.levelsOfSpec.pre6 enc Try.prog Try.f3 Rows.levelsOfRow.domain false) (Rows.levelsOfSpec.post enc Try.prog Try.f3 false true false false) := by
  refine returnsInHanded_of_change (C := Try.checked) own started (by kernel_rfl) Try.func3
    (ChangeSpec.witness6 (enc := enc) (C := Try.checked) false ⟨#[], #[.agg #[.int .i64 0, .slice none 0 0]], []⟩ 8 (by kernel_rfl) (by kernel_rfl) (by kernel_rfl) (by kernel_rfl)) ?_
  intro W base args ds gs before hval0 hW hcnd _
  have hval : ∀ (j : Nat) t v, Try.f3.params[j]? = some t → args[j]? = some v → Value.okWide Try.prog W .any base t v := hval0
  have hW' := hW
  obtain ⟨p, q, hA0, hV, rfl, hfz, hnd⟩ := hW
  have hA : DataW.TrodAll enc Try.prog W 0 (fun _ => true) true Try.f3.params.toList args.toList ds p := hA0
  rw [Try.params3] at hA hval
  obtain ⟨v0, vs0, d0, ds0, p0, q0, hargs, rfl, rfl, h0, r0⟩ := trodAll_cons hA
  obtain ⟨rfl, rfl, rfl⟩ := trodAll_nil r0
  obtain rfl : args = #[v0] := by cases args; simp_all
  obtain ⟨rfl, rfl⟩ := trodVars_none hV
  have k0 := h0
  have lt0 : ∀ x ∈ p0, x.block < W.heap.size := by obtain ⟨m, hm⟩ := k0; exact DataW.trod_lt m _ _ _ hm
  obtain ⟨n0, s0, l0, rfl, e0⟩ := graph_in (hval 0 24 v0 rfl rfl) h0
  clear hA0 hval0
  refine (of_law n0 l0 _ W e0).mono fun e W' ⟨he, bel⟩ => ?_
  subst he
  exact ⟨_, rfl, _, _, _, [], _, [], hW', trodAll_mk1 (shut_bool Try.underlying4 _), (trodAll_cons_mk (Below.trod laidOut (by kernel_rfl) (of_decide_eq_true (by kernel_rfl)) k0 bel lt0) trodAll_mk0), rfl, bel.frame _, fun h => by cases h⟩

end Go.Proofs.Ytdgecflljgnobaa.levelsOf

namespace Go.Proofs.Ytdgecflljgnobaa
open Go

theorem levelsOf_holds : Rows.LevelsOfSaid :=
  OpenClaim.holds_of_wide 3 Try.f3 rfl rfl rfl rfl rfl rfl rfl ⟨rfl, rfl, rfl, rfl, rfl⟩ rfl rfl rfl rfl rfl (by kernel_rfl) Try.func3 (by kernel_rfl)
    (of_decide_eq_true (by kernel_rfl)) (by unfold Func.isWrapper; first | (rw [if_pos (by decide +kernel)]; kernel_rfl) | (rw [if_neg (by decide +kernel)]; exact ⟨rfl, rfl⟩))
    (fun os started H enc _ => levelsOf.lifted os started H enc)

#print axioms levelsOf_holds
end Go.Proofs.Ytdgecflljgnobaa
