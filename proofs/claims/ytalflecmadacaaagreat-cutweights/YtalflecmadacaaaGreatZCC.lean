/-
  PROVED: filigreelaw15.CutWeights returns true for any arguments, and each argument reads afterwards as it read before. No condition.
-/
import Derived.Test.YtalflecmadacaaaGreatZAQ
import Derived.Test.YtalflecmadacaaaGreatZCB
import Derived.Test.YtalflecmadacaaaGreatZAB
set_option maxRecDepth 100000
set_option maxHeartbeats 8000000
namespace Go.Proofs.YtalflecmadacaaaGreat
open Go Go.Proofs Go.RowKit
theorem acrV_len (n : Int) (l : List Ed) (S : List Bool) : (acrV n l S).length ≤ l.length := by
 unfold acrV
 split
 ·exact trueK_len _ _
 ·simp
theorem weights_walk (n : Int) (l : List Ed) (S : List Bool) (sv bv : Value) (w : World) (hl : Edges w.heap.size w sv l) (hS : Bools w.heap.size w bv S) :
  Calls Tryz.prog 3 #[.agg #[.int .i64 n, sv], bv] w fun r w' => r = .returned (.bool true) ∧ Below w.heap.size w w' := by
 have hmix := mixed
 obtain ⟨p, c, rfl⟩ := hl.len
 obtain ⟨ps, cs, rfl⟩ := hS.len
 obtain ⟨w1, hw1⟩ : ∃ W, (w.alloc (.cells #[.int .i64 n, .slice p l.length c] 24)) = W := ⟨_, rfl⟩
 have hb1 : Below w.heap.size w w1 := by rw [← hw1]; exact (Below.refl _ _).alloc (Nat.le_refl _) _
 have hX1 : Blk 24 w1 w.heap.size [.int .i64 n, .slice p l.length c] := by rw [← hw1]; exact heap_alloc_new w _
 have x0 := hX1.cell (j := 0) rfl
 have x1 := hX1.cell (j := 1) rfl
 have HB1 : Hid (Below w.heap.size w w1) := hb1
 have HX1 : Hid (Blk 24 w1 w.heap.size [.int .i64 n, .slice p l.length c]) := hX1
 have HL : Hid (Edges w.heap.size w (.slice p l.length c) l) := hl
 have HS : Hid (Bools w.heap.size w (.slice ps S.length cs) S) := hS
 clear hb1 hX1 hl hS
 by_cases h1 : (500 : Int) < (l.length : Int)
 ·have hal := aliveC_any w1
  go_enter Tryz.func3, Tryz.ntmps3
  go_wp2_with fail
  refine hal.mono ?_
  rintro e w3 ⟨rfl, hb3⟩
  clear hal
  have HB3 : Hid (Below w.heap.size w w3) := HB1.out.trans (hb3.mono HB1.out.size)
  clear hb3
  go_wp2
  go_ret
  exact ⟨rfl, HB3.out⟩
 ·have h1d : decide ((500 : Int) < (l.length : Int)) = false := by simp; omega
  by_cases h2 : (10000 : Int) < (S.length : Int)
  ·have hal := aliveC_any w1
   go_enter Tryz.func3, Tryz.ntmps3
   go_wp2_with fail
   refine hal.mono ?_
   rintro e w3 ⟨rfl, hb3⟩
   clear hal
   have HB3 : Hid (Below w.heap.size w w3) := HB1.out.trans (hb3.mono HB1.out.size)
   clear hb3
   go_wp2
   go_ret
   exact ⟨rfl, HB3.out⟩
  ·have h2d : decide ((10000 : Int) < (S.length : Int)) = false := by simp; omega
   have hSl : S.length ≤ 4194304 := by omega
   have hvl := acrV_len n l S
   have hac := across_any n l S (.slice p l.length c) (.slice ps S.length cs) w1 (HL.out.go HB1.out) ((HS.out.below HB1.out).mono HB1.out.size)
   go_enter Tryz.func3, Tryz.ntmps3
   go_wp2_with fail
   refine hac.mono ?_
   rintro e w2 ⟨lv2, rfl, hA2, hb2⟩
   clear hac hw1 x0 x1
   have HB2 : Hid (Below w.heap.size w w2) := HB1.out.trans (hb2.mono HB1.out.size)
   have HX2 : Hid (Blk 24 w2 w.heap.size [.int .i64 n, .slice p l.length c]) := HX1.out.go hb2
   have HA2 : Hid (Ints w2.heap.size w2 lv2 (acrV n l S)) := hA2
   have x0 := HX2.out.cell (j := 0) rfl
   have x1 := HX2.out.cell (j := 1) rfl
   have hra := refAcross_any n l S (.slice p l.length c) (.slice ps S.length cs) w2 (HL.out.go HB2.out) ((HS.out.below HB2.out).mono HB2.out.size)
   clear hA2 hb2 HB1 HX1
   go_wp2_with fail
   refine hra.mono ?_
   rintro e w3 ⟨lv3, rfl, hA3, hb3⟩
   clear hra x0 x1
   have HB3 : Hid (Below w.heap.size w w3) := HB2.out.trans (hb3.mono HB2.out.size)
   have HX3 : Hid (Blk 24 w3 w.heap.size [.int .i64 n, .slice p l.length c]) := HX2.out.go hb3
   have HA3 : Hid (Ints w3.heap.size w3 lv3 (acrV n l S)) := hA3
   have HA2b : Hid (Ints w3.heap.size w3 lv2 (acrV n l S)) := (HA2.out.below hb3).mono hb3.size
   have x0 := HX3.out.cell (j := 0) rfl
   have x1 := HX3.out.cell (j := 1) rfl
   have hwe := weightC_any n l S (.slice p l.length c) (.slice ps S.length cs) w3 (HL.out.go HB3.out) ((HS.out.below HB3.out).mono HB3.out.size)
   clear hA3 hb3 HB2 HX2 HA2
   go_wp2_with fail
   refine hwe.mono ?_
   rintro e w4 ⟨rfl, hb4⟩
   clear hwe x0 x1
   have HB4 : Hid (Below w.heap.size w w4) := HB3.out.trans (hb4.mono HB3.out.size)
   have HX4 : Hid (Blk 24 w4 w.heap.size [.int .i64 n, .slice p l.length c]) := HX3.out.go hb4
   have HA4 : Hid (Ints w4.heap.size w4 lv3 (acrV n l S)) := (HA3.out.below hb4).mono hb4.size
   have HA4b : Hid (Ints w4.heap.size w4 lv2 (acrV n l S)) := (HA2b.out.below hb4).mono hb4.size
   have x0 := HX4.out.cell (j := 0) rfl
   have x1 := HX4.out.cell (j := 1) rfl
   have hrw := refWeightC_any n l S (.slice p l.length c) (.slice ps S.length cs) w4 (HL.out.go HB4.out) ((HS.out.below HB4.out).mono HB4.out.size)
   clear hb4 HB3 HX3 HA3 HA2b
   go_wp2_with fail
   refine hrw.mono ?_
   rintro e w5 ⟨rfl, hb5⟩
   clear hrw x0 x1
   have HB5 : Hid (Below w.heap.size w w5) := HB4.out.trans (hb5.mono HB4.out.size)
   have hri := refIntsW_any (acrV n l S) (acrV n l S) lv2 lv3 w5 ((HA4b.out.below hb5).mono hb5.size) ((HA4.out.below hb5).mono hb5.size) (by omega)
   rw [same_yes rfl] at hri
   obtain ⟨p2, c2, rfl⟩ := HA4b.out.len
   obtain ⟨p3, c3, rfl⟩ := HA4.out.len
   clear hb5 HB4 HX4 HA4 HA4b
   generalize acrK n l S = ka at *
   generalize wC n l S = wa at *
   generalize kC n l S = kb at *
   go_wp2_with fail
   refine hri.mono ?_
   rintro e w6 ⟨rfl, q, rfl⟩
   clear hri
   have HB6 : Hid (Below w.heap.size w (w5.drewN q)) := below_drewN HB5.out q
   generalize w5.drewN q = w6 at *
   have hal := aliveC_any w6
   go_wp2_with fail
   refine hal.mono ?_
   rintro e w7 ⟨rfl, hb7⟩
   clear hal
   have HB7 : Hid (Below w.heap.size w w7) := HB6.out.trans (hb7.mono HB6.out.size)
   clear hb7
   go_wp2
   go_ret
   exact ⟨rfl, HB7.out⟩
end Go.Proofs.YtalflecmadacaaaGreat
namespace Go.Proofs.YtalflecmadacaaaGreat.cutWeights
open Go Go.ChangeShapes Go.WideShapes Go.ChangeAt Go.RowKit
theorem lifted (os : Os) (started : os.Started) (H : Type) (enc : TypeId × Value → H) :
  ReturnsInHanded {} Tryz.checked os 3 .any (Rows.cutWeightsSpec.pre6 enc Tryz.prog Tryz.f3 Rows.cutWeightsRow.domain false) (Rows.cutWeightsSpec.post enc Tryz.prog Tryz.f3 false true false false) := by
 refine returnsInHanded_of_change (C := Tryz.checked) own started (by kernel_rfl) Tryz.func3
  (ChangeSpec.witness6 (enc := enc) (C := Tryz.checked) false ⟨#[], #[.agg #[.int .i64 0, .slice none 0 0], .slice none 0 0], []⟩ 8 (by kernel_rfl) (by kernel_rfl) (by kernel_rfl) (by kernel_rfl)) ?_
 intro W base args ds gs before hval0 hW hcnd _
 have hval : ∀ (j : Nat) t v, Tryz.f3.params[j]? = some t → args[j]? = some v → Value.okWide Tryz.prog W .any base t v := hval0
 have hW' := hW
 obtain ⟨p, q, hA0, hV, rfl, hfz, hnd⟩ := hW
 have hA : DataW.TrodAll enc Tryz.prog W 0 (fun _ => true) true Tryz.f3.params.toList args.toList ds p := hA0
 rw [Tryz.params3] at hA hval
 obtain ⟨v0, vs0, d0, ds0, p0, q0, hargs, rfl, rfl, h0, r0⟩ := trodAll_cons hA
 obtain ⟨v1, vs1, d1, ds1, p1, q1, rfl, rfl, rfl, h1, r1⟩ := trodAll_cons r0
 obtain ⟨rfl, rfl, rfl⟩ := trodAll_nil r1
 obtain rfl : args = #[v0, v1] := by cases args; simp_all
 obtain ⟨rfl, rfl⟩ := trodVars_none hV
 have k0 := h0
 have lt0 : ∀ x ∈ p0, x.block < W.heap.size := by obtain ⟨m, hm⟩ := k0; exact DataW.trod_lt m _ _ _ hm
 have k1 := h1
 have lt1 : ∀ x ∈ p1, x.block < W.heap.size := by obtain ⟨m, hm⟩ := k1; exact DataW.trod_lt m _ _ _ hm
 obtain ⟨n0, s0, l0, rfl, e0⟩ := graph_in (hval 0 24 v0 rfl rfl) h0
 obtain ⟨l1, e1⟩ := bools_in (hval 1 25 v1 rfl rfl) h1
 clear hA0 hval0
 refine (weights_walk n0 l0 l1 _ _ W e0 e1).mono fun e W' ⟨he, bel⟩ => ?_
 subst he
 exact ⟨_, rfl, _, _, _, [], _, [], hW', trodAll_mk1 (shut_bool Tryz.underlying4 _), (trodAll_cons_mk (Below.trod laidOut (by kernel_rfl) (of_decide_eq_true (by kernel_rfl)) k0 bel lt0) (trodAll_cons_mk (Below.trod laidOut (by kernel_rfl) (of_decide_eq_true (by kernel_rfl)) k1 bel lt1) trodAll_mk0)), rfl, bel.frame _, fun h => by cases h⟩
end Go.Proofs.YtalflecmadacaaaGreat.cutWeights
namespace Go.Proofs.YtalflecmadacaaaGreat
open Go
theorem cutWeights_holds : Rows.CutWeightsSaid :=
 OpenClaim.holds_of_wide 3 Tryz.f3 rfl rfl rfl rfl rfl rfl rfl ⟨rfl, rfl, rfl, rfl, rfl⟩ rfl rfl rfl rfl rfl (by kernel_rfl) Tryz.func3 (by kernel_rfl)
  (of_decide_eq_true (by kernel_rfl)) (by unfold Func.isWrapper; first | (rw [if_pos (by decide +kernel)]; kernel_rfl) | (rw [if_neg (by decide +kernel)]; exact ⟨rfl, rfl⟩))
  (fun os started H enc _ => cutWeights.lifted os started H enc)
#print axioms cutWeights_holds
end Go.Proofs.YtalflecmadacaaaGreat
