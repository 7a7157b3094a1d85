import Derived.Test.YtalflecmadacaaaGreatXCtAcr
import Derived.Deep.QuietTactic
import Derived.BigQuiet
import Derived.OwnWalk
import Derived.Deep.LoopGhost
import Derived.Test.YtalflecmadacaaaGreatZAN
import Derived.WalkMore
import Derived.Test.YtalflecmadacaaaGreatZAB
import Derived.Test.YtalflecmadacaaaGreatZAG
set_option maxRecDepth 100000
set_option maxHeartbeats 8000000
namespace Go.Proofs.YtalflecmadacaaaGreat
open Go Go.Proofs Go.RowKit
def wC (n : Int) (l : List Ed) (S : List Bool) : Int := if acrK n l S = 0 then wV l (acrV n l S) else 0
def kC (n : Int) (l : List Ed) (S : List Bool) : Int := if acrK n l S = 0 then wK l (acrV n l S) else 1
theorem weightC_any (n : Int) (l : List Ed) (S : List Bool) (sv bv : Value) (w : World) (hl : Edges w.heap.size w sv l) (hS : Bools w.heap.size w bv S) :
  Calls Tryz.prog 12 #[.agg #[.int .i64 n, sv], bv] w fun r w' => r = .returned (.tuple #[.int .i64 (wC n l S), .int .i64 (kC n l S)]) ∧ Below w.heap.size w w' := by
 have hmix := mixed
 obtain ⟨p, c, rfl⟩ := hl.len
 obtain ⟨ps, cs, rfl⟩ := hS.len
 obtain ⟨w1, hw1⟩ : ∃ W, (w.alloc (.cells #[.int .i64 n, .slice p l.length c] 24)) = W := ⟨_, rfl⟩
 have hb1 : Below w.heap.size w w1 := by rw [← hw1]; exact (Below.refl _ _).alloc (Nat.le_refl _) _
 have hX1 : Blk 24 w1 w.heap.size [.int .i64 n, .slice p l.length c] := by rw [← hw1]; exact heap_alloc_new w _
 have hac := across_any n l S (.slice p l.length c) (.slice ps S.length cs) w1 (hl.go hb1) ((hS.below hb1).mono hb1.size)
 have x0 := hX1.cell (j := 0) rfl
 have x1 := hX1.cell (j := 1) rfl
 have HX1 : Hid (Blk 24 w1 w.heap.size [.int .i64 n, .slice p l.length c]) := hX1
 have HB1 : Hid (Below w.heap.size w w1) := hb1
 have HL : Hid (Edges w.heap.size w (.slice p l.length c) l) := hl
 clear hX1 hb1 hl hS
 go_enter Tryz.func12, Tryz.ntmps12
 go_wp2_with fail
 refine hac.mono ?_
 rintro e w2 ⟨lv, rfl, hA, hb2⟩
 clear hac hw1 x0 x1
 have hX2 := HX1.out.go hb2
 have x0 := hX2.cell (j := 0) rfl
 have x1 := hX2.cell (j := 1) rfl
 have HB2 : Hid (Below w.heap.size w w2) := HB1.out.trans (hb2.mono HB1.out.size)
 obtain ⟨pa, ca, rfl⟩ := hA.len
 clear hX2 hb2 HX1 HB1
 by_cases hk : rightK n l = 0 ∧ (S.length : Int) = n
 ·have HE : Hid (acrK n l S = 0) := (acr_yes hk.1 hk.2).1
  have hR := right_iff.1 hk.1
  have hm1 := hR.m1
  have HW : Hid (wC n l S = wV l (acrV n l S) ∧ kC n l S = wK l (acrV n l S)) := by
   show _ ∧ _
   unfold wC kC
   rw [HE.out, if_pos rfl, if_pos rfl]
   exact ⟨rfl, rfl⟩
  have hal : (acrV n l S).length ≤ 4194304 := by
   rw [(acr_yes hk.1 hk.2).2]
   have := trueK_len (acrT l S) l.length
   omega
  have hwe : ∀ W, Below w.heap.size w W → Ints W.heap.size W (.slice pa (acrV n l S).length ca) (acrV n l S) → Calls Tryz.prog 27 #[.agg #[.int .i64 n, .slice p l.length c], .slice pa (acrV n l S).length ca] W fun r w' => r = .returned (.tuple #[.int .i64 (wV l (acrV n l S)), .int .i64 (wK l (acrV n l S))]) ∧ Below W.heap.size W w' := fun W hW hA => by
   have h := weight_any n l (acrV n l S) (by omega) (.slice p l.length c) _ W (HL.out.go hW) hA
   have e1 : wgtV n l (acrV n l S) = wV l (acrV n l S) := if_pos hk.1
   have e2 : wgtK n l (acrV n l S) = wK l (acrV n l S) := if_pos hk.1
   rw [e1, e2] at h
   exact h
  have hw2 := hwe w2 HB2.out hA
  rw [HE.out]
  clear hwe hA hk hR hm1 hal HE
  generalize wV l (acrV n l S) = rv at *
  generalize wK l (acrV n l S) = rk at *
  go_wp2_with fail
  refine hw2.mono ?_
  rintro e w3 ⟨rfl, hb3⟩
  clear hw2
  have HB3 : Hid (Below w.heap.size w w3) := HB2.out.trans (hb3.mono HB2.out.size)
  clear hb3
  go_wp2
  refine bodyPost_ret (results_tmp2 rfl _ _ _) rfl ?_
  exact ⟨by rw [HW.out.1, HW.out.2]; rfl, HB3.out⟩
 ·have HE : Hid (acrK n l S = 1) := (acr_no hk).1
  have HW : Hid (wC n l S = 0 ∧ kC n l S = 1) := by
   show _ ∧ _
   unfold wC kC
   rw [HE.out, if_neg (by omega), if_neg (by omega)]
   exact ⟨rfl, rfl⟩
  rw [HE.out]
  clear hA hk HE
  go_wp2
  refine bodyPost_ret (results_tmp2 rfl _ _ _) rfl ?_
  exact ⟨by rw [HW.out.1, HW.out.2]; rfl, HB2.out⟩
theorem refWeightC_any (n : Int) (l : List Ed) (S : List Bool) (sv bv : Value) (w : World) (hl : Edges w.heap.size w sv l) (hS : Bools w.heap.size w bv S) :
  Calls Tryz.prog 13 #[.agg #[.int .i64 n, sv], bv] w fun r w' => r = .returned (.tuple #[.int .i64 (wC n l S), .int .i64 (kC n l S)]) ∧ Below w.heap.size w w' := by
 have hmix := mixed
 obtain ⟨p, c, rfl⟩ := hl.len
 obtain ⟨ps, cs, rfl⟩ := hS.len
 obtain ⟨w1, hw1⟩ : ∃ W, (w.alloc (.cells #[.int .i64 n, .slice p l.length c] 24)) = W := ⟨_, rfl⟩
 have hb1 : Below w.heap.size w w1 := by rw [← hw1]; exact (Below.refl _ _).alloc (Nat.le_refl _) _
 have hX1 : Blk 24 w1 w.heap.size [.int .i64 n, .slice p l.length c] := by rw [← hw1]; exact heap_alloc_new w _
 have hac := refAcross_any n l S (.slice p l.length c) (.slice ps S.length cs) w1 (hl.go hb1) ((hS.below hb1).mono hb1.size)
 have x0 := hX1.cell (j := 0) rfl
 have x1 := hX1.cell (j := 1) rfl
 have HX1 : Hid (Blk 24 w1 w.heap.size [.int .i64 n, .slice p l.length c]) := hX1
 have HB1 : Hid (Below w.heap.size w w1) := hb1
 have HL : Hid (Edges w.heap.size w (.slice p l.length c) l) := hl
 clear hX1 hb1 hl hS
 go_enter Tryz.func13, Tryz.ntmps13
 go_wp2_with fail
 refine hac.mono ?_
 rintro e w2 ⟨lv, rfl, hA, hb2⟩
 clear hac hw1 x0 x1
 have hX2 := HX1.out.go hb2
 have x0 := hX2.cell (j := 0) rfl
 have x1 := hX2.cell (j := 1) rfl
 have HB2 : Hid (Below w.heap.size w w2) := HB1.out.trans (hb2.mono HB1.out.size)
 obtain ⟨pa, ca, rfl⟩ := hA.len
 clear hX2 hb2 HX1 HB1
 by_cases hk : rightK n l = 0 ∧ (S.length : Int) = n
 ·have HE : Hid (acrK n l S = 0) := (acr_yes hk.1 hk.2).1
  have hR := right_iff.1 hk.1
  have hm1 := hR.m1
  have HW : Hid (wC n l S = wV l (acrV n l S) ∧ kC n l S = wK l (acrV n l S)) := by
   show _ ∧ _
   unfold wC kC
   rw [HE.out, if_pos rfl, if_pos rfl]
   exact ⟨rfl, rfl⟩
  have hal : (acrV n l S).length ≤ 4194304 := by
   rw [(acr_yes hk.1 hk.2).2]
   have := trueK_len (acrT l S) l.length
   omega
  have hwe : ∀ W, Below w.heap.size w W → Ints W.heap.size W (.slice pa (acrV n l S).length ca) (acrV n l S) → Calls Tryz.prog 28 #[.agg #[.int .i64 n, .slice p l.length c], .slice pa (acrV n l S).length ca] W fun r w' => r = .returned (.tuple #[.int .i64 (wV l (acrV n l S)), .int .i64 (wK l (acrV n l S))]) ∧ Below W.heap.size W w' := fun W hW hA => by
   have h := refWeight_any n l hR (acrV n l S) (by omega) (.slice p l.length c) _ W (HL.out.go hW) hA
   exact h.mono fun e w' ⟨a, b⟩ => ⟨a, b.below⟩
  have hw2 := hwe w2 HB2.out hA
  rw [HE.out]
  clear hwe hA hk hR hm1 hal HE
  generalize wV l (acrV n l S) = rv at *
  generalize wK l (acrV n l S) = rk at *
  go_wp2_with fail
  refine hw2.mono ?_
  rintro e w3 ⟨rfl, hb3⟩
  clear hw2
  have HB3 : Hid (Below w.heap.size w w3) := HB2.out.trans (hb3.mono HB2.out.size)
  clear hb3
  go_wp2
  refine bodyPost_ret (results_tmp2 rfl _ _ _) rfl ?_
  exact ⟨by rw [HW.out.1, HW.out.2]; rfl, HB3.out⟩
 ·have HE : Hid (acrK n l S = 1) := (acr_no hk).1
  have HW : Hid (wC n l S = 0 ∧ kC n l S = 1) := by
   show _ ∧ _
   unfold wC kC
   rw [HE.out, if_neg (by omega), if_neg (by omega)]
   exact ⟨rfl, rfl⟩
  rw [HE.out]
  clear hA hk HE
  go_wp2
  refine bodyPost_ret (results_tmp2 rfl _ _ _) rfl ?_
  exact ⟨by rw [HW.out.1, HW.out.2]; rfl, HB2.out⟩
theorem spread_any (N : Nat) (l : List Ed) (hR : RightG (N : Int) l) (f : Nat) (caps : Array Value) (hent : ∀ (args : Array Value) (W : World), (callFunc f args).run Tryz.prog W = .ok (.enter f args) W) (sv : Value) (w : World) (hl : Edges w.heap.size w sv l) (hf : ∀ i : Nat, i < l.length → ∀ W, Below w.heap.size w W → Calls Tryz.prog f (#[.int .i64 (i : Int)] ++ caps) W fun e w' => ∃ b, e = .returned (.bool b) ∧ Below W.heap.size W w') :
  Calls Tryz.prog 35 #[.agg #[.int .i64 (N : Int), sv], .func (.func f) #[] caps] w fun r w' => ∃ (g : Nat) (SD : List Bool), r = .returned (.slice (some ⟨g, 0, none⟩) N N) ∧ w.heap.size ≤ g ∧ Blk 4 w' g (SD.map Value.bool) ∧ SD.length = N ∧ bAt SD 0 = false ∧ Below w.heap.size w w' := by
 have hmix := mixed
 obtain ⟨p, c, rfl⟩ := hl.len
 have hN := hR.n1
 have hM := hR.m1
 have HR : Hid (RightG (N : Int) l) := hR
 have HF : Hid _ := hf
 have HL : Hid (Edges w.heap.size w (.slice p l.length c) l) := hl
 obtain ⟨w1, hw1⟩ : ∃ W, (w.alloc (.cells #[.int .i64 (N : Int), .slice p l.length c] 24)) = W := ⟨_, rfl⟩
 have hb1 : Below w.heap.size w w1 := by rw [← hw1]; exact (Below.refl _ _).alloc (Nat.le_refl _) _
 have hX1 : Blk 24 w1 w.heap.size [.int .i64 (N : Int), .slice p l.length c] := by rw [← hw1]; exact heap_alloc_new w _
 have hpl := placesAt_any N l hR (.slice p l.length c) w1 (hl.go hb1)
 have x0 := hX1.cell (j := 0) rfl
 have x1 := hX1.cell (j := 1) rfl
 have HX1 : Hid (Blk 24 w1 w.heap.size [.int .i64 (N : Int), .slice p l.length c]) := hX1
 have HB1 : Hid (Below w.heap.size w w1) := hb1
 have hlx1 := hX1.lt
 clear hf hl hb1 hX1 hR
 go_enter Tryz.func35, Tryz.ntmps35
 go_wp2_with fail
 refine hpl.mono ?_
 rintro e w2 ⟨lb, sb, rfl, hlb, hsb, hls, hP2, hb2⟩
 clear hpl x0 x1 hw1
 have hX2 := HX1.out.go hb2
 have x0 := hX2.cell (j := 0) rfl
 have HX2 : Hid (Blk 24 w2 w.heap.size [.int .i64 (N : Int), .slice p l.length c]) := hX2
 have HB2 : Hid (Below w.heap.size w w2) := HB1.out.trans (hb2.mono HB1.out.size)
 have HP2 : Hid (PlsI N lb sb (2 * l.length) (offR l (2 * l.length)) (fun v => (nb l (v : Int)).length) (fun v => plOf (v : Int) l) w2) := hP2
 have hlb2 := hP2.row.lt
 have hsb2 : sb < w2.heap.size := by obtain ⟨cs, h, _⟩ := hP2.cur; exact h.lt
 clear hX2 hb2 hP2 HX1 HB1
 obtain ⟨i0, hi, hz0, hz1, hz2⟩ := info_parts infoBT
 have hmk : True := trivial
 go_wp2_with (first | (at_make; clear hmk; refine wpList_make_full _ rfl _ _ 25 rfl 0 4 i0 (.bool false) 1 Tryz.underlying25 hi hz0 hz1 .i64 .i64 _ _ N rfl rfl rfl rfl (by rw [hz2]; omega) (by unfold maxLen; omega) (Nat.zero_le _) ?_; intro w3 hown hgrow; have hb3 : Below w2.heap.size w2 w3 := (Below.refl _ _).grown hgrow (Nat.le_refl _) (fun k e => by cases e); have hrow := Blk.made hown; rw [bools_madeT] at hrow; have HS3 : Hid (Blk 4 w3 w2.heap.size ((List.replicate N false).map Value.bool)) := hrow; have HX3 : Hid (Blk 24 w3 w.heap.size [.int .i64 (N : Int), .slice p l.length c]) := HX2.out.go hb3; have HB3 : Hid (Below w2.heap.size w2 w3) := hb3; have hs3 := hrow.lt; clear hown hgrow hrow hb3 x0; have x0 := HX3.out.cell (j := 0) rfl) | (at_make; refine wpList_make_full _ rfl _ _ 25 rfl 0 4 i0 (.bool false) 1 Tryz.underlying25 hi hz0 hz1 .i64 .i64 _ _ N rfl rfl rfl rfl (by rw [hz2]; omega) (by unfold maxLen; omega) (Nat.zero_le _) ?_; intro w4 hown hgrow; have hb4 : Below w3.heap.size w3 w4 := (Below.refl _ _).grown hgrow (Nat.le_refl _) (fun k e => by cases e); have hrow := Blk.made hown; rw [bools_madeT] at hrow; have HM4 : Hid (Blk 4 w4 w3.heap.size ((List.replicate N false).map Value.bool)) := hrow; have HS4 : Hid (Blk 4 w4 w2.heap.size ((List.replicate N false).map Value.bool)) := HS3.out.go hb4; have HX4 : Hid (Blk 24 w4 w.heap.size [.int .i64 (N : Int), .slice p l.length c]) := HX3.out.go hb4; have HB4 : Hid (Below w2.heap.size w2 w4) := HB3.out.trans (hb4.mono HB3.out.size); have hs4 := hrow.lt; clear hown hgrow hrow hb4 x0; have x0 := HX4.out.cell (j := 0) rfl))
 have HS : Hid (SpS N w.heap.size lb sb (2 * l.length) w2.heap.size w3.heap.size w4.heap.size (offR l (2 * l.length)) (fun v => (nb l (v : Int)).length) (fun v => plOf (v : Int) l) [.int .i64 (N : Int), .slice p l.length c] w (List.replicate N false) (List.replicate N false) w4) :=
  ⟨HX4.out, HP2.out.go HB4.out, HS4.out, HM4.out, List.length_replicate, List.length_replicate, HB2.out.trans (HB4.out.mono HB2.out.size), by omega⟩
 have hz4 : w2.heap.size < w4.heap.size := by omega
 clear HX2 HP2 HB2 HS3 HX3 HB3 HM4 HS4 HX4 HB4 hi hz0 hz1 hz2 hlb hsb hls hlb2 hsb2 hlx1
 obtain ⟨x, hx⟩ : ∃ n, w.heap.size = n := ⟨_, rfl⟩
 obtain ⟨sx, hsx⟩ : ∃ n, w2.heap.size = n := ⟨_, rfl⟩
 obtain ⟨mx, hmx⟩ : ∃ n, w3.heap.size = n := ⟨_, rfl⟩
 obtain ⟨z, hz⟩ : ∃ n, w4.heap.size = n := ⟨_, rfl⟩
 have HZ : Hid (w4.heap.size = z) := hz
 have HXX : Hid (w.heap.size = x) := hx
 rw [hx, hsx, hmx, hz] at HS
 rw [hx] at x0
 rw [hsx, hmx] at *
 rw [hx] at HF ⊢
 clear hx hsx hmx hz hs3 hs4 hz4 x0
 go_loopw [24] (fun i wr => ∃ (j : Nat) (SD MT : List Bool), j ≤ N ∧ i = .int .i64 (j : Int) ∧ z ≤ wr.heap.size ∧ Hid (SpS N x lb sb (2 * l.length) sx mx z (offR l (2 * l.length)) (fun v => (nb l (v : Int)).length) (fun v => plOf (v : Int) l) [.int .i64 (N : Int), .slice p l.length c] w SD MT wr) ∧ Hid (bAt SD 0 = false ∧ (1 ≤ j → bAt MT 0 = true))) (fun i _ => N - (intOf i).toNat)
 case atStart => exact ⟨0, _, _, Nat.zero_le _, rfl, by rw [HZ.out]; exact Nat.le_refl _, HS, (by unfold bAt; rw [List.getD_eq_getElem?_getD, List.getElem?_replicate]; split <;> rfl), fun h => absurd h (by omega)⟩
 case round =>
  clear HS
  obtain ⟨j, SD, MT, hj, rfl, hzw, HS, HI⟩ := hrel
  by_cases hlt : j < N
  ·have hjl : (j : Int) < (N : Int) := by omega
   have hml := HS.out.ml
   have m0 := HS.out.mt.bcell (v := j) (by omega)
   have mf := HS.out.mt.frozen j
   have HLT : Hid (j < N) := hlt
   cases hm : bAt MT j with
   | true =>
    rw [hm] at m0
    have HI2 : Hid (bAt SD 0 = false ∧ (1 ≤ j + 1 → bAt MT 0 = true)) := ⟨HI.out.1, fun _ => by
     rcases Nat.eq_zero_or_pos j with h | h
     ·rw [← h]; exact hm
     ·exact HI.out.2 h⟩
    clear hm hlt hml
    go_wp2
    exact ⟨⟨j + 1, SD, MT, HLT.out, by go_num, hzw, HS, HI2⟩, by have := HLT.out; simp [intOf]; omega⟩
   | false =>
    rw [hm] at m0
    have hget : MT[j]? = some false := by rw [bAt_get? (by omega), hm]
    have hun := unm_set hget
    have hul := unm_le MT
    have HSM : Hid _ := HS.out.setM j true
    have HI2 : Hid (bAt SD 0 = false ∧ bAt (MT.set j true) 0 = true) := ⟨HI.out.1, by
     rcases Nat.eq_zero_or_pos j with h | h
     ·subst h
      unfold bAt
      rw [List.getD_eq_getElem?_getD, List.getElem?_set_self (by omega)]
      rfl
     ·exact bAt_keep (HI.out.2 h)⟩
    have HU : Hid (unm (MT.set j true) + 1 ≤ N) := by show _ ≤ N; omega
    clear hm hlt hml hget hun hul HS HI
    generalize MT.set j true = MT1 at *
    go_wp2
    have hb6 : Below z (wr.setCell ⟨mx, j, none⟩ (.bool true)) ((wr.setCell ⟨mx, j, none⟩ (.bool true)).alloc (.cells #[.int .i64 (j : Int)] 3)) := (Below.refl _ _).alloc (by simpa using hzw) _
    have HS6 : Hid _ := HSM.out.hi hb6
    have HO6 : Hid (((wr.setCell ⟨mx, j, none⟩ (.bool true)).alloc (.cells #[.int .i64 (j : Int)] 3)).ownsRow z 3 1 (.slice (some ⟨wr.heap.size, 0, none⟩) 1 1) [j].length (natsV [j])) := by
     have h1 := owns_one (A := wr.setCell ⟨mx, j, none⟩ (.bool true)) (t := 3) (v := .int .i64 (j : Int)) (h := z) (by simpa using hzw)
     have h2 : (wr.setCell ⟨mx, j, none⟩ (.bool true)).heap.size = wr.heap.size := by simp
     rw [h2] at h1
     exact h1
    have hz6 : z ≤ ((wr.setCell ⟨mx, j, none⟩ (.bool true)).alloc (.cells #[.int .i64 (j : Int)] 3)).heap.size := by simp; omega
    clear hb6 HSM
    obtain ⟨w6, hw6⟩ : ∃ W, ((wr.setCell ⟨mx, j, none⟩ (.bool true)).alloc (.cells #[.int .i64 (j : Int)] 3)) = W := ⟨_, rfl⟩
    rw [hw6] at HS6 HO6 hz6 ⊢
    clear hw6
    obtain ⟨kk, hkk⟩ : ∃ kk, wr.heap.size = kk := ⟨_, rfl⟩
    rw [hkk] at HO6 ⊢
    clear hkk m0 mf
    go_loopg [9] (2 * unm MT1 + 1) (fun k sv wq => ∃ (SD2 MT2 : List Bool) (ST : List Nat), 2 * unm MT2 + ST.length ≤ k ∧ z ≤ wq.heap.size ∧ Hid (SpS N x lb sb (2 * l.length) sx mx z (offR l (2 * l.length)) (fun v => (nb l (v : Int)).length) (fun v => plOf (v : Int) l) [.int .i64 (N : Int), .slice p l.length c] w SD2 MT2 wq) ∧ Hid (wq.ownsRow z 3 1 sv ST.length (natsV ST)) ∧ Hid ((∀ v ∈ ST, v < N) ∧ bAt SD2 0 = false ∧ bAt MT2 0 = true ∧ unm MT2 + ST.length ≤ N))
    case atStart => exact ⟨SD, MT1, [j], by simp, hz6, HS6, HO6, fun v hv => by rw [List.mem_singleton.1 hv]; exact HLT.out, HI2.out.1, HI2.out.2, HU.out⟩
    case round =>
     clear HS6 HO6 hz6 HI2 HU hzw
     obtain ⟨SD2, MT2, ST, hk, hzw, HS, HO, HI⟩ := hrel
     by_cases h0 : ST = []
     ·subst h0
      obtain ⟨pa, ca, rfl⟩ := owns_formP HO.out
      clear hk
      have HI3 : Hid (bAt SD2 0 = false ∧ (1 ≤ j + 1 → bAt MT2 0 = true)) := ⟨HI.out.2.1, fun _ => HI.out.2.2.1⟩
      go_wp2
      exact ⟨⟨j + 1, SD2, MT2, HLT.out, by go_num, hzw, HS, HI3⟩, by have := HLT.out; simp [intOf]; omega⟩
     ·obtain ⟨S0, v, rfl⟩ : ∃ S0 v, ST = S0 ++ [v] := ⟨ST.dropLast, ST.getLast h0, (List.dropLast_concat_getLast h0).symm⟩
      have hlen : (S0 ++ [v]).length = S0.length + 1 := by simp
      obtain ⟨g, cap, hsv, hgz, hcap, hgl, hgc⟩ := row_nats HO.out (by omega)
      subst hsv
      have c0 := hgc S0.length v (by simp)
      have hvN : v < N := HI.out.1 v (by simp)
      have hN4 := HI.out.2.2.2
      have HO2 : Hid (wr.ownsRow z 3 1 (.slice (some ⟨g, 0, none⟩) S0.length cap) S0.length (natsV S0)) := by
       have h1 := owns_shrink HO.out (m := S0.length) (by omega)
       have h2 : (natsV (S0 ++ [v])).take (S0.length * 1) = natsV S0 := by simp [natsV]
       rw [h2] at h1
       exact h1
      have HI3 : Hid ((∀ u ∈ S0, u < N) ∧ bAt SD2 0 = false ∧ bAt MT2 0 = true ∧ unm MT2 + S0.length + 1 ≤ N) := ⟨fun u hu => HI.out.1 u (by simp [hu]), HI.out.2.1, HI.out.2.2.1, by omega⟩
      have o1 := HS.out.pl.row.cell (rowsP_at hvN)
      rw [hlen] at hk hcap ⊢
      have hvl : (v : Int) < (N : Int) := by omega
      have hcap1 : (S0.length : Int) ≤ (cap : Int) := by omega
      have hS9 : (S0.length : Int) ≤ 1048576 := by omega
      have HK : Hid (2 * unm MT2 + (S0.length + 1) ≤ gk) := hk
      have HV : Hid (v < N) := hvN
      clear hgc h0 HO HI hlen hk hN4
      have hpl4 := plOf_len (v : Int) l
      have hnbl := nb_len (v : Int) l
      obtain ⟨n0, hn0⟩ : ∃ n0, S0.length = n0 := ⟨_, rfl⟩
      have HN0 : Hid (S0.length = n0) := hn0
      rw [hn0] at c0 hcap1 hS9 ⊢
      obtain ⟨P, hP⟩ : ∃ P, plOf (v : Int) l = P := ⟨_, rfl⟩
      have HP : Hid (plOf (v : Int) l = P) := hP
      rw [hP] at o1 hpl4
      rw [← hpl4] at hnbl o1
      clear hn0 hP hpl4
      go_wp2
      go_loopw [9, 55] (fun sv iv wq => ∃ (q : Nat) (SD3 MT3 : List Bool) (ST : List Nat), q ≤ P.length ∧ iv = .int .i64 (q : Int) ∧ Hid (2 * unm MT3 + ST.length + 1 ≤ gk) ∧ z ≤ wq.heap.size ∧ Hid (SpS N x lb sb (2 * l.length) sx mx z (offR l (2 * l.length)) (fun v => (nb l (v : Int)).length) (fun v => plOf (v : Int) l) [.int .i64 (N : Int), .slice p l.length c] w SD3 MT3 wq) ∧ Hid (wq.ownsRow z 3 1 sv ST.length (natsV ST)) ∧ Hid ((∀ u ∈ ST, u < N) ∧ bAt SD3 0 = false ∧ bAt MT3 0 = true ∧ unm MT3 + ST.length ≤ N)) (fun _ iv _ => P.length - (intOf iv).toNat)
      case atStart =>
       refine ⟨0, SD2, MT2, S0, Nat.zero_le _, rfl, HK, hzw, HS, ?_, HI3.out.1, HI3.out.2.1, HI3.out.2.2.1, by have := HI3.out.2.2.2; omega⟩
       have h := HO2.out
       rw [HN0.out] at h
       unfold Hid
       rw [HN0.out]
       exact h
      case round =>
       clear HS HO2 HI3 hzw c0 o1 HK
       obtain ⟨q, SD3, MT3, ST, hq, rfl, HK3, hzw, HS, HO, HI3⟩ := hrel
       obtain ⟨pa, ca, rfl⟩ := owns_formP HO.out
       by_cases hlt : q < P.length
       ·have hql : (q : Int) < (P.length : Int) := by omega
        have hPm : P[q] ∈ plOf (v : Int) l := by rw [HP.out]; exact List.getElem_mem hlt
        obtain ⟨i, hi1, hil, hiv⟩ := plOf_mem hPm
        have c0 := HS.out.pl.at HV.out (j := q) (x := P[q]) (by show (plOf (v : Int) l)[q]? = _; rw [HP.out]; exact List.getElem?_eq_getElem hlt)
        rw [hi1] at c0
        obtain ⟨b, off, rfl, hbb, hcap, hc, -⟩ := HL.out.open hil
        obtain ⟨e0, e1, e2⟩ := hc _ (by rw [HXX.out]; exact HS.out.bel) i hil
        have hok := (HR.out.each l[i] (List.getElem_mem hil)).1
        unfold okE at hok
        obtain ⟨U, hU⟩ : ∃ U : Nat, l[i].1 = (U : Int) := ⟨l[i].1.toNat, by omega⟩
        obtain ⟨V, hV⟩ : ∃ V : Nat, l[i].2.1 = (V : Int) := ⟨l[i].2.1.toNat, by omega⟩
        rw [hU] at e0
        rw [hV] at e1
        obtain ⟨u, huN, hus⟩ : ∃ u : Nat, u < N ∧ (U : Int) + (V : Int) - (v : Int) = (u : Int) := by
         rcases hiv with h | h
         ·exact ⟨V, by omega, by omega⟩
         ·exact ⟨U, by omega, by omega⟩
        have hw1 : IntKind.i64.wrap ((U : Int) + (V : Int)) = (U : Int) + (V : Int) := wrap_i _ (by omega) (by omega)
        have hw2 : IntKind.i64.wrap ((U : Int) + (V : Int) - (v : Int)) = (u : Int) := by rw [hus]; exact wrap_i _ (by omega) (by omega)
        have x1 := HS.out.gr.cell (j := 1) rfl
        have hil2 : (i : Int) < (l.length : Int) := by omega
        have huN2 : (u : Int) < (N : Int) := by omega
        have HLT : Hid (q < P.length) := hlt
        have HIL : Hid (i < l.length) := hil
        have HUL : Hid (u < N) := huN
        clear hlt hPm hi1 hiv hc hbb hcap hok hU hV e2 hus
        go_wp2
        go_quiet (fail)
        have hbq : Below wr.heap.size wr (wr.drewN nq) := below_drewN (Below.refl _ _) nq
        have HS5 : Hid (SpS N x lb sb (2 * l.length) sx mx z (offR l (2 * l.length)) (fun v => (nb l (v : Int)).length) (fun v => plOf (v : Int) l) [.int .i64 (N : Int), .slice (some ⟨b, off, none⟩) l.length c] w SD3 MT3 (wr.drewN nq)) := HS.out.hi (hbq.mono hzw)
        have HO5 : Hid ((wr.drewN nq).ownsRow z 3 1 (.slice pa ST.length ca) ST.length (natsV ST)) := owns_goC HO.out hbq
        have hz5 : z ≤ (wr.drewN nq).heap.size := hzw
        clear HS HO hbq c0 e0 e1 x1 hw1 hw2
        obtain ⟨w5, hw5⟩ : ∃ W, wr.drewN nq = W := ⟨_, rfl⟩
        rw [hw5] at HS5 HO5 hz5 ⊢
        clear hw5 hzw
        have hml := HS5.out.ml
        have hsl := HS5.out.sl
        have ho5 := HS5.out.o
        have m0 := HS5.out.mt.bcell (v := u) (by omega)
        have mf := HS5.out.mt.frozen u
        cases hm : bAt MT3 u with
        | true =>
         rw [hm] at m0
         clear hm hml hsl ho5
         go_wp2
         exact ⟨⟨q + 1, SD3, MT3, ST, HLT.out, by go_num, HK3, hz5, HS5, HO5, HI3⟩, by have := HLT.out; simp [intOf]; omega⟩
        | false =>
         rw [hm] at m0
         have hget : MT3[u]? = some false := by rw [bAt_get? (by omega), hm]
         have HUN : Hid (unm (MT3.set u true) + 1 = unm MT3) := unm_set hget
         have hu0 : u ≠ 0 := fun e => by have h1 := HI3.out.2.2.1; rw [e] at hm; rw [hm] at h1; cases h1
         have HS6 := HS5.out.setM u true
         have HO6 := owns_lowset HO5.out (p := ⟨mx, u, none⟩) ho5.2.2.2.2.2 (.bool true)
         have s0 := HS6.sd.bcell (v := v) (by rw [hsl]; exact HV.out)
         have s1 := HS6.sd.bcell (v := u) (by rw [hsl]; exact HUL.out)
         have sf := HS6.sd.frozen u
         have HS7 := HS6.setS u (bAt SD3 v)
         have HO7 := owns_lowset HO6 (p := ⟨sx, u, none⟩) (by show sx < z; omega) (.bool (bAt SD3 v))
         have hSD7 : bAt (SD3.set u (bAt SD3 v)) 0 = false := by rw [bAt_setS hu0]; exact HI3.out.2.1
         have hcl := HF.out i HIL.out _ HS7.bel
         have HS7h : Hid _ := HS7
         have HO7h : Hid _ := HO7
         have HSD7 : Hid (bAt (SD3.set u (bAt SD3 v)) 0 = false) := hSD7
         have HU0 : Hid (u ≠ 0) := hu0
         have hz7 : z ≤ ((w5.setCell ⟨mx, u, none⟩ (.bool true)).setCell ⟨sx, u, none⟩ (.bool (bAt SD3 v))).heap.size := by simpa using hz5
         have hN40 := HI3.out.2.2.2
         have hvl := HV.out
         clear hm hml hsl ho5 hget hu0 HS6 HO6 HS7 HO7 hSD7 HS5 HO5 hz5
         generalize SD3.set u (bAt SD3 v) = SD7 at *
         generalize bAt SD3 v = bv at *
         go_wp2_with fail
         refine hcl.mono ?_
         rintro e w7 ⟨bb, rfl, hb7⟩
         clear hcl
         have HS8 : Hid _ := HS7h.out.hi (hb7.mono hz7)
         have HO8 : Hid (w7.ownsRow z 3 1 (.slice pa ST.length ca) ST.length (natsV ST)) := owns_goC HO7h.out hb7
         have hz8 : z ≤ w7.heap.size := Nat.le_trans hz7 hb7.size
         clear HS7h HO7h hb7 hz7 m0 mf s0 s1 sf
         cases bb with
         | true =>
          obtain ⟨i2, hi, hz0, hz1, hz2⟩ := info_parts infoPi
          have hbA : Below w7.heap.size w7 (w7.alloc (.cells #[.int .i64 (u : Int)] 3)) := (Below.refl _ _).alloc (Nat.le_refl _) _
          have hOA := World.ownsRow.alloc HO8.out (.cells #[.int .i64 (u : Int)] 3)
          have hnews := one_cellC w7 (.int .i64 (u : Int)) 3
          have hone : ∀ y ∈ [Value.int .i64 (u : Int)], y.oneCell' = true := fun y hy => by rw [List.mem_singleton.1 hy]; rfl
          have hmx : ST.length + 1 ≤ maxLen := by unfold maxLen; omega
          have hby : (ST.length + 1) * 8 ≤ 140737488355328 := by omega
          have hbs : z ≤ (w7.alloc (.cells #[.int .i64 (u : Int)] 3)).heap.size := Nat.le_trans hz8 hbA.size
          have hlow : ∀ q, (Value.slice pa ST.length ca).ownBlock = some q → z ≤ q := fun q hq => (HO8.out.lt q hq).1
          go_wp2_with (at_builtin; refine wpList_append_own_at _ rfl _ _ 27 rfl z 3 i2 (.int .i64 0) 1 8 Tryz.underlying27 hi hz0 hz1 hz2 rfl (by decide) (.slice pa ST.length ca) _ _ rfl hOA ⟨w7.heap.size, 0, none⟩ 1 1 [.int .i64 (u : Int)] rfl rfl hnews hone hmx hby hbs ?_)
          intro v9 w9 hown9 hg9 hnil9 hat9
          obtain ⟨a9, c9, rfl⟩ := owns_formP hown9
          have hb9 : Below z w7 w9 := (hbA.mono hz8).grown hg9 hbs (fun q hq => hlow q hq)
          have HS9 : Hid _ := HS8.out.hi hb9
          have HO9 : Hid (w9.ownsRow z 3 1 (.slice a9 (ST.length + 1) c9) (ST ++ [u]).length (natsV (ST ++ [u]))) := by
           have e1 : natsV (ST ++ [u]) = natsV ST ++ [.int .i64 (u : Int)] := by simp [natsV]
           have e2 : (ST ++ [u]).length = ST.length + 1 := by simp
           show World.ownsRow _ _ _ _ _ _ _
           rw [e1, e2]
           exact hown9
          have hz9 : z ≤ w9.heap.size := Nat.le_trans hz8 hb9.size
          clear hbA hOA hnews hone hmx hby hbs hlow hown9 hg9 hnil9 hat9 hb9 hi hz0 hz1 hz2 HS8 HO8
          go_wp2
          exact ⟨⟨q + 1, _, MT3.set u true, ST ++ [u], HLT.out, by go_num, by show _ ≤ _; have := HUN.out; have := HK3.out; simp; omega, hz9, HS9, HO9, fun y hy => by
           rcases List.mem_append.1 hy with h | h
           ·exact HI3.out.1 y h
           ·rw [List.mem_singleton.1 h]; exact HUL.out, HSD7.out, bAt_keep HI3.out.2.2.1, by have := HUN.out; have := HI3.out.2.2.2; simp; omega⟩, by have := HLT.out; simp [intOf]; omega⟩
         | false =>
          have hsl := HS8.out.sl
          have ho8 := HS8.out.o
          have s0 := HS8.out.sd.bcell (v := v) (by rw [hsl]; exact HV.out)
          have s1 := HS8.out.sd.bcell (v := u) (by rw [hsl]; exact HUL.out)
          have sf := HS8.out.sd.frozen u
          have HS8b : Hid _ := HS8.out.setS u (!bAt SD7 v)
          have HO8b : Hid _ := owns_lowset HO8.out (p := ⟨sx, u, none⟩) (by show sx < z; omega) (.bool (!bAt SD7 v))
          have HSD8 : Hid (bAt (SD7.set u (!bAt SD7 v)) 0 = false) := by show _ = _; rw [bAt_setS HU0.out]; exact HSD7.out
          have hz8b : z ≤ (w7.setCell ⟨sx, u, none⟩ (.bool (!bAt SD7 v))).heap.size := by simpa using hz8
          clear hsl ho8 HS8 HO8 hz8
          generalize SD7.set u (!bAt SD7 v) = SD8 at *
          generalize bAt SD7 v = bw at *
          have HS8 : Hid _ := HS8b.out
          have HO8 : Hid ((w7.setCell ⟨sx, u, none⟩ (.bool (!bw))).ownsRow z 3 1 (.slice pa ST.length ca) ST.length (natsV ST)) := HO8b.out
          have hz8 : z ≤ (w7.setCell ⟨sx, u, none⟩ (.bool (!bw))).heap.size := hz8b
          clear HS8b HO8b hz8b
          obtain ⟨i2, hi, hz0, hz1, hz2⟩ := info_parts infoPi
          have hbA : Below (w7.setCell ⟨sx, u, none⟩ (.bool (!bw))).heap.size (w7.setCell ⟨sx, u, none⟩ (.bool (!bw))) ((w7.setCell ⟨sx, u, none⟩ (.bool (!bw))).alloc (.cells #[.int .i64 (u : Int)] 3)) := (Below.refl _ _).alloc (Nat.le_refl _) _
          have hOA := World.ownsRow.alloc HO8.out (.cells #[.int .i64 (u : Int)] 3)
          have hnews := one_cellC (w7.setCell ⟨sx, u, none⟩ (.bool (!bw))) (.int .i64 (u : Int)) 3
          have hszW : (w7.setCell ⟨sx, u, none⟩ (.bool (!bw))).heap.size = w7.heap.size := by simp
          rw [hszW] at hnews
          have hone : ∀ y ∈ [Value.int .i64 (u : Int)], y.oneCell' = true := fun y hy => by rw [List.mem_singleton.1 hy]; rfl
          have hmx : ST.length + 1 ≤ maxLen := by unfold maxLen; omega
          have hby : (ST.length + 1) * 8 ≤ 140737488355328 := by omega
          have hbs : z ≤ ((w7.setCell ⟨sx, u, none⟩ (.bool (!bw))).alloc (.cells #[.int .i64 (u : Int)] 3)).heap.size := Nat.le_trans hz8 hbA.size
          have hlow : ∀ q, (Value.slice pa ST.length ca).ownBlock = some q → z ≤ q := fun q hq => (HO8.out.lt q hq).1
          go_wp2_with (at_builtin; refine wpList_append_own_at _ rfl _ _ 27 rfl z 3 i2 (.int .i64 0) 1 8 Tryz.underlying27 hi hz0 hz1 hz2 rfl (by decide) (.slice pa ST.length ca) _ _ rfl hOA ⟨w7.heap.size, 0, none⟩ 1 1 [.int .i64 (u : Int)] rfl rfl hnews hone hmx hby hbs ?_)
          intro v9 w9 hown9 hg9 hnil9 hat9
          obtain ⟨a9, c9, rfl⟩ := owns_formP hown9
          have hb9 : Below z (w7.setCell ⟨sx, u, none⟩ (.bool (!bw))) w9 := (hbA.mono hz8).grown hg9 hbs (fun q hq => hlow q hq)
          have HS9 : Hid _ := HS8.out.hi hb9
          have HO9 : Hid (w9.ownsRow z 3 1 (.slice a9 (ST.length + 1) c9) (ST ++ [u]).length (natsV (ST ++ [u]))) := by
           have e1 : natsV (ST ++ [u]) = natsV ST ++ [.int .i64 (u : Int)] := by simp [natsV]
           have e2 : (ST ++ [u]).length = ST.length + 1 := by simp
           show World.ownsRow _ _ _ _ _ _ _
           rw [e1, e2]
           exact hown9
          have hz9 : z ≤ w9.heap.size := Nat.le_trans hz8 hb9.size
          clear hbA hOA hnews hone hmx hby hbs hlow hown9 hg9 hnil9 hat9 hb9 hi hz0 hz1 hz2 HS8 HO8
          go_wp2
          exact ⟨⟨q + 1, _, MT3.set u true, ST ++ [u], HLT.out, by go_num, by show _ ≤ _; have := HUN.out; have := HK3.out; simp; omega, hz9, HS9, HO9, fun y hy => by
           rcases List.mem_append.1 hy with h | h
           ·exact HI3.out.1 y h
           ·rw [List.mem_singleton.1 h]; exact HUL.out, HSD8.out, bAt_keep HI3.out.2.2.1, by have := HUN.out; have := HI3.out.2.2.2; simp; omega⟩, by have := HLT.out; simp [intOf]; omega⟩
       ·obtain rfl : q = P.length := by omega
        go_wp2
        go_roundg (gk - 1)
        case measure => have := HK3.out; omega
        case rel => exact ⟨SD3, MT3, ST, by have := HK3.out; omega, hzw, HS, HO, HI3.out.1, HI3.out.2.1, HI3.out.2.2.1, HI3.out.2.2.2⟩
  ·obtain rfl : N = j := by omega
   go_wp2
   go_ret
   rw [HXX.out]
   exact ⟨sx, SD, rfl, by have := HS.out.o; omega, HS.out.sd, HS.out.sl, HI.out.1, HS.out.bel⟩
def idxE (p : Ed → Bool) (L : List Ed) : Int := match L.findIdx? p with
 | some i => i
 | none => -1
theorem idxE_at {p : Ed → Bool} {L : List Ed} {j : Nat} (hj : j < L.length) (h : p L[j] = true) (hno : ∀ (i : Nat) (h1 : i < L.length), i < j → p L[i] = false) : idxE p L = j := by
 unfold idxE
 have : L.findIdx? p = some j := by
  rw [List.findIdx?_eq_some_iff_getElem]
  exact ⟨hj, h, fun i hi => by rw [hno i (by omega) hi]; simp⟩
 rw [this]
theorem idxE_no {p : Ed → Bool} {L : List Ed} (hno : ∀ (i : Nat) (h1 : i < L.length), p L[i] = false) : idxE p L = -1 := by
 unfold idxE
 have : L.findIdx? p = none := by
  rw [List.findIdx?_eq_none_iff]
  intro x hx
  obtain ⟨i, hi, rfl⟩ := List.getElem_of_mem hx
  exact hno i hi
 rw [this]
theorem idxE_any (p : Ed → Bool) (L : List Ed) : decide (0 ≤ idxE p L) = L.any p := by
 unfold idxE
 cases h : L.findIdx? p with
 | none =>
  rw [List.findIdx?_eq_none_iff] at h
  have : L.any p = false := by rw [List.any_eq_false]; intro x hx; rw [h x hx]; simp
  rw [this]
  rfl
 | some i =>
  have h1 := h
  rw [List.findIdx?_eq_some_iff_getElem] at h1
  obtain ⟨hi, hp, _⟩ := h1
  have : L.any p = true := by rw [List.any_eq_true]; exact ⟨L[i], List.getElem_mem hi, hp⟩
  rw [this]
  simp
theorem indexE_any (f : Nat) (caps : Array Value) (p : Ed → Bool) (hent : ∀ (args : Array Value) (W : World), (callFunc f args).run Tryz.prog W = .ok (.enter f args) W) (L : List Ed) (hL : L.length ≤ 8388608) (sv : Value) (w : World) (h : Edges w.heap.size w sv L)
  (hp : ∀ x ∈ L, ∀ W, Grew w W → Calls Tryz.prog f (#[edV x] ++ caps) W fun e w' => e = .returned (.bool (p x)) ∧ Grew W w') :
  Calls Tryz.prog 79 #[sv, .func (.func f) #[] caps] w fun e w' => e = .returned (.int .i64 (idxE p L)) ∧ Grew w w' := by
 obtain ⟨pp, c, rfl⟩ := h.len
 have HI : Hid (Edges w.heap.size w (.slice pp L.length c) L) := h
 have HP : Hid (∀ x ∈ L, ∀ W, Grew w W → Calls Tryz.prog f (#[edV x] ++ caps) W fun e w' => e = .returned (.bool (p x)) ∧ Grew W w') := hp
 clear h hp
 go_enter Tryz.func79, Tryz.ntmps79
 go_wp2
 go_loopw [8] (fun iv wr => ∃ j : Nat, j ≤ L.length ∧ iv = .int .i64 j ∧ Hid (∀ (i : Nat) (h1 : i < L.length), i < j → p L[i] = false) ∧ Grew w wr) (fun i _ => L.length - (intOf i).toNat)
 case atStart => exact ⟨0, Nat.zero_le _, rfl, fun i _ h => by omega, Grew.refl _⟩
 case round =>
  obtain ⟨j, hj, rfl, HS, hg⟩ := hrel
  by_cases hlt : j < L.length
  ·have hjl : (j : Int) < (L.length : Int) := by omega
   obtain ⟨b, off, rfl, hbb, hcap, hc, -⟩ := HI.out.open hlt
   obtain ⟨c0, c1, c2⟩ := hc wr hg.below j hlt
   have hcl := HP.out L[j] (List.getElem_mem hlt) wr hg
   have HG : Hid (Grew w wr) := hg
   cases hv : p L[j] with
   | false =>
    have HS2 : Hid (∀ (i : Nat) (h1 : i < L.length), i < j + 1 → p L[i] = false) := fun i h1 h => by
     by_cases e : i = j
     ·subst e; exact hv
     ·exact HS.out i h1 (by omega)
    have HLT : Hid (j < L.length) := hlt
    rw [hv] at hcl
    unfold edV at hcl
    clear HS hc hv hg
    generalize L[j].1 = x at c0 hcl
    generalize L[j].2.1 = y at c1 hcl
    generalize L[j].2.2 = z at c2 hcl
    clear hlt
    go_wp2_with fail
    refine hcl.mono ?_
    clear hcl
    rintro e w2 ⟨rfl, hg2⟩
    have HG2 : Hid (Grew w w2) := HG.out.trans hg2
    clear hg2 HG c0 c1 c2
    go_wp2
    exact ⟨⟨j + 1, HLT.out, by go_num, HS2.out, HG2.out⟩, by have := HLT.out; simp [intOf]; omega⟩
   | true =>
    have HE : Hid (idxE p L = j) := idxE_at hlt hv HS.out
    rw [hv] at hcl
    unfold edV at hcl
    clear HS hc hv hg
    generalize L[j].1 = x at c0 hcl
    generalize L[j].2.1 = y at c1 hcl
    generalize L[j].2.2 = z at c2 hcl
    clear hlt
    go_wp2_with fail
    refine hcl.mono ?_
    clear hcl
    rintro e w2 ⟨rfl, hg2⟩
    have HG2 : Hid (Grew w w2) := HG.out.trans hg2
    clear hg2 HG c0 c1 c2
    go_wp2
    go_ret
    exact ⟨by rw [HE.out]; rfl, HG2.out⟩
  ·obtain rfl : j = L.length := by omega
   have HE : Hid (idxE p L = -1) := idxE_no fun i hi => HS.out i hi hi
   have HG : Hid (Grew w wr) := hg
   clear HS hg
   go_wp2
   go_ret
   exact ⟨by rw [HE.out]; rfl, HG.out⟩
theorem containsE_any (f : Nat) (caps : Array Value) (p : Ed → Bool) (hent : ∀ (args : Array Value) (W : World), (callFunc f args).run Tryz.prog W = .ok (.enter f args) W) (L : List Ed) (hL : L.length ≤ 8388608) (sv : Value) (w : World) (h : Edges w.heap.size w sv L)
  (hp : ∀ x ∈ L, ∀ W, Grew w W → Calls Tryz.prog f (#[edV x] ++ caps) W fun e w' => e = .returned (.bool (p x)) ∧ Grew W w') :
  Calls Tryz.prog 55 #[sv, .func (.func f) #[] caps] w fun e w' => e = .returned (.bool (L.any p)) ∧ Grew w w' := by
 have hi := indexE_any f caps p hent L hL sv w h hp
 obtain ⟨pp, c, rfl⟩ := h.len
 have HA : Hid (decide (0 ≤ idxE p L) = L.any p) := idxE_any p L
 clear h hp
 generalize idxE p L = k at *
 go_enter Tryz.func55, Tryz.ntmps55
 go_wp2_with fail
 refine hi.mono ?_
 clear hi
 rintro e w2 ⟨rfl, hg2⟩
 have HG2 : Hid (Grew w w2) := hg2
 clear hg2
 go_wp2
 go_ret
 exact ⟨by rw [← HA.out]; rfl, HG2.out⟩
end Go.Proofs.YtalflecmadacaaaGreat
