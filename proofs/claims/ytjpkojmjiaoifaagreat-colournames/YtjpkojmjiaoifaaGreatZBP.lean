import Derived.WalkMore
import Derived.Test.YtjpkojmjiaoifaaGreatZBO
import Derived.Test.YtjpkojmjiaoifaaGreatZBM
import Derived.Test.YtjpkojmjiaoifaaGreatZAA
import Derived.Test.YtjpkojmjiaoifaaGreatZAM
namespace Go.Proofs.YtjpkojmjiaoifaaGreat
open Go Go.Proofs Go.RowKit
set_option maxRecDepth 100000 in
set_option maxHeartbeats 8000000 in
theorem goRounds_any (N : Nat) (l : List Ed) (hR : RightG (N : Int) l) (r : List (List Int)) (hS : SysR N l r) (f : Nat) (cb : Array Value) (eg : ∀ args w, (callFunc f args).run Tryz.prog w = .ok (.enter f args) w) (I : List (List Dt) → List Nat → World → Prop) (sv rv : Value) (w : World) (hl : Edges w.heap.size w sv l) (hr : Lsts w.heap.size w rv r)
  (hI0 : I [] [] w) (hI : ∀ fs bs A B, I fs bs A → StillR w.heap.size bs A B → I fs bs B) (hT : Tells w.heap.size f cb (keysR r N) I) :
  Calls Tryz.prog 60 #[.agg #[.int .i64 (N : Int), sv], rv, .func (.func f) #[] cb] w fun e w' => e = .returned (.tuple #[]) ∧ ∃ bs, I (roundsAt (nxD r) (2 * l.length + 1) (dartsL N l) (dartsL N l).length).1 bs w' := by
 obtain ⟨p, c, rfl⟩ := hl.len
 obtain ⟨pr, cr, rfl⟩ := hr.len
 have hg1 : Grew w (w.alloc (.cells #[.int .i64 (N : Int), .slice p l.length c] 24)) := (Grew.refl w).alloc _
 have hX1 : Blk 24 (w.alloc (.cells #[.int .i64 (N : Int), .slice p l.length c] 24)) w.heap.size [.int .i64 (N : Int), .slice p l.length c] := heap_alloc_new w _
 obtain ⟨i0, hi, hz0, hz1, hz2⟩ := info_parts infoDt
 have hn1 := hR.n1
 have hm1 := hR.m1
 have q0 := hX1.cell (j := 0) rfl
 have q1 := hX1.cell (j := 1) rfl
 have hs1 : (w.alloc (.cells #[.int .i64 (N : Int), .slice p l.length c] 24)).heap.size = w.heap.size + 1 := by simp
 have hin : ∀ x ∈ r, x.length ≤ 4194304 ∧ x.Nodup := fun x hx => by
  obtain ⟨v, hv, rfl⟩ := List.getElem_of_mem hx
  have hvN : v < N := by rw [← hS.len]; exact hv
  have e : r.getD v [] = r[v] := by rw [List.getD_eq_getElem?_getD, List.getElem?_eq_getElem hv]; rfl
  have h1 := hS.perm v hvN
  have h2 := hS.nodup hR hvN
  rw [e] at h1 h2
  refine ⟨?_, h2⟩
  rw [h1.length_eq]
  exact Nat.le_trans (nb_len _ _) hm1
 have hbe := behindEach_any r (by rw [hS.len]; omega) hin (2 * l.length) _ _ (hr.go hg1.below)
 have hrl := hS.len
 rw [hrl, beh_left hS hR (Nat.le_refl _), hs1] at hbe
 have e2 : ((2 * l.length : Nat) : Int) = 2 * (l.length : Int) := by omega
 rw [e2] at hbe
 rw [hrl]
 clear e2
 go_enter Tryz.func60, Tryz.ntmps60
 go_wp2
 go_step3
 go_wp2_with fail
 refine hbe.mono ?_
 clear hbe
 rintro e w2 ⟨rfl, hM2, hb2⟩
 have hX2 := hX1.below hb2 (by omega)
 have hbw2 : Below w.heap.size w w2 := hg1.below.trans (hb2.mono (by omega))
 have x0 := hX2.cell (j := 0) rfl
 have x1 := hX2.cell (j := 1) rfl
 have hda := darts_any N l hR _ _ (hl.go hbw2)
 clear q0 q1 hX1 hg1 hb2 hs1
 go_wp2_with fail
 refine hda.mono ?_
 clear hda
 rintro e w3 ⟨dv, rfl, hD3, hb3⟩
 have hM3 : MapD w3 (w.heap.size + 1) (leftE (nxD r) (keysR r N)) := hM2.keep (hb3.block _ hM2.lt)
 have hm2 := hM2.lt
 have hb30 := hb3.size
 have hbw3 := hbw2.trans (hb3.mono hbw2.size)
 obtain ⟨pd, cd, rfl⟩ := owns_formP hD3
 clear hX2 x0 x1 hM2 hb3 hbw2
 go_wp2
 go_step3
 go_wp2
 have HP : Hid (PermS (nxD r) (keysR r N)) := sys_perm hS hR
 have HDS : Hid (∀ d ∈ dartsL N l, d ∈ keysR r N) := fun d h => (keys_darts hS hR).2 h
 have HZ : Hid (((0 : Int), (0 : Int)) ∉ keysR r N) := fun h => dart_zero hR ((keys_darts hS hR).1 h)
 have hSl : (keysR r N).length = 2 * l.length := by rw [keysR_len hS (Nat.le_refl _), degS_all fun e he => (hR.each e he).1]
 have hsl := dartsL_few hm1 N
 have hGo : Going (nxD r) (keysR r N) (dartsL N l) (2 * l.length + 1) (keysR r N) [] (0, 0) 0 := Going.start (keysR_nodup hS hR) (0, 0) (dartsL N l) (2 * l.length + 1)
 obtain ⟨h0, hh0⟩ : ∃ h0, h0 = w.heap.size := ⟨_, rfl⟩
 obtain ⟨bd, hbd⟩ : ∃ bd, bd = w3.heap.size := ⟨_, rfl⟩
 have hLay : LayR h0 (bd + 1) (h0 + 1) bd (.slice pd (dartsL N l).length cd) := by
  refine ⟨by omega, by omega, by have := hbw3.size; omega, by omega, by omega, fun q hq => ?_⟩
  obtain ⟨a1, a2⟩ := owns_blk hD3 hq
  exact ⟨by omega, by omega, by omega⟩
 have hbA : Below w3.heap.size w3 (w3.alloc (.cells #[.int .i64 0, .int .i64 0] 84)) := (Below.refl _ _).alloc (Nat.le_refl _) _
 have hRI0 : RI (nxD r) (keysR r N) (dartsL N l) (2 * l.length + 1) h0 (bd + 1) (h0 + 1) bd (.slice pd (dartsL N l).length cd) I (.slice none 0 0) 0 (w3.alloc (.cells #[.int .i64 0, .int .i64 0] 84)) (keysR r N) [] (0, 0) 0 [] := by
  refine ⟨hGo, .inl ⟨rfl, rfl, rfl, rfl⟩, ?_, ?_, ?_, World.ownsRow_nil _ _ _ _, (fun q hq => by simp [Value.ownBlock] at hq), (fun q hq => by simp at hq), ?_, (by rw [hbd]; simp)⟩
  ·rw [hh0]; exact hM3.keep (hbA.block _ (by omega))
  ·rw [hbd]; exact heap_alloc_new w3 _
  ·exact owns_base (owns_below hD3 hbA) (by have := hbw3.size; omega)
  ·refine hI _ _ _ _ hI0 ?_
   have h1 := hbw3.trans (hbA.mono hbw3.size)
   exact ⟨h1.os, h1.tape, h1.output, h1.size, fun q hq _ => h1.block q hq⟩
 rw [← hh0] at hI hT ⊢
 rw [← hbd] at ⊢
 have hh2 : h0 ≤ bd + 1 := by have := hbw3.size; omega
 clear hM3 hD3 hGo hbA hI0 hbw3 hm2 hb30
 generalize w3.alloc (.cells #[.int .i64 0, .int .i64 0] 84) = w5 at hRI0 ⊢
 obtain ⟨S, HSS⟩ : ∃ S, Hid (keysR r N = S) := ⟨_, rfl⟩
 obtain ⟨st, HST⟩ : ∃ st, Hid (dartsL N l = st) := ⟨_, rfl⟩
 obtain ⟨nx, HNX⟩ : ∃ nx, Hid (nxD r = nx) := ⟨_, rfl⟩
 rw [HSS.out] at HP HDS HZ hSl hRI0 hT
 rw [HST.out] at HDS hsl hLay hRI0 ⊢
 rw [HNX.out] at HP hRI0
 have HI : Hid _ := hI
 have HT : Hid _ := hT
 have HLay : Hid _ := hLay
 have HR0 : Hid _ := hRI0
 clear hI hT hLay hRI0 hl hr hin hR hS hh0 hbd
 go_loopg [8, 10] (S.length + st.length) (fun k fv bv wr => ∃ (begun : Nat) (left face : List Dt) (d : Dt) (j : Nat) (bs : List Nat), bv = .int .i64 (begun : Int) ∧ Hid (RI nx S st (2 * l.length + 1) h0 (bd + 1) (h0 + 1) bd (.slice pd st.length cd) I fv begun wr left face d j bs) ∧ begun ≤ st.length ∧ left.length + (st.length - begun) ≤ k)
 case atStart => exact ⟨0, S, [], (0, 0), 0, [], rfl, HR0.out, Nat.zero_le _, by omega⟩
 case round =>
  obtain ⟨begun, left, face, d, j, bs, rfl, HRI, hbl, hms⟩ := hrel
  obtain ⟨pf, cf, rfl⟩ := owns_formP HRI.out.fc
  have c0 := HRI.out.dc.cell (j := 0) rfl
  have c1 := HRI.out.dc.cell (j := 1) rfl
  have hlk := HRI.out.map.lookup d
  rw [lk_left] at hlk
  by_cases hd : d ∈ left
  ·rw [if_pos hd] at hlk
   have hlk' : (Instr.lookup 118 (.map (some (h0 + 1))) (.agg #[.int .i64 d.1, .int .i64 d.2]) true).run Tryz.prog wr = .ok (.tuple #[.agg #[.int .i64 (nx d).1, .int .i64 (nx d).2], .bool true]) wr := hlk
   have Hd : Hid _ := hd
   have hpos := List.length_pos_of_mem hd
   clear hlk hd
   have hbdl : bd < wr.heap.size := HRI.out.dc.lt
   have hbdm : bd ≠ h0 + 1 := HLay.out.ne.symm
   have hbA : Below wr.heap.size wr (wr.alloc (.cells #[.int .i64 (nx d).1, .int .i64 (nx d).2] 84)) := (Below.refl _ _).alloc (Nat.le_refl _) _
   have hM1 : MapD (wr.alloc (.cells #[.int .i64 (nx d).1, .int .i64 (nx d).2] 84)) (h0 + 1) (leftE nx left) := HRI.out.map.keep (hbA.block _ HRI.out.map.lt)
   have hB1 : Blk 84 (wr.alloc (.cells #[.int .i64 (nx d).1, .int .i64 (nx d).2] 84)) wr.heap.size [.int .i64 (nx d).1, .int .i64 (nx d).2] := heap_alloc_new wr _
   have hD1 := HRI.out.dc.go hbA
   have hF1 := owns_below HRI.out.fc hbA
   have hml := HRI.out.map.lt
   have HbA : Hid _ := hbA
   go_wp2_with (at_delete; refine wpList_delD _ rfl _ _ rfl (h0 + 1) (leftE nx left) d rfl hM1 rfl ?_)
   intro w6 hM6 hg6
   rw [er_left] at hM6
   have hD6 := hD1.grown hg6 (by simp; omega)
   have hB6 := hB1.grown hg6 (by simp; omega)
   have hF6 : w6.ownsRow (bd + 1) 84 2 (.slice pf face.length cf) face.length (flatD face) := owns_keep hF1 hg6 (by
    rcases or_none (.slice pf face.length cf) with h1 | h1
    ·exact .inl h1
    ·refine .inr fun e => ?_
     have := (owns_blk hF1 e).1
     have := HLay.out.m2
     omega)
   have d0 := hD6.cell (j := 0) rfl
   have d1 := hD6.cell (j := 1) rfl
   have hbd6 : bd < w6.heap.size := hD6.lt
   have hbh6 : wr.heap.size < w6.heap.size := hB6.lt
   clear hM1 hB1 hD1 hF1 c0 c1 hlk' hbA
   have hfl : face.length ≤ 8388608 := by have := HRI.out.go.len; omega
   have hmx : face.length + 1 ≤ maxLen := by unfold maxLen; omega
   have hby : (face.length + 1) * 16 ≤ 140737488355328 := by omega
   have hnews := newsD (w := w6) (t := 84) d
   have hone := oneD d
   have hownA := hF6.alloc (.cells #[.int .i64 d.1, .int .i64 d.2] 84)
   have hbs : bd + 1 ≤ (w6.alloc (.cells #[.int .i64 d.1, .int .i64 d.2] 84)).heap.size := by simp; omega
   go_wp2_with (at_builtin; refine wpList_append_own_at _ rfl _ _ 85 rfl (bd + 1) 84 i0 (.agg #[.int .i64 0, .int .i64 0]) 2 16 Tryz.underlying85 hi hz0 hz1 hz2 rfl (by decide) (.slice pf face.length cf) _ _ rfl hownA ⟨w6.heap.size, 0, none⟩ 1 1 (encDc d) rfl rfl hnews hone hmx hby hbs ?_)
   intro v7 w7 hown7 hg7 hnil7 hat7
   obtain ⟨a7, m7, k7, rfl⟩ := owns_slice hown7
   have hbA6 : w6.grownBy (w6.alloc (.cells #[.int .i64 d.1, .int .i64 d.2] 84)) (Value.slice pf face.length cf).ownBlock := World.grownBy_alloc _ _ _
   have hg67 := hbA6.trans hg7
   have hnb : ∀ q, q < bd + 1 → some q ≠ (Value.slice pf face.length cf).ownBlock := fun q hq e => by
    have := (owns_blk hF6 e.symm).1
    omega
   have hM7 : MapD w7 (h0 + 1) (leftE nx (left.erase d)) := hM6.keep (hg67.block _ hM6.lt (hnb _ HLay.out.m2))
   have hD7 := hD6.grown hg67 (hnb _ (by omega))
   have hB7 := hB6.grown hg67 (fun e => by
    have := (owns_blk HRI.out.fc e.symm).2
    omega)
   have b0 := hB7.cell (j := 0) rfl
   have b1 := hB7.cell (j := 1) rfl
   have f0 := hD7.frozen 0
   have f1 := (hD7.set 0 (.int .i64 (nx d).1)).frozen 1
   have g0 := hD7.cell (j := 0) rfl
   have g1 := (hD7.set 0 (.int .i64 (nx d).1)).cell (j := 1) rfl
   have hD8 := (hD7.set 0 (.int .i64 (nx d).1)).set 1 (.int .i64 (nx d).2)
   have HC : Hid (Chg (XR (h0 + 1) bd (.slice pf face.length cf)) wr ((w7.setCell ⟨bd, 0, none⟩ (.int .i64 (nx d).1)).setCell ⟨bd, 1, none⟩ (.int .i64 (nx d).2))) := by
    refine ((((Chg.of_below HbA.out).trans (Chg.of_grown hg6 fun q e => ?_)).trans (Chg.of_grown hg67 fun q e => ?_)).trans (Chg.of_set (p := ⟨bd, 0, none⟩) ?_ _)).trans (Chg.of_set (p := ⟨bd, 1, none⟩) ?_ _)
    ·exact .inl (Option.some.inj e).symm
    ·exact .inr (.inr e)
    ·exact .inr (.inl rfl)
    ·exact .inr (.inl rfl)
   have hbn : bd ≠ wr.heap.size := by omega
   have HM8 : Hid (MapD ((w7.setCell ⟨bd, 0, none⟩ (.int .i64 (nx d).1)).setCell ⟨bd, 1, none⟩ (.int .i64 (nx d).2)) (h0 + 1) (leftE nx (left.erase d))) := hM7.keep ((Below.heap_setCell _ _ _ _ (by simp; omega)).trans (Below.heap_setCell _ _ _ _ (by simp; omega)))
   have HF8 : Hid (((w7.setCell ⟨bd, 0, none⟩ (.int .i64 (nx d).1)).setCell ⟨bd, 1, none⟩ (.int .i64 (nx d).2)).ownsRow (bd + 1) 84 2 (.slice a7 m7 k7) (face ++ [d]).length (flatD (face ++ [d]))) := by
    rw [Hid, List.length_append, flatD_snoc]
    exact owns_lowset (owns_lowset hown7 (by simp) _) (by simp) _
   have HV : Hid ((Value.slice a7 m7 k7).ownBlock = (Value.slice pf face.length cf).ownBlock ∨ ∃ q, (Value.slice a7 m7 k7).ownBlock = some q ∧ wr.heap.size ≤ q) := by
    rcases hat7 with h1 | h1
    ·exact .inl h1
    ·exact .inr ⟨_, h1, by omega⟩
   have HD8 : Hid _ := hD8
   clear hown7 hg7 hnil7 hat7 hownA hnews hone hmx hby hbs hM6 hM7 hD6 hD7 hB6 hB7 hF6 hg6 hg67 hnb hbA6 hD8 d0 d1
   go_wp2
   go_roundg (gk - 1)
   case measure => omega
   case rel =>
    have h := HRI.out
    have hd := Hd.out
    have hdS : d ∈ S := (h.go.all d).2 (.inl hd)
    have hph : begun = j + 1 ∧ j < st.length ∧ (face = [] → d = st.getD j (0, 0)) := by
     rcases h.ph with ⟨_, _, _, e⟩ | ⟨e1, e2, _, e3⟩
     ·rw [e] at hdS
      exact absurd hdS HZ.out
     ·exact ⟨e1, e2, e3⟩
    refine ⟨begun, left.erase d, face ++ [d], nx d, j, bs, rfl, h.turn HI.out HLay.out HC.out (h.go.take hd hph.2.2) (.inr ⟨hph.1, hph.2.1, HP.out.mem d hdS, fun e => by simp at e⟩) HM8.out HD8.out HF8.out HV.out, hbl, ?_⟩
    rw [List.length_erase_of_mem hd]
    omega
  ·rw [if_neg hd] at hlk
   have hlk' : (Instr.lookup 118 (.map (some (h0 + 1))) (.agg #[.int .i64 d.1, .int .i64 d.2]) true).run Tryz.prog wr = .ok (.tuple #[.agg #[.int .i64 0, .int .i64 0], .bool false]) wr := hlk
   have hbA : Below wr.heap.size wr (wr.alloc (.cells #[.int .i64 0, .int .i64 0] 84)) := (Below.refl _ _).alloc (Nat.le_refl _) _
   clear hlk
   by_cases hf : face = []
   ·subst hf
    have HDN : Hid _ := HRI.out.none HI.out HLay.out hd hbA
    have hbdl : bd < wr.heap.size := HRI.out.dc.lt
    have f0 := HRI.out.dc.frozen 0
    have f1 := HRI.out.dc.frozen 1
    by_cases hbe : begun = st.length
    ·have hbe' : ((begun : Int) == (st.length : Int)) = true := by rw [beq_iff_eq]; omega
     have HFIN : Hid (I (roundsAt nx (2 * l.length + 1) st st.length).1 bs (wr.alloc (.cells #[.int .i64 0, .int .i64 0] 84))) := by rw [Hid, ← hbe]; exact HDN.out.inv
     clear hbe hd hbA HRI HDN
     go_wp2
     simp only [Exit.noGoto]
     refine bodyPost_end (results_none rfl _ _ _) rfl ?_
     exact ⟨rfl, bs, by rw [HNX.out, HST.out]; exact HFIN.out⟩
    ·have hbe' : ((begun : Int) == (st.length : Int)) = false := by rw [beq_eq_false_iff_ne]; omega
     have hblt : begun < st.length := by omega
     have hbl' : (begun : Int) < (st.length : Int) := by omega
     obtain ⟨sb, so, hps, hsb, hsc, s0, s1⟩ := (Drts.of_owns HRI.out.st).cellAt hblt
     have HGD : Hid (st[begun] = st.getD begun (0, 0)) := by rw [Hid, List.getD_eq_getElem?_getD, List.getElem?_eq_getElem hblt]; rfl
     have HDM : Hid (st[begun] ∈ S) := HDS.out _ (List.getElem_mem hblt)
     generalize st[begun] = d2 at *
     have hnxt := HDN.out.next HI.out HLay.out hblt HGD.out HDM.out
     rw [World.setCell_alloc_past (hn := hbdl), World.setCell_alloc_past (hn := by simp; exact hbdl)] at hnxt
     have HNXT : Hid _ := hnxt
     clear hnxt
     have hsbd : sb ≠ bd := (HLay.out.st sb (by rw [hps]; rfl)).2.2
     clear hbe hd hbA HRI HDN
     subst hps
     go_wp2
     go_roundg (gk - 1)
     case measure => omega
     case rel => exact ⟨begun + 1, left, [], d2, begun, bs, by go_num, HNXT.out, by omega, by omega⟩
   ·have hfp : 0 < face.length := List.length_pos_iff.2 hf
    have hfp' : (0 : Int) < (face.length : Int) := by omega
    have hRI := HRI.out
    have hR1 := hRI.turn HI.out HLay.out (Chg.of_below hbA) hRI.go hRI.ph (hRI.map.keep (hbA.block _ hRI.map.lt)) (hRI.dc.go hbA) (owns_below hRI.fc hbA) (.inl rfl)
    have hbdl : bd < wr.heap.size := hRI.dc.lt
    obtain ⟨gf, cf', hpf⟩ := owns_pos hRI.fc hfp
    simp only [Value.slice.injEq] at hpf
    obtain ⟨rfl, _, rfl⟩ := hpf
    have hfl : ((roundsAt nx (2 * l.length + 1) st j).1.map List.length).sum + face.length ≤ 8388608 := by rw [rounds_sum]; have := hRI.go.len; omega
    have hcall := HT.out (roundsAt nx (2 * l.length + 1) st j).1 bs face _ _ hR1.inv (fun q hq => ⟨Nat.le_trans hh2 (hR1.bsr q hq).1, (hR1.bsr q hq).2⟩) (Nat.le_trans hh2 hR1.sz) hf (fun x hx => (hRI.go.all x).2 (.inr (.inl hx))) hfl (owns_base hR1.fc hh2) hR1.ap
    have HR1 : Hid _ := hR1
    have Hf : Hid _ := hf
    have Hd : Hid _ := hd
    clear hRI hR1 HRI hf hd hbA hfp
    go_wp2_with fail
    refine hcall.mono ?_
    clear hcall
    rintro e w6 ⟨rfl, bs', hI6, hT6⟩
    have HDN : Hid _ := HR1.out.toldD HP.out (by omega) HLay.out hh2 Hf.out Hd.out hT6 hI6
    clear HR1 hI6 hT6 Hf Hd c0 c1 hlk'
    by_cases hbe : begun = st.length
    ·have hbe' : ((begun : Int) == (st.length : Int)) = true := by rw [beq_iff_eq]; omega
     have HFIN : Hid (I (roundsAt nx (2 * l.length + 1) st st.length).1 bs' w6) := by rw [Hid, ← hbe]; exact HDN.out.inv
     clear hbe HDN
     go_wp2
     simp only [Exit.noGoto]
     refine bodyPost_end (results_none rfl _ _ _) rfl ?_
     exact ⟨rfl, bs', by rw [HNX.out, HST.out]; exact HFIN.out⟩
    ·have hbe' : ((begun : Int) == (st.length : Int)) = false := by rw [beq_eq_false_iff_ne]; omega
     have hblt : begun < st.length := by omega
     have hbl' : (begun : Int) < (st.length : Int) := by omega
     obtain ⟨sb, so, hps, hsb, hsc, s0, s1⟩ := (Drts.of_owns HDN.out.st).cellAt hblt
     have HGD : Hid (st[begun] = st.getD begun (0, 0)) := by rw [Hid, List.getD_eq_getElem?_getD, List.getElem?_eq_getElem hblt]; rfl
     have HDM : Hid (st[begun] ∈ S) := HDS.out _ (List.getElem_mem hblt)
     generalize st[begun] = d2 at *
     have g0 := HDN.out.dc.cell (j := 0) rfl
     have g1 := (HDN.out.dc.set 0 (.int .i64 d2.1)).cell (j := 1) rfl
     have f0 := HDN.out.dc.frozen 0
     have f1 := (HDN.out.dc.set 0 (.int .i64 d2.1)).frozen 1
     have HNXT : Hid _ := HDN.out.next HI.out HLay.out hblt HGD.out HDM.out
     have hsbd : sb ≠ bd := (HLay.out.st sb (by rw [hps]; rfl)).2.2
     clear hbe HDN
     subst hps
     go_wp2
     go_roundg (gk - 1)
     case measure => omega
     case rel => exact ⟨begun + 1, left, [], d2, begun, bs', by go_num, HNXT.out, by omega, by omega⟩
end Go.Proofs.YtjpkojmjiaoifaaGreat

namespace Go.Proofs.YtjpkojmjiaoifaaGreat
open Go Go.Proofs Go.RowKit
def facesL (N : Nat) (l : List Ed) (r : List (List Int)) : List (List Dt) := (roundsAt (nxD r) (2 * l.length + 1) (dartsL N l) (dartsL N l).length).1
end Go.Proofs.YtjpkojmjiaoifaaGreat

namespace Go.Proofs.YtjpkojmjiaoifaaGreat
open Go Go.Proofs Go.RowKit
structure GrpD (h0 : Nat) (lv : Value) (svs : List Value) (pre : List (List Dt)) (W : World) : Prop where
 len : svs.length = pre.length
 own : W.ownsRow h0 85 1 lv svs.length svs
 inn : ∀ (k : Nat) (sv : Value) (xs : List Dt), svs[k]? = some sv → pre[k]? = some xs → W.ownsRow h0 84 2 sv xs.length (flatD xs)
 apart : ∀ (k j : Nat) (sv sv' : Value), svs[k]? = some sv → svs[j]? = some sv' → k ≠ j → sv.ownBlock = none ∨ sv.ownBlock ≠ sv'.ownBlock
 outer : ∀ (k : Nat) (sv : Value), svs[k]? = some sv → sv.ownBlock = none ∨ sv.ownBlock ≠ lv.ownBlock
theorem GrpD.start (h0 : Nat) (W : World) : GrpD h0 (.slice none 0 0) [] [] W :=
 ⟨rfl, World.ownsRow_nil _ _ _ _, fun k sv xs h => by simp at h, fun k j sv sv' h => by simp at h, fun k sv h => by simp at h⟩
theorem GrpD.go {h0 : Nat} {lv : Value} {svs : List Value} {pre : List (List Dt)} {A B : World} (h : GrpD h0 lv svs pre A) (hb : Below A.heap.size A B) : GrpD h0 lv svs pre B := by
 have hk : ∀ {e : TypeId} {size : Nat} {v : Value} {n : Nat} {xs : List Value}, A.ownsRow h0 e size v n xs → B.ownsRow h0 e size v n xs := fun {e size v n xs} ho => by
  refine owns_keep ho (grown_below' hb none) ?_
  cases v.ownBlock with
  | none => exact .inl rfl
  | some k => exact .inr (by simp)
 exact ⟨h.len, hk h.own, fun k sv xs h1 h2 => hk (h.inn k sv xs h1 h2), h.apart, h.outer⟩
theorem infoDs : (Tryz.prog.info? 85).map (fun i => (i.zero, i.size, i.bytes)) = some (some (.slice none 0 0), 1, 24) := by kernel_rfl
theorem GrpD.lts {h0 : Nat} {lv : Value} {svs : List Value} {pre : List (List Dt)} {W : World} (h : GrpD h0 lv svs pre W) {sv : Value} (hs : sv ∈ svs) {q : Nat} (hq : sv.ownBlock = some q) : h0 ≤ q ∧ q < W.heap.size := by
 obtain ⟨k, hk⟩ := List.getElem?_of_mem hs
 have hlt := (List.getElem?_eq_some_iff.1 hk).1
 exact owns_blk (h.inn k sv _ hk (List.getElem?_eq_getElem (by rw [← h.len]; exact hlt))) hq
theorem GrpD.base {h0 h1 : Nat} {lv : Value} {svs : List Value} {pre : List (List Dt)} {W : World} (h : GrpD h0 lv svs pre W) (hh : h1 ≤ h0) : GrpD h1 lv svs pre W :=
 ⟨h.len, owns_base h.own hh, fun k sv xs h1 h2 => owns_base (h.inn k sv xs h1 h2) hh, h.apart, h.outer⟩
theorem flatD_len : ∀ L : List Dt, (flatD L).length = L.length * 2
 | [] => rfl
 | d :: L => by
  have e : flatD (d :: L) = [.int .i64 d.1, .int .i64 d.2] ++ flatD L := rfl
  rw [e, List.length_append, flatD_len L, List.length_cons]
  simp
  omega
theorem flatD_cells {n : Nat} {w : World} {b off c : Nat} {L : List Dt} (h : Drts n w (.slice (some ⟨b, off, none⟩) L.length c) L) : ∀ (j : Nat) (u : Value), (flatD L)[j]? = some u → w.cell? ((⟨b, off, none⟩ : Addr).add j) = some u := by
 intro j u hu
 have hj := (List.getElem?_eq_some_iff.1 hu).1
 rw [flatD_len] at hj
 have hi : j / 2 < L.length := by omega
 obtain ⟨b', off', e, _, _, c0, c1⟩ := h.cellAt hi
 simp only [Option.some.injEq, Addr.mk.injEq, and_true] at e
 obtain ⟨rfl, rfl⟩ := e
 obtain ⟨k0, k1⟩ := flatD_at (List.getElem?_eq_getElem hi)
 rw [Go.WideShapes.add_plain]
 rcases Nat.mod_two_eq_zero_or_one j with h0 | h0
 ·have e : j = j / 2 * 2 := by omega
  rw [← e] at k0 c0
  rw [hu] at k0
  rw [Option.some.inj k0]
  exact c0
 ·have e : j = j / 2 * 2 + 1 := by omega
  rw [← e] at k1
  rw [hu] at k1
  rw [Option.some.inj k1]
  rw [Nat.add_assoc, ← e] at c1
  exact c1
theorem flatD_one : ∀ (L : List Dt), ∀ u ∈ flatD L, u.oneCell' = true := by
 intro L u hu
 unfold flatD at hu
 obtain ⟨d, _, h⟩ := List.mem_flatMap.1 hu
 exact oneD d u h
end Go.Proofs.YtjpkojmjiaoifaaGreat
