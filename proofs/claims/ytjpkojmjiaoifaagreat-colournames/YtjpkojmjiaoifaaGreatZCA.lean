import Derived.Test.YtjpkojmjiaoifaaGreatZBZ
import Derived.Test.YtjpkojmjiaoifaaGreatZBT
import Derived.BigQuiet
import Derived.Test.YtjpkojmjiaoifaaGreatZBS
import Derived.Test.YtjpkojmjiaoifaaGreatZAB
import Derived.Test.YtjpkojmjiaoifaaGreatZAC
namespace Go.Proofs.YtjpkojmjiaoifaaGreat
open Go Go.Proofs Go.RowKit
def eCnt (X : List Int) (l : List Ed) : Nat := l.countP fun e => inB X e.1
def fCnt (X : List Int) (fs : List (List Dt)) : Nat := fs.countP fun f => inB X (f.getD 0 (0, 0)).1
theorem eCnt_step {X : List Int} {l : List Ed} {k : Nat} (h : k < l.length) : eCnt X (l.take (k + 1)) = eCnt X (l.take k) + if inB X l[k].1 = true then 1 else 0 := by
 unfold eCnt
 rw [take_snoc h, List.countP_append, List.countP_cons, List.countP_nil]
 omega
theorem fCnt_step {X : List Int} {fs : List (List Dt)} {k : Nat} (h : k < fs.length) : fCnt X (fs.take (k + 1)) = fCnt X (fs.take k) + if inB X (fs[k].getD 0 (0, 0)).1 = true then 1 else 0 := by
 unfold fCnt
 rw [take_snoc h, List.countP_append, List.countP_cons, List.countP_nil]
 omega
def numE (X : List Int) (l : List Ed) (fs : List (List Dt)) : Int := (X.length : Int) - (eCnt X l : Int) + (fCnt X fs : Int) + if eCnt X l = 0 then 1 else 0
theorem ci_mem {N : Nat} {l : List Ed} (hR : RightG (N : Int) l) {i : Nat} (hi : i < (compC N l).length) {x : Int} (hx : 0 ≤ x) : inB ((compC N l).getD i []) x = decide (x.toNat ∈ KC N l i) := by
 have hmem : (compC N l).getD i [] ∈ compC N l := by rw [List.getD_eq_getElem?_getD, List.getElem?_eq_getElem hi]; exact List.getElem_mem hi
 unfold inB KC
 congr 1
 apply propext
 rw [List.mem_map]
 constructor
 ·intro h; exact ⟨x, h, rfl⟩
 ·rintro ⟨y, hy, e⟩
  obtain ⟨u, rfl, _⟩ := (comps_ok hR).mem _ hmem y hy
  have : x = (u : Int) := by omega
  rw [this]; exact hy
theorem nums_ref {N : Nat} {l : List Ed} {r : List (List Int)} (hR : RightG (N : Int) l) (hS : SysR N l r) {i : Nat} (hi : i < (compC N l).length) : (numsL N l r).getD i 0 = numE ((compC N l).getD i []) l (facesL N l r) := by
 have hD := faces_dec hR hS
 have he : eCnt ((compC N l).getD i []) l = eK l (KC N l i) := by
  unfold eCnt eK
  refine List.countP_congr fun e he => ?_
  rw [ci_mem hR hi (hR.each e he).1.1]
 have hf : fCnt ((compC N l).getD i []) (facesL N l r) = (facesK (facesL N l r) (KC N l i)).length := by
  unfold fCnt facesK
  rw [← List.countP_eq_length_filter]
  refine List.countP_congr fun f hf => ?_
  have hx : f.getD 0 (0, 0) ∈ dartsL N l := by
   refine (hD.mem _).1 (List.mem_flatten.2 ⟨f, hf, ?_⟩)
   match f, (hD.rnd f hf).1 with
   | y :: f, _ => simp
  obtain ⟨u, v, e, hu, _⟩ := dart_ends hR hx
  rw [ci_mem hR hi (by rw [e]; simp only; omega)]
 unfold numE
 rw [nums_at hR hS hi, (kc_iso hR hS hi).2, he, hf]
set_option maxRecDepth 100000 in
set_option maxHeartbeats 8000000 in
theorem refEuler_any (N : Nat) (l : List Ed) (hR : RightG (N : Int) l) (r : List (List Int)) (hS : SysR N l r) (hN : N ≤ 1000) (hm : l.length ≤ 4000) (sv rv : Value) (w : World) (hl : Edges w.heap.size w sv l) (hr : Lsts w.heap.size w rv r) :
  Calls Tryz.prog 23 #[.agg #[.int .i64 (N : Int), sv], rv] w fun e w' => ∃ lv, e = .returned lv ∧ Ints w'.heap.size w' lv (numsL N l r) ∧ Below w.heap.size w w' := by
 obtain ⟨p, c, rfl⟩ := hl.len
 have hb1 : Below w.heap.size w (w.alloc (.cells #[.int .i64 (N : Int), .slice p l.length c] 24)) := (Below.refl _ _).alloc (Nat.le_refl _) _
 have hX1 : Blk 24 (w.alloc (.cells #[.int .i64 (N : Int), .slice p l.length c] 24)) w.heap.size [.int .i64 (N : Int), .slice p l.length c] := heap_alloc_new w _
 obtain ⟨i0, hi, hz0, hz1, hz2⟩ := info_parts infoI
 have hcm := refComponents_any N l hR _ _ (hl.go hb1)
 have q0 := hX1.cell (j := 0) rfl
 have q1 := hX1.cell (j := 1) rfl
 have HRF : Hid (∀ W, Edges W.heap.size W (.slice p l.length c) l → Lsts W.heap.size W rv r → _) := fun W h1 h2 => refFaces_any N l hR r hS hm (.slice p l.length c) rv W h1 h2
 have HCF : Hid ((compC N l).length ≤ N) := (comps_ok hR).few
 have HCL : Hid (∀ x ∈ compC N l, x.length ≤ N) := (comps_ok hR).len
 have HNA : Hid (∀ i, i < (compC N l).length → (numsL N l r).getD i 0 = numE ((compC N l).getD i []) l (facesL N l r)) := fun i h => nums_ref hR hS h
 have HFF : Hid ((facesL N l r).length ≤ 12000) := by have := stF_few hR r (u := N) (v := 0) (Nat.le_refl _); rw [facesL_st hR] at this; unfold Hid; omega
 have HFN : Hid (∀ f ∈ facesL N l r, f ≠ []) := fun f hf => ((faces_dec hR hS).rnd f hf).1
 have HNL : Hid ((numsL N l r).length = (compC N l).length) := numsL_len N l r
 have HL : Hid (Edges w.heap.size w (.slice p l.length c) l) := hl
 have HR : Hid (Lsts w.heap.size w rv r) := hr
 have HB1 : Hid (Below w.heap.size w (w.alloc (.cells #[.int .i64 (N : Int), .slice p l.length c] 24))) := hb1
 have HX1 : Hid (Blk 24 (w.alloc (.cells #[.int .i64 (N : Int), .slice p l.length c] 24)) w.heap.size [.int .i64 (N : Int), .slice p l.length c]) := hX1
 have hcm' : Calls Tryz.prog 47 #[.agg #[.int .i64 (N : Int), .slice p l.length c]] (w.alloc (.cells #[.int .i64 (N : Int), .slice p l.length c] 24)) fun r w' => ∃ lv svs h0, r = .returned lv ∧ Grp h0 lv svs (compC N l) w' ∧ Below (w.alloc (.cells #[.int .i64 (N : Int), .slice p l.length c] 24)).heap.size (w.alloc (.cells #[.int .i64 (N : Int), .slice p l.length c] 24)) w' := hcm
 clear hb1 hX1 hl hr hR hS hcm
 have hmix := mixed
 generalize compC N l = C at *
 generalize facesL N l r = fs at *
 generalize numsL N l r = nums at *
 go_enter Tryz.func23, Tryz.ntmps23
 go_wp2_with fail
 generalize w.alloc (.cells #[.int .i64 (N : Int), .slice p l.length c] 24) = w1 at *
 refine hcm'.mono ?_
 clear hcm'
 rintro e w2 ⟨cv, svc, h0, rfl, hG2, hb2⟩
 have hCl := hG2.lsts
 obtain ⟨pc, cc, rfl⟩ := hCl.len
 have HC2 : Hid (Lsts w2.heap.size w2 (.slice pc C.length cc) C) := hCl
 have HB2 : Hid (Below w.heap.size w w2) := HB1.out.trans (hb2.mono HB1.out.size)
 have HX2 : Hid (Blk 24 w2 w.heap.size [.int .i64 (N : Int), .slice p l.length c]) := HX1.out.go hb2
 clear hG2 hCl hb2 q0 q1 HB1 HX1
 have q0 := HX2.out.cell (j := 0) rfl
 have q1 := HX2.out.cell (j := 1) rfl
 have hrf := HRF.out w2 (HL.out.go HB2.out) (HR.out.go HB2.out)
 go_wp2_with fail
 refine hrf.mono ?_
 clear hrf
 rintro e w3 ⟨lb, svb, rfl, hG3, hb3⟩
 have hFl := hG3.ldr
 obtain ⟨pf, cf, rfl⟩ := hFl.len
 have HF3 : Hid (LDr w3.heap.size w3 (.slice pf fs.length cf) fs) := hFl
 have HC3 : Hid (Lsts w3.heap.size w3 (.slice pc C.length cc) C) := HC2.out.go hb3
 have HB3 : Hid (Below w.heap.size w w3) := HB2.out.trans (hb3.mono HB2.out.size)
 have HX3 : Hid (Blk 24 w3 w.heap.size [.int .i64 (N : Int), .slice p l.length c]) := HX2.out.go hb3
 clear hG3 hFl hb3 q0 q1 HB2 HX2 HC2 HRF
 have hCN : C.length ≤ N := HCF.out
 go_wp2
 go_loopw [7, 8] (fun ov iv wr => ∃ (i : Nat) (R : List Int), i ≤ C.length ∧ iv = .int .i64 i ∧ Hid (R = nums.take i) ∧ wr.ownsRow w3.heap.size 3 1 ov R.length (R.map (Value.int .i64)) ∧ Below w3.heap.size w3 wr) (fun _ iv _ => C.length - (intOf iv).toNat)
 case atStart => exact ⟨0, [], Nat.zero_le _, rfl, by unfold Hid; simp, World.ownsRow_nil _ _ _ _, Below.refl _ _⟩
 case round =>
  obtain ⟨i, R, hiC, rfl, HRT, hown, hb⟩ := hrel
  obtain ⟨ax, cx, rfl⟩ := owns_formP hown
  by_cases hlt : i < C.length
  ·have hil : (i : Int) < (C.length : Int) := by omega
   have hC4 := HC3.out.go hb
   obtain ⟨bc, oc, rfl, hbc, hcc, px, kx, hIx, c0⟩ := hC4.cellAt hlt
   have hXl := HCL.out _ (List.getElem_mem hlt)
   have HNM : Hid (nums.getD i 0 = numE C[i] l fs) := by
    have := HNA.out i hlt
    rw [List.getD_eq_getElem?_getD (l := C), List.getElem?_eq_getElem hlt] at this
    exact this
   have HIX : Hid (Ints wr.heap.size wr (.slice px C[i].length kx) C[i]) := hIx
   have HOW : Hid (wr.ownsRow w3.heap.size 3 1 (.slice ax R.length cx) R.length (R.map (Value.int .i64))) := hown
   have HB : Hid (Below w3.heap.size w3 wr) := hb
   have HLT : Hid (i < C.length) := hlt
   clear hIx hC4 hown hb
   generalize C[i] = X at *
   clear hlt
   generalize wr = w4 at *
   have hbcw : bc < w4.heap.size := hbc
   go_wp2
   go_loopw [10, 11] (fun ev kv wr => ∃ k : Nat, k ≤ l.length ∧ kv = .int .i64 k ∧ ev = .int .i64 (eCnt X (l.take k) : Int) ∧ Below w4.heap.size w4 wr) (fun _ kv _ => l.length - (intOf kv).toNat)
   case atStart => exact ⟨0, Nat.zero_le _, rfl, rfl, Below.refl _ _⟩
   case round =>
    obtain ⟨k, hk, rfl, rfl, hbk⟩ := hrel
    have hbw := HB3.out.trans ((HB.out.trans (hbk.mono HB.out.size)).mono HB3.out.size)
    have e1 := ((HX3.out.go (HB.out.trans (hbk.mono HB.out.size)))).cell (j := 1) rfl
    have c1 := (hbk.cell (p := ⟨bc, oc + i, none⟩) hbcw).trans c0
    by_cases hkl : k < l.length
    ·have hkl' : (k : Int) < (l.length : Int) := by omega
     obtain ⟨bl, ol, rfl, hbl, hcl, hop, _⟩ := (HL.out.go hbw).open hkl
     obtain ⟨d0, d1, d2⟩ := hop wr (Below.refl _ _) k hkl
     clear hop
     have hec := eCnt_step (X := X) hkl
     have hle : eCnt X (l.take k) ≤ k := by unfold eCnt; exact Nat.le_trans List.countP_le_length (by rw [List.length_take]; omega)
     have hht : ∀ q, Calls Tryz.prog 46 #[.slice px X.length kx, .int .i64 l[k].1] (wr.drewN q) fun r w' => r = .returned (.bool (inB X l[k].1)) ∧ w' = wr.drewN q := fun q => has_any X (by omega) _ _ _ _ (HIX.out.go (below_drewN hbk q))
     have HBK : Hid (Below w4.heap.size w4 wr) := hbk
     have HKL : Hid (k < l.length) := hkl
     have HEC : Hid (eCnt X (l.take (k + 1)) = eCnt X (l.take k) + if inB X l[k].1 = true then 1 else 0) := hec
     clear hbk hbw hec
     generalize l[k] = ed at *
     generalize eCnt X (l.take k) = ec at *
     clear hkl
     go_wp2
     go_quiet ((go_at_call 46; exact Calls.quiet_of_same (hht _)))
     have HB5 : Hid (Below w4.heap.size w4 (wr.drewN nq)) := below_drewN HBK.out nq
     generalize wr.drewN nq = w5 at HB5 ⊢
     clear c1 e1 hht d0 d1 d2
     cases hin : inB X ed.1 with
     | true =>
      have HE2 : Hid (eCnt X (l.take (k + 1)) = ec + 1) := by have := HEC.out; rw [hin] at this; exact this
      clear hin HEC
      go_wp2
      exact ⟨⟨k + 1, HKL.out, by go_num, by rw [HE2.out]; go_num, HB5.out⟩, by have := HKL.out; simp [intOf]; omega⟩
     | false =>
      have HE2 : Hid (eCnt X (l.take (k + 1)) = ec) := by have := HEC.out; rw [hin] at this; exact this
      clear hin HEC
      go_wp2
      exact ⟨⟨k + 1, HKL.out, by go_num, by rw [HE2.out], HB5.out⟩, by have := HKL.out; simp [intOf]; omega⟩
    ·have hkn : ¬ (k : Int) < (l.length : Int) := by omega
     have HKE : Hid (l.take k = l) := List.take_of_length_le (by omega)
     rw [HKE.out]
     have hle : eCnt X l ≤ l.length := List.countP_le_length
     have HEV : Hid (nums.getD i 0 = (X.length : Int) - (eCnt X l : Int) + (fCnt X fs : Int) + if eCnt X l = 0 then 1 else 0) := HNM.out
     have HBK : Hid (Below w4.heap.size w4 wr) := hbk
     clear hbk hbw hkl
     generalize eCnt X l = ec at *
     generalize wr = w6 at *
     go_wp2
     go_loopw [9, 12] (fun nv kv wr => ∃ k : Nat, k ≤ fs.length ∧ kv = .int .i64 k ∧ nv = .int .i64 ((X.length : Int) - (ec : Int) + (fCnt X (fs.take k) : Int)) ∧ Below w6.heap.size w6 wr) (fun _ kv _ => fs.length - (intOf kv).toNat)
     case atStart => exact ⟨0, Nat.zero_le _, rfl, by show Value.int .i64 _ = Value.int .i64 _; congr 1; simp [fCnt], Below.refl _ _⟩
     case round =>
      clear e1 c1
      obtain ⟨k, hk, rfl, rfl, hbk⟩ := hrel
      have hb46 := HBK.out.trans (hbk.mono HBK.out.size)
      have hb36 := HB.out.trans (hb46.mono HB.out.size)
      have c1 := (hb46.cell (p := ⟨bc, oc + i, none⟩) hbcw).trans c0
      by_cases hkl : k < fs.length
      ·have hkl' : (k : Int) < (fs.length : Int) := by omega
       obtain ⟨bl, ol, rfl, hbl, hcl, pg, cg, hDg, d0⟩ := (HF3.out.go hb36).cellAt hkl
       have hne := List.length_pos_iff.2 (HFN.out _ (List.getElem_mem hkl))
       obtain ⟨bg, og, rfl, hbg, hcg, g0, g1⟩ := hDg.cellAt hne
       have hec := fCnt_step (X := X) hkl
       have hg : fs[k].getD 0 (0, 0) = fs[k][0] := by rw [List.getD_eq_getElem?_getD, List.getElem?_eq_getElem hne]; rfl
       rw [hg] at hec
       have hle2 : fCnt X (fs.take k) ≤ k := by unfold fCnt; exact Nat.le_trans List.countP_le_length (by rw [List.length_take]; omega)
       have hff := HFF.out
       have hht : ∀ q, Calls Tryz.prog 46 #[.slice px X.length kx, .int .i64 fs[k][0].1] (wr.drewN q) fun r w' => r = .returned (.bool (inB X fs[k][0].1)) ∧ w' = wr.drewN q := fun q => has_any X (by omega) _ _ _ _ (HIX.out.go (below_drewN hb46 q))
       have HBK2 : Hid (Below w6.heap.size w6 wr) := hbk
       have HKL : Hid (k < fs.length) := hkl
       have HEC : Hid (fCnt X (fs.take (k + 1)) = fCnt X (fs.take k) + if inB X fs[k][0].1 = true then 1 else 0) := hec
       clear hbk hb46 hb36 hec hg hDg
       generalize fs[k][0] = dd at *
       generalize fs[k] = fk at *
       generalize fCnt X (fs.take k) = fc at *
       rw [Nat.zero_mul, Nat.add_zero] at g0
       have hfk : (0 : Int) < (fk.length : Int) := by omega
       clear hkl g1 hne
       go_wp2
       go_quiet ((go_at_call 46; exact Calls.quiet_of_same (hht _)))
       have HB5 : Hid (Below w6.heap.size w6 (wr.drewN nq)) := below_drewN HBK2.out nq
       generalize wr.drewN nq = w5 at HB5 ⊢
       clear c1 hht d0 g0
       cases hin : inB X dd.1 with
       | true =>
        have HE2 : Hid (fCnt X (fs.take (k + 1)) = fc + 1) := by have := HEC.out; rw [hin] at this; exact this
        clear hin HEC
        go_wp2
        exact ⟨⟨k + 1, HKL.out, by go_num, by rw [HE2.out]; go_num, HB5.out⟩, by have := HKL.out; simp [intOf]; omega⟩
       | false =>
        have HE2 : Hid (fCnt X (fs.take (k + 1)) = fc) := by have := HEC.out; rw [hin] at this; exact this
        clear hin HEC
        go_wp2
        exact ⟨⟨k + 1, HKL.out, by go_num, by rw [HE2.out], HB5.out⟩, by have := HKL.out; simp [intOf]; omega⟩
      ·have hkn : ¬ (k : Int) < (fs.length : Int) := by omega
       have HKE2 : Hid (fs.take k = fs) := List.take_of_length_le (by omega)
       rw [HKE2.out]
       have hle2 : fCnt X fs ≤ fs.length := List.countP_le_length
       have hff := HFF.out
       generalize fCnt X fs = fc at *
       have hown6 := owns_below HOW.out hb46
       have HB6 : Hid (Below w3.heap.size w3 wr) := hb36
       have hlow : ∀ q, (Value.slice ax R.length cx).ownBlock = some q → w3.heap.size ≤ q := fun q hq => (HOW.out.lt q hq).1
       have HTK : Hid (R ++ [nums.getD i 0] = nums.take (i + 1)) := by
        have hin2 : i < nums.length := by rw [HNL.out]; exact HLT.out
        unfold Hid
        rw [HRT.out, take_snoc hin2, List.getD_eq_getElem?_getD, List.getElem?_eq_getElem hin2]
        rfl
       have hRl : R.length ≤ 1000 := by have := HCF.out; have := HLT.out; rw [HRT.out, List.length_take]; omega
       clear HRT
       clear hbk hb46 hb36 c1 hkl
       by_cases hec0 : ec = 0
       ·subst hec0
        have HV : Hid (nums.getD i 0 = (X.length : Int) + (fc : Int) + 1) := by
         have := HEV.out
         rw [if_pos rfl] at this
         unfold Hid
         omega
        have hownA := hown6.alloc (.cells #[.int .i64 ((X.length : Int) + (fc : Int) + 1)] 3)
        have hnews := one_cell wr (.int .i64 ((X.length : Int) + (fc : Int) + 1)) 3
        have hone : ∀ z ∈ [Value.int .i64 ((X.length : Int) + (fc : Int) + 1)], z.oneCell' = true := fun z hz => by rw [List.mem_singleton.1 hz]; rfl
        have hbA := HB6.out.alloc HB6.out.size (.cells #[.int .i64 ((X.length : Int) + (fc : Int) + 1)] 3)
        have hbs := hbA.size
        have hmx : R.length + 1 ≤ maxLen := by unfold maxLen; omega
        have hby : (R.length + 1) * 8 ≤ 140737488355328 := by omega
        clear hown6
        go_wp2_with (at_builtin; refine wpList_append_own_at _ rfl _ _ 28 rfl w3.heap.size 3 i0 (.int .i64 0) 1 8 Tryz.underlying28 hi hz0 hz1 hz2 rfl (by decide) (.slice ax R.length cx) _ _ rfl hownA ⟨wr.heap.size, 0, none⟩ 1 1 [.int .i64 ((X.length : Int) + (fc : Int) + 1)] rfl rfl hnews hone hmx hby hbs ?_)
        intro v7 w7 hown7 hg7 hnil7 hat7
        obtain ⟨a7, m7, k7, rfl⟩ := owns_slice hown7
        have HB7 : Hid (Below w3.heap.size w3 w7) := hbA.grown hg7 hbs hlow
        have HO7 : Hid (w7.ownsRow w3.heap.size 3 1 (.slice a7 m7 k7) (R ++ [((X.length : Int) + (fc : Int) + 1)]).length ((R ++ [((X.length : Int) + (fc : Int) + 1)]).map (Value.int .i64))) := by
         unfold Hid
         rw [List.length_append, List.map_append]
         exact hown7
        clear hown7 hg7 hnil7 hat7 hownA hnews hone hbA
        go_wp2
        exact ⟨⟨i + 1, R ++ [((X.length : Int) + (fc : Int) + 1)], HLT.out, by go_num, by rw [← HV.out]; exact HTK.out, HO7.out, HB7.out⟩, by have := HLT.out; simp [intOf]; omega⟩
       ·have hecb : ((ec : Int) == 0) = false := by rw [beq_eq_false_iff_ne]; omega
        have HV : Hid (nums.getD i 0 = (X.length : Int) - (ec : Int) + (fc : Int)) := by
         have := HEV.out
         rw [if_neg hec0] at this
         unfold Hid
         omega
        clear hec0
        have hownA := hown6.alloc (.cells #[.int .i64 ((X.length : Int) - (ec : Int) + (fc : Int))] 3)
        have hnews := one_cell wr (.int .i64 ((X.length : Int) - (ec : Int) + (fc : Int))) 3
        have hone : ∀ z ∈ [Value.int .i64 ((X.length : Int) - (ec : Int) + (fc : Int))], z.oneCell' = true := fun z hz => by rw [List.mem_singleton.1 hz]; rfl
        have hbA := HB6.out.alloc HB6.out.size (.cells #[.int .i64 ((X.length : Int) - (ec : Int) + (fc : Int))] 3)
        have hbs := hbA.size
        have hmx : R.length + 1 ≤ maxLen := by unfold maxLen; omega
        have hby : (R.length + 1) * 8 ≤ 140737488355328 := by omega
        clear hown6
        go_wp2_with (at_builtin; refine wpList_append_own_at _ rfl _ _ 28 rfl w3.heap.size 3 i0 (.int .i64 0) 1 8 Tryz.underlying28 hi hz0 hz1 hz2 rfl (by decide) (.slice ax R.length cx) _ _ rfl hownA ⟨wr.heap.size, 0, none⟩ 1 1 [.int .i64 ((X.length : Int) - (ec : Int) + (fc : Int))] rfl rfl hnews hone hmx hby hbs ?_)
        intro v7 w7 hown7 hg7 hnil7 hat7
        obtain ⟨a7, m7, k7, rfl⟩ := owns_slice hown7
        have HB7 : Hid (Below w3.heap.size w3 w7) := hbA.grown hg7 hbs hlow
        have HO7 : Hid (w7.ownsRow w3.heap.size 3 1 (.slice a7 m7 k7) (R ++ [((X.length : Int) - (ec : Int) + (fc : Int))]).length ((R ++ [((X.length : Int) - (ec : Int) + (fc : Int))]).map (Value.int .i64))) := by
         unfold Hid
         rw [List.length_append, List.map_append]
         exact hown7
        clear hown7 hg7 hnil7 hat7 hownA hnews hone hbA
        go_wp2
        exact ⟨⟨i + 1, R ++ [((X.length : Int) - (ec : Int) + (fc : Int))], HLT.out, by go_num, by rw [← HV.out]; exact HTK.out, HO7.out, HB7.out⟩, by have := HLT.out; simp [intOf]; omega⟩
  ·have hin : ¬ (i : Int) < (C.length : Int) := by omega
   have HKE : Hid (nums.take i = nums) := List.take_of_length_le (by rw [HNL.out]; omega)
   have HFIN : Hid (Ints wr.heap.size wr (.slice ax R.length cx) nums ∧ Below w.heap.size w wr) := by
    refine ⟨?_, HB3.out.trans (hb.mono HB3.out.size)⟩
    have := ints_owned hown
    rw [← HKE.out, ← HRT.out]
    exact this
   clear hown hb hlt hiC
   go_wp2
   go_ret
   exact ⟨.slice ax R.length cx, rfl, HFIN.out.1, HFIN.out.2⟩
end Go.Proofs.YtjpkojmjiaoifaaGreat

namespace Go.Proofs.YtjpkojmjiaoifaaGreat
open Go Go.Proofs Go.RowKit
set_option maxRecDepth 100000 in
set_option maxHeartbeats 2000000 in
theorem plane_bad (n : Int) (l : List Ed) (r : List (List Int)) (hk : sysK n l r ≠ 0) (sv rv : Value) (w : World) (hl : Edges w.heap.size w sv l) (hr : Lsts w.heap.size w rv r) :
  Calls Tryz.prog 17 #[.agg #[.int .i64 n, sv], rv] w fun e w' => e = .returned (.int .i64 (sysK n l r)) ∧ Below w.heap.size w w' := by
 have hbA : Below w.heap.size w (w.alloc (.cells #[.int .i64 n, sv] 24)) := (Below.refl _ _).alloc (Nat.le_refl _) _
 have hX : Blk 24 (w.alloc (.cells #[.int .i64 n, sv] 24)) w.heap.size [.int .i64 n, sv] := heap_alloc_new w _
 have q0 := hX.cell (j := 0) rfl
 have q1 := hX.cell (j := 1) rfl
 have hrc := sysRight_any n l r sv rv _ (hl.go hbA) (hr.go hbA)
 have HBA : Hid _ := hbA
 clear hX hl hr hbA
 generalize sysK n l r = k at *
 go_enter Tryz.func17, Tryz.ntmps17
 go_wp2_with fail
 generalize w.alloc (.cells #[.int .i64 n, sv] 24) = w1 at *
 refine hrc.mono ?_
 clear hrc
 rintro e w2 ⟨rfl, hb2⟩
 have HB2 : Hid (Below w.heap.size w w2) := HBA.out.trans (hb2.mono HBA.out.size)
 clear hb2 q0 q1
 go_wp2
 go_ret
 exact ⟨rfl, HB2.out⟩
end Go.Proofs.YtjpkojmjiaoifaaGreat

namespace Go.Proofs.YtjpkojmjiaoifaaGreat
open Go Go.Proofs Go.RowKit
def endsB (u v : Int) (e : Ed) : Bool := (decide (e.1 = u) && decide (e.2.1 = v)) || (decide (e.1 = v) && decide (e.2.1 = u))
def findP (l : List Ed) (u v : Int) : Int := match l.findIdx? (endsB u v) with
 | some i => i
 | none => -1
theorem findP_at {l : List Ed} {u v : Int} {i : Nat} {x : Ed} (hx : l[i]? = some x) (h : endsB u v x = true) (hno : ∀ k y, k < i → l[k]? = some y → endsB u v y = false) : findP l u v = i := by
 unfold findP
 have : l.findIdx? (endsB u v) = some i := by
  rw [List.findIdx?_eq_some_iff_getElem]
  obtain ⟨h1, h2⟩ := List.getElem?_eq_some_iff.1 hx
  exact ⟨h1, by rw [h2]; exact h, fun j hj => by simpa using hno j _ hj (List.getElem?_eq_getElem (by omega))⟩
 rw [this]
theorem findP_no {l : List Ed} {u v : Int} (hno : ∀ y ∈ l, endsB u v y = false) : findP l u v = -1 := by
 unfold findP
 have : l.findIdx? (endsB u v) = none := by rw [List.findIdx?_eq_none_iff]; exact hno
 rw [this]
def NoneYet (l : List Ed) (u v : Int) (j : Nat) : Prop := ∀ k y, k < j → l[k]? = some y → endsB u v y = false
theorem NoneYet.step {l : List Ed} {u v : Int} {j : Nat} (h : NoneYet l u v j) {y : Ed} (hy : l[j]? = some y) (hb : endsB u v y = false) : NoneYet l u v (j + 1) := fun k z hk hz => by
 by_cases he : k = j
 ·subst he; rw [hy] at hz; cases hz; exact hb
 ·exact h k z (by omega) hz
theorem NoneYet.none {l : List Ed} {u v : Int} (h : NoneYet l u v l.length) : findP l u v = -1 := findP_no fun y hy => by
 obtain ⟨k, hk, rfl⟩ := List.getElem_of_mem hy
 exact h k _ hk (List.getElem?_eq_getElem hk)
set_option maxRecDepth 100000 in
set_option maxHeartbeats 4000000 in
theorem refFind_any (n : Int) (l : List Ed) (hlen : l.length ≤ 4194304) (u v : Int) (sv : Value) (w : World) (hl : Edges w.heap.size w sv l) :
  Calls Tryz.prog 66 #[.agg #[.int .i64 n, sv], .int .i64 u, .int .i64 v] w fun r w' => r = .returned (.int .i64 (findP l u v)) ∧ Grew w w' := by
 obtain ⟨p, c, rfl⟩ := hl.len
 have hg1 : Grew w (w.alloc (.cells #[.int .i64 n, .slice p l.length c] 24)) := (Grew.refl w).alloc _
 go_enter Tryz.func66, Tryz.ntmps66
 go_wp2
 go_loopw [7] (fun i wr => ∃ j : Nat, j ≤ l.length ∧ i = .int .i64 j ∧ Hid (NoneYet l u v j) ∧ Grew (w.alloc (.cells #[.int .i64 n, .slice p l.length c] 24)) wr) (fun i _ => l.length - (intOf i).toNat)
 case atStart => exact ⟨0, Nat.zero_le _, rfl, fun k y hk => by omega, Grew.refl _⟩
 case round =>
  obtain ⟨j, hj, rfl, hr, hg⟩ := hrel
  have q1 : wr.cell? ⟨w.heap.size, 1, none⟩ = some (.slice p l.length c) := (box2 _ hg).2
  by_cases hlt : j < l.length
  ·obtain ⟨b, off, rfl, hbb, hcap, hc, -⟩ := hl.open hlt
   obtain ⟨c0, c1, c2⟩ := hc wr (hg1.trans hg).below j hlt
   have hjl : (j : Int) < (l.length : Int) := by omega
   have HY : Hid (l[j]? = some l[j]) := List.getElem?_eq_getElem hlt
   have HI : Hid (∀ y, y = l[j] → l[j]? = some y) := fun y hy => by rw [hy]; exact HY.out
   have hX : Hid (l[j] = (l[j].1, l[j].2.1, l[j].2.2)) := rfl
   clear hc HY
   generalize l[j].1 = y1 at c0 hX
   generalize l[j].2.1 = y2 at c1 hX
   generalize l[j].2.2 = y3 at c2 hX
   have HZ : Hid (l[j]? = some (y1, y2, y3)) := HI.out _ hX.out.symm
   clear HI hX
   by_cases hb : endsB u v (y1, y2, y3) = true
   ·have HF : Hid (findP l u v = j) := findP_at HZ.out hb hr.out
    have hb2 : (y1 = u ∧ y2 = v) ∨ (y1 = v ∧ y2 = u) := by simpa [endsB] using hb
    clear HZ hr hb
    by_cases h0 : y1 = u
    ·have e0 : (y1 == u) = true := by simpa using h0
     by_cases h1 : y2 = v
     ·have e1 : (y2 == v) = true := by simpa using h1
      clear h0 h1 hb2
      go_wp2
      go_ret
      exact ⟨by rw [HF.out]; rfl, hg1.trans hg⟩
     ·have e1 : (y2 == v) = false := by simpa using h1
      have e2 : (y1 == v) = true := by simp; omega
      have e3 : (y2 == u) = true := by simp; omega
      clear h0 h1 hb2
      go_wp2
      go_ret
      exact ⟨by rw [HF.out]; rfl, hg1.trans hg⟩
    ·have e0 : (y1 == u) = false := by simpa using h0
     have e2 : (y1 == v) = true := by simp; omega
     have e3 : (y2 == u) = true := by simp; omega
     clear h0 hb2
     go_wp2
     go_ret
     exact ⟨by rw [HF.out]; rfl, hg1.trans hg⟩
   ·have HN : Hid (NoneYet l u v (j + 1)) := hr.out.step HZ.out (by simpa using hb)
    have hb2 : ¬ ((y1 = u ∧ y2 = v) ∨ (y1 = v ∧ y2 = u)) := by simpa [endsB] using hb
    clear HZ hr hb
    by_cases h0 : y1 = u
    ·have e0 : (y1 == u) = true := by simpa using h0
     have e1 : (y2 == v) = false := by simp; omega
     by_cases h2 : y1 = v
     ·have e2 : (y1 == v) = true := by simpa using h2
      have e3 : (y2 == u) = false := by simp; omega
      clear h0 h2 hb2
      go_wp2
      exact ⟨⟨j + 1, by omega, by go_num, HN, hg⟩, by simp [intOf]; omega⟩
     ·have e2 : (y1 == v) = false := by simpa using h2
      clear h0 h2 hb2
      go_wp2
      exact ⟨⟨j + 1, by omega, by go_num, HN, hg⟩, by simp [intOf]; omega⟩
    ·have e0 : (y1 == u) = false := by simpa using h0
     by_cases h2 : y1 = v
     ·have e2 : (y1 == v) = true := by simpa using h2
      have e3 : (y2 == u) = false := by simp; omega
      clear h0 h2 hb2
      go_wp2
      exact ⟨⟨j + 1, by omega, by go_num, HN, hg⟩, by simp [intOf]; omega⟩
     ·have e2 : (y1 == v) = false := by simpa using h2
      clear h0 h2 hb2
      go_wp2
      exact ⟨⟨j + 1, by omega, by go_num, HN, hg⟩, by simp [intOf]; omega⟩
  ·obtain rfl : j = l.length := by omega
   have HF : Hid (findP l u v = -1) := hr.out.none
   clear hr
   go_wp2
   go_ret
   exact ⟨by rw [HF.out]; rfl, hg1.trans hg⟩
end Go.Proofs.YtjpkojmjiaoifaaGreat
