import Derived.Test.YtalflecmadacaaaGreatZBZ
import Derived.Test.YtalflecmadacaaaGreatZBL
set_option maxRecDepth 100000
set_option maxHeartbeats 8000000
namespace Go.Proofs.YtalflecmadacaaaGreat
open Go Go.Proofs Go.RowKit
theorem join_two (N : Nat) (L : List Eg) (a b : Nat) (hN : N ≤ 40) (hab : a < b) (hb : b < N) (hk : rgtW (N : Int) (L.map edE) = 0) (hm : L.length ≤ 4194304) (hE : ∀ e ∈ L, e.1 < N ∧ e.2.1 < N) (hW : ∀ e ∈ L, e.2.2 ≤ 2147483647) (hc : ConnT L b a) (sv bv : Value) (w : World) (hl : Edges w.heap.size w sv (L.map edE)) (hI : Ints w.heap.size w bv [(a : Int), (b : Int)]) :
  Calls Tryz.prog 31 #[.agg #[.int .i64 (N : Int), sv], bv] w fun e w' => ∃ (lv : Value) (T : List Bool), e = .returned (.tuple #[lv, .int .i64 (sumP L (trueL T)), .int .i64 0]) ∧ T.length = L.length ∧ w'.ownsRow w.heap.size 3 1 lv (trueL T).length ((trueL T).map (Value.int .i64)) ∧ rsB (trueL T) L.length = true ∧ oddV N L (trueL T) = [(a : Int), (b : Int)] ∧ (∀ D, IsD L b N D → sumP L (trueL T) = at' D a) ∧ Below w.heap.size w w' := by
 have hmix := mixed
 obtain ⟨p, c, rfl⟩ := hl.lenG
 obtain ⟨pb, cb, rfl⟩ := hI.len
 have ha : a < N := by omega
 have hN2 : N ≤ 1048576 := by omega
 have hrs : rsB [(a : Int), (b : Int)] (N : Int) = true := by
  rw [rs_iff]
  refine ⟨fun x hx => ?_, by simp; omega⟩
  simp only [List.mem_cons, List.not_mem_nil, or_false] at hx
  rcases hx with rfl | rfl <;> omega
 have hplc : plcB N [(a : Int), (b : Int)] = true := rs_plc hrs
 have hfit : fitT (N : Int) (L.map edE) [(a : Int), (b : Int)] = 0 := by
  unfold fitT
  rw [if_pos hk, if_pos hrs]
 obtain ⟨w1, hw1⟩ : ∃ W, (w.alloc (.cells #[.int .i64 (N : Int), .slice p L.length c] 24)) = W := ⟨_, rfl⟩
 have hb1 : Below w.heap.size w w1 := by rw [← hw1]; exact (Below.refl _ _).alloc (Nat.le_refl _) _
 have hX1 : Blk 24 w1 w.heap.size [.int .i64 (N : Int), .slice p L.length c] := by rw [← hw1]; exact heap_alloc_new w _
 have hl1 : Edges w1.heap.size w1 (.slice p L.length c) (L.map edE) := hl.go hb1
 have hI1 : Ints w1.heap.size w1 (.slice pb 2 cb) [(a : Int), (b : Int)] := (hI.below hb1).mono hb1.size
 have hft := fitsT_any (N : Int) (L.map edE) [(a : Int), (b : Int)] (by simp) _ _ w1 hl1 hI1
 rw [hfit] at hft
 have x0 := hX1.cell (j := 0) rfl
 have x1 := hX1.cell (j := 1) rfl
 have HX1 : Hid (Blk 24 w1 w.heap.size [.int .i64 (N : Int), .slice p L.length c]) := hX1
 have HB1 : Hid (Below w.heap.size w w1) := hb1
 have HL1 : Hid (Edges w1.heap.size w1 (.slice p L.length c) (L.map edE)) := hl1
 have HI1 : Hid (Ints w1.heap.size w1 (.slice pb 2 cb) [(a : Int), (b : Int)]) := hI1
 have HH : Hid ((∀ e ∈ L, e.1 < N ∧ e.2.1 < N) ∧ (∀ e ∈ L, e.2.2 ≤ 2147483647) ∧ ConnT L b a) := ⟨hE, hW, hc⟩
 have HPLC : Hid (plcB N [(a : Int), (b : Int)] = true) := hplc
 clear hX1 hb1 hl1 hI1 hl hI hE hW hc hk hrs hplc hfit
 go_enter Tryz.func31, Tryz.ntmps31
 go_wp2_with fail
 refine hft.mono ?_
 rintro e w2 ⟨rfl, hg2⟩
 clear hft hw1 x0 x1
 have hb2 := hg2.below
 have hX2 := HX1.out.go hb2
 have x0 := hX2.cell (j := 0) rfl
 have x1 := hX2.cell (j := 1) rfl
 have HX2 : Hid (Blk 24 w2 w.heap.size [.int .i64 (N : Int), .slice p L.length c]) := hX2
 have HB2 : Hid (Below w.heap.size w w2) := HB1.out.trans (hb2.mono HB1.out.size)
 have HL2 : Hid (Edges w2.heap.size w2 (.slice p L.length c) (L.map edE)) := HL1.out.go hb2
 have HI2 : Hid (Ints w2.heap.size w2 (.slice pb 2 cb) [(a : Int), (b : Int)]) := (HI1.out.below hb2).mono hb2.size
 have hld := leaders_any N L hN2 hm HH.out.1 _ w2 HL2.out
 clear hX2 hb2 hg2 HX1 HB1 HL1 HI1
 go_wp2_with fail
 refine hld.mono ?_
 rintro e w3 ⟨g, R, rfl, hR, hG, hb3, hg⟩
 clear hld x0 x1
 have hX3 := HX2.out.go hb3
 have x0 := hX3.cell (j := 0) rfl
 have x1 := hX3.cell (j := 1) rfl
 have HX3 : Hid (Blk 24 w3 w.heap.size [.int .i64 (N : Int), .slice p L.length c]) := hX3
 have HB3 : Hid (Below w.heap.size w w3) := HB2.out.trans (hb3.mono HB2.out.size)
 have HL3 : Hid (Edges w3.heap.size w3 (.slice p L.length c) (L.map edE)) := HL2.out.go hb3
 have HI3 : Hid (Ints w3.heap.size w3 (.slice pb 2 cb) [(a : Int), (b : Int)]) := (HI2.out.below hb3).mono hb3.size
 have HG3 : Hid (Blk 3 w3 g (natsV (leadL N R))) := hG
 have HR : Hid (LeadP L N R) := hR
 have hRN : ∀ v, v < N → R v < N := fun v hv => Nat.lt_of_le_of_lt (hR.low v hv) hv
 have HRab : Hid (R b = R a) := (hR.iff b a hb ha).2 HH.out.2.2
 have hio := isOdd_any N R [(a : Int), (b : Int)] hN2 hRN HPLC.out (by simp) g _ w3 HG3.out HI3.out
 rw [turn_two HRab.out.symm (hRN a ha)] at hio
 have HRN : Hid _ := hRN
 clear hX3 hb3 HX2 HB2 HL2 HI2 hG hR hg hRN
 go_wp2_with fail
 refine hio.mono ?_
 rintro e w4 ⟨rfl, hb4⟩
 clear hio x0 x1
 have hX4 := HX3.out.go hb4
 have x0 := hX4.cell (j := 0) rfl
 have x1 := hX4.cell (j := 1) rfl
 have HX4 : Hid (Blk 24 w4 w.heap.size [.int .i64 (N : Int), .slice p L.length c]) := hX4
 have HB4 : Hid (Below w.heap.size w w4) := HB3.out.trans (hb4.mono HB3.out.size)
 have HL4 : Hid (Edges w4.heap.size w4 (.slice p L.length c) (L.map edE)) := HL3.out.go hb4
 have HI4 : Hid (Ints w4.heap.size w4 (.slice pb 2 cb) [(a : Int), (b : Int)]) := (HI3.out.below hb4).mono hb4.size
 have HG4 : Hid (Blk 3 w4 g (natsV (leadL N R))) := HG3.out.go hb4
 clear hX4 hb4 HX3 HB3 HL3 HI3 HG3
 have HBR : Hid (∀ v ∈ [(a : Int), (b : Int)], R v.toNat = R a) := by
  intro v hv
  simp only [List.mem_cons, List.not_mem_nil, or_false] at hv
  rcases hv with rfl | rfl
  ·rfl
  ·exact HRab.out
 obtain ⟨i0, hi, hz0, hz1, hz2⟩ := info_parts infoBT
 go_wp2_with (at_make; refine wpList_make_full _ rfl _ _ 25 rfl w4.heap.size 4 i0 (.bool false) 1 Tryz.underlying25 hi hz0 hz1 .i64 .i64 _ _ L.length rfl rfl rfl rfl (by rw [hz2]; omega) (by unfold maxLen; omega) (Nat.le_refl _) ?_; intro w5 hown hgrow; have hb5 : Below w4.heap.size w4 w5 := (Below.refl _ _).grown hgrow (Nat.le_refl _) (fun k e => by cases e); have hrow := Blk.made hown; rw [bools_madeT] at hrow; have HTk5 : Hid (Blk 4 w5 w4.heap.size ((List.replicate L.length false).map Value.bool)) := hrow; clear hown hgrow hrow x0 x1; have hX5 := HX4.out.go hb5; have x0 := hX5.cell (j := 0) rfl; have x1 := hX5.cell (j := 1) rfl; have HX5 : Hid (Blk 24 w5 w.heap.size [.int .i64 (N : Int), .slice p L.length c]) := hX5; have HB5 : Hid (Below w4.heap.size w4 w5) := hb5; clear hX5; have hsp := split_any N L R (R a) [(a : Int), (b : Int)] hN2 hm HH.out.1 HRN.out HR.out.all HPLC.out HBR.out (by simp) (by simp) g (.slice p L.length c) (.slice pb 2 cb) w5 (HL4.out.go hb5) (HG4.out.go hb5) ((HI4.out.below hb5).mono hb5.size); clear hb5)
 refine hsp.mono ?_
 rintro e w6 ⟨pl, pk, cap, sE, sP, sT, rfl, hpl0, hpl, hpk, hPc, hsE, hsP, hsT, hb6⟩
 clear hsp x0 x1 hi hz0 hz1 hz2
 obtain ⟨bT, cT, rfl, hbT, htc⟩ := row_int hsT (by simp [tkQ])
 have ht0 : w6.cell? ⟨bT, 0, none⟩ = some (.int .i64 (nm R (R a) a : Int)) := htc 0 _ (by simp [tkQ])
 have ht1 : w6.cell? ⟨bT, 1, none⟩ = some (.int .i64 (nm R (R a) b : Int)) := htc 1 _ (by simp [tkQ])
 have hX6 := HX5.out.go hb6
 have x0 := hX6.cell (j := 0) rfl
 have x1 := hX6.cell (j := 1) rfl
 have HX6 : Hid (Blk 24 w6 w.heap.size [.int .i64 (N : Int), .slice p L.length c]) := hX6
 have HB56 : Hid (Below w5.heap.size w5 w6) := hb6
 have hs5 := HTk5.out.lt
 have hTk6 := HTk5.out.go hb6
 have hPl : ((subP R (R a) L).map fun i : Nat => (i : Int)).length = (subE R (R a) L).length := by rw [List.length_map]; exact (sub_len R (R a) L).1.symm
 have hsl := (sub_len R (R a) L).2
 have hrep : (List.replicate L.length false).length = L.length := List.length_replicate
 have hpj := pjoin_any (nm R (R a) N) (subE R (R a) L) (nm R (R a) a) (nm R (R a) b) ((subP R (R a) L).map fun i : Nat => (i : Int)) (List.replicate L.length false) (by have := nm_le R (R a) N; omega) (nm_lt rfl ha) (nm_lt HRab.out hb) (by omega) (sub_ends HH.out.1 HR.out.all) (sub_few HH.out.2.1) (rgt_of (by have := nm_le R (R a) N; omega) (by omega) (sub_ends HH.out.1 HR.out.all) (sub_few HH.out.2.1)) hPl (fun q hq => by rw [hrep]; exact subP_plc q hq) sE sP pk bT cT w4.heap.size w5.heap.size w6 hPc (edges_ownsJ hsE) ht0 ht1 hTk6 hsP hs5 (by omega) (fun D V hok => sub_near hN HH.out.1 HH.out.2.1 HR.out.all ha hb rfl HRab.out HH.out.2.2 hok.dist)
 rw [hrep] at hpj
 have hpl6 := hpl0
 clear hX6 hPc hsE hsP hsT hb6 htc ht0 ht1 hTk6 hPl hsl hrep hpk
 go_wp2
 go_loopw [5, 38] (fun c5 i wr => c5 = .int .i64 0 ∧ ((i = .int .i64 0 ∧ wr = w6) ∨ (i = .int .i64 1 ∧ ∃ D V, Hid (OKc (subE R (R a) L) (nm R (R a) b) (nm R (R a) N) D V ∧ Blk 4 wr w4.heap.size ((tookT R (R a) (nm R (R a) N) L V a).map Value.bool) ∧ Tch w4.heap.size w6 wr)))) (fun _ i _ => 1 - (intOf i).toNat)
 case atStart => exact ⟨rfl, .inl ⟨rfl, rfl⟩⟩
 case round =>
  obtain ⟨rfl, hrel⟩ := hrel
  rcases hrel with ⟨rfl, rfl⟩ | ⟨rfl, D, V, HF⟩
  ·go_wp2_with fail
   refine hpj.mono ?_
   rintro e w7 ⟨D, V, rfl, hok, hT7, hTc⟩
   have HF : Hid (OKc (subE R (R a) L) (nm R (R a) b) (nm R (R a) N) D V ∧ Blk 4 w7 w4.heap.size ((tookT R (R a) (nm R (R a) N) L V a).map Value.bool) ∧ Tch w4.heap.size wr w7) := by
    rw [plcW_sub] at hT7
    exact ⟨hok, hT7, hTc⟩
   clear hpj hok hT7 hTc
   go_wp2
   exact ⟨⟨rfl, .inr ⟨rfl, D, V, HF⟩⟩, by simp [intOf]⟩
  ·clear hpj hpl6 hpl0 ha
   obtain ⟨T, hT⟩ : ∃ T, tookT R (R a) (nm R (R a) N) L V a = T := ⟨_, rfl⟩
   have hlT : T.length = L.length := by rw [← hT]; exact took_len _ _ _ _ _ _
   obtain ⟨d, hd1, hd2⟩ := sub_near hN HH.out.1 HH.out.2.1 HR.out.all (show a < N by omega) hb rfl HRab.out HH.out.2.2 HF.out.1.dist
   have HALL : Hid (rsB (trueL T) L.length = true ∧ oddV N L (trueL T) = [(a : Int), (b : Int)] ∧ ∀ D', IsD L b N D' → sumP L (trueL T) = at' D' a) := by
    obtain ⟨h1, h2, h3⟩ := took_all HH.out.1 HR.out.all (show a < N by omega) hb hab rfl HRab.out HF.out.1 (by omega)
    rw [hT] at h1 h2 h3
    exact ⟨h1, h2, fun D' hD' => h3.trans (sub_dist HR.out.all HRab.out rfl (show a < N by omega) hD' HF.out.1.dist)⟩
   have hTk := HF.out.2.1
   rw [hT] at hTk
   have hb4r : Below w4.heap.size w4 wr := HF.out.2.2.below (HB5.out.trans (HB56.out.mono HB5.out.size)) (Nat.le_refl _) (by have := HB5.out.size; have := HB56.out.size; omega)
   have HB4r : Hid (Below w4.heap.size w4 wr) := hb4r
   have hto := trueOnes_any T (by omega) (.slice (some ⟨w4.heap.size, 0, none⟩) L.length L.length) wr (hTk.boolsT hlT)
   have HlT : Hid (T.length = L.length) := hlT
   clear HF hTk hb4r hT hd1 hd2 d hlT x0 x1
   go_wp2_with fail
   refine hto.mono ?_
   rintro e w8 ⟨lv, rfl, ho, hb8⟩
   clear hto
   have HB8 : Hid (Below w4.heap.size w4 w8) := HB4r.out.trans (hb8.mono HB4r.out.size)
   have HO : Hid (w8.ownsRow wr.heap.size 3 1 lv (trueL T).length ((trueL T).map (Value.int .i64))) := ho
   obtain ⟨pa, ca, rfl⟩ := owns_formPT ho
   have HX8 : Hid (Blk 24 w8 w.heap.size [.int .i64 (N : Int), .slice p L.length c]) := HX4.out.go HB8.out
   have HPL : Hid (∀ x ∈ trueL T, ∃ i : Nat, x = i ∧ i < L.length) := fun x hx => by
    obtain ⟨i, h1, h2, _⟩ := trueL_mem.1 hx
    exact ⟨i, h1, by have := HlT.out; omega⟩
   have hIl : (trueL T).length ≤ 4194304 := by have := trueK_len T T.length; have := HlT.out; show (trueK T T.length).length ≤ _; omega
   have HT2 : Hid (w8.ownsRow wr.heap.size 3 1 (.slice pa (trueL T).length ca) (trueL T).length ((trueL T).map (Value.int .i64)) ∧ trueL T = trueL T) := ⟨ho, rfl⟩
   clear ho hb8
   have HF2 : Hid (∀ A : List Int, 0 ≤ sumP L A ∧ sumP L A ≤ ((A.length * 2147483647 : Nat) : Int)) := sumP_few HH.out.2.1
   obtain ⟨I, hI⟩ : ∃ I, trueL T = I := ⟨_, rfl⟩
   have HI : Hid (trueL T = I) := hI
   rw [hI] at HALL HO HPL hIl ⊢
   clear HT2 hI
   go_wp2
   go_loopw [5, 53] (fun cv i wr2 => ∃ k : Nat, k ≤ I.length ∧ cv = .int .i64 (sumP L (I.take k)) ∧ i = .int .i64 (k : Int) ∧ wr2 = w8) (fun _ i _ => I.length - (intOf i).toNat)
   case atStart => exact ⟨0, Nat.zero_le _, rfl, rfl, rfl⟩
   case round =>
    obtain ⟨k, hk, rfl, rfl, rfl⟩ := hrel
    by_cases hlt : k < I.length
    ·have hkl : (k : Int) < (I.length : Int) := by omega
     obtain ⟨gw, cw, hgw, hgb, hgc⟩ := row_int HO.out (by omega)
     simp only [Value.slice.injEq] at hgw
     obtain ⟨rfl, _, rfl⟩ := hgw
     have c0 := hgc k I[k] (List.getElem?_eq_getElem hlt)
     obtain ⟨i, hi1, hi2⟩ := HPL.out I[k] (List.getElem_mem hlt)
     rw [hi1] at c0
     obtain ⟨b', off, rfl, hb', hcap, hcc⟩ := HL4.out.eg hi2
     obtain ⟨e0, e1, e2⟩ := hcc _ HB8.out i hi2
     have x1 := HX8.out.cell (j := 1) rfl
     have hi3 : (i : Int) < (L.length : Int) := by omega
     have HST : Hid (sumP L (I.take (k + 1)) = sumP L (I.take k) + (L[i].2.2 : Int)) := by
      show _ = _
      rw [List.take_succ_eq_append_getElem hlt, sumP_append, hi1, sumP_cons, sumP_nil]
      unfold wP
      rw [Int.toNat_natCast, List.getD_eq_getElem?_getD, List.getElem?_eq_getElem hi2]
      simp
     obtain ⟨s0, s1⟩ := HF2.out (I.take k)
     have hwl := HH.out.2.1 L[i] (List.getElem_mem hi2)
     have s2 : (I.take k).length * 2147483647 ≤ 4194304 * 2147483647 := Nat.mul_le_mul_right _ (by rw [List.length_take]; omega)
     have hs0 : 0 ≤ sumP L (I.take k) := s0
     have hs1 : sumP L (I.take k) ≤ 9007199254740992 := by omega
     generalize L[i].2.2 = wt at *
     generalize sumP L (I.take k) = S at *
     have HLT : Hid (k < I.length) := hlt
     have hwr : IntKind.i64.wrap (S + (wt : Int)) = S + (wt : Int) := wrap_i _ (by omega) (by omega)
     clear hgc hlt hi1 hi2 hcc hb' hcap s0 s1 s2 e0 e1
     go_wp2
     refine ⟨⟨k + 1, HLT.out, ?_, by go_num, trivial⟩, by have := HLT.out; simp [intOf]; omega⟩
     rw [HST.out]
    ·obtain rfl : k = I.length := by omega
     go_wp2
     refine bodyPost_ret (v := .tuple #[.slice pa I.length ca, .int .i64 (sumP L (I.take I.length)), .int .i64 0]) (by simp [results, Tryz.results31, go_sem]) rfl ?_
     refine ⟨.slice pa I.length ca, T, ?_, HlT.out, ?_, ?_, ?_, ?_, HB4.out.trans (HB8.out.mono HB4.out.size)⟩
     ·rw [HI.out, List.take_length]
     ·rw [HI.out]
      exact owns_baseT HO.out (by have := HB4.out.size; have := HB4r.out.size; omega)
     ·rw [HI.out]; exact HALL.out.1
     ·rw [HI.out]; exact HALL.out.2.1
     ·rw [HI.out]; exact HALL.out.2.2
end Go.Proofs.YtalflecmadacaaaGreat
