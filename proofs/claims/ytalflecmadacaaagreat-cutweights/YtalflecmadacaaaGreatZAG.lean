import Derived.Test.YtalflecmadacaaaGreatZAE
import Derived.Test.YtalflecmadacaaaGreatXPLinked
import Derived.Deep.RegionHeld3
import Derived.Test.YtalflecmadacaaaGreatZAA
import Derived.WalkMore
import Derived.Test.YtalflecmadacaaaGreatZAB
set_option maxRecDepth 100000
set_option maxHeartbeats 8000000
namespace Go.Proofs.YtalflecmadacaaaGreat
open Go Go.Proofs Go.RowKit
theorem infoPi : (Tryz.prog.info? 3).map (fun i => (i.zero, i.size, i.bytes)) = some (some (.int .i64 0), 1, 8) := by kernel_rfl
theorem infoPs : (Tryz.prog.info? 27).map (fun i => (i.zero, i.size, i.bytes)) = some (some (.slice none 0 0), 1, 24) := by kernel_rfl
theorem ints_cellsP (n : Nat) : (madeCells (Value.int .i64 0).cells (n * 1)).toList.length = n := by
 simp [madeCells]
theorem placesAt_any (N : Nat) (l : List Ed) (hR : RightG (N : Int) l) (sv : Value) (w : World) (hl : Edges w.heap.size w sv l) :
  Calls Tryz.prog 68 #[.agg #[.int .i64 (N : Int), sv]] w fun r w' => ∃ lb sb, r = .returned (.slice (some ⟨lb, 0, none⟩) N N) ∧ w.heap.size < lb ∧ w.heap.size < sb ∧ lb ≠ sb ∧ PlsI N lb sb (2 * l.length) (offR l (2 * l.length)) (fun v => (nb l (v : Int)).length) (fun v => plOf (v : Int) l) w' ∧ Below w.heap.size w w' := by
 have hmix := mixed
 have hg1 : Grew w (w.alloc (.cells #[.int .i64 (N : Int), sv] 24)) := (Grew.refl w).alloc _
 obtain ⟨p, c, rfl⟩ := hl.len
 obtain ⟨i0, hi, hz0, hz1, hz2⟩ := info_parts infoPs
 obtain ⟨k0, hki, hkz0, hkz1, hkz2⟩ := info_parts infoPi
 have hn1 := hR.n1
 have hm1 := hR.m1
 have hM2 : degS l N = 2 * l.length := degS_all fun e he => (hR.each e he).1
 have hbw := hg1.below
 have q0 : (w.alloc (.cells #[.int .i64 (N : Int), .slice p l.length c] 24)).cell? ⟨w.heap.size, 0, none⟩ = some (.int .i64 (N : Int)) := new_cell rfl rfl
 have q1 : (w.alloc (.cells #[.int .i64 (N : Int), .slice p l.length c] 24)).cell? ⟨w.heap.size, 1, none⟩ = some (.slice p l.length c) := new_cell rfl rfl
 have hsz1 : (w.alloc (.cells #[.int .i64 (N : Int), .slice p l.length c] 24)).heap.size = w.heap.size + 1 := by simp
 go_enter Tryz.func68, Tryz.ntmps68
 go_wp2_with (first | (at_make; refine wpList_make_full _ rfl _ _ 35 rfl (w.alloc (.cells #[.int .i64 (N : Int), .slice p l.length c] 24)).heap.size 27 i0 (.slice none 0 0) 1 Tryz.underlying35 hi hz0 hz1 .i64 .i64 _ _ N rfl rfl rfl rfl (by rw [hz2]; omega) (by unfold maxLen; omega) (Nat.le_refl _) ?_; intro w3 hown hgrow; have hb3 : Below (w.alloc (.cells #[.int .i64 (N : Int), .slice p l.length c] 24)).heap.size (w.alloc (.cells #[.int .i64 (N : Int), .slice p l.length c] 24)) w3 := (Below.refl _ _).grown hgrow (Nat.le_refl _) (fun k e => by cases e); have x0 := cell_keepK hb3 q0; have x1 := cell_keepK hb3 q1) | (at_make; refine wpList_make_full _ rfl _ _ 27 rfl 0 3 k0 (.int .i64 0) 1 Tryz.underlying27 hki hkz0 hkz1 .i64 .i64 _ _ (2 * l.length) rfl rfl rfl rfl (by rw [hkz2]; omega) (by unfold maxLen; omega) (Nat.zero_le _) ?_; intro w4 hown4 hgrow4; have hb4 : Below w3.heap.size w3 w4 := (Below.refl _ _).grown hgrow4 (Nat.le_refl _) (fun k e => by cases e); have y0 := cell_keepK hb4 x0; have y1 := cell_keepK hb4 x1))
 have hrow := Blk.made hown
 rw [slices_madeK, hsz1] at hrow
 have hcs := Blk.made hown4
 have hcl := ints_cellsP (2 * l.length)
 generalize (madeCells (Value.int .i64 0).cells (2 * l.length * 1)).toList = cs at hcs hcl
 have hrow4 := hrow.go hb4
 have hbw3 := hbw.trans (hb3.mono (by rw [hsz1]; omega))
 have hbw4 := hbw3.trans (hb4.mono hbw3.size)
 have hs3 : w.heap.size + 1 < w3.heap.size := hrow.lt
 have hs4 : w3.heap.size < w4.heap.size := hcs.lt
 clear hown hgrow hi hz0 hz1 hz2 hki hkz0 hkz1 hkz2 hb3 q0 q1 hg1 hbw hrow hown4 hgrow4 hb4 x0 x1 hbw3 hsz1
 generalize w3.heap.size = sb at *
 generalize hlb : w.heap.size + 1 = lb at *
 refine (degrees_any N l hR _ _ (hl.go hbw4)).mono ?_
 rintro e w5 ⟨dv, rfl, hdI, ⟨gd, rfl, hgd⟩, hb5⟩
 have hrow5 := hrow4.go hb5
 have hcs5 := hcs.go hb5
 have z0 := cell_keepK hb5 y0
 have z1 := cell_keepK hb5 y1
 have hbw5 := hbw4.trans (hb5.mono hbw4.size)
 have hs5 := hb5.size
 have hdI' : ∀ v, v < N → w5.cell? ⟨gd, v, none⟩ = some (.int .i64 ((nb l (v : Int)).length : Int)) := fun v hv => by
  rcases hdI with ⟨_, h0⟩ | ⟨b, off, cap, h1, h2, h3, h4⟩
  ·have := congrArg List.length h0; rw [degL_len] at this; simp at this; omega
  ·simp only [Value.slice.injEq, Option.some.injEq, Addr.mk.injEq] at h1
   obtain ⟨⟨rfl, rfl, _⟩, _, _⟩ := h1
   have := h4 v _ (degL_at (l := l) (j := l.length) hv)
   rwa [Nat.zero_add, List.take_length] at this
 have hgd5 : N = 0 ∨ gd < w5.heap.size := by
  by_cases h : N = 0
  ·exact .inl h
  ·exact .inr (World.block_lt_of_cell? w5 ⟨gd, 0, none⟩ (hdI' 0 (by omega)))
 clear hdI hrow4 hcs hb5 y0 y1 hbw4
 go_wp2
 go_loopw [4, 20] (fun rv iv wr => ∃ (j : Nat), j ≤ N ∧ iv = .int .i64 j ∧ rv = .slice (some ⟨sb, offR l (2 * l.length) j, none⟩) (2 * l.length - degS l j) (2 * l.length - degS l j) ∧ Blk 27 wr lb (halfP N sb (offR l (2 * l.length)) (fun v => (nb l (v : Int)).length) j) ∧ w5.grownBy wr (some lb)) (fun _ i _ => N - (intOf i).toNat)
 case atStart => exact ⟨0, Nat.zero_le _, rfl, by simp [offR, degS], by rw [halfP_zero]; exact hrow5, ⟨rfl, rfl, rfl, Nat.le_refl _, fun _ _ _ => rfl⟩⟩
 case round =>
  obtain ⟨j, hj, rfl, rfl, hH, hgr⟩ := hrel
  by_cases hlt : j < N
  ·have hgdl : gd < w5.heap.size := by omega
   have c0 := hgr.cell (hdI' j hlt) (by simp; omega)
   have hjl : (j : Int) < (N : Int) := by omega
   have hdl := nb_len (j : Int) l
   have hgs := hgr.size
   have o1 := hH.cell (halfP_at hlt)
   have f1 := hH.frozen j
   rw [if_neg (Nat.lt_irrefl j)] at o1
   have hds : degS l (j + 1) = degS l j + (nb l (j : Int)).length := rfl
   have hle := degS_le (l := l) (v := j + 1) (n := N) hlt
   have HST : Hid _ := halfP_step (N := N) (sb := sb) (off := offR l (2 * l.length)) (deg := fun v => (nb l (v : Int)).length) (j := j)
   have HO : Hid (offR l (2 * l.length) (j + 1) = if (nb l (j : Int)).length = 2 * l.length - degS l j then offR l (2 * l.length) j else offR l (2 * l.length) j + (nb l (j : Int)).length) := rfl
   have hgr6 : w5.grownBy (wr.setCell ⟨lb, j, none⟩ (.slice (some ⟨sb, offR l (2 * l.length) j, none⟩) 0 (nb l (j : Int)).length)).drew (some lb) := by
    refine ⟨hgr.os, hgr.tape, hgr.output, by show w5.heap.size ≤ (wr.setCell _ _).heap.size; simp; exact hgs, fun k hk hne => ?_⟩
    exact (Below.heap_setCell _ _ _ _ (fun e => hne (by rw [e]))).trans (hgr.block k hk hne)
   have hB7 := hH.set j (.slice (some ⟨sb, offR l (2 * l.length) j, none⟩) 0 (nb l (j : Int)).length)
   rw [HST.out] at hB7
   have HB7 : Hid (Blk 27 (wr.setCell ⟨lb, j, none⟩ (.slice (some ⟨sb, offR l (2 * l.length) j, none⟩) 0 (nb l (j : Int)).length)).drew lb _) := hB7
   have HG6 : Hid _ := hgr6
   rw [hM2, hds] at hle
   have HDS : Hid (degS l (j + 1) = degS l j + (nb l (j : Int)).length) := hds
   clear hB7 hgr6 hH hgr hrow5 hcs5 hcl hdI' hl hR hds HST
   generalize (nb l (j : Int)).length = d at *
   generalize degS l j = q at *
   generalize offR l (2 * l.length) j = o at *
   generalize 2 * l.length = M2 at *
   have hd0 : (d : Int) ≤ ((M2 - q : Nat) : Int) := by omega
   go_wp2
   go_big_region_o
   go_wp2
   refine ⟨⟨j + 1, by omega, by go_num, ?_, HB7.out, HG6.out⟩, by simp [intOf]; omega⟩
   rw [HO.out, HDS.out, Nat.sub_sub]
   by_cases he : d = M2 - q
   ·rw [if_pos he, if_pos he.symm]
   ·rw [if_neg he, if_neg (Ne.symm he)]
  ·obtain rfl : j = N := by omega
   have hI0 : PlsI j lb sb (2 * l.length) (offR l (2 * l.length)) (fun v => (nb l (v : Int)).length) (fun v => plOf (v : Int) (l.take 0)) wr := by
    refine ⟨?_, fun v _ => by simp [plOf, linkOf], cs, hgr.block sb (by omega) (by simp; omega) |>.trans hcs5, hcl, fun v j x _ hx => by simp [plOf, linkOf] at hx⟩
    have := hH
    rw [halfP_full] at this
    simpa [plOf, linkOf] using this
   have y1 := hgr.cell z1 (by simp; omega)
   have hbr : Below lb w5 wr := ⟨hgr.os, hgr.tape, hgr.output, hgr.size, fun k hk => hgr.block k (by omega) (by simp; omega)⟩
   have hbwr := hbw5.trans (hbr.mono (by omega))
   clear hH hgr hdI' hrow5 hcs5 hcl z0 z1
   have hsep := fun u v a b hu hv ha hb he => offR_sep (l := l) hM2 (u := u) (v := v) (j := a) (k := b) hu hv ha hb he
   have hin := fun v a hv ha => offR_in (l := l) hM2 (v := v) (j := a) hv ha
   have Hsep : Hid _ := hsep
   have Hin : Hid _ := hin
   clear hsep hin hM2
   generalize wr = wq at *
   generalize 2 * l.length - degS l j = rs
   generalize offR l (2 * l.length) j = oj
   go_wp2
   go_loopw [38] (fun i w6 => ∃ (i' : Nat), i' ≤ l.length ∧ i = .int .i64 i' ∧ PlsI j lb sb (2 * l.length) (offR l (2 * l.length)) (fun v => (nb l (v : Int)).length) (fun v => plOf (v : Int) (l.take i')) w6 ∧ Below lb wq w6) (fun i _ => l.length - (intOf i).toNat)
   case atStart => exact ⟨0, Nat.zero_le _, rfl, hI0, Below.refl _ _⟩
   case round =>
    obtain ⟨i', hi', rfl, hI, hb⟩ := hrel
    have hbw6 := hbwr.trans (hb.mono (by omega))
    by_cases hlt : i' < l.length
    ·obtain ⟨b, off, rfl, hbb, hcap, hc, -⟩ := hl.open hlt
     obtain ⟨c0, c1, c2⟩ := hc _ hbw6 i' hlt
     have hok := (hR.each l[i'] (List.getElem_mem hlt)).1
     unfold okE at hok
     obtain ⟨u, hu⟩ : ∃ u : Nat, l[i'].1 = (u : Int) := ⟨l[i'].1.toNat, by omega⟩
     obtain ⟨v, hv⟩ : ∃ v : Nat, l[i'].2.1 = (v : Int) := ⟨l[i'].2.1.toNat, by omega⟩
     have huN : u < j := by omega
     have hvN : v < j := by omega
     have hne : u ≠ v := by omega
     have huN' : (u : Int) < (j : Int) := by omega
     have hvN' : (v : Int) < (j : Int) := by omega
     have hjl : (i' : Int) < (l.length : Int) := by omega
     have HF : Hid ((fun x : Nat => plOf (x : Int) (l.take (i' + 1))) = updP (updP (fun x : Nat => plOf (x : Int) (l.take i')) u (i' : Int)) v (i' : Int)) := by
      unfold Hid
      funext x
      rw [plOf_snoc hlt]
      unfold updP
      rw [hu, hv]
      by_cases hxv : x = v
      ·subst hxv
       have h1 : ¬ ((u : Int) = (x : Int)) := by omega
       have h2 : ¬ x = u := by omega
       simp [h1, h2]
      ·by_cases hxu : x = u
       ·subst hxu
        simp [hxv]
       ·have h1 : ¬ ((u : Int) = (x : Int)) := by omega
        have h2 : ¬ ((v : Int) = (x : Int)) := by omega
        simp [hxv, hxu, h1, h2]
     have hpu : (plOf (u : Int) (l.take i')).length + 1 ≤ (nb l (u : Int)).length := by
      have h1 := nb_le l (u : Int) (i' + 1)
      rw [nb_snoc hlt, List.length_append] at h1
      unfold nbOf at h1
      rw [hu, if_pos rfl] at h1
      rw [plOf_len]
      simpa using h1
     have hpv : (plOf (v : Int) (l.take i')).length + 1 ≤ (nb l (v : Int)).length := by
      have h1 := nb_le l (v : Int) (i' + 1)
      rw [nb_snoc hlt, List.length_append] at h1
      unfold nbOf at h1
      rw [hu, hv, if_neg (by omega), if_pos rfl] at h1
      rw [plOf_len]
      simpa using h1
     rw [hu] at c0
     rw [hv] at c1
     have hul := nb_len (u : Int) l
     have hvl := nb_len (v : Int) l
     have hP1 := hI.push (by omega) Hsep.out Hin.out huN (i' : Int) hpu
     have hlen2 : (updP (fun x : Nat => plOf (x : Int) (l.take i')) u (i' : Int) v).length + 1 ≤ (nb l (v : Int)).length := by
      unfold updP; rw [if_neg (Ne.symm hne)]; exact hpv
     have o1 := hI.row.cell (rowsP_at huN)
     have fo1 := hI.row.frozen u
     obtain ⟨cq, hcq, hcql, -⟩ := hI.cur
     have hiu := Hin.out u (plOf (u : Int) (l.take i')).length huN hpu
     obtain ⟨z0, hz0⟩ : ∃ z, wr.cell? ⟨sb, offR l (2 * l.length) u + (plOf (u : Int) (l.take i')).length, none⟩ = some z := ⟨_, hcq.cell (List.getElem?_eq_getElem (by rw [hcql]; omega))⟩
     have fz0 := hcq.frozen (offR l (2 * l.length) u + (plOf (u : Int) (l.take i')).length)
     have hlbl := hI.row.lt
     have hsbl := hcq.lt
     have HP1 : Hid _ := hP1
     have HI : Hid _ := hI
     have HL2 : Hid _ := hlen2
     have HC : Hid _ := hb
     have HW6 : Hid _ := hbw6
     have HW0 : Hid _ := hbwr
     have HLT : Hid (i' < l.length) := hlt
     have hbq : b ≠ lb ∧ b ≠ sb := by omega
     obtain ⟨hb1, hb2⟩ := hbq
     clear hc hok hu hv hI hP1 hcq hcql hlen2 hb hbw6 hI0 hbr hbwr hpv y1 hgd5 hR
     generalize (plOf (u : Int) (l.take i')).length = pu at *
     generalize (nb l (u : Int)).length = du at *
     generalize offR l (2 * l.length) u = ou at *
     generalize l[i'].2.2 = wv at c2
     go_wp2
     go_big_region_o
     have hgr2 : Grew ((wr.setCell ⟨sb, ou + pu, none⟩ (.int .i64 (i' : Int))).setCell ⟨lb, u, none⟩ (.slice (some ⟨sb, ou, none⟩) (pu + 1) du)) (((((wr.setCell ⟨sb, ou + pu, none⟩ (.int .i64 (i' : Int))).setCell ⟨lb, u, none⟩ (.slice (some ⟨sb, ou, none⟩) (pu + 1) du)).alloc (.cells #[.int .i64 (u : Int), .int .i64 (v : Int), .int .i64 wv] 50)).alloc (.cells #[.int .i64 (i' : Int)] 3)).drew) := (((Grew.refl _).alloc _).alloc _).drewN 1
     have hsz2 : ((wr.setCell ⟨sb, ou + pu, none⟩ (.int .i64 (i' : Int))).setCell ⟨lb, u, none⟩ (.slice (some ⟨sb, ou, none⟩) (pu + 1) du)).heap.size = wr.heap.size := by simp
     have hI2 := HP1.out.go hgr2.below
     have hb2' : Below lb wr ((wr.setCell ⟨sb, ou + pu, none⟩ (.int .i64 (i' : Int))).setCell ⟨lb, u, none⟩ (.slice (some ⟨sb, ou, none⟩) (pu + 1) du)) := ((Below.refl _ _).setCell (p := ⟨sb, _, none⟩) (by simp only; omega) _).setCell (p := ⟨lb, u, none⟩) (Nat.le_refl _) _
     have hb3 : Below lb wq (((((wr.setCell ⟨sb, ou + pu, none⟩ (.int .i64 (i' : Int))).setCell ⟨lb, u, none⟩ (.slice (some ⟨sb, ou, none⟩) (pu + 1) du)).alloc (.cells #[.int .i64 (u : Int), .int .i64 (v : Int), .int .i64 wv] 50)).alloc (.cells #[.int .i64 (i' : Int)] 3)).drew) := (HC.out.trans hb2').trans (hgr2.below.mono (by rw [hsz2]; omega))
     have e0 : (((((wr.setCell ⟨sb, ou + pu, none⟩ (.int .i64 (i' : Int))).setCell ⟨lb, u, none⟩ (.slice (some ⟨sb, ou, none⟩) (pu + 1) du)).alloc (.cells #[.int .i64 (u : Int), .int .i64 (v : Int), .int .i64 wv] 50)).alloc (.cells #[.int .i64 (i' : Int)] 3)).drew).cell? ⟨wr.heap.size, 0, none⟩ = some (.int .i64 (u : Int)) := by go_simp
     have e1 : (((((wr.setCell ⟨sb, ou + pu, none⟩ (.int .i64 (i' : Int))).setCell ⟨lb, u, none⟩ (.slice (some ⟨sb, ou, none⟩) (pu + 1) du)).alloc (.cells #[.int .i64 (u : Int), .int .i64 (v : Int), .int .i64 wv] 50)).alloc (.cells #[.int .i64 (i' : Int)] 3)).drew).cell? ⟨wr.heap.size, 1, none⟩ = some (.int .i64 (v : Int)) := by go_simp
     have hs6 : wr.heap.size < (((((wr.setCell ⟨sb, ou + pu, none⟩ (.int .i64 (i' : Int))).setCell ⟨lb, u, none⟩ (.slice (some ⟨sb, ou, none⟩) (pu + 1) du)).alloc (.cells #[.int .i64 (u : Int), .int .i64 (v : Int), .int .i64 wv] 50)).alloc (.cells #[.int .i64 (i' : Int)] 3)).drew).heap.size := by simp; omega
     generalize (((((wr.setCell ⟨sb, ou + pu, none⟩ (.int .i64 (i' : Int))).setCell ⟨lb, u, none⟩ (.slice (some ⟨sb, ou, none⟩) (pu + 1) du)).alloc (.cells #[.int .i64 (u : Int), .int .i64 (v : Int), .int .i64 wv] 50)).alloc (.cells #[.int .i64 (i' : Int)] 3)).drew) = w7 at hI2 hb3 e0 e1 hs6 ⊢
     clear HP1 hgr2 hsz2 hb2' o1 fo1 hz0 fz0 c0 c1 c2 HI
     have hP2 := hI2.push (by omega) Hsep.out Hin.out hvN (i' : Int) HL2.out
     rw [← HF.out] at hP2
     have o2 := hI2.row.cell (rowsP_at hvN)
     have fo2 := hI2.row.frozen v
     obtain ⟨cq2, hcq, hcql, -⟩ := hI2.cur
     have hiv := Hin.out v (updP (fun x : Nat => plOf (x : Int) (l.take i')) u (i' : Int) v).length hvN HL2.out
     obtain ⟨z2, hz2⟩ : ∃ z, w7.cell? ⟨sb, offR l (2 * l.length) v + (updP (fun x : Nat => plOf (x : Int) (l.take i')) u (i' : Int) v).length, none⟩ = some z := ⟨_, hcq.cell (List.getElem?_eq_getElem (by rw [hcql]; omega))⟩
     have fz2 := hcq.frozen (offR l (2 * l.length) v + (updP (fun x : Nat => plOf (x : Int) (l.take i')) u (i' : Int) v).length)
     have hl7 := hI2.row.lt
     have hs7 := hcq.lt
     have HP2 : Hid _ := hP2
     have hlen2 := HL2.out
     clear hP2 hI2 hcq hcql hiv HL2
     generalize (updP (fun x : Nat => plOf (x : Int) (l.take i')) u (i' : Int) v).length = pv at *
     generalize (nb l (v : Int)).length = dv at *
     generalize offR l (2 * l.length) v = ov at *
     have hgr3 : Grew ((w7.setCell ⟨sb, ov + pv, none⟩ (.int .i64 (i' : Int))).setCell ⟨lb, v, none⟩ (.slice (some ⟨sb, ov, none⟩) (pv + 1) dv)) ((((w7.setCell ⟨sb, ov + pv, none⟩ (.int .i64 (i' : Int))).setCell ⟨lb, v, none⟩ (.slice (some ⟨sb, ov, none⟩) (pv + 1) dv)).alloc (.cells #[.int .i64 (i' : Int)] 3)).drew) := ((Grew.refl _).alloc _).drewN 1
     have hsz3 : ((w7.setCell ⟨sb, ov + pv, none⟩ (.int .i64 (i' : Int))).setCell ⟨lb, v, none⟩ (.slice (some ⟨sb, ov, none⟩) (pv + 1) dv)).heap.size = w7.heap.size := by simp
     have HI3 : Hid _ := HP2.out.go hgr3.below
     have hb4 : Below lb w7 ((w7.setCell ⟨sb, ov + pv, none⟩ (.int .i64 (i' : Int))).setCell ⟨lb, v, none⟩ (.slice (some ⟨sb, ov, none⟩) (pv + 1) dv)) := ((Below.refl _ _).setCell (p := ⟨sb, _, none⟩) (by simp only; omega) _).setCell (p := ⟨lb, v, none⟩) (Nat.le_refl _) _
     have HB5 : Hid (Below lb wq ((((w7.setCell ⟨sb, ov + pv, none⟩ (.int .i64 (i' : Int))).setCell ⟨lb, v, none⟩ (.slice (some ⟨sb, ov, none⟩) (pv + 1) dv)).alloc (.cells #[.int .i64 (i' : Int)] 3)).drew)) := (hb3.trans hb4).trans (hgr3.below.mono (by rw [hsz3]; omega))
     have hse : sb ≠ wr.heap.size := by omega
     have hle : lb ≠ wr.heap.size := by omega
     have hls : lb ≠ sb := by omega
     clear hgr3 hsz3 hb4 hb3 HP2 HF hl hbb hcap hb1 hb2 hlbl hsbl hs3 hs4 hs5 hgd hlb hbw5 HC HW6 HW0 Hsep Hin hpu hul hiu hi' hlt hjl huN huN'
     generalize wr.heap.size = eb at *
     go_wp2
     refine wp_region_last (S := (fun w' : World => w'.cell? ⟨eb, 0, none⟩ = some (.int .i64 (u : Int)) ∧ w'.cell? ⟨eb, 1, none⟩ = some (.int .i64 (v : Int)) ∧ w'.cell? ⟨lb, v, none⟩ = some (.slice (some ⟨sb, ov, none⟩) pv dv))) (by kernel_rfl) ?_ (fun hHeld => ?_)
     ·(try dsimp only); go_keep
     refine tkL 0 ?_ rfl (by kernel_rfl) rfl (.inl ⟨by rfl, ?_⟩) (by assumption) ?_
     rotate_left
     ·intro w h; (try dsimp only at h); go_simp; (try rfl)
     try simp only [Act.put, z4]
     refine tkL 1 ?_ rfl (by kernel_rfl) rfl (.inl ⟨by rfl, ?_⟩) (by assumption) ?_
     rotate_left
     ·intro w h; (try dsimp only at h); go_simp; (try rfl)
     try simp only [Act.put]
     refine tkL 2 ?_ rfl (by kernel_rfl) rfl (.inl ⟨by rfl, ?_⟩) (by assumption) ?_
     rotate_left
     ·intro w h; (try dsimp only at h); go_simp; (try rfl)
     try simp only [Act.put]
     refine tkL 3 ?_ rfl (by kernel_rfl) rfl (.inl ⟨by rfl, ?_⟩) (by assumption) ?_
     rotate_left
     ·intro w h; (try dsimp only at h); go_simp; (try rfl)
     try simp only [Act.put]
     refine tkL 4 ?_ rfl (by kernel_rfl) rfl (.inl ⟨by rfl, ?_⟩) (by assumption) ?_
     rotate_left
     ·intro w h; (try dsimp only at h); go_simp; (try rfl)
     try simp only [Act.put]
     refine tkL 5 ?_ rfl (by kernel_rfl) rfl (.inl ⟨by rfl, ?_⟩) (by assumption) ?_
     rotate_left
     ·intro w h; (try dsimp only at h); go_simp; (try rfl)
     try simp only [Act.put]
     refine tkL 6 ?_ rfl (by kernel_rfl) rfl (.inl ⟨by rfl, ?_⟩) (by assumption) ?_
     rotate_left
     ·intro w h; (try dsimp only at h); go_simp; (try rfl)
     try simp only [Act.put]
     refine tkL 7 ?_ rfl (by kernel_rfl) rfl (.inl ⟨by rfl, ?_⟩) (by assumption) ?_
     rotate_left
     ·intro w h; (try dsimp only at h); go_simp; (try rfl)
     try simp only [Act.put]
     refine tkL 8 ?_ rfl (by kernel_rfl) rfl (.inl ⟨by rfl, ?_⟩) (by assumption) ?_
     rotate_left
     ·intro w h; (try dsimp only at h); go_simp; (try rfl)
     try simp only [Act.put]
     refine wpAnyL_ready (rs := [9]) (by kernel_rfl) (by simp) ?_
     refine AllReadyL.cons rfl (fun K hK => ?_) AllReadyL.nil
     go_simp
     refine hK.out _ _ ?_ (fun hHeld => ?_)
     ·(try dsimp only); first | (go_keep; done) | ((repeat' apply And.intro) <;> go_simp)
     clear hK K
     try simp only [Act.put, z4, z5, z6]
     refine wpAnyL_ready (rs := [10]) (by kernel_rfl) (by simp) ?_
     refine AllReadyL.cons rfl (fun K hK => ?_) AllReadyL.nil
     go_simp
     refine hK.out _ _ ?_ (fun hHeld => ?_)
     ·(try dsimp only); first | (go_keep; done) | ((repeat' apply And.intro) <;> go_simp)
     clear hK K
     try simp only [Act.put, z4, z5, z6]
     refine tkL 11 ?_ rfl (by kernel_rfl) rfl (.inl ⟨by rfl, ?_⟩) (by assumption) ?_
     rotate_left
     ·intro w h; (try dsimp only at h); go_simp; (try rfl)
     try simp only [Act.put, z4]
     refine wpAnyL_ready (rs := [12]) (by kernel_rfl) (by simp) ?_
     refine AllReadyL.last rfl (by kernel_rfl) (fun K hK => ?_)
     go_simp
     refine hK.out _ _ ?_
     clear hK K
     try simp only [Act.put, z4, z5, z6]
     refine wpAnyL_done (by kernel_rfl) ?_ _
     have hlt2 := HLT.out
     go_wp2
     exact ⟨⟨i' + 1, HLT.out, by go_num, HI3.out, HB5.out⟩, by have := HLT.out; simp [intOf]; omega⟩
    ·obtain rfl : i' = l.length := by omega
     rw [List.take_length] at hI
     go_wp2
     go_ret
     exact ⟨lb, sb, rfl, by omega, by omega, by omega, hI, hbw6⟩
def idxF (p : Int → Bool) (L : List Int) : Int := match L.findIdx? p with
 | some i => i
 | none => -1
theorem idxF_at {p : Int → Bool} {L : List Int} {j : Nat} (hj : j < L.length) (h : p L[j] = true) (hno : ∀ (i : Nat) (h1 : i < L.length), i < j → p L[i] = false) : idxF p L = j := by
 unfold idxF
 have : L.findIdx? p = some j := by
  rw [List.findIdx?_eq_some_iff_getElem]
  exact ⟨hj, h, fun i hi => by rw [hno i (by omega) hi]; simp⟩
 rw [this]
theorem idxF_no {p : Int → Bool} {L : List Int} (hno : ∀ (i : Nat) (h1 : i < L.length), p L[i] = false) : idxF p L = -1 := by
 unfold idxF
 have : L.findIdx? p = none := by
  rw [List.findIdx?_eq_none_iff]
  intro x hx
  obtain ⟨i, hi, rfl⟩ := List.getElem_of_mem hx
  exact hno i hi
 rw [this]
theorem idxF_any (p : Int → Bool) (L : List Int) : decide (0 ≤ idxF p L) = L.any p := by
 unfold idxF
 cases h : L.findIdx? p with
 | none =>
  rw [List.findIdx?_eq_none_iff] at h
  have : L.any p = false := by rw [List.any_eq_false]; intro x hx; rw [h x hx]; simp
  rw [this]
  rfl
 | some i =>
  have h1 := h
  rw [List.findIdx?_eq_some_iff_getElem] at h1
  obtain ⟨hi, hp, _⟩ := h1
  have : L.any p = true := by rw [List.any_eq_true]; exact ⟨L[i], List.getElem_mem hi, hp⟩
  rw [this]
  simp
theorem indexF_any (f : Nat) (caps : Array Value) (p : Int → Bool) (hent : ∀ (args : Array Value) (W : World), (callFunc f args).run Tryz.prog W = .ok (.enter f args) W) (L : List Int) (hL : L.length ≤ 8388608) (sv : Value) (n : Nat) (w : World) (h : Ints n w sv L)
  (hp : ∀ x ∈ L, Calls Tryz.prog f (#[.int .i64 x] ++ caps) w fun e w' => e = .returned (.bool (p x)) ∧ w' = w) :
  Calls Tryz.prog 74 #[sv, .func (.func f) #[] caps] w fun e w' => e = .returned (.int .i64 (idxF p L)) ∧ w' = w := by
 obtain ⟨pp, c, rfl⟩ := h.len
 have HI : Hid (Ints n w (.slice pp L.length c) L) := h
 have HP : Hid (∀ x ∈ L, Calls Tryz.prog f (#[.int .i64 x] ++ caps) w fun e w' => e = .returned (.bool (p x)) ∧ w' = w) := hp
 clear h hp
 go_enter Tryz.func74, Tryz.ntmps74
 go_wp2
 go_loopw [8] (fun iv wr => ∃ j : Nat, j ≤ L.length ∧ iv = .int .i64 j ∧ Hid (∀ (i : Nat) (h1 : i < L.length), i < j → p L[i] = false) ∧ wr = w) (fun i _ => L.length - (intOf i).toNat)
 case atStart => exact ⟨0, Nat.zero_le _, rfl, fun i _ h => by omega, rfl⟩
 case round =>
  obtain ⟨j, hj, rfl, HS, rfl⟩ := hrel
  by_cases hlt : j < L.length
  ·have hjl : (j : Int) < (L.length : Int) := by omega
   obtain ⟨b, off, rfl, hbb, hcap, hc⟩ := HI.out.open hlt
   have c0 := hc wr (Below.refl _ _) j hlt
   have hcl := HP.out L[j] (List.getElem_mem hlt)
   cases hv : p L[j] with
   | false =>
    have HS2 : Hid (∀ (i : Nat) (h1 : i < L.length), i < j + 1 → p L[i] = false) := fun i h1 h => by
     by_cases e : i = j
     ·subst e; exact hv
     ·exact HS.out i h1 (by omega)
    have HLT : Hid (j < L.length) := hlt
    rw [hv] at hcl
    generalize L[j] = x at c0 hcl
    clear HS hlt hc hv
    go_wp2_with fail
    refine hcl.mono ?_
    clear hcl
    rintro e w2 ⟨rfl, rfl⟩
    go_wp2
    exact ⟨⟨j + 1, HLT.out, by go_num, HS2.out, trivial⟩, by have := HLT.out; simp [intOf]; omega⟩
   | true =>
    have HE : Hid (idxF p L = j) := idxF_at hlt hv HS.out
    rw [hv] at hcl
    generalize L[j] = x at c0 hcl
    clear HS hlt hc hv
    go_wp2_with fail
    refine hcl.mono ?_
    clear hcl
    rintro e w2 ⟨rfl, rfl⟩
    go_wp2
    go_ret
    exact ⟨by rw [HE.out]; rfl, rfl⟩
  ·obtain rfl : j = L.length := by omega
   have HE : Hid (idxF p L = -1) := idxF_no fun i hi => HS.out i hi hi
   clear HS
   go_wp2
   go_ret
   exact ⟨by rw [HE.out]; rfl, rfl⟩
theorem containsF_any (f : Nat) (caps : Array Value) (p : Int → Bool) (hent : ∀ (args : Array Value) (W : World), (callFunc f args).run Tryz.prog W = .ok (.enter f args) W) (L : List Int) (hL : L.length ≤ 8388608) (sv : Value) (n : Nat) (w : World) (h : Ints n w sv L)
  (hp : ∀ x ∈ L, Calls Tryz.prog f (#[.int .i64 x] ++ caps) w fun e w' => e = .returned (.bool (p x)) ∧ w' = w) :
  Calls Tryz.prog 46 #[sv, .func (.func f) #[] caps] w fun e w' => e = .returned (.bool (L.any p)) ∧ w' = w := by
 have hi := indexF_any f caps p hent L hL sv n w h hp
 obtain ⟨pp, c, rfl⟩ := h.len
 have HA : Hid (decide (0 ≤ idxF p L) = L.any p) := idxF_any p L
 clear h hp
 generalize idxF p L = k at *
 go_enter Tryz.func46, Tryz.ntmps46
 go_wp2_with fail
 refine hi.mono ?_
 clear hi
 rintro e w2 ⟨rfl, rfl⟩
 go_wp2
 go_ret
 exact ⟨by rw [← HA.out]; rfl, rfl⟩
end Go.Proofs.YtalflecmadacaaaGreat
namespace Go.Proofs.YtalflecmadacaaaGreat
abbrev Eg := Nat × Nat × Nat
def Jn (e : Eg) (a b : Nat) : Prop := (e.1 = a ∧ e.2.1 = b) ∨ (e.1 = b ∧ e.2.1 = a)
theorem Jn.symm {e : Eg} {a b : Nat} (h : Jn e a b) : Jn e b a := h.elim .inr .inl
def SW (l : List Eg) (s : Nat) : List Nat → Nat → Prop
 | [], _ => False
 | [v], c => v = s ∧ c = 0
 | v :: u :: t, c => ∃ e, e ∈ l ∧ Jn e u v ∧ ∃ c', c = c' + e.2.2 ∧ SW l s (u :: t) c'
theorem SW.cons {l : List Eg} {s u v : Nat} {t : List Nat} {c : Nat} {e : Eg} (he : e ∈ l) (hj : Jn e u v) (h : SW l s (u :: t) c) : SW l s (v :: u :: t) (c + e.2.2) := ⟨e, he, hj, c, rfl, h⟩
theorem SW.one (l : List Eg) (s : Nat) : SW l s [s] 0 := ⟨rfl, rfl⟩
theorem sw_cut {l : List Eg} {s : Nat} : ∀ {L : List Nat} {c : Nat} {v : Nat}, SW l s L c → v ∈ L → ∃ t c', SW l s (v :: t) c' ∧ c' ≤ c ∧ (v :: t).Sublist L
 | [], _, _, h, _ => h.elim
 | [x], c, v, h, hv => by
  have : v = x := by simpa using hv
  subst this
  exact ⟨[], c, h, Nat.le_refl _, List.Sublist.refl _⟩
 | x :: u :: t, c, v, h, hv => by
  by_cases e : v = x
  ·subst e
   exact ⟨u :: t, c, h, Nat.le_refl _, List.Sublist.refl _⟩
  ·have hv' : v ∈ u :: t := by
    rcases List.mem_cons.1 hv with h1 | h1
    ·exact absurd h1 e
    ·exact h1
   obtain ⟨e', _, _, c', hc, h'⟩ := h
   obtain ⟨t', c'', h1, h2, h3⟩ := sw_cut h' hv'
   exact ⟨t', c'', h1, by omega, h3.cons _⟩
theorem sw_simple {l : List Eg} {s : Nat} : ∀ {L : List Nat} {c : Nat} {v : Nat}, SW l s (v :: L) c → ∃ t c', SW l s (v :: t) c' ∧ c' ≤ c ∧ (v :: t).Nodup
 | [], c, v, h => ⟨[], c, h, Nat.le_refl _, by simp⟩
 | u :: t, c, v, h => by
  obtain ⟨e, he, hj, c', hc, h'⟩ := h
  obtain ⟨t1, c1, h1, h2, h3⟩ := sw_simple h'
  by_cases hv : v ∈ u :: t1
  ·obtain ⟨t2, c2, k1, k2, k3⟩ := sw_cut h1 hv
   exact ⟨t2, c2, k1, by omega, h3.sublist k3⟩
  ·exact ⟨u :: t1, c1 + e.2.2, h1.cons he hj, by omega, List.nodup_cons.2 ⟨hv, h3⟩⟩
theorem sw_lt {l : List Eg} {n s : Nat} (hl : ∀ e ∈ l, e.1 < n ∧ e.2.1 < n) (hs : s < n) : ∀ {L : List Nat} {c : Nat}, SW l s L c → ∀ v ∈ L, v < n
 | [], _, h => h.elim
 | [x], c, h => by
  intro v hv
  have : v = x := by simpa using hv
  subst this
  rw [h.1]; exact hs
 | x :: u :: t, c, h => by
  obtain ⟨e, he, hj, c', hc, h'⟩ := h
  intro v hv
  rcases List.mem_cons.1 hv with h1 | h1
  ·subst h1
   have := hl e he
   rcases hj with ⟨a, b⟩ | ⟨a, b⟩ <;> omega
  ·exact sw_lt hl hs h' v h1
theorem nodup_le : ∀ (n : Nat) (L : List Nat), L.Nodup → (∀ v ∈ L, v < n) → L.length ≤ n
 | 0, [], _, _ => Nat.le_refl _
 | 0, x :: L, _, h => absurd (h x (by simp)) (by omega)
 | n + 1, L, hn, h => by
  have h1 : (L.erase n).length ≤ n := nodup_le n (L.erase n) (hn.sublist (List.erase_sublist)) fun v hv => by
   have h2 := (hn.mem_erase_iff).1 hv
   have := h v h2.2
   have := h2.1
   omega
  have := List.length_erase_le (a := n) (l := L)
  have h3 : L.length - 1 ≤ (L.erase n).length := by
   rw [List.length_erase]
   split <;> omega
  omega
def at' (d : List Int) (v : Nat) : Int := d.getD v (-1)
theorem at_get {d : List Int} {v : Nat} (h : v < d.length) : at' d v = d[v] := by simp [at', h]
theorem at_get? {d : List Int} {v : Nat} (h : v < d.length) : d[v]? = some (at' d v) := by simp [at', h]
theorem at_set {d : List Int} {v : Nat} (x : Int) (h : v < d.length) (u : Nat) : at' (d.set v x) u = if u = v then x else at' d u := by
 unfold at'
 by_cases e : u = v
 ·subst e; simp [List.getD, h]
 ·rw [if_neg e]; simp [List.getD, List.getElem?_set_ne (Ne.symm e)]
def IsD (l : List Eg) (s n : Nat) (d : List Int) : Prop :=
 d.length = n ∧ ∀ v, v < n → (at' d v = -1 ∧ ∀ L c, ¬ SW l s (v :: L) c) ∨ ∃ c : Nat, at' d v = c ∧ (∃ L, SW l s (v :: L) c) ∧ ∀ L c', SW l s (v :: L) c' → c ≤ c'
def Kept (d : List Int) (e : Eg) : Prop := (at' d e.1 < 0 ∧ at' d e.2.1 = at' d e.1) ∨ (0 ≤ at' d e.1 ∧ 0 ≤ at' d e.2.1 ∧ at' d e.1 - at' d e.2.1 ≤ e.2.2 ∧ at' d e.2.1 - at' d e.1 ≤ e.2.2)
theorem kept_le {d : List Int} {e : Eg} (h : Kept d e) {a b : Nat} (hj : Jn e a b) (ha : 0 ≤ at' d a) : 0 ≤ at' d b ∧ at' d b ≤ at' d a + e.2.2 := by
 rcases hj with ⟨rfl, rfl⟩ | ⟨rfl, rfl⟩ <;> rcases h with h | h <;> omega
theorem sw_ge {l : List Eg} {s : Nat} {d : List Int} (hs : at' d s = 0) (hk : ∀ e ∈ l, Kept d e) : ∀ {L : List Nat} {v c : Nat}, SW l s (v :: L) c → 0 ≤ at' d v ∧ at' d v ≤ c
 | [], v, c, h => by rw [h.1, hs, h.2]; simp
 | u :: t, v, c, h => by
  obtain ⟨e, he, hj, c', hc, h'⟩ := h
  have h1 := sw_ge hs hk h'
  have h2 := kept_le (hk e he) hj h1.1
  omega
theorem isD_of {l : List Eg} {s n : Nat} {d : List Int} (hn : d.length = n) (hs : at' d s = 0) (hk : ∀ e ∈ l, Kept d e) (hw : ∀ v, v < n → at' d v = -1 ∨ ∃ L, ∃ c : Nat, at' d v = c ∧ SW l s (v :: L) c) : IsD l s n d := by
 refine ⟨hn, fun v hv => ?_⟩
 rcases hw v hv with h | ⟨L, c, h, h'⟩
 ·refine .inl ⟨h, fun L c h' => ?_⟩
  have := sw_ge hs hk h'
  omega
 ·refine .inr ⟨c, h, ⟨L, h'⟩, fun L' c' h'' => ?_⟩
  have := sw_ge hs hk h''
  omega
theorem IsD.zero {l : List Eg} {s n : Nat} {d : List Int} (h : IsD l s n d) (hs : s < n) : at' d s = 0 := by
 rcases h.2 s hs with ⟨_, b⟩ | ⟨c, a, _, k⟩
 ·exact absurd (SW.one l s) (b [] 0)
 ·have := k [] 0 (SW.one l s)
  omega
theorem IsD.ge {l : List Eg} {s n : Nat} {d : List Int} (h : IsD l s n d) {v : Nat} (hv : v < n) : -1 ≤ at' d v := by
 rcases h.2 v hv with ⟨_, b⟩ | ⟨c, a, _, k⟩ <;> omega
theorem IsD.kept {l : List Eg} {s n : Nat} {d : List Int} (h : IsD l s n d) (hl : ∀ e ∈ l, e.1 < n ∧ e.2.1 < n) {e : Eg} (he : e ∈ l) : Kept d e := by
 have hstep : ∀ a b, Jn e a b → a < n → b < n → 0 ≤ at' d a → 0 ≤ at' d b ∧ at' d b ≤ at' d a + e.2.2 := by
  intro a b hj ha hb h0
  rcases h.2 a ha with ⟨h1, _⟩ | ⟨c, h1, ⟨L, h2⟩, _⟩
  ·omega
  ·have h3 := h2.cons he hj
   rcases h.2 b hb with ⟨_, k2⟩ | ⟨c', k1, _, k3⟩
   ·exact absurd h3 (k2 _ _)
   ·have := k3 _ _ h3
    omega
 obtain ⟨h1, h2⟩ := hl e he
 have a := hstep e.1 e.2.1 (.inl ⟨rfl, rfl⟩) h1 h2
 have b := hstep e.2.1 e.1 (.inr ⟨rfl, rfl⟩) h2 h1
 have c := h.ge h1
 have c' := h.ge h2
 by_cases k : 0 ≤ at' d e.1
 ·exact .inr (by have := a k; have := b this.1; omega)
 ·by_cases k' : 0 ≤ at' d e.2.1
  ·have := b k'; omega
  ·exact .inl (by omega)
def oth (e : Eg) (v : Nat) : Nat := if e.1 = v then e.2.1 else e.1
theorem oth_jn {e : Eg} {v : Nat} (h : e.1 = v ∨ e.2.1 = v) : Jn e (oth e v) v := by
 unfold oth Jn
 by_cases k : e.1 = v
 ·rw [if_pos k]; exact .inr ⟨k, rfl⟩
 ·rw [if_neg k]; exact .inl ⟨rfl, h.resolve_left k⟩
theorem oth_of {e : Eg} {a b : Nat} (h : Jn e a b) : oth e b = a := by
 unfold oth
 rcases h with ⟨h1, h2⟩ | ⟨h1, h2⟩
 ·by_cases k : e.1 = b
  ·rw [if_pos k]; omega
  ·rw [if_neg k]; omega
 ·rw [if_pos h1]; exact h2
def par (l : List Eg) (via : List Int) (v : Nat) : Nat := if at' via v = -1 then v else oth (l.getD (at' via v).toNat (0, 0, 0)) v
def up (l : List Eg) (via : List Int) : Nat → Nat → Nat
 | 0, v => v
 | k + 1, v => up l via k (par l via v)
theorem up_add (l : List Eg) (via : List Int) : ∀ (j k v : Nat), up l via (j + k) v = up l via k (up l via j v)
 | 0, k, v => by simp [up]
 | j + 1, k, v => by rw [Nat.succ_add]; exact up_add l via j k _
theorem up_succ (l : List Eg) (via : List Int) (k v : Nat) : up l via (k + 1) v = par l via (up l via k v) := up_add l via k 1 v
theorem par_none {l : List Eg} {via : List Int} {v : Nat} (h : at' via v = -1) : par l via v = v := if_pos h
def Last (l : List Eg) (d via : List Int) (v : Nat) : Prop := ∃ i : Nat, at' via v = i ∧ ∃ e, l[i]? = some e ∧ (e.1 = v ∨ e.2.1 = v) ∧ at' d (oth e v) = at' d v - e.2.2
theorem Last.par {l : List Eg} {d via : List Int} {v : Nat} (h : Last l d via v) : ∃ i : Nat, at' via v = i ∧ ∃ e, l[i]? = some e ∧ e ∈ l ∧ Jn e (par l via v) v ∧ par l via v = oth e v ∧ at' d (par l via v) = at' d v - e.2.2 := by
 obtain ⟨i, hi, e, he, hv, hd⟩ := h
 have hp : Go.Proofs.YtalflecmadacaaaGreat.par l via v = oth e v := by
  unfold Go.Proofs.YtalflecmadacaaaGreat.par
  rw [if_neg (by omega), hi]
  have : l.getD i (0, 0, 0) = e := by simp [List.getD, he]
  rw [Int.toNat_natCast, this]
 exact ⟨i, hi, e, he, List.mem_of_getElem? he, by rw [hp]; exact oth_jn hv, hp, by rw [hp]; exact hd⟩
structure OKc (l : List Eg) (s n : Nat) (d via : List Int) : Prop where
 dist : IsD l s n d
 len : via.length = n
 zero : at' via s = -1
 last : ∀ v, v < n → v ≠ s → (at' d v < 0 ∧ at' via v = -1) ∨ (0 ≤ at' d v ∧ Last l d via v)
 come : ∀ v, v < n → 0 ≤ at' d v → ∃ k, up l via k v = s
end Go.Proofs.YtalflecmadacaaaGreat
