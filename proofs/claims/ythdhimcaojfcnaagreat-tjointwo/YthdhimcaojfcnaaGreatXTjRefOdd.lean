/-
  The contracts of the reference's Odd, Asked and Check of layer 14.
-/
import Derived.Test.YthdhimcaojfcnaaGreatXTjChk
import Derived.Test.YthdhimcaojfcnaaGreatXWaSame
namespace Go.Proofs.YthdhimcaojfcnaaGreat
open Go Go.Proofs Go.RowKit

theorem plc_take_false {m : Nat} {B : List Int} (h : plcB m B = false) (hn : ∀ i, i < B.length → 0 ≤ at' B i ∧ at' B i < (m : Int)) : False := by
  have : plcB m B = true := plc_iff.2 fun x hx => by
    obtain ⟨i, hi, rfl⟩ := List.getElem_of_mem hx
    have := hn i hi
    rwa [at_get hi] at this
  rw [this] at h
  cases h
set_option maxRecDepth 100000 in
set_option maxHeartbeats 8000000 in
theorem refOddT_any (N : Nat) (L : List Eg) (B : List Int) (hN : N ≤ 1048576) (hr : rgtW (N : Int) (L.map edE) = 0) (hE : ∀ e ∈ L, e.1 < N ∧ e.2.1 < N) (hBl : B.length ≤ 8388608) (sv bv : Value) (w : World) (hl : Edges w.heap.size w sv (L.map edE)) (hI : Ints w.heap.size w bv B) :
    Calls Tryz.prog 12 #[.agg #[.int .i64 (N : Int), sv], bv] w fun r w' => ∃ rv, r = .returned rv ∧ Ints w'.heap.size w' rv (oddK (N : Int) (L.map edE) B) ∧ Below w.heap.size w w' := by
  have hmix := mixed
  obtain ⟨p, c, rfl⟩ := hl.lenG
  obtain ⟨pb, cb, rfl, ho⟩ := hI.openW
  have HO : Hid _ := fun (j : Nat) (hj : j < B.length) => ho (j := j) hj
  clear ho
  obtain ⟨i0, hi, hz0, hz1, hz2⟩ := info_parts infoBT
  have hg1 : Grew w (w.alloc (.cells #[.int .i64 (N : Int), .slice p L.length c] 24)) := (Grew.refl w).alloc _
  have hrt := refRightW_any (N : Int) (L.map edE) _ _ (hl.go hg1.below)
  rw [hr] at hrt
  have HR0 : Hid _ := hr
  clear hr
  go_enter Tryz.func12, Tryz.ntmps12
  go_wp2_with fail
  refine hrt.mono ?_
  rintro e w1 ⟨rfl, hg2⟩
  clear hrt
  have q0 := (box2 _ hg2).1
  have q1 := (box2 _ hg2).2
  have hbox := box2_lt hg2
  have hbw : Below w.heap.size w w1 := (hg1.trans hg2).below
  go_wp2_with (at_make; refine wpList_make_full _ rfl _ _ 49 rfl w1.heap.size 4 i0 (.bool false) 1 Tryz.underlying49 hi hz0 hz1 .i64 .i64 _ _ N rfl rfl rfl rfl (by rw [hz2]; omega) (by unfold maxLen; omega) (Nat.le_refl _) ?_; intro w3 hown hgrow; have hb3 : Below w1.heap.size w1 w3 := (Below.refl _ _).grown hgrow (Nat.le_refl _) (fun k e => by cases e); have x0 := (hb3.cell (p := ⟨w.heap.size, 0, none⟩) hbox).trans q0; have x1 := (hb3.cell (p := ⟨w.heap.size, 1, none⟩) hbox).trans q1)
  have hrow := Blk.made hown
  have hsz := hrow.lt
  rw [bools_madeT, ← oddT_nil N L] at hrow
  have HRow : Hid (Blk 4 w3 w1.heap.size ((oddT N L (B.take 0)).map Value.bool)) := hrow
  have hbw3 := hbw.trans (hb3.mono hbw.size)
  clear hown hgrow hb3 hrow q0 q1 hg2 hg1 hi hz0 hz1 hz2 hbw
  obtain ⟨x, hx⟩ : ∃ n, w.heap.size = n := ⟨_, rfl⟩
  have HBW : Hid (Below x w w3) := by rw [← hx]; exact hbw3
  rw [hx] at hbox x0 x1 ⊢
  obtain ⟨g, hg⟩ : ∃ n, w1.heap.size = n := ⟨_, rfl⟩
  rw [hg] at HRow hbox hsz ⊢
  clear hbw3 hg
  go_loopw [6] (fun i wr => ∃ j : Nat, j ≤ B.length ∧ i = .int .i64 j ∧ Hid (∀ i, i < j → 0 ≤ at' B i ∧ at' B i < (L.length : Int)) ∧ Hid (Blk 4 wr g ((oddT N L (B.take j)).map Value.bool)) ∧ Hid (Tch g w3 wr)) (fun i _ => B.length - (intOf i).toNat)
  case atStart => exact ⟨0, Nat.zero_le _, rfl, fun i hi => absurd hi (by omega), HRow, Tch.refl _ _⟩
  case round =>
    obtain ⟨j, hj, rfl, HV, HR, HT⟩ := hrel
    have d0 := HT.out.cell x0 (by omega)
    have d1 := HT.out.cell x1 (by omega)
    have hbr : Below x w wr := HT.out.below HBW.out (by omega) (by omega)
    by_cases hlt : j < B.length
    · have hjl : (j : Int) < (B.length : Int) := by omega
      obtain ⟨b2, off2, rfl, hb2, hc2⟩ := HO.out j hlt
      rw [hx] at hb2 hc2
      have c0 := hc2 wr hbr j hlt
      rw [at_get hlt] at c0
      have hmem := List.getElem_mem hlt
      by_cases h1 : B[j] < 0
      · have HE : Hid (oddK (N : Int) (L.map edE) B = []) := oddK_none (by rw [List.length_map]; exact plc_not hmem (.inl h1))
        have hd1 : decide (B[j] < 0) = true := decide_eq_true h1
        have HBr : Hid (Below x w wr) := hbr
        generalize B[j] = y at c0 h1 hd1
        clear hc2 hmem hbr
        go_wp2
        go_quiet (fail)
        go_wp2
        go_ret
        exact ⟨_, rfl, by rw [HE.out]; exact Vals.nil _ _ _ _, by rw [hx]; exact below_drewN HBr.out nq⟩
      · have hd1 : decide (B[j] < 0) = false := decide_eq_false h1
        by_cases h2 : (L.length : Int) ≤ B[j]
        · have HE : Hid (oddK (N : Int) (L.map edE) B = []) := oddK_none (by rw [List.length_map]; exact plc_not hmem (.inr h2))
          have hd2 : decide ((L.length : Int) ≤ B[j]) = true := decide_eq_true h2
          have HBr : Hid (Below x w wr) := hbr
          generalize B[j] = y at c0 h1 h2 hd1 hd2
          clear hc2 hmem hbr
          go_wp2
          go_quiet (fail)
          go_wp2
          go_ret
          exact ⟨_, rfl, by rw [HE.out]; exact Vals.nil _ _ _ _, by rw [hx]; exact below_drewN HBr.out nq⟩
        · have hd2 : decide ((L.length : Int) ≤ B[j]) = false := decide_eq_false h2
          obtain ⟨i, hi1⟩ : ∃ i : Nat, B[j] = (i : Int) := ⟨B[j].toNat, by omega⟩
          have hi2 : i < L.length := by omega
          have HV2 : Hid (∀ i, i < j + 1 → 0 ≤ at' B i ∧ at' B i < (L.length : Int)) := fun i' hi' => by
            by_cases e : i' = j
            · subst e; rw [at_get hlt]; omega
            · exact HV.out i' (by omega)
          rw [hi1] at c0 hd1 hd2
          obtain ⟨b, off, rfl, hb1, hcap, hc⟩ := hl.eg hi2
          rw [hx] at hc hb1
          obtain ⟨e0, e1, e2⟩ := hc wr hbr i hi2
          obtain ⟨hu, hv⟩ := hE L[i] (List.getElem_mem hi2)
          have heA : edgeAt L (i : Int) = L[i] := edgeAt_of (List.getElem?_eq_getElem hi2)
          have HST : Hid (flipB (flipB (oddT N L (B.take j)) L[i].1) L[i].2.1 = oddT N L (B.take (j + 1))) := by
            have h1 := oddT_step (N := N) (L := L) (B := B.take j) (i := (i : Int)) (by rw [heA]; exact hu) (by rw [heA]; exact hv)
            rw [heA] at h1
            have h2 : B.take (j + 1) = B.take j ++ [(i : Int)] := by rw [List.take_succ_eq_append_getElem hlt, hi1]
            show _ = _
            rw [h2]; exact h1
          have HLT : Hid (j < B.length) := hlt
          have hi3 : (i : Int) < (L.length : Int) := by omega
          have hwx := World.block_lt_of_cell? wr _ d0
          have hwx1 := HR.out.lt
          have HlT : Hid ((oddT N L (B.take j)).length = N) := oddT_len _ _ _
          generalize oddT N L (B.take j) = T at *
          generalize L[i] = e at *
          obtain ⟨u, v, wt⟩ := e
          simp only at hu hv e0 e1 e2 HST
          clear hc hc2 hi1 heA hlt hbr h1 h2 hmem HV
          go_wp2
          go_quiet (fail)
          obtain ⟨wq, hwq⟩ : ∃ W, wr.drewN nq = W := ⟨_, rfl⟩
          have HTq : Hid (Tch g w3 wq) := by rw [← hwq]; exact HT.out.drewN nq
          have HRq : Hid (Blk 4 wq g (T.map Value.bool)) := by rw [← hwq]; exact HR.out
          have hsq : wq.heap.size = wr.heap.size := by rw [← hwq]; rfl
          have d0 : wq.cell? ⟨x, 0, none⟩ = some (.int .i64 (N : Int)) := by rw [← hwq]; exact d0
          have d1 : wq.cell? ⟨x, 1, none⟩ = some (.slice (some ⟨b, off, none⟩) L.length c) := by rw [← hwq]; exact d1
          have c0 : wq.cell? ⟨b2, off2 + j, none⟩ = some (.int .i64 (i : Int)) := by rw [← hwq]; exact c0
          have e0 : wq.cell? ⟨b, off + i * 3, none⟩ = some (.int .i64 (u : Int)) := by rw [← hwq]; exact e0
          have e1 : wq.cell? ⟨b, off + i * 3 + 1, none⟩ = some (.int .i64 (v : Int)) := by rw [← hwq]; exact e1
          have e2 : wq.cell? ⟨b, off + i * 3 + 2, none⟩ = some (.int .i64 (wt : Int)) := by rw [← hwq]; exact e2
          rw [hwq]
          clear hwq HT HR hd1 hd2
          have hs1 : x < wq.heap.size := by omega
          have hs2 : b2 < wq.heap.size := by omega
          have hs3 : b < wq.heap.size := by omega
          have hs4 : g < wq.heap.size := by omega
          clear hsq hwx hwx1
          have HE6 : Hid (Blk 46 (wq.alloc (.cells #[.int .i64 (u : Int), .int .i64 (v : Int), .int .i64 (wt : Int)] 46)).drew wq.heap.size [.int .i64 (u : Int), .int .i64 (v : Int), .int .i64 (wt : Int)]) := heap_alloc_new wq _
          have HB6 : Hid (Below wq.heap.size wq (wq.alloc (.cells #[.int .i64 (u : Int), .int .i64 (v : Int), .int .i64 (wt : Int)] 46)).drew) := below_drewN ((Below.refl _ _).alloc (Nat.le_refl _) _) 1
          have hd3 : ¬ L.length ≤ i := by omega
          go_wp2
          go_big_region_o
          obtain ⟨w6, hw6⟩ : ∃ W, (wq.alloc (.cells #[.int .i64 (u : Int), .int .i64 (v : Int), .int .i64 (wt : Int)] 46)).drew = W := ⟨_, rfl⟩
          rw [hw6] at HE6 HB6 ⊢
          have HT6 : Hid (Tch g w3 w6) := HTq.out.trans (Tch.of_below HB6.out)
          have HR6 : Hid (Blk 4 w6 g (T.map Value.bool)) := HRq.out.go HB6.out
          have hne6 : wq.heap.size ≠ g := by omega
          obtain ⟨eb, heb⟩ : ∃ n, wq.heap.size = n := ⟨_, rfl⟩
          rw [heb] at HE6 hne6 ⊢
          clear hw6 HB6 HRq HTq d0 d1 c0 e0 e1 e2 heb hs1 hs2 hs3 hs4 hd3
          have hu' : (u : Int) < (N : Int) := by omega
          have hv' : (v : Int) < (N : Int) := by omega
          have t0 := HR6.out.bcell (v := u) (by rw [HlT.out]; exact hu)
          have f0 := HR6.out.frozen u
          have z0 := HE6.out.cell (j := 0) rfl
          have HR7 : Hid _ := HR6.out.flip u
          have HT7 : Hid _ := HT6.out.set u (.bool (!bAt T u))
          have HE7 : Hid (Blk 46 (w6.setCell ⟨g, u, none⟩ (.bool (!bAt T u))) eb [.int .i64 (u : Int), .int .i64 (v : Int), .int .i64 (wt : Int)]) := HE6.out.other hne6 _
          have HlT2 : Hid ((flipB T u).length = N) := by show _ = _; rw [flipB_len]; exact HlT.out
          clear HT6 HR6 HE6
          go_wp2
          go_big_region_o
          obtain ⟨w7, hw7⟩ : ∃ W, (w6.setCell ⟨g, u, none⟩ (.bool (!bAt T u))).drew = W := ⟨_, rfl⟩
          have HR8 : Hid (Blk 4 w7 g ((flipB T u).map Value.bool)) := by rw [← hw7]; exact HR7.out
          have HT8 : Hid (Tch g w3 w7) := by rw [← hw7]; exact HT7.out.drew
          have HE8 : Hid (Blk 46 w7 eb [.int .i64 (u : Int), .int .i64 (v : Int), .int .i64 (wt : Int)]) := by rw [← hw7]; exact HE7.out
          rw [hw7]
          clear hw7 HR7 HT7 HE7 t0 f0 z0
          generalize flipB T u = T2 at *
          have t0 := HR8.out.bcell (v := v) (by rw [HlT2.out]; exact hv)
          have f0 := HR8.out.frozen v
          have z1 := HE8.out.cell (j := 1) rfl
          have HR9 : Hid _ := HR8.out.flip v
          have HT9 : Hid _ := HT8.out.set v (.bool (!bAt T2 v))
          clear HT8 HR8 HE8
          go_wp2
          go_big_region_o
          go_wp2
          refine ⟨⟨j + 1, HLT.out, by go_num, HV2, ?_, HT9.out.drew⟩, by have := HLT.out; simp [intOf]; omega⟩
          rw [← HST.out]
          exact HR9.out
    · obtain rfl : j = B.length := by omega
      have hP : plcB L.length B = true := by
        cases h : plcB L.length B with
        | true => rfl
        | false => exact (plc_take_false h fun i hi => HV.out i hi).elim
      have HE : Hid (oddK (N : Int) (L.map edE) B = oddV N L B) := oddK_ok HR0.out hP
      have HRf : Hid (Blk 4 wr g ((oddT N L B).map Value.bool)) := by
        have h1 := HR.out
        rw [List.take_length] at h1
        exact h1
      have HTl : Hid ((oddT N L B).length = N) := oddT_len _ _ _
      have HBr : Hid (Below x w wr) := hbr
      have HVs : Hid (trueK (oddT N L B) N = oddV N L B) := by show _ = _; unfold oddV trueL; rw [oddT_len]
      obtain ⟨j0, ki, kz0, kz1, kz2⟩ := info_parts infoI
      clear hbr HR HT d1 hP x0 x1
      generalize oddV N L B = Z at *
      generalize oddT N L B = T at *
      obtain ⟨w9, hw9⟩ : ∃ W, wr = W := ⟨_, rfl⟩
      rw [hw9] at HRf HBr d0 ⊢
      clear hw9
      go_wp2
      go_loopw [8, 9] (fun lv iv wr => ∃ j : Nat, j ≤ N ∧ iv = .int .i64 j ∧ wr.ownsRow w9.heap.size 3 1 lv (trueK T j).length ((trueK T j).map (Value.int .i64)) ∧ Below w9.heap.size w9 wr) (fun _ i _ => N - (intOf i).toNat)
      case atStart => exact ⟨0, Nat.zero_le _, rfl, World.ownsRow_nil _ _ _ _, Below.refl _ _⟩
      case round =>
        obtain ⟨j, hj, rfl, hO, hb⟩ := hrel
        obtain ⟨pp, cc, rfl⟩ := owns_formP hO
        have f0 := (hb.cell (p := ⟨x, 0, none⟩) (World.block_lt_of_cell? w9 _ d0)).trans d0
        by_cases hlt : j < N
        · have hjl : (j : Int) < (N : Int) := by omega
          have c0 : wr.cell? ⟨g, j, none⟩ = some (.bool (bAt T j)) := (HRf.out.go hb).bcell (by rw [HTl.out]; exact hlt)
          have hlen := trueK_len T j
          have hst : Hid _ := trueK_succ T j
          have HLT : Hid (j < N) := hlt
          clear hlt
          cases hP : bAt T j with
          | false =>
            have HE : Hid (trueK T (j + 1) = trueK T j) := by unfold Hid; rw [hst.out, hP]; simp
            have HO2 : Hid _ := hO
            have HB2 : Hid _ := hb
            rw [hP] at c0
            clear hO hb hP
            go_wp2
            refine ⟨⟨j + 1, HLT.out, by go_num, ?_, HB2.out⟩, by have := HLT.out; simp [intOf]; omega⟩
            rw [HE.out]
            exact HO2.out
          | true =>
            have HE : Hid (trueK T (j + 1) = trueK T j ++ [(j : Int)]) := by unfold Hid; rw [hst.out, hP]; simp
            have hownA := hO.alloc (.cells #[.int .i64 (j : Int)] 3)
            have hnews := one_cell wr (.int .i64 (j : Int)) 3
            have hone : ∀ u ∈ [Value.int .i64 (j : Int)], u.oneCell' = true := by intro u hu; rw [List.mem_singleton.1 hu]; rfl
            have hmx : (trueK T j).length + 1 ≤ maxLen := by unfold maxLen; omega
            have hby : ((trueK T j).length + 1) * 8 ≤ 140737488355328 := by omega
            have hbs : w9.heap.size ≤ (wr.alloc (.cells #[.int .i64 (j : Int)] 3)).heap.size := by have := hb.size; simp; omega
            have hlow : ∀ k, (Value.slice pp (trueK T j).length cc).ownBlock = some k → w9.heap.size ≤ k := fun k e => (hO.lt k e).1
            have HB2 : Hid _ := hb
            rw [hP] at c0
            clear hO hb hP
            go_wp2_with (at_builtin; refine wpList_append_own_at _ rfl _ _ 25 rfl w9.heap.size 3 j0 (.int .i64 0) 1 8 Tryz.underlying25 ki kz0 kz1 kz2 rfl (by decide) (.slice pp (trueK T j).length cc) _ _ rfl hownA ⟨wr.heap.size, 0, none⟩ 1 1 [.int .i64 (j : Int)] rfl rfl hnews hone hmx hby hbs ?_)
            intro v6 w6 hown6 hg6 hnil6 hat6
            obtain ⟨a6, m6, c6, rfl⟩ := owns_slice hown6
            have HO6 : Hid _ := hown6
            have HB6 : Hid (Below w9.heap.size w9 w6) := (HB2.out.alloc HB2.out.size _).grown hg6 hbs hlow
            clear hown6 hg6 hnil6 hat6 hownA hnews hone hmx hby hbs hlow
            go_wp2
            refine ⟨⟨j + 1, HLT.out, by go_num, ?_, HB6.out⟩, by have := HLT.out; simp [intOf]; omega⟩
            rw [HE.out, List.length_append, List.map_append]
            exact HO6.out
        · obtain rfl : N = j := by omega
          have HO2 : Hid _ := hO
          have HB2 : Hid _ := hb
          clear hO hb
          go_wp2
          go_ret
          refine ⟨_, rfl, ?_, ?_⟩
          · rw [HE.out, ← HVs.out]
            exact ints_ownsT HO2.out
          · rw [hx]
            exact HBr.out.trans (HB2.out.mono (by have := HBr.out.size; omega))
end Go.Proofs.YthdhimcaojfcnaaGreat
