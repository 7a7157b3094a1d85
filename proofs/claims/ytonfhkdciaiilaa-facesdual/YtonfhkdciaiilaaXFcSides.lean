/-
  The contract of faces.sides.
-/
import Derived.Test.YtonfhkdciaiilaaXFcSideM
import Derived.Test.YtonfhkdciaiilaaQD
namespace Go.Proofs.Ytonfhkdciaiilaa
open Go Go.Proofs Go.RowKit

theorem infoPr : (Try.prog.info? 42).map (fun i => (i.zero, i.size, i.bytes)) = some (some (.agg #[.int .i64 0, .int .i64 0]), 2, 16) := by kernel_rfl

set_option maxRecDepth 100000 in
set_option maxHeartbeats 4000000 in
theorem sides_any (n : Int) (l : List Ed) (hm : l.length ≤ 4194304) (fs : List (List Dt)) (hf : fs.length ≤ 16777216) (hin : ∀ x ∈ fs, x.length ≤ 16777216) (hnd : fs.flatten.Nodup) (sv lv : Value) (w : World) (hl : Edges w.heap.size w sv l) (hg : LDr w.heap.size w lv fs) :
    Calls Try.prog 25 #[.agg #[.int .i64 n, sv], lv] w fun e w' => ∃ g, e = .returned (.slice (some ⟨g, 0, none⟩) l.length l.length) ∧ w.heap.size ≤ g ∧ Blk 42 w' g (flatD (sidesL fs l)) ∧ Below w.heap.size w w' := by
  obtain ⟨p, c, rfl⟩ := hl.len
  obtain ⟨pg, cg, rfl⟩ := hg.len
  obtain ⟨i0, hi, hz0, hz1, hz2⟩ := info_parts infoPr
  have hbA : Below w.heap.size w (w.alloc (.cells #[.int .i64 n, .slice p l.length c] 24)) := (Below.refl _ _).alloc (Nat.le_refl _) _
  have hX : Blk 24 (w.alloc (.cells #[.int .i64 n, .slice p l.length c] 24)) w.heap.size [.int .i64 n, .slice p l.length c] := heap_alloc_new w _
  have q1 := hX.cell (j := 1) rfl
  have hs1 : (w.alloc (.cells #[.int .i64 n, .slice p l.length c] 24)).heap.size = w.heap.size + 1 := by simp
  have HL : Hid (Edges w.heap.size w (.slice p l.length c) l) := hl
  have HG : Hid (LDr w.heap.size w (.slice pg fs.length cg) fs) := hg
  have HND : Hid fs.flatten.Nodup := hnd
  have HIN : Hid (∀ x ∈ fs, x.length ≤ 16777216) := hin
  clear hl hg hnd hin
  go_enter Try.func25, Try.ntmps25
  generalize hw1 : w.alloc (.cells #[.int .i64 n, .slice p l.length c] 24) = w1 at *
  have hwp : IntKind.i64.wrap (2 * (l.length : Int)) = 2 * (l.length : Int) := wrap_i _ (by omega) (by omega)
  have hmm : (Instr.makeMap 70 (some (.int .i64 (2 * (l.length : Int))))).run Try.prog w1 = .ok (.map (some w1.heap.size)) (w1.alloc (.map #[] 0)) := by
    simp [Instr.makeMap, run_underlying Try.underlying70, asInt]
    rfl
  have hM0 : MapN (w1.alloc (.map #[] 0)) (w.heap.size + 1) [] := by rw [← hs1]; exact MapN.start w1
  have hbB : Below (w.heap.size + 1) w1 (w1.alloc (.map #[] 0)) := (Below.refl _ _).alloc (by omega) _
  go_wp2
  generalize hwm : w.heap.size + 1 = m at *
  generalize w1.alloc (.map #[] 0) = w2 at *
  clear hwp hmm hX
  go_loopw [20] (fun iv wr => ∃ j : Nat, j ≤ fs.length ∧ iv = .int .i64 j ∧ Hid (MapN wr m (entL fs j)) ∧ Below m w1 wr) (fun i _ => fs.length - (intOf i).toNat)
  case atStart => exact ⟨0, Nat.zero_le _, rfl, hM0, hbB⟩
  case round =>
    obtain ⟨j, hj, rfl, HMj, hb⟩ := hrel
    have hbw : Below w.heap.size w wr := hbA.trans (hb.mono (by omega))
    by_cases hlt : j < fs.length
    · have hjl : (j : Int) < (fs.length : Int) := by omega
      obtain ⟨b, off, rfl, hbb, hcap, px, cx, hIx, c0⟩ := (HG.out.below hbw).cellAt hlt
      have hxl := HIN.out fs[j] (List.getElem_mem hlt)
      have hg : fs.getD j [] = fs[j] := by rw [List.getD_eq_getElem?_getD, List.getElem?_eq_getElem hlt]; rfl
      have HNX : Hid (entL fs (j + 1) = entL fs j ++ (fs[j].take fs[j].length).map fun d => (d, (j : Int))) := by rw [Hid, entL_succ, hg, List.take_length]
      have HNW : Hid (∀ k (hk : k < fs[j].length), ∀ q ∈ entL fs j ++ (fs[j].take k).map fun d => (d, (j : Int)), q.1 ≠ fs[j][k]) := fun k hk => ent_new HND.out hlt hk
      have HBW : Hid (Below w.heap.size w wr) := hbw
      have HIX : Hid (Drts w.heap.size wr (.slice px fs[j].length cx) fs[j]) := hIx
      clear hg hIx hbw
      generalize fs[j] = X at *
      generalize wr = w4 at *
      go_wp2
      go_loopw [27] (fun iv wx => ∃ k : Nat, k ≤ X.length ∧ iv = .int .i64 k ∧ Hid (MapN wx m (entL fs j ++ (X.take k).map fun d => (d, (j : Int)))) ∧ Below m w4 wx) (fun i _ => X.length - (intOf i).toNat)
      case atStart => exact ⟨0, Nat.zero_le _, rfl, by unfold Hid; simpa using HMj.out, Below.refl _ _⟩
      case round =>
        obtain ⟨k, hk, rfl, HMk, hbk⟩ := hrel
        by_cases hkl : k < X.length
        · have hkl' : (k : Int) < (X.length : Int) := by omega
          obtain ⟨b2, off2, hpx, hbb2, hcap2, c2, c3⟩ := (HIX.out.below (hbk.mono (by omega))).cellAt hkl
          have HNK : Hid _ := HNW.out k hkl
          have HRS : Hid ((X.take (k + 1)).map (fun d => (d, (j : Int))) = (X.take k).map (fun d => (d, (j : Int))) ++ [(X[k], (j : Int))]) := by
            unfold Hid
            rw [List.take_add_one, List.getElem?_eq_getElem hkl, List.map_append]
            rfl
          subst hpx
          have hms : m < wr.heap.size := HMk.out.lt
          generalize X[k] = x at *
          obtain ⟨xa, xb⟩ := x
          simp only at c2 c3
          have HBK : Hid (Below m w4 wr) := hbk
          have hbN : Below wr.heap.size wr (wr.alloc (.cells #[.int .i64 xa, .int .i64 xb] 61)) := (Below.refl _ _).alloc (Nat.le_refl _) _
          have HMN : Hid (MapN (wr.alloc (.cells #[.int .i64 xa, .int .i64 xb] 61)) m (entL fs j ++ (X.take k).map fun d => (d, (j : Int)))) := HMk.out.keep (hbN.block m hms)
          clear hbk HMk hbN
          go_wp2_with (at_mapUpdate; refine wpList_putN _ rfl _ _ _ rfl m (entL fs j ++ (X.take k).map fun d => (d, (j : Int))) (xa, xb) (j : Int) rfl HMN.out HNK.out rfl rfl ?_; intro w5 hM5 hg5)
          have HM5 : Hid (MapN w5 m (entL fs j ++ (X.take (k + 1)).map fun d => (d, (j : Int)))) := by rw [Hid, HRS.out, ← List.append_assoc]; exact hM5
          have hb5 : Below m w4 w5 := (HBK.out.alloc (by omega) _).grown hg5 (by simp; omega) (fun q e => by cases e; exact Nat.le_refl _)
          exact ⟨⟨k + 1, by omega, by go_num, HM5, hb5⟩, by simp [intOf]; omega⟩
        · obtain rfl : k = X.length := by omega
          have hkl' : ¬ (X.length : Int) < (X.length : Int) := by omega
          go_wp2
          exact ⟨⟨j + 1, by omega, by go_num, by rw [HNX.out]; exact HMk.out, hb.trans hbk⟩, by simp [intOf]; omega⟩
    · obtain rfl : j = fs.length := by omega
      have hjl : ¬ (fs.length : Int) < (fs.length : Int) := by omega
      have y1 := (hb.cell (p := ⟨w.heap.size, 1, none⟩) (by simp only; omega)).trans q1
      have hms : m < wr.heap.size := HMj.out.lt
      clear q1 hM0 hbB HG HIN HND hj hlt
      go_wp2_with (at_make; refine wpList_make_full _ rfl _ _ 28 rfl m 42 i0 (.agg #[.int .i64 0, .int .i64 0]) 2 Try.underlying28 hi hz0 hz1 .i64 .i64 _ _ l.length rfl rfl rfl rfl (by rw [hz2]; omega) (by unfold maxLen; omega) (Nat.le_of_lt hms) ?_; intro w3 hown hgrow; have hb3 : Below wr.heap.size wr w3 := (Below.refl _ _).grown hgrow (Nat.le_refl _) (fun k e => by cases e); have x1 := (hb3.cell (p := ⟨w.heap.size, 1, none⟩) (by simp only; omega)).trans y1)
      have hrow := Blk.made hown
      rw [pairs_made, ← sideH_zero fs l] at hrow
      have HM3 : Hid (MapN w3 m (entL fs fs.length)) := HMj.out.keep (hb3.block m hms)
      have HB3 : Hid (Below w.heap.size w w3) := hbw.trans (hb3.mono hbw.size)
      clear hown hgrow hi hz0 hz1 hz2 hb3 y1 hbw hb
      generalize hge : wr.heap.size = g at *
      go_loopw [43] (fun i wy => ∃ j : Nat, j ≤ l.length ∧ i = .int .i64 j ∧ Blk 42 wy g (flatD (sideH fs l j)) ∧ Below g w3 wy) (fun i _ => l.length - (intOf i).toNat)
      case atStart => exact ⟨0, Nat.zero_le _, rfl, hrow, Below.refl _ _⟩
      case round =>
        obtain ⟨j, hj, rfl, hB, hb⟩ := hrel
        rename World => w5
        by_cases hlt : j < l.length
        · obtain ⟨b, off, rfl, hbb, hcap, hc, -⟩ := HL.out.open hlt
          obtain ⟨c0, c1, c2⟩ := hc w5 (HB3.out.trans (hb.mono (by omega))) j hlt
          have hjl : (j : Int) < (l.length : Int) := by omega
          have HS : Hid _ := sideH_step fs l hlt
          have hgl := hB.lt
          have hM5 : MapN w5 m (entL fs fs.length) := HM3.out.keep (hb.block m hms)
          have HLN : Hid (j < (sideH fs l j).length) := by rw [Hid, sideH_len fs l hj]; exact hlt
          clear hc
          generalize l[j].1 = u at *
          generalize l[j].2.1 = v at *
          generalize l[j].2.2 = wt at *
          have hbN : Below w5.heap.size w5 (w5.alloc (.cells #[.int .i64 u, .int .i64 v, .int .i64 wt] 44)) := (Below.refl _ _).alloc (Nat.le_refl _) _
          have hE : Blk 44 (w5.alloc (.cells #[.int .i64 u, .int .i64 v, .int .i64 wt] 44)) w5.heap.size [.int .i64 u, .int .i64 v, .int .i64 wt] := heap_alloc_new w5 _
          have e0 := hE.cell (j := 0) rfl
          have e1 := hE.cell (j := 1) rfl
          have hMN : MapN (w5.alloc (.cells #[.int .i64 u, .int .i64 v, .int .i64 wt] 44)) m (entL fs fs.length) := hM5.keep (hbN.block m (by omega))
          have hBN := hB.go hbN
          have HBN : Hid (Below g w3 (w5.alloc (.cells #[.int .i64 u, .int .i64 v, .int .i64 wt] 44))) := hb.alloc (by omega) _
          have hne : w5.heap.size ≠ g := by omega
          clear hbN hE hM5 hB
          go_wp2_with fail
          generalize w5.alloc (.cells #[.int .i64 u, .int .i64 v, .int .i64 wt] 44) = w6 at *
          have l0 := hMN.lookup (u, v)
          have l1 := hMN.lookup (v, u)
          have e2 : ∀ d, (lkN (entL fs fs.length) d).getD 0 = faceOf fs d := fun _ => rfl
          rw [e2] at l0 l1
          have k0 : (Instr.lookup 70 (.map (some m)) (.agg #[.int .i64 u, .int .i64 v]) false).run Try.prog w6.drew = .ok (.int .i64 (faceOf fs (u, v))) w6.drew := (hMN.keep (w' := w6.drew) rfl).lookup (u, v)
          have k1 : (Instr.lookup 70 (.map (some m)) (.agg #[.int .i64 v, .int .i64 u]) false).run Try.prog w6.drew = .ok (.int .i64 (faceOf fs (v, u))) w6.drew := (hMN.keep (w' := w6.drew) rfl).lookup (v, u)
          have hBn := (hBN.set (j * 2) (.int .i64 (faceOf fs (u, v)))).set (j * 2 + 1) (.int .i64 (faceOf fs (v, u)))
          rw [flatD_set _ j _ _ HLN.out, HS.out] at hBn
          have HBn : Hid _ := hBn
          have f0 := hBN.frozen (j * 2)
          have f1 := hBN.frozen (j * 2 + 1)
          have z0 := hBN.cell (flatD_at (List.getElem?_eq_getElem HLN.out)).1
          have z1 := hBN.cell (flatD_at (List.getElem?_eq_getElem HLN.out)).2
          clear l0 l1 e2 hBn hBN hMN c0 c1 c2
          generalize faceOf fs (u, v) = x at *
          generalize faceOf fs (v, u) = y at *
          refine wp_region_last (S := (fun w' : World => w'.cell? ⟨w5.heap.size, 0, none⟩ = some (.int .i64 u) ∧ w'.cell? ⟨w5.heap.size, 1, none⟩ = some (.int .i64 v) ∧ (Instr.lookup 70 (.map (some m)) (.agg #[.int .i64 u, .int .i64 v]) false).run Try.prog w' = .ok (.int .i64 x) w' ∧ (Instr.lookup 70 (.map (some m)) (.agg #[.int .i64 v, .int .i64 u]) false).run Try.prog w' = .ok (.int .i64 y) w')) (by kernel_rfl) ⟨e0, e1, k0, k1⟩ (fun hHeld => ?_)
          refine wpAnyL_take (i := 0) (v := ?_) rfl (by kernel_rfl) (by kernel_rfl) (by kernel_rfl) (by kernel_rfl) (fun _ _ _ h => h) (Or.inl ⟨by rfl, ?_⟩) (by assumption) ?_
          rotate_left
          · intro w hSw; (try dsimp only at hSw); go_simp; (try with_reducible rfl)
          try simp only [Act.put, List.setIfInBounds_toArray]
          refine wpAnyL_take (i := 1) (v := ?_) rfl (by kernel_rfl) (by kernel_rfl) (by kernel_rfl) (by kernel_rfl) (fun _ _ _ h => h) (Or.inl ⟨by rfl, ?_⟩) (by assumption) ?_
          rotate_left
          · intro w hSw; (try dsimp only at hSw); go_simp; (try with_reducible rfl)
          try simp only [Act.put]
          refine wpAnyL_take (i := 2) (v := ?_) rfl (by kernel_rfl) (by kernel_rfl) (by kernel_rfl) (by kernel_rfl) (fun _ _ _ h => h) (Or.inl ⟨by rfl, ?_⟩) (by assumption) ?_
          rotate_left
          · intro w hSw; (try dsimp only at hSw); go_simp; (try with_reducible rfl)
          try simp only [Act.put]
          refine wpAnyL_take (i := 3) (v := ?_) rfl (by kernel_rfl) (by kernel_rfl) (by kernel_rfl) (by kernel_rfl) (fun _ _ _ h => h) (Or.inl ⟨by rfl, ?_⟩) (by assumption) ?_
          rotate_left
          · intro w hSw; (try dsimp only at hSw); go_simp; (try with_reducible rfl)
          try simp only [Act.put]
          refine wpAnyL_take (i := 4) (v := ?_) rfl (by kernel_rfl) (by kernel_rfl) (by kernel_rfl) (by kernel_rfl) (fun _ _ _ h => h) (Or.inl ⟨by rfl, ?_⟩) (by assumption) ?_
          rotate_left
          · intro w hSw; (try dsimp only at hSw); go_simp; (try with_reducible rfl)
          try simp only [Act.put]
          refine wpAnyL_take (i := 5) (v := ?_) rfl (by kernel_rfl) (by kernel_rfl) (by kernel_rfl) (by kernel_rfl) (fun _ _ _ h => h) (Or.inl ⟨by rfl, ?_⟩) (by assumption) ?_
          rotate_left
          · intro w hSw; (try dsimp only at hSw); go_simp; (try with_reducible rfl)
          try simp only [Act.put]
          refine wpAnyL_take (i := 6) (v := ?_) rfl (by kernel_rfl) (by kernel_rfl) (by kernel_rfl) (by kernel_rfl) (fun _ _ _ h => h) (Or.inl ⟨by rfl, ?_⟩) (by assumption) ?_
          rotate_left
          · intro w hSw; (try dsimp only at hSw); go_simp; (try with_reducible rfl)
          try simp only [Act.put]
          refine wpAnyL_take (i := 7) (v := ?_) rfl (by kernel_rfl) (by kernel_rfl) (by kernel_rfl) (by kernel_rfl) (fun _ _ _ h => h) (Or.inl ⟨by rfl, ?_⟩) (by assumption) ?_
          rotate_left
          · intro w hSw; (try dsimp only at hSw); go_simp; (try with_reducible rfl)
          try simp only [Act.put]
          refine wpAnyL_take (i := 8) (v := ?_) rfl (by kernel_rfl) (by kernel_rfl) (by kernel_rfl) (by kernel_rfl) (fun _ _ _ h => h) (Or.inl ⟨by rfl, ?_⟩) (by assumption) ?_
          rotate_left
          · intro w hSw; (try dsimp only at hSw); go_simp; (try with_reducible rfl)
          try simp only [Act.put]
          refine wpAnyL_take (i := 9) (v := ?_) rfl (by kernel_rfl) (by kernel_rfl) (by kernel_rfl) (by kernel_rfl) (fun _ _ _ h => h) (Or.inl ⟨by rfl, ?_⟩) (by assumption) ?_
          rotate_left
          · intro w hSw; (try dsimp only at hSw); go_simp; (try with_reducible rfl)
          try simp only [Act.put]
          refine wpAnyL_take (i := 10) (v := ?_) rfl (by kernel_rfl) (by kernel_rfl) (by kernel_rfl) (by kernel_rfl) (fun _ _ _ h => h) (Or.inl ⟨by rfl, ?_⟩) (by assumption) ?_
          rotate_left
          · intro w hSw; (try dsimp only at hSw); go_simp; (try with_reducible rfl)
          try simp only [Act.put]
          refine wpAnyL_take (i := 11) (v := ?_) rfl (by kernel_rfl) (by kernel_rfl) (by kernel_rfl) (by kernel_rfl) (fun _ _ _ h => h) (Or.inl ⟨by rfl, ?_⟩) (by assumption) ?_
          rotate_left
          · intro w hSw; (try dsimp only at hSw); go_simp; (try with_reducible rfl)
          try simp only [Act.put]
          refine wpAnyL_take (i := 12) (v := ?_) rfl (by kernel_rfl) (by kernel_rfl) (by kernel_rfl) (by kernel_rfl) (fun _ _ _ h => h) (Or.inl ⟨by rfl, ?_⟩) (by assumption) ?_
          rotate_left
          · intro w hSw; (try dsimp only at hSw); go_simp; (try with_reducible rfl)
          try simp only [Act.put]
          refine wpAnyL_take (i := 13) (v := ?_) rfl (by kernel_rfl) (by kernel_rfl) (by kernel_rfl) (by kernel_rfl) (fun _ _ _ h => h) (Or.inl ⟨by rfl, ?_⟩) (by assumption) ?_
          rotate_left
          · intro w hSw; (try dsimp only at hSw); go_simp; (try with_reducible rfl)
          try simp only [Act.put]
          refine wpAnyL_take (i := 14) (v := ?_) rfl (by kernel_rfl) (by kernel_rfl) (by kernel_rfl) (by kernel_rfl) (fun _ _ _ h => h) (Or.inl ⟨by rfl, ?_⟩) (by assumption) ?_
          rotate_left
          · intro w hSw; (try dsimp only at hSw); go_simp; (try with_reducible rfl)
          try simp only [Act.put]
          refine wpAnyL_take (i := 15) (v := ?_) rfl (by kernel_rfl) (by kernel_rfl) (by kernel_rfl) (by kernel_rfl) (fun _ _ _ h => h) (Or.inl ⟨by rfl, ?_⟩) (by assumption) ?_
          rotate_left
          · intro w hSw; (try dsimp only at hSw); go_simp; (try with_reducible rfl)
          try simp only [Act.put]
          refine wpAnyL_take (i := 16) (v := ?_) rfl (by kernel_rfl) (by kernel_rfl) (by kernel_rfl) (by kernel_rfl) (fun _ _ _ h => h) (Or.inl ⟨by rfl, ?_⟩) (by assumption) ?_
          rotate_left
          · intro w hSw; (try dsimp only at hSw); go_simp; (try with_reducible rfl)
          try simp only [Act.put]
          refine wpAnyL_take (i := 17) (v := ?_) rfl (by kernel_rfl) (by kernel_rfl) (by kernel_rfl) (by kernel_rfl) (fun _ _ _ h => h) (Or.inl ⟨by rfl, ?_⟩) (by assumption) ?_
          rotate_left
          · intro w hSw; (try dsimp only at hSw); go_simp; (try with_reducible rfl)
          try simp only [Act.put]
          clear e0 e1 k0 k1 hHeld
          have f0' : w6.drew.frozen? ⟨g, j * 2, none⟩ = false := f0
          have f1' : w6.drew.frozen? ⟨g, j * 2 + 1, none⟩ = false := f1
          refine wpAnyL_ready (rs := [18]) (by kernel_rfl) (by simp) ?_
          refine AllReadyL.last rfl (by kernel_rfl) (fun K hK => ?_)
          go_simp
          refine hK.out _ _ ?_
          clear hK K
          try simp only [Act.put, List.setIfInBounds_toArray, List.set_cons_zero, List.set_cons_succ]
          refine wpAnyL_done (by kernel_rfl) ?_ _
          have hBq : Blk 42 ((w6.setCell ⟨g, j * 2, none⟩ (.int .i64 x)).setCell ⟨g, j * 2 + 1, none⟩ (.int .i64 y)).drew g (flatD (sideH fs l (j + 1))) := HBn.out
          have hbq : Below g w3 ((w6.setCell ⟨g, j * 2, none⟩ (.int .i64 x)).setCell ⟨g, j * 2 + 1, none⟩ (.int .i64 y)).drew := below_drewN ((HBN.out.setCell (p := ⟨g, j * 2, none⟩) (Nat.le_refl _) _).setCell (p := ⟨g, j * 2 + 1, none⟩) (Nat.le_refl _) _) 1
          clear HBn HBN f0 f1 f0' f1' z0 z1 HS
          go_wp2
          exact ⟨⟨j + 1, by omega, by go_num, hBq, hbq⟩, by simp [intOf]; omega⟩
        · obtain rfl : j = l.length := by omega
          have hjl : ¬ (l.length : Int) < (l.length : Int) := by omega
          rw [sideH_full] at hB
          have HB : Hid _ := hB
          have HBW : Hid (Below w.heap.size w w5) := HB3.out.trans (hb.mono (by omega))
          clear hB hb
          go_wp2
          go_ret
          exact ⟨g, rfl, by omega, HB.out, HBW.out⟩
end Go.Proofs.Ytonfhkdciaiilaa
