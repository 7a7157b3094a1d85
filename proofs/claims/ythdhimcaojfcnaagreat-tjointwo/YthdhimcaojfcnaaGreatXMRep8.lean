/-
  The contract of slices.Repeat at one number of 64 bits.
-/
import Derived.Test.YthdhimcaojfcnaaGreatXCRep
namespace Go.Proofs.YthdhimcaojfcnaaGreat
open Go Go.Proofs Go.RowKit

theorem infoL8 : (Tryz.prog.info? 2).map (fun i => (i.zero, i.size, i.bytes)) = some (some (.int .i64 0), 1, 8) := by kernel_rfl
theorem infoL1 : (Tryz.prog.info? 2).map (·.size) = some 1 := by kernel_rfl

theorem rep_row8 {w3 : World} {base g n : Nat} (v : Int) (hown : w3.ownsRow base 2 1 (.slice (some ⟨g, 0, none⟩) n n) n (madeCells (Value.int .i64 0).cells (n * 1)).toList) : w3.heap[g]? = some (.cells (repH n 0 v).toArray 2 (0, 0)) := by
  have h1 := Blk.made hown
  rw [ints_made, List.map_replicate, ← repH_zero n v] at h1
  exact h1






set_option maxRecDepth 100000 in
set_option maxHeartbeats 4000000 in
theorem repeat8_any (v : Int) (n : Nat) (hn : n ≤ 8388608) (b : Nat) (w : World) (hb : w.cell? ⟨b, 0, none⟩ = some (.int .i64 v)) :
    Calls Tryz.prog 58 #[.slice (some ⟨b, 0, none⟩) 1 1, .int .i64 (n : Int)] w fun e w' => ∃ g, e = .returned (.slice (some ⟨g, 0, none⟩) n n) ∧ w.heap.size ≤ g ∧ Blk 2 w' g (List.replicate n (.int .i64 v)) ∧ Below w.heap.size w w' := by
  obtain ⟨i0, hi, hz0, hz1, hz2⟩ := info_parts infoL8
  have hmul := Tryz.bits_Mul 1 n (by decide) (by omega) w
  rw [Nat.one_mul, Nat.div_eq_of_lt (by omega), Nat.mod_eq_of_lt (by omega)] at hmul
  have hn0 : ¬ (n : Int) < 0 := by omega
  go_enter Tryz.func58, Tryz.ntmps58
  go_wp2_with fail
  refine hmul.mono ?_
  clear hmul
  rintro e w2 ⟨rfl, rfl⟩
  have hnb : decide ((9223372036854775807 : Int) < (n : Int)) = false := decide_eq_false (by omega)
  have hbl := World.block_lt_of_cell? w2 _ hb
  by_cases hz : n = 0
  · subst hz
    go_wp2_with (at_make; refine wpList_make_full _ rfl _ _ 41 rfl w2.heap.size 2 i0 (.int .i64 0) 1 Tryz.underlying41 hi hz0 hz1 .i64 .i64 _ _ 0 rfl rfl rfl rfl (by rw [hz2]; omega) (by unfold maxLen; omega) (Nat.le_refl _) ?_; intro w3 hown hgrow; have hb3 : Below w2.heap.size w2 w3 := (Below.refl _ _).grown hgrow (Nat.le_refl _) (fun k e => by cases e); have HB3 : Hid (Below w2.heap.size w2 w3) := hb3; have HRW : Hid _ := rep_row8 v hown; have hcp := run_copy_none (P := Tryz.prog) w3 41 41 3 2 (some ⟨w2.heap.size, 0, none⟩) (some ⟨b, 0, none⟩) 0 0 1 1 Tryz.underlying41 infoL1 rfl; clear hown hgrow hb3)
    go_wp2
    clear hcp
    go_loopw [8] (fun jv wr => jv = .int .i64 0 ∧ Hid (wr.heap[w2.heap.size]? = some (.cells (repH 0 0 v).toArray 2 (0, 0))) ∧ Below w2.heap.size w2 wr) (fun _ _ => 0)
    case atStart => exact ⟨rfl, HRW, HB3.out⟩
    case round =>
      obtain ⟨rfl, HRJ, hbj⟩ := hrel
      have HRF : Hid (Blk 2 wr w2.heap.size (List.replicate 0 (.int .i64 v))) := HRJ.out
      have HB : Hid (Below w2.heap.size w2 wr) := hbj
      clear HRJ hbj
      go_wp2
      go_ret
      exact ⟨w2.heap.size, rfl, Nat.le_refl _, HRF.out, HB.out⟩
  · have hmn : Nat.min 1 n = 1 := Nat.min_eq_left (by omega)
    have HMN : Hid _ := hmn
    clear hmn
    go_wp2_with (at_make; refine wpList_make_full _ rfl _ _ 41 rfl w2.heap.size 2 i0 (.int .i64 0) 1 Tryz.underlying41 hi hz0 hz1 .i64 .i64 _ _ n rfl rfl rfl rfl (by rw [hz2]; omega) (by unfold maxLen; omega) (Nat.le_refl _) ?_; intro w3 hown hgrow; have hb3 : Below w2.heap.size w2 w3 := (Below.refl _ _).grown hgrow (Nat.le_refl _) (fun k e => by cases e); have HB3 : Hid (Below w2.heap.size w2 w3) := hb3; have HRW : Hid _ := rep_row8 v hown; have hcp := run_copy_row (P := Tryz.prog) w3 41 41 3 2 w2.heap.size 0 n n ⟨b, 0, none⟩ 1 1 (repH n 0 v).toArray 2 [.int .i64 v] Tryz.underlying41 infoL1 HRW.out HMN.out.symm (rep_one_src ((hb3.cell (p := ⟨b, 0, none⟩) hbl).trans hb)) (by rw [List.size_toArray, repH_len (Nat.zero_le _)]; simp; omega) (rep_one 1 v); clear hown hgrow hb3)
    obtain ⟨w4, hw4⟩ : ∃ W, w3.setRow w2.heap.size (Value.int .i64 v :: (repH n 0 v).tail).toArray = W := ⟨_, rfl⟩
    have HR4 : Hid (w4.heap[w2.heap.size]? = some (.cells (repH n 1 v).toArray 2 (0, 0))) := by
      rw [← hw4, ← repH_first (by omega) v]
      exact setRow_heap w3 w2.heap.size _ _ 2 (0, 0) HRW.out
    have HB4 : Hid (Below w2.heap.size w2 w4) := by
      rw [← hw4]
      exact below_setRow HB3.out (Nat.le_refl _) _
    rw [hw4]
    clear hw4 hcp
    go_loopw [8] (fun jv wr => ∃ j : Nat, j ≤ n ∧ (0 < n → 0 < j) ∧ jv = .int .i64 j ∧ Hid (wr.heap[w2.heap.size]? = some (.cells (repH n j v).toArray 2 (0, 0))) ∧ Below w2.heap.size w2 wr) (fun jv _ => n - (intOf jv).toNat)
    case atStart => exact ⟨1, by omega, fun _ => by omega, rfl, HR4, HB4.out⟩
    case round =>
      obtain ⟨j, hj, hjp, rfl, HRJ, hbj⟩ := hrel
      by_cases hlt : j < n
      · have hjl : (j : Int) < ((n : Nat) : Int) := by omega
        have hj0 := hjp (by omega)
        have hm1 : Nat.min j (n - j) ≤ n - j := Nat.min_le_right _ _
        have hm2 : Nat.min j (n - j) ≤ j := Nat.min_le_left _ _
        have hm3 : 0 < Nat.min j (n - j) := Nat.lt_min.2 ⟨hj0, by omega⟩
        have HMM : Hid _ := And.intro hm1 (And.intro hm2 hm3)
        have HSP : Hid _ := repH_splice (n := n) (j := j) (m := Nat.min j (n - j)) (by omega) v
        have HLN : Hid ((List.replicate (Nat.min j (n - j)) (Value.int .i64 v)).length = Nat.min j (n - j)) := List.length_replicate ..
        have HB : Hid (Below w2.heap.size w2 wr) := hbj
        have HFT : Hid _ := rep_fit (n := n) (j := j) (m := Nat.min j (n - j)) (v := v) (by omega)
        have HSR : Hid (∀ i, i < Nat.min j (n - j) → wr.drew.cell? ⟨w2.heap.size, 0 + i, none⟩ = some (.int .i64 v)) := fun i hi => by
          have h1 : Blk 2 wr w2.heap.size (repH n j v) := HRJ.out
          rw [Nat.zero_add]
          exact h1.cell (repH_at (by omega))
        have HLT : Hid (j < n) := hlt
        clear hbj hjp hm1 hm2 hm3
        go_wp2_with fail
        refine wp_region_held_drew (S := (fun _ : World => True)) (by kernel_rfl) trivial (fun hHeld => ?_)
        refine wpAnyH_take (i := 0) (v := ?_) rfl (by kernel_rfl) (by kernel_rfl) (by kernel_rfl) (fun _ _ _ h => h) (Or.inl ⟨by rfl, ?_⟩) (by assumption) ?_
        rotate_left
        · intro w hSw; (try dsimp only at hSw); go_simp; (try with_reducible rfl)
        try simp only [Act.put, List.setIfInBounds_toArray]
        refine wpAnyH_take (i := 1) (v := ?_) rfl (by kernel_rfl) (by kernel_rfl) (by kernel_rfl) (fun _ _ _ h => h) (Or.inl ⟨by rfl, ?_⟩) (by assumption) ?_
        rotate_left
        · intro w hSw; (try dsimp only at hSw); go_simp; (try with_reducible rfl)
        try simp only [Act.put]
        refine wpAnyH_take (i := 2) (v := ?_) rfl (by kernel_rfl) (by kernel_rfl) (by kernel_rfl) (fun _ _ _ h => h) (Or.inl ⟨by rfl, ?_⟩) (by assumption) ?_
        rotate_left
        · intro w hSw; (try dsimp only at hSw); go_simp; (try with_reducible rfl)
        try simp only [Act.put]
        refine wpAnyH_take (i := 3) (v := ?_) rfl (by kernel_rfl) (by kernel_rfl) (by kernel_rfl) (fun _ _ _ h => h) (Or.inl ⟨by rfl, ?_⟩) (by assumption) ?_
        rotate_left
        · intro w hSw; (try dsimp only at hSw); go_simp; (try with_reducible rfl)
        try simp only [Act.put]
        try simp only [List.getElem_toArray, List.getElem_cons_zero, List.getElem_cons_succ, List.setIfInBounds_toArray, List.set_cons_zero, List.set_cons_succ]
        refine wpAnyH_take (i := 4) (v := ?_) rfl (by kernel_rfl) (by kernel_rfl) (by kernel_rfl) (fun _ _ _ h => h) (Or.inl ⟨by rfl, ?_⟩) (by assumption) ?_
        rotate_left
        · intro w hSw; (try dsimp only at hSw); go_simp; (try with_reducible rfl)
        try simp only [Act.put]
        refine wpAnyH_take (i := 5) (v := ?_) rfl (by kernel_rfl) (by kernel_rfl) (by kernel_rfl) (fun _ _ _ h => h) (Or.inl ⟨by rfl, ?_⟩) (by assumption) ?_
        rotate_left
        · intro w hSw; (try dsimp only at hSw); go_simp; (try with_reducible rfl)
        try simp only [Act.put]
        refine wpAnyH_take (i := 6) (v := ?_) rfl (by kernel_rfl) (by kernel_rfl) (by kernel_rfl) (fun _ _ _ h => h) (Or.inl ⟨by rfl, ?_⟩) (by assumption) ?_
        rotate_left
        · intro w hSw; (try dsimp only at hSw); go_simp; (try with_reducible rfl)
        try simp only [Act.put]
        try simp only [List.getElem_toArray, List.getElem_cons_zero, List.getElem_cons_succ, List.setIfInBounds_toArray, List.set_cons_zero, List.set_cons_succ]
        refine wpAnyH_ready (rs := [7]) (by kernel_rfl) (by simp) ?_
        refine AllReadyH.cons rfl (fun K hK => ?_) AllReadyH.nil
        refine step_copy_splice rfl _ _ 41 41 rfl 2 Tryz.underlying41 infoL1 (some ⟨w2.heap.size, j, none⟩) (some ⟨w2.heap.size, 0, none⟩) (n - j) (n - j) j n ?hd ?hs w2.heap.size j (repH n j v) 2 HRJ.out (List.replicate (Nat.min j (n - j)) (.int .i64 v)) HLN.out (rep_src HSR.out) HFT.out (rep_one _ v) w2.heap.size w2 (below_drewN HB.out 1) (Nat.le_refl _) ?_
        case hd =>
          show Value.slice (if n = j then some _ else some _) _ _ = _
          rw [if_neg (by have := HLT.out; omega)]
        case hs => rfl
        intro w5 hr5 hb5
        rw [HLN.out]
        have HR5 : Hid (w5.heap[w2.heap.size]? = some (.cells (repH n (j + Nat.min j (n - j)) v).toArray 2 (0, 0))) := by
          have h1 := hr5.out
          rw [HSP.out] at h1
          exact h1
        have HB5 : Hid (Below w2.heap.size w2 w5) := hb5
        refine hK.out _ _ trivial (fun _ => ?_)
        clear hK K hr5 hb5 HSP HLN HFT HSR HRJ HB hHeld
        have hmm := HMM.out
        clear HMM
        generalize Nat.min j (n - j) = m at *
        obtain ⟨hm1, hm2, hm3⟩ := hmm
        have hwr := wrap_i ((j : Int) + (m : Int)) (by omega) (by have := HLT.out; omega)
        try simp only [Act.put, List.setIfInBounds_toArray]
        refine wpAnyH_take (i := 8) (v := ?_) rfl (by kernel_rfl) (by kernel_rfl) (by kernel_rfl) (fun _ _ _ h => h) (Or.inl ⟨by rfl, ?_⟩) (by assumption) ?_
        rotate_left
        · intro w hSw; (try dsimp only at hSw); go_simp; (try with_reducible rfl)
        try simp only [Act.put]
        refine wpAnyH_take (i := 9) (v := ?_) rfl (by kernel_rfl) (by kernel_rfl) (by kernel_rfl) (fun _ _ _ h => h) (Or.inl ⟨by rfl, ?_⟩) (by assumption) ?_
        rotate_left
        · intro w hSw; (try dsimp only at hSw); go_simp; (try with_reducible rfl)
        try simp only [Act.put]
        refine wpAnyH_done (by kernel_rfl) ?_ _
        go_wp2
        have hlt2 := HLT.out
        exact ⟨⟨j + m, by omega, fun _ => by omega, by go_num, HR5, HB5.out⟩, by simp [intOf]; omega⟩
      · have hjn : j = n := by omega
        have hjl : ¬ (j : Int) < ((n : Nat) : Int) := by omega
        have HRF : Hid (Blk 2 wr w2.heap.size (List.replicate n (.int .i64 v))) := by
          have h1 := HRJ.out
          rw [hjn, repH_full] at h1
          exact h1
        clear hjn
        have HB : Hid (Below w2.heap.size w2 wr) := hbj
        clear HRJ hbj hjp
        go_wp2
        go_ret
        exact ⟨w2.heap.size, rfl, Nat.le_refl _, HRF.out, HB.out⟩
end Go.Proofs.YthdhimcaojfcnaaGreat
