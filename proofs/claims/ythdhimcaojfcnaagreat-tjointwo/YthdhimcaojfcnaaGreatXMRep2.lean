/-
  The contract of slices.Repeat at links both of whose numbers are the same.
-/
import Derived.Test.YthdhimcaojfcnaaGreatXCRep
namespace Go.Proofs.YthdhimcaojfcnaaGreat
open Go Go.Proofs Go.RowKit

theorem infoLk : (Tryz.prog.info? 102).map (fun i => (i.zero, i.size, i.bytes)) = some (some (.agg #[.int .i64 0, .int .i64 0]), 2, 16) := by kernel_rfl
theorem infoLk1 : (Tryz.prog.info? 102).map (·.size) = some 2 := by kernel_rfl
theorem lk_made (n : Nat) : (madeCells (Value.agg #[.int .i64 0, .int .i64 0]).cells (n * 2)).toList = List.replicate (n * 2) (Value.int .i64 0) := by
  apply List.ext_getElem
  · simp [madeCells]
  · intro i h1 h2
    simp [madeCells, Value.cells]
    rcases Nat.mod_two_eq_zero_or_one i with e | e <;> simp [e]
/-- copy of elements of two cells. -/
theorem run_copy2 {P : Program} (w : World) (dT sT ty elem : TypeId) (g o dLen dCap : Nat) (a : Addr) (sLen sCap : Nat) (cur : Array Value) (t : TypeId) (cs : List Value)
    (hu : P.underlying dT = some (.slice elem)) (hs : (P.info? elem).map (·.size) = some 2)
    (hg : w.heap[g]? = some (.cells cur t (0, 0))) (m : Nat) (hm : m = Nat.min sLen dLen) (hn : cs.length = m * 2)
    (hsrc : ∀ j v, cs[j]? = some v → w.cell? (a.add j) = some v) (hfit : o + cs.length ≤ cur.size) (h1 : ∀ v ∈ cs, v.oneCell' = true) :
    (Builtin.copy_ #[dT, sT] ty #[.slice (some ⟨g, o, none⟩) dLen dCap, .slice (some a) sLen sCap]).run P w =
      .ok (goInt m) (w.setRow g (splice cur.toList o cs).toArray) := by
  have hl := run_loadCells_list (P := P) w a cs hsrc
  have hst := run_storeCells_at P g o t cs 0 cur w hg (by simpa using hfit) h1
  cases hq : P.info? elem with
  | none => simp [hq] at hs
  | some i =>
    have hi : i.size = 2 := by simpa [hq] using hs
    rw [hn] at hl
    simp [Builtin.copy_, run_underlying hu, Builtin.lenOf, Builtin.firstCells, sizeOf, typeInfo, hq, hi, ← hm, hl, hst, splice]
theorem step_copy2 {P : Program} {ops : Array Oper} {o : Oper} {a : Act} {w : World} {K : Act → World → Prop} {Q : Exit → Act → World → Prop} {E : Prop} (hgd : o.guard = none) (d s : Operand) (dT sT : TypeId)
    (ho : o.op = .call { callee := .builtin .copy, args := #[d, s], argTypes := #[dT, sT] }) (elem : TypeId) (hu : P.underlying dT = some (.slice elem)) (hsz : (P.info? elem).map (·.size) = some 2)
    (ad : Addr) (dLen dCap sLen sCap : Nat) (g off : Nat) (hd : a.eval d = .slice (some ⟨g, off, none⟩) dLen dCap) (hs : a.eval s = .slice (some ad) sLen sCap)
    (cur : List Value) (t : TypeId) (hg : w.heap[g]? = some (.cells cur.toArray t (0, 0))) (cs : List Value) (m : Nat) (hm : m = Nat.min sLen dLen) (hn : cs.length = m * 2)
    (hsrc : ∀ j v, cs[j]? = some v → w.cell? (ad.add j) = some v)
    (hfit : off + cs.length ≤ cur.length) (h1 : ∀ v ∈ cs, v.oneCell' = true) (B : Nat) (w0 : World) (hb : RowKit.Below B w0 w) (hBg : B ≤ g)
    (h : ∀ w', Hid (w'.heap[g]? = some (.cells (splice cur off cs).toArray t (0, 0))) → RowKit.Below B w0 w' → K (a.put o.dst (goInt m)) w') :
    if Region.wanted o (yielded ops a.tmps) = true then Oper.wp P o a w K Q else E := by
  have hw : Region.wanted o (yielded ops a.tmps) = true := by simp [Region.wanted, hgd]
  rw [if_pos hw]
  have hrun := run_copy2 (P := P) w dT sT o.type elem g off dLen dCap ad sLen sCap cur.toArray t cs hu hsz hg m hm hn hsrc (by simpa using hfit) h1
  unfold Oper.wp
  simp [execOp, ho, resolve, invoke, builtin, hd, hs, hrun, Result.andThen]
  exact h _ (by show _ = _; simpa using setRow_heap w g _ _ t _ hg) (below_setRow hb hBg _)
theorem rep2_row {w3 : World} {base g n : Nat} (v : Int) (hown : w3.ownsRow base 102 2 (.slice (some ⟨g, 0, none⟩) n n) n (madeCells (Value.agg #[.int .i64 0, .int .i64 0]).cells (n * 2)).toList) : w3.heap[g]? = some (.cells (repH (n * 2) 0 v).toArray 102 (0, 0)) := by
  have h1 := Blk.made hown
  rw [lk_made, ← repH_zero (n * 2) v] at h1
  exact h1
theorem rep2_src {w3 : World} {b : Nat} {v : Int} (h0 : w3.cell? ⟨b, 0, none⟩ = some (.int .i64 v)) (h1 : w3.cell? ⟨b, 1, none⟩ = some (.int .i64 v)) : ∀ j u, [Value.int .i64 v, Value.int .i64 v][j]? = some u → w3.cell? ((⟨b, 0, none⟩ : Addr).add j) = some u := fun j u hu => by
  have hj := (List.getElem?_eq_some_iff.1 hu).1
  rw [Go.WideShapes.add_plain]
  have hj2 : j = 0 ∨ j = 1 := by simp at hj; omega
  rcases hj2 with rfl | rfl
  · cases hu; exact h0
  · cases hu; exact h1
theorem rep2_first {n : Nat} (h : 0 < n) (v : Int) : splice (repH (n * 2) 0 v) 0 [.int .i64 v, .int .i64 v] = repH (n * 2) 2 v := by
  obtain ⟨m, rfl⟩ : ∃ m, n = m + 1 := ⟨n - 1, by omega⟩
  have := repH_splice (n := (m + 1) * 2) (j := 0) (m := 2) (by omega) v
  simpa [List.replicate_succ] using this
theorem rep2_srcM {w3 : World} {b m : Nat} {v : Int} (hc : ∀ j, j < m * 2 → w3.cell? ⟨b, 0 + j, none⟩ = some (.int .i64 v)) : ∀ j u, (List.replicate (m * 2) (Value.int .i64 v))[j]? = some u → w3.cell? ((⟨b, 0, none⟩ : Addr).add j) = some u := fun j u hu => by
  have hj := (List.getElem?_eq_some_iff.1 hu).1
  rw [List.length_replicate] at hj
  rw [List.eq_of_mem_replicate (List.mem_of_getElem? hu), Go.WideShapes.add_plain]
  exact hc j hj

set_option maxRecDepth 100000 in
set_option maxHeartbeats 4000000 in
theorem repeat2_any (v : Int) (n : Nat) (hn0 : 0 < n) (hn : n ≤ 4194304) (b : Nat) (w : World) (hb : w.cell? ⟨b, 0, none⟩ = some (.int .i64 v)) (hb1 : w.cell? ⟨b, 1, none⟩ = some (.int .i64 v)) :
    Calls Tryz.prog 83 #[.slice (some ⟨b, 0, none⟩) 1 1, .int .i64 (n : Int)] w fun e w' => ∃ g, e = .returned (.slice (some ⟨g, 0, none⟩) n n) ∧ w.heap.size ≤ g ∧ Blk 102 w' g (List.replicate (n * 2) (.int .i64 v)) ∧ Below w.heap.size w w' := by
  obtain ⟨i0, hi, hz0, hz1, hz2⟩ := info_parts infoLk
  have hmul := Tryz.bits_Mul 1 n (by decide) (by omega) w
  rw [Nat.one_mul, Nat.div_eq_of_lt (by omega), Nat.mod_eq_of_lt (by omega)] at hmul
  have hn0' : ¬ (n : Int) < 0 := by omega
  go_enter Tryz.func83, Tryz.ntmps83
  go_wp2_with fail
  refine hmul.mono ?_
  clear hmul
  rintro e w2 ⟨rfl, rfl⟩
  have hnb : decide ((9223372036854775807 : Int) < (n : Int)) = false := decide_eq_false (by omega)
  have hbl := World.block_lt_of_cell? w2 _ hb
  have hmn : Nat.min 1 n = 1 := Nat.min_eq_left (by omega)
  have HMN : Hid _ := hmn
  clear hmn
  go_wp2_with (at_make; refine wpList_make_full _ rfl _ _ 107 rfl w2.heap.size 102 i0 (.agg #[.int .i64 0, .int .i64 0]) 2 Tryz.underlying107 hi hz0 hz1 .i64 .i64 _ _ n rfl rfl rfl rfl (by rw [hz2]; omega) (by unfold maxLen; omega) (Nat.le_refl _) ?_; intro w3 hown hgrow; have hb3 : Below w2.heap.size w2 w3 := (Below.refl _ _).grown hgrow (Nat.le_refl _) (fun k e => by cases e); have HB3 : Hid (Below w2.heap.size w2 w3) := hb3; have HRW : Hid _ := rep2_row v hown; have hcp := run_copy2 (P := Tryz.prog) w3 107 107 3 102 w2.heap.size 0 n n ⟨b, 0, none⟩ 1 1 (repH (n * 2) 0 v).toArray 102 [.int .i64 v, .int .i64 v] Tryz.underlying107 infoLk1 HRW.out 1 HMN.out.symm rfl (rep2_src ((hb3.cell (p := ⟨b, 0, none⟩) hbl).trans hb) ((hb3.cell (p := ⟨b, 1, none⟩) hbl).trans hb1)) (by rw [List.size_toArray, repH_len (Nat.zero_le _)]; simp; omega) (by intro u hu; simp at hu; subst hu; rfl); clear hown hgrow hb3)
  obtain ⟨w4, hw4⟩ : ∃ W, w3.setRow w2.heap.size (splice (repH (n * 2) 0 v) 0 [Value.int .i64 v, Value.int .i64 v]).toArray = W := ⟨_, rfl⟩
  have HR4 : Hid (w4.heap[w2.heap.size]? = some (.cells (repH (n * 2) (1 * 2) v).toArray 102 (0, 0))) := by
    rw [← hw4, rep2_first hn0 v]
    exact setRow_heap w3 w2.heap.size _ _ 102 (0, 0) HRW.out
  have HB4 : Hid (Below w2.heap.size w2 w4) := by
    rw [← hw4]
    exact below_setRow HB3.out (Nat.le_refl _) _
  rw [hw4]
  clear hw4 hcp HRW HB3
  go_loopw [8] (fun jv wr => ∃ j : Nat, j ≤ n ∧ 0 < j ∧ jv = .int .i64 j ∧ Hid (wr.heap[w2.heap.size]? = some (.cells (repH (n * 2) (j * 2) v).toArray 102 (0, 0))) ∧ Below w2.heap.size w2 wr) (fun jv _ => n - (intOf jv).toNat)
  case atStart => exact ⟨1, by omega, by omega, rfl, HR4, HB4.out⟩
  case round =>
    obtain ⟨j, hj, hj0, rfl, HRJ, hbj⟩ := hrel
    by_cases hlt : j < n
    · have hjl : (j : Int) < ((n : Nat) : Int) := by omega
      have hm1 : Nat.min j (n - j) ≤ n - j := Nat.min_le_right _ _
      have hm2 : Nat.min j (n - j) ≤ j := Nat.min_le_left _ _
      have hm3 : 0 < Nat.min j (n - j) := Nat.lt_min.2 ⟨hj0, by omega⟩
      have HMM : Hid _ := And.intro hm1 (And.intro hm2 hm3)
      have HSP : Hid (splice (repH (n * 2) (j * 2) v) (j * 2) (List.replicate (Nat.min j (n - j) * 2) (.int .i64 v)) = repH (n * 2) ((j + Nat.min j (n - j)) * 2) v) := by
        have := repH_splice (n := n * 2) (j := j * 2) (m := Nat.min j (n - j) * 2) (by omega) v
        rw [← Nat.add_mul] at this
        exact this
      have HLN : Hid ((List.replicate (Nat.min j (n - j) * 2) (Value.int .i64 v)).length = Nat.min j (n - j) * 2) := List.length_replicate ..
      have HB : Hid (Below w2.heap.size w2 wr) := hbj
      have HFT : Hid _ := rep_fit (n := n * 2) (j := j * 2) (m := Nat.min j (n - j) * 2) (v := v) (by omega)
      have HSR : Hid (∀ i, i < Nat.min j (n - j) * 2 → wr.drew.cell? ⟨w2.heap.size, 0 + i, none⟩ = some (.int .i64 v)) := fun i hi => by
        have h1 : Blk 102 wr w2.heap.size (repH (n * 2) (j * 2) v) := HRJ.out
        rw [Nat.zero_add]
        exact h1.cell (repH_at (by omega))
      have HLT : Hid (j < n) := hlt
      clear hbj hm1 hm2 hm3
      go_wp2_with fail
      refine wp_region_held_drew (S := (fun _ : World => True)) (by kernel_rfl) trivial (fun hHeld => ?_)
      refine wpAnyH_take (i := 0) (v := ?_) rfl (by kernel_rfl) (by kernel_rfl) (by kernel_rfl) (fun _ _ _ h => h) (Or.inl ⟨by rfl, ?_⟩) (by assumption) ?_
      rotate_left
      · intro w hSw; (try dsimp only at hSw); go_simp; (try with_reducible rfl)
      try simp only [Act.put, List.setIfInBounds_toArray]
      refine wpAnyH_take (i := 1) (v := ?_) rfl (by kernel_rfl) (by kernel_rfl) (by kernel_rfl) (fun _ _ _ h => h) (Or.inl ⟨by rfl, ?_⟩) (by assumption) ?_
      rotate_left
      · intro w hSw; (try dsimp only at hSw); go_simp; (try with_reducible rfl)
      try simp only [Act.put]
      refine wpAnyH_take (i := 2) (v := ?_) rfl (by kernel_rfl) (by kernel_rfl) (by kernel_rfl) (fun _ _ _ h => h) (Or.inl ⟨by rfl, ?_⟩) (by assumption) ?_
      rotate_left
      · intro w hSw; (try dsimp only at hSw); go_simp; (try with_reducible rfl)
      try simp only [Act.put]
      refine wpAnyH_take (i := 3) (v := ?_) rfl (by kernel_rfl) (by kernel_rfl) (by kernel_rfl) (fun _ _ _ h => h) (Or.inl ⟨by rfl, ?_⟩) (by assumption) ?_
      rotate_left
      · intro w hSw; (try dsimp only at hSw); go_simp; (try with_reducible rfl)
      try simp only [Act.put]
      try simp only [List.getElem_toArray, List.getElem_cons_zero, List.getElem_cons_succ, List.setIfInBounds_toArray, List.set_cons_zero, List.set_cons_succ]
      refine wpAnyH_take (i := 4) (v := ?_) rfl (by kernel_rfl) (by kernel_rfl) (by kernel_rfl) (fun _ _ _ h => h) (Or.inl ⟨by rfl, ?_⟩) (by assumption) ?_
      rotate_left
      · intro w hSw; (try dsimp only at hSw); go_simp; (try with_reducible rfl)
      try simp only [Act.put]
      refine wpAnyH_take (i := 5) (v := ?_) rfl (by kernel_rfl) (by kernel_rfl) (by kernel_rfl) (fun _ _ _ h => h) (Or.inl ⟨by rfl, ?_⟩) (by assumption) ?_
      rotate_left
      · intro w hSw; (try dsimp only at hSw); go_simp; (try with_reducible rfl)
      try simp only [Act.put]
      refine wpAnyH_take (i := 6) (v := ?_) rfl (by kernel_rfl) (by kernel_rfl) (by kernel_rfl) (fun _ _ _ h => h) (Or.inl ⟨by rfl, ?_⟩) (by assumption) ?_
      rotate_left
      · intro w hSw; (try dsimp only at hSw); go_simp; (try with_reducible rfl)
      try simp only [Act.put]
      try simp only [List.getElem_toArray, List.getElem_cons_zero, List.getElem_cons_succ, List.setIfInBounds_toArray, List.set_cons_zero, List.set_cons_succ]
      refine wpAnyH_ready (rs := [7]) (by kernel_rfl) (by simp) ?_
      refine AllReadyH.cons rfl (fun K hK => ?_) AllReadyH.nil
      refine step_copy2 rfl _ _ 107 107 rfl 102 Tryz.underlying107 infoLk1 ⟨w2.heap.size, 0, none⟩ (n - j) (n - j) j n w2.heap.size (j * 2) ?hd ?hs (repH (n * 2) (j * 2) v) 102 HRJ.out (List.replicate (Nat.min j (n - j) * 2) (.int .i64 v)) (Nat.min j (n - j)) rfl HLN.out (rep2_srcM HSR.out) HFT.out (rep_one _ v) w2.heap.size w2 (below_drewN HB.out 1) (Nat.le_refl _) ?_
      case hd =>
        show Value.slice (if n = j then some _ else some _) _ _ = _
        rw [if_neg (by have := HLT.out; omega)]
      case hs => rfl
      intro w5 hr5 hb5
      have HR5 : Hid (w5.heap[w2.heap.size]? = some (.cells (repH (n * 2) ((j + Nat.min j (n - j)) * 2) v).toArray 102 (0, 0))) := by
        have h1 := hr5.out
        rw [HSP.out] at h1
        exact h1
      have HB5 : Hid (Below w2.heap.size w2 w5) := hb5
      refine hK.out _ _ trivial (fun _ => ?_)
      clear hK K hr5 hb5 HSP HLN HFT HSR HRJ HB hHeld
      have hmm := HMM.out
      clear HMM
      generalize Nat.min j (n - j) = m at *
      obtain ⟨hm1, hm2, hm3⟩ := hmm
      have hwr := wrap_i ((j : Int) + (m : Int)) (by omega) (by have := HLT.out; omega)
      try simp only [Act.put, List.setIfInBounds_toArray]
      refine wpAnyH_take (i := 8) (v := ?_) rfl (by kernel_rfl) (by kernel_rfl) (by kernel_rfl) (fun _ _ _ h => h) (Or.inl ⟨by rfl, ?_⟩) (by assumption) ?_
      rotate_left
      · intro w hSw; (try dsimp only at hSw); go_simp; (try with_reducible rfl)
      try simp only [Act.put]
      refine wpAnyH_take (i := 9) (v := ?_) rfl (by kernel_rfl) (by kernel_rfl) (by kernel_rfl) (fun _ _ _ h => h) (Or.inl ⟨by rfl, ?_⟩) (by assumption) ?_
      rotate_left
      · intro w hSw; (try dsimp only at hSw); go_simp; (try with_reducible rfl)
      try simp only [Act.put]
      refine wpAnyH_done (by kernel_rfl) ?_ _
      go_wp2
      have hlt2 := HLT.out
      exact ⟨⟨j + m, by omega, by omega, by go_num, HR5, HB5.out⟩, by simp [intOf]; omega⟩
    · have hjn : j = n := by omega
      have hjl : ¬ (j : Int) < ((n : Nat) : Int) := by omega
      have HRF : Hid (Blk 102 wr w2.heap.size (List.replicate (n * 2) (.int .i64 v))) := by
        have h1 := HRJ.out
        rw [hjn, repH_full] at h1
        exact h1
      clear hjn
      have HB : Hid (Below w2.heap.size w2 wr) := hbj
      clear HRJ hbj
      go_wp2
      go_ret
      exact ⟨w2.heap.size, rfl, Nat.le_refl _, HRF.out, HB.out⟩
end Go.Proofs.YthdhimcaojfcnaaGreat
