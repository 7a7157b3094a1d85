import Derived.Test.YtalflecmadacaaaGreatZBM
import Derived.Deep.QuietTactic
import Derived.BigQuiet
import Derived.Deep.RegionHeld3
import Derived.Test.YtalflecmadacaaaGreatZAJ
import Derived.Test.YtalflecmadacaaaGreatZAA
set_option maxRecDepth 100000
set_option maxHeartbeats 8000000
namespace Go.Proofs.YtalflecmadacaaaGreat
open Go Go.Proofs Go.RowKit
theorem infoSl8 : (Tryz.prog.info? 48).map (fun i => (i.zero, i.size, i.bytes)) = some (some (.slice none 0 0), 1, 24) := by kernel_rfl
theorem square8_any (v : Int) (n : Nat) (hn0 : 0 < n) (hn : n ≤ 4194304) (w : World) :
  Calls Tryz.prog 137 #[.int .i64 (n : Int), .int .i64 v] w fun e w' => ∃ rb bs, e = .returned (.slice (some ⟨rb, 0, none⟩) n n) ∧ SQ 2 48 n n (List.replicate n (.int .i64 v)) rb bs w' ∧ Below w.heap.size w w' ∧ w.heap.size ≤ rb := by
 obtain ⟨i0, hi, hz0, hz1, hz2⟩ := info_parts infoSl8
 go_enter Tryz.func137, Tryz.ntmps137
 go_wp2_with (at_make; refine wpList_make_full _ rfl _ _ 166 rfl w.heap.size 48 i0 (.slice none 0 0) 1 Tryz.underlying166 hi hz0 hz1 .i64 .i64 _ _ n rfl rfl rfl rfl (by rw [hz2]; omega) (by unfold maxLen; omega) (by simp) ?_; intro w3 hown hgrow)
 have hbw : Below w.heap.size w w3 := (Below.refl _ _).grown hgrow (Nat.le_refl _) (fun k e => by cases e)
 have hrow := Blk.made hown
 have hsz := hrow.lt
 rw [slices_madeKT, ← rowsK_zero n id] at hrow
 have HSQ : Hid (SQ 2 48 n 0 (List.replicate n (.int .i64 v)) w.heap.size id w3) := ⟨hrow, fun i hi => absurd hi (by omega), fun i hi => absurd hi (by omega), fun i j _ hj => absurd hj (by omega)⟩
 have HBW : Hid (Below w.heap.size w w3) := hbw
 clear hown hgrow hrow hbw hi hz0 hz1 hz2
 obtain ⟨x, hx⟩ : ∃ x, w.heap.size = x := ⟨_, rfl⟩
 rw [hx] at HSQ HBW hsz ⊢
 go_wp2
 go_loopw [11] (fun i wr => ∃ (k : Nat) (bs : Nat → Nat), k ≤ n ∧ i = .int .i64 k ∧ Hid (SQ 2 48 n k (List.replicate n (.int .i64 v)) x bs wr) ∧ Hid (Tch x w3 wr)) (fun i _ => n - (intOf i).toNat)
 case atStart => exact ⟨0, id, Nat.zero_le _, rfl, HSQ, Tch.refl _ _⟩
 case round =>
  obtain ⟨k, bs, hk, rfl, HS, HT⟩ := hrel
  by_cases hlt : k < n
  ·have hkl : (k : Int) < (n : Int) := by omega
   have t0 : wr.cell? ⟨x, k, none⟩ = some (.slice none 0 0) := HS.out.rows.cell (by rw [rowsK_atT hlt, if_neg (by omega)])
   have hal : Below wr.heap.size wr (wr.alloc (.cells #[.int .i64 v] 2)) := (Below.refl _ _).alloc (Nat.le_refl _) _
   have hrp := repeat8_any v n (by omega) wr.heap.size (wr.alloc (.cells #[.int .i64 v] 2)) (new_cell rfl rfl)
   have hs1 : (wr.alloc (.cells #[.int .i64 v] 2)).heap.size = wr.heap.size + 1 := by simp
   rw [hs1] at hrp
   have HAL : Hid _ := hal
   have HS1 : Hid _ := hs1
   have hxl : x < wr.heap.size := HS.out.rows.lt
   have hfz := HS.out.rows.frozen k
   clear hal hs1
   go_wp2_with fail
   refine hrp.mono ?_
   rintro e w5 ⟨g, rfl, hg, hB5, hb5⟩
   have hb6 : Below wr.heap.size wr w5 := HAL.out.trans (hb5.mono (by omega))
   have HN : Hid _ := HS.out.next hlt hb6 hB5 (by omega)
   have HTN : Hid (Tch x w3 (w5.setCell ⟨x, k, none⟩ (.slice (some ⟨g, 0, none⟩) n n))) := (HT.out.trans (Tch.of_below hb6)).set k _
   have t1 := (hb6.cell (p := ⟨x, k, none⟩) hxl).trans t0
   have f1 : w5.frozen? ⟨x, k, none⟩ = false := (HS.out.rows.go hb6).frozen k
   clear hrp hB5 hb5 hb6 HS HT t0 HAL HS1 hfz
   go_wp2
   exact ⟨⟨k + 1, _, by omega, by go_num, HN, HTN⟩, by simp [intOf]; omega⟩
  ·obtain rfl : k = n := by omega
   have HBf : Hid (Below x w wr) := HT.out.below HBW.out (by omega) (by omega)
   have HSf : Hid _ := HS.out
   clear HT HS
   go_wp2
   go_ret
   exact ⟨x, bs, rfl, HSf.out, by rw [hx]; exact HBf.out, by omega⟩
theorem infoLk : (Tryz.prog.info? 171).map (fun i => (i.zero, i.size, i.bytes)) = some (some (.agg #[.int .i64 0, .int .i64 0]), 2, 16) := by kernel_rfl
theorem infoLk1 : (Tryz.prog.info? 171).map (·.size) = some 2 := by kernel_rfl
theorem lk_made (n : Nat) : (madeCells (Value.agg #[.int .i64 0, .int .i64 0]).cells (n * 2)).toList = List.replicate (n * 2) (Value.int .i64 0) := by
 apply List.ext_getElem
 ·simp [madeCells]
 ·intro i h1 h2
  simp [madeCells, Value.cells]
  rcases Nat.mod_two_eq_zero_or_one i with e | e <;> simp [e]
theorem run_copy2 {P : Program} (w : World) (dT sT ty elem : TypeId) (g o dLen dCap : Nat) (a : Addr) (sLen sCap : Nat) (cur : Array Value) (t : TypeId) (cs : List Value)
  (hu : P.underlying dT = some (.slice elem)) (hs : (P.info? elem).map (·.size) = some 2)
  (hg : w.heap[g]? = some (.cells cur t (0, 0))) (m : Nat) (hm : m = Nat.min sLen dLen) (hn : cs.length = m * 2)
  (hsrc : ∀ j v, cs[j]? = some v → w.cell? (a.add j) = some v) (hfit : o + cs.length ≤ cur.size) (h1 : ∀ v ∈ cs, v.oneCell' = true) :
  (Builtin.copy_ #[dT, sT] ty #[.slice (some ⟨g, o, none⟩) dLen dCap, .slice (some a) sLen sCap]).run P w =
   .ok (goInt m) (w.setRow g (splice cur.toList o cs).toArray) := by
 have hl := run_loadCells_list (P := P) w a cs hsrc
 have hst := run_storeCells_at P g o t cs 0 cur w hg (by simpa using hfit) h1
 cases hq : P.info? elem with
 | none => simp [hq] at hs
 | some i =>
  have hi : i.size = 2 := by simpa [hq] using hs
  rw [hn] at hl
  simp [Builtin.copy_, run_underlying hu, Builtin.lenOf, Builtin.firstCells, sizeOf, typeInfo, hq, hi, ← hm, hl, hst, splice]
theorem step_copy2 {P : Program} {ops : Array Oper} {o : Oper} {a : Act} {w : World} {K : Act → World → Prop} {Q : Exit → Act → World → Prop} {E : Prop} (hgd : o.guard = none) (d s : Operand) (dT sT : TypeId)
  (ho : o.op = .call { callee := .builtin .copy, args := #[d, s], argTypes := #[dT, sT] }) (elem : TypeId) (hu : P.underlying dT = some (.slice elem)) (hsz : (P.info? elem).map (·.size) = some 2)
  (ad : Addr) (dLen dCap sLen sCap : Nat) (g off : Nat) (hd : a.eval d = .slice (some ⟨g, off, none⟩) dLen dCap) (hs : a.eval s = .slice (some ad) sLen sCap)
  (cur : List Value) (t : TypeId) (hg : w.heap[g]? = some (.cells cur.toArray t (0, 0))) (cs : List Value) (m : Nat) (hm : m = Nat.min sLen dLen) (hn : cs.length = m * 2)
  (hsrc : ∀ j v, cs[j]? = some v → w.cell? (ad.add j) = some v)
  (hfit : off + cs.length ≤ cur.length) (h1 : ∀ v ∈ cs, v.oneCell' = true) (B : Nat) (w0 : World) (hb : RowKit.Below B w0 w) (hBg : B ≤ g)
  (h : ∀ w', Hid (w'.heap[g]? = some (.cells (splice cur off cs).toArray t (0, 0))) → RowKit.Below B w0 w' → K (a.put o.dst (goInt m)) w') :
  if Region.wanted o (yielded ops a.tmps) = true then Oper.wp P o a w K Q else E := by
 have hw : Region.wanted o (yielded ops a.tmps) = true := by simp [Region.wanted, hgd]
 rw [if_pos hw]
 have hrun := run_copy2 (P := P) w dT sT o.type elem g off dLen dCap ad sLen sCap cur.toArray t cs hu hsz hg m hm hn hsrc (by simpa using hfit) h1
 unfold Oper.wp
 simp [execOp, ho, resolve, invoke, builtin, hd, hs, hrun, Result.andThen]
 exact h _ (by show _ = _; simpa using setRow_heap w g _ _ t _ hg) (below_setRow hb hBg _)
theorem rep2_row {w3 : World} {base g n : Nat} (v : Int) (hown : w3.ownsRow base 171 2 (.slice (some ⟨g, 0, none⟩) n n) n (madeCells (Value.agg #[.int .i64 0, .int .i64 0]).cells (n * 2)).toList) : w3.heap[g]? = some (.cells (repH (n * 2) 0 v).toArray 171 (0, 0)) := by
 have h1 := Blk.made hown
 rw [lk_made, ← repH_zero (n * 2) v] at h1
 exact h1
theorem rep2_src {w3 : World} {b : Nat} {v : Int} (h0 : w3.cell? ⟨b, 0, none⟩ = some (.int .i64 v)) (h1 : w3.cell? ⟨b, 1, none⟩ = some (.int .i64 v)) : ∀ j u, [Value.int .i64 v, Value.int .i64 v][j]? = some u → w3.cell? ((⟨b, 0, none⟩ : Addr).add j) = some u := fun j u hu => by
 have hj := (List.getElem?_eq_some_iff.1 hu).1
 rw [Go.WideShapes.add_plain]
 have hj2 : j = 0 ∨ j = 1 := by simp at hj; omega
 rcases hj2 with rfl | rfl
 ·cases hu; exact h0
 ·cases hu; exact h1
theorem rep2_first {n : Nat} (h : 0 < n) (v : Int) : splice (repH (n * 2) 0 v) 0 [.int .i64 v, .int .i64 v] = repH (n * 2) 2 v := by
 obtain ⟨m, rfl⟩ : ∃ m, n = m + 1 := ⟨n - 1, by omega⟩
 have := repH_splice (n := (m + 1) * 2) (j := 0) (m := 2) (by omega) v
 simpa [List.replicate_succ] using this
theorem rep2_srcM {w3 : World} {b m : Nat} {v : Int} (hc : ∀ j, j < m * 2 → w3.cell? ⟨b, 0 + j, none⟩ = some (.int .i64 v)) : ∀ j u, (List.replicate (m * 2) (Value.int .i64 v))[j]? = some u → w3.cell? ((⟨b, 0, none⟩ : Addr).add j) = some u := fun j u hu => by
 have hj := (List.getElem?_eq_some_iff.1 hu).1
 rw [List.length_replicate] at hj
 rw [List.eq_of_mem_replicate (List.mem_of_getElem? hu), Go.WideShapes.add_plain]
 exact hc j hj
theorem repeat2_any (v : Int) (n : Nat) (hn0 : 0 < n) (hn : n ≤ 4194304) (b : Nat) (w : World) (hb : w.cell? ⟨b, 0, none⟩ = some (.int .i64 v)) (hb1 : w.cell? ⟨b, 1, none⟩ = some (.int .i64 v)) :
  Calls Tryz.prog 161 #[.slice (some ⟨b, 0, none⟩) 1 1, .int .i64 (n : Int)] w fun e w' => ∃ g, e = .returned (.slice (some ⟨g, 0, none⟩) n n) ∧ w.heap.size ≤ g ∧ Blk 171 w' g (List.replicate (n * 2) (.int .i64 v)) ∧ Below w.heap.size w w' := by
 obtain ⟨i0, hi, hz0, hz1, hz2⟩ := info_parts infoLk
 have hmul := Tryz.bits_Mul 1 n (by decide) (by omega) w
 rw [Nat.one_mul, Nat.div_eq_of_lt (by omega), Nat.mod_eq_of_lt (by omega)] at hmul
 have hn0' : ¬ (n : Int) < 0 := by omega
 go_enter Tryz.func161, Tryz.ntmps161
 go_wp2_with fail
 refine hmul.mono ?_
 clear hmul
 rintro e w2 ⟨rfl, rfl⟩
 have hnb : decide ((9223372036854775807 : Int) < (n : Int)) = false := decide_eq_false (by omega)
 have hbl := World.block_lt_of_cell? w2 _ hb
 have hmn : Nat.min 1 n = 1 := Nat.min_eq_left (by omega)
 have HMN : Hid _ := hmn
 clear hmn
 go_wp2_with (at_make; refine wpList_make_full _ rfl _ _ 176 rfl w2.heap.size 171 i0 (.agg #[.int .i64 0, .int .i64 0]) 2 Tryz.underlying176 hi hz0 hz1 .i64 .i64 _ _ n rfl rfl rfl rfl (by rw [hz2]; omega) (by unfold maxLen; omega) (Nat.le_refl _) ?_; intro w3 hown hgrow; have hb3 : Below w2.heap.size w2 w3 := (Below.refl _ _).grown hgrow (Nat.le_refl _) (fun k e => by cases e); have HB3 : Hid (Below w2.heap.size w2 w3) := hb3; have HRW : Hid _ := rep2_row v hown; have hcp := run_copy2 (P := Tryz.prog) w3 176 176 3 171 w2.heap.size 0 n n ⟨b, 0, none⟩ 1 1 (repH (n * 2) 0 v).toArray 171 [.int .i64 v, .int .i64 v] Tryz.underlying176 infoLk1 HRW.out 1 HMN.out.symm rfl (rep2_src ((hb3.cell (p := ⟨b, 0, none⟩) hbl).trans hb) ((hb3.cell (p := ⟨b, 1, none⟩) hbl).trans hb1)) (by rw [List.size_toArray, repH_len (Nat.zero_le _)]; simp; omega) (by intro u hu; simp at hu; subst hu; rfl); clear hown hgrow hb3)
 obtain ⟨w4, hw4⟩ : ∃ W, w3.setRow w2.heap.size (splice (repH (n * 2) 0 v) 0 [Value.int .i64 v, Value.int .i64 v]).toArray = W := ⟨_, rfl⟩
 have HR4 : Hid (w4.heap[w2.heap.size]? = some (.cells (repH (n * 2) (1 * 2) v).toArray 171 (0, 0))) := by
  rw [← hw4, rep2_first hn0 v]
  exact setRow_heap w3 w2.heap.size _ _ 171 (0, 0) HRW.out
 have HB4 : Hid (Below w2.heap.size w2 w4) := by
  rw [← hw4]
  exact below_setRow HB3.out (Nat.le_refl _) _
 rw [hw4]
 clear hw4 hcp HRW HB3
 go_loopw [8] (fun jv wr => ∃ j : Nat, j ≤ n ∧ 0 < j ∧ jv = .int .i64 j ∧ Hid (wr.heap[w2.heap.size]? = some (.cells (repH (n * 2) (j * 2) v).toArray 171 (0, 0))) ∧ Below w2.heap.size w2 wr) (fun jv _ => n - (intOf jv).toNat)
 case atStart => exact ⟨1, by omega, by omega, rfl, HR4, HB4.out⟩
 case round =>
  obtain ⟨j, hj, hj0, rfl, HRJ, hbj⟩ := hrel
  by_cases hlt : j < n
  ·have hjl : (j : Int) < ((n : Nat) : Int) := by omega
   have hm1 : Nat.min j (n - j) ≤ n - j := Nat.min_le_right _ _
   have hm2 : Nat.min j (n - j) ≤ j := Nat.min_le_left _ _
   have hm3 : 0 < Nat.min j (n - j) := Nat.lt_min.2 ⟨hj0, by omega⟩
   have HMM : Hid _ := And.intro hm1 (And.intro hm2 hm3)
   have HSP : Hid (splice (repH (n * 2) (j * 2) v) (j * 2) (List.replicate (Nat.min j (n - j) * 2) (.int .i64 v)) = repH (n * 2) ((j + Nat.min j (n - j)) * 2) v) := by
    have := repH_splice (n := n * 2) (j := j * 2) (m := Nat.min j (n - j) * 2) (by omega) v
    rw [← Nat.add_mul] at this
    exact this
   have HLN : Hid ((List.replicate (Nat.min j (n - j) * 2) (Value.int .i64 v)).length = Nat.min j (n - j) * 2) := List.length_replicate ..
   have HB : Hid (Below w2.heap.size w2 wr) := hbj
   have HFT : Hid _ := rep_fit (n := n * 2) (j := j * 2) (m := Nat.min j (n - j) * 2) (v := v) (by omega)
   have HSR : Hid (∀ i, i < Nat.min j (n - j) * 2 → wr.drew.cell? ⟨w2.heap.size, 0 + i, none⟩ = some (.int .i64 v)) := fun i hi => by
    have h1 : Blk 171 wr w2.heap.size (repH (n * 2) (j * 2) v) := HRJ.out
    rw [Nat.zero_add]
    exact h1.cell (repH_at (by omega))
   have HLT : Hid (j < n) := hlt
   clear hbj hm1 hm2 hm3
   go_wp2_with fail
   refine wp_region_held_drew (S := (fun _ : World => True)) (by kernel_rfl) trivial (fun hHeld => ?_)
   refine tkH 0 ?_ rfl (by kernel_rfl) rfl (.inl ⟨by rfl, ?_⟩) (by assumption) ?_
   rotate_left
   ·intro w h; (try dsimp only at h); go_simp; (try rfl)
   try simp only [Act.put, z4]
   refine tkH 1 ?_ rfl (by kernel_rfl) rfl (.inl ⟨by rfl, ?_⟩) (by assumption) ?_
   rotate_left
   ·intro w h; (try dsimp only at h); go_simp; (try rfl)
   try simp only [Act.put]
   refine tkH 2 ?_ rfl (by kernel_rfl) rfl (.inl ⟨by rfl, ?_⟩) (by assumption) ?_
   rotate_left
   ·intro w h; (try dsimp only at h); go_simp; (try rfl)
   try simp only [Act.put]
   refine tkH 3 ?_ rfl (by kernel_rfl) rfl (.inl ⟨by rfl, ?_⟩) (by assumption) ?_
   rotate_left
   ·intro w h; (try dsimp only at h); go_simp; (try rfl)
   try simp only [Act.put]
   try simp only [z1, z2, z3, z4, z5, z6]
   refine tkH 4 ?_ rfl (by kernel_rfl) rfl (.inl ⟨by rfl, ?_⟩) (by assumption) ?_
   rotate_left
   ·intro w h; (try dsimp only at h); go_simp; (try rfl)
   try simp only [Act.put]
   refine tkH 5 ?_ rfl (by kernel_rfl) rfl (.inl ⟨by rfl, ?_⟩) (by assumption) ?_
   rotate_left
   ·intro w h; (try dsimp only at h); go_simp; (try rfl)
   try simp only [Act.put]
   refine tkH 6 ?_ rfl (by kernel_rfl) rfl (.inl ⟨by rfl, ?_⟩) (by assumption) ?_
   rotate_left
   ·intro w h; (try dsimp only at h); go_simp; (try rfl)
   try simp only [Act.put]
   try simp only [z1, z2, z3, z4, z5, z6]
   refine wpAnyH_ready (rs := [7]) (by kernel_rfl) (by simp) ?_
   refine AllReadyH.cons rfl (fun K hK => ?_) AllReadyH.nil
   refine step_copy2 rfl _ _ 176 176 rfl 171 Tryz.underlying176 infoLk1 ⟨w2.heap.size, 0, none⟩ (n - j) (n - j) j n w2.heap.size (j * 2) ?hd ?hs (repH (n * 2) (j * 2) v) 171 HRJ.out (List.replicate (Nat.min j (n - j) * 2) (.int .i64 v)) (Nat.min j (n - j)) rfl HLN.out (rep2_srcM HSR.out) HFT.out (rep_one _ v) w2.heap.size w2 (below_drewN HB.out 1) (Nat.le_refl _) ?_
   case hd =>
    show Value.slice (if n = j then some _ else some _) _ _ = _
    rw [if_neg (by have := HLT.out; omega)]
   case hs => rfl
   intro w5 hr5 hb5
   have HR5 : Hid (w5.heap[w2.heap.size]? = some (.cells (repH (n * 2) ((j + Nat.min j (n - j)) * 2) v).toArray 171 (0, 0))) := by
    have h1 := hr5.out
    rw [HSP.out] at h1
    exact h1
   have HB5 : Hid (Below w2.heap.size w2 w5) := hb5
   refine hK.out _ _ trivial (fun _ => ?_)
   clear hK K hr5 hb5 HSP HLN HFT HSR HRJ HB hHeld
   have hmm := HMM.out
   clear HMM
   generalize Nat.min j (n - j) = m at *
   obtain ⟨hm1, hm2, hm3⟩ := hmm
   have hwr := wrap_i ((j : Int) + (m : Int)) (by omega) (by have := HLT.out; omega)
   try simp only [Act.put, z4]
   refine tkH 8 ?_ rfl (by kernel_rfl) rfl (.inl ⟨by rfl, ?_⟩) (by assumption) ?_
   rotate_left
   ·intro w h; (try dsimp only at h); go_simp; (try rfl)
   try simp only [Act.put]
   refine tkH 9 ?_ rfl (by kernel_rfl) rfl (.inl ⟨by rfl, ?_⟩) (by assumption) ?_
   rotate_left
   ·intro w h; (try dsimp only at h); go_simp; (try rfl)
   try simp only [Act.put]
   refine wpAnyH_done (by kernel_rfl) ?_ _
   go_wp2
   have hlt2 := HLT.out
   exact ⟨⟨j + m, by omega, by omega, by go_num, HR5, HB5.out⟩, by simp [intOf]; omega⟩
  ·have hjn : j = n := by omega
   have hjl : ¬ (j : Int) < ((n : Nat) : Int) := by omega
   have HRF : Hid (Blk 171 wr w2.heap.size (List.replicate (n * 2) (.int .i64 v))) := by
    have h1 := HRJ.out
    rw [hjn, repH_full] at h1
    exact h1
   clear hjn
   have HB : Hid (Below w2.heap.size w2 wr) := hbj
   clear HRJ hbj
   go_wp2
   go_ret
   exact ⟨w2.heap.size, rfl, Nat.le_refl _, HRF.out, HB.out⟩
theorem infoSlL : (Tryz.prog.info? 176).map (fun i => (i.zero, i.size, i.bytes)) = some (some (.slice none 0 0), 1, 24) := by kernel_rfl
theorem squareL_any (v : Int) (n : Nat) (hn0 : 0 < n) (hn : n ≤ 4194304) (w : World) :
  Calls Tryz.prog 138 #[.int .i64 (n : Int), .agg #[.int .i64 v, .int .i64 v]] w fun e w' => ∃ rb bs, e = .returned (.slice (some ⟨rb, 0, none⟩) n n) ∧ SQ 171 176 n n (List.replicate (n * 2) (.int .i64 v)) rb bs w' ∧ Below w.heap.size w w' ∧ w.heap.size ≤ rb := by
 obtain ⟨i0, hi, hz0, hz1, hz2⟩ := info_parts infoSlL
 have E1 : Hid ((w.alloc (.cells #[.int .i64 v, .int .i64 v] 171)).heap.size = w.heap.size + 1) := by show _ = _; simp
 go_enter Tryz.func138, Tryz.ntmps138
 go_wp2_with (at_make; refine wpList_make_full _ rfl _ _ 168 rfl w.heap.size 176 i0 (.slice none 0 0) 1 Tryz.underlying168 hi hz0 hz1 .i64 .i64 _ _ n rfl rfl rfl rfl (by rw [hz2]; omega) (by unfold maxLen; omega) (by simp) ?_; intro w3 hown hgrow)
 have hb3 : Below (w.alloc (.cells #[.int .i64 v, .int .i64 v] 171)).heap.size (w.alloc (.cells #[.int .i64 v, .int .i64 v] 171)) w3 := (Below.refl _ _).grown hgrow (Nat.le_refl _) (fun k e => by cases e)
 have q0 : w3.cell? ⟨w.heap.size, 0, none⟩ = some (.int .i64 v) := (hb3.cell (p := ⟨w.heap.size, 0, none⟩) (by rw [E1.out]; exact Nat.lt_succ_self _)).trans (new_cell rfl rfl)
 have q1 : w3.cell? ⟨w.heap.size, 1, none⟩ = some (.int .i64 v) := (hb3.cell (p := ⟨w.heap.size, 1, none⟩) (by rw [E1.out]; exact Nat.lt_succ_self _)).trans (new_cell rfl rfl)
 have hbw : Below w.heap.size w w3 := ((Below.refl _ _).alloc (Nat.le_refl _) _).trans (hb3.mono (by rw [E1.out]; omega))
 rw [E1.out] at hown
 have hrow := Blk.made hown
 have hsz := hrow.lt
 rw [slices_madeKT, ← rowsK_zero n id] at hrow
 have HSQ : Hid (SQ 171 176 n 0 (List.replicate (n * 2) (.int .i64 v)) (w.heap.size + 1) id w3) := ⟨hrow, fun i hi => absurd hi (by omega), fun i hi => absurd hi (by omega), fun i j _ hj => absurd hj (by omega)⟩
 have HBW : Hid (Below w.heap.size w w3) := hbw
 clear hown hgrow hb3 hrow hbw hi hz0 hz1 hz2 E1
 obtain ⟨x, hx⟩ : ∃ x, w.heap.size = x := ⟨_, rfl⟩
 rw [hx] at HSQ HBW hsz q0 q1 ⊢
 go_wp2
 go_loopw [11] (fun i wr => ∃ (k : Nat) (bs : Nat → Nat), k ≤ n ∧ i = .int .i64 k ∧ Hid (SQ 171 176 n k (List.replicate (n * 2) (.int .i64 v)) (x + 1) bs wr) ∧ Hid (Tch (x + 1) w3 wr)) (fun i _ => n - (intOf i).toNat)
 case atStart => exact ⟨0, id, Nat.zero_le _, rfl, HSQ, Tch.refl _ _⟩
 case round =>
  obtain ⟨k, bs, hk, rfl, HS, HT⟩ := hrel
  have c0 := HT.out.cell q0 (by omega)
  have c1 := HT.out.cell q1 (by omega)
  by_cases hlt : k < n
  ·have hkl : (k : Int) < (n : Int) := by omega
   have t0 : wr.cell? ⟨x + 1, k, none⟩ = some (.slice none 0 0) := HS.out.rows.cell (by rw [rowsK_atT hlt, if_neg (by omega)])
   have hal : Below wr.heap.size wr (wr.alloc (.cells #[.int .i64 v, .int .i64 v] 171)) := (Below.refl _ _).alloc (Nat.le_refl _) _
   have hrp := repeat2_any v n hn0 (by omega) wr.heap.size (wr.alloc (.cells #[.int .i64 v, .int .i64 v] 171)) (new_cell rfl rfl) (new_cell rfl rfl)
   have hs1 : (wr.alloc (.cells #[.int .i64 v, .int .i64 v] 171)).heap.size = wr.heap.size + 1 := by simp
   rw [hs1] at hrp
   have HAL : Hid _ := hal
   have HS1 : Hid _ := hs1
   have hxl : x + 1 < wr.heap.size := HS.out.rows.lt
   have hfz := HS.out.rows.frozen k
   clear hal hs1
   go_wp2_with fail
   refine hrp.mono ?_
   rintro e w5 ⟨g, rfl, hg, hB5, hb5⟩
   have hb6 : Below wr.heap.size wr w5 := HAL.out.trans (hb5.mono (by omega))
   have HN : Hid _ := HS.out.next hlt hb6 hB5 (by omega)
   have HTN : Hid (Tch (x + 1) w3 (w5.setCell ⟨x + 1, k, none⟩ (.slice (some ⟨g, 0, none⟩) n n))) := (HT.out.trans (Tch.of_below hb6)).set k _
   have t1 := (hb6.cell (p := ⟨x + 1, k, none⟩) hxl).trans t0
   have f1 : w5.frozen? ⟨x + 1, k, none⟩ = false := (HS.out.rows.go hb6).frozen k
   clear hrp hB5 hb5 hb6 HS HT t0 c0 c1 HAL HS1 hfz
   go_wp2
   exact ⟨⟨k + 1, _, by omega, by go_num, HN, HTN⟩, by simp [intOf]; omega⟩
  ·obtain rfl : k = n := by omega
   have HBf : Hid (Below x w wr) := HT.out.below HBW.out (by omega) (by omega)
   have HSf : Hid _ := HS.out
   clear HT HS c0 c1
   go_wp2
   go_ret
   exact ⟨x + 1, bs, rfl, HSf.out, by rw [hx]; exact HBf.out, by omega⟩
def L2 (c : Nat) : List Eg := [(1, 0, c)]
theorem L2_at {p : Option Addr} {q c : Nat} {w : World} (h : Edges w.heap.size w (.slice p 1 q) ((L2 c).map edE)) : ∃ b off, p = some ⟨b, off, none⟩ ∧ b < w.heap.size ∧ 1 ≤ q ∧ ∀ W', Below w.heap.size w W' → W'.cell? ⟨b, off, none⟩ = some (.int .i64 1) ∧ W'.cell? ⟨b, off + 1, none⟩ = some (.int .i64 0) ∧ W'.cell? ⟨b, off + 2, none⟩ = some (.int .i64 (c : Int)) := by
 obtain ⟨b, off, h1, h2, h3, h4⟩ := Edges.eg (L := L2 c) (j := 0) h (by simp [L2])
 refine ⟨b, off, h1, h2, h3, fun W' hW => ?_⟩
 have := h4 W' hW 0 (by simp [L2])
 simpa [L2] using this
theorem mIsVertex_any (v : Int) (sv : Value) (w : World) (h0 : 0 ≤ v) (h1 : v < 2) (hs : ∃ p k c, sv = .slice p k c) : Calls Tryz.prog 158 #[.agg #[.int .i64 2, sv], .int .i64 v] w fun r w' => r = .returned (.bool true) ∧ Grew w w' := by
 obtain ⟨p, k, c, rfl⟩ := hs
 have hg1 : Grew w (w.alloc (.cells #[.int .i64 2, .slice p k c] 24)) := (Grew.refl w).alloc _
 go_enter Tryz.func158, Tryz.ntmps158
 go_wp2
 go_ret
 exact ⟨rfl, hg1⟩
theorem two_boxes {w W' : World} {a0 a1 b0 b1 b2 : Value} {ta tb : TypeId} (h : Grew ((w.alloc (.cells #[a0, a1] ta)).alloc (.cells #[b0, b1, b2] tb)) W') : W'.cell? ⟨w.heap.size, 0, none⟩ = some a0 ∧ W'.cell? ⟨w.heap.size, 1, none⟩ = some a1 ∧ W'.cell? ⟨w.heap.size + 1, 0, none⟩ = some b0 ∧ W'.cell? ⟨w.heap.size + 1, 1, none⟩ = some b1 ∧ W'.cell? ⟨w.heap.size + 1, 2, none⟩ = some b2 := by
 have h1 : Blk ta (w.alloc (.cells #[a0, a1] ta)) w.heap.size [a0, a1] := heap_alloc_new w _
 have h2 : Blk tb ((w.alloc (.cells #[a0, a1] ta)).alloc (.cells #[b0, b1, b2] tb)) (w.alloc (.cells #[a0, a1] ta)).heap.size [b0, b1, b2] := heap_alloc_new _ _
 have h3 := (h1.go ((Below.refl _ _).alloc (Nat.le_refl _) _ : Below _ _ ((w.alloc (.cells #[a0, a1] ta)).alloc (.cells #[b0, b1, b2] tb)))).go h.below
 have h4 := h2.go h.below
 have e : (w.alloc (.cells #[a0, a1] ta)).heap.size = w.heap.size + 1 := by simp
 rw [e] at h4
 exact ⟨h3.cell (j := 0) rfl, h3.cell (j := 1) rfl, h4.cell (j := 0) rfl, h4.cell (j := 1) rfl, h4.cell (j := 2) rfl⟩
theorem mFits_any (c : Nat) (hc : c < 1099511627776) (sv : Value) (w : World) (hs : ∃ p k c, sv = .slice p k c) : Calls Tryz.prog 132 #[.agg #[.int .i64 2, sv], .agg #[.int .i64 1, .int .i64 0, .int .i64 (c : Int)]] w fun r w' => r = .returned (.int .i64 0) ∧ Below w.heap.size w w' := by
 obtain ⟨p, k, q, rfl⟩ := hs
 have hg1 : Grew w ((w.alloc (.cells #[.int .i64 2, .slice p k q] 24)).alloc (.cells #[.int .i64 1, .int .i64 0, .int .i64 (c : Int)] 50)) := ((Grew.refl w).alloc _).alloc _
 have hv := fun v W a b => mIsVertex_any v (.slice p k q) W a b ⟨p, k, q, rfl⟩
 have hc1 : decide ((c : Int) ≤ -1099511627776) = false := decide_eq_false (by omega)
 have hc2 : decide ((1099511627776 : Int) ≤ (c : Int)) = false := decide_eq_false (by omega)
 go_enter Tryz.func132, Tryz.ntmps132
 go_wp2_with fail
 refine (hv 1 _ (by omega) (by omega)).mono ?_
 rintro e w2 ⟨rfl, hg2⟩
 obtain ⟨x0, x1, y0, y1, y2⟩ := two_boxes hg2
 go_wp2_with fail
 refine (hv 0 _ (by omega) (by omega)).mono ?_
 rintro e w3 ⟨rfl, hg3⟩
 have hg4 := hg2.trans hg3
 clear x0 x1 y0 y1 y2
 obtain ⟨x0, x1, y0, y1, y2⟩ := two_boxes hg4
 go_wp2
 go_ret
 exact ⟨rfl, (hg1.trans hg4).below⟩
theorem mRight_any (c : Nat) (hc : c < 1099511627776) (p : Option Addr) (q : Nat) (w : World) (hl : Edges w.heap.size w (.slice p 1 q) ((L2 c).map edE)) : Calls Tryz.prog 111 #[.agg #[.int .i64 2, .slice p 1 q]] w fun r w' => r = .returned (.int .i64 0) ∧ Below w.heap.size w w' := by
 obtain ⟨b, off, rfl, hb, hq, hcl⟩ := L2_at hl
 have hx : Blk 24 (w.alloc (.cells #[.int .i64 2, .slice (some ⟨b, off, none⟩) 1 q] 24)) w.heap.size [.int .i64 2, .slice (some ⟨b, off, none⟩) 1 q] := heap_alloc_new w _
 have hg1 : Below w.heap.size w (w.alloc (.cells #[.int .i64 2, .slice (some ⟨b, off, none⟩) 1 q] 24)) := (Below.refl _ _).alloc (Nat.le_refl _) _
 have HX : Hid (Blk 24 (w.alloc (.cells #[.int .i64 2, .slice (some ⟨b, off, none⟩) 1 q] 24)) w.heap.size [.int .i64 2, .slice (some ⟨b, off, none⟩) 1 q]) := hx
 have HG : Hid _ := hg1
 have HC : Hid _ := hcl
 clear hx hg1 hcl hl
 go_enter Tryz.func111, Tryz.ntmps111
 go_wp2
 go_loopw [21] (fun i wr => ∃ j : Nat, j ≤ 1 ∧ i = .int .i64 j ∧ Below (w.alloc (.cells #[.int .i64 2, .slice (some ⟨b, off, none⟩) 1 q] 24)).heap.size (w.alloc (.cells #[.int .i64 2, .slice (some ⟨b, off, none⟩) 1 q] 24)) wr) (fun i _ => 1 - (intOf i).toNat)
 case atStart => exact ⟨0, by omega, rfl, Below.refl _ _⟩
 case round =>
  obtain ⟨j, hj, rfl, hbr⟩ := hrel
  have hX := HX.out.go hbr
  have x0 := hX.cell (j := 0) rfl
  have x1 := hX.cell (j := 1) rfl
  have hbw := HG.out.trans (hbr.mono HG.out.size)
  by_cases hlt : j = 0
  ·subst hlt
   obtain ⟨c0, c1, c2⟩ := HC.out wr hbw
   have hf := mFits_any c hc (.slice (some ⟨b, off, none⟩) 1 q) (wr.alloc (.cells #[.int .i64 1, .int .i64 0, .int .i64 (c : Int)] 50)) ⟨_, _, _, rfl⟩
   have hbx := hX.lt
   have HA : Hid (Below wr.heap.size wr (wr.alloc (.cells #[.int .i64 1, .int .i64 0, .int .i64 (c : Int)] 50))) := (Below.refl _ _).alloc (Nat.le_refl _) _
   clear hX
   go_wp2_with fail
   refine hf.mono ?_
   rintro e w3 ⟨rfl, hb3⟩
   have HB3 : Hid (Below (w.alloc (.cells #[.int .i64 2, .slice (some ⟨b, off, none⟩) 1 q] 24)).heap.size (w.alloc (.cells #[.int .i64 2, .slice (some ⟨b, off, none⟩) 1 q] 24)) w3) := hbr.trans ((HA.out.trans (hb3.mono HA.out.size)).mono hbr.size)
   clear hf hb3 hbr x0 x1 c0 c1 c2
   go_wp2
   exact ⟨⟨1, by omega, rfl, HB3.out⟩, by simp [intOf]⟩
  ·obtain rfl : j = 1 := by omega
   have HBf : Hid _ := hbw
   clear hbw hX
   go_wp2
   go_ret
   exact ⟨rfl, HBf.out⟩
theorem highest_any (c : Nat) (hc : c < 1099511627776) (p : Option Addr) (q : Nat) (w : World) (hl : Edges w.heap.size w (.slice p 1 q) ((L2 c).map edE)) : Calls Tryz.prog 134 #[.agg #[.int .i64 2, .slice p 1 q]] w fun r w' => r = .returned (.int .i64 (-(c : Int))) ∧ Below w.heap.size w w' := by
 obtain ⟨b, off, rfl, hb, hq, hcl⟩ := L2_at hl
 have hx : Blk 24 (w.alloc (.cells #[.int .i64 2, .slice (some ⟨b, off, none⟩) 1 q] 24)) w.heap.size [.int .i64 2, .slice (some ⟨b, off, none⟩) 1 q] := heap_alloc_new w _
 have hg1 : Below w.heap.size w (w.alloc (.cells #[.int .i64 2, .slice (some ⟨b, off, none⟩) 1 q] 24)) := (Below.refl _ _).alloc (Nat.le_refl _) _
 have HX : Hid (Blk 24 (w.alloc (.cells #[.int .i64 2, .slice (some ⟨b, off, none⟩) 1 q] 24)) w.heap.size [.int .i64 2, .slice (some ⟨b, off, none⟩) 1 q]) := hx
 have HG : Hid _ := hg1
 have HC : Hid _ := hcl
 have hm1 : (-1099511627776 : Int) ≤ -(c : Int) := by omega
 have hm2 : (-1099511627776 : Int) < -(c : Int) := by omega
 clear hx hg1 hcl hl
 go_enter Tryz.func134, Tryz.ntmps134
 go_wp2
 go_loopw [3, 9] (fun mv i wr => ((i = .int .i64 0 ∧ mv = .int .i64 (-1099511627776)) ∨ (i = .int .i64 1 ∧ mv = .int .i64 (-(c : Int)))) ∧ Below (w.alloc (.cells #[.int .i64 2, .slice (some ⟨b, off, none⟩) 1 q] 24)).heap.size (w.alloc (.cells #[.int .i64 2, .slice (some ⟨b, off, none⟩) 1 q] 24)) wr) (fun _ i _ => 1 - (intOf i).toNat)
 case atStart => exact ⟨.inl ⟨rfl, rfl⟩, Below.refl _ _⟩
 case round =>
  obtain ⟨hor, hbr⟩ := hrel
  have hX := HX.out.go hbr
  have x0 := hX.cell (j := 0) rfl
  have x1 := hX.cell (j := 1) rfl
  have hbw := HG.out.trans (hbr.mono HG.out.size)
  rcases hor with ⟨rfl, rfl⟩ | ⟨rfl, rfl⟩
  ·obtain ⟨c0, c1, c2⟩ := HC.out wr hbw
   have hbx := hX.lt
   have HB3 : Hid (Below (w.alloc (.cells #[.int .i64 2, .slice (some ⟨b, off, none⟩) 1 q] 24)).heap.size (w.alloc (.cells #[.int .i64 2, .slice (some ⟨b, off, none⟩) 1 q] 24)) (wr.alloc (.cells #[.int .i64 1, .int .i64 0, .int .i64 (c : Int)] 50))) := hbr.alloc hbr.size _
   clear hX hbw hbr
   go_wp2
   exact ⟨⟨.inr ⟨rfl, congrArg (Value.int .i64) (by omega)⟩, HB3.out⟩, by simp [intOf]⟩
  ·have HBf : Hid _ := hbw
   clear hbw hX
   go_wp2
   go_ret
   exact ⟨rfl, HBf.out⟩
structure R2 (t tr : TypeId) (n rb b0 b1 : Nat) (r0 r1 : List Value) (W : World) : Prop where
 rows : Blk tr W rb [.slice (some ⟨b0, 0, none⟩) n n, .slice (some ⟨b1, 0, none⟩) n n]
 r0 : Blk t W b0 r0
 r1 : Blk t W b1 r1
 lt0 : rb < b0
 lt1 : b0 < b1
theorem R2.go {t tr : TypeId} {n rb b0 b1 : Nat} {r0 r1 : List Value} {W W' : World} (h : R2 t tr n rb b0 b1 r0 r1 W) (hb : Below W.heap.size W W') : R2 t tr n rb b0 b1 r0 r1 W' := ⟨h.rows.go hb, h.r0.go hb, h.r1.go hb, h.lt0, h.lt1⟩
theorem R2.of {t tr : TypeId} {row : List Value} {rb : Nat} {bs : Nat → Nat} {W : World} (h : SQ t tr 2 2 row rb bs W) : R2 t tr 2 rb (bs 0) (bs 1) row row W :=
 ⟨by have := h.rows; simpa [rowsKT, List.range_succ] using this, h.row 0 (by omega), h.row 1 (by omega), h.gt 0 (by omega), h.rise 0 1 (by omega) (by omega)⟩
theorem neg_rows : List.replicate 2 (Value.int .i64 (-1)) = [.int .i64 (-1), .int .i64 (-1)] := rfl
theorem cheapest_any (c : Nat) (p : Option Addr) (q : Nat) (w : World) (hl : Edges w.heap.size w (.slice p 1 q) ((L2 c).map edE)) : Calls Tryz.prog 136 #[.agg #[.int .i64 2, .slice p 1 q]] w fun r w' => ∃ rb b0 b1, r = .returned (.slice (some ⟨rb, 0, none⟩) 2 2) ∧ R2 3 27 2 rb b0 b1 [.int .i64 (-1), .int .i64 0] [.int .i64 0, .int .i64 (-1)] w' ∧ Below w.heap.size w w' ∧ w.heap.size ≤ rb := by
 have hmix := mixed
 obtain ⟨b, off, rfl, hb, hq, hcl⟩ := L2_at hl
 have hx : Blk 24 (w.alloc (.cells #[.int .i64 2, .slice (some ⟨b, off, none⟩) 1 q] 24)) w.heap.size [.int .i64 2, .slice (some ⟨b, off, none⟩) 1 q] := heap_alloc_new w _
 have hg1 : Below w.heap.size w (w.alloc (.cells #[.int .i64 2, .slice (some ⟨b, off, none⟩) 1 q] 24)) := (Below.refl _ _).alloc (Nat.le_refl _) _
 have hsq := squareI_any (-1) 2 (by omega) (by omega) (w.alloc (.cells #[.int .i64 2, .slice (some ⟨b, off, none⟩) 1 q] 24))
 have HX : Hid (Blk 24 (w.alloc (.cells #[.int .i64 2, .slice (some ⟨b, off, none⟩) 1 q] 24)) w.heap.size [.int .i64 2, .slice (some ⟨b, off, none⟩) 1 q]) := hx
 have HG : Hid _ := hg1
 have HC : Hid _ := hcl
 clear hx hg1 hcl hl
 go_enter Tryz.func136, Tryz.ntmps136
 go_wp2_with fail
 refine hsq.mono ?_
 rintro e w2 ⟨rb, bs, rfl, hSQ, hb2, hrb⟩
 clear hsq
 have hX := Blk.go HX.out hb2
 have x0 := hX.cell (j := 0) rfl
 have x1 := hX.cell (j := 1) rfl
 have HB2 : Hid (Below w.heap.size w w2) := HG.out.trans (hb2.mono HG.out.size)
 have hR := R2.of hSQ
 rw [neg_rows] at hR
 have hxs : (w.alloc (.cells #[.int .i64 2, .slice (some ⟨b, off, none⟩) 1 q] 24)).heap.size = w.heap.size + 1 := by simp
 rw [hxs] at hrb
 generalize bs 0 = b0 at hR
 generalize bs 1 = b1 at hR
 have HR : Hid (R2 3 27 2 rb b0 b1 [.int .i64 (-1), .int .i64 (-1)] [.int .i64 (-1), .int .i64 (-1)] w2) := hR
 have hbx := hX.lt
 have HX2 : Hid (Blk 24 w2 w.heap.size [.int .i64 2, .slice (some ⟨b, off, none⟩) 1 q]) := hX
 clear hSQ hb2 hR hX HX HG hxs
 obtain ⟨x, hx⟩ : ∃ x, w.heap.size = x := ⟨_, rfl⟩
 have HCx : Hid (∀ W', Below x w W' → W'.cell? ⟨b, off, none⟩ = some (.int .i64 1) ∧ W'.cell? ⟨b, off + 1, none⟩ = some (.int .i64 0) ∧ W'.cell? ⟨b, off + 2, none⟩ = some (.int .i64 (c : Int))) := by rw [← hx]; exact HC.out
 rw [hx] at HX2 HB2 hrb hbx hb x0 x1 ⊢
 clear HC
 go_wp2
 have h1 := HR.out.lt0
 have h2 := HR.out.lt1
 go_loopw [13] (fun i wr => (i = .int .i64 0 ∧ wr = w2) ∨ (i = .int .i64 1 ∧ R2 3 27 2 rb b0 b1 [.int .i64 (-1), .int .i64 0] [.int .i64 0, .int .i64 (-1)] wr ∧ Below x w wr ∧ wr.cell? ⟨x, 1, none⟩ = some (.slice (some ⟨b, off, none⟩) 1 q))) (fun i _ => 1 - (intOf i).toNat)
 case atStart => exact .inl ⟨rfl, rfl⟩
 case round =>
  rcases hrel with ⟨rfl, rfl⟩ | ⟨rfl, hR, hbr, hx1⟩
  ·obtain ⟨c0, c1, c2⟩ := HCx.out wr HB2.out
   have hsr := HR.out.r1.lt
   have HE6 : Hid (Blk 50 (wr.alloc (.cells #[.int .i64 1, .int .i64 0, .int .i64 (c : Int)] 50)) wr.heap.size [.int .i64 1, .int .i64 0, .int .i64 (c : Int)]) := heap_alloc_new wr _
   have HB6 : Hid (Below wr.heap.size wr (wr.alloc (.cells #[.int .i64 1, .int .i64 0, .int .i64 (c : Int)] 50))) := (Below.refl _ _).alloc (Nat.le_refl _) _
   go_wp2
   obtain ⟨w6, hw6⟩ : ∃ W, wr.alloc (.cells #[.int .i64 1, .int .i64 0, .int .i64 (c : Int)] 50) = W := ⟨_, rfl⟩
   rw [hw6] at HE6 HB6 ⊢
   clear hw6 c0 c1 c2 x0 x1
   have HR6 : Hid (R2 3 27 2 rb b0 b1 [.int .i64 (-1), .int .i64 (-1)] [.int .i64 (-1), .int .i64 (-1)] w6) := HR.out.go HB6.out
   have HX6 : Hid (Blk 24 w6 x [.int .i64 2, .slice (some ⟨b, off, none⟩) 1 q]) := HX2.out.go HB6.out
   have HBw6 : Hid (Below x w w6) := HB2.out.trans (HB6.out.mono (by omega))
   obtain ⟨eb, heb⟩ : ∃ n, wr.heap.size = n := ⟨_, rfl⟩
   rw [heb] at HE6 hsr hbx ⊢
   clear heb HB6 HR HX2 HB2
   have y0 := HE6.out.cell (j := 0) rfl
   have y1 := HE6.out.cell (j := 1) rfl
   have y2 := HE6.out.cell (j := 2) rfl
   have r0 := HR6.out.rows.cell (j := 0) rfl
   have r1 := HR6.out.rows.cell (j := 1) rfl
   have s0 := HR6.out.r0.cell (j := 1) rfl
   have s1 := HR6.out.r1.cell (j := 0) rfl
   have f0 := HR6.out.r0.frozen 1
   have f1 := HR6.out.r1.frozen 0
   go_quiet (fail)
   generalize nq = k1
   go_wp2
   go_quiet (fail)
   obtain ⟨w7, hw7⟩ : ∃ W, (w6.drewN k1).drewN nq = W := ⟨_, rfl⟩
   have HR7 : Hid (R2 3 27 2 rb b0 b1 [.int .i64 (-1), .int .i64 (-1)] [.int .i64 (-1), .int .i64 (-1)] w7) := by rw [← hw7]; exact ⟨HR6.out.rows, HR6.out.r0, HR6.out.r1, h1, h2⟩
   have HX7 : Hid (Blk 24 w7 x [.int .i64 2, .slice (some ⟨b, off, none⟩) 1 q]) := by rw [← hw7]; exact HX6.out
   have HE7 : Hid (Blk 50 w7 eb [.int .i64 1, .int .i64 0, .int .i64 (c : Int)]) := by rw [← hw7]; exact HE6.out
   have HBw7 : Hid (Below x w w7) := by rw [← hw7]; exact below_drewN (below_drewN HBw6.out k1) nq
   rw [hw7]
   clear hw7 HR6 HX6 HE6 HBw6 y0 y1 y2 r0 r1 s0 s1 f0 f1
   have y0 := HE7.out.cell (j := 0) rfl
   have y1 := HE7.out.cell (j := 1) rfl
   have r0 := HR7.out.rows.cell (j := 0) rfl
   have r1 := HR7.out.rows.cell (j := 1) rfl
   have s0 := HR7.out.r0.cell (j := 1) rfl
   have s1 := HR7.out.r1.cell (j := 0) rfl
   have f0 := HR7.out.r0.frozen 1
   have f1 := HR7.out.r1.frozen 0
   have n1 : b0 ≠ b1 := by omega
   have n2 : eb ≠ b0 := by omega
   have n3 : eb ≠ b1 := by omega
   have n4 : rb ≠ b0 := by omega
   have n5 : rb ≠ b1 := by omega
   have HR8 : Hid (R2 3 27 2 rb b0 b1 [.int .i64 (-1), .int .i64 0] [.int .i64 0, .int .i64 (-1)] ((w7.setCell ⟨b1, 0, none⟩ (.int .i64 0)).setCell ⟨b0, 1, none⟩ (.int .i64 0))) :=
    ⟨(HR7.out.rows.other (p := ⟨b1, 0, none⟩) n5 _).other (p := ⟨b0, 1, none⟩) n4 _, (HR7.out.r0.other (p := ⟨b1, 0, none⟩) n1 _).set 1 _, (HR7.out.r1.set 0 _).other (p := ⟨b0, 1, none⟩) (Ne.symm n1) _, h1, h2⟩
   have HX8 : Hid (Blk 24 ((w7.setCell ⟨b1, 0, none⟩ (.int .i64 0)).setCell ⟨b0, 1, none⟩ (.int .i64 0)) x [.int .i64 2, .slice (some ⟨b, off, none⟩) 1 q]) :=
    (HX7.out.other (p := ⟨b1, 0, none⟩) (by show x ≠ b1; omega) _).other (p := ⟨b0, 1, none⟩) (by show x ≠ b0; omega) _
   have HBw8 : Hid (Below x w ((w7.setCell ⟨b1, 0, none⟩ (.int .i64 0)).setCell ⟨b0, 1, none⟩ (.int .i64 0))) := (HBw7.out.setCell (p := ⟨b1, 0, none⟩) (by show x ≤ b1; omega) _).setCell (p := ⟨b0, 1, none⟩) (by show x ≤ b0; omega) _
   clear HR7 HX7 HE7 HBw7
   go_wp2
   go_big_region_o
   go_wp2
   exact ⟨.inr ⟨rfl, ⟨HR8.out.rows, HR8.out.r0, HR8.out.r1, h1, h2⟩, below_drewN HBw8.out 1, HX8.out.cell (j := 1) rfl⟩, by simp [intOf]⟩
  ·go_wp2
   go_ret
   exact ⟨rb, b0, b1, rfl, hR, by rw [hx]; exact hbr, by omega⟩
end Go.Proofs.YtalflecmadacaaaGreat
