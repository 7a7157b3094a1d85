/-
  The contract of slices.Repeat at one number.
-/
import Derived.Laws.CopyOwn
import Derived.Test.YteekhofollaooaaXShelfM
import Derived.Test.YteekhofollaooaaQA
import Derived.Test.YteekhofollaooaaQD
import Derived.Test.YteekhofollaooaaQB
import Derived.Laws.EntriesVeiled
import Derived.Test.YteekhofollaooaaCA
import Derived.Test.YteekhofollaooaaQF
import Derived.Test.YteekhofollaooaaQH
namespace Go.Proofs.Yteekhofollaooaa
open Go Go.Proofs Go.RowKit

def repH (n j : Nat) (v : Int) : List Value := List.replicate j (.int .i64 v) ++ List.replicate (n - j) (.int .i64 0)
theorem repH_len {n j : Nat} (h : j ≤ n) (v : Int) : (repH n j v).length = n := by simp [repH]; omega
theorem repH_zero (n : Nat) (v : Int) : repH n 0 v = List.replicate n (.int .i64 0) := by simp [repH]
theorem repH_full (n : Nat) (v : Int) : repH n n v = List.replicate n (.int .i64 v) := by simp [repH]
theorem repH_splice {n j m : Nat} (h : j + m ≤ n) (v : Int) : splice (repH n j v) j (List.replicate m (.int .i64 v)) = repH n (j + m) v := by
  unfold splice repH
  apply List.ext_getElem?
  intro i
  rw [List.take_append, List.drop_append]
  simp only [List.length_replicate]
  rw [Nat.sub_self, List.take_zero, List.append_nil, List.take_of_length_le (by simp)]
  rw [List.drop_of_length_le (by simp), List.nil_append, List.drop_replicate]
  rw [← List.append_assoc, List.replicate_append_replicate]
  congr 3
  omega
theorem infoI1 : (Try.prog.info? 3).map (·.size) = some 1 := by kernel_rfl

theorem rep_row {w3 : World} {base g n : Nat} (v : Int) (hown : w3.ownsRow base 3 1 (.slice (some ⟨g, 0, none⟩) n n) n (madeCells (Value.int .i64 0).cells (n * 1)).toList) : w3.heap[g]? = some (.cells (repH n 0 v).toArray 3 (0, 0)) := by
  have h1 := Blk.made hown
  rw [ints_made, List.map_replicate, ← repH_zero n v] at h1
  exact h1
theorem rep_src {w3 : World} {b m g off o : Nat} {v : Int} (hc : ∀ j, j < m → w3.cell? ⟨b, o + j, none⟩ = some (.int .i64 v)) : 0 < (List.replicate m (Value.int .i64 v)).length → (some ⟨g, off, none⟩ : Option Addr) = some ⟨g, off, none⟩ ∧ ∃ ad, (some ⟨b, o, none⟩ : Option Addr) = some ad ∧ ∀ j u, (List.replicate m (Value.int .i64 v))[j]? = some u → w3.cell? (ad.add j) = some u := fun _ => ⟨rfl, _, rfl, fun j u hu => by
  have hj := (List.getElem?_eq_some_iff.1 hu).1
  rw [List.length_replicate] at hj
  rw [List.eq_of_mem_replicate (List.mem_of_getElem? hu), Go.WideShapes.add_plain]
  exact hc j hj⟩
theorem rep_fit {n j m : Nat} {v : Int} (h : j + m ≤ n) : j + (List.replicate m (Value.int .i64 v)).length ≤ (repH n j v).length := by
  rw [repH_len (by omega), List.length_replicate]
  exact h
theorem rep_one (m : Nat) (v : Int) : ∀ u ∈ List.replicate m (Value.int .i64 v), u.oneCell' = true := fun u hu => by rw [List.eq_of_mem_replicate hu]; rfl
theorem rep_one_src {w3 : World} {b : Nat} {v : Int} (h : w3.cell? ⟨b, 0, none⟩ = some (.int .i64 v)) : ∀ j u, [Value.int .i64 v][j]? = some u → w3.cell? ((⟨b, 0, none⟩ : Addr).add j) = some u := fun j u hu => by
  have hj := (List.getElem?_eq_some_iff.1 hu).1
  have hj0 : j = 0 := by simpa using hj
  subst hj0
  rw [Go.WideShapes.add_plain]
  cases hu
  exact h
theorem repH_first {n : Nat} (h : 0 < n) (v : Int) : Value.int .i64 v :: (repH n 0 v).tail = repH n 1 v := by
  obtain ⟨m, rfl⟩ : ∃ m, n = m + 1 := ⟨n - 1, by omega⟩
  simp [repH, List.replicate_succ]
theorem repH_at {n j i : Nat} {v : Int} (h : i < j) : (repH n j v)[i]? = some (.int .i64 v) := by
  unfold repH
  rw [List.getElem?_append_left (by simpa using h), List.getElem?_replicate, if_pos h]

set_option maxRecDepth 100000 in
set_option maxHeartbeats 4000000 in
theorem repeat_any (v : Int) (n : Nat) (hn : n ≤ 8388608) (b : Nat) (w : World) (hb : w.cell? ⟨b, 0, none⟩ = some (.int .i64 v)) :
    Calls Try.prog 43 #[.slice (some ⟨b, 0, none⟩) 1 1, .int .i64 (n : Int)] w fun e w' => ∃ g, e = .returned (.slice (some ⟨g, 0, none⟩) n n) ∧ w.heap.size ≤ g ∧ Blk 3 w' g (List.replicate n (.int .i64 v)) ∧ Below w.heap.size w w' := by
  obtain ⟨i0, hi, hz0, hz1, hz2⟩ := info_parts infoI
  have hmul := Try.bits_Mul 1 n (by decide) (by omega) w
  rw [Nat.one_mul, Nat.div_eq_of_lt (by omega), Nat.mod_eq_of_lt (by omega)] at hmul
  have hn0 : ¬ (n : Int) < 0 := by omega
  go_enter Try.func43, Try.ntmps43
  go_wp2_with fail
  refine hmul.mono ?_
  clear hmul
  rintro e w2 ⟨rfl, rfl⟩
  have hnb : decide ((9223372036854775807 : Int) < (n : Int)) = false := decide_eq_false (by omega)
  have hbl := World.block_lt_of_cell? w2 _ hb
  by_cases hz : n = 0
  · subst hz
    go_wp2_with (at_make; refine wpList_make_full _ rfl _ _ 25 rfl w2.heap.size 3 i0 (.int .i64 0) 1 Try.underlying25 hi hz0 hz1 .i64 .i64 _ _ 0 rfl rfl rfl rfl (by rw [hz2]; omega) (by unfold maxLen; omega) (Nat.le_refl _) ?_; intro w3 hown hgrow; have hb3 : Below w2.heap.size w2 w3 := (Below.refl _ _).grown hgrow (Nat.le_refl _) (fun k e => by cases e); have HB3 : Hid (Below w2.heap.size w2 w3) := hb3; have HRW : Hid _ := rep_row v hown; have hcp := run_copy_none (P := Try.prog) w3 25 25 3 3 (some ⟨w2.heap.size, 0, none⟩) (some ⟨b, 0, none⟩) 0 0 1 1 Try.underlying25 infoI1 rfl; clear hown hgrow hb3)
    go_wp2
    clear hcp
    go_loopw [8] (fun jv wr => jv = .int .i64 0 ∧ Hid (wr.heap[w2.heap.size]? = some (.cells (repH 0 0 v).toArray 3 (0, 0))) ∧ Below w2.heap.size w2 wr) (fun _ _ => 0)
    case atStart => exact ⟨rfl, HRW, HB3.out⟩
    case round =>
      obtain ⟨rfl, HRJ, hbj⟩ := hrel
      have HRF : Hid (Blk 3 wr w2.heap.size (List.replicate 0 (.int .i64 v))) := HRJ.out
      have HB : Hid (Below w2.heap.size w2 wr) := hbj
      clear HRJ hbj
      go_wp2
      go_ret
      exact ⟨w2.heap.size, rfl, Nat.le_refl _, HRF.out, HB.out⟩
  · have hmn : Nat.min 1 n = 1 := Nat.min_eq_left (by omega)
    have HMN : Hid _ := hmn
    clear hmn
    go_wp2_with (at_make; refine wpList_make_full _ rfl _ _ 25 rfl w2.heap.size 3 i0 (.int .i64 0) 1 Try.underlying25 hi hz0 hz1 .i64 .i64 _ _ n rfl rfl rfl rfl (by rw [hz2]; omega) (by unfold maxLen; omega) (Nat.le_refl _) ?_; intro w3 hown hgrow; have hb3 : Below w2.heap.size w2 w3 := (Below.refl _ _).grown hgrow (Nat.le_refl _) (fun k e => by cases e); have HB3 : Hid (Below w2.heap.size w2 w3) := hb3; have HRW : Hid _ := rep_row v hown; have hcp := run_copy_row (P := Try.prog) w3 25 25 3 3 w2.heap.size 0 n n ⟨b, 0, none⟩ 1 1 (repH n 0 v).toArray 3 [.int .i64 v] Try.underlying25 infoI1 HRW.out HMN.out.symm (rep_one_src ((hb3.cell (p := ⟨b, 0, none⟩) hbl).trans hb)) (by rw [List.size_toArray, repH_len (Nat.zero_le _)]; simp; omega) (rep_one 1 v); clear hown hgrow hb3)
    obtain ⟨w4, hw4⟩ : ∃ W, w3.setRow w2.heap.size (Value.int .i64 v :: (repH n 0 v).tail).toArray = W := ⟨_, rfl⟩
    have HR4 : Hid (w4.heap[w2.heap.size]? = some (.cells (repH n 1 v).toArray 3 (0, 0))) := by
      rw [← hw4, ← repH_first (by omega) v]
      exact setRow_heap w3 w2.heap.size _ _ 3 (0, 0) HRW.out
    have HB4 : Hid (Below w2.heap.size w2 w4) := by
      rw [← hw4]
      exact below_setRow HB3.out (Nat.le_refl _) _
    rw [hw4]
    clear hw4 hcp
    go_loopw [8] (fun jv wr => ∃ j : Nat, j ≤ n ∧ (0 < n → 0 < j) ∧ jv = .int .i64 j ∧ Hid (wr.heap[w2.heap.size]? = some (.cells (repH n j v).toArray 3 (0, 0))) ∧ Below w2.heap.size w2 wr) (fun jv _ => n - (intOf jv).toNat)
    case atStart => exact ⟨1, by omega, fun _ => by omega, rfl, HR4, HB4.out⟩
    case round =>
      obtain ⟨j, hj, hjp, rfl, HRJ, hbj⟩ := hrel
      by_cases hlt : j < n
      · have hjl : (j : Int) < ((n : Nat) : Int) := by omega
        have hj0 := hjp (by omega)
        have hm1 : Nat.min j (n - j) ≤ n - j := Nat.min_le_right _ _
        have hm2 : Nat.min j (n - j) ≤ j := Nat.min_le_left _ _
        have hm3 : 0 < Nat.min j (n - j) := Nat.lt_min.2 ⟨hj0, by omega⟩
        have HMM : Hid _ := And.intro hm1 (And.intro hm2 hm3)
        have HSP : Hid _ := repH_splice (n := n) (j := j) (m := Nat.min j (n - j)) (by omega) v
        have HLN : Hid ((List.replicate (Nat.min j (n - j)) (Value.int .i64 v)).length = Nat.min j (n - j)) := List.length_replicate ..
        have HB : Hid (Below w2.heap.size w2 wr) := hbj
        have HFT : Hid _ := rep_fit (n := n) (j := j) (m := Nat.min j (n - j)) (v := v) (by omega)
        have HSR : Hid (∀ i, i < Nat.min j (n - j) → wr.drew.cell? ⟨w2.heap.size, 0 + i, none⟩ = some (.int .i64 v)) := fun i hi => by
          have h1 : Blk 3 wr w2.heap.size (repH n j v) := HRJ.out
          rw [Nat.zero_add]
          exact h1.cell (repH_at (by omega))
        have HLT : Hid (j < n) := hlt
        clear hbj hjp hm1 hm2 hm3
        go_wp2_with fail
        refine wp_region_held_drew (S := (fun _ : World => True)) (by kernel_rfl) trivial (fun hHeld => ?_)
        refine wpAnyH_take (i := 0) (v := ?_) rfl (by kernel_rfl) (by kernel_rfl) (by kernel_rfl) (fun _ _ _ h => h) (Or.inl ⟨by rfl, ?_⟩) (by assumption) ?_
        rotate_left
        · intro w hSw; (try dsimp only at hSw); go_simp; (try with_reducible rfl)
        try simp only [Act.put, List.setIfInBounds_toArray]
        refine wpAnyH_take (i := 1) (v := ?_) rfl (by kernel_rfl) (by kernel_rfl) (by kernel_rfl) (fun _ _ _ h => h) (Or.inl ⟨by rfl, ?_⟩) (by assumption) ?_
        rotate_left
        · intro w hSw; (try dsimp only at hSw); go_simp; (try with_reducible rfl)
        try simp only [Act.put]
        refine wpAnyH_take (i := 2) (v := ?_) rfl (by kernel_rfl) (by kernel_rfl) (by kernel_rfl) (fun _ _ _ h => h) (Or.inl ⟨by rfl, ?_⟩) (by assumption) ?_
        rotate_left
        · intro w hSw; (try dsimp only at hSw); go_simp; (try with_reducible rfl)
        try simp only [Act.put]
        refine wpAnyH_take (i := 3) (v := ?_) rfl (by kernel_rfl) (by kernel_rfl) (by kernel_rfl) (fun _ _ _ h => h) (Or.inl ⟨by rfl, ?_⟩) (by assumption) ?_
        rotate_left
        · intro w hSw; (try dsimp only at hSw); go_simp; (try with_reducible rfl)
        try simp only [Act.put]
        try simp only [List.getElem_toArray, List.getElem_cons_zero, List.getElem_cons_succ, List.setIfInBounds_toArray, List.set_cons_zero, List.set_cons_succ]
        refine wpAnyH_take (i := 4) (v := ?_) rfl (by kernel_rfl) (by kernel_rfl) (by kernel_rfl) (fun _ _ _ h => h) (Or.inl ⟨by rfl, ?_⟩) (by assumption) ?_
        rotate_left
        · intro w hSw; (try dsimp only at hSw); go_simp; (try with_reducible rfl)
        try simp only [Act.put]
        refine wpAnyH_take (i := 5) (v := ?_) rfl (by kernel_rfl) (by kernel_rfl) (by kernel_rfl) (fun _ _ _ h => h) (Or.inl ⟨by rfl, ?_⟩) (by assumption) ?_
        rotate_left
        · intro w hSw; (try dsimp only at hSw); go_simp; (try with_reducible rfl)
        try simp only [Act.put]
        refine wpAnyH_take (i := 6) (v := ?_) rfl (by kernel_rfl) (by kernel_rfl) (by kernel_rfl) (fun _ _ _ h => h) (Or.inl ⟨by rfl, ?_⟩) (by assumption) ?_
        rotate_left
        · intro w hSw; (try dsimp only at hSw); go_simp; (try with_reducible rfl)
        try simp only [Act.put]
        try simp only [List.getElem_toArray, List.getElem_cons_zero, List.getElem_cons_succ, List.setIfInBounds_toArray, List.set_cons_zero, List.set_cons_succ]
        refine wpAnyH_ready (rs := [7]) (by kernel_rfl) (by simp) ?_
        refine AllReadyH.cons rfl (fun K hK => ?_) AllReadyH.nil
        refine step_copy_splice rfl _ _ 25 25 rfl 3 Try.underlying25 infoI1 (some ⟨w2.heap.size, j, none⟩) (some ⟨w2.heap.size, 0, none⟩) (n - j) (n - j) j n ?hd ?hs w2.heap.size j (repH n j v) 3 HRJ.out (List.replicate (Nat.min j (n - j)) (.int .i64 v)) HLN.out (rep_src HSR.out) HFT.out (rep_one _ v) w2.heap.size w2 (below_drewN HB.out 1) (Nat.le_refl _) ?_
        case hd =>
          show Value.slice (if n = j then some _ else some _) _ _ = _
          rw [if_neg (by have := HLT.out; omega)]
        case hs => rfl
        intro w5 hr5 hb5
        rw [HLN.out]
        have HR5 : Hid (w5.heap[w2.heap.size]? = some (.cells (repH n (j + Nat.min j (n - j)) v).toArray 3 (0, 0))) := by
          have h1 := hr5.out
          rw [HSP.out] at h1
          exact h1
        have HB5 : Hid (Below w2.heap.size w2 w5) := hb5
        refine hK.out _ _ trivial (fun _ => ?_)
        clear hK K hr5 hb5 HSP HLN HFT HSR HRJ HB hHeld
        have hmm := HMM.out
        clear HMM
        generalize Nat.min j (n - j) = m at *
        obtain ⟨hm1, hm2, hm3⟩ := hmm
        have hwr := wrap_i ((j : Int) + (m : Int)) (by omega) (by have := HLT.out; omega)
        try simp only [Act.put, List.setIfInBounds_toArray]
        refine wpAnyH_take (i := 8) (v := ?_) rfl (by kernel_rfl) (by kernel_rfl) (by kernel_rfl) (fun _ _ _ h => h) (Or.inl ⟨by rfl, ?_⟩) (by assumption) ?_
        rotate_left
        · intro w hSw; (try dsimp only at hSw); go_simp; (try with_reducible rfl)
        try simp only [Act.put]
        refine wpAnyH_take (i := 9) (v := ?_) rfl (by kernel_rfl) (by kernel_rfl) (by kernel_rfl) (fun _ _ _ h => h) (Or.inl ⟨by rfl, ?_⟩) (by assumption) ?_
        rotate_left
        · intro w hSw; (try dsimp only at hSw); go_simp; (try with_reducible rfl)
        try simp only [Act.put]
        refine wpAnyH_done (by kernel_rfl) ?_ _
        go_wp2
        have hlt2 := HLT.out
        exact ⟨⟨j + m, by omega, fun _ => by omega, by go_num, HR5, HB5.out⟩, by simp [intOf]; omega⟩
      · have hjn : j = n := by omega
        have hjl : ¬ (j : Int) < ((n : Nat) : Int) := by omega
        have HRF : Hid (Blk 3 wr w2.heap.size (List.replicate n (.int .i64 v))) := by
          have h1 := HRJ.out
          rw [hjn, repH_full] at h1
          exact h1
        clear hjn
        have HB : Hid (Below w2.heap.size w2 wr) := hbj
        clear HRJ hbj hjp
        go_wp2
        go_ret
        exact ⟨w2.heap.size, rfl, Nat.le_refl _, HRF.out, HB.out⟩
end Go.Proofs.Yteekhofollaooaa

namespace Go.Proofs.Yteekhofollaooaa
open Go Go.Proofs Go.RowKit

/-- The painter in memory: its block, its colours' row, its takers' row. -/
structure PT (pb gc gt n m : Nat) (C T : List Int) (W : World) : Prop where
  var : Blk 52 W pb [.slice (some ⟨gc, 0, none⟩) n n, .slice (some ⟨gt, 0, none⟩) m m]
  col : Blk 3 W gc (C.map (Value.int .i64))
  tak : Blk 3 W gt (T.map (Value.int .i64))
  lenC : C.length = n
  lenT : T.length = m
  apart : pb ≠ gc ∧ pb ≠ gt ∧ gc ≠ gt
theorem PT.go {pb gc gt n m : Nat} {C T : List Int} {A B : World} (h : PT pb gc gt n m C T A) (hb : Below A.heap.size A B) : PT pb gc gt n m C T B :=
  ⟨h.var.go hb, h.col.go hb, h.tak.go hb, h.lenC, h.lenT, h.apart⟩
theorem PT.setC {pb gc gt n m : Nat} {C T : List Int} {W : World} (h : PT pb gc gt n m C T W) (k : Nat) (x : Int) : PT pb gc gt n m (C.set k x) T (W.setCell ⟨gc, k, none⟩ (.int .i64 x)) := by
  obtain ⟨a1, a2, a3⟩ := h.apart
  have hs : ∀ q, q ≠ gc → (W.setCell ⟨gc, k, none⟩ (.int .i64 x)).heap[q]? = W.heap[q]? := fun q hq => Below.heap_setCell _ _ _ _ (by simpa using hq)
  refine ⟨(hs pb a1).trans h.var, ?_, (hs gt (fun e => a3 e.symm)).trans h.tak, by rw [List.length_set]; exact h.lenC, h.lenT, h.apart⟩
  have := h.col.set k (.int .i64 x)
  rwa [← List.map_set] at this
theorem PT.setT {pb gc gt n m : Nat} {C T : List Int} {W : World} (h : PT pb gc gt n m C T W) (k : Nat) (x : Int) : PT pb gc gt n m C (T.set k x) (W.setCell ⟨gt, k, none⟩ (.int .i64 x)) := by
  obtain ⟨a1, a2, a3⟩ := h.apart
  have hs : ∀ q, q ≠ gt → (W.setCell ⟨gt, k, none⟩ (.int .i64 x)).heap[q]? = W.heap[q]? := fun q hq => Below.heap_setCell _ _ _ _ (by simpa using hq)
  refine ⟨(hs pb a2).trans h.var, (hs gc a3).trans h.col, ?_, h.lenC, by rw [List.length_set]; exact h.lenT, h.apart⟩
  have := h.tak.set k (.int .i64 x)
  rwa [← List.map_set] at this
theorem PT.atC {pb gc gt n m : Nat} {C T : List Int} {W : World} (h : PT pb gc gt n m C T W) {k : Nat} (hk : k < n) : W.cell? ⟨gc, k, none⟩ = some (.int .i64 (C.getD k 0)) ∧ W.frozen? ⟨gc, k, none⟩ = false := by
  refine ⟨h.col.cell ?_, h.col.frozen k⟩
  have hk' : k < C.length := by rw [h.lenC]; exact hk
  rw [List.getElem?_map, List.getD_eq_getElem?_getD, List.getElem?_eq_getElem hk']
  rfl
theorem PT.atT {pb gc gt n m : Nat} {C T : List Int} {W : World} (h : PT pb gc gt n m C T W) {k : Nat} (hk : k < m) : W.cell? ⟨gt, k, none⟩ = some (.int .i64 (T.getD k 0)) ∧ W.frozen? ⟨gt, k, none⟩ = false := by
  refine ⟨h.tak.cell ?_, h.tak.frozen k⟩
  have hk' : k < T.length := by rw [h.lenT]; exact hk
  rw [List.getElem?_map, List.getD_eq_getElem?_getD, List.getElem?_eq_getElem hk']
  rfl

set_option maxRecDepth 100000 in
set_option maxHeartbeats 4000000 in
theorem newPainter_any (n m : Nat) (hn : n ≤ 8388608) (hm : m ≤ 8388608) (w : World) :
    Calls Try.prog 26 #[.int .i64 (n : Int), .int .i64 (m : Int)] w fun e w' => ∃ pb gc gt, e = .returned (.pointer (some ⟨pb, 0, none⟩)) ∧ w.heap.size ≤ pb ∧ w.heap.size ≤ gc ∧ w.heap.size ≤ gt ∧ PT pb gc gt n m (List.replicate n (-1)) (List.replicate m (-1)) w' ∧ Below w.heap.size w w' := by
  have hbA : Below w.heap.size w (w.alloc (.cells #[.int .i64 (-1)] 3)) := (Below.refl _ _).alloc (Nat.le_refl _) _
  have hXA : Blk 3 (w.alloc (.cells #[.int .i64 (-1)] 3)) w.heap.size [.int .i64 (-1)] := heap_alloc_new w _
  have hr1 := repeat_any (-1) n hn w.heap.size _ (hXA.cell (j := 0) rfl)
  have HBA : Hid _ := hbA
  clear hXA hbA
  go_enter Try.func26, Try.ntmps26
  go_wp2_with fail
  generalize w.alloc (.cells #[.int .i64 (-1)] 3) = w1 at *
  refine hr1.mono ?_
  clear hr1
  rintro e w2 ⟨gc, rfl, hgc, hB2, hb2⟩
  have hbB : Below w2.heap.size w2 (w2.alloc (.cells #[.int .i64 (-1)] 3)) := (Below.refl _ _).alloc (Nat.le_refl _) _
  have hXB : Blk 3 (w2.alloc (.cells #[.int .i64 (-1)] 3)) w2.heap.size [.int .i64 (-1)] := heap_alloc_new w2 _
  have hr2 := repeat_any (-1) m hm w2.heap.size _ (hXB.cell (j := 0) rfl)
  have HB2 : Hid (Below w.heap.size w w2) := Below.trans HBA.out (hb2.mono (Below.size HBA.out))
  have HC2 : Hid (Blk 3 (w2.alloc (.cells #[.int .i64 (-1)] 3)) gc (List.replicate n (.int .i64 (-1)))) := hB2.go hbB
  have HB3 : Hid (Below w.heap.size w (w2.alloc (.cells #[.int .i64 (-1)] 3))) := HB2.out.trans (hbB.mono HB2.out.size)
  have hgl := hB2.lt
  have hgw : w.heap.size ≤ gc := Nat.le_trans (Below.size HBA.out) hgc
  have hss : (w2.alloc (.cells #[.int .i64 (-1)] 3)).heap.size = w2.heap.size + 1 := by simp
  clear hB2 hb2 hXB hbB HBA
  go_wp2_with fail
  generalize w2.alloc (.cells #[.int .i64 (-1)] 3) = w3 at *
  refine hr2.mono ?_
  clear hr2
  rintro e w4 ⟨gt, rfl, hgt, hB4, hb4⟩
  have HC4 : Hid (Blk 3 w4 gc (List.replicate n (.int .i64 (-1)))) := HC2.out.go hb4
  have HT4 : Hid (Blk 3 w4 gt (List.replicate m (.int .i64 (-1)))) := hB4
  have HB4 : Hid (Below w.heap.size w w4) := HB3.out.trans (hb4.mono HB3.out.size)
  have hgt4 := hB4.lt
  have hbP : Below w4.heap.size w4 (w4.alloc (.cells #[.slice (some ⟨gc, 0, none⟩) n n, .slice (some ⟨gt, 0, none⟩) m m] 52)) := (Below.refl _ _).alloc (Nat.le_refl _) _
  have hXP : Blk 52 (w4.alloc (.cells #[.slice (some ⟨gc, 0, none⟩) n n, .slice (some ⟨gt, 0, none⟩) m m] 52)) w4.heap.size [.slice (some ⟨gc, 0, none⟩) n n, .slice (some ⟨gt, 0, none⟩) m m] := heap_alloc_new w4 _
  have h34 := hb4.size
  have HPT : Hid (PT w4.heap.size gc gt n m (List.replicate n (-1)) (List.replicate m (-1)) (w4.alloc (.cells #[.slice (some ⟨gc, 0, none⟩) n n, .slice (some ⟨gt, 0, none⟩) m m] 52))) :=
    ⟨hXP, by rw [List.map_replicate]; exact HC4.out.go hbP, by rw [List.map_replicate]; exact HT4.out.go hbP, List.length_replicate .., List.length_replicate .., by omega⟩
  have HBP : Hid (Below w.heap.size w (w4.alloc (.cells #[.slice (some ⟨gc, 0, none⟩) n n, .slice (some ⟨gt, 0, none⟩) m m] 52))) := HB4.out.trans (hbP.mono HB4.out.size)
  have HSZ : Hid (w.heap.size ≤ w4.heap.size ∧ w.heap.size ≤ gc ∧ w.heap.size ≤ gt) := ⟨HB4.out.size, hgw, Nat.le_trans HB3.out.size hgt⟩
  clear hB4 hb4 hXP hbP hgt hgl hgw hss hgt4 h34 HC2 HC4 HT4 HB2 HB3 HB4 hgc
  go_wp2
  go_ret
  exact ⟨w4.heap.size, gc, gt, rfl, HSZ.out.1, HSZ.out.2.1, HSZ.out.2.2, HPT.out, HBP.out⟩
end Go.Proofs.Yteekhofollaooaa

namespace Go.Proofs.Yteekhofollaooaa
open Go Go.Proofs Go.RowKit

/-- The takers behind the marks of these neighbours. -/
def mark1 (C : List Int) (v : Int) (T : List Int) (u : Int) : List Int := if 0 ≤ C.getD u.toNat 0 then T.set (C.getD u.toNat 0).toNat v else T
def markT (C : List Int) (v : Int) (T : List Int) (near : List Int) : List Int := near.foldl (mark1 C v) T
theorem mark1_len (C : List Int) (v : Int) (T : List Int) (u : Int) : (mark1 C v T u).length = T.length := by unfold mark1; split <;> simp
theorem markT_len (C : List Int) (v : Int) : ∀ (near T : List Int), (markT C v T near).length = T.length
  | [], _ => rfl
  | u :: near, T => by
    show (markT C v (mark1 C v T u) near).length = T.length
    rw [markT_len C v near, mark1_len]
theorem markT_take (C : List Int) (v : Int) (T near : List Int) {j : Nat} (h : j < near.length) : markT C v T (near.take (j + 1)) = mark1 C v (markT C v T (near.take j)) near[j] := by
  unfold markT
  rw [List.take_add_one, List.getElem?_eq_getElem h, List.foldl_append]
  rfl
/-- The colour that v gets. -/
def hueL (C : List Int) (v : Nat) (T near : List Int) : Int := idxF (fun t => t != (v : Int)) (markT C (v : Int) T near)

set_option maxRecDepth 100000 in
theorem paint1_any (x v : Int) (vb : Nat) (w : World) (hv : w.cell? ⟨vb, 0, none⟩ = some (.int .i64 v)) :
    Calls Try.prog 44 #[.int .i64 x, .pointer (some ⟨vb, 0, none⟩)] w fun e w' => e = .returned (.bool (x != v)) ∧ w' = w := by
  go_enter Try.func44, Try.ntmps44
  go_wp2
  go_ret
  exact ⟨rfl, rfl⟩

set_option maxRecDepth 100000 in
set_option maxHeartbeats 8000000 in
theorem paint_any (pb gc gt n m : Nat) (hm4 : m ≤ 8388608) (C T near : List Int) (v : Nat) (hv : v < n) (hnl : near.length ≤ 8388608) (hin : ∀ u ∈ near, ∃ k : Nat, u = (k : Int) ∧ k < n ∧ C.getD k 0 < m) (nv : Value) (lim : Nat) (w : World) (hP : PT pb gc gt n m C T w) (hN : Ints lim w nv near) (hlim : ∀ q, q < lim → q ≠ gc ∧ q ≠ gt) (hll : lim ≤ w.heap.size) :
    Calls Try.prog 27 #[.pointer (some ⟨pb, 0, none⟩), .int .i64 (v : Int), nv] w fun e w' => e = .returned (.tuple #[]) ∧ PT pb gc gt n m (C.set v (hueL C v T near)) (markT C (v : Int) T near) w' ∧ (∀ q, q < w.heap.size → q ≠ gc → q ≠ gt → w'.heap[q]? = w.heap[q]?) ∧ w'.os = w.os ∧ w'.tape = w.tape ∧ w'.output = w.output ∧ w.heap.size ≤ w'.heap.size := by
  obtain ⟨p, c, rfl⟩ := hN.len
  have hbA : Below w.heap.size w (w.alloc (.cells #[.int .i64 (v : Int)] 3)) := (Below.refl _ _).alloc (Nat.le_refl _) _
  have hVB : Blk 3 (w.alloc (.cells #[.int .i64 (v : Int)] 3)) w.heap.size [.int .i64 (v : Int)] := heap_alloc_new w _
  have hP1 := hP.go hbA
  have hpl := hP.var.lt
  have hcl := hP.col.lt
  have htl := hP.tak.lt
  have hap := hP.apart
  have HIN : Hid _ := hin
  have HLM : Hid _ := hlim
  have HN : Hid (Ints lim w (.slice p near.length c) near) := hN
  have HP1 : Hid (PT pb gc gt n m C T (w.alloc (.cells #[.int .i64 (v : Int)] 3))) := hP1
  have HVB : Hid (Blk 3 (w.alloc (.cells #[.int .i64 (v : Int)] 3)) w.heap.size [.int .i64 (v : Int)]) := hVB
  have HBA : Hid (Below w.heap.size w (w.alloc (.cells #[.int .i64 (v : Int)] 3))) := hbA
  have hent : ∀ (args : Array Value) (W : World), (callFunc 44 args).run Try.prog W = .ok (.enter 44 args) W := fun args W => by kernel_rfl
  clear hin hlim hN hP hP1 hVB hbA
  go_enter Try.func27, Try.ntmps27
  go_wp2
  generalize w.alloc (.cells #[.int .i64 (v : Int)] 3) = w1 at *
  go_loopw [11] (fun iv wr => ∃ j : Nat, j ≤ near.length ∧ iv = .int .i64 j ∧ PT pb gc gt n m C (markT C (v : Int) T (near.take j)) wr ∧ (∀ q, q < w1.heap.size → q ≠ gt → wr.heap[q]? = w1.heap[q]?) ∧ wr.os = w1.os ∧ wr.tape = w1.tape ∧ wr.output = w1.output ∧ w1.heap.size ≤ wr.heap.size) (fun iv _ => near.length - (intOf iv).toNat)
  case atStart => exact ⟨0, Nat.zero_le _, rfl, by simpa [markT] using HP1.out, fun _ _ _ => rfl, rfl, rfl, rfl, Nat.le_refl _⟩
  case round =>
    obtain ⟨j, hj, rfl, hPj, hk, ho, ht, hou, hsz⟩ := hrel
    have hw1 := HBA.out.size
    by_cases hlt : j < near.length
    · have hjl : (j : Int) < (near.length : Int) := by omega
      obtain ⟨u, hu, hun, hum⟩ := HIN.out near[j] (List.getElem_mem hlt)
      obtain ⟨b, off, rfl, hbb, hcap, hcc⟩ := HN.out.open hlt
      have c0 : wr.cell? ⟨b, off + j, none⟩ = some (.int .i64 (u : Int)) := by
        have h1 := hcc w1 (HBA.out.mono hll) j hlt
        rw [hu] at h1
        rw [World.cell?_of_block (a := ⟨b, off + j, none⟩) (hk b (by omega) (HLM.out b hbb).2)]
        exact h1
      have p0 := hPj.var.cell (j := 0) rfl
      have p1 := hPj.var.cell (j := 1) rfl
      obtain ⟨d0, _⟩ := hPj.atC hun
      have v0 : wr.cell? ⟨w.heap.size, 0, none⟩ = some (.int .i64 (v : Int)) := by
        rw [World.cell?_of_block (a := ⟨w.heap.size, 0, none⟩) (hk w.heap.size HVB.out.lt (by omega))]
        exact HVB.out.cell (j := 0) rfl
      have HST : Hid (markT C (v : Int) T (near.take (j + 1)) = mark1 C (v : Int) (markT C (v : Int) T (near.take j)) (u : Int)) := by
        unfold Hid
        rw [markT_take C (v : Int) T near hlt, hu]
      have huI : (u : Int) < (n : Int) := by omega
      have HK : Hid (∀ q, q < w1.heap.size → q ≠ gt → wr.heap[q]? = w1.heap[q]?) := hk
      have HOT : Hid (wr.os = w1.os ∧ wr.tape = w1.tape ∧ wr.output = w1.output ∧ w1.heap.size ≤ wr.heap.size) := ⟨ho, ht, hou, hsz⟩
      have HMK : Hid (mark1 C (v : Int) (markT C (v : Int) T (near.take j)) (u : Int) = if 0 ≤ C.getD u 0 then (markT C (v : Int) T (near.take j)).set (C.getD u 0).toNat (v : Int) else markT C (v : Int) T (near.take j)) := rfl
      have HPJ : Hid (PT pb gc gt n m C (markT C (v : Int) T (near.take j)) wr) := hPj
      clear hcc hu hk ho ht hou hsz hPj
      generalize markT C (v : Int) T (near.take j) = T1 at *
      generalize C.getD u 0 = x at *
      by_cases hx : 0 ≤ x
      · obtain ⟨k, rfl⟩ : ∃ k : Nat, x = (k : Int) := ⟨x.toNat, by omega⟩
        have hkm : k < m := by omega
        have hkI : (k : Int) < (m : Int) := by omega
        obtain ⟨t0, tf⟩ := HPJ.out.atT hkm
        have HPN : Hid (PT pb gc gt n m C (T1.set k (v : Int)) (wr.drew.setCell ⟨gt, k, none⟩ (.int .i64 (v : Int)))) := (HPJ.out.go (below_drewN (Below.refl _ _) 1)).setT k (v : Int)
        have HMK2 : Hid (mark1 C (v : Int) T1 (u : Int) = T1.set k (v : Int)) := by
          rw [HMK.out, if_pos hx]
          rfl
        generalize T1.getD k 0 = tk at *
        clear HMK hx hum
        go_wp2_with fail
        refine wp_region_last (S := (fun w' : World => w'.cell? ⟨pb, 1, none⟩ = some (.slice (some ⟨gt, 0, none⟩) m m) ∧ w'.cell? ⟨w.heap.size, 0, none⟩ = some (.int .i64 (v : Int)))) (by kernel_rfl) ⟨p1, v0⟩ (fun hHeld => ?_)
        refine wpAnyL_take (i := 0) (v := ?_) rfl (by kernel_rfl) (by kernel_rfl) (by kernel_rfl) (by kernel_rfl) (fun _ _ _ h => h) (Or.inl ⟨by rfl, ?_⟩) (by assumption) ?_
        rotate_left
        · intro w hSw; (try dsimp only at hSw); go_simp; (try with_reducible rfl)
        try simp only [Act.put, List.setIfInBounds_toArray]
        refine wpAnyL_take (i := 1) (v := ?_) rfl (by kernel_rfl) (by kernel_rfl) (by kernel_rfl) (by kernel_rfl) (fun _ _ _ h => h) (Or.inl ⟨by rfl, ?_⟩) (by assumption) ?_
        rotate_left
        · intro w hSw; (try dsimp only at hSw); go_simp; (try with_reducible rfl)
        try simp only [Act.put]
        refine wpAnyL_take (i := 2) (v := ?_) rfl (by kernel_rfl) (by kernel_rfl) (by kernel_rfl) (by kernel_rfl) (fun _ _ _ h => h) (Or.inl ⟨by rfl, ?_⟩) (by assumption) ?_
        rotate_left
        · intro w hSw; (try dsimp only at hSw); go_simp; (try with_reducible rfl)
        try simp only [Act.put]
        refine wpAnyL_take (i := 3) (v := ?_) rfl (by kernel_rfl) (by kernel_rfl) (by kernel_rfl) (by kernel_rfl) (fun _ _ _ h => h) (Or.inl ⟨by rfl, ?_⟩) (by assumption) ?_
        rotate_left
        · intro w hSw; (try dsimp only at hSw); go_simp; (try with_reducible rfl)
        try simp only [Act.put]
        refine wpAnyL_take (i := 4) (v := ?_) rfl (by kernel_rfl) (by kernel_rfl) (by kernel_rfl) (by kernel_rfl) (fun _ _ _ h => h) (Or.inl ⟨by rfl, ?_⟩) (by assumption) ?_
        rotate_left
        · intro w hSw; (try dsimp only at hSw); go_simp; (try with_reducible rfl)
        try simp only [Act.put]
        refine wpAnyL_take (i := 5) (v := ?_) rfl (by kernel_rfl) (by kernel_rfl) (by kernel_rfl) (by kernel_rfl) (fun _ _ _ h => h) (Or.inl ⟨by rfl, ?_⟩) (by assumption) ?_
        rotate_left
        · intro w hSw; (try dsimp only at hSw); go_simp; (try with_reducible rfl)
        try simp only [Act.put]
        refine wpAnyL_take (i := 6) (v := ?_) rfl (by kernel_rfl) (by kernel_rfl) (by kernel_rfl) (by kernel_rfl) (fun _ _ _ h => h) (Or.inl ⟨by rfl, ?_⟩) (by assumption) ?_
        rotate_left
        · intro w hSw; (try dsimp only at hSw); go_simp; (try with_reducible rfl)
        try simp only [Act.put]
        clear c0 p0 p1 d0 v0
        refine wpAnyL_ready (rs := [7]) (by kernel_rfl) (by simp) ?_
        refine AllReadyL.last rfl (by kernel_rfl) (fun K hK => ?_)
        go_simp
        refine hK.out _ _ ?_
        clear hK K
        try simp only [Act.put, List.setIfInBounds_toArray, List.set_cons_zero, List.set_cons_succ]
        refine wpAnyL_done (by kernel_rfl) ?_ _
        clear hHeld t0 tf
        have HF : Hid (PT pb gc gt n m C (markT C (v : Int) T (near.take (j + 1))) (wr.setCell ⟨gt, k, none⟩ (.int .i64 (v : Int))).drew ∧ (∀ q, q < w1.heap.size → q ≠ gt → (wr.setCell ⟨gt, k, none⟩ (.int .i64 (v : Int))).drew.heap[q]? = w1.heap[q]?) ∧ (wr.setCell ⟨gt, k, none⟩ (.int .i64 (v : Int))).drew.os = w1.os ∧ (wr.setCell ⟨gt, k, none⟩ (.int .i64 (v : Int))).drew.tape = w1.tape ∧ (wr.setCell ⟨gt, k, none⟩ (.int .i64 (v : Int))).drew.output = w1.output ∧ w1.heap.size ≤ (wr.setCell ⟨gt, k, none⟩ (.int .i64 (v : Int))).drew.heap.size) := by
          refine ⟨by rw [HST.out, HMK2.out]; exact HPN.out, fun q h1 h2 => (Below.heap_setCell wr ⟨gt, k, none⟩ _ q (by simpa using h2)).trans (HK.out q h1 h2), HOT.out.1, HOT.out.2.1, HOT.out.2.2.1, ?_⟩
          have h1 : (wr.setCell ⟨gt, k, none⟩ (.int .i64 (v : Int))).heap.size = wr.heap.size := by simp
          exact Nat.le_trans HOT.out.2.2.2 (Nat.le_of_eq h1.symm)
        generalize (wr.setCell ⟨gt, k, none⟩ (.int .i64 (v : Int))).drew = w5 at *
        go_wp2
        exact ⟨⟨j + 1, by omega, by go_num, HF.out⟩, by simp [intOf]; omega⟩
      · have HF : Hid (PT pb gc gt n m C (markT C (v : Int) T (near.take (j + 1))) wr) := by
          rw [HST.out, HMK.out, if_neg hx]
          exact HPJ.out
        clear HST HMK
        go_wp2
        exact ⟨⟨j + 1, by omega, by go_num, HF.out, HK.out, HOT.out⟩, by simp [intOf]; omega⟩
    · obtain rfl : j = near.length := by omega
      have hjl : ¬ (near.length : Int) < (near.length : Int) := by omega
      rw [List.take_length] at hPj
      have p0 := hPj.var.cell (j := 0) rfl
      have p1 := hPj.var.cell (j := 1) rfl
      have v0 : wr.cell? ⟨w.heap.size, 0, none⟩ = some (.int .i64 (v : Int)) := by
        rw [World.cell?_of_block (a := ⟨w.heap.size, 0, none⟩) (hk w.heap.size HVB.out.lt (by omega))]
        exact HVB.out.cell (j := 0) rfl
      have hvI : (v : Int) < (n : Int) := by omega
      have hI : Ints wr.drew.heap.size wr.drew (.slice (some ⟨gt, 0, none⟩) m m) (markT C (v : Int) T near) := by
        have h1 := (hPj.go (below_drewN (Below.refl _ _) 1 : Below wr.heap.size wr wr.drew)).tak.ints
        rw [hPj.lenT] at h1
        exact h1
      have hix := indexF_any 44 #[.pointer (some ⟨w.heap.size, 0, none⟩)] (fun t => t != (v : Int)) hent (markT C (v : Int) T near) (by rw [hPj.lenT]; omega) (.slice (some ⟨gt, 0, none⟩) m m) wr.drew.heap.size wr.drew hI (fun x _ => paint1_any x (v : Int) w.heap.size wr.drew v0)
      have HUE : Hid (hueL C v T near = idxF (fun t => t != (v : Int)) (markT C (v : Int) T near)) := rfl
      have HPF : Hid (∀ x : Int, PT pb gc gt n m (C.set v x) (markT C (v : Int) T near) (wr.drew.setCell ⟨gc, v, none⟩ (.int .i64 x))) := fun x => (hPj.go (below_drewN (Below.refl _ _) 1)).setC v x
      obtain ⟨e0, ef⟩ := hPj.atC hv
      have HKK : Hid (∀ q, q < w.heap.size → q ≠ gc → q ≠ gt → wr.heap[q]? = w.heap[q]?) := fun q h1 _ h3 => (hk q (by omega) h3).trans (HBA.out.block q h1)
      have HOO : Hid (wr.os = w.os ∧ wr.tape = w.tape ∧ wr.output = w.output ∧ w.heap.size ≤ wr.heap.size) := ⟨ho.trans HBA.out.os, ht.trans HBA.out.tape, hou.trans HBA.out.output, by omega⟩
      clear hPj hk ho ht hou hsz hI
      generalize idxF (fun t => t != (v : Int)) (markT C (v : Int) T near) = hue at *
      generalize C.getD v 0 = old at *
      go_wp2_with fail
      refine wp_region_last (S := (fun w' : World => w'.cell? ⟨pb, 0, none⟩ = some (.slice (some ⟨gc, 0, none⟩) n n) ∧ w'.cell? ⟨pb, 1, none⟩ = some (.slice (some ⟨gt, 0, none⟩) m m) ∧ w'.cell? ⟨w.heap.size, 0, none⟩ = some (.int .i64 (v : Int)))) (by kernel_rfl) ⟨p0, p1, v0⟩ (fun hHeld => ?_)
      refine wpAnyL_take (i := 0) (v := ?_) rfl (by kernel_rfl) (by kernel_rfl) (by kernel_rfl) (by kernel_rfl) (fun _ _ _ h => h) (Or.inl ⟨by rfl, ?_⟩) (by assumption) ?_
      rotate_left
      · intro w hSw; (try dsimp only at hSw); go_simp; (try with_reducible rfl)
      try simp only [Act.put, List.setIfInBounds_toArray]
      refine wpAnyL_take (i := 1) (v := ?_) rfl (by kernel_rfl) (by kernel_rfl) (by kernel_rfl) (by kernel_rfl) (fun _ _ _ h => h) (Or.inl ⟨by rfl, ?_⟩) (by assumption) ?_
      rotate_left
      · intro w hSw; (try dsimp only at hSw); go_simp; (try with_reducible rfl)
      try simp only [Act.put]
      refine wpAnyL_take (i := 2) (v := ?_) rfl (by kernel_rfl) (by kernel_rfl) (by kernel_rfl) (by kernel_rfl) (fun _ _ _ h => h) (Or.inl ⟨by rfl, ?_⟩) (by assumption) ?_
      rotate_left
      · intro w hSw; (try dsimp only at hSw); go_simp; (try with_reducible rfl)
      try simp only [Act.put]
      refine wpAnyL_take (i := 3) (v := ?_) rfl (by kernel_rfl) (by kernel_rfl) (by kernel_rfl) (by kernel_rfl) (fun _ _ _ h => h) (Or.inl ⟨by rfl, ?_⟩) (by assumption) ?_
      rotate_left
      · intro w hSw; (try dsimp only at hSw); go_simp; (try with_reducible rfl)
      try simp only [Act.put]
      refine wpAnyL_take (i := 4) (v := ?_) rfl (by kernel_rfl) (by kernel_rfl) (by kernel_rfl) (by kernel_rfl) (fun _ _ _ h => h) (Or.inl ⟨by rfl, ?_⟩) (by assumption) ?_
      rotate_left
      · intro w hSw; (try dsimp only at hSw); go_simp; (try with_reducible rfl)
      try simp only [Act.put]
      try simp only [List.getElem_toArray, List.getElem_cons_zero, List.getElem_cons_succ, List.setIfInBounds_toArray, List.set_cons_zero, List.set_cons_succ]
      refine wpAnyL_take (i := 5) (v := ?_) rfl (by kernel_rfl) (by kernel_rfl) (by kernel_rfl) (by kernel_rfl) (fun _ _ _ h => h) (Or.inl ⟨by rfl, ?_⟩) (by assumption) ?_
      rotate_left
      · intro w hSw; (try dsimp only at hSw); go_simp; (try with_reducible rfl)
      try simp only [Act.put]
      refine wpAnyL_take (i := 6) (v := ?_) rfl (by kernel_rfl) (by kernel_rfl) (by kernel_rfl) (by kernel_rfl) (fun _ _ _ h => h) (Or.inl ⟨by rfl, ?_⟩) (by assumption) ?_
      rotate_left
      · intro w hSw; (try dsimp only at hSw); go_simp; (try with_reducible rfl)
      try simp only [Act.put]
      refine wpAnyL_take (i := 7) (v := ?_) rfl (by kernel_rfl) (by kernel_rfl) (by kernel_rfl) (by kernel_rfl) (fun _ _ _ h => h) (Or.inl ⟨by rfl, ?_⟩) (by assumption) ?_
      rotate_left
      · intro w hSw; (try dsimp only at hSw); go_simp; (try with_reducible rfl)
      try simp only [Act.put]
      refine wpAnyL_take (i := 8) (v := ?_) rfl (by kernel_rfl) (by kernel_rfl) (by kernel_rfl) (by kernel_rfl) (fun _ _ _ h => h) (Or.inl ⟨by rfl, ?_⟩) (by assumption) ?_
      rotate_left
      · intro w hSw; (try dsimp only at hSw); go_simp; (try with_reducible rfl)
      try simp only [Act.put]
      refine wpAnyL_take (i := 9) (v := ?_) rfl (by kernel_rfl) (by kernel_rfl) (by kernel_rfl) (by kernel_rfl) (fun _ _ _ h => h) (Or.inl ⟨by rfl, ?_⟩) (by assumption) ?_
      rotate_left
      · intro w hSw; (try dsimp only at hSw); go_simp; (try with_reducible rfl)
      try simp only [Act.put]
      try simp only [List.getElem_toArray, List.getElem_cons_zero, List.getElem_cons_succ, List.setIfInBounds_toArray, List.set_cons_zero, List.set_cons_succ]
      refine wpAnyL_ready (rs := [10]) (by kernel_rfl) (by simp) ?_
      refine AllReadyL.cons rfl (fun K hK => ?_) AllReadyL.nil
      go_simp
      refine hix.mono ?_
      rintro e w6 ⟨rfl, rfl⟩
      refine hK.out _ _ hHeld (fun hHeld6 => ?_)
      clear hK K hix
      try simp only [Act.put, List.setIfInBounds_toArray, List.set_cons_zero, List.set_cons_succ]
      refine wpAnyL_take (i := 11) (v := ?_) rfl (by kernel_rfl) (by kernel_rfl) (by kernel_rfl) (by kernel_rfl) (fun _ _ _ h => h) (Or.inl ⟨by rfl, ?_⟩) (by assumption) ?_
      rotate_left
      · intro w hSw; (try dsimp only at hSw); go_simp; (try with_reducible rfl)
      try simp only [Act.put]
      refine wpAnyL_ready (rs := [12]) (by kernel_rfl) (by simp) ?_
      refine AllReadyL.last rfl (by kernel_rfl) (fun K hK => ?_)
      go_simp
      refine hK.out _ _ ?_
      clear hK K
      try simp only [Act.put, List.setIfInBounds_toArray, List.set_cons_zero, List.set_cons_succ]
      refine wpAnyL_done (by kernel_rfl) ?_ _
      go_wp2
      refine bodyPost_end (results_none rfl _ _ _) rfl ?_
      refine ⟨rfl, ?_, fun q h1 h2 h3 => (Below.heap_setCell wr ⟨gc, v, none⟩ (.int .i64 hue) q (by simpa using h2)).trans (HKK.out q h1 h2 h3), HOO.out.1, HOO.out.2.1, HOO.out.2.2.1, ?_⟩
      · rw [HUE.out]
        exact HPF.out hue
      · have h1 : (wr.setCell ⟨gc, v, none⟩ (.int .i64 hue)).heap.size = wr.heap.size := by simp
        exact Nat.le_trans HOO.out.2.2.2 (Nat.le_of_eq h1.symm)
end Go.Proofs.Yteekhofollaooaa

namespace Go.Proofs.Yteekhofollaooaa
open Go Go.Proofs Go.RowKit

/-- Each number below n once. -/
def Ord (L : List Int) (n : Int) : Prop := (L.length : Int) = n ∧ (∀ x ∈ L, 0 ≤ x ∧ x < n) ∧ L.Nodup
def ordB (L : List Int) (n : Int) : Bool := decide ((L.length : Int) = n) && ((L.all fun x => decide (0 ≤ x) && decide (x < n)) && decide L.Nodup)
theorem ordB_iff (L : List Int) (n : Int) : ordB L n = true ↔ Ord L n := by
  unfold ordB Ord
  rw [Bool.and_eq_true, Bool.and_eq_true, decide_eq_true_iff, decide_eq_true_iff, List.all_eq_true]
  simp
theorem ordB_no {L : List Int} {n : Int} (h : ¬ Ord L n) : ordB L n = false := by
  cases hb : ordB L n with
  | false => rfl
  | true => exact absurd ((ordB_iff L n).1 hb) h
def seenL (n : Nat) (P : List Int) : List Bool := (List.range n).map fun (i : Nat) => decide ((i : Int) ∈ P)
theorem seenL_nil (n : Nat) : seenL n [] = List.replicate n false := by
  apply List.ext_getElem
  · simp [seenL]
  · intro i h1 h2
    simp [seenL]
theorem seenL_at {n i : Nat} (P : List Int) (h : i < n) : (seenL n P)[i]? = some (decide ((i : Int) ∈ P)) := by
  unfold seenL
  rw [List.getElem?_map, List.getElem?_range h]
  rfl
theorem seenL_set {n i : Nat} (P : List Int) : (seenL n P).set i true = seenL n (P ++ [(i : Int)]) := by
  apply List.ext_getElem
  · simp [seenL]
  · intro k h1 h2
    have hk : k < n := by simpa [seenL] using h2
    rw [List.getElem_set]
    unfold seenL
    simp only [List.getElem_map, List.getElem_range, List.mem_append, List.mem_singleton]
    by_cases e : i = k
    · subst e; simp
    · have : ¬ (k : Int) = (i : Int) := by omega
      simp [e, this]
theorem infoBo : (Try.prog.info? 4).map (fun i => (i.zero, i.size, i.bytes)) = some (some (.bool false), 1, 1) := by kernel_rfl
theorem bools_madeK (n : Nat) : (madeCells (Value.bool false).cells (n * 1)).toList = (List.replicate n false).map Value.bool := by
  apply List.ext_getElem
  · simp [madeCells]
  · intro i h1 h2
    have hm : i % 1 = 0 := Nat.mod_one i
    simp [madeCells, Value.cells, hm]

set_option maxRecDepth 100000 in
set_option maxHeartbeats 4000000 in
theorem isOrderC_any (L : List Int) (n : Nat) (hn : n ≤ 1048576) (sv : Value) (w : World) (h : Ints w.heap.size w sv L) :
    Calls Try.prog 24 #[sv, .int .i64 (n : Int)] w fun e w' => e = .returned (.bool (ordB L (n : Int))) ∧ Below w.heap.size w w' := by
  obtain ⟨p, c, rfl⟩ := h.len
  obtain ⟨i0, hi, hz0, hz1, hz2⟩ := info_parts infoBo
  have HI : Hid (Ints w.heap.size w (.slice p L.length c) L) := h
  clear h
  by_cases hl : (L.length : Int) = (n : Int)
  · have hln : L.length = n := by omega
    have hl' : ((L.length : Int) != (n : Int)) = false := by simpa using hl
    have hLb : L.length ≤ 1048576 := by omega
    have HL : Hid (L.length = n) := hln
    clear hln hl
    go_enter Try.func24, Try.ntmps24
    go_wp2_with (at_make; refine wpList_make_full _ rfl _ _ 66 rfl w.heap.size 4 i0 (.bool false) 1 Try.underlying66 hi hz0 hz1 .i64 .i64 _ _ n rfl rfl rfl rfl (by rw [hz2]; omega) (by unfold maxLen; omega) (Nat.le_refl _) ?_; intro w2 hown hgrow; have hb2 : Below w.heap.size w w2 := (Below.refl _ _).grown hgrow (Nat.le_refl _) (fun k e => by cases e))
    have hrow := Blk.made hown
    rw [bools_madeK, ← seenL_nil n] at hrow
    clear hown hgrow hi hz0 hz1 hz2
    go_wp2
    go_loopw [16] (fun iv wr => ∃ j : Nat, j ≤ L.length ∧ iv = .int .i64 j ∧ Hid ((∀ x ∈ L.take j, 0 ≤ x ∧ x < (n : Int)) ∧ (L.take j).Nodup) ∧ Blk 4 wr w.heap.size ((seenL n (L.take j)).map Value.bool) ∧ Below w.heap.size w wr) (fun iv _ => L.length - (intOf iv).toNat)
    case atStart => exact ⟨0, Nat.zero_le _, rfl, ⟨by simp, by simp⟩, hrow, hb2⟩
    case round =>
      clear hrow hb2
      obtain ⟨j, hj, rfl, HQ, hB, hb⟩ := hrel
      by_cases hlt : j < L.length
      · have hjl : (j : Int) < (L.length : Int) := by omega
        obtain ⟨b, off, rfl, hbb, hcap, hcc⟩ := HI.out.open hlt
        have c0 := hcc wr hb j hlt
        have HTK : Hid (L.take (j + 1) = L.take j ++ [L[j]]) := by
          unfold Hid
          rw [List.take_add_one, List.getElem?_eq_getElem hlt]
          rfl
        have HIN : Hid (L[j] ∈ L) := List.getElem_mem hlt
        have HNO : Hid (L[j] ∈ L.take j → ¬ L.Nodup) := fun hm hnd => by
          have h1 : (L.take j ++ L.drop j).Nodup := by rw [List.take_append_drop]; exact hnd
          have h2 : L[j] ∈ L.drop j := List.mem_of_getElem? (i := 0) (by rw [List.getElem?_drop, Nat.add_zero, List.getElem?_eq_getElem hlt])
          exact (List.nodup_append.1 h1).2.2 _ hm _ h2 rfl
        have HB : Hid (Blk 4 wr w.heap.size ((seenL n (L.take j)).map Value.bool)) := hB
        have HBW : Hid (Below w.heap.size w wr) := hb
        clear hcc hB hb
        generalize L[j] = x at *
        by_cases h1 : x < 0
        · have HF : Hid (ordB L (n : Int) = false) := ordB_no fun ho => by have := (ho.2.1 x HIN.out).1; omega
          clear HTK HNO HQ
          go_wp2
          go_ret
          exact ⟨by rw [HF.out]; rfl, HBW.out⟩
        · by_cases h2 : (n : Int) ≤ x
          · have HF : Hid (ordB L (n : Int) = false) := ordB_no fun ho => by have := (ho.2.1 x HIN.out).2; omega
            clear HTK HNO HQ
            go_wp2
            go_ret
            exact ⟨by rw [HF.out]; rfl, HBW.out⟩
          · obtain ⟨k, rfl⟩ : ∃ k : Nat, x = (k : Int) := ⟨x.toNat, by omega⟩
            have hkn : k < n := by omega
            have hkI : (k : Int) < (n : Int) := by omega
            have s0 : wr.cell? ⟨w.heap.size, k, none⟩ = some (.bool (decide ((k : Int) ∈ L.take j))) := HB.out.cell (by rw [List.getElem?_map, seenL_at _ hkn]; rfl)
            have sf := HB.out.frozen k
            by_cases h3 : (k : Int) ∈ L.take j
            · rw [decide_eq_true h3] at s0
              have HF : Hid (ordB L (n : Int) = false) := ordB_no fun ho => HNO.out h3 ho.2.2
              clear HTK HNO HQ h3 HB
              go_wp2
              go_ret
              exact ⟨by rw [HF.out]; rfl, HBW.out⟩
            · rw [decide_eq_false h3] at s0
              have hBn := HB.out.set k (.bool true)
              rw [← List.map_set, seenL_set _, ← HTK.out] at hBn
              have HBn : Hid (Blk 4 (wr.setCell ⟨w.heap.size, k, none⟩ (.bool true)) w.heap.size ((seenL n (L.take (j + 1))).map Value.bool)) := hBn
              have HQ2 : Hid ((∀ y ∈ L.take (j + 1), 0 ≤ y ∧ y < (n : Int)) ∧ (L.take (j + 1)).Nodup) := by
                unfold Hid
                rw [HTK.out]
                refine ⟨fun y hy => ?_, ?_⟩
                · rcases List.mem_append.1 hy with h | h
                  · exact HQ.out.1 y h
                  · rw [List.mem_singleton.1 h]; omega
                · rw [List.nodup_append]
                  refine ⟨HQ.out.2, by simp, fun y hy z hz e => h3 ?_⟩
                  rw [← List.mem_singleton.1 hz, ← e]
                  exact hy
              clear HTK HNO HQ h3 HB hBn
              go_wp2
              exact ⟨⟨j + 1, by omega, by go_num, HQ2, HBn.out, HBW.out.setCell (p := ⟨w.heap.size, k, none⟩) (Nat.le_refl _) _⟩, by simp [intOf]; omega⟩
      · have hjn : j = L.length := by omega
        have hjl : ¬ (j : Int) < (L.length : Int) := by omega
        have HF : Hid (ordB L (n : Int) = true) := by
          have h1 := HQ.out
          rw [hjn, List.take_length] at h1
          exact (ordB_iff L (n : Int)).2 ⟨by have := HL.out; omega, h1.1, h1.2⟩
        have HBW : Hid (Below w.heap.size w wr) := hb
        clear hB hb HQ hjn
        go_wp2
        go_ret
        exact ⟨by rw [HF.out]; rfl, HBW.out⟩
  · have hl' : ((L.length : Int) == (n : Int)) = false := by simpa using hl
    have HF : Hid (ordB L (n : Int) = false) := ordB_no fun ho => hl ho.1
    clear hl
    go_enter Try.func24, Try.ntmps24
    go_wp2
    go_ret
    exact ⟨by rw [HF.out]; rfl, Below.refl _ _⟩
end Go.Proofs.Yteekhofollaooaa

namespace Go.Proofs.Yteekhofollaooaa
open Go Go.Proofs Go.RowKit

theorem mark1_at (C : List Int) (v : Int) (T : List Int) (u : Int) {i : Nat} (hi : i < T.length) : (mark1 C v T u).getD i 0 = if 0 ≤ C.getD u.toNat 0 ∧ (C.getD u.toNat 0).toNat = i then v else T.getD i 0 := by
  unfold mark1
  generalize C.getD u.toNat 0 = x
  by_cases hx : 0 ≤ x
  · rw [if_pos hx, List.getD_eq_getElem?_getD, List.getElem?_set]
    by_cases he : x.toNat = i
    · subst he
      rw [if_pos rfl, if_pos hi, if_pos ⟨hx, rfl⟩]
      rfl
    · rw [if_neg he, if_neg (fun h => he h.2), List.getD_eq_getElem?_getD]
  · rw [if_neg hx, if_neg (fun h => hx h.1)]
/-- A taker bears v just if a neighbour has that colour. -/
theorem markT_at (C : List Int) (v : Int) : ∀ (near T : List Int), (∀ (i : Nat), i < T.length → T.getD i 0 ≠ v) → ∀ (i : Nat), i < T.length → ((markT C v T near).getD i 0 = v ↔ ∃ u ∈ near, 0 ≤ C.getD u.toNat 0 ∧ (C.getD u.toNat 0).toNat = i) := by
  intro near
  have key : ∀ (near T : List Int) (i : Nat), i < T.length → ((markT C v T near).getD i 0 = v ↔ T.getD i 0 = v ∨ ∃ u ∈ near, 0 ≤ C.getD u.toNat 0 ∧ (C.getD u.toNat 0).toNat = i) := by
    intro near
    induction near with
    | nil => intro T i hi; simp [markT]
    | cons u near ih =>
      intro T i hi
      have e : markT C v T (u :: near) = markT C v (mark1 C v T u) near := rfl
      rw [e, ih (mark1 C v T u) i (by rw [mark1_len]; exact hi), mark1_at C v T u hi]
      by_cases h : 0 ≤ C.getD u.toNat 0 ∧ (C.getD u.toNat 0).toNat = i
      · rw [if_pos h]
        exact ⟨fun _ => .inr ⟨u, List.mem_cons_self, h⟩, fun _ => .inl rfl⟩
      · rw [if_neg h]
        constructor
        · rintro (h1 | ⟨x, hx, h2⟩)
          · exact .inl h1
          · exact .inr ⟨x, List.mem_cons_of_mem _ hx, h2⟩
        · rintro (h1 | ⟨x, hx, h2⟩)
          · exact .inl h1
          · rcases List.mem_cons.1 hx with rfl | hx
            · exact absurd h2 h
            · exact .inr ⟨x, hx, h2⟩
  intro T hT i hi
  rw [key near T i hi]
  exact ⟨fun h => h.resolve_left (hT i hi), .inr⟩
theorem nodup_lenC : ∀ {A B : List Nat}, A.Nodup → (∀ x ∈ A, x ∈ B) → A.length ≤ B.length
  | [], _, _, _ => Nat.zero_le _
  | a :: A, B, hn, h => by
    have hn' := List.nodup_cons.1 hn
    have ha := h a List.mem_cons_self
    have := nodup_lenC (A := A) (B := B.erase a) hn'.2 (fun x hx => (List.mem_erase_of_ne (fun e : x = a => hn'.1 (by rw [← e]; exact hx))).2 (h x (List.mem_cons_of_mem _ hx)))
    rw [List.length_erase_of_mem ha] at this
    have hp := List.length_pos_of_mem ha
    simp only [List.length_cons]
    omega
/-- The least colour that none of these has. -/
structure LeastC (C near : List Int) (k : Nat) : Prop where
  none : ∀ u ∈ near, C.getD u.toNat 0 ≠ (k : Int)
  each : ∀ i, i < k → ∃ u ∈ near, C.getD u.toNat 0 = (i : Int)
theorem LeastC.uniq {C near : List Int} {j k : Nat} (h : LeastC C near j) (h' : LeastC C near k) : j = k := by
  rcases Nat.lt_trichotomy j k with h1 | h1 | h1
  · obtain ⟨u, hu, e⟩ := h'.each j h1
    exact absurd e (h.none u hu)
  · exact h1
  · obtain ⟨u, hu, e⟩ := h.each k h1
    exact absurd e (h'.none u hu)
theorem hue_ok {C T near : List Int} {v m : Nat} (hT : T.length = m) (hno : ∀ (i : Nat), i < T.length → T.getD i 0 ≠ (v : Int)) (hfew : near.length < m) : ∃ k : Nat, hueL C v T near = (k : Int) ∧ k < m ∧ LeastC C near k := by
  have hmk := markT_at C (v : Int) near T hno
  have hlen : (markT C (v : Int) T near).length = m := by rw [markT_len, hT]
  have hat : ∀ i (h : i < (markT C (v : Int) T near).length), (markT C (v : Int) T near).getD i 0 = (markT C (v : Int) T near)[i] := fun i h => by rw [List.getD_eq_getElem?_getD, List.getElem?_eq_getElem h]; rfl
  unfold hueL idxF
  cases hf : (markT C (v : Int) T near).findIdx? (fun t => t != (v : Int)) with
  | none =>
    exfalso
    rw [List.findIdx?_eq_none_iff] at hf
    have hall : ∀ i, i < m → i ∈ near.map (fun u => (C.getD u.toNat 0).toNat) := fun i hi => by
      have h1 := hf _ (List.getElem_mem (by rw [hlen]; exact hi : i < (markT C (v : Int) T near).length))
      have h2 : (markT C (v : Int) T near)[i]'(by rw [hlen]; exact hi) = (v : Int) := by simpa using h1
      rw [← hat i (by rw [hlen]; exact hi)] at h2
      obtain ⟨u, hu, _, e⟩ := (hmk i (by rw [hT]; exact hi)).1 h2
      exact List.mem_map.2 ⟨u, hu, e⟩
    have := nodup_lenC (A := List.range m) (B := near.map (fun u => (C.getD u.toNat 0).toNat)) List.nodup_range (fun x hx => hall x (List.mem_range.1 hx))
    rw [List.length_range, List.length_map] at this
    omega
  | some k =>
    rw [List.findIdx?_eq_some_iff_getElem] at hf
    obtain ⟨hk, hp, hlo⟩ := hf
    have hkm : k < m := by rw [hlen] at hk; exact hk
    have hne : (markT C (v : Int) T near).getD k 0 ≠ (v : Int) := by rw [hat k hk]; simpa using hp
    refine ⟨k, rfl, hkm, fun u hu e => ?_, fun i hi => ?_⟩
    · exact hne ((hmk k (by rw [hT]; exact hkm)).2 ⟨u, hu, by omega, by omega⟩)
    · have h1 := hlo i hi
      have h2 : (markT C (v : Int) T near)[i]'(by omega) = (v : Int) := by simpa using h1
      rw [← hat i (by omega)] at h2
      obtain ⟨u, hu, h3, e⟩ := (hmk i (by omega)).1 h2
      exact ⟨u, hu, by omega⟩

/-- What a painter bears behind these vertices, each painted once. -/
structure GS (m : Nat) (C T P : List Int) : Prop where
  len : T.length = m
  small : ∀ i : Nat, C.getD i 0 < m
  low : ∀ i : Nat, i < C.length → -1 ≤ C.getD i 0
  takers : ∀ i : Nat, i < T.length → T.getD i 0 = -1 ∨ T.getD i 0 ∈ P
theorem GS.start (n m : Nat) (hm : 0 < m) : GS m (List.replicate n (-1)) (List.replicate m (-1)) [] := by
  refine ⟨List.length_replicate .., fun i => ?_, fun i hi => ?_, fun i hi => .inl ?_⟩
  · rw [List.getD_eq_getElem?_getD, List.getElem?_replicate]
    split <;> simp <;> omega
  · rw [List.length_replicate] at hi
    rw [List.getD_eq_getElem?_getD, List.getElem?_replicate, if_pos hi]
    exact Int.le_refl _
  · rw [List.length_replicate] at hi
    rw [List.getD_eq_getElem?_getD, List.getElem?_replicate, if_pos hi]
    rfl
theorem markT_was (C : List Int) (v : Int) (P : List Int) : ∀ (near T : List Int), (∀ i : Nat, i < T.length → T.getD i 0 = -1 ∨ T.getD i 0 ∈ P ∨ T.getD i 0 = v) → ∀ i : Nat, i < T.length → (markT C v T near).getD i 0 = -1 ∨ (markT C v T near).getD i 0 ∈ P ∨ (markT C v T near).getD i 0 = v := by
  intro near
  induction near with
  | nil => intro T h i hi; exact h i hi
  | cons u near ih =>
    intro T h i hi
    have e : markT C v T (u :: near) = markT C v (mark1 C v T u) near := rfl
    rw [e]
    refine ih (mark1 C v T u) (fun j hj => ?_) i (by rw [mark1_len]; exact hi)
    rw [mark1_len] at hj
    rw [mark1_at C v T u hj]
    split
    · exact .inr (.inr rfl)
    · exact h j hj
theorem GS.fresh {m : Nat} {C T P : List Int} (h : GS m C T P) {v : Nat} (hv : (v : Int) ∉ P) : ∀ i : Nat, i < T.length → T.getD i 0 ≠ (v : Int) := fun i hi e => by
  rcases h.takers i hi with h1 | h1
  · omega
  · exact hv (e ▸ h1)
theorem GS.paint {m : Nat} {C T P near : List Int} (h : GS m C T P) {v : Nat} (hv : (v : Int) ∉ P) (hfew : near.length < m) : GS m (C.set v (hueL C v T near)) (markT C (v : Int) T near) (P ++ [(v : Int)]) := by
  obtain ⟨k, hk, hkm, _⟩ := hue_ok h.len (h.fresh hv) hfew
  rw [hk]
  have hset : ∀ i : Nat, (C.set v (k : Int)).getD i 0 = if v = i ∧ i < C.length then (k : Int) else C.getD i 0 := fun i => by
    rw [List.getD_eq_getElem?_getD, List.getElem?_set]
    by_cases e : v = i
    · subst e
      by_cases hl : v < C.length
      · rw [if_pos rfl, if_pos hl, if_pos ⟨rfl, hl⟩]; rfl
      · rw [if_pos rfl, if_neg hl, if_neg (fun h => hl h.2), List.getD_eq_getElem?_getD, List.getElem?_eq_none (by omega)]
    · rw [if_neg e, if_neg (fun h => e h.1), List.getD_eq_getElem?_getD]
  refine ⟨by rw [markT_len]; exact h.len, fun i => ?_, fun i hi => ?_, fun i hi => ?_⟩
  · rw [hset i]
    split
    · omega
    · exact h.small i
  · rw [hset i]
    split
    · omega
    · exact h.low i (by rw [List.length_set] at hi; exact hi)
  · rw [markT_len] at hi
    rcases markT_was C (v : Int) P near T (fun j hj => (h.takers j hj).imp_right .inl) i hi with h1 | h1 | h1
    · exact .inl h1
    · exact .inr (List.mem_append_left _ h1)
    · exact .inr (by rw [h1]; simp)
end Go.Proofs.Yteekhofollaooaa

namespace Go.Proofs.Yteekhofollaooaa
open Go Go.Proofs Go.RowKit

/-- One more than the greatest length of these. -/
def mostN (LL : List (List Int)) : Nat := LL.foldl (fun a x => if a < x.length + 1 then x.length + 1 else a) 0
theorem mostN_take {LL : List (List Int)} {j : Nat} (h : j < LL.length) : mostN (LL.take (j + 1)) = if mostN (LL.take j) < LL[j].length + 1 then LL[j].length + 1 else mostN (LL.take j) := by
  rw [List.take_add_one, List.getElem?_eq_getElem h]
  unfold mostN
  rw [List.foldl_append]
  rfl
theorem mostN_le {B : Nat} {LL : List (List Int)} (hB : ∀ x ∈ LL, x.length + 1 ≤ B) : ∀ j, mostN (LL.take j) ≤ B := by
  intro j
  induction j with
  | zero => simp [mostN]
  | succ j ih =>
    by_cases h : j < LL.length
    · rw [mostN_take h]
      have := hB _ (List.getElem_mem h)
      split <;> omega
    · rw [List.take_of_length_le (by omega)]
      rw [List.take_of_length_le (by omega)] at ih
      exact ih
theorem mostN_ge {LL : List (List Int)} : ∀ j (i : Nat) (hi : i < LL.length), i < j → LL[i].length < mostN (LL.take j) := by
  intro j
  induction j with
  | zero => intro i _ h; omega
  | succ j ih =>
    intro i hi hij
    by_cases h : j < LL.length
    · rw [mostN_take h]
      by_cases e : i = j
      · subst e; split <;> omega
      · have := ih i hi (by omega)
        split <;> omega
    · rw [List.take_of_length_le (by omega)]
      have := ih i hi (by omega)
      rw [List.take_of_length_le (by omega)] at this
      exact this
/-- Colours and takers behind these vertices. -/
def grS (l : List Ed) (st : List Int × List Int) (v : Int) : List Int × List Int := (st.1.set v.toNat (hueL st.1 v.toNat st.2 (nb l v)), markT st.1 v st.2 (nb l v))
def grA (N : Nat) (l : List Ed) (m : Nat) (P : List Int) : List Int × List Int := P.foldl (grS l) (List.replicate N (-1), List.replicate m (-1))
theorem grA_take (N : Nat) (l : List Ed) (m : Nat) {P : List Int} {j : Nat} (h : j < P.length) : grA N l m (P.take (j + 1)) = grS l (grA N l m (P.take j)) P[j] := by
  rw [List.take_add_one, List.getElem?_eq_getElem h]
  unfold grA
  rw [List.foldl_append]
  rfl
theorem grA_len (N : Nat) (l : List Ed) (m : Nat) : ∀ P, (grA N l m P).1.length = N ∧ (grA N l m P).2.length = m := by
  intro P
  unfold grA
  have key : ∀ (P : List Int) (st : List Int × List Int), (P.foldl (grS l) st).1.length = st.1.length ∧ (P.foldl (grS l) st).2.length = st.2.length := by
    intro P
    induction P with
    | nil => intro st; exact ⟨rfl, rfl⟩
    | cons v P ih =>
      intro st
      obtain ⟨h1, h2⟩ := ih (grS l st v)
      refine ⟨h1.trans ?_, h2.trans ?_⟩
      · simp [grS]
      · simp [grS, markT_len]
  obtain ⟨h1, h2⟩ := key P (List.replicate N (-1), List.replicate m (-1))
  exact ⟨h1.trans (List.length_replicate ..), h2.trans (List.length_replicate ..)⟩
theorem take_not {L : List Int} (hn : L.Nodup) {j : Nat} (h : j < L.length) : L[j] ∉ L.take j := fun hm => by
  have h1 : (L.take j ++ L.drop j).Nodup := by rw [List.take_append_drop]; exact hn
  have h2 : L[j] ∈ L.drop j := List.mem_of_getElem? (i := 0) (by rw [List.getElem?_drop, Nat.add_zero, List.getElem?_eq_getElem h])
  exact (List.nodup_append.1 h1).2.2 _ hm _ h2 rfl

set_option maxRecDepth 100000 in
set_option maxHeartbeats 8000000 in
theorem greedy_any (N : Nat) (l : List Ed) (hR : RightG (N : Int) l) (P : List Int) (hP : Ord P (N : Int)) (sv ov : Value) (w : World) (hl : Edges w.heap.size w sv l) (ho : Ints w.heap.size w ov P) :
    Calls Try.prog 10 #[.agg #[.int .i64 (N : Int), sv], ov] w fun e w' => ∃ g, e = .returned (.tuple #[.slice (some ⟨g, 0, none⟩) N N, .int .i64 0]) ∧ w.heap.size ≤ g ∧ Blk 3 w' g ((grA N l (mostN (nearL N l)) P).1.map (Value.int .i64)) ∧ Below w.heap.size w w' := by
  obtain ⟨p, c, rfl⟩ := hl.len
  obtain ⟨q, d, rfl⟩ := ho.len
  have hn1 := hR.n1
  have hm1 := hR.m1
  have hbA : Below w.heap.size w (w.alloc (.cells #[.int .i64 (N : Int), .slice p l.length c] 24)) := (Below.refl _ _).alloc (Nat.le_refl _) _
  have hX : Blk 24 (w.alloc (.cells #[.int .i64 (N : Int), .slice p l.length c] 24)) w.heap.size [.int .i64 (N : Int), .slice p l.length c] := heap_alloc_new w _
  have q0 := hX.cell (j := 0) rfl
  have q1 := hX.cell (j := 1) rfl
  have hrc := right_any (N : Int) l (.slice p l.length c) _ (hl.go hbA)
  rw [right_iff.2 hR] at hrc
  have HL : Hid (Edges w.heap.size w (.slice p l.length c) l) := hl
  have HO : Hid (Ints w.heap.size w (.slice q P.length d) P) := ho
  have HR : Hid (RightG (N : Int) l) := hR
  have HP : Hid (Ord P (N : Int)) := hP
  have HX : Hid (Blk 24 (w.alloc (.cells #[.int .i64 (N : Int), .slice p l.length c] 24)) w.heap.size [.int .i64 (N : Int), .slice p l.length c]) := hX
  have HBA : Hid (Below w.heap.size w (w.alloc (.cells #[.int .i64 (N : Int), .slice p l.length c] 24))) := hbA
  clear hl ho hR hX hbA hP
  go_enter Try.func10, Try.ntmps10
  go_wp2_with fail
  generalize w.alloc (.cells #[.int .i64 (N : Int), .slice p l.length c] 24) = w1 at *
  refine hrc.mono ?_
  clear hrc
  rintro e w2 ⟨rfl, hg2⟩
  have HB2 : Hid (Below w.heap.size w w2) := HBA.out.trans (hg2.below.mono HBA.out.size)
  have HX2 : Hid (Blk 24 w2 w.heap.size [.int .i64 (N : Int), .slice p l.length c]) := HX.out.go hg2.below
  clear q0 q1 HBA HX hg2
  have q0 := HX2.out.cell (j := 0) rfl
  have hio := isOrderC_any P N (by omega) (.slice q P.length d) w2 (HO.out.go HB2.out)
  rw [(ordB_iff P (N : Int)).2 HP.out] at hio
  go_wp2_with fail
  refine hio.mono ?_
  clear hio
  rintro e w3 ⟨rfl, hb3⟩
  have HB3 : Hid (Below w.heap.size w w3) := HB2.out.trans (hb3.mono HB2.out.size)
  have HX3 : Hid (Blk 24 w3 w.heap.size [.int .i64 (N : Int), .slice p l.length c]) := HX2.out.go hb3
  clear q0 HB2 HX2 hb3
  have q0 := HX3.out.cell (j := 0) rfl
  have q1 := HX3.out.cell (j := 1) rfl
  have hnr := near_any N l HR.out (.slice p l.length c) w3 (HL.out.go HB3.out)
  go_wp2_with fail
  refine hnr.mono ?_
  clear hnr
  rintro e w4 ⟨nv, rfl, hL4, hb4⟩
  obtain ⟨pn, cn, rfl⟩ := hL4.len
  have HB4 : Hid (Below w.heap.size w w4) := HB3.out.trans (hb4.mono HB3.out.size)
  have HX4 : Hid (Blk 24 w4 w.heap.size [.int .i64 (N : Int), .slice p l.length c]) := HX3.out.go hb4
  have HL4 : Hid (Lsts w4.heap.size w4 (.slice pn (nearL N l).length cn) (nearL N l)) := hL4
  have HNL : Hid ((nearL N l).length = N) := nearL_len N l
  have HSM : Hid (∀ x ∈ nearL N l, x.length + 1 ≤ 4194305) := fun x hx => by
    unfold nearL at hx
    obtain ⟨v, _, rfl⟩ := List.mem_map.1 hx
    have := nb_len (v : Int) l
    omega
  have HAT : Hid (∀ v, v < N → (nearL N l)[v]? = some (nb l (v : Int))) := fun v hv => nearL_at hv
  have hnl : (nearL N l).length ≤ 1048576 := by have := nearL_len N l; omega
  clear q0 q1 HB3 HX3 hb4 hL4
  generalize hLL : nearL N l = LL at *
  have HLL : Hid (nearL N l = LL) := hLL
  clear hLL
  go_wp2
  go_loop [7, 27] (fun mv iv => ∃ j : Nat, j ≤ LL.length ∧ mv = .int .i64 (mostN (LL.take j) : Nat) ∧ iv = .int .i64 j) (fun _ iv => LL.length - (intOf iv).toNat)
  case atStart => exact ⟨0, Nat.zero_le _, rfl, rfl⟩
  case round =>
    obtain ⟨j, hj, rfl, rfl⟩ := hrel
    have hml := mostN_le HSM.out j
    by_cases hlt : j < LL.length
    · have hjl : (j : Int) < (LL.length : Int) := by omega
      obtain ⟨bc, oc, rfl, hbc, hcc, px, kx, hIx, c0⟩ := HL4.out.cellAt hlt
      have hx := HSM.out _ (List.getElem_mem hlt)
      have HS : Hid _ := mostN_take hlt
      generalize mostN (LL.take j) = g at *
      generalize LL[j].length = x at *
      clear hIx
      have hxI : ((x : Int) + 1) = ((x + 1 : Nat) : Int) := by omega
      rcases Nat.lt_trichotomy g (x + 1) with h1 | h1 | h1
      · have HM : Hid (mostN (LL.take (j + 1)) = x + 1) := HS.out.trans (if_pos h1)
        have h1I : (g : Int) < (x : Int) + 1 := by omega
        clear HS h1 hxI
        go_wp2
        exact ⟨⟨j + 1, by omega, by rw [HM.out]; rfl, by go_num⟩, by simp [intOf]; omega⟩
      · subst h1
        have HM : Hid (mostN (LL.take (j + 1)) = x + 1) := HS.out.trans (if_neg (by omega))
        clear HS hxI
        go_wp2
        exact ⟨⟨j + 1, by omega, by rw [HM.out]; rfl, by go_num⟩, by simp [intOf]; omega⟩
      · have HM : Hid (mostN (LL.take (j + 1)) = g) := HS.out.trans (if_neg (by omega))
        have h1I : (x : Int) + 1 < (g : Int) := by omega
        clear HS h1 hxI
        go_wp2
        exact ⟨⟨j + 1, by omega, by rw [HM.out], by go_num⟩, by simp [intOf]; omega⟩
    · have hjn : j = LL.length := by omega
      have hjl : ¬ (j : Int) < (LL.length : Int) := by omega
      have HMO : Hid (mostN (LL.take j) = mostN LL) := by
        unfold Hid
        rw [hjn, List.take_length]
      have HBG : Hid (∀ v, v < N → (nb l (v : Int)).length < mostN LL) := fun v hv => by
        have h1 := HAT.out v hv
        obtain ⟨h2, h3⟩ := List.getElem?_eq_some_iff.1 h1
        have h4 := mostN_ge (LL := LL) LL.length v h2 h2
        rw [List.take_length] at h4
        rw [h3] at h4
        exact h4
      have hml2 : mostN LL ≤ 4194305 := by rw [← HMO.out]; exact hml
      rw [HMO.out]
      clear hml
      clear hjn
      generalize hmm : mostN LL = m at *
      have HMM : Hid (mostN LL = m) := hmm
      clear hmm
      have q0 := HX4.out.cell (j := 0) rfl
      have hnp := newPainter_any N m (by omega) (by omega) w4
      go_wp2_with fail
      refine hnp.mono ?_
      clear hnp
      rintro e w5 ⟨pb, gc, gt, rfl, hpb, hgc, hgt, hPT, hb5⟩
      have HB5 : Hid (Below w.heap.size w w5) := HB4.out.trans (hb5.mono HB4.out.size)
      have HO5 : Hid (Ints w4.heap.size w4 (.slice q P.length d) P) := HO.out.go HB4.out
      have hPl : P.length = N := by have := HP.out.1; omega
      have hPb : P.length ≤ 1048576 := by omega
      have HGS : Hid (0 < N → GS m (grA N l m []).1 (grA N l m []).2 []) := fun h => GS.start N m (by have := HBG.out 0 h; omega)
      have HPT : Hid (PT pb gc gt N m (grA N l m []).1 (grA N l m []).2 w5) := hPT
      have HB45 : Hid (Below w4.heap.size w4 w5) := hb5
      have hws := HB4.out.size
      have HGT : Hid (w4.heap.size ≤ gc ∧ w4.heap.size ≤ gt) := ⟨hgc, hgt⟩
      have HWG : Hid (w.heap.size ≤ gc) := Nat.le_trans hws hgc
      clear q0 hPT hb5 hgt hgc hPl
      go_wp2
      go_loopw [43] (fun iv wr => ∃ j : Nat, j ≤ P.length ∧ iv = .int .i64 j ∧ PT pb gc gt N m (grA N l m (P.take j)).1 (grA N l m (P.take j)).2 wr ∧ Hid (0 < N → GS m (grA N l m (P.take j)).1 (grA N l m (P.take j)).2 (P.take j)) ∧ Below w4.heap.size w4 wr) (fun iv _ => P.length - (intOf iv).toNat)
      case atStart => exact ⟨0, Nat.zero_le _, rfl, HPT.out, HGS, HB45.out⟩
      case round =>
        clear HPT HGS HB45
        obtain ⟨j, hj, rfl, hPj, HGj, hbj⟩ := hrel
        by_cases hlt : j < P.length
        · have hjl : (j : Int) < (P.length : Int) := by omega
          obtain ⟨b, off, rfl, hbb, hcap, hcc⟩ := HO5.out.open hlt
          have c0 := hcc wr hbj j hlt
          have hrng := HP.out.2.1 _ (List.getElem_mem hlt)
          have hnot := take_not HP.out.2.2 hlt
          obtain ⟨v, hv⟩ : ∃ v : Nat, P[j] = (v : Int) := ⟨P[j].toNat, by omega⟩
          have hvN : v < N := by omega
          have hvL : v < LL.length := by rw [HNL.out]; exact hvN
          have hnb : LL[v] = nb l (v : Int) := by
            have h1 := HAT.out v hvN
            rw [List.getElem?_eq_getElem hvL] at h1
            exact Option.some.inj h1
          obtain ⟨bc, oc, rfl, hbc, hcc2, px, kx, hIx, d0⟩ := (HL4.out.below hbj).cellAt hvL
          rw [hnb] at hIx d0
          have hgs := HGj.out (by omega)
          rw [hv] at hnot
          have hfew := HBG.out v hvN
          have HTK : Hid (P.take (j + 1) = P.take j ++ [(v : Int)]) := by
            unfold Hid
            rw [List.take_add_one, List.getElem?_eq_getElem hlt, hv]
            rfl
          have HGA : Hid (grA N l m (P.take (j + 1)) = ((grA N l m (P.take j)).1.set v (hueL (grA N l m (P.take j)).1 v (grA N l m (P.take j)).2 (nb l (v : Int))), markT (grA N l m (P.take j)).1 (v : Int) (grA N l m (P.take j)).2 (nb l (v : Int)))) := by
            unfold Hid
            rw [grA_take N l m hlt, hv]
            rfl
          have HGN : Hid (GS m ((grA N l m (P.take j)).1.set v (hueL (grA N l m (P.take j)).1 v (grA N l m (P.take j)).2 (nb l (v : Int)))) (markT (grA N l m (P.take j)).1 (v : Int) (grA N l m (P.take j)).2 (nb l (v : Int))) (P.take j ++ [(v : Int)])) := hgs.paint hnot hfew
          have hpt := paint_any pb gc gt N m (by omega) (grA N l m (P.take j)).1 (grA N l m (P.take j)).2 (nb l (v : Int)) v hvN (by omega) (fun u hu => by
            obtain ⟨_, h1, h2, _⟩ := nb_mutual HR.out hu
            exact ⟨u.toNat, by omega, by omega, hgs.small u.toNat⟩) _ w4.heap.size wr hPj hIx (fun x hx => by have := HGT.out; omega) hbj.size
          rw [hv] at c0
          have hvI : (v : Int) < (LL.length : Int) := by omega
          have HBJ : Hid (Below w4.heap.size w4 wr) := hbj
          clear hcc hrng hnot hv hnb hgs hfew hIx hPj HGj hbj
          go_wp2_with fail
          refine hpt.mono ?_
          clear hpt
          rintro e w6 ⟨rfl, hP6, hk6, ho6, ht6, hu6, hs6⟩
          have HB6 : Hid (Below w4.heap.size w4 w6) := HBJ.out.trans ⟨ho6, ht6, hu6, Nat.le_trans (by have := HBJ.out.size; omega) hs6, fun x hx => hk6 x (by have := HBJ.out.size; omega) (by have := HGT.out; omega) (by have := HGT.out; omega)⟩
          have HP6 : Hid (PT pb gc gt N m (grA N l m (P.take (j + 1))).1 (grA N l m (P.take (j + 1))).2 w6) := by
            rw [HGA.out]
            exact hP6
          have HG6 : Hid (0 < N → GS m (grA N l m (P.take (j + 1))).1 (grA N l m (P.take (j + 1))).2 (P.take (j + 1))) := fun _ => by
            rw [HGA.out, HTK.out]
            exact HGN.out
          clear hP6 hk6 ho6 ht6 hu6 hs6 HGA HGN HTK
          go_wp2
          exact ⟨⟨j + 1, by omega, by go_num, HP6.out, HG6, HB6.out⟩, by simp [intOf]; omega⟩
        · have hjn : j = P.length := by omega
          have hjl : ¬ (j : Int) < (P.length : Int) := by omega
          rw [hjn, List.take_length] at hPj
          have p0 := hPj.var.cell (j := 0) rfl
          have HF : Hid (Blk 3 wr gc ((grA N l m P).1.map (Value.int .i64)) ∧ Below w.heap.size w wr) := ⟨hPj.col, HB4.out.trans (hbj.mono hws)⟩
          clear hPj hbj HGj hjn
          go_wp2
          refine bodyPost_ret (results_tmp2 rfl _ _ _) rfl ?_
          refine ⟨gc, rfl, HWG.out, ?_, HF.out.2⟩
          rw [HLL.out, HMM.out]
          exact HF.out.1
end Go.Proofs.Yteekhofollaooaa
