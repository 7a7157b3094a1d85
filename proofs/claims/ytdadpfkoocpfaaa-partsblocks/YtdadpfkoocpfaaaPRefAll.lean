/-
  The contracts of the reference's all and other.
-/
import Derived.Deep.QuietTactic
import Derived.BigQuiet
import Derived.Test.YtdadpfkoocpfaaaPCutMath
import Derived.Test.YtdadpfkoocpfaaaPAlive
namespace Go.Proofs.Ytdadpfkoocpfaaa
open Go Go.Proofs Go.RowKit

theorem infoBoC : (Try.prog.info? 4).map (fun i => (i.zero, i.size, i.bytes)) = some (some (.bool false), 1, 1) := by kernel_rfl
theorem bools_madeC (n : Nat) : (madeCells (Value.bool false).cells (n * 1)).toList = (List.replicate n false).map Value.bool := by
  apply List.ext_getElem
  · simp [madeCells]
  · intro i h1 h2
    simp [madeCells, Value.cells, Nat.mod_one]
def butP (N v j : Nat) : List Bool := (List.range N).map fun i => decide (i < j) && decide (i ≠ v)
theorem butP_len (N v j : Nat) : (butP N v j).length = N := by simp [butP]
theorem butP_at {N v j i : Nat} (h : i < N) : (butP N v j)[i]? = some (decide (i < j) && decide (i ≠ v)) := by simp [butP, h]
theorem butP_zero (N v : Nat) : butP N v 0 = List.replicate N false := by
  apply List.ext_getElem?
  intro i
  by_cases h : i < N
  · rw [butP_at h]; simp [h]
  · rw [List.getElem?_eq_none (by rw [butP_len]; omega), List.getElem?_eq_none (by simp; omega)]
theorem butP_full (N v : Nat) : butP N v N = butL N v := by
  unfold butP butL
  refine List.map_congr_left fun i hi => ?_
  rw [decide_eq_true (List.mem_range.1 hi), Bool.true_and]
theorem butP_step {N v j : Nat} : (butP N v j).set j (decide (j ≠ v)) = butP N v (j + 1) := by
  apply List.ext_getElem?
  intro i
  by_cases hi : i < N
  · rw [List.getElem?_set, butP_len, butP_at hi, butP_at hi]
    by_cases e : j = i
    · subst e
      rw [if_pos rfl, if_pos hi]
      simp
    · rw [if_neg e]
      have : (i < j ↔ i < j + 1) := by omega
      simp only [this]
  · rw [List.getElem?_eq_none (by rw [List.length_set, butP_len]; omega), List.getElem?_eq_none (by rw [butP_len]; omega)]

set_option maxRecDepth 100000 in
set_option maxHeartbeats 4000000 in
theorem refAll_any (N : Nat) (hn : N ≤ 1048576) (v : Nat) (w : World) :
    Calls Try.prog 37 #[.int .i64 (N : Int), .int .i64 (v : Int)] w fun r w' => ∃ sk, r = .returned sk ∧ Bools w'.heap.size w' sk (butL N v) ∧ Below w.heap.size w w' := by
  obtain ⟨i0, hi, hz0, hz1, hz2⟩ := info_parts infoBoC
  go_enter Try.func37, Try.ntmps37
  go_wp2_with (at_make; refine wpList_make_full _ rfl _ _ 36 rfl w.heap.size 4 i0 (.bool false) 1 Try.underlying36 hi hz0 hz1 .i64 .i64 _ _ N rfl rfl rfl rfl (by rw [hz2]; omega) (by unfold maxLen; omega) (Nat.le_refl _) ?_; intro w3 hown hgrow; have hb3 : Below w.heap.size w w3 := (Below.refl _ _).grown hgrow (Nat.le_refl _) (fun k e => by cases e))
  have hrow := Blk.made hown
  rw [bools_madeC, ← butP_zero N v] at hrow
  clear hown hgrow hi hz0 hz1 hz2
  obtain ⟨g, hg⟩ : ∃ g, g = w.heap.size := ⟨_, rfl⟩
  rw [← hg] at hrow hb3 ⊢
  have HG : Hid (g = w.heap.size) := hg
  clear hg
  go_loopw [6] (fun i wr => ∃ j : Nat, j ≤ N ∧ i = .int .i64 j ∧ Blk 4 wr g ((butP N v j).map Value.bool) ∧ Below g w3 wr) (fun i _ => N - (intOf i).toNat)
  case atStart => exact ⟨0, Nat.zero_le _, rfl, hrow, Below.refl _ _⟩
  case round =>
    obtain ⟨j, hj, rfl, hB, hb⟩ := hrel
    by_cases hlt : j < N
    · have hjl : (j : Int) < (N : Int) := by omega
      have t0 : wr.cell? ⟨g, j, none⟩ = some (.bool (decide (j < j) && decide (j ≠ v))) := hB.cell (by rw [List.getElem?_map, butP_at hlt]; rfl)
      have f0 := hB.frozen j
      have e1 : ((j : Int) != (v : Int)) = decide (j ≠ v) := by
        by_cases e : j = v
        · subst e; simp
        · have : ¬ (j : Int) = (v : Int) := by omega
          simp [e, this]
      have hBn := hB.set j (.bool (decide (j ≠ v)))
      rw [← List.map_set, butP_step, ← e1] at hBn
      clear e1
      go_wp2
      exact ⟨⟨j + 1, by omega, by go_num, hBn, hb.setCell (p := ⟨g, j, none⟩) (Nat.le_refl _) _⟩, by simp [intOf]; omega⟩
    · obtain rfl : j = N := by omega
      have hN : ¬ (j : Int) < (j : Int) := by omega
      rw [butP_full] at hB
      have hbw : Below g w wr := hb3.trans (hb.mono (Nat.le_refl _))
      have hlt2 := hB.lt
      go_wp2
      go_ret
      refine ⟨.slice (some ⟨g, 0, none⟩) j j, rfl, .inr ⟨g, 0, j, by rw [butL_len], hlt2, by rw [butL_len]; exact Nat.le_refl _, fun i x hx => ?_⟩, by rw [← HG.out]; exact hbw⟩
      rw [Nat.zero_add]
      exact hB.cell (by rw [List.getElem?_map, hx]; rfl)
/-- The other end of an edge at v, and whether it is at v. -/
def otherE (e : Ed) (v : Int) : Int := if e.1 = v then e.2.1 else e.1
def atE (e : Ed) (v : Int) : Bool := e.1 == v || e.2.1 == v

set_option maxRecDepth 100000 in
set_option maxHeartbeats 2000000 in
theorem refOther_any (x y z v : Int) (w : World) :
    Calls Try.prog 39 #[.agg #[.int .i64 x, .int .i64 y, .int .i64 z], .int .i64 v] w fun r w' => r = .returned (.tuple #[.int .i64 (otherE (x, y, z) v), .bool (atE (x, y, z) v)]) ∧ Grew w w' := by
  have hg1 : Grew w (w.alloc (.cells #[.int .i64 x, .int .i64 y, .int .i64 z] 43)) := (Grew.refl w).alloc _
  have hX1 : Blk 43 (w.alloc (.cells #[.int .i64 x, .int .i64 y, .int .i64 z] 43)) w.heap.size [.int .i64 x, .int .i64 y, .int .i64 z] := heap_alloc_new w _
  have q0 := hX1.cell (j := 0) rfl
  have q1 := hX1.cell (j := 1) rfl
  by_cases h : x = v
  · have h' : (x == v) = true := by simpa using h
    have e1 : otherE (x, y, z) v = y := by unfold otherE; rw [if_pos h]
    have e2 : atE (x, y, z) v = true := by unfold atE; rw [h', Bool.true_or]
    rw [e1, e2]
    clear e1 e2 h
    go_enter Try.func39, Try.ntmps39
    go_wp2
    go_ret2
    exact ⟨rfl, hg1⟩
  · have h' : (x == v) = false := by simpa using h
    have e1 : otherE (x, y, z) v = x := by unfold otherE; rw [if_neg h]
    have e2 : atE (x, y, z) v = (y == v) := by unfold atE; rw [h', Bool.false_or]
    rw [e1, e2]
    clear e1 e2 h
    go_enter Try.func39, Try.ntmps39
    go_wp2
    go_quiet (fail)
    go_wp2
    go_ret2
    exact ⟨rfl, hg1.drewN _⟩
end Go.Proofs.Ytdadpfkoocpfaaa
