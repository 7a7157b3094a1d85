/-
  The contract of filigreelaw04.alive: it returns true; and of Light.
-/
import Derived.Laws.StructEq
import Derived.Test.YtkniphmjiepkaaaGMake
import Derived.Test.YtkniphmjiepkaaaGFind
namespace Go.Proofs.Ytkniphmjiepkaaa
open Go Go.Proofs Go.RowKit

theorem alive_make : makeK 3 [(2, 0, 0), (0, 1, 0)] = 0 ∧ srt ([((2, 0, 0) : Ed), (0, 1, 0)].map norm) = [(0, 1, 0), (0, 2, 0)] := by
  refine ⟨by decide, (srt_eq (s := [(0, 1, 0), (0, 2, 0)]) ?_ ?_).symm⟩
  · exact List.Perm.swap _ _ _
  · unfold Strict; decide
theorem alive_makeL : makeL 3 [(2, 0, 0), (0, 1, 0)] = [(0, 1, 0), (0, 2, 0)] := by unfold makeL; rw [if_pos alive_make.1, alive_make.2]
theorem alive_makeN : makeN 3 [(2, 0, 0), (0, 1, 0)] = 3 := by unfold makeN; rw [if_pos alive_make.1]

set_option maxRecDepth 100000 in
set_option maxHeartbeats 2000000 in
theorem alive_any (w : World) : Calls Try.prog 11 #[] w fun e w' => e = .returned (.bool true) ∧ Below w.heap.size w w' := by
  have hB : Blk 51 (w.alloc (.cells #[.int .i64 2, .int .i64 0, .int .i64 0, .int .i64 0, .int .i64 1, .int .i64 0] 51)) w.heap.size (flat [(2, 0, 0), (0, 1, 0)]) := heap_alloc_new w _
  have hE := hB.edges
  have hm := make_any 3 [(2, 0, 0), (0, 1, 0)] _ _ hE
  rw [alive_make.1, alive_makeL, alive_makeN] at hm
  go_enter Try.func11, Try.ntmps11
  go_wp2_with fail
  refine hm.mono ?_
  rintro e w1 ⟨gv, rfl, hg, hb⟩
  have hbw : Below w.heap.size w w1 := ((Below.refl w.heap.size w).alloc (Nat.le_refl _) _).trans (hb.mono (by simp))
  obtain ⟨b, off, cap, rfl, hbb, hcap, hc⟩ : ∃ b off cap, gv = .slice (some ⟨b, off, none⟩) 2 cap ∧ b < w1.heap.size ∧ 2 ≤ cap ∧ ∀ j x, [((0, 1, 0) : Ed), (0, 2, 0)][j]? = some x → w1.cell? ⟨b, off + j * 3, none⟩ = some (.int .i64 x.1) ∧ w1.cell? ⟨b, off + j * 3 + 1, none⟩ = some (.int .i64 x.2.1) ∧ w1.cell? ⟨b, off + j * 3 + 2, none⟩ = some (.int .i64 x.2.2) := by
    rcases hg with ⟨_, h⟩ | h
    · cases h
    · exact h
  obtain ⟨c0, c1, c2⟩ := hc 1 (0, 2, 0) rfl
  simp only [Nat.one_mul] at c0 c1 c2
  clear hc hm hB hE hb
  go_wp2_with fail
  have hg1 : Grew w1 (w1.alloc (.cells #[.int .i64 3, .slice (some ⟨b, off, none⟩) 2 cap] 24)) := (Grew.refl w1).alloc _
  have hr := right_any 3 [(0, 1, 0), (0, 2, 0)] _ _ (hg.go hg1.below)
  rw [show rightK 3 [(0, 1, 0), (0, 2, 0)] = 0 by decide] at hr
  refine hr.mono ?_
  rintro e w2 ⟨rfl, hg2⟩
  have hge := hg.go (hg1.trans hg2).below
  obtain ⟨q0, q1⟩ := box2 _ hg2
  clear hr c0 c1 c2
  go_wp2_with fail
  have hf := find_any 3 [(0, 1, 0), (0, 2, 0)] 2 0 _ _ hge
  rw [show findK 3 [(0, 1, 0), (0, 2, 0)] 2 0 = 1 by decide] at hf
  refine hf.mono ?_
  rintro e w3 ⟨rfl, hg3⟩
  have hge3 := hge.go hg3.below
  obtain ⟨q0, q1⟩ := box2 _ (hg2.trans hg3)
  clear hf
  go_wp2_with fail
  have hf := find_any 3 [(0, 1, 0), (0, 2, 0)] 1 2 _ _ hge3
  rw [show findK 3 [(0, 1, 0), (0, 2, 0)] 1 2 = -1 by decide] at hf
  refine hf.mono ?_
  rintro e w4 ⟨rfl, hg4⟩
  clear hf
  go_wp2
  go_ret
  exact ⟨rfl, hbw.trans ((((hg1.trans hg2).trans hg3).trans hg4).below.mono hbw.size)⟩

def lightB (n : Int) (l : List Ed) (c : Int) : Bool := decide (n ≤ c) && decide ((l.length : Int) ≤ 4 * c)
set_option maxRecDepth 100000 in
theorem light_any (n : Int) (l : List Ed) (c : Int) (h0 : 0 ≤ c) (h1 : c ≤ 1000) (sv : Value) (w : World) (hl : Edges w.heap.size w sv l) :
    Calls Try.prog 15 #[.agg #[.int .i64 n, sv], .int .i64 c] w fun r w' => r = .returned (.bool (lightB n l c)) ∧ Grew w w' := by
  unfold lightB
  obtain ⟨p, q, rfl⟩ := hl.len
  go_enter Try.func15, Try.ntmps15
  go_wp2
  all_goals go_ret
  all_goals refine ⟨?_, (Grew.refl w).alloc _⟩
  all_goals simp
  all_goals first | done | omega | (simp_all <;> omega)
theorem lightB_true {n : Int} {l : List Ed} {c : Int} (h : lightB n l c = true) : n ≤ c ∧ (l.length : Int) ≤ 4 * c := by simpa [lightB] using h

theorem cell_keep {A B : World} (hb : Below A.heap.size A B) {a : Addr} {v : Value} (h : A.cell? a = some v) : B.cell? a = some v := (hb.cell (World.block_lt_of_cell? A a h)).trans h
theorem below_drew1 {A w : World} {n : Nat} (h : Below n w A) : Below n w A.drew := below_drewN h 1
theorem below_keep {A B w : World} {n : Nat} (hb : Below A.heap.size A B) (h : Below n w A) (hn : n ≤ w.heap.size) : Below n w B := h.trans (hb.mono (Nat.le_trans hn h.size))

set_option maxRecDepth 100000 in
set_option maxHeartbeats 1000000 in
theorem right_walk (n : Int) (l : List Ed) (sv : Value) (w : World) (hl : Edges w.heap.size w sv l) :
    Calls Try.prog 3 #[.agg #[.int .i64 n, sv]] w fun r w' => r = .returned (.bool true) ∧ Below w.heap.size w w' := by
  obtain ⟨p, q, rfl⟩ := hl.len
  have hmix := mixed
  have hg1 : Grew w (w.alloc (.cells #[.int .i64 n, .slice p l.length q] 24)) := (Grew.refl w).alloc _
  have q0 := (box2 _ (Grew.refl (w.alloc (.cells #[.int .i64 n, .slice p l.length q] 24)))).1
  have q1 := (box2 _ (Grew.refl (w.alloc (.cells #[.int .i64 n, .slice p l.length q] 24)))).2
  by_cases hlong : (1000 : Int) < (l.length : Int)
  · have hd : decide ((1000 : Int) < (l.length : Int)) = true := by simpa using hlong
    go_enter Try.func3, Try.ntmps3
    go_wp2
    go_big_region_o
    go_wp2
    go_ret
    exact ⟨rfl, below_drewN hg1.below 1⟩
  · have hd : decide ((1000 : Int) < (l.length : Int)) = false := by simpa using hlong
    go_enter Try.func3, Try.ntmps3
    go_wp2
    have hB1 := hg1.below
    generalize w.alloc (.cells #[.int .i64 n, .slice p l.length q] 24) = w1 at q0 q1 hB1 ⊢
    clear hg1
    go_region_held3 (fun w' => w'.cell? ⟨w.heap.size, 0, none⟩ = some (.int .i64 n) ∧ w'.cell? ⟨w.heap.size, 1, none⟩ = some (.slice p l.length q) ∧ Below w.heap.size w w') (((try go_split_ands); refine ⟨?_, ?_, ?_⟩ <;> first | assumption | (simp only [World.cell?_drew]; assumption) | exact below_drew1 (by assumption) | exact cell_keep hb (by assumption) | exact below_keep hb (by assumption) (Nat.le_refl _))) (first | (go_at_call 9; refine (right_any n l _ _ (hl.go (by go_split_ands; assumption))).mono ?_; rintro e w2 ⟨rfl, hg⟩; have hb := hg.below) | (go_at_call 10; refine (refRight_any n l _ _ (hl.go (by go_split_ands; assumption))).mono ?_; rintro e w2 ⟨rfl, hg⟩; have hb := hg.below) | (go_at_call 11; refine (alive_any _).mono ?_; rintro e w2 ⟨rfl, hb⟩))
    go_split_ands
    go_wp2
    go_ret
    exact ⟨rfl, by assumption⟩

end Go.Proofs.Ytkniphmjiepkaaa
