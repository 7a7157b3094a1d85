/-
  The walk of ColourChecks.
-/
import Derived.Test.YteekhofollaooaaXCAlive
import Derived.Test.YteekhofollaooaaCA
import Derived.Test.YteekhofollaooaaQD
namespace Go.Proofs.Yteekhofollaooaa
open Go Go.Proofs Go.RowKit

theorem below_drew1C {A w : World} {n : Nat} (h : Below n w A) : Below n w A.drew := below_drewN h 1
theorem below_keepC {A B w : World} {n : Nat} (hb : Below A.heap.size A B) (h : Below n w A) (hn : n ≤ w.heap.size) : Below n w B := h.trans (hb.mono (Nat.le_trans hn h.size))

set_option maxRecDepth 100000 in
set_option maxHeartbeats 2000000 in
theorem checksC_walk (n : Int) (l : List Ed) (c : List Int) (most : Int) (sv cv : Value) (w : World) (hl : Edges w.heap.size w sv l) (hc : Ints w.heap.size w cv c) :
    Calls Try.prog 3 #[.agg #[.int .i64 n, sv], cv, .int .i64 most] w fun r w' => r = .returned (.bool true) ∧ Below w.heap.size w w' := by
  have hmix := mixed
  obtain ⟨p, q, rfl⟩ := hl.len
  obtain ⟨pc, cc, rfl⟩ := hc.len
  have hg1 : Grew w (w.alloc (.cells #[.int .i64 n, .slice p l.length q] 24)) := (Grew.refl w).alloc _
  have q0 := (box2 _ (Grew.refl (w.alloc (.cells #[.int .i64 n, .slice p l.length q] 24)))).1
  have q1 := (box2 _ (Grew.refl (w.alloc (.cells #[.int .i64 n, .slice p l.length q] 24)))).2
  have hlt := light_any n l 60 (by omega) (by omega) (.slice p l.length q) _ (hl.go hg1.below)
  cases hli : lightB n l 60 with
  | false =>
    rw [hli] at hlt
    go_enter Try.func3, Try.ntmps3
    go_wp2_with fail
    refine hlt.mono ?_
    rintro e w2 ⟨rfl, hg2⟩
    go_wp2_with fail
    refine (alive_any _).mono ?_
    rintro e w3 ⟨rfl, hb3⟩
    go_wp2
    go_ret
    exact ⟨rfl, (hg1.trans hg2).below.trans (hb3.mono (hg1.trans hg2).below.size)⟩
  | true =>
    rw [hli] at hlt
    by_cases h1 : (1000 : Int) < (c.length : Int)
    · go_enter Try.func3, Try.ntmps3
      go_wp2_with fail
      refine hlt.mono ?_
      rintro e w2 ⟨rfl, hg2⟩
      go_wp2_with fail
      refine (alive_any _).mono ?_
      rintro e w3 ⟨rfl, hb3⟩
      go_wp2
      go_ret
      exact ⟨rfl, (hg1.trans hg2).below.trans (hb3.mono (hg1.trans hg2).below.size)⟩
    · have h1d : decide ((1000 : Int) < (c.length : Int)) = false := by simp; omega
      have hk1 : ∀ W, Below w.heap.size w W → Calls Try.prog 8 #[.agg #[.int .i64 n, .slice p l.length q], .slice pc c.length cc, .int .i64 most] W fun e w' => e = .returned (.int .i64 (chkK n l c most)) ∧ Below W.heap.size W w' := fun W hW => (check_any n l c (by omega) most _ _ W (hl.go hW) (hc.go hW)).mono fun _ _ h => ⟨h.1, h.2.below⟩
      have hk2 : ∀ W, Below w.heap.size w W → Calls Try.prog 9 #[.agg #[.int .i64 n, .slice p l.length q], .slice pc c.length cc, .int .i64 most] W fun e w' => e = .returned (.int .i64 (chkK n l c most)) ∧ Below W.heap.size W w' := fun W hW => (refCheck_any n l c (by omega) most _ _ W (hl.go hW) (hc.go hW)).mono fun _ _ h => ⟨h.1, h.2.below⟩
      generalize chkK n l c most = k at *
      go_enter Try.func3, Try.ntmps3
      go_wp2_with fail
      refine hlt.mono ?_
      rintro e w1 ⟨rfl, hg2⟩
      clear q0 q1
      have q0 := (box2 _ hg2).1
      have q1 := (box2 _ hg2).2
      have hB1 := (hg1.trans hg2).below
      clear hlt hg1 hg2 hl hc
      go_wp2
      go_region_held3 (fun w' => w'.cell? ⟨w.heap.size, 0, none⟩ = some (.int .i64 n) ∧ w'.cell? ⟨w.heap.size, 1, none⟩ = some (.slice p l.length q) ∧ Below w.heap.size w w') (((try go_split_ands); refine ⟨?_, ?_, ?_⟩ <;> first | assumption | (simp only [World.cell?_drew]; assumption) | exact below_drew1C (by assumption) | exact cell_keepK hb (by assumption) | exact below_keepC hb (by assumption) (Nat.le_refl _))) (first | (go_at_call 8; refine (hk1 _ (by go_split_ands; assumption)).mono ?_; rintro e w2 ⟨rfl, hb⟩) | (go_at_call 9; refine (hk2 _ (by go_split_ands; assumption)).mono ?_; rintro e w2 ⟨rfl, hb⟩) | (go_at_call 7; refine (alive_any _).mono ?_; rintro e w2 ⟨rfl, hb⟩))
      go_split_ands
      go_wp2
      go_ret
      exact ⟨rfl, by assumption⟩
end Go.Proofs.Yteekhofollaooaa
