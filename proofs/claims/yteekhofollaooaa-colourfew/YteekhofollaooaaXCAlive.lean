/-
  The chapter's example: alive.
-/
import Derived.Test.YteekhofollaooaaCE
import Derived.Test.YteekhofollaooaaCB
import Derived.Test.YteekhofollaooaaQM
namespace Go.Proofs.Yteekhofollaooaa
open Go Go.Proofs Go.RowKit

theorem ex_few : ∀ v : Nat, v < 3 → (nb exT (v : Int)).length ≤ 4 := by
  intro v hv
  match v, hv with
  | 0, _ => decide
  | 1, _ => decide
  | 2, _ => decide
theorem ex_ord : Ord [0, 1, 2] ((3 : Nat) : Int) := (ordB_iff _ _).1 (by decide)
theorem ex_greedy : (grA 3 exT (mostN (nearL 3 exT)) [0, 1, 2]).1 = [0, 1, 2] := by kernel_rfl
theorem ex_bad : chkK ((3 : Nat) : Int) exT [0, 0, 1] 5 = 13 := by kernel_rfl

set_option maxRecDepth 100000 in
set_option maxHeartbeats 8000000 in
theorem alive_any (w : World) : Calls Try.prog 7 #[] w fun e w' => e = .returned (.bool true) ∧ Below w.heap.size w w' := by
  have hB : Blk 41 (w.alloc (.cells #[.int .i64 0, .int .i64 1, .int .i64 0, .int .i64 0, .int .i64 2, .int .i64 0, .int .i64 1, .int .i64 2, .int .i64 0] 41)) w.heap.size (flat exT) := heap_alloc_new w _
  have hb1 : Below w.heap.size w (w.alloc (.cells #[.int .i64 0, .int .i64 1, .int .i64 0, .int .i64 0, .int .i64 2, .int .i64 0, .int .i64 1, .int .i64 2, .int .i64 0] 41)) := (Below.refl _ _).alloc (Nat.le_refl _) _
  have hs1 : (w.alloc (.cells #[.int .i64 0, .int .i64 1, .int .i64 0, .int .i64 0, .int .i64 2, .int .i64 0, .int .i64 1, .int .i64 2, .int .i64 0] 41)).heap.size = w.heap.size + 1 := by simp
  have hb2 : Below (w.alloc (.cells #[.int .i64 0, .int .i64 1, .int .i64 0, .int .i64 0, .int .i64 2, .int .i64 0, .int .i64 1, .int .i64 2, .int .i64 0] 41)).heap.size (w.alloc (.cells #[.int .i64 0, .int .i64 1, .int .i64 0, .int .i64 0, .int .i64 2, .int .i64 0, .int .i64 1, .int .i64 2, .int .i64 0] 41)) ((w.alloc (.cells #[.int .i64 0, .int .i64 1, .int .i64 0, .int .i64 0, .int .i64 2, .int .i64 0, .int .i64 1, .int .i64 2, .int .i64 0] 41)).alloc (.cells #[.int .i64 3, .slice (some ⟨w.heap.size, 0, none⟩) 3 3] 24)) := (Below.refl _ _).alloc (Nat.le_refl _) _
  have hG : Blk 24 ((w.alloc (.cells #[.int .i64 0, .int .i64 1, .int .i64 0, .int .i64 0, .int .i64 2, .int .i64 0, .int .i64 1, .int .i64 2, .int .i64 0] 41)).alloc (.cells #[.int .i64 3, .slice (some ⟨w.heap.size, 0, none⟩) 3 3] 24)) (w.alloc (.cells #[.int .i64 0, .int .i64 1, .int .i64 0, .int .i64 0, .int .i64 2, .int .i64 0, .int .i64 1, .int .i64 2, .int .i64 0] 41)).heap.size [.int .i64 3, .slice (some ⟨w.heap.size, 0, none⟩) 3 3] := heap_alloc_new _ _
  rw [hs1] at hG
  have hE2 : Edges ((w.alloc (.cells #[.int .i64 0, .int .i64 1, .int .i64 0, .int .i64 0, .int .i64 2, .int .i64 0, .int .i64 1, .int .i64 2, .int .i64 0] 41)).alloc (.cells #[.int .i64 3, .slice (some ⟨w.heap.size, 0, none⟩) 3 3] 24)).heap.size ((w.alloc (.cells #[.int .i64 0, .int .i64 1, .int .i64 0, .int .i64 0, .int .i64 2, .int .i64 0, .int .i64 1, .int .i64 2, .int .i64 0] 41)).alloc (.cells #[.int .i64 3, .slice (some ⟨w.heap.size, 0, none⟩) 3 3] 24)) (.slice (some ⟨w.heap.size, 0, none⟩) 3 3) exT := (Blk.edges (l := exT) hB).go hb2
  have hbw2 : Below w.heap.size w ((w.alloc (.cells #[.int .i64 0, .int .i64 1, .int .i64 0, .int .i64 0, .int .i64 2, .int .i64 0, .int .i64 1, .int .i64 2, .int .i64 0] 41)).alloc (.cells #[.int .i64 3, .slice (some ⟨w.heap.size, 0, none⟩) 3 3] 24)) := hb1.trans (hb2.mono hb1.size)
  have HG : Hid (Blk 24 ((w.alloc (.cells #[.int .i64 0, .int .i64 1, .int .i64 0, .int .i64 0, .int .i64 2, .int .i64 0, .int .i64 1, .int .i64 2, .int .i64 0] 41)).alloc (.cells #[.int .i64 3, .slice (some ⟨w.heap.size, 0, none⟩) 3 3] 24)) (w.heap.size + 1) [.int .i64 3, .slice (some ⟨w.heap.size, 0, none⟩) 3 3]) := hG
  have HE2 : Hid (Edges ((w.alloc (.cells #[.int .i64 0, .int .i64 1, .int .i64 0, .int .i64 0, .int .i64 2, .int .i64 0, .int .i64 1, .int .i64 2, .int .i64 0] 41)).alloc (.cells #[.int .i64 3, .slice (some ⟨w.heap.size, 0, none⟩) 3 3] 24)).heap.size ((w.alloc (.cells #[.int .i64 0, .int .i64 1, .int .i64 0, .int .i64 0, .int .i64 2, .int .i64 0, .int .i64 1, .int .i64 2, .int .i64 0] 41)).alloc (.cells #[.int .i64 3, .slice (some ⟨w.heap.size, 0, none⟩) 3 3] 24)) (.slice (some ⟨w.heap.size, 0, none⟩) 3 3) exT) := hE2
  have HB2 : Hid (Below w.heap.size w ((w.alloc (.cells #[.int .i64 0, .int .i64 1, .int .i64 0, .int .i64 0, .int .i64 2, .int .i64 0, .int .i64 1, .int .i64 2, .int .i64 0] 41)).alloc (.cells #[.int .i64 3, .slice (some ⟨w.heap.size, 0, none⟩) 3 3] 24))) := hbw2
  have g0 := hG.cell (j := 0) rfl
  have g1 := hG.cell (j := 1) rfl
  clear hB hb1 hs1 hb2 hG hE2 hbw2
  have hs2 : ((w.alloc (.cells #[.int .i64 0, .int .i64 1, .int .i64 0, .int .i64 0, .int .i64 2, .int .i64 0, .int .i64 1, .int .i64 2, .int .i64 0] 41)).alloc (.cells #[.int .i64 3, .slice (some ⟨w.heap.size, 0, none⟩) 3 3] 24)).heap.size = w.heap.size + 1 + 1 := by simp
  have hbA : Below ((w.alloc (.cells #[.int .i64 0, .int .i64 1, .int .i64 0, .int .i64 0, .int .i64 2, .int .i64 0, .int .i64 1, .int .i64 2, .int .i64 0] 41)).alloc (.cells #[.int .i64 3, .slice (some ⟨w.heap.size, 0, none⟩) 3 3] 24)).heap.size ((w.alloc (.cells #[.int .i64 0, .int .i64 1, .int .i64 0, .int .i64 0, .int .i64 2, .int .i64 0, .int .i64 1, .int .i64 2, .int .i64 0] 41)).alloc (.cells #[.int .i64 3, .slice (some ⟨w.heap.size, 0, none⟩) 3 3] 24)) (((w.alloc (.cells #[.int .i64 0, .int .i64 1, .int .i64 0, .int .i64 0, .int .i64 2, .int .i64 0, .int .i64 1, .int .i64 2, .int .i64 0] 41)).alloc (.cells #[.int .i64 3, .slice (some ⟨w.heap.size, 0, none⟩) 3 3] 24)).alloc (.cells #[.int .i64 0, .int .i64 1, .int .i64 2] 3)) := (Below.refl _ _).alloc (Nat.le_refl _) _
  have hO : Ints (((w.alloc (.cells #[.int .i64 0, .int .i64 1, .int .i64 0, .int .i64 0, .int .i64 2, .int .i64 0, .int .i64 1, .int .i64 2, .int .i64 0] 41)).alloc (.cells #[.int .i64 3, .slice (some ⟨w.heap.size, 0, none⟩) 3 3] 24)).alloc (.cells #[.int .i64 0, .int .i64 1, .int .i64 2] 3)).heap.size (((w.alloc (.cells #[.int .i64 0, .int .i64 1, .int .i64 0, .int .i64 0, .int .i64 2, .int .i64 0, .int .i64 1, .int .i64 2, .int .i64 0] 41)).alloc (.cells #[.int .i64 3, .slice (some ⟨w.heap.size, 0, none⟩) 3 3] 24)).alloc (.cells #[.int .i64 0, .int .i64 1, .int .i64 2] 3)) (.slice (some ⟨w.heap.size + 1 + 1, 0, none⟩) 3 3) [0, 1, 2] := by rw [← hs2]; exact Blk.ints (l := [0, 1, 2]) (t := 3) (heap_alloc_new _ _)
  have hgr := greedy_any 3 exT ex_right [0, 1, 2] ex_ord _ _ _ (HE2.out.go hbA) hO
  rw [ex_greedy] at hgr
  have HE3 : Hid (Edges (((w.alloc (.cells #[.int .i64 0, .int .i64 1, .int .i64 0, .int .i64 0, .int .i64 2, .int .i64 0, .int .i64 1, .int .i64 2, .int .i64 0] 41)).alloc (.cells #[.int .i64 3, .slice (some ⟨w.heap.size, 0, none⟩) 3 3] 24)).alloc (.cells #[.int .i64 0, .int .i64 1, .int .i64 2] 3)).heap.size (((w.alloc (.cells #[.int .i64 0, .int .i64 1, .int .i64 0, .int .i64 0, .int .i64 2, .int .i64 0, .int .i64 1, .int .i64 2, .int .i64 0] 41)).alloc (.cells #[.int .i64 3, .slice (some ⟨w.heap.size, 0, none⟩) 3 3] 24)).alloc (.cells #[.int .i64 0, .int .i64 1, .int .i64 2] 3)) (.slice (some ⟨w.heap.size, 0, none⟩) 3 3) exT) := HE2.out.go hbA
  have HG3 : Hid (Blk 24 (((w.alloc (.cells #[.int .i64 0, .int .i64 1, .int .i64 0, .int .i64 0, .int .i64 2, .int .i64 0, .int .i64 1, .int .i64 2, .int .i64 0] 41)).alloc (.cells #[.int .i64 3, .slice (some ⟨w.heap.size, 0, none⟩) 3 3] 24)).alloc (.cells #[.int .i64 0, .int .i64 1, .int .i64 2] 3)) (w.heap.size + 1) [.int .i64 3, .slice (some ⟨w.heap.size, 0, none⟩) 3 3]) := HG.out.go hbA
  have HB3 : Hid (Below w.heap.size w (((w.alloc (.cells #[.int .i64 0, .int .i64 1, .int .i64 0, .int .i64 0, .int .i64 2, .int .i64 0, .int .i64 1, .int .i64 2, .int .i64 0] 41)).alloc (.cells #[.int .i64 3, .slice (some ⟨w.heap.size, 0, none⟩) 3 3] 24)).alloc (.cells #[.int .i64 0, .int .i64 1, .int .i64 2] 3))) := HB2.out.trans (hbA.mono HB2.out.size)
  clear hbA hO hs2 HE2 HG HB2
  go_enter Try.func7, Try.ntmps7
  go_wp2_with fail
  refine hgr.mono ?_
  clear hgr g0 g1
  generalize (((w.alloc (.cells #[.int .i64 0, .int .i64 1, .int .i64 0, .int .i64 0, .int .i64 2, .int .i64 0, .int .i64 1, .int .i64 2, .int .i64 0] 41)).alloc (.cells #[.int .i64 3, .slice (some ⟨w.heap.size, 0, none⟩) 3 3] 24)).alloc (.cells #[.int .i64 0, .int .i64 1, .int .i64 2] 3)) = w3 at *
  rintro e w4 ⟨gc, rfl, _, hC4, hb4⟩
  have hG4 := HG3.out.go hb4
  have g0 := hG4.cell (j := 0) rfl
  have g1 := hG4.cell (j := 1) rfl
  have hb5 : Below w4.heap.size w4 (w4.alloc (.cells #[.int .i64 1, .int .i64 2] 3)) := (Below.refl _ _).alloc (Nat.le_refl _) _
  have hb6 : Below (w4.alloc (.cells #[.int .i64 1, .int .i64 2] 3)).heap.size (w4.alloc (.cells #[.int .i64 1, .int .i64 2] 3)) ((w4.alloc (.cells #[.int .i64 1, .int .i64 2] 3)).alloc (.cells #[.int .i64 2, .int .i64 0] 3)) := (Below.refl _ _).alloc (Nat.le_refl _) _
  have hb7 : Below ((w4.alloc (.cells #[.int .i64 1, .int .i64 2] 3)).alloc (.cells #[.int .i64 2, .int .i64 0] 3)).heap.size ((w4.alloc (.cells #[.int .i64 1, .int .i64 2] 3)).alloc (.cells #[.int .i64 2, .int .i64 0] 3)) (((w4.alloc (.cells #[.int .i64 1, .int .i64 2] 3)).alloc (.cells #[.int .i64 2, .int .i64 0] 3)).alloc (.cells #[.int .i64 0, .int .i64 1] 3)) := (Below.refl _ _).alloc (Nat.le_refl _) _
  have hb8 : Below (((w4.alloc (.cells #[.int .i64 1, .int .i64 2] 3)).alloc (.cells #[.int .i64 2, .int .i64 0] 3)).alloc (.cells #[.int .i64 0, .int .i64 1] 3)).heap.size (((w4.alloc (.cells #[.int .i64 1, .int .i64 2] 3)).alloc (.cells #[.int .i64 2, .int .i64 0] 3)).alloc (.cells #[.int .i64 0, .int .i64 1] 3)) ((((w4.alloc (.cells #[.int .i64 1, .int .i64 2] 3)).alloc (.cells #[.int .i64 2, .int .i64 0] 3)).alloc (.cells #[.int .i64 0, .int .i64 1] 3)).alloc (.cells #[.slice (some ⟨w4.heap.size, 0, none⟩) 2 2, .slice (some ⟨w4.heap.size + 1, 0, none⟩) 2 2, .slice (some ⟨w4.heap.size + 1 + 1, 0, none⟩) 2 2] 25)) := (Below.refl _ _).alloc (Nat.le_refl _) _
  have hs5 : (w4.alloc (.cells #[.int .i64 1, .int .i64 2] 3)).heap.size = w4.heap.size + 1 := by simp
  have hs6 : ((w4.alloc (.cells #[.int .i64 1, .int .i64 2] 3)).alloc (.cells #[.int .i64 2, .int .i64 0] 3)).heap.size = w4.heap.size + 1 + 1 := by simp
  have hs7 : (((w4.alloc (.cells #[.int .i64 1, .int .i64 2] 3)).alloc (.cells #[.int .i64 2, .int .i64 0] 3)).alloc (.cells #[.int .i64 0, .int .i64 1] 3)).heap.size = w4.heap.size + 1 + 1 + 1 := by simp
  have h1 : Blk 3 (w4.alloc (.cells #[.int .i64 1, .int .i64 2] 3)) w4.heap.size ([1, 2].map (Value.int .i64)) := heap_alloc_new _ _
  have h2 : Blk 3 ((w4.alloc (.cells #[.int .i64 1, .int .i64 2] 3)).alloc (.cells #[.int .i64 2, .int .i64 0] 3)) (w4.alloc (.cells #[.int .i64 1, .int .i64 2] 3)).heap.size ([2, 0].map (Value.int .i64)) := heap_alloc_new _ _
  have h3 : Blk 3 (((w4.alloc (.cells #[.int .i64 1, .int .i64 2] 3)).alloc (.cells #[.int .i64 2, .int .i64 0] 3)).alloc (.cells #[.int .i64 0, .int .i64 1] 3)) ((w4.alloc (.cells #[.int .i64 1, .int .i64 2] 3)).alloc (.cells #[.int .i64 2, .int .i64 0] 3)).heap.size ([0, 1].map (Value.int .i64)) := heap_alloc_new _ _
  have h4 : Blk 25 ((((w4.alloc (.cells #[.int .i64 1, .int .i64 2] 3)).alloc (.cells #[.int .i64 2, .int .i64 0] 3)).alloc (.cells #[.int .i64 0, .int .i64 1] 3)).alloc (.cells #[.slice (some ⟨w4.heap.size, 0, none⟩) 2 2, .slice (some ⟨w4.heap.size + 1, 0, none⟩) 2 2, .slice (some ⟨w4.heap.size + 1 + 1, 0, none⟩) 2 2] 25)) (((w4.alloc (.cells #[.int .i64 1, .int .i64 2] 3)).alloc (.cells #[.int .i64 2, .int .i64 0] 3)).alloc (.cells #[.int .i64 0, .int .i64 1] 3)).heap.size [.slice (some ⟨w4.heap.size, 0, none⟩) 2 2, .slice (some ⟨w4.heap.size + 1, 0, none⟩) 2 2, .slice (some ⟨w4.heap.size + 1 + 1, 0, none⟩) 2 2] := heap_alloc_new _ _
  rw [hs5] at h2
  rw [hs6] at h3
  rw [hs7] at h4
  have i1 := ((h1.go hb6).go hb7).go hb8
  have i2 := (h2.go hb7).go hb8
  have i3 := h3.go hb8
  have hLs : Lsts ((((w4.alloc (.cells #[.int .i64 1, .int .i64 2] 3)).alloc (.cells #[.int .i64 2, .int .i64 0] 3)).alloc (.cells #[.int .i64 0, .int .i64 1] 3)).alloc (.cells #[.slice (some ⟨w4.heap.size, 0, none⟩) 2 2, .slice (some ⟨w4.heap.size + 1, 0, none⟩) 2 2, .slice (some ⟨w4.heap.size + 1 + 1, 0, none⟩) 2 2] 25)).heap.size ((((w4.alloc (.cells #[.int .i64 1, .int .i64 2] 3)).alloc (.cells #[.int .i64 2, .int .i64 0] 3)).alloc (.cells #[.int .i64 0, .int .i64 1] 3)).alloc (.cells #[.slice (some ⟨w4.heap.size, 0, none⟩) 2 2, .slice (some ⟨w4.heap.size + 1, 0, none⟩) 2 2, .slice (some ⟨w4.heap.size + 1 + 1, 0, none⟩) 2 2] 25)) (.slice (some ⟨w4.heap.size + 1 + 1 + 1, 0, none⟩) 3 3) exR := by
    refine .inr ⟨_, 0, 3, rfl, h4.lt, Nat.le_refl _, fun j x hx => ?_⟩
    match j, hx with
    | 0, hx => cases hx; exact ⟨_, h4.cell (j := 0) rfl, i1.ints⟩
    | 1, hx => cases hx; exact ⟨_, h4.cell (j := 1) rfl, i2.ints⟩
    | 2, hx => cases hx; exact ⟨_, h4.cell (j := 2) rfl, i3.ints⟩
    | j + 3, hx => exact absurd (List.getElem?_eq_some_iff.1 hx).1 (by simp [exR])
  have hbw : Below w4.heap.size w4 ((((w4.alloc (.cells #[.int .i64 1, .int .i64 2] 3)).alloc (.cells #[.int .i64 2, .int .i64 0] 3)).alloc (.cells #[.int .i64 0, .int .i64 1] 3)).alloc (.cells #[.slice (some ⟨w4.heap.size, 0, none⟩) 2 2, .slice (some ⟨w4.heap.size + 1, 0, none⟩) 2 2, .slice (some ⟨w4.heap.size + 1 + 1, 0, none⟩) 2 2] 25)) := ((hb5.trans (hb6.mono hb5.size)).trans (hb7.mono (by omega))).trans (hb8.mono (by omega))
  have hfv := five_few 3 (by omega) exT ex_right ex_few exR ex_sys (by rw [ex_nums]; rfl) _ _ _ ((HE3.out.go hb4).go hbw) hLs
  have HE8 : Hid (Edges ((((w4.alloc (.cells #[.int .i64 1, .int .i64 2] 3)).alloc (.cells #[.int .i64 2, .int .i64 0] 3)).alloc (.cells #[.int .i64 0, .int .i64 1] 3)).alloc (.cells #[.slice (some ⟨w4.heap.size, 0, none⟩) 2 2, .slice (some ⟨w4.heap.size + 1, 0, none⟩) 2 2, .slice (some ⟨w4.heap.size + 1 + 1, 0, none⟩) 2 2] 25)).heap.size ((((w4.alloc (.cells #[.int .i64 1, .int .i64 2] 3)).alloc (.cells #[.int .i64 2, .int .i64 0] 3)).alloc (.cells #[.int .i64 0, .int .i64 1] 3)).alloc (.cells #[.slice (some ⟨w4.heap.size, 0, none⟩) 2 2, .slice (some ⟨w4.heap.size + 1, 0, none⟩) 2 2, .slice (some ⟨w4.heap.size + 1 + 1, 0, none⟩) 2 2] 25)) (.slice (some ⟨w.heap.size, 0, none⟩) 3 3) exT) := (HE3.out.go hb4).go hbw
  have HG8 : Hid (Blk 24 ((((w4.alloc (.cells #[.int .i64 1, .int .i64 2] 3)).alloc (.cells #[.int .i64 2, .int .i64 0] 3)).alloc (.cells #[.int .i64 0, .int .i64 1] 3)).alloc (.cells #[.slice (some ⟨w4.heap.size, 0, none⟩) 2 2, .slice (some ⟨w4.heap.size + 1, 0, none⟩) 2 2, .slice (some ⟨w4.heap.size + 1 + 1, 0, none⟩) 2 2] 25)) (w.heap.size + 1) [.int .i64 3, .slice (some ⟨w.heap.size, 0, none⟩) 3 3]) := hG4.go hbw
  have HC8 : Hid (Blk 3 ((((w4.alloc (.cells #[.int .i64 1, .int .i64 2] 3)).alloc (.cells #[.int .i64 2, .int .i64 0] 3)).alloc (.cells #[.int .i64 0, .int .i64 1] 3)).alloc (.cells #[.slice (some ⟨w4.heap.size, 0, none⟩) 2 2, .slice (some ⟨w4.heap.size + 1, 0, none⟩) 2 2, .slice (some ⟨w4.heap.size + 1 + 1, 0, none⟩) 2 2] 25)) gc ([0, 1, 2].map (Value.int .i64))) := hC4.go hbw
  have HB8 : Hid (Below w.heap.size w ((((w4.alloc (.cells #[.int .i64 1, .int .i64 2] 3)).alloc (.cells #[.int .i64 2, .int .i64 0] 3)).alloc (.cells #[.int .i64 0, .int .i64 1] 3)).alloc (.cells #[.slice (some ⟨w4.heap.size, 0, none⟩) 2 2, .slice (some ⟨w4.heap.size + 1, 0, none⟩) 2 2, .slice (some ⟨w4.heap.size + 1 + 1, 0, none⟩) 2 2] 25))) := (HB3.out.trans (hb4.mono HB3.out.size)).trans (hbw.mono (HB3.out.trans (hb4.mono HB3.out.size)).size)
  clear hb5 hb6 hb7 hb8 hs5 hs6 hs7 h1 h2 h3 h4 i1 i2 i3 hLs hbw hC4 hb4 hG4 HE3 HG3 HB3
  go_wp2_with fail
  refine hfv.mono ?_
  clear hfv g0 g1
  generalize ((((w4.alloc (.cells #[.int .i64 1, .int .i64 2] 3)).alloc (.cells #[.int .i64 2, .int .i64 0] 3)).alloc (.cells #[.int .i64 0, .int .i64 1] 3)).alloc (.cells #[.slice (some ⟨w4.heap.size, 0, none⟩) 2 2, .slice (some ⟨w4.heap.size + 1, 0, none⟩) 2 2, .slice (some ⟨w4.heap.size + 1 + 1, 0, none⟩) 2 2] 25)) = w8 at *
  rintro e w9 ⟨gd, C, rfl, hD9, hCl, hchk, hb9⟩
  have hG9 := HG8.out.go hb9
  have hE9 := HE8.out.go hb9
  have hC9 := HC8.out.go hb9
  have hbw9 := HB8.out.trans (hb9.mono HB8.out.size)
  have hbA : Below w9.heap.size w9 (w9.alloc (.cells #[.int .i64 0, .int .i64 1, .int .i64 2] 3)) := (Below.refl _ _).alloc (Nat.le_refl _) _
  have hO : Ints (w9.alloc (.cells #[.int .i64 0, .int .i64 1, .int .i64 2] 3)).heap.size (w9.alloc (.cells #[.int .i64 0, .int .i64 1, .int .i64 2] 3)) (.slice (some ⟨w9.heap.size, 0, none⟩) 3 3) [0, 1, 2] := Blk.ints (l := [0, 1, 2]) (t := 3) (heap_alloc_new _ _)
  have hri := refInts_any [0, 1, 2] [0, 1, 2] (by decide) _ _ _ (Blk.ints (l := [0, 1, 2]) (hC9.go hbA)) hO
  have HE10 : Hid _ := hE9.go hbA
  have HG10 : Hid _ := hG9.go hbA
  have HD10 : Hid _ := hD9.go hbA
  have HB10 : Hid (Below w.heap.size w (w9.alloc (.cells #[.int .i64 0, .int .i64 1, .int .i64 2] 3))) := hbw9.trans (hbA.mono hbw9.size)
  have HCK : Hid (chkK ((3 : Nat) : Int) exT C 5 = 0) := hchk
  have HCL : Hid (C.length = 3) := hCl
  clear hG9 hE9 hC9 hbw9 hbA hO hD9 hb9 hchk hCl HE8 HG8 HC8 HB8
  go_wp2_with fail
  refine hri.mono ?_
  clear hri
  generalize (w9.alloc (.cells #[.int .i64 0, .int .i64 1, .int .i64 2] 3)) = w10 at *
  rintro e w11 ⟨rfl, hg11⟩
  have hG11 := Blk.go (t := 24) (vs := [.int .i64 3, .slice (some ⟨w.heap.size, 0, none⟩) 3 3]) HG10.out hg11.below
  have hE11 := Edges.go HE10.out hg11.below
  have hD11 := Blk.go (t := 3) (vs := C.map (Value.int .i64)) HD10.out hg11.below
  have HB11 : Hid (Below w.heap.size w w11) := HB10.out.trans (hg11.below.mono HB10.out.size)
  have g0 := hG11.cell (j := 0) rfl
  have g1 := hG11.cell (j := 1) rfl
  have hID : Ints w11.heap.size w11 (.slice (some ⟨gd, 0, none⟩) 3 3) C := by have h := Blk.ints hD11; rw [HCL.out] at h; exact h
  have hck := check_any ((3 : Nat) : Int) exT C (by rw [HCL.out]; omega) 5 _ _ w11 hE11 hID
  rw [HCK.out] at hck
  clear hD11 hID hg11 HE10 HG10 HD10 HB10
  simp only [decide_true]
  go_wp2_with fail
  refine hck.mono ?_
  clear hck g0 g1
  rintro e w12 ⟨rfl, hg12⟩
  have hG12 := hG11.go hg12.below
  have hE12 := hE11.go hg12.below
  have HB12 : Hid (Below w.heap.size w w12) := HB11.out.trans (hg12.below.mono HB11.out.size)
  have g0 := hG12.cell (j := 0) rfl
  have g1 := hG12.cell (j := 1) rfl
  have hbZ : Below w12.heap.size w12 (w12.alloc (.cells #[.int .i64 0, .int .i64 0, .int .i64 1] 3)) := (Below.refl _ _).alloc (Nat.le_refl _) _
  have hO2 : Ints (w12.alloc (.cells #[.int .i64 0, .int .i64 0, .int .i64 1] 3)).heap.size (w12.alloc (.cells #[.int .i64 0, .int .i64 0, .int .i64 1] 3)) (.slice (some ⟨w12.heap.size, 0, none⟩) 3 3) [0, 0, 1] := Blk.ints (l := [0, 0, 1]) (t := 3) (heap_alloc_new _ _)
  have hck := check_any ((3 : Nat) : Int) exT [0, 0, 1] (by decide) 5 _ _ _ (hE12.go hbZ) hO2
  rw [ex_bad] at hck
  have HBZ : Hid (Below w.heap.size w (w12.alloc (.cells #[.int .i64 0, .int .i64 0, .int .i64 1] 3))) := HB12.out.trans (hbZ.mono HB12.out.size)
  clear hG12 hE12 hbZ hO2 hG11 hE11 hg12 HB12
  go_wp2_with fail
  refine hck.mono ?_
  clear hck g0 g1
  generalize (w12.alloc (.cells #[.int .i64 0, .int .i64 0, .int .i64 1] 3)) = w13 at *
  rintro e w14 ⟨rfl, hg14⟩
  have HB14 : Hid (Below w.heap.size w w14) := HBZ.out.trans (hg14.below.mono HBZ.out.size)
  clear hg14
  go_wp2
  go_ret
  exact ⟨rfl, HB14.out⟩
end Go.Proofs.Yteekhofollaooaa
