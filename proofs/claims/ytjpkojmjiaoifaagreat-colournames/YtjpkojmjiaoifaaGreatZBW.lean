import Derived.Test.YtjpkojmjiaoifaaGreatZBU
import Derived.Test.YtjpkojmjiaoifaaGreatZBV
import Derived.Test.YtjpkojmjiaoifaaGreatZBN
import Derived.BigQuiet
namespace Go.Proofs.YtjpkojmjiaoifaaGreat
open Go Go.Proofs Go.RowKit
theorem ex_ord : Ord [0, 1, 2] ((3 : Nat) : Int) := (ordB_iff _ _).1 (by decide)
theorem ex_greedy : (grA 3 exT (mostN (nearL 3 exT)) [0, 1, 2]).1 = [0, 1, 2] := by kernel_rfl
theorem ex_bad : chkK ((3 : Nat) : Int) exT [0, 0, 1] 5 = 13 := by kernel_rfl
set_option maxRecDepth 100000 in
set_option maxHeartbeats 8000000 in
theorem alive_any (w : World) : Calls Tryz.prog 6 #[] w fun e w' => e = .returned (.bool true) ∧ Below w.heap.size w w' := by
 have hB : Blk 37 (w.alloc (.cells #[.int .i64 0, .int .i64 1, .int .i64 0, .int .i64 0, .int .i64 2, .int .i64 0, .int .i64 1, .int .i64 2, .int .i64 0] 37)) w.heap.size (flat exT) := heap_alloc_new w _
 have hb1 : Below w.heap.size w (w.alloc (.cells #[.int .i64 0, .int .i64 1, .int .i64 0, .int .i64 0, .int .i64 2, .int .i64 0, .int .i64 1, .int .i64 2, .int .i64 0] 37)) := (Below.refl _ _).alloc (Nat.le_refl _) _
 have hs1 : (w.alloc (.cells #[.int .i64 0, .int .i64 1, .int .i64 0, .int .i64 0, .int .i64 2, .int .i64 0, .int .i64 1, .int .i64 2, .int .i64 0] 37)).heap.size = w.heap.size + 1 := by simp
 have hb2 : Below (w.alloc (.cells #[.int .i64 0, .int .i64 1, .int .i64 0, .int .i64 0, .int .i64 2, .int .i64 0, .int .i64 1, .int .i64 2, .int .i64 0] 37)).heap.size (w.alloc (.cells #[.int .i64 0, .int .i64 1, .int .i64 0, .int .i64 0, .int .i64 2, .int .i64 0, .int .i64 1, .int .i64 2, .int .i64 0] 37)) ((w.alloc (.cells #[.int .i64 0, .int .i64 1, .int .i64 0, .int .i64 0, .int .i64 2, .int .i64 0, .int .i64 1, .int .i64 2, .int .i64 0] 37)).alloc (.cells #[.int .i64 3, .slice (some ⟨w.heap.size, 0, none⟩) 3 3] 24)) := (Below.refl _ _).alloc (Nat.le_refl _) _
 have hG : Blk 24 ((w.alloc (.cells #[.int .i64 0, .int .i64 1, .int .i64 0, .int .i64 0, .int .i64 2, .int .i64 0, .int .i64 1, .int .i64 2, .int .i64 0] 37)).alloc (.cells #[.int .i64 3, .slice (some ⟨w.heap.size, 0, none⟩) 3 3] 24)) (w.alloc (.cells #[.int .i64 0, .int .i64 1, .int .i64 0, .int .i64 0, .int .i64 2, .int .i64 0, .int .i64 1, .int .i64 2, .int .i64 0] 37)).heap.size [.int .i64 3, .slice (some ⟨w.heap.size, 0, none⟩) 3 3] := heap_alloc_new _ _
 rw [hs1] at hG
 have hE2 : Edges ((w.alloc (.cells #[.int .i64 0, .int .i64 1, .int .i64 0, .int .i64 0, .int .i64 2, .int .i64 0, .int .i64 1, .int .i64 2, .int .i64 0] 37)).alloc (.cells #[.int .i64 3, .slice (some ⟨w.heap.size, 0, none⟩) 3 3] 24)).heap.size ((w.alloc (.cells #[.int .i64 0, .int .i64 1, .int .i64 0, .int .i64 0, .int .i64 2, .int .i64 0, .int .i64 1, .int .i64 2, .int .i64 0] 37)).alloc (.cells #[.int .i64 3, .slice (some ⟨w.heap.size, 0, none⟩) 3 3] 24)) (.slice (some ⟨w.heap.size, 0, none⟩) 3 3) exT := (Blk.edges (l := exT) hB).go hb2
 have hbw2 : Below w.heap.size w ((w.alloc (.cells #[.int .i64 0, .int .i64 1, .int .i64 0, .int .i64 0, .int .i64 2, .int .i64 0, .int .i64 1, .int .i64 2, .int .i64 0] 37)).alloc (.cells #[.int .i64 3, .slice (some ⟨w.heap.size, 0, none⟩) 3 3] 24)) := hb1.trans (hb2.mono hb1.size)
 have HG : Hid (Blk 24 ((w.alloc (.cells #[.int .i64 0, .int .i64 1, .int .i64 0, .int .i64 0, .int .i64 2, .int .i64 0, .int .i64 1, .int .i64 2, .int .i64 0] 37)).alloc (.cells #[.int .i64 3, .slice (some ⟨w.heap.size, 0, none⟩) 3 3] 24)) (w.heap.size + 1) [.int .i64 3, .slice (some ⟨w.heap.size, 0, none⟩) 3 3]) := hG
 have HE2 : Hid (Edges ((w.alloc (.cells #[.int .i64 0, .int .i64 1, .int .i64 0, .int .i64 0, .int .i64 2, .int .i64 0, .int .i64 1, .int .i64 2, .int .i64 0] 37)).alloc (.cells #[.int .i64 3, .slice (some ⟨w.heap.size, 0, none⟩) 3 3] 24)).heap.size ((w.alloc (.cells #[.int .i64 0, .int .i64 1, .int .i64 0, .int .i64 0, .int .i64 2, .int .i64 0, .int .i64 1, .int .i64 2, .int .i64 0] 37)).alloc (.cells #[.int .i64 3, .slice (some ⟨w.heap.size, 0, none⟩) 3 3] 24)) (.slice (some ⟨w.heap.size, 0, none⟩) 3 3) exT) := hE2
 have HB2 : Hid (Below w.heap.size w ((w.alloc (.cells #[.int .i64 0, .int .i64 1, .int .i64 0, .int .i64 0, .int .i64 2, .int .i64 0, .int .i64 1, .int .i64 2, .int .i64 0] 37)).alloc (.cells #[.int .i64 3, .slice (some ⟨w.heap.size, 0, none⟩) 3 3] 24))) := hbw2
 have g0 := hG.cell (j := 0) rfl
 have g1 := hG.cell (j := 1) rfl
 clear hB hb1 hs1 hb2 hG hE2 hbw2
 have hs2 : ((w.alloc (.cells #[.int .i64 0, .int .i64 1, .int .i64 0, .int .i64 0, .int .i64 2, .int .i64 0, .int .i64 1, .int .i64 2, .int .i64 0] 37)).alloc (.cells #[.int .i64 3, .slice (some ⟨w.heap.size, 0, none⟩) 3 3] 24)).heap.size = w.heap.size + 1 + 1 := by simp
 have hbA : Below ((w.alloc (.cells #[.int .i64 0, .int .i64 1, .int .i64 0, .int .i64 0, .int .i64 2, .int .i64 0, .int .i64 1, .int .i64 2, .int .i64 0] 37)).alloc (.cells #[.int .i64 3, .slice (some ⟨w.heap.size, 0, none⟩) 3 3] 24)).heap.size ((w.alloc (.cells #[.int .i64 0, .int .i64 1, .int .i64 0, .int .i64 0, .int .i64 2, .int .i64 0, .int .i64 1, .int .i64 2, .int .i64 0] 37)).alloc (.cells #[.int .i64 3, .slice (some ⟨w.heap.size, 0, none⟩) 3 3] 24)) (((w.alloc (.cells #[.int .i64 0, .int .i64 1, .int .i64 0, .int .i64 0, .int .i64 2, .int .i64 0, .int .i64 1, .int .i64 2, .int .i64 0] 37)).alloc (.cells #[.int .i64 3, .slice (some ⟨w.heap.size, 0, none⟩) 3 3] 24)).alloc (.cells #[.int .i64 0, .int .i64 1, .int .i64 2] 3)) := (Below.refl _ _).alloc (Nat.le_refl _) _
 have hO : Ints (((w.alloc (.cells #[.int .i64 0, .int .i64 1, .int .i64 0, .int .i64 0, .int .i64 2, .int .i64 0, .int .i64 1, .int .i64 2, .int .i64 0] 37)).alloc (.cells #[.int .i64 3, .slice (some ⟨w.heap.size, 0, none⟩) 3 3] 24)).alloc (.cells #[.int .i64 0, .int .i64 1, .int .i64 2] 3)).heap.size (((w.alloc (.cells #[.int .i64 0, .int .i64 1, .int .i64 0, .int .i64 0, .int .i64 2, .int .i64 0, .int .i64 1, .int .i64 2, .int .i64 0] 37)).alloc (.cells #[.int .i64 3, .slice (some ⟨w.heap.size, 0, none⟩) 3 3] 24)).alloc (.cells #[.int .i64 0, .int .i64 1, .int .i64 2] 3)) (.slice (some ⟨w.heap.size + 1 + 1, 0, none⟩) 3 3) [0, 1, 2] := by rw [← hs2]; exact Blk.ints (l := [0, 1, 2]) (t := 3) (heap_alloc_new _ _)
 have hgr := greedy_any 3 exT ex_right [0, 1, 2] ex_ord _ _ _ (HE2.out.go hbA) hO
 rw [ex_greedy] at hgr
 have HE3 : Hid (Edges (((w.alloc (.cells #[.int .i64 0, .int .i64 1, .int .i64 0, .int .i64 0, .int .i64 2, .int .i64 0, .int .i64 1, .int .i64 2, .int .i64 0] 37)).alloc (.cells #[.int .i64 3, .slice (some ⟨w.heap.size, 0, none⟩) 3 3] 24)).alloc (.cells #[.int .i64 0, .int .i64 1, .int .i64 2] 3)).heap.size (((w.alloc (.cells #[.int .i64 0, .int .i64 1, .int .i64 0, .int .i64 0, .int .i64 2, .int .i64 0, .int .i64 1, .int .i64 2, .int .i64 0] 37)).alloc (.cells #[.int .i64 3, .slice (some ⟨w.heap.size, 0, none⟩) 3 3] 24)).alloc (.cells #[.int .i64 0, .int .i64 1, .int .i64 2] 3)) (.slice (some ⟨w.heap.size, 0, none⟩) 3 3) exT) := HE2.out.go hbA
 have HG3 : Hid (Blk 24 (((w.alloc (.cells #[.int .i64 0, .int .i64 1, .int .i64 0, .int .i64 0, .int .i64 2, .int .i64 0, .int .i64 1, .int .i64 2, .int .i64 0] 37)).alloc (.cells #[.int .i64 3, .slice (some ⟨w.heap.size, 0, none⟩) 3 3] 24)).alloc (.cells #[.int .i64 0, .int .i64 1, .int .i64 2] 3)) (w.heap.size + 1) [.int .i64 3, .slice (some ⟨w.heap.size, 0, none⟩) 3 3]) := HG.out.go hbA
 have HB3 : Hid (Below w.heap.size w (((w.alloc (.cells #[.int .i64 0, .int .i64 1, .int .i64 0, .int .i64 0, .int .i64 2, .int .i64 0, .int .i64 1, .int .i64 2, .int .i64 0] 37)).alloc (.cells #[.int .i64 3, .slice (some ⟨w.heap.size, 0, none⟩) 3 3] 24)).alloc (.cells #[.int .i64 0, .int .i64 1, .int .i64 2] 3))) := HB2.out.trans (hbA.mono HB2.out.size)
 clear hbA hO hs2 HE2 HG HB2
 go_enter Tryz.func6, Tryz.ntmps6
 go_wp2_with fail
 refine hgr.mono ?_
 clear hgr g0 g1
 generalize (((w.alloc (.cells #[.int .i64 0, .int .i64 1, .int .i64 0, .int .i64 0, .int .i64 2, .int .i64 0, .int .i64 1, .int .i64 2, .int .i64 0] 37)).alloc (.cells #[.int .i64 3, .slice (some ⟨w.heap.size, 0, none⟩) 3 3] 24)).alloc (.cells #[.int .i64 0, .int .i64 1, .int .i64 2] 3)) = w3 at *
 rintro e w4 ⟨gc, rfl, _, hC4, hb4⟩
 have hG4 := HG3.out.go hb4
 have g0 := hG4.cell (j := 0) rfl
 have g1 := hG4.cell (j := 1) rfl
 have hb5 : Below w4.heap.size w4 (w4.alloc (.cells #[.int .i64 1, .int .i64 2] 3)) := (Below.refl _ _).alloc (Nat.le_refl _) _
 have hb6 : Below (w4.alloc (.cells #[.int .i64 1, .int .i64 2] 3)).heap.size (w4.alloc (.cells #[.int .i64 1, .int .i64 2] 3)) ((w4.alloc (.cells #[.int .i64 1, .int .i64 2] 3)).alloc (.cells #[.int .i64 2, .int .i64 0] 3)) := (Below.refl _ _).alloc (Nat.le_refl _) _
 have hb7 : Below ((w4.alloc (.cells #[.int .i64 1, .int .i64 2] 3)).alloc (.cells #[.int .i64 2, .int .i64 0] 3)).heap.size ((w4.alloc (.cells #[.int .i64 1, .int .i64 2] 3)).alloc (.cells #[.int .i64 2, .int .i64 0] 3)) (((w4.alloc (.cells #[.int .i64 1, .int .i64 2] 3)).alloc (.cells #[.int .i64 2, .int .i64 0] 3)).alloc (.cells #[.int .i64 0, .int .i64 1] 3)) := (Below.refl _ _).alloc (Nat.le_refl _) _
 have hb8 : Below (((w4.alloc (.cells #[.int .i64 1, .int .i64 2] 3)).alloc (.cells #[.int .i64 2, .int .i64 0] 3)).alloc (.cells #[.int .i64 0, .int .i64 1] 3)).heap.size (((w4.alloc (.cells #[.int .i64 1, .int .i64 2] 3)).alloc (.cells #[.int .i64 2, .int .i64 0] 3)).alloc (.cells #[.int .i64 0, .int .i64 1] 3)) ((((w4.alloc (.cells #[.int .i64 1, .int .i64 2] 3)).alloc (.cells #[.int .i64 2, .int .i64 0] 3)).alloc (.cells #[.int .i64 0, .int .i64 1] 3)).alloc (.cells #[.slice (some ⟨w4.heap.size, 0, none⟩) 2 2, .slice (some ⟨w4.heap.size + 1, 0, none⟩) 2 2, .slice (some ⟨w4.heap.size + 1 + 1, 0, none⟩) 2 2] 28)) := (Below.refl _ _).alloc (Nat.le_refl _) _
 have hs5 : (w4.alloc (.cells #[.int .i64 1, .int .i64 2] 3)).heap.size = w4.heap.size + 1 := by simp
 have hs6 : ((w4.alloc (.cells #[.int .i64 1, .int .i64 2] 3)).alloc (.cells #[.int .i64 2, .int .i64 0] 3)).heap.size = w4.heap.size + 1 + 1 := by simp
 have hs7 : (((w4.alloc (.cells #[.int .i64 1, .int .i64 2] 3)).alloc (.cells #[.int .i64 2, .int .i64 0] 3)).alloc (.cells #[.int .i64 0, .int .i64 1] 3)).heap.size = w4.heap.size + 1 + 1 + 1 := by simp
 have h1 : Blk 3 (w4.alloc (.cells #[.int .i64 1, .int .i64 2] 3)) w4.heap.size ([1, 2].map (Value.int .i64)) := heap_alloc_new _ _
 have h2 : Blk 3 ((w4.alloc (.cells #[.int .i64 1, .int .i64 2] 3)).alloc (.cells #[.int .i64 2, .int .i64 0] 3)) (w4.alloc (.cells #[.int .i64 1, .int .i64 2] 3)).heap.size ([2, 0].map (Value.int .i64)) := heap_alloc_new _ _
 have h3 : Blk 3 (((w4.alloc (.cells #[.int .i64 1, .int .i64 2] 3)).alloc (.cells #[.int .i64 2, .int .i64 0] 3)).alloc (.cells #[.int .i64 0, .int .i64 1] 3)) ((w4.alloc (.cells #[.int .i64 1, .int .i64 2] 3)).alloc (.cells #[.int .i64 2, .int .i64 0] 3)).heap.size ([0, 1].map (Value.int .i64)) := heap_alloc_new _ _
 have h4 : Blk 28 ((((w4.alloc (.cells #[.int .i64 1, .int .i64 2] 3)).alloc (.cells #[.int .i64 2, .int .i64 0] 3)).alloc (.cells #[.int .i64 0, .int .i64 1] 3)).alloc (.cells #[.slice (some ⟨w4.heap.size, 0, none⟩) 2 2, .slice (some ⟨w4.heap.size + 1, 0, none⟩) 2 2, .slice (some ⟨w4.heap.size + 1 + 1, 0, none⟩) 2 2] 28)) (((w4.alloc (.cells #[.int .i64 1, .int .i64 2] 3)).alloc (.cells #[.int .i64 2, .int .i64 0] 3)).alloc (.cells #[.int .i64 0, .int .i64 1] 3)).heap.size [.slice (some ⟨w4.heap.size, 0, none⟩) 2 2, .slice (some ⟨w4.heap.size + 1, 0, none⟩) 2 2, .slice (some ⟨w4.heap.size + 1 + 1, 0, none⟩) 2 2] := heap_alloc_new _ _
 rw [hs5] at h2
 rw [hs6] at h3
 rw [hs7] at h4
 have i1 := ((h1.go hb6).go hb7).go hb8
 have i2 := (h2.go hb7).go hb8
 have i3 := h3.go hb8
 have hLs : Lsts ((((w4.alloc (.cells #[.int .i64 1, .int .i64 2] 3)).alloc (.cells #[.int .i64 2, .int .i64 0] 3)).alloc (.cells #[.int .i64 0, .int .i64 1] 3)).alloc (.cells #[.slice (some ⟨w4.heap.size, 0, none⟩) 2 2, .slice (some ⟨w4.heap.size + 1, 0, none⟩) 2 2, .slice (some ⟨w4.heap.size + 1 + 1, 0, none⟩) 2 2] 28)).heap.size ((((w4.alloc (.cells #[.int .i64 1, .int .i64 2] 3)).alloc (.cells #[.int .i64 2, .int .i64 0] 3)).alloc (.cells #[.int .i64 0, .int .i64 1] 3)).alloc (.cells #[.slice (some ⟨w4.heap.size, 0, none⟩) 2 2, .slice (some ⟨w4.heap.size + 1, 0, none⟩) 2 2, .slice (some ⟨w4.heap.size + 1 + 1, 0, none⟩) 2 2] 28)) (.slice (some ⟨w4.heap.size + 1 + 1 + 1, 0, none⟩) 3 3) exR := by
  refine .inr ⟨_, 0, 3, rfl, h4.lt, Nat.le_refl _, fun j x hx => ?_⟩
  match j, hx with
  | 0, hx => cases hx; exact ⟨_, h4.cell (j := 0) rfl, i1.ints⟩
  | 1, hx => cases hx; exact ⟨_, h4.cell (j := 1) rfl, i2.ints⟩
  | 2, hx => cases hx; exact ⟨_, h4.cell (j := 2) rfl, i3.ints⟩
  | j + 3, hx => exact absurd (List.getElem?_eq_some_iff.1 hx).1 (by simp [exR])
 have hbw : Below w4.heap.size w4 ((((w4.alloc (.cells #[.int .i64 1, .int .i64 2] 3)).alloc (.cells #[.int .i64 2, .int .i64 0] 3)).alloc (.cells #[.int .i64 0, .int .i64 1] 3)).alloc (.cells #[.slice (some ⟨w4.heap.size, 0, none⟩) 2 2, .slice (some ⟨w4.heap.size + 1, 0, none⟩) 2 2, .slice (some ⟨w4.heap.size + 1 + 1, 0, none⟩) 2 2] 28)) := ((hb5.trans (hb6.mono hb5.size)).trans (hb7.mono (by omega))).trans (hb8.mono (by omega))
 have hfv := five_any 3 (by omega) exT ex_right exR ex_sys (by rw [ex_nums]; rfl) _ _ _ ((HE3.out.go hb4).go hbw) hLs
 have HE8 : Hid (Edges ((((w4.alloc (.cells #[.int .i64 1, .int .i64 2] 3)).alloc (.cells #[.int .i64 2, .int .i64 0] 3)).alloc (.cells #[.int .i64 0, .int .i64 1] 3)).alloc (.cells #[.slice (some ⟨w4.heap.size, 0, none⟩) 2 2, .slice (some ⟨w4.heap.size + 1, 0, none⟩) 2 2, .slice (some ⟨w4.heap.size + 1 + 1, 0, none⟩) 2 2] 28)).heap.size ((((w4.alloc (.cells #[.int .i64 1, .int .i64 2] 3)).alloc (.cells #[.int .i64 2, .int .i64 0] 3)).alloc (.cells #[.int .i64 0, .int .i64 1] 3)).alloc (.cells #[.slice (some ⟨w4.heap.size, 0, none⟩) 2 2, .slice (some ⟨w4.heap.size + 1, 0, none⟩) 2 2, .slice (some ⟨w4.heap.size + 1 + 1, 0, none⟩) 2 2] 28)) (.slice (some ⟨w.heap.size, 0, none⟩) 3 3) exT) := (HE3.out.go hb4).go hbw
 have HG8 : Hid (Blk 24 ((((w4.alloc (.cells #[.int .i64 1, .int .i64 2] 3)).alloc (.cells #[.int .i64 2, .int .i64 0] 3)).alloc (.cells #[.int .i64 0, .int .i64 1] 3)).alloc (.cells #[.slice (some ⟨w4.heap.size, 0, none⟩) 2 2, .slice (some ⟨w4.heap.size + 1, 0, none⟩) 2 2, .slice (some ⟨w4.heap.size + 1 + 1, 0, none⟩) 2 2] 28)) (w.heap.size + 1) [.int .i64 3, .slice (some ⟨w.heap.size, 0, none⟩) 3 3]) := hG4.go hbw
 have HC8 : Hid (Blk 3 ((((w4.alloc (.cells #[.int .i64 1, .int .i64 2] 3)).alloc (.cells #[.int .i64 2, .int .i64 0] 3)).alloc (.cells #[.int .i64 0, .int .i64 1] 3)).alloc (.cells #[.slice (some ⟨w4.heap.size, 0, none⟩) 2 2, .slice (some ⟨w4.heap.size + 1, 0, none⟩) 2 2, .slice (some ⟨w4.heap.size + 1 + 1, 0, none⟩) 2 2] 28)) gc ([0, 1, 2].map (Value.int .i64))) := hC4.go hbw
 have HB8 : Hid (Below w.heap.size w ((((w4.alloc (.cells #[.int .i64 1, .int .i64 2] 3)).alloc (.cells #[.int .i64 2, .int .i64 0] 3)).alloc (.cells #[.int .i64 0, .int .i64 1] 3)).alloc (.cells #[.slice (some ⟨w4.heap.size, 0, none⟩) 2 2, .slice (some ⟨w4.heap.size + 1, 0, none⟩) 2 2, .slice (some ⟨w4.heap.size + 1 + 1, 0, none⟩) 2 2] 28))) := (HB3.out.trans (hb4.mono HB3.out.size)).trans (hbw.mono (HB3.out.trans (hb4.mono HB3.out.size)).size)
 clear hb5 hb6 hb7 hb8 hs5 hs6 hs7 h1 h2 h3 h4 i1 i2 i3 hLs hbw hC4 hb4 hG4 HE3 HG3 HB3
 go_wp2_with fail
 refine hfv.mono ?_
 clear hfv g0 g1
 generalize ((((w4.alloc (.cells #[.int .i64 1, .int .i64 2] 3)).alloc (.cells #[.int .i64 2, .int .i64 0] 3)).alloc (.cells #[.int .i64 0, .int .i64 1] 3)).alloc (.cells #[.slice (some ⟨w4.heap.size, 0, none⟩) 2 2, .slice (some ⟨w4.heap.size + 1, 0, none⟩) 2 2, .slice (some ⟨w4.heap.size + 1 + 1, 0, none⟩) 2 2] 28)) = w8 at *
 rintro e w9 ⟨gd, C, rfl, hD9, hCl, hchk, hb9⟩
 have hG9 := HG8.out.go hb9
 have hE9 := HE8.out.go hb9
 have hC9 := HC8.out.go hb9
 have hbw9 := HB8.out.trans (hb9.mono HB8.out.size)
 have hbA : Below w9.heap.size w9 (w9.alloc (.cells #[.int .i64 0, .int .i64 1, .int .i64 2] 3)) := (Below.refl _ _).alloc (Nat.le_refl _) _
 have hO : Ints (w9.alloc (.cells #[.int .i64 0, .int .i64 1, .int .i64 2] 3)).heap.size (w9.alloc (.cells #[.int .i64 0, .int .i64 1, .int .i64 2] 3)) (.slice (some ⟨w9.heap.size, 0, none⟩) 3 3) [0, 1, 2] := Blk.ints (l := [0, 1, 2]) (t := 3) (heap_alloc_new _ _)
 have hri := refInts_any [0, 1, 2] [0, 1, 2] (by decide) _ _ _ (Blk.ints (l := [0, 1, 2]) (hC9.go hbA)) hO
 have HE10 : Hid _ := hE9.go hbA
 have HG10 : Hid _ := hG9.go hbA
 have HD10 : Hid _ := hD9.go hbA
 have HB10 : Hid (Below w.heap.size w (w9.alloc (.cells #[.int .i64 0, .int .i64 1, .int .i64 2] 3))) := hbw9.trans (hbA.mono hbw9.size)
 have HCK : Hid (chkK ((3 : Nat) : Int) exT C 5 = 0) := hchk
 have HCL : Hid (C.length = 3) := hCl
 clear hG9 hE9 hC9 hbw9 hbA hO hD9 hb9 hchk hCl HE8 HG8 HC8 HB8
 go_wp2_with fail
 refine hri.mono ?_
 clear hri
 generalize (w9.alloc (.cells #[.int .i64 0, .int .i64 1, .int .i64 2] 3)) = w10 at *
 rintro e w11 ⟨rfl, hg11⟩
 have hG11 := Blk.go (t := 24) (vs := [.int .i64 3, .slice (some ⟨w.heap.size, 0, none⟩) 3 3]) HG10.out hg11.below
 have hE11 := Edges.go HE10.out hg11.below
 have hD11 := Blk.go (t := 3) (vs := C.map (Value.int .i64)) HD10.out hg11.below
 have HB11 : Hid (Below w.heap.size w w11) := HB10.out.trans (hg11.below.mono HB10.out.size)
 have g0 := hG11.cell (j := 0) rfl
 have g1 := hG11.cell (j := 1) rfl
 have hID : Ints w11.heap.size w11 (.slice (some ⟨gd, 0, none⟩) 3 3) C := by have h := Blk.ints hD11; rw [HCL.out] at h; exact h
 have hck := check_any ((3 : Nat) : Int) exT C (by rw [HCL.out]; omega) 5 _ _ w11 hE11 hID
 rw [HCK.out] at hck
 clear hD11 hID hg11 HE10 HG10 HD10 HB10
 simp only [decide_true]
 go_wp2_with fail
 refine hck.mono ?_
 clear hck g0 g1
 rintro e w12 ⟨rfl, hg12⟩
 have hG12 := hG11.go hg12.below
 have hE12 := hE11.go hg12.below
 have HB12 : Hid (Below w.heap.size w w12) := HB11.out.trans (hg12.below.mono HB11.out.size)
 have g0 := hG12.cell (j := 0) rfl
 have g1 := hG12.cell (j := 1) rfl
 have hbZ : Below w12.heap.size w12 (w12.alloc (.cells #[.int .i64 0, .int .i64 0, .int .i64 1] 3)) := (Below.refl _ _).alloc (Nat.le_refl _) _
 have hO2 : Ints (w12.alloc (.cells #[.int .i64 0, .int .i64 0, .int .i64 1] 3)).heap.size (w12.alloc (.cells #[.int .i64 0, .int .i64 0, .int .i64 1] 3)) (.slice (some ⟨w12.heap.size, 0, none⟩) 3 3) [0, 0, 1] := Blk.ints (l := [0, 0, 1]) (t := 3) (heap_alloc_new _ _)
 have hck := check_any ((3 : Nat) : Int) exT [0, 0, 1] (by decide) 5 _ _ _ (hE12.go hbZ) hO2
 rw [ex_bad] at hck
 have HBZ : Hid (Below w.heap.size w (w12.alloc (.cells #[.int .i64 0, .int .i64 0, .int .i64 1] 3))) := HB12.out.trans (hbZ.mono HB12.out.size)
 clear hG12 hE12 hbZ hO2 hG11 hE11 hg12 HB12
 go_wp2_with fail
 refine hck.mono ?_
 clear hck g0 g1
 generalize (w12.alloc (.cells #[.int .i64 0, .int .i64 0, .int .i64 1] 3)) = w13 at *
 rintro e w14 ⟨rfl, hg14⟩
 have HB14 : Hid (Below w.heap.size w w14) := HBZ.out.trans (hg14.below.mono HBZ.out.size)
 clear hg14
 go_wp2
 go_ret
 exact ⟨rfl, HB14.out⟩
end Go.Proofs.YtjpkojmjiaoifaaGreat

namespace Go.Proofs.YtjpkojmjiaoifaaGreat
open Go Go.Proofs Go.RowKit
theorem any_take {α : Type} {p : α → Bool} {L : List α} {j : Nat} (h : j < L.length) (h1 : (L.take j).any p = false) (h2 : p L[j] = false) : (L.take (j + 1)).any p = false := by
 rw [List.take_add_one, List.getElem?_eq_getElem h, List.any_append, h1]
 simp [h2]
theorem any_at {α : Type} {p : α → Bool} {L : List α} {j : Nat} (h : j < L.length) (h2 : p L[j] = true) : L.any p = true := List.any_eq_true.2 ⟨_, List.getElem_mem h, h2⟩
set_option maxRecDepth 100000 in
set_option maxHeartbeats 4000000 in
theorem refCheck_any (n : Int) (l : List Ed) (c : List Int) (hcl : c.length ≤ 9223372036854775807) (most : Int) (sv cv : Value) (w : World) (hl : Edges w.heap.size w sv l) (hc : Ints w.heap.size w cv c) :
  Calls Tryz.prog 9 #[.agg #[.int .i64 n, sv], cv, .int .i64 most] w fun e w' => e = .returned (.int .i64 (chkK n l c most)) ∧ Grew w w' := by
 obtain ⟨p, k, rfl⟩ := hl.len
 obtain ⟨q, d, rfl⟩ := hc.len
 have hg1 : Grew w (w.alloc (.cells #[.int .i64 n, .slice p l.length k] 24)) := (Grew.refl w).alloc _
 have hX : Blk 24 (w.alloc (.cells #[.int .i64 n, .slice p l.length k] 24)) w.heap.size [.int .i64 n, .slice p l.length k] := heap_alloc_new w _
 have q0 := hX.cell (j := 0) rfl
 have q1 := hX.cell (j := 1) rfl
 have hrc := refRight_any n l (.slice p l.length k) _ (hl.go hg1.below)
 have HL : Hid (Edges w.heap.size w (.slice p l.length k) l) := hl
 have HI : Hid (Ints w.heap.size w (.slice q c.length d) c) := hc
 have HX : Hid _ := hX
 have HG1 : Hid _ := hg1
 clear hl hc hX hg1
 go_enter Tryz.func9, Tryz.ntmps9
 go_wp2_with fail
 generalize w.alloc (.cells #[.int .i64 n, .slice p l.length k] 24) = w3 at *
 refine hrc.mono ?_
 rintro e w4 ⟨rfl, hg4⟩
 have hb4 := hg4.below
 have HX4 : Hid (Blk 24 w4 w.heap.size [.int .i64 n, .slice p l.length k]) := Blk.go HX.out hb4
 have HG4 : Hid (Grew w w4) := Grew.trans HG1.out hg4
 clear hrc hg4 hb4 HX HG1 q0 q1
 by_cases hr : rightK n l = 0
 ·have hR := right_iff.1 hr
  have hn1 := hR.n1
  have hm1 := hR.m1
  rw [hr]
  have q0 := HX4.out.cell (j := 0) rfl
  by_cases hlen : (c.length : Int) = n
  ·have hc8 : c.length ≤ 8388608 := by omega
   have HIF : Hid (chkK n l c most = if c.any (offB most) = true then 13 else if l.any (oneB c) = true then 13 else 0) := by unfold Hid chkK; rw [if_pos hr, if_pos hlen]
   have HR : Hid (RightG n l) := hR
   have HLN : Hid ((c.length : Int) = n) := hlen
   clear hr hR
   go_wp2
   clear hlen q0
   go_loop [7] (fun iv => ∃ j : Nat, j ≤ c.length ∧ iv = .int .i64 j ∧ Hid ((c.take j).any (offB most) = false)) (fun iv => c.length - (intOf iv).toNat)
   case atStart => exact ⟨0, Nat.zero_le _, rfl, by simp [Hid]⟩
   case round =>
    obtain ⟨j, hj, rfl, HA⟩ := hrel
    by_cases hlt : j < c.length
    ·have hjl : (j : Int) < (c.length : Int) := by omega
     obtain ⟨b, off, rfl, hbb, hcap, hcc⟩ := HI.out.open hlt
     have c0 := hcc w4 (Grew.below HG4.out) j hlt
     cases hv : offB most c[j] with
     | true =>
      have HE : Hid (chkK n l c most = 13) := by rw [HIF.out, any_at hlt hv]; rfl
      unfold offB at hv
      generalize c[j] = x at *
      clear hcc HA HIF
      by_cases hx : x < 0
      ·go_wp2
       go_ret
       exact ⟨by rw [HE.out]; rfl, HG4.out⟩
      ·have hx2 : most ≤ x := by simpa [hx] using hv
       clear hv
       go_wp2
       go_ret
       exact ⟨by rw [HE.out]; rfl, HG4.out⟩
     | false =>
      have HA2 : Hid ((c.take (j + 1)).any (offB most) = false) := any_take hlt HA.out hv
      unfold offB at hv
      have hx : ¬ c[j] < 0 ∧ ¬ most ≤ c[j] := by simpa using hv
      obtain ⟨hx1, hx2⟩ := hx
      generalize c[j] = x at *
      clear hcc HA hv
      go_wp2
      exact ⟨⟨j + 1, by omega, by go_num, HA2⟩, by simp [intOf]; omega⟩
    ·obtain rfl : j = c.length := by omega
     have hjl : ¬ (c.length : Int) < (c.length : Int) := by omega
     have ha : c.any (offB most) = false := by have := HA.out; rwa [List.take_length] at this
     have HIF2 : Hid (chkK n l c most = if l.any (oneB c) = true then 13 else 0) := by rw [HIF.out, ha]; rfl
     clear HA ha HIF
     go_wp2
     go_loopw [8] (fun iv wr => ∃ j : Nat, j ≤ l.length ∧ iv = .int .i64 j ∧ Hid ((l.take j).any (oneB c) = false) ∧ Grew w4 wr) (fun iv _ => l.length - (intOf iv).toNat)
     case atStart => exact ⟨0, Nat.zero_le _, rfl, by simp [Hid], Grew.refl _⟩
     case round =>
      obtain ⟨j, hj, rfl, HA, hg⟩ := hrel
      have x1 := (Blk.go HX4.out hg.below).cell (j := 1) rfl
      have HG : Hid (Grew w wr) := Grew.trans HG4.out hg
      by_cases hlt : j < l.length
      ·have hjl : (j : Int) < (l.length : Int) := by omega
       obtain ⟨b, off, rfl, hbb, hcap, hcc, -⟩ := HL.out.open hlt
       obtain ⟨c0, c1, c2⟩ := hcc wr (Grew.below HG.out) j hlt
       have hok := (HR.out.each l[j] (List.getElem_mem hlt)).1
       unfold okE at hok
       obtain ⟨u, hu⟩ : ∃ u : Nat, l[j].1 = (u : Int) := ⟨l[j].1.toNat, by omega⟩
       obtain ⟨v, hv⟩ : ∃ v : Nat, l[j].2.1 = (v : Int) := ⟨l[j].2.1.toNat, by omega⟩
       have hln := HLN.out
       have huc : u < c.length := by omega
       have hvc : v < c.length := by omega
       obtain ⟨b2, off2, rfl, hbb2, hcap2, hc2⟩ := HI.out.open huc
       have d0 := hc2 wr (Grew.below HG.out) u huc
       have d1 := hc2 wr (Grew.below HG.out) v hvc
       have hone : oneB c l[j] = decide (c[u] = c[v]) := by
        unfold oneB
        simp only [hu, hv, Int.toNat_natCast, List.getD_eq_getElem?_getD, List.getElem?_eq_getElem huc, List.getElem?_eq_getElem hvc, Option.getD_some]
       have huI : (u : Int) < (c.length : Int) := by omega
       have hvI : (v : Int) < (c.length : Int) := by omega
       rw [hu] at c0
       rw [hv] at c1
       have HGR : Hid (Grew w4 wr) := hg
       clear hcc hc2 hok hln hu hv hg
       cases hb : oneB c l[j] with
       | true =>
        have HE : Hid (chkK n l c most = 13) := by rw [HIF2.out, any_at hlt hb]; rfl
        rw [hb] at hone
        have hxy : c[u] = c[v] := of_decide_eq_true hone.symm
        rw [hxy] at d0
        generalize c[v] = x at *
        clear hone hb HA HIF2
        go_wp2_with fail
        go_quiet (fail)
        go_wp2
        go_ret
        exact ⟨by rw [HE.out]; rfl, Grew.drewN HG.out nq⟩
       | false =>
        have HA2 : Hid ((l.take (j + 1)).any (oneB c) = false) := any_take hlt HA.out hb
        rw [hb] at hone
        have hxy : ¬ c[u] = c[v] := of_decide_eq_false hone.symm
        have hxy' : (c[u] == c[v]) = false := by simpa using hxy
        generalize c[v] = x at *
        generalize c[u] = y at *
        clear hone hb HA hxy
        go_wp2_with fail
        go_quiet (fail)
        go_wp2
        exact ⟨⟨j + 1, by omega, by go_num, HA2, Grew.drewN HGR.out nq⟩, by simp [intOf]; omega⟩
      ·obtain rfl : j = l.length := by omega
       have hjl : ¬ (l.length : Int) < (l.length : Int) := by omega
       have ha : l.any (oneB c) = false := by have := HA.out; rwa [List.take_length] at this
       have HE : Hid (chkK n l c most = 0) := by rw [HIF2.out, ha]; rfl
       clear HA ha HIF2 hg
       go_wp2
       go_ret
       exact ⟨by rw [HE.out]; rfl, HG.out⟩
  ·have hlen' : ((c.length : Int) == n) = false := by simpa using hlen
   have HE : Hid (chkK n l c most = 13) := by unfold Hid chkK; rw [if_pos hr, if_neg hlen]
   clear hr hR
   go_wp2
   go_ret
   exact ⟨by rw [HE.out]; rfl, HG4.out⟩
 ·have HE : Hid (chkK n l c most = 1) := by unfold Hid chkK; rw [if_neg hr]
  have hr' : (rightK n l == 0) = false := by simpa using hr
  generalize rightK n l = kk at *
  clear hr
  go_wp2
  go_ret
  exact ⟨by rw [HE.out]; rfl, HG4.out⟩
end Go.Proofs.YtjpkojmjiaoifaaGreat

namespace Go.Proofs.YtjpkojmjiaoifaaGreat
open Go Go.Proofs Go.RowKit
set_option maxRecDepth 100000 in
set_option maxHeartbeats 2000000 in
theorem refIn_any (L : List Dt) (hL : L.length ≤ 9223372036854775807) (d : Dt) (sv : Value) (w : World) (h : Drts w.heap.size w sv L) :
  Calls Tryz.prog 68 #[sv, .agg #[.int .i64 d.1, .int .i64 d.2]] w fun e w' => e = .returned (.bool (L.contains d)) ∧ Below w.heap.size w w' := by
 obtain ⟨p, c, rfl⟩ := h.len
 obtain ⟨d1, d2⟩ := d
 have hb1 : Below w.heap.size w (w.alloc (.cells #[.int .i64 d1, .int .i64 d2] 84)) := (Below.refl _ _).alloc (Nat.le_refl _) _
 have hX : Blk 84 (w.alloc (.cells #[.int .i64 d1, .int .i64 d2] 84)) w.heap.size [.int .i64 d1, .int .i64 d2] := heap_alloc_new w _
 have HX : Hid (Blk 84 (w.alloc (.cells #[.int .i64 d1, .int .i64 d2] 84)) w.heap.size [.int .i64 d1, .int .i64 d2]) := hX
 have HB1 : Hid (Below w.heap.size w (w.alloc (.cells #[.int .i64 d1, .int .i64 d2] 84))) := hb1
 have HD : Hid (Drts (w.alloc (.cells #[.int .i64 d1, .int .i64 d2] 84)).heap.size (w.alloc (.cells #[.int .i64 d1, .int .i64 d2] 84)) (.slice p L.length c) L) := h.go hb1
 clear hX hb1 h
 go_enter Tryz.func68, Tryz.ntmps68
 go_wp2
 generalize w.alloc (.cells #[.int .i64 d1, .int .i64 d2] 84) = w1 at *
 go_loopw [5] (fun iv wr => ∃ j : Nat, j ≤ L.length ∧ iv = .int .i64 j ∧ Hid (∀ (i : Nat) (hi : i < L.length), i < j → L[i] ≠ (d1, d2)) ∧ Below w1.heap.size w1 wr) (fun i _ => L.length - (intOf i).toNat)
 case atStart => exact ⟨0, Nat.zero_le _, rfl, fun i _ h => by omega, Below.refl _ _⟩
 case round =>
  obtain ⟨j, hj, rfl, HS, hb⟩ := hrel
  have hXr := HX.out.go hb
  have q0 := hXr.cell (j := 0) rfl
  have q1 := hXr.cell (j := 1) rfl
  have HB : Hid (Below w1.heap.size w1 wr) := hb
  by_cases hlt : j < L.length
  ·have hjl : (j : Int) < (L.length : Int) := by omega
   obtain ⟨b, off, rfl, hbb, hcap, c0, c1⟩ := (HD.out.go hb).cellAt hlt
   clear hb hXr
   by_cases he : L[j] = (d1, d2)
   ·have HE : Hid (L.contains (d1, d2) = true) := by
     unfold Hid; rw [List.contains_iff_mem, ← he]; exact List.getElem_mem hlt
    rw [he] at c0 c1
    clear he HS
    go_wp2
    go_quiet (fail)
    have HB3 : Hid (Below w.heap.size w (wr.drewN nq)) := below_drewN (HB1.out.trans (HB.out.mono HB1.out.size)) nq
    generalize wr.drewN nq = w5 at HB3 ⊢
    go_wp2
    go_ret
    exact ⟨by rw [HE.out]; rfl, HB3.out⟩
   ·have HS2 : Hid (∀ (i : Nat) (h1 : i < L.length), i < j + 1 → L[i] ≠ (d1, d2)) := fun i h1 h => by
     by_cases e : i = j
     ·subst e; exact he
     ·exact HS.out i h1 (by omega)
    have HLT : Hid (j < L.length) := hlt
    generalize hx : L[j] = x at *
    obtain ⟨x1, x2⟩ := x
    clear HS hx hlt
    by_cases e1 : x1 = d1
    ·have e2 : (x2 == d2) = false := by
      rw [beq_eq_false_iff_ne]
      intro e2
      exact he (by rw [e1, e2])
     subst e1
     clear he
     go_wp2
     go_quiet (fail)
     have HB3 : Hid (Below w1.heap.size w1 (wr.drewN nq)) := below_drewN HB.out nq
     generalize wr.drewN nq = w5 at HB3 ⊢
     go_wp2
     exact ⟨⟨j + 1, HLT.out, by go_num, HS2.out, HB3.out⟩, by have := HLT.out; simp [intOf]; omega⟩
    ·have e2 : (x1 == d1) = false := by rw [beq_eq_false_iff_ne]; exact e1
     clear he e1
     go_wp2
     go_quiet (fail)
     have HB3 : Hid (Below w1.heap.size w1 (wr.drewN nq)) := below_drewN HB.out nq
     generalize wr.drewN nq = w5 at HB3 ⊢
     go_wp2
     exact ⟨⟨j + 1, HLT.out, by go_num, HS2.out, HB3.out⟩, by have := HLT.out; simp [intOf]; omega⟩
  ·obtain rfl : j = L.length := by omega
   have HE : Hid (L.contains (d1, d2) = false) := by
    unfold Hid
    rw [List.contains_eq_mem, decide_eq_false_iff_not]
    intro hm
    obtain ⟨i, hi, e⟩ := List.getElem_of_mem hm
    exact HS.out i hi hi e
   clear HS
   have HB3 : Hid (Below w.heap.size w wr) := HB1.out.trans (hb.mono HB1.out.size)
   go_wp2
   go_ret
   exact ⟨by rw [HE.out]; rfl, HB3.out⟩
end Go.Proofs.YtjpkojmjiaoifaaGreat
