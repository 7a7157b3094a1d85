/-
  The chapter's example: alive.
-/
import Derived.Test.YtnmlbkmbiecpnaaQL
import Derived.Test.YtnmlbkmbiecpnaaQD
namespace Go.Proofs.Ytnmlbkmbiecpnaa
open Go Go.Proofs Go.RowKit

def exT : List Ed := [(0, 1, 0), (0, 2, 0), (1, 2, 0)]
def exR : List (List Int) := [[1, 2], [2, 0], [0, 1]]
theorem ex_right : RightG (3 : Int) exT := right_iff.1 (by decide)
theorem ex_sys : SysR 3 exT exR := by
  refine ⟨rfl, fun v hv => ?_⟩
  match v, hv with
  | 0, _ => decide
  | 1, _ => decide
  | 2, _ => decide
theorem ex_faces : facesL 3 exT exR = [[(0, 1), (1, 2), (2, 0)], [(0, 2), (2, 1), (1, 0)]] := by kernel_rfl
theorem ex_nums : numsL 3 exT exR = [2] := by kernel_rfl

set_option maxRecDepth 100000 in
set_option maxHeartbeats 4000000 in
theorem alive_any (w : World) : Calls Try.prog 10 #[] w fun e w' => e = .returned (.bool true) ∧ Below w.heap.size w w' := by
  have hB : Blk 55 (w.alloc (.cells #[.int .i64 0, .int .i64 1, .int .i64 0, .int .i64 0, .int .i64 2, .int .i64 0, .int .i64 1, .int .i64 2, .int .i64 0] 55)) w.heap.size (flat exT) := heap_alloc_new w _
  have hb1 : Below w.heap.size w (w.alloc (.cells #[.int .i64 0, .int .i64 1, .int .i64 0, .int .i64 0, .int .i64 2, .int .i64 0, .int .i64 1, .int .i64 2, .int .i64 0] 55)) := (Below.refl _ _).alloc (Nat.le_refl _) _
  have hs1 : (w.alloc (.cells #[.int .i64 0, .int .i64 1, .int .i64 0, .int .i64 0, .int .i64 2, .int .i64 0, .int .i64 1, .int .i64 2, .int .i64 0] 55)).heap.size = w.heap.size + 1 := by simp
  have hb2 : Below (w.alloc (.cells #[.int .i64 0, .int .i64 1, .int .i64 0, .int .i64 0, .int .i64 2, .int .i64 0, .int .i64 1, .int .i64 2, .int .i64 0] 55)).heap.size (w.alloc (.cells #[.int .i64 0, .int .i64 1, .int .i64 0, .int .i64 0, .int .i64 2, .int .i64 0, .int .i64 1, .int .i64 2, .int .i64 0] 55)) ((w.alloc (.cells #[.int .i64 0, .int .i64 1, .int .i64 0, .int .i64 0, .int .i64 2, .int .i64 0, .int .i64 1, .int .i64 2, .int .i64 0] 55)).alloc (.cells #[.int .i64 3, .slice (some ⟨w.heap.size, 0, none⟩) 3 3] 24)) := (Below.refl _ _).alloc (Nat.le_refl _) _
  have hG : Blk 24 ((w.alloc (.cells #[.int .i64 0, .int .i64 1, .int .i64 0, .int .i64 0, .int .i64 2, .int .i64 0, .int .i64 1, .int .i64 2, .int .i64 0] 55)).alloc (.cells #[.int .i64 3, .slice (some ⟨w.heap.size, 0, none⟩) 3 3] 24)) (w.alloc (.cells #[.int .i64 0, .int .i64 1, .int .i64 0, .int .i64 0, .int .i64 2, .int .i64 0, .int .i64 1, .int .i64 2, .int .i64 0] 55)).heap.size [.int .i64 3, .slice (some ⟨w.heap.size, 0, none⟩) 3 3] := heap_alloc_new _ _
  rw [hs1] at hG
  have hE2 : Edges ((w.alloc (.cells #[.int .i64 0, .int .i64 1, .int .i64 0, .int .i64 0, .int .i64 2, .int .i64 0, .int .i64 1, .int .i64 2, .int .i64 0] 55)).alloc (.cells #[.int .i64 3, .slice (some ⟨w.heap.size, 0, none⟩) 3 3] 24)).heap.size ((w.alloc (.cells #[.int .i64 0, .int .i64 1, .int .i64 0, .int .i64 0, .int .i64 2, .int .i64 0, .int .i64 1, .int .i64 2, .int .i64 0] 55)).alloc (.cells #[.int .i64 3, .slice (some ⟨w.heap.size, 0, none⟩) 3 3] 24)) (.slice (some ⟨w.heap.size, 0, none⟩) 3 3) exT := hB.edges.go hb2
  have hbw2 : Below w.heap.size w ((w.alloc (.cells #[.int .i64 0, .int .i64 1, .int .i64 0, .int .i64 0, .int .i64 2, .int .i64 0, .int .i64 1, .int .i64 2, .int .i64 0] 55)).alloc (.cells #[.int .i64 3, .slice (some ⟨w.heap.size, 0, none⟩) 3 3] 24)) := hb1.trans (hb2.mono hb1.size)
  have hs2 : ((w.alloc (.cells #[.int .i64 0, .int .i64 1, .int .i64 0, .int .i64 0, .int .i64 2, .int .i64 0, .int .i64 1, .int .i64 2, .int .i64 0] 55)).alloc (.cells #[.int .i64 3, .slice (some ⟨w.heap.size, 0, none⟩) 3 3] 24)).heap.size = w.heap.size + 2 := by simp
  have HG : Hid (Blk 24 ((w.alloc (.cells #[.int .i64 0, .int .i64 1, .int .i64 0, .int .i64 0, .int .i64 2, .int .i64 0, .int .i64 1, .int .i64 2, .int .i64 0] 55)).alloc (.cells #[.int .i64 3, .slice (some ⟨w.heap.size, 0, none⟩) 3 3] 24)) (w.heap.size + 1) [.int .i64 3, .slice (some ⟨w.heap.size, 0, none⟩) 3 3]) := hG
  have HE2 : Hid (Edges ((w.alloc (.cells #[.int .i64 0, .int .i64 1, .int .i64 0, .int .i64 0, .int .i64 2, .int .i64 0, .int .i64 1, .int .i64 2, .int .i64 0] 55)).alloc (.cells #[.int .i64 3, .slice (some ⟨w.heap.size, 0, none⟩) 3 3] 24)).heap.size ((w.alloc (.cells #[.int .i64 0, .int .i64 1, .int .i64 0, .int .i64 0, .int .i64 2, .int .i64 0, .int .i64 1, .int .i64 2, .int .i64 0] 55)).alloc (.cells #[.int .i64 3, .slice (some ⟨w.heap.size, 0, none⟩) 3 3] 24)) (.slice (some ⟨w.heap.size, 0, none⟩) 3 3) exT) := hE2
  have HB2 : Hid (Below w.heap.size w ((w.alloc (.cells #[.int .i64 0, .int .i64 1, .int .i64 0, .int .i64 0, .int .i64 2, .int .i64 0, .int .i64 1, .int .i64 2, .int .i64 0] 55)).alloc (.cells #[.int .i64 3, .slice (some ⟨w.heap.size, 0, none⟩) 3 3] 24))) := hbw2
  have HS2 : Hid (((w.alloc (.cells #[.int .i64 0, .int .i64 1, .int .i64 0, .int .i64 0, .int .i64 2, .int .i64 0, .int .i64 1, .int .i64 2, .int .i64 0] 55)).alloc (.cells #[.int .i64 3, .slice (some ⟨w.heap.size, 0, none⟩) 3 3] 24)).heap.size = w.heap.size + 2) := hs2
  clear hB hb1 hs1 hb2 hG hE2 hbw2 hs2
  go_enter Try.func10, Try.ntmps10
  go_wp2_with fail
  generalize ((w.alloc (.cells #[.int .i64 0, .int .i64 1, .int .i64 0, .int .i64 0, .int .i64 2, .int .i64 0, .int .i64 1, .int .i64 2, .int .i64 0] 55)).alloc (.cells #[.int .i64 3, .slice (some ⟨w.heap.size, 0, none⟩) 3 3] 24)) = w2 at HG HE2 HB2 HS2 ⊢
  have hs2 : w2.heap.size = w.heap.size + 1 + 1 := HS2.out
  have hs3 : (w2.alloc (.cells #[.int .i64 1, .int .i64 2] 3)).heap.size = w.heap.size + 1 + 1 + 1 := by simp [hs2]
  have hs4 : ((w2.alloc (.cells #[.int .i64 1, .int .i64 2] 3)).alloc (.cells #[.int .i64 2, .int .i64 0] 3)).heap.size = w.heap.size + 1 + 1 + 1 + 1 := by simp [hs2]
  have hs5 : (((w2.alloc (.cells #[.int .i64 1, .int .i64 2] 3)).alloc (.cells #[.int .i64 2, .int .i64 0] 3)).alloc (.cells #[.int .i64 0, .int .i64 1] 3)).heap.size = w.heap.size + 1 + 1 + 1 + 1 + 1 := by simp [hs2]
  have hb3 : Below w2.heap.size w2 (w2.alloc (.cells #[.int .i64 1, .int .i64 2] 3)) := (Below.refl _ _).alloc (Nat.le_refl _) _
  have hb4 : Below (w2.alloc (.cells #[.int .i64 1, .int .i64 2] 3)).heap.size (w2.alloc (.cells #[.int .i64 1, .int .i64 2] 3)) ((w2.alloc (.cells #[.int .i64 1, .int .i64 2] 3)).alloc (.cells #[.int .i64 2, .int .i64 0] 3)) := (Below.refl _ _).alloc (Nat.le_refl _) _
  have hb5 : Below ((w2.alloc (.cells #[.int .i64 1, .int .i64 2] 3)).alloc (.cells #[.int .i64 2, .int .i64 0] 3)).heap.size ((w2.alloc (.cells #[.int .i64 1, .int .i64 2] 3)).alloc (.cells #[.int .i64 2, .int .i64 0] 3)) (((w2.alloc (.cells #[.int .i64 1, .int .i64 2] 3)).alloc (.cells #[.int .i64 2, .int .i64 0] 3)).alloc (.cells #[.int .i64 0, .int .i64 1] 3)) := (Below.refl _ _).alloc (Nat.le_refl _) _
  have hb6 : Below (((w2.alloc (.cells #[.int .i64 1, .int .i64 2] 3)).alloc (.cells #[.int .i64 2, .int .i64 0] 3)).alloc (.cells #[.int .i64 0, .int .i64 1] 3)).heap.size (((w2.alloc (.cells #[.int .i64 1, .int .i64 2] 3)).alloc (.cells #[.int .i64 2, .int .i64 0] 3)).alloc (.cells #[.int .i64 0, .int .i64 1] 3)) ((((w2.alloc (.cells #[.int .i64 1, .int .i64 2] 3)).alloc (.cells #[.int .i64 2, .int .i64 0] 3)).alloc (.cells #[.int .i64 0, .int .i64 1] 3)).alloc (.cells #[.slice (some ⟨w.heap.size + 1 + 1, 0, none⟩) 2 2, .slice (some ⟨w.heap.size + 1 + 1 + 1, 0, none⟩) 2 2, .slice (some ⟨w.heap.size + 1 + 1 + 1 + 1, 0, none⟩) 2 2] 41)) := (Below.refl _ _).alloc (Nat.le_refl _) _
  have h1 : Blk 3 (w2.alloc (.cells #[.int .i64 1, .int .i64 2] 3)) w2.heap.size ([1, 2].map (Value.int .i64)) := heap_alloc_new _ _
  have h2 : Blk 3 ((w2.alloc (.cells #[.int .i64 1, .int .i64 2] 3)).alloc (.cells #[.int .i64 2, .int .i64 0] 3)) (w2.alloc (.cells #[.int .i64 1, .int .i64 2] 3)).heap.size ([2, 0].map (Value.int .i64)) := heap_alloc_new _ _
  have h3 : Blk 3 (((w2.alloc (.cells #[.int .i64 1, .int .i64 2] 3)).alloc (.cells #[.int .i64 2, .int .i64 0] 3)).alloc (.cells #[.int .i64 0, .int .i64 1] 3)) ((w2.alloc (.cells #[.int .i64 1, .int .i64 2] 3)).alloc (.cells #[.int .i64 2, .int .i64 0] 3)).heap.size ([0, 1].map (Value.int .i64)) := heap_alloc_new _ _
  have h4 : Blk 41 ((((w2.alloc (.cells #[.int .i64 1, .int .i64 2] 3)).alloc (.cells #[.int .i64 2, .int .i64 0] 3)).alloc (.cells #[.int .i64 0, .int .i64 1] 3)).alloc (.cells #[.slice (some ⟨w.heap.size + 1 + 1, 0, none⟩) 2 2, .slice (some ⟨w.heap.size + 1 + 1 + 1, 0, none⟩) 2 2, .slice (some ⟨w.heap.size + 1 + 1 + 1 + 1, 0, none⟩) 2 2] 41)) (((w2.alloc (.cells #[.int .i64 1, .int .i64 2] 3)).alloc (.cells #[.int .i64 2, .int .i64 0] 3)).alloc (.cells #[.int .i64 0, .int .i64 1] 3)).heap.size [.slice (some ⟨w.heap.size + 1 + 1, 0, none⟩) 2 2, .slice (some ⟨w.heap.size + 1 + 1 + 1, 0, none⟩) 2 2, .slice (some ⟨w.heap.size + 1 + 1 + 1 + 1, 0, none⟩) 2 2] := heap_alloc_new _ _
  rw [hs2] at h1
  rw [hs3] at h2
  rw [hs4] at h3
  rw [hs5] at h4
  have i1 := ((h1.go hb4).go hb5).go hb6
  have i2 := (h2.go hb5).go hb6
  have i3 := h3.go hb6
  have hbw : Below w2.heap.size w2 ((((w2.alloc (.cells #[.int .i64 1, .int .i64 2] 3)).alloc (.cells #[.int .i64 2, .int .i64 0] 3)).alloc (.cells #[.int .i64 0, .int .i64 1] 3)).alloc (.cells #[.slice (some ⟨w.heap.size + 1 + 1, 0, none⟩) 2 2, .slice (some ⟨w.heap.size + 1 + 1 + 1, 0, none⟩) 2 2, .slice (some ⟨w.heap.size + 1 + 1 + 1 + 1, 0, none⟩) 2 2] 41)) := ((hb3.trans (hb4.mono hb3.size)).trans (hb5.mono (Nat.le_trans hb3.size hb4.size))).trans (hb6.mono (Nat.le_trans (Nat.le_trans hb3.size hb4.size) hb5.size))
  have hLs : Lsts ((((w2.alloc (.cells #[.int .i64 1, .int .i64 2] 3)).alloc (.cells #[.int .i64 2, .int .i64 0] 3)).alloc (.cells #[.int .i64 0, .int .i64 1] 3)).alloc (.cells #[.slice (some ⟨w.heap.size + 1 + 1, 0, none⟩) 2 2, .slice (some ⟨w.heap.size + 1 + 1 + 1, 0, none⟩) 2 2, .slice (some ⟨w.heap.size + 1 + 1 + 1 + 1, 0, none⟩) 2 2] 41)).heap.size ((((w2.alloc (.cells #[.int .i64 1, .int .i64 2] 3)).alloc (.cells #[.int .i64 2, .int .i64 0] 3)).alloc (.cells #[.int .i64 0, .int .i64 1] 3)).alloc (.cells #[.slice (some ⟨w.heap.size + 1 + 1, 0, none⟩) 2 2, .slice (some ⟨w.heap.size + 1 + 1 + 1, 0, none⟩) 2 2, .slice (some ⟨w.heap.size + 1 + 1 + 1 + 1, 0, none⟩) 2 2] 41)) (.slice (some ⟨w.heap.size + 1 + 1 + 1 + 1 + 1, 0, none⟩) 3 3) exR := by
    refine .inr ⟨_, 0, 3, rfl, h4.lt, Nat.le_refl _, fun j x hx => ?_⟩
    match j, hx with
    | 0, hx => cases hx; exact ⟨_, h4.cell (j := 0) rfl, i1.ints⟩
    | 1, hx => cases hx; exact ⟨_, h4.cell (j := 1) rfl, i2.ints⟩
    | 2, hx => cases hx; exact ⟨_, h4.cell (j := 2) rfl, i3.ints⟩
    | j + 3, hx => exact absurd (List.getElem?_eq_some_iff.1 hx).1 (by simp [exR])
  have hE := HE2.out.go hbw
  have hG := HG.out.go hbw
  have hbw6 : Below w.heap.size w ((((w2.alloc (.cells #[.int .i64 1, .int .i64 2] 3)).alloc (.cells #[.int .i64 2, .int .i64 0] 3)).alloc (.cells #[.int .i64 0, .int .i64 1] 3)).alloc (.cells #[.slice (some ⟨w.heap.size + 1 + 1, 0, none⟩) 2 2, .slice (some ⟨w.heap.size + 1 + 1 + 1, 0, none⟩) 2 2, .slice (some ⟨w.heap.size + 1 + 1 + 1 + 1, 0, none⟩) 2 2] 41)) := HB2.out.trans (hbw.mono HB2.out.size)
  clear hb3 hb4 hb5 hb6 h1 h2 h3 h4 i1 i2 i3 hbw hs2 hs3 hs4 hs5 HG HE2 HB2 HS2
  generalize ((((w2.alloc (.cells #[.int .i64 1, .int .i64 2] 3)).alloc (.cells #[.int .i64 2, .int .i64 0] 3)).alloc (.cells #[.int .i64 0, .int .i64 1] 3)).alloc (.cells #[.slice (some ⟨w.heap.size + 1 + 1, 0, none⟩) 2 2, .slice (some ⟨w.heap.size + 1 + 1 + 1, 0, none⟩) 2 2, .slice (some ⟨w.heap.size + 1 + 1 + 1 + 1, 0, none⟩) 2 2] 41)) = w6 at hE hG hbw6 hLs ⊢
  generalize hrb : w.heap.size + 1 + 1 + 1 + 1 + 1 = rb at *
  clear hrb
  refine (faces_any 3 exT ex_right exR ex_sys _ _ _ hE hLs).mono ?_
  rintro e w7 ⟨lv, svs, rfl, hGr, hb7⟩
  rw [ex_faces] at hGr
  have hsl := hGr.len
  obtain ⟨pl, cl, rfl⟩ := owns_formP hGr.own
  obtain ⟨sv0, hsv0⟩ : ∃ sv0, svs[0]? = some sv0 := ⟨_, List.getElem?_eq_getElem (by rw [hsl]; decide)⟩
  have hr0 := hGr.inn 0 sv0 _ hsv0 rfl
  obtain ⟨p0, c0, rfl⟩ := owns_formP hr0
  have hD := hGr.own
  rw [hsl] at hD ⊢
  simp only [List.length_cons, List.length_nil, Nat.zero_add, Nat.reduceAdd] at hD hsv0 ⊢
  obtain ⟨g, rfl⟩ : ∃ g, pl = some ⟨g, 0, none⟩ := by
    rcases hD.2 with ⟨h', _⟩ | ⟨g', cap', cur, h', _⟩
    · simp at h'
    · simp only [Value.slice.injEq] at h'
      exact ⟨g', h'.1⟩
  have hcell : w7.cell? ⟨g, 0, none⟩ = some (.slice p0 3 c0) := (hD.cellAt 0 (by decide)).trans hsv0
  have hgl : g < w7.heap.size := (owns_blk hD rfl).2
  have hE7 := hE.go hb7
  have hG7 := hG.go hb7
  have hL7 := hLs.go hb7
  have hbw7 := hbw6.trans (hb7.mono hbw6.size)
  have g0 := hG7.cell (j := 0) rfl
  have g1 := hG7.cell (j := 1) rfl
  clear hE hG hLs hbw6 hb7 hGr hr0 hD hsl hsv0
  go_wp2_with fail
  refine (euler_any 3 exT ex_right exR ex_sys _ _ _ hE7 hL7).mono ?_
  rintro e w8 ⟨nv, rfl, hI8, hb8⟩
  rw [ex_nums] at hI8
  obtain ⟨pn, cn, rfl⟩ := hI8.len
  have hE8 := hE7.go hb8
  have hG8 := hG7.go hb8
  have hL8 := hL7.go hb8
  have hbw8 := hbw7.trans (hb8.mono hbw7.size)
  have hcell8 := cell_keepK hb8 hcell
  clear hE7 hG7 hL7 hbw7 hb8 g0 g1 hcell
  have hbA : Below w8.heap.size w8 (w8.alloc (.cells #[.int .i64 2] 3)) := (Below.refl _ _).alloc (Nat.le_refl _) _
  have hI2 : Ints (w8.alloc (.cells #[.int .i64 2] 3)).heap.size (w8.alloc (.cells #[.int .i64 2] 3)) (.slice (some ⟨w8.heap.size, 0, none⟩) 1 1) [2] := Blk.ints (l := [2]) (t := 3) (heap_alloc_new w8 _)
  have hri := refInts_any [2] [2] (by decide) _ _ _ (hI8.go hbA) hI2
  have hE9 := hE8.go hbA
  have hG9 := hG8.go hbA
  have hL9 := hL8.go hbA
  have hbw9 := hbw8.trans (hbA.mono hbw8.size)
  clear hI8 hI2 hE8 hG8 hL8 hbw8 hbA
  go_wp2_with fail
  refine hri.mono ?_
  rintro e w10 ⟨rfl, hg10⟩
  have hE10 := hE9.go hg10.below
  have hG10 := hG9.go hg10.below
  have hL10 := hL9.go hg10.below
  have hbw10 := hbw9.trans (hg10.below.mono hbw9.size)
  have g0 := hG10.cell (j := 0) rfl
  have g1 := hG10.cell (j := 1) rfl
  clear hri hE9 hG9 hL9 hbw9 hg10 hG10
  simp only [decide_true]
  go_wp2_with fail
  refine (plane_any 3 exT ex_right exR ex_sys _ _ _ hE10 hL10).mono ?_
  rintro e w11 ⟨rfl, hb11⟩
  rw [ex_nums, show planeK [2] = 0 from rfl]
  have hbw11 := hbw10.trans (hb11.mono hbw10.size)
  clear hE10 hL10 hb11 hbw10
  go_wp2
  go_ret
  exact ⟨rfl, hbw11⟩
end Go.Proofs.Ytnmlbkmbiecpnaa

namespace Go.Proofs.Ytnmlbkmbiecpnaa
open Go Go.Proofs Go.RowKit

/-- What Light answers; where it says yes, the graph is small, and there are few lists. -/
def LightQ (n : Int) (l : List Ed) (r : List (List Int)) (c : Int) (w : World) (e : Ending) (w' : World) : Prop := ∃ b, e = .returned (.bool b) ∧ (b = true → lightB n l c = true ∧ (r.length : Int) ≤ 2 * c) ∧ Below w.heap.size w w'
theorem lightQ_no {n : Int} {l : List Ed} {r : List (List Int)} {c : Int} {w w' : World} {e : Ending} (he : e = .returned (.bool false)) (hb : Below w.heap.size w w') : LightQ n l r c w e w' := ⟨false, he, fun h => absurd h (by decide), hb⟩
theorem lightQ_yes {n : Int} {l : List Ed} {r : List (List Int)} {c : Int} {w w' : World} {e : Ending} (he : e = .returned (.bool true)) (h1 : lightB n l c = true) (h2 : (r.length : Int) ≤ 2 * c) (hb : Below w.heap.size w w') : LightQ n l r c w e w' := ⟨true, he, fun _ => ⟨h1, h2⟩, hb⟩

set_option maxRecDepth 100000 in
set_option maxHeartbeats 4000000 in
theorem lightR_any (n : Int) (l : List Ed) (r : List (List Int)) (hr1 : r.length ≤ 9223372036854775807) (c : Int) (h0 : 0 ≤ c) (h1 : c ≤ 1000) (sv rv : Value) (w : World) (hl : Edges w.heap.size w sv l) (hr : Lsts w.heap.size w rv r) :
    Calls Try.prog 9 #[.agg #[.int .i64 n, sv], rv, .int .i64 c] w (LightQ n l r c w) := by
  have hbA : Below w.heap.size w (w.alloc (.cells #[.int .i64 n, sv] 24)) := (Below.refl _ _).alloc (Nat.le_refl _) _
  have hX : Blk 24 (w.alloc (.cells #[.int .i64 n, sv] 24)) w.heap.size [.int .i64 n, sv] := heap_alloc_new w _
  have hlc := light_any n l c h0 h1 sv _ (hl.go hbA)
  obtain ⟨p, cr, rfl⟩ := hr.len
  have HR0 := hr.go hbA
  have q0 := hX.cell (j := 0) rfl
  have q1 := hX.cell (j := 1) rfl
  have HR : Hid (Lsts (w.alloc (.cells #[.int .i64 n, sv] 24)).heap.size (w.alloc (.cells #[.int .i64 n, sv] 24)) (.slice p r.length cr) r) := HR0
  have HB : Hid (Below w.heap.size w (w.alloc (.cells #[.int .i64 n, sv] 24))) := hbA
  clear hr hl hX hbA HR0
  go_enter Try.func9, Try.ntmps9
  go_wp2
  generalize w.alloc (.cells #[.int .i64 n, sv] 24) = w1 at *
  have hrl : (r.length : Int) ≤ 9223372036854775807 := by omega
  go_loopw [7, 8] (fun mv iv wr => ∃ (j : Nat) (m : Int), j ≤ r.length ∧ iv = .int .i64 j ∧ mv = .int .i64 m ∧ wr = w1) (fun _ i _ => r.length - (intOf i).toNat)
  case atStart => exact ⟨0, 0, Nat.zero_le _, rfl, rfl, rfl⟩
  case round =>
    obtain ⟨j, m, hj, rfl, rfl, rfl⟩ := hrel
    by_cases hlt : j < r.length
    · have hjl : (j : Int) < (r.length : Int) := by omega
      by_cases hm : m ≤ 1000
      · obtain ⟨b, off, rfl, hbb, hcap, px, cx, hIx, c0⟩ := HR.out.cellAt hlt
        have HLT : Hid (j < r.length) := hlt
        generalize r[j] = X at *
        clear hIx hlt hlc q0 q1
        go_wp2
        exact ⟨⟨j + 1, _, HLT.out, by go_num, rfl, trivial⟩, by have := HLT.out; simp [intOf]; omega⟩
      · have hmd : decide (m ≤ 1000) = false := decide_eq_false hm
        go_wp2_with fail
        refine hlc.mono ?_
        clear hlc
        rintro e w3 ⟨rfl, hg3⟩
        have HB3 : Hid (Below w.heap.size w w3) := HB.out.trans (hg3.below.mono HB.out.size)
        clear hg3 HR q0 q1
        cases hL : lightB n l c with
        | false =>
          go_wp2
          go_ret
          exact lightQ_no rfl HB3.out
        | true =>
          have HL : Hid (lightB n l c = true) := hL
          clear hL
          by_cases hc : (r.length : Int) ≤ 2 * c
          · have HC : Hid ((r.length : Int) ≤ 2 * c) := hc
            go_wp2
            go_ret
            exact lightQ_no rfl HB3.out
          · go_wp2
            go_ret
            exact lightQ_no rfl HB3.out
    · obtain rfl : j = r.length := by omega
      go_wp2_with fail
      refine hlc.mono ?_
      clear hlc
      rintro e w3 ⟨rfl, hg3⟩
      have HB3 : Hid (Below w.heap.size w w3) := HB.out.trans (hg3.below.mono HB.out.size)
      clear hg3 HR q0 q1
      cases hL : lightB n l c with
      | false =>
        go_wp2
        go_ret
        exact lightQ_no rfl HB3.out
      | true =>
        have HL : Hid (lightB n l c = true) := hL
        clear hL
        by_cases hc : (r.length : Int) ≤ 2 * c
        · have HC : Hid ((r.length : Int) ≤ 2 * c) := hc
          by_cases hm : m ≤ 1000
          · go_wp2
            go_ret
            exact lightQ_yes rfl HL.out HC.out HB3.out
          · have hmd : decide (m ≤ 1000) = false := decide_eq_false hm
            go_wp2
            go_ret
            exact lightQ_no rfl HB3.out
        · go_wp2
          go_ret
          exact lightQ_no rfl HB3.out
end Go.Proofs.Ytnmlbkmbiecpnaa
