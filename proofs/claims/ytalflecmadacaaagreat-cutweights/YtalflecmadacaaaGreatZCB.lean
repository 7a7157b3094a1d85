import Derived.Test.YtalflecmadacaaaGreatZAQ
import Derived.Test.YtalflecmadacaaaGreatZAR
import Derived.Test.YtalflecmadacaaaGreatZBJ
import Derived.Test.YtalflecmadacaaaGreatZBG
import Derived.Test.YtalflecmadacaaaGreatXTjJoin2
import Derived.Test.YtalflecmadacaaaGreatZAJ
import Derived.Test.YtalflecmadacaaaGreatZAA
set_option maxRecDepth 100000
set_option maxHeartbeats 8000000
namespace Go.Proofs.YtalflecmadacaaaGreat
open Go Go.Proofs Go.RowKit
def onlyC (R : Act → World → Prop) : Exit → Act → World → Prop
 | .normal, a, w => R a w
 | _, _, _ => False
theorem wp_cutC {P : Program} {s : Code} {Q : Exit → Act → World → Prop} {a : Act} {w : World} (R : Act → World → Prop) (first : s.wp P (onlyC R) a w) (rest : ∀ a' w', R a' w' → Q .normal a' w') : s.wp P Q a w := by
 refine wp_mono first ?_
 intro e a' w' hq
 cases e with
 | normal => exact rest _ _ hq
 | _ => exact hq.elim
theorem owns_offC {A : World} {base : Nat} {e : TypeId} {size : Nat} {v : Value} {n : Nat} {xs : List Value} (h : A.ownsRow base e size v n xs) {p : Addr} (hp : ∀ q, v.ownBlock = some q → q ≠ p.block) (u : Value) : (A.setCell p u).ownsRow base e size v n xs := by
 refine ⟨h.1, ?_⟩
 rcases h.2 with h1 | ⟨g, cap, cur, rfl, h2, h3, h4⟩
 ·exact .inl h1
 ·refine .inr ⟨g, cap, cur, rfl, h2, ?_, h4⟩
  rw [← h3]
  exact heap_setCell_other _ p g _ (hp g rfl)
def JoinP (W : World) (cost : Int) (e : Ending) (w' : World) : Prop := ∃ (lv : Value) (I : List Int), e = .returned (.tuple #[lv, .int .i64 cost, .int .i64 0]) ∧ w'.ownsRow W.heap.size 3 1 lv I.length (I.map (Value.int .i64)) ∧ I.Pairwise (· < ·) ∧ I.length ≤ 4194304 ∧ Below W.heap.size W w'
theorem maxC_any (N : Nat) (l : List Ed) (hR : RightG (N : Int) l) (r : List (List Int)) (hS : SysR N l r) (hP : planeK (numsL N l r) = 0) (hn : l.any negB = false) (hw : ∀ e ∈ l, -2147483648 ≤ e.2.2 ∧ e.2.2 ≤ 2147483648) (cost : Int) (hc0 : -9007199254740992 ≤ cost) (hc1 : cost ≤ 9007199254740992)
  (hJ : ∀ W gv bv, Edges W.heap.size W gv (dualL (facesL N l r) l) → Ints W.heap.size W bv (oddK ((facesL N l r).length : Int) (dualL (facesL N l r) l) (iotaI l.length l.length)) → Calls Tryz.prog 31 #[.agg #[.int .i64 ((facesL N l r).length : Int), gv], bv] W fun e w' => JoinP W cost e w')
  (sv rv : Value) (w : World) (hl : Edges w.heap.size w sv l) (hr : Lsts w.heap.size w rv r) :
  Calls Tryz.prog 16 #[.agg #[.int .i64 (N : Int), sv], rv] w fun e w' => ∃ (g : Nat) (SD : List Bool), e = .returned (.tuple #[.slice (some ⟨g, 0, none⟩) N N, .int .i64 (sumC l l.length - cost), .int .i64 0]) ∧ w.heap.size ≤ g ∧ Blk 4 w' g (SD.map Value.bool) ∧ SD.length = N ∧ bAt SD 0 = false ∧ Below w.heap.size w w' := by
 have hmix := mixed
 obtain ⟨p, c, rfl⟩ := hl.len
 obtain ⟨pr, cr, rfl⟩ := hr.len
 have hm1 := hR.m1
 obtain ⟨w1, hw1⟩ : ∃ W, (w.alloc (.cells #[.int .i64 (N : Int), .slice p l.length c] 24)) = W := ⟨_, rfl⟩
 have hb1 : Below w.heap.size w w1 := by rw [← hw1]; exact (Below.refl _ _).alloc (Nat.le_refl _) _
 have hX1 : Blk 24 w1 w.heap.size [.int .i64 (N : Int), .slice p l.length c] := by rw [← hw1]; exact heap_alloc_new w _
 have hft := fitsC_any (N : Int) l (by omega) (.slice p l.length c) w1 (hl.go hb1)
 have hfc : fitC (N : Int) l = 0 := by unfold fitC; rw [if_pos (right_iff.2 hR), hn]; rfl
 rw [hfc] at hft
 have HX1 : Hid (Blk 24 w1 w.heap.size [.int .i64 (N : Int), .slice p l.length c]) := hX1
 have HB1 : Hid (Below w.heap.size w w1) := hb1
 have HL : Hid (Edges w.heap.size w (.slice p l.length c) l) := hl
 have HLr : Hid (Lsts w.heap.size w (.slice pr r.length cr) r) := hr
 have HR : Hid (RightG (N : Int) l) := hR
 have HJ : Hid _ := hJ
 have HWt : Hid _ := hw
 have x0 := hX1.cell (j := 0) rfl
 have x1 := hX1.cell (j := 1) rfl
 have hdp := fun W h => dual_plane N l hR r hS hP (.slice p l.length c) (.slice pr r.length cr) W (hl.go h) (hr.go h)
 have HDP : Hid (∀ W, Below w.heap.size w W → _) := hdp
 clear hX1 hb1 hl hr hJ hw hfc hdp hR hS hP hn
 go_enter Tryz.func16, Tryz.ntmps16
 go_wp2_with fail
 refine hft.mono ?_
 rintro e w2 ⟨rfl, hg2⟩
 clear hft hw1 x0 x1
 have hX2 := HX1.out.go hg2.below
 have HX2 : Hid (Blk 24 w2 w.heap.size [.int .i64 (N : Int), .slice p l.length c]) := hX2
 have HB2 : Hid (Below w.heap.size w w2) := HB1.out.trans (hg2.below.mono HB1.out.size)
 have x0 := hX2.cell (j := 0) rfl
 have x1 := hX2.cell (j := 1) rfl
 have hdu := HDP.out w2 HB2.out
 clear hX2 hg2 HX1 HB1 HDP
 go_wp2_with fail
 refine hdu.mono ?_
 rintro e w3 ⟨gv, rfl, hg3, hb3⟩
 clear hdu x0 x1
 obtain ⟨pg, cg, rfl⟩ := hg3.len
 have HB3 : Hid (Below w.heap.size w w3) := HB2.out.trans (hb3.mono HB2.out.size)
 have HX3 : Hid (Blk 24 w3 w.heap.size [.int .i64 (N : Int), .slice p l.length c]) := HX2.out.go hb3
 obtain ⟨DL, hDL⟩ : ∃ DL, dualL (facesL N l r) l = DL := ⟨_, rfl⟩
 have HDL : Hid (DL.length = l.length) := by show _ = _; rw [← hDL]; exact dualL_len _ _
 have HJ2 : Hid (∀ W gv bv, Edges W.heap.size W gv DL → Ints W.heap.size W bv (oddK ((facesL N l r).length : Int) DL (iotaI DL.length DL.length)) → Calls Tryz.prog 31 #[.agg #[.int .i64 ((facesL N l r).length : Int), gv], bv] W fun e w' => JoinP W cost e w') := by
  have h := HJ.out
  rw [hDL] at h
  rw [HDL.out]
  exact h
 rw [hDL] at hg3 ⊢
 obtain ⟨F, hF⟩ : ∃ F, (facesL N l r).length = F := ⟨_, rfl⟩
 rw [hF] at HJ2 ⊢
 have HG3 : Hid (Edges w3.heap.size w3 (.slice pg DL.length cg) DL) := hg3
 clear hDL hF hb3 hg3 HX2 HB2 HJ
 have HN4 : Hid (Blk 24 (w3.alloc (.cells #[.int .i64 (F : Int), .slice pg DL.length cg] 24)) w3.heap.size [.int .i64 (F : Int), .slice pg DL.length cg]) := heap_alloc_new w3 _
 have HB4 : Hid (Below w3.heap.size w3 (w3.alloc (.cells #[.int .i64 (F : Int), .slice pg DL.length cg] 24))) := (Below.refl _ _).alloc (Nat.le_refl _) _
 go_wp2
 obtain ⟨w4, hw4⟩ : ∃ W, w3.alloc (.cells #[.int .i64 (F : Int), .slice pg DL.length cg] 24) = W := ⟨_, rfl⟩
 rw [hw4] at HN4 HB4 ⊢
 clear hw4
 obtain ⟨xd, hxd⟩ : ∃ n, w3.heap.size = n := ⟨_, rfl⟩
 have n0 := HN4.out.cell (j := 0) rfl
 have n1 := HN4.out.cell (j := 1) rfl
 rw [hxd] at HN4 n0 n1 ⊢
 have HG4 : Hid (Edges w4.heap.size w4 (.slice pg DL.length cg) DL) := HG3.out.go HB4.out
 refine wp_cutC (fun a' w' => ∃ (bx : Nat) (v26 v27 v28 v29 v30 v31 v32 v33 iv : Value) (I : List Int), a' = { tmps := #[.agg #[.int .i64 (N : Int), .slice p l.length c], .slice pr r.length cr, .pointer (some ⟨w.heap.size, 0, none⟩), undef, .slice none 0 0, .int .i64 0, .int .i64 0, .int .i64 0, .pointer (some ⟨xd, 0, none⟩), .pointer (some ⟨bx, 0, none⟩), .int .i64 cost, undef, .agg #[.int .i64 (N : Int), .slice p l.length c], .int .i64 0, .int .i64 0, .bool false, undef, .tuple #[.agg #[.int .i64 (F : Int), .slice pg DL.length cg], .int .i64 0], .agg #[.int .i64 (N : Int), .slice p l.length c], .slice pr r.length cr, .tuple #[.agg #[.int .i64 (F : Int), .slice pg DL.length cg], .int .i64 0], .agg #[.int .i64 (F : Int), .slice pg DL.length cg], .int .i64 0, .int .i64 0, .bool false, undef, v26, v27, v28, v29, v30, v31, v32, v33, undef, undef, undef, undef, undef, undef, undef, undef, undef, undef, undef], defers := [] } ∧ w'.cell? ⟨bx, 0, none⟩ = some iv ∧ Ints w'.heap.size w' iv I ∧ I.Pairwise (· < ·) ∧ I.length ≤ 4194304 ∧ Below w4.heap.size w4 w') ?_ ?_
 ·refine wp_region_last (S := (fun w' : World => w'.cell? ⟨xd, 0, none⟩ = some (.int .i64 (F : Int)) ∧ w'.cell? ⟨xd, 1, none⟩ = some (.slice pg DL.length cg))) (by kernel_rfl) ⟨n0, n1⟩ (fun hHeld => ?_)
  have hbd : Below w4.heap.size w4 w4.drew := below_drewN (Below.refl _ _) 1
  refine tkL 0 ?_ rfl (by kernel_rfl) rfl (.inl ⟨by rfl, ?_⟩) (by assumption) ?_
  rotate_left
  ·intro w h; (try dsimp only at h); go_simp; (try rfl)
  try simp only [Act.put, z4]
  refine tkL 1 ?_ rfl (by kernel_rfl) rfl (.inl ⟨by rfl, ?_⟩) (by assumption) ?_
  rotate_left
  ·intro w h; (try dsimp only at h); go_simp; (try rfl)
  try simp only [Act.put]
  refine wpAnyL_ready (rs := [2, 8]) (by kernel_rfl) (by simp) ?_
  refine AllReadyL.cons rfl (fun K hK => ?_) (AllReadyL.cons rfl (fun K hK => ?_) AllReadyL.nil)
  ·go_simp
   refine (oddOnes_any (F : Int) DL (by have := HDL.out; omega) (.slice pg DL.length cg) w4.drew (HG4.out.go hbd)).mono ?_
   rintro e w5 ⟨bv, rfl, hbi, hbo⟩
   obtain ⟨pq, cq, rfl⟩ := hbi.len
   have hbw5 : Below w4.heap.size w4 w5 := hbd.trans (hbo.mono hbd.size)
   refine hK.out _ _ ⟨cell_keepK hbo hHeld.1, cell_keepK hbo hHeld.2⟩ (fun hHeld5 => ?_)
   clear hK K
   try simp only [Act.put, z4, z5, z6]
   refine wpAnyL_ready (rs := [3, 8]) (by kernel_rfl) (by simp) ?_
   refine AllReadyL.cons rfl (fun K hK => ?_) (AllReadyL.cons rfl (fun K hK => ?_) AllReadyL.nil)
   ·go_simp
    refine (HJ2.out w5 (.slice pg DL.length cg) _ (HG4.out.go hbw5) hbi).mono ?_
    rintro e w6 ⟨lv, I, rfl, hIi, hIp, hIl, hjb⟩
    obtain ⟨pl, cl, rfl⟩ := owns_formP hIi
    have hbw6 : Below w4.heap.size w4 w6 := hbw5.trans (hjb.mono hbw5.size)
    refine hK.out _ _ ⟨cell_keepK hjb hHeld5.1, cell_keepK hjb hHeld5.2⟩ (fun hHeld6 => ?_)
    clear hK K
    try simp only [Act.put, z4, z5, z6]
    refine tkL 4 ?_ rfl (by kernel_rfl) rfl (.inl ⟨by rfl, ?_⟩) (by assumption) ?_
    rotate_left
    ·intro w h; (try dsimp only at h); go_simp; (try rfl)
    try simp only [Act.put, z4]
    refine tkL 5 ?_ rfl (by kernel_rfl) rfl (.inl ⟨by rfl, ?_⟩) (by assumption) ?_
    rotate_left
    ·intro w h; (try dsimp only at h); go_simp; (try rfl)
    try simp only [Act.put]
    refine tkL 6 ?_ rfl (by kernel_rfl) rfl (.inl ⟨by rfl, ?_⟩) (by assumption) ?_
    rotate_left
    ·intro w h; (try dsimp only at h); go_simp; (try rfl)
    try simp only [Act.put]
    refine tkL 7 ?_ rfl (by kernel_rfl) rfl (.inl ⟨by rfl, ?_⟩) (by assumption) ?_
    rotate_left
    ·intro w h; (try dsimp only at h); go_simp; (try rfl)
    try simp only [Act.put]
    refine wpAnyL_ready (rs := [8]) (by kernel_rfl) (by simp) ?_
    refine AllReadyL.cons rfl (fun K hK => ?_) AllReadyL.nil
    go_simp
    have hba : Below w6.heap.size w6 (w6.alloc (.cells #[.slice none 0 0] 27)) := (Below.refl _ _).alloc (Nat.le_refl _) _
    have hBx : Blk 27 (w6.alloc (.cells #[.slice none 0 0] 27)) w6.heap.size [.slice none 0 0] := heap_alloc_new w6 _
    refine hK.out _ _ ⟨cell_keepK hba hHeld6.1, cell_keepK hba hHeld6.2⟩ (fun hHeld7 => ?_)
    clear hK K
    try simp only [Act.put, z4, z5, z6]
    have hbw7 : Below w4.heap.size w4 (w6.alloc (.cells #[.slice none 0 0] 27)) := hbw6.trans (hba.mono hbw6.size)
    obtain ⟨w7, hww7⟩ : ∃ W, w6.alloc (.cells #[.slice none 0 0] 27) = W := ⟨_, rfl⟩
    rw [hww7] at hba hBx hbw7 hHeld7 ⊢
    clear hww7
    obtain ⟨bx, hbx⟩ : ∃ n, w6.heap.size = n := ⟨_, rfl⟩
    have hbx4 : w4.heap.size ≤ bx := by rw [← hbx]; exact hbw6.size
    have HBX : Hid (w6.heap.size = bx) := hbx
    rw [hbx] at hBx ⊢
    clear hbx
    have f0 := hBx.frozen 0
    have y0 := hBx.cell (j := 0) rfl
    refine wpAnyL_ready (rs := [9]) (by kernel_rfl) (by simp) ?_
    refine AllReadyL.cons rfl (fun K hK => ?_) AllReadyL.nil
    go_simp
    have hxb : bx ≠ xd := by have := HN4.out.lt; omega
    refine hK.out _ _ ⟨by rw [World.cell?_setCell_far _ _ _ _ hxb]; exact hHeld7.1, by rw [World.cell?_setCell_far _ _ _ _ hxb]; exact hHeld7.2⟩ (fun hHeld9 => ?_)
    clear hK K
    try simp only [Act.put, z4, z5, z6]
    refine tkL 10 ?_ rfl (by kernel_rfl) rfl (.inl ⟨by rfl, ?_⟩) (by assumption) ?_
    rotate_left
    ·intro w h; (try dsimp only at h); go_simp; (try rfl)
    try simp only [Act.put]
    refine wpAnyL_ready (rs := [11]) (by kernel_rfl) (by simp) ?_
    refine AllReadyL.last rfl (by kernel_rfl) (fun K hK => ?_)
    go_simp
    refine hK.out _ _ ?_
    clear hK K
    try simp only [Act.put, z4, z5, z6]
    refine wpAnyL_done (by kernel_rfl) ?_ _
    have hset := hBx.set 0 (.slice pl I.length cl)
    exact ⟨bx, _, _, _, _, _, _, _, _, _, I, rfl, hset.cell (j := 0) rfl, ints_ownsT (owns_offC (owns_goC hIi hba) (p := ⟨bx, 0, none⟩) (fun q hq => by have h1 := (hIi.lt q hq).2; have h2 := HBX.out; show q ≠ bx; omega) _), hIp, hIl, hbw7.setCell (p := ⟨bx, 0, none⟩) (by show _ ≤ bx; omega) _⟩
   ·go_simp
    have hba : Below w5.heap.size w5 (w5.alloc (.cells #[.slice none 0 0] 27)) := (Below.refl _ _).alloc (Nat.le_refl _) _
    have hBx : Blk 27 (w5.alloc (.cells #[.slice none 0 0] 27)) w5.heap.size [.slice none 0 0] := heap_alloc_new w5 _
    refine hK.out _ _ ⟨cell_keepK hba hHeld5.1, cell_keepK hba hHeld5.2⟩ (fun hHeld7 => ?_)
    clear hK K
    try simp only [Act.put, z4, z5, z6]
    have hbw7 : Below w4.heap.size w4 (w5.alloc (.cells #[.slice none 0 0] 27)) := hbw5.trans (hba.mono hbw5.size)
    obtain ⟨w7, hww7⟩ : ∃ W, w5.alloc (.cells #[.slice none 0 0] 27) = W := ⟨_, rfl⟩
    rw [hww7] at hba hBx hbw7 hHeld7 ⊢
    clear hww7
    obtain ⟨bx, hbx⟩ : ∃ n, w5.heap.size = n := ⟨_, rfl⟩
    have hbx4 : w4.heap.size ≤ bx := by rw [← hbx]; exact hbw5.size
    rw [hbx] at hBx ⊢
    clear hbx
    refine wpAnyL_ready (rs := [3]) (by kernel_rfl) (by simp) ?_
    refine AllReadyL.cons rfl (fun K hK => ?_) AllReadyL.nil
    go_simp
    refine (HJ2.out w7 (.slice pg DL.length cg) _ (HG4.out.go hbw7) (hbi.go hba)).mono ?_
    rintro e w8 ⟨lv, I, rfl, hIi, hIp, hIl, hjb⟩
    obtain ⟨pl, cl, rfl⟩ := owns_formP hIi
    have hbw8 : Below w4.heap.size w4 w8 := hbw7.trans (hjb.mono hbw7.size)
    refine hK.out _ _ ⟨cell_keepK hjb hHeld7.1, cell_keepK hjb hHeld7.2⟩ (fun hHeld8 => ?_)
    clear hK K
    try simp only [Act.put, z4, z5, z6]
    refine tkL 4 ?_ rfl (by kernel_rfl) rfl (.inl ⟨by rfl, ?_⟩) (by assumption) ?_
    rotate_left
    ·intro w h; (try dsimp only at h); go_simp; (try rfl)
    try simp only [Act.put, z4]
    refine tkL 5 ?_ rfl (by kernel_rfl) rfl (.inl ⟨by rfl, ?_⟩) (by assumption) ?_
    rotate_left
    ·intro w h; (try dsimp only at h); go_simp; (try rfl)
    try simp only [Act.put]
    refine tkL 6 ?_ rfl (by kernel_rfl) rfl (.inl ⟨by rfl, ?_⟩) (by assumption) ?_
    rotate_left
    ·intro w h; (try dsimp only at h); go_simp; (try rfl)
    try simp only [Act.put]
    refine tkL 7 ?_ rfl (by kernel_rfl) rfl (.inl ⟨by rfl, ?_⟩) (by assumption) ?_
    rotate_left
    ·intro w h; (try dsimp only at h); go_simp; (try rfl)
    try simp only [Act.put]
    have hBx8 := hBx.go hjb
    have f0 := hBx8.frozen 0
    have y0 := hBx8.cell (j := 0) rfl
    refine wpAnyL_ready (rs := [9]) (by kernel_rfl) (by simp) ?_
    refine AllReadyL.cons rfl (fun K hK => ?_) AllReadyL.nil
    go_simp
    have hxb : bx ≠ xd := by have := HN4.out.lt; omega
    refine hK.out _ _ ⟨by rw [World.cell?_setCell_far _ _ _ _ hxb]; exact hHeld8.1, by rw [World.cell?_setCell_far _ _ _ _ hxb]; exact hHeld8.2⟩ (fun hHeld9 => ?_)
    clear hK K
    try simp only [Act.put, z4, z5, z6]
    refine tkL 10 ?_ rfl (by kernel_rfl) rfl (.inl ⟨by rfl, ?_⟩) (by assumption) ?_
    rotate_left
    ·intro w h; (try dsimp only at h); go_simp; (try rfl)
    try simp only [Act.put]
    refine wpAnyL_ready (rs := [11]) (by kernel_rfl) (by simp) ?_
    refine AllReadyL.last rfl (by kernel_rfl) (fun K hK => ?_)
    go_simp
    refine hK.out _ _ ?_
    clear hK K
    try simp only [Act.put, z4, z5, z6]
    refine wpAnyL_done (by kernel_rfl) ?_ _
    have hset := hBx8.set 0 (.slice pl I.length cl)
    exact ⟨bx, _, _, _, _, _, _, _, _, _, I, rfl, hset.cell (j := 0) rfl, ints_ownsT (owns_lowset hIi (p := ⟨bx, 0, none⟩) hBx.lt _), hIp, hIl, hbw8.setCell (p := ⟨bx, 0, none⟩) (by show _ ≤ bx; omega) _⟩
  ·go_simp
   have hba : Below w4.heap.size w4 ((w4.alloc (.cells #[.slice none 0 0] 27)).drew) := ((Grew.refl w4).alloc _ |>.drewN 1).below
   have hBx : Blk 27 ((w4.alloc (.cells #[.slice none 0 0] 27)).drew) w4.heap.size [.slice none 0 0] := heap_alloc_new w4 _
   have hlx4 : w4.heap.size < ((w4.alloc (.cells #[.slice none 0 0] 27)).drew).heap.size := hBx.lt
   refine hK.out _ _ ⟨cell_keepK hba n0, cell_keepK hba n1⟩ (fun hHeld7 => ?_)
   clear hK K
   try simp only [Act.put, z4, z5, z6]
   obtain ⟨w7, hww7⟩ : ∃ W, ((w4.alloc (.cells #[.slice none 0 0] 27)).drew) = W := ⟨_, rfl⟩
   rw [hww7] at hba hBx hHeld7 hlx4 ⊢
   clear hww7
   have hbw7 : Below w4.heap.size w4 w7 := hba
   refine wpAnyL_ready (rs := [2]) (by kernel_rfl) (by simp) ?_
   refine AllReadyL.cons rfl (fun K hK => ?_) AllReadyL.nil
   go_simp
   refine (oddOnes_any (F : Int) DL (by have := HDL.out; omega) (.slice pg DL.length cg) w7 (HG4.out.go hbw7)).mono ?_
   rintro e w5 ⟨bv, rfl, hbi, hbo⟩
   obtain ⟨pq, cq, rfl⟩ := hbi.len
   have hbw5 : Below w4.heap.size w4 w5 := hbw7.trans (hbo.mono hbw7.size)
   refine hK.out _ _ ⟨cell_keepK hbo hHeld7.1, cell_keepK hbo hHeld7.2⟩ (fun hHeld5 => ?_)
   clear hK K
   try simp only [Act.put, z4, z5, z6]
   refine wpAnyL_ready (rs := [3]) (by kernel_rfl) (by simp) ?_
   refine AllReadyL.cons rfl (fun K hK => ?_) AllReadyL.nil
   go_simp
   refine (HJ2.out w5 (.slice pg DL.length cg) _ (HG4.out.go hbw5) hbi).mono ?_
   rintro e w8 ⟨lv, I, rfl, hIi, hIp, hIl, hjb⟩
   obtain ⟨pl, cl, rfl⟩ := owns_formP hIi
   have hbw8 : Below w4.heap.size w4 w8 := hbw5.trans (hjb.mono hbw5.size)
   refine hK.out _ _ ⟨cell_keepK hjb hHeld5.1, cell_keepK hjb hHeld5.2⟩ (fun hHeld8 => ?_)
   clear hK K
   try simp only [Act.put, z4, z5, z6]
   refine tkL 4 ?_ rfl (by kernel_rfl) rfl (.inl ⟨by rfl, ?_⟩) (by assumption) ?_
   rotate_left
   ·intro w h; (try dsimp only at h); go_simp; (try rfl)
   try simp only [Act.put, z4]
   refine tkL 5 ?_ rfl (by kernel_rfl) rfl (.inl ⟨by rfl, ?_⟩) (by assumption) ?_
   rotate_left
   ·intro w h; (try dsimp only at h); go_simp; (try rfl)
   try simp only [Act.put]
   refine tkL 6 ?_ rfl (by kernel_rfl) rfl (.inl ⟨by rfl, ?_⟩) (by assumption) ?_
   rotate_left
   ·intro w h; (try dsimp only at h); go_simp; (try rfl)
   try simp only [Act.put]
   refine tkL 7 ?_ rfl (by kernel_rfl) rfl (.inl ⟨by rfl, ?_⟩) (by assumption) ?_
   rotate_left
   ·intro w h; (try dsimp only at h); go_simp; (try rfl)
   try simp only [Act.put]
   have hBx8 := (hBx.go hbo).go hjb
   have f0 := hBx8.frozen 0
   have y0 := hBx8.cell (j := 0) rfl
   refine wpAnyL_ready (rs := [9]) (by kernel_rfl) (by simp) ?_
   refine AllReadyL.cons rfl (fun K hK => ?_) AllReadyL.nil
   go_simp
   have hxb : w4.heap.size ≠ xd := by have := HN4.out.lt; omega
   refine hK.out _ _ ⟨by rw [World.cell?_setCell_far _ _ _ _ hxb]; exact hHeld8.1, by rw [World.cell?_setCell_far _ _ _ _ hxb]; exact hHeld8.2⟩ (fun hHeld9 => ?_)
   clear hK K
   try simp only [Act.put, z4, z5, z6]
   refine tkL 10 ?_ rfl (by kernel_rfl) rfl (.inl ⟨by rfl, ?_⟩) (by assumption) ?_
   rotate_left
   ·intro w h; (try dsimp only at h); go_simp; (try rfl)
   try simp only [Act.put]
   refine wpAnyL_ready (rs := [11]) (by kernel_rfl) (by simp) ?_
   refine AllReadyL.last rfl (by kernel_rfl) (fun K hK => ?_)
   go_simp
   refine hK.out _ _ ?_
   clear hK K
   try simp only [Act.put, z4, z5, z6]
   refine wpAnyL_done (by kernel_rfl) ?_ _
   have hset := hBx8.set 0 (.slice pl I.length cl)
   exact ⟨w4.heap.size, _, _, _, _, _, _, _, _, _, I, rfl, hset.cell (j := 0) rfl, ints_ownsT (owns_lowset hIi (p := ⟨w4.heap.size, 0, none⟩) (hBx.go hbo).lt _), hIp, hIl, hbw8.setCell (p := ⟨w4.heap.size, 0, none⟩) (by show _ ≤ w4.heap.size; omega) _⟩
 ·rintro a' w5 ⟨bx, v26, v27, v28, v29, v30, v31, v32, v33, iv, I, rfl, hbx, hIi, hIp, hIl, hb5⟩
  have hb5w : Below w.heap.size w w5 := HB3.out.trans ((HB4.out.trans (hb5.mono HB4.out.size)).mono HB3.out.size)
  have hX5 : Blk 24 w5 w.heap.size [.int .i64 (N : Int), .slice p l.length c] := (HX3.out.go HB4.out).go hb5
  have g0 := hX5.cell (j := 0) rfl
  have g1 := hX5.cell (j := 1) rfl
  have HB5 : Hid (Below w.heap.size w w5) := hb5w
  have HBX : Hid (w5.cell? ⟨bx, 0, none⟩ = some iv) := hbx
  have HIi : Hid (Ints w5.heap.size w5 iv I) := hIi
  clear hb5 hb5w hX5 HX3 HB3 HN4 HB4 HG3 HG4 HJ2 n0 n1 hbx hIi HLr
  go_wp2
  refine wp_region_held_drew (S := (fun w' : World => w'.cell? ⟨w.heap.size, 0, none⟩ = some (.int .i64 (N : Int)) ∧ w'.cell? ⟨w.heap.size, 1, none⟩ = some (.slice p l.length c))) (by kernel_rfl) ⟨g0, g1⟩ (fun hHeld => ?_)
  try simp only [z1, z2, z3, z4, z5, z6]
  refine tkH 0 ?_ rfl (by kernel_rfl) rfl (.inl ⟨by rfl, ?_⟩) (by assumption) ?_
  rotate_left
  ·intro w h; (try dsimp only at h); go_simp; (try rfl)
  try simp only [Act.put, z4]
  refine tkH 1 ?_ rfl (by kernel_rfl) rfl (.inl ⟨by rfl, ?_⟩) (by assumption) ?_
  rotate_left
  ·intro w h; (try dsimp only at h); go_simp; (try rfl)
  try simp only [Act.put]
  refine tkH 3 ?_ rfl (by kernel_rfl) rfl (.inl ⟨by rfl, ?_⟩) (by assumption) ?_
  rotate_left
  ·intro w h; (try dsimp only at h); go_simp; (try rfl)
  try simp only [Act.put]
  refine tkH 5 ?_ rfl (by kernel_rfl) rfl (.inl ⟨by rfl, ?_⟩) (by assumption) ?_
  rotate_left
  ·intro w h; (try dsimp only at h); go_simp; (try rfl)
  try simp only [Act.put]
  refine wpAnyH_ready (rs := [2]) (by kernel_rfl) (by simp) ?_
  refine AllReadyH.cons rfl (fun K hK => ?_) AllReadyH.nil
  go_simp
  have hbd : Below w5.heap.size w5 w5.drew := below_drewN (Below.refl _ _) 1
  have hsp := spread_any N l HR.out 33 #[.pointer (some ⟨bx, 0, none⟩)] (fun _ _ => by kernel_rfl) (.slice p l.length c) w5.drew (HL.out.go (HB5.out.trans (hbd.mono HB5.out.size))) (fun i _ W hW => uncut_any (i : Int) I hIp hIl iv bx W (cell_keepK (hbd.trans hW) HBX.out) ((HIi.out.below (hbd.trans hW)).mono (hbd.trans hW).size))
  refine hsp.mono ?_
  rintro e w6 ⟨g, SD, rfl, hg, hSD, hSl, hS0, hb6⟩
  clear hsp
  have hb56 : Below w5.heap.size w5 w6 := hbd.trans hb6
  refine hK.out _ _ ⟨cell_keepK hb56 g0, cell_keepK hb56 g1⟩ (fun hHeld6 => ?_)
  clear hK K hHeld g0 g1
  have HB6 : Hid (Below w.heap.size w w6) := HB5.out.trans (hb56.mono HB5.out.size)
  have hgw : w.heap.size ≤ g := Nat.le_trans HB5.out.size hg
  clear hb56 hb6 hbd HBX HIi hg
  try simp only [Act.put, z4, z5, z6]
  refine wpAnyH_ready (rs := [4]) (by kernel_rfl) (by simp) ?_
  refine AllReadyH.cons rfl (fun K hK => ?_) AllReadyH.nil
  go_simp
  refine (total_any (N : Int) l hm1 HWt.out (.slice p l.length c) w6 (HL.out.go HB6.out)).mono ?_
  rintro e w7 ⟨rfl, hb7⟩
  refine hK.out _ _ ⟨cell_keepK hb7 hHeld6.1, cell_keepK hb7 hHeld6.2⟩ (fun hHeld7 => ?_)
  clear hK K hHeld6
  have hfew := sumC_few HWt.out l.length (Nat.le_refl _)
  have hwr : IntKind.i64.wrap (sumC l l.length - cost) = sumC l l.length - cost := wrap_i _ (by omega) (by omega)
  have HB7 : Hid (Below w.heap.size w w7) := HB6.out.trans (hb7.mono HB6.out.size)
  have HSD : Hid (Blk 4 w7 g (SD.map Value.bool)) := hSD.go hb7
  clear hb7 hfew hSD
  obtain ⟨tot, htot⟩ : ∃ t, sumC l l.length = t := ⟨_, rfl⟩
  have HTOT : Hid (sumC l l.length = tot) := htot
  rw [htot] at hwr ⊢
  clear htot
  try simp only [Act.put, z4, z5, z6]
  refine tkH 6 ?_ rfl (by kernel_rfl) rfl (.inl ⟨by rfl, ?_⟩) (by assumption) ?_
  rotate_left
  ·intro w h; (try dsimp only at h); go_simp; (try rfl)
  try simp only [Act.put]
  try simp only [z1, z2, z3, z4, z5, z6]
  refine tkH 7 ?_ rfl (by kernel_rfl) rfl (.inl ⟨by rfl, ?_⟩) (by assumption) ?_
  rotate_left
  ·intro w h; (try dsimp only at h); go_simp; (try rfl)
  try simp only [Act.put]
  refine tkH 8 ?_ rfl (by kernel_rfl) rfl (.inl ⟨by rfl, ?_⟩) (by assumption) ?_
  rotate_left
  ·intro w h; (try dsimp only at h); go_simp; (try rfl)
  try simp only [Act.put]
  refine tkH 9 ?_ rfl (by kernel_rfl) rfl (.inl ⟨by rfl, ?_⟩) (by assumption) ?_
  rotate_left
  ·intro w h; (try dsimp only at h); go_simp; (try rfl)
  try simp only [Act.put]
  refine wpAnyH_done (by kernel_rfl) ?_ _
  try simp only [z1, z2, z3, z4, z5, z6]
  go_wp2
  try simp only [z1, z2, z3, z4, z5, z6]
  refine bodyPost_ret (v := .tuple #[.slice (some ⟨g, 0, none⟩) N N, .int .i64 (tot - cost), .int .i64 0]) (by simp [results, Tryz.results16, go_sem]) rfl ?_
  exact ⟨g, SD, by rw [HTOT.out], hgw, HSD.out, hSl, hS0, HB7.out⟩
def exW : List Ed := [(0, 1, 1), (0, 2, 2), (1, 2, 3)]
def LZ : List Eg := [(0, 1, 1), (1, 0, 2), (0, 1, 3)]
theorem exW_right : RightG ((3 : Nat) : Int) exW := right_iff.1 (by decide)
theorem exW_sys : SysR 3 exW exR := by
 refine ⟨rfl, fun v hv => ?_⟩
 match v, hv with
 | 0, _ => decide
 | 1, _ => decide
 | 2, _ => decide
theorem exW_faces : facesL 3 exW exR = [[(0, 1), (1, 2), (2, 0)], [(0, 2), (2, 1), (1, 0)]] := by kernel_rfl
theorem exW_nums : numsL 3 exW exR = [2] := by kernel_rfl
theorem exW_dual : dualL (facesL 3 exW exR) exW = LZ.map edE := by kernel_rfl
theorem exW_len : (facesL 3 exW exR).length = 2 := by rw [exW_faces]; rfl
theorem exW_odd : oddK 2 (LZ.map edE) (iotaI 3 3) = [0, 1] := by decide
theorem LZ_ends : ∀ e ∈ LZ, e.1 < 2 ∧ e.2.1 < 2 := by decide
theorem LZ_few : ∀ e ∈ LZ, e.2.2 ≤ 2147483647 := by decide
theorem LZ_right : rgtW ((2 : Nat) : Int) (LZ.map edE) = 0 := by decide
theorem LZ_conn : ConnT LZ 1 0 := ⟨[1], 1, (0, 1, 1), by simp [LZ], .inr ⟨rfl, rfl⟩, 0, rfl, rfl, rfl⟩
theorem LZ_dist : ∃ D, IsD LZ 1 2 D ∧ at' D 0 = 1 := ⟨relN LZ (dist0 2 1) 2, relN_isD (by omega) (dist0_bf LZ (by omega)) LZ_ends LZ_few, by decide⟩
theorem joinZ (W : World) (gv bv : Value) (hg : Edges W.heap.size W gv (LZ.map edE)) (hb : Ints W.heap.size W bv [0, 1]) : Calls Tryz.prog 31 #[.agg #[.int .i64 2, gv], bv] W fun e w' => JoinP W 1 e w' := by
 refine (join_two 2 LZ 0 1 (by omega) (by omega) (by omega) LZ_right (by decide) LZ_ends LZ_few LZ_conn gv bv W hg hb).mono ?_
 rintro e w' ⟨lv, T, rfl, hl, ho, hr, _, hs, hbel⟩
 obtain ⟨D, h1, h2⟩ := LZ_dist
 rw [hs D h1, h2]
 have hk := trueK_len T T.length
 refine ⟨lv, trueL T, rfl, ho, (rs_iff.1 hr).2, ?_, hbel⟩
 show (trueK T T.length).length ≤ _
 rw [hl] at hk ⊢
 have : LZ.length = 3 := rfl
 omega
theorem aliveC_any (w : World) : Calls Tryz.prog 9 #[] w fun r w' => r = .returned (.bool true) ∧ Below w.heap.size w w' := by
 have hmix := mixed
 obtain ⟨w1, hw1⟩ : ∃ W, w.alloc (.cells #[.int .i64 0, .int .i64 1, .int .i64 1, .int .i64 0, .int .i64 2, .int .i64 2, .int .i64 1, .int .i64 2, .int .i64 3] 50) = W := ⟨_, rfl⟩
 obtain ⟨w2, hw2⟩ : ∃ W, w1.alloc (.cells #[.int .i64 3, .slice (some ⟨w.heap.size, 0, none⟩) 3 3] 24) = W := ⟨_, rfl⟩
 obtain ⟨w3, hw3⟩ : ∃ W, w2.alloc (.cells #[.int .i64 1, .int .i64 2] 3) = W := ⟨_, rfl⟩
 obtain ⟨w4, hw4⟩ : ∃ W, w3.alloc (.cells #[.int .i64 2, .int .i64 0] 3) = W := ⟨_, rfl⟩
 obtain ⟨w5, hw5⟩ : ∃ W, w4.alloc (.cells #[.int .i64 0, .int .i64 1] 3) = W := ⟨_, rfl⟩
 obtain ⟨w6, hw6⟩ : ∃ W, w5.alloc (.cells #[.slice (some ⟨w.heap.size + 1 + 1, 0, none⟩) 2 2, .slice (some ⟨w.heap.size + 1 + 1 + 1, 0, none⟩) 2 2, .slice (some ⟨w.heap.size + 1 + 1 + 1 + 1, 0, none⟩) 2 2] 27) = W := ⟨_, rfl⟩
 have hs1 : w1.heap.size = w.heap.size + 1 := by rw [← hw1]; simp
 have hs2 : w2.heap.size = w.heap.size + 1 + 1 := by rw [← hw2]; simp [hs1]
 have hs3 : w3.heap.size = w.heap.size + 1 + 1 + 1 := by rw [← hw3]; simp [hs2]
 have hs4 : w4.heap.size = w.heap.size + 1 + 1 + 1 + 1 := by rw [← hw4]; simp [hs3]
 have hs5 : w5.heap.size = w.heap.size + 1 + 1 + 1 + 1 + 1 := by rw [← hw5]; simp [hs4]
 have hb1 : Below w.heap.size w w1 := by rw [← hw1]; exact (Below.refl _ _).alloc (Nat.le_refl _) _
 have hb2 : Below w1.heap.size w1 w2 := by rw [← hw2]; exact (Below.refl _ _).alloc (Nat.le_refl _) _
 have hb3 : Below w2.heap.size w2 w3 := by rw [← hw3]; exact (Below.refl _ _).alloc (Nat.le_refl _) _
 have hb4 : Below w3.heap.size w3 w4 := by rw [← hw4]; exact (Below.refl _ _).alloc (Nat.le_refl _) _
 have hb5 : Below w4.heap.size w4 w5 := by rw [← hw5]; exact (Below.refl _ _).alloc (Nat.le_refl _) _
 have hb6 : Below w5.heap.size w5 w6 := by rw [← hw6]; exact (Below.refl _ _).alloc (Nat.le_refl _) _
 have hE1 : Blk 50 w1 w.heap.size (flat exW) := by rw [← hw1]; exact heap_alloc_new w _
 have hG2 : Blk 24 w2 (w.heap.size + 1) [.int .i64 3, .slice (some ⟨w.heap.size, 0, none⟩) 3 3] := by rw [← hs1, ← hw2]; exact heap_alloc_new w1 _
 have h3 : Blk 3 w3 (w.heap.size + 1 + 1) (([1, 2] : List Int).map (Value.int .i64)) := by rw [← hs2, ← hw3]; exact heap_alloc_new w2 _
 have h4 : Blk 3 w4 (w.heap.size + 1 + 1 + 1) (([2, 0] : List Int).map (Value.int .i64)) := by rw [← hs3, ← hw4]; exact heap_alloc_new w3 _
 have h5 : Blk 3 w5 (w.heap.size + 1 + 1 + 1 + 1) (([0, 1] : List Int).map (Value.int .i64)) := by rw [← hs4, ← hw5]; exact heap_alloc_new w4 _
 have h6 : Blk 27 w6 (w.heap.size + 1 + 1 + 1 + 1 + 1) [.slice (some ⟨w.heap.size + 1 + 1, 0, none⟩) 2 2, .slice (some ⟨w.heap.size + 1 + 1 + 1, 0, none⟩) 2 2, .slice (some ⟨w.heap.size + 1 + 1 + 1 + 1, 0, none⟩) 2 2] := by rw [← hs5, ← hw6]; exact heap_alloc_new w5 _
 have hb26 : Below w2.heap.size w2 w6 := ((hb3.trans (hb4.mono hb3.size)).trans (hb5.mono (Nat.le_trans hb3.size hb4.size))).trans (hb6.mono (Nat.le_trans (Nat.le_trans hb3.size hb4.size) hb5.size))
 have hb16 : Below w1.heap.size w1 w6 := hb2.trans (hb26.mono hb2.size)
 have hE6 : Edges w6.heap.size w6 (.slice (some ⟨w.heap.size, 0, none⟩) 3 3) exW := hE1.edges.go hb16
 have i1 := ((h3.go hb4).go hb5).go hb6
 have i2 := (h4.go hb5).go hb6
 have i3 := h5.go hb6
 have hLs : Lsts w6.heap.size w6 (.slice (some ⟨w.heap.size + 1 + 1 + 1 + 1 + 1, 0, none⟩) 3 3) exR := by
  refine .inr ⟨_, 0, 3, rfl, h6.lt, Nat.le_refl _, fun j x hx => ?_⟩
  match j, hx with
  | 0, hx => cases hx; exact ⟨_, h6.cell (j := 0) rfl, i1.ints⟩
  | 1, hx => cases hx; exact ⟨_, h6.cell (j := 1) rfl, i2.ints⟩
  | 2, hx => cases hx; exact ⟨_, h6.cell (j := 2) rfl, i3.ints⟩
  | j + 3, hx => exact absurd (List.getElem?_eq_some_iff.1 hx).1 (by simp [exR])
 have hbw6 : Below w.heap.size w w6 := hb1.trans (hb16.mono hb1.size)
 have hmax := maxC_any 3 exW exW_right exR exW_sys (by rw [exW_nums]; rfl) (by decide) (by decide) 1 (by omega) (by omega) (fun W gv bv h1 h2 => by
  rw [exW_dual] at h1
  rw [exW_dual, exW_len] at h2
  rw [exW_len]
  have h3 : Ints W.heap.size W bv [0, 1] := by
   have e : oddK ((2 : Nat) : Int) (LZ.map edE) (iotaI exW.length exW.length) = [0, 1] := exW_odd
   rw [e] at h2
   exact h2
  exact joinZ W gv bv h1 h3) (.slice (some ⟨w.heap.size, 0, none⟩) 3 3) (.slice (some ⟨w.heap.size + 1 + 1 + 1 + 1 + 1, 0, none⟩) 3 3) w6 hE6 hLs
 have HB : Hid (Below w.heap.size w w6) := hbw6
 rw [show sumC exW exW.length - 1 = 5 from by decide] at hmax
 clear hs1 hs2 hs3 hs4 hs5 hb1 hb2 hb3 hb4 hb5 hb6 hE1 hG2 h3 h4 h5 h6 hb26 hb16 hE6 i1 i2 i3 hLs hbw6
 subst hw6
 subst hw5
 subst hw4
 subst hw3
 subst hw2
 subst hw1
 go_enter Tryz.func9, Tryz.ntmps9
 go_wp2_with fail
 refine hmax.mono ?_
 rintro e w7 ⟨g, SD, rfl, hg, hSD, hSl, hS0, hb7⟩
 clear hmax
 have s0 := hSD.bcell (v := 0) (by omega)
 rw [hS0] at s0
 have HB7 : Hid (Below w.heap.size w w7) := HB.out.trans (hb7.mono HB.out.size)
 clear hb7 hSD hSl hS0 HB hg
 go_wp2
 go_ret
 exact ⟨rfl, HB7.out⟩
def sameI (A B : List Int) : Bool := A == B
theorem same_no {A B : List Int} (h : A ≠ B) : sameI A B = false := by simpa [sameI] using h
theorem same_yes {A B : List Int} (h : A = B) : sameI A B = true := by simpa [sameI] using h
theorem refIntsW_any (A B : List Int) (av bv : Value) (w : World) (hA : Ints w.heap.size w av A) (hB : Ints w.heap.size w bv B) (hm : A.length ≤ 1000000) :
  Calls Tryz.prog 14 #[av, bv] w fun r w' => r = .returned (.bool (sameI A B)) ∧ ∃ q, w' = w.drewN q := by
 have hmix := mixed
 obtain ⟨pa, ca, rfl, hoa⟩ := hA.openW
 obtain ⟨pb, cb, rfl, hob⟩ := hB.openW
 by_cases hl : A.length = B.length
 ·rw [← hl]
  have HL : Hid _ := hl
  have HOA := fun (j : Nat) (hj : j < A.length) => hoa (j := j) hj
  have HOB := fun (j : Nat) (hj : j < B.length) => hob (j := j) hj
  have HA : Hid _ := HOA
  have HB : Hid _ := HOB
  clear hoa hob hl hA hB HOA HOB
  go_enter Tryz.func14, Tryz.ntmps14
  go_wp2
  go_loopw [5] (fun i wr => ∃ j : Nat, j ≤ A.length ∧ i = .int .i64 j ∧ Hid (∀ k, k < j → at' A k = at' B k) ∧ ∃ q, wr = w.drewN q) (fun i _ => A.length - (intOf i).toNat)
  case atStart => exact ⟨0, Nat.zero_le _, rfl, (fun k hk => by omega), 0, rfl⟩
  case round =>
   obtain ⟨j, hj, rfl, HE, q, rfl⟩ := hrel
   by_cases hjl : j < A.length
   ·obtain ⟨ba, oa, rfl, hba, hca⟩ := HA.out j hjl
    obtain ⟨bb, ob, rfl, hbb, hcb⟩ := HB.out j (by rw [← HL.out]; exact hjl)
    have a0 := hca (w.drewN q) (below_drewN (Below.refl _ _) q) j hjl
    have b0 := hcb (w.drewN q) (below_drewN (Below.refl _ _) q) j (by rw [← HL.out]; exact hjl)
    have hjl' : (j : Int) < (A.length : Int) := by omega
    clear hca hcb
    by_cases he : at' A j = at' B j
    ·have HE2 : Hid (∀ k, k < j + 1 → at' A k = at' B k) := fun k hk => by
      by_cases e : k = j
      ·subst e; exact he
      ·exact HE.out k (by omega)
     rw [← he] at b0
     clear HE he
     generalize at' A j = x at *
     go_wp2
     obtain ⟨wq, HQ⟩ : ∃ wq, Hid (w.drewN q = wq) := ⟨_, show Hid _ from rfl⟩
     rw [HQ.out] at a0 b0 ⊢
     go_quiet (fail)
     go_wp2
     exact ⟨⟨j + 1, by omega, by go_num, HE2, q + nq, by rw [← HQ.out, World.drewN_drewN]⟩, by simp [intOf]; omega⟩
    ·have HN : Hid (sameI A B = false) := same_no fun h => he (by rw [h])
     clear HE
     generalize at' A j = x at *
     generalize at' B j = y at *
     go_wp2
     obtain ⟨wq, HQ⟩ : ∃ wq, Hid (w.drewN q = wq) := ⟨_, show Hid _ from rfl⟩
     rw [HQ.out] at a0 b0 ⊢
     go_quiet (fail)
     go_wp2
     go_ret
     exact ⟨by rw [HN.out]; rfl, q + nq, by rw [← HQ.out, World.drewN_drewN]⟩
   ·obtain rfl : j = A.length := by omega
    have HY : Hid (sameI A B = true) := same_yes (by
     refine List.ext_getElem HL.out fun k h1 h2 => ?_
     rw [← at_get h1, ← at_get h2]
     exact HE.out k h1)
    clear HE
    go_wp2
    go_ret
    exact ⟨by rw [HY.out]; rfl, q, rfl⟩
 ·have hl' : ¬ (A.length : Int) = (B.length : Int) := by omega
  have HN : Hid (sameI A B = false) := same_no fun h => hl (by rw [h])
  clear hoa hob
  go_enter Tryz.func14, Tryz.ntmps14
  go_wp2
  go_ret
  exact ⟨by rw [HN.out]; rfl, 0, rfl⟩
end Go.Proofs.YtalflecmadacaaaGreat
