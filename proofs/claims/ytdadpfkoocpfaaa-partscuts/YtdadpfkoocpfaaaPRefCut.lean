/-
  The contract of the reference's Cuts.
-/
import Derived.Deep.RegionHeld3
import Derived.Test.YtdadpfkoocpfaaaPRefBri
import Derived.Test.YtdadpfkoocpfaaaPRefNear
namespace Go.Proofs.Ytdadpfkoocpfaaa
open Go Go.Proofs Go.RowKit

def cutP (N : Nat) (l : List Ed) (v : Nat) : Bool := decide (0 < (nb l (v : Int)).length) && decide (comps N l + 1 < comps N (cutG N l v))
theorem Edges.setHigh {W : World} {sv : Value} {l : List Ed} (h : Edges W.heap.size W sv l) {W' : World} (hb : Below W.heap.size W W') : Edges W'.heap.size W' sv l := h.go hb

set_option maxRecDepth 100000 in
set_option maxHeartbeats 8000000 in
theorem refCuts_any (N : Nat) (l : List Ed) (hR : RightG (N : Int) l) (sv : Value) (w : World) (hl : Edges w.heap.size w sv l) :
    Calls Try.prog 17 #[.agg #[.int .i64 (N : Int), sv]] w fun r w' => ∃ lv, r = .returned lv ∧ Ints w'.heap.size w' lv (thoseL (cutP N l) N) ∧ Below w.heap.size w w' := by
  have hmix := mixed
  obtain ⟨p, c, rfl⟩ := hl.len
  have hg1 : Grew w (w.alloc (.cells #[.int .i64 (N : Int), .slice p l.length c] 24)) := (Grew.refl w).alloc _
  have hX1 : Blk 24 (w.alloc (.cells #[.int .i64 (N : Int), .slice p l.length c] 24)) w.heap.size [.int .i64 (N : Int), .slice p l.length c] := heap_alloc_new w _
  obtain ⟨i0, hi, hz0, hz1, hz2⟩ := info_parts infoI
  have hn1 := hR.n1
  have hm1 := hR.m1
  have q0 := hX1.cell (j := 0) rfl
  have q1 := hX1.cell (j := 1) rfl
  have hcm := refComponents_any N l hR _ _ (hl.go hg1.below)
  go_enter Try.func17, Try.ntmps17
  go_wp2_with fail
  refine hcm.mono ?_
  clear hcm
  rintro e w2 ⟨lv2, svs2, h2, rfl, hG2, hb2⟩
  have hls : ∃ p2 c2, lv2 = .slice p2 (comps N l) c2 := hG2.lsts.len
  obtain ⟨p2, c2, rfl⟩ := hls
  have hbw2 := hg1.below.trans (hb2.mono hg1.below.size)
  have hX2 := hX1.go hb2
  have x0 := hX2.cell (j := 0) rfl
  have x1 := hX2.cell (j := 1) rfl
  have hcl := comps_le N l
  have hnr := refNear_any N l hR _ _ (hl.go hbw2)
  clear q0 q1 hX1 hb2 hg1 hG2
  go_wp2_with fail
  refine hnr.mono ?_
  clear hnr
  rintro e w3 ⟨nv, rfl, hL3, hb3⟩
  have hbw3 := hbw2.trans (hb3.mono hbw2.size)
  have hX3 := hX2.go hb3
  have hwl : w.heap.size < w3.heap.size := hX3.lt
  have z0 := hX3.cell (j := 0) rfl
  have z1 := hX3.cell (j := 1) rfl
  obtain ⟨pn, cn, hnv⟩ := hL3.len
  rw [nearL_len] at hnv
  subst hnv
  obtain ⟨Pk, HPk⟩ : ∃ Pk, Hid (Pk = cutP N l) := ⟨_, rfl⟩
  have HP : Hid (∀ j, Pk j = (decide (0 < (nb l (j : Int)).length) && decide (comps N l + 1 < comps N (cutG N l j)))) := fun _ => by rw [HPk.out]; rfl
  clear x0 x1 hX2 hb3 hX3 hbw2
  go_wp2
  go_loopw [3, 6] (fun ov iv wr => ∃ j : Nat, j ≤ N ∧ iv = .int .i64 j ∧ wr.ownsRow w3.heap.size 3 1 ov (thoseL Pk j).length ((thoseL Pk j).map (Value.int .i64)) ∧ Below w3.heap.size w3 wr) (fun _ iv _ => N - (intOf iv).toNat)
  case atStart => exact ⟨0, Nat.zero_le _, rfl, World.ownsRow_nil _ _ _ _, Below.refl _ _⟩
  case round =>
    obtain ⟨j, hj, rfl, hown, hb⟩ := hrel
    have r0 := (hb.cell (p := ⟨w.heap.size, 0, none⟩) hwl).trans z0
    have r1 := (hb.cell (p := ⟨w.heap.size, 1, none⟩) hwl).trans z1
    have hbw : Below w.heap.size w wr := hbw3.trans (hb.mono (by omega))
    have hml := thoseL_len Pk j
    obtain ⟨ax, cx, rfl⟩ := owns_formP hown
    by_cases hlt : j < N
    · have hjl : (j : Int) < (N : Int) := by omega
      have hlr := hl.go hbw
      have hLr := (hL3.go hb)
      have hjn : j < (nearL N l).length := by rw [nearL_len]; exact hlt
      have hszr := hb.size
      go_wp2
      obtain ⟨xb, hxb⟩ : ∃ xb, xb = w.heap.size := ⟨_, rfl⟩
      rw [← hxb] at r0 r1 hwl ⊢
      have HX : Hid (xb = w.heap.size) := hxb
      clear hxb
      refine wp_region_held_drew (S := (fun w' : World => w'.cell? ⟨xb, 0, none⟩ = some (.int .i64 (N : Int)) ∧ w'.cell? ⟨xb, 1, none⟩ = some (.slice p l.length c))) (by kernel_rfl) ?_ (fun hHeld => ?_)
      · (try dsimp only); go_keep
      refine wpAnyH_take (i := 0) (v := ?_) rfl (by kernel_rfl) (by kernel_rfl) (by kernel_rfl) (fun _ _ _ h => h) (Or.inl ⟨by rfl, ?_⟩) (by assumption) ?_
      rotate_left
      · intro w hSw; (try dsimp only at hSw); go_simp; (try with_reducible rfl)
      try simp only [Act.put, List.setIfInBounds_toArray]
      refine wpAnyH_take (i := 1) (v := ?_) rfl (by kernel_rfl) (by kernel_rfl) (by kernel_rfl) (fun _ _ _ h => h) (Or.inl ⟨by rfl, ?_⟩) (by assumption) ?_
      rotate_left
      · intro w hSw; (try dsimp only at hSw); go_simp; (try with_reducible rfl)
      try simp only [Act.put]
      refine wpAnyH_take (i := 2) (v := ?_) rfl (by kernel_rfl) (by kernel_rfl) (by kernel_rfl) (fun _ _ _ h => h) (Or.inl ⟨by rfl, ?_⟩) (by assumption) ?_
      rotate_left
      · intro w hSw; (try dsimp only at hSw); go_simp; (try with_reducible rfl)
      try simp only [Act.put]
      refine wpAnyH_take (i := 3) (v := ?_) rfl (by kernel_rfl) (by kernel_rfl) (by kernel_rfl) (fun _ _ _ h => h) (Or.inl ⟨by rfl, ?_⟩) (by assumption) ?_
      rotate_left
      · intro w hSw; (try dsimp only at hSw); go_simp; (try with_reducible rfl)
      try simp only [Act.put]
      have hbd : Below wr.heap.size wr wr.drew := below_drewN (Below.refl _ _) 1
      have hszd := hbd.size
      generalize wr.drew = wd at *
      refine wpAnyH_ready (rs := [4, 6]) (by kernel_rfl) (by simp) ?_
      refine AllReadyH.cons rfl (fun K hK => ?_) (AllReadyH.cons rfl (fun K hK => ?_) AllReadyH.nil)
      go_simp
      refine (refAll_any N (by omega) j _).mono ?_
      rintro e w4 ⟨sk, rfl, hB4, hb4⟩
      have hb34 := hbd.trans (hb4.mono hbd.size)
      refine hK.out _ _ ⟨cell_keepK hb34 r0, cell_keepK hb34 r1⟩ (fun hHeld4 => ?_)
      clear hK K hHeld
      try simp only [Act.put, List.setIfInBounds_toArray, List.set_cons_zero, List.set_cons_succ]
      refine wpAnyH_ready (rs := [5, 6]) (by kernel_rfl) (by simp) ?_
      refine AllReadyH.cons rfl (fun K hK => ?_) (AllReadyH.cons rfl (fun K hK => ?_) AllReadyH.nil)
      go_simp
      refine (refOnly_at (N : Int) l hR (butL N j) _ _ _ (hlr.go hb34) hB4).mono ?_
      rintro e w5 ⟨gv, rfl, hE5, hA5, hb5⟩
      have hE5' : Edges w5.heap.size w5 gv (cutG N l j) := hE5
      have hb35 := hb34.trans (hb5.mono hb34.size)
      refine hK.out _ _ ⟨cell_keepK hb5 hHeld4.1, cell_keepK hb5 hHeld4.2⟩ (fun hHeld5 => ?_)
      clear hK K hE5
      obtain ⟨pg, cg, rfl⟩ := hE5'.len
      try simp only [Act.put, List.setIfInBounds_toArray, List.set_cons_zero, List.set_cons_succ]
      refine wpAnyH_ready (rs := [6]) (by kernel_rfl) (by simp) ?_
      refine AllReadyH.cons rfl (fun K hK => ?_) AllReadyH.nil
      have hbA : Below w5.heap.size w5 (w5.alloc (.cells #[.int .i64 0, .slice none 0 0] 24)) := (Below.refl _ _).alloc (Nat.le_refl _) _
      have hBA : Blk 24 (w5.alloc (.cells #[.int .i64 0, .slice none 0 0] 24)) w5.heap.size [.int .i64 0, .slice none 0 0] := heap_alloc_new w5 _
      go_simp
      refine hK.out _ _ ⟨cell_keepK hbA hHeld5.1, cell_keepK hbA hHeld5.2⟩ (fun hHeld6 => ?_)
      clear hK K
      try simp only [Act.put, List.setIfInBounds_toArray, List.set_cons_zero, List.set_cons_succ]
      obtain ⟨wA, hwA⟩ : ∃ wA, wA = w5.alloc (.cells #[.int .i64 0, .slice none 0 0] 24) := ⟨_, rfl⟩
      rw [← hwA] at hbA hBA hHeld6 ⊢
      clear hwA
      have hsz5 := hb35.size
      have n0 := hBA.cell (j := 0) rfl
      have n1 := hBA.cell (j := 1) rfl
      have f0 := hBA.frozen 0
      have f1 := (hBA.set 0 (.int .i64 (N : Int))).frozen 1
      have n2 := (hBA.set 0 (.int .i64 (N : Int))).cell (j := 1) rfl
      have hB8 := (hBA.set 0 (.int .i64 (N : Int))).set 1 (.slice pg (cutG N l j).length cg)
      refine wpAnyH_ready (rs := [7]) (by kernel_rfl) (by simp) ?_
      refine AllReadyH.cons rfl (fun K hK => ?_) AllReadyH.nil
      have hxb7 : xb ≠ w5.heap.size := by omega
      go_simp
      refine hK.out _ _ ?_ (fun hHeld8 => ?_)
      · (try dsimp only); first | (go_keep; done) | ((repeat' apply And.intro) <;> go_simp)
      clear hK K
      have hE8 : Edges ((wA.setCell ⟨w5.heap.size, 0, none⟩ (.int .i64 (N : Int))).setCell ⟨w5.heap.size, 1, none⟩ (.slice pg (cutG N l j).length cg)).heap.size ((wA.setCell ⟨w5.heap.size, 0, none⟩ (.int .i64 (N : Int))).setCell ⟨w5.heap.size, 1, none⟩ (.slice pg (cutG N l j).length cg)) (.slice pg (cutG N l j).length cg) (cutG N l j) := hE5'.go ((hbA.setCell (p := ⟨w5.heap.size, 0, none⟩) (Nat.le_refl _) _).setCell (p := ⟨w5.heap.size, 1, none⟩) (Nat.le_refl _) _)
      have hb8 : Below wr.heap.size wr ((wA.setCell ⟨w5.heap.size, 0, none⟩ (.int .i64 (N : Int))).setCell ⟨w5.heap.size, 1, none⟩ (.slice pg (cutG N l j).length cg)) := hb35.trans (((hbA.setCell (p := ⟨w5.heap.size, 0, none⟩) (Nat.le_refl _) _).setCell (p := ⟨w5.heap.size, 1, none⟩) (Nat.le_refl _) _).mono hb35.size)
      try simp only [Act.put, List.setIfInBounds_toArray, List.set_cons_zero, List.set_cons_succ]
      refine wpAnyH_done (by kernel_rfl) ?_ _
      obtain ⟨w8, hw8⟩ : ∃ w8, w8 = (wA.setCell ⟨w5.heap.size, 0, none⟩ (.int .i64 (N : Int))).setCell ⟨w5.heap.size, 1, none⟩ (.slice pg (cutG N l j).length cg) := ⟨_, rfl⟩
      obtain ⟨b7, hb7⟩ : ∃ b7, b7 = w5.heap.size := ⟨_, rfl⟩
      rw [← hw8, ← hb7] at hB8 ⊢
      rw [← hw8] at hE8 hb8
      clear hw8 hb7 hb35 hb5 hHeld8 hHeld6 hHeld5 hHeld4 hbA hBA hb34 hb4 hB4 hbd hE5' hA5 n0 n1 n2 f0 f1 hxb7 hsz5
      rotate_left
      have hbA : Below w4.heap.size w4 (w4.alloc (.cells #[.int .i64 0, .slice none 0 0] 24)) := (Below.refl _ _).alloc (Nat.le_refl _) _
      have hBA : Blk 24 (w4.alloc (.cells #[.int .i64 0, .slice none 0 0] 24)) w4.heap.size [.int .i64 0, .slice none 0 0] := heap_alloc_new w4 _
      go_simp
      refine hK.out _ _ ⟨cell_keepK hbA hHeld4.1, cell_keepK hbA hHeld4.2⟩ (fun hHeld6 => ?_)
      clear hK K
      try simp only [Act.put, List.setIfInBounds_toArray, List.set_cons_zero, List.set_cons_succ]
      obtain ⟨wA, hwA⟩ : ∃ wA, wA = w4.alloc (.cells #[.int .i64 0, .slice none 0 0] 24) := ⟨_, rfl⟩
      rw [← hwA] at hbA hBA hHeld6 ⊢
      clear hwA
      have hb3A := hb34.trans (hbA.mono hb34.size)
      refine wpAnyH_ready (rs := [5]) (by kernel_rfl) (by simp) ?_
      refine AllReadyH.cons rfl (fun K hK => ?_) AllReadyH.nil
      go_simp
      refine (refOnly_at (N : Int) l hR (butL N j) _ _ _ (hlr.go hb3A) (hB4.go hbA)).mono ?_
      rintro e w5 ⟨gv, rfl, hE5, hA5, hb5⟩
      have hE5' : Edges w5.heap.size w5 gv (cutG N l j) := hE5
      have hb35 := hb3A.trans (hb5.mono hb3A.size)
      refine hK.out _ _ ⟨cell_keepK hb5 hHeld6.1, cell_keepK hb5 hHeld6.2⟩ (fun hHeld5 => ?_)
      clear hK K hE5
      obtain ⟨pg, cg, rfl⟩ := hE5'.len
      try simp only [Act.put, List.setIfInBounds_toArray, List.set_cons_zero, List.set_cons_succ]
      have hsz5 := hb34.size
      have hlt4 := hBA.lt
      have hBA5 := hBA.go hb5
      have n0 := hBA5.cell (j := 0) rfl
      have n1 := hBA5.cell (j := 1) rfl
      have f0 := hBA5.frozen 0
      have f1 := (hBA5.set 0 (.int .i64 (N : Int))).frozen 1
      have n2 := (hBA5.set 0 (.int .i64 (N : Int))).cell (j := 1) rfl
      have hB8 := (hBA5.set 0 (.int .i64 (N : Int))).set 1 (.slice pg (cutG N l j).length cg)
      refine wpAnyH_ready (rs := [7]) (by kernel_rfl) (by simp) ?_
      refine AllReadyH.cons rfl (fun K hK => ?_) AllReadyH.nil
      have hxb7 : xb ≠ w4.heap.size := by omega
      go_simp
      refine hK.out _ _ ?_ (fun hHeld8 => ?_)
      · (try dsimp only); first | (go_keep; done) | ((repeat' apply And.intro) <;> go_simp)
      clear hK K
      have hE8 : Edges ((w5.setCell ⟨w4.heap.size, 0, none⟩ (.int .i64 (N : Int))).setCell ⟨w4.heap.size, 1, none⟩ (.slice pg (cutG N l j).length cg)).heap.size ((w5.setCell ⟨w4.heap.size, 0, none⟩ (.int .i64 (N : Int))).setCell ⟨w4.heap.size, 1, none⟩ (.slice pg (cutG N l j).length cg)) (.slice pg (cutG N l j).length cg) (cutG N l j) := (hE5'.setLow hA5 (p := ⟨w4.heap.size, 0, none⟩) hlt4 _).setLow hA5 (p := ⟨w4.heap.size, 1, none⟩) hlt4 _
      have hb8 : Below wr.heap.size wr ((w5.setCell ⟨w4.heap.size, 0, none⟩ (.int .i64 (N : Int))).setCell ⟨w4.heap.size, 1, none⟩ (.slice pg (cutG N l j).length cg)) := (hb35.setCell (p := ⟨w4.heap.size, 0, none⟩) hsz5 _).setCell (p := ⟨w4.heap.size, 1, none⟩) hsz5 _
      try simp only [Act.put, List.setIfInBounds_toArray, List.set_cons_zero, List.set_cons_succ]
      refine wpAnyH_done (by kernel_rfl) ?_ _
      obtain ⟨w8, hw8⟩ : ∃ w8, w8 = (w5.setCell ⟨w4.heap.size, 0, none⟩ (.int .i64 (N : Int))).setCell ⟨w4.heap.size, 1, none⟩ (.slice pg (cutG N l j).length cg) := ⟨_, rfl⟩
      obtain ⟨b7, hb7⟩ : ∃ b7, b7 = w4.heap.size := ⟨_, rfl⟩
      rw [← hw8, ← hb7] at hB8 ⊢
      rw [← hw8] at hE8 hb8
      clear hw8 hb7 hb35 hb5 hHeld8 hHeld6 hHeld5 hHeld4 hbA hBA hBA5 hb34 hb3A hb4 hB4 hbd hE5' hA5 n0 n1 n2 f0 f1 hxb7 hsz5 hlt4
      rotate_left
      have hbA : Below wd.heap.size wd (wd.alloc (.cells #[.int .i64 0, .slice none 0 0] 24)) := (Below.refl _ _).alloc (Nat.le_refl _) _
      have hBA : Blk 24 (wd.alloc (.cells #[.int .i64 0, .slice none 0 0] 24)) wd.heap.size [.int .i64 0, .slice none 0 0] := heap_alloc_new wd _
      go_simp
      refine hK.out _ _ ⟨cell_keepK hbA hHeld.1, cell_keepK hbA hHeld.2⟩ (fun hHeld6 => ?_)
      clear hK K
      try simp only [Act.put, List.setIfInBounds_toArray, List.set_cons_zero, List.set_cons_succ]
      obtain ⟨wA, hwA⟩ : ∃ wA, wA = wd.alloc (.cells #[.int .i64 0, .slice none 0 0] 24) := ⟨_, rfl⟩
      rw [← hwA] at hbA hBA hHeld6 ⊢
      clear hwA
      have hbdA := hbd.trans (hbA.mono hbd.size)
      refine wpAnyH_ready (rs := [4]) (by kernel_rfl) (by simp) ?_
      refine AllReadyH.cons rfl (fun K hK => ?_) AllReadyH.nil
      go_simp
      refine (refAll_any N (by omega) j _).mono ?_
      rintro e w4 ⟨sk, rfl, hB4, hb4⟩
      have hb34 := hbdA.trans (hb4.mono hbdA.size)
      refine hK.out _ _ ⟨cell_keepK hb4 hHeld6.1, cell_keepK hb4 hHeld6.2⟩ (fun hHeld4 => ?_)
      clear hK K
      try simp only [Act.put, List.setIfInBounds_toArray, List.set_cons_zero, List.set_cons_succ]
      refine wpAnyH_ready (rs := [5]) (by kernel_rfl) (by simp) ?_
      refine AllReadyH.cons rfl (fun K hK => ?_) AllReadyH.nil
      go_simp
      refine (refOnly_at (N : Int) l hR (butL N j) _ _ _ (hlr.go hb34) hB4).mono ?_
      rintro e w5 ⟨gv, rfl, hE5, hA5, hb5⟩
      have hE5' : Edges w5.heap.size w5 gv (cutG N l j) := hE5
      have hb35 := hb34.trans (hb5.mono hb34.size)
      refine hK.out _ _ ⟨cell_keepK hb5 hHeld4.1, cell_keepK hb5 hHeld4.2⟩ (fun hHeld5 => ?_)
      clear hK K hE5
      obtain ⟨pg, cg, rfl⟩ := hE5'.len
      try simp only [Act.put, List.setIfInBounds_toArray, List.set_cons_zero, List.set_cons_succ]
      have hsz5 := hbd.size
      have hlt4 : wd.heap.size < w4.heap.size := Nat.lt_of_lt_of_le hBA.lt hb4.size
      have hBA5 := (hBA.go hb4).go hb5
      generalize hbx : wd.heap.size = bx at *
      have n0 := hBA5.cell (j := 0) rfl
      have n1 := hBA5.cell (j := 1) rfl
      have f0 := hBA5.frozen 0
      have f1 := (hBA5.set 0 (.int .i64 (N : Int))).frozen 1
      have n2 := (hBA5.set 0 (.int .i64 (N : Int))).cell (j := 1) rfl
      have hB8 := (hBA5.set 0 (.int .i64 (N : Int))).set 1 (.slice pg (cutG N l j).length cg)
      refine wpAnyH_ready (rs := [7]) (by kernel_rfl) (by simp) ?_
      refine AllReadyH.cons rfl (fun K hK => ?_) AllReadyH.nil
      have hxb7 : xb ≠ bx := by omega
      go_simp
      refine hK.out _ _ ?_ (fun hHeld8 => ?_)
      · (try dsimp only); first | (go_keep; done) | ((repeat' apply And.intro) <;> go_simp)
      clear hK K
      have hE8 : Edges ((w5.setCell ⟨bx, 0, none⟩ (.int .i64 (N : Int))).setCell ⟨bx, 1, none⟩ (.slice pg (cutG N l j).length cg)).heap.size ((w5.setCell ⟨bx, 0, none⟩ (.int .i64 (N : Int))).setCell ⟨bx, 1, none⟩ (.slice pg (cutG N l j).length cg)) (.slice pg (cutG N l j).length cg) (cutG N l j) := (hE5'.setLow hA5 (p := ⟨bx, 0, none⟩) hlt4 _).setLow hA5 (p := ⟨bx, 1, none⟩) hlt4 _
      have hb8 : Below wr.heap.size wr ((w5.setCell ⟨bx, 0, none⟩ (.int .i64 (N : Int))).setCell ⟨bx, 1, none⟩ (.slice pg (cutG N l j).length cg)) := (hb35.setCell (p := ⟨bx, 0, none⟩) hsz5 _).setCell (p := ⟨bx, 1, none⟩) hsz5 _
      try simp only [Act.put, List.setIfInBounds_toArray, List.set_cons_zero, List.set_cons_succ]
      refine wpAnyH_done (by kernel_rfl) ?_ _
      obtain ⟨w8, hw8⟩ : ∃ w8, w8 = (w5.setCell ⟨bx, 0, none⟩ (.int .i64 (N : Int))).setCell ⟨bx, 1, none⟩ (.slice pg (cutG N l j).length cg) := ⟨_, rfl⟩
      obtain ⟨b7, hb7⟩ : ∃ b7, b7 = bx := ⟨_, rfl⟩
      rw [← hw8, ← hb7] at hB8 ⊢
      rw [← hw8] at hE8 hb8
      clear hw8 hb7 hb35 hb5 hHeld8 hHeld6 hHeld5 hHeld4 hbA hBA hBA5 hb34 hbdA hb4 hB4 hbd hHeld hE5' hA5 n0 n1 n2 f0 f1 hxb7 hsz5 hlt4 hbx
      all_goals
        have hxx := HX.out
        subst hxx
        have G0 := hB8.cell (j := 0) rfl
        have G1 := hB8.cell (j := 1) rfl
        have hbw8 : Below w3.heap.size w3 w8 := hb.trans (hb8.mono hb.size)
        have hown8 := owns_below hown hb8
        have hL8 := hLr.go hb8
        have hR8 : RightG (N : Int) (cutG N l j) := keep_right hR _
        have hco := refComponents_any N (cutG N l j) hR8 _ _ hE8
        clear hB8 hE8 hown hLr hlr
        go_wp2_with fail
        refine hco.mono ?_
        clear hco
        rintro e w9 ⟨lv9, svs9, h9, rfl, hG9, hb9⟩
        have hls : ∃ p2 c2, lv9 = .slice p2 (comps N (cutG N l j)) c2 := hG9.lsts.len
        obtain ⟨p9, c9, rfl⟩ := hls
        have hbw9 := hbw8.trans (hb9.mono hbw8.size)
        have hown9 := owns_below hown8 hb9
        have hL9 := hL8.go hb9
        have hcl9 := comps_le N (cutG N l j)
        have hPj := HP.out j
        have HS : Hid (thoseL Pk (j + 1) = thoseL Pk j ++ (if Pk j then [(j : Int)] else [])) := thoseL_succ Pk j
        obtain ⟨bn, offn, hpn, hbn, hcn, px, cxx, hIx, k9⟩ := (show Lsts w9.heap.size w9 (.slice pn (nearL N l).length cn) (nearL N l) by rw [nearL_len]; exact hL9).cellAt hjn
        have hne : (nearL N l)[j] = nb l (j : Int) := by
          have := nearL_at (l := l) hlt
          rw [List.getElem?_eq_getElem hjn] at this
          exact Option.some.inj this
        rw [hne] at k9
        subst hpn
        rw [nearL_len] at hcn
        generalize (nb l (j : Int)).length = dg at *
        clear hG9 hb9 hbw8 hown8 hL8 hL9 hb8 r0 r1 G0 G1 hIx hne hb hbw hL3
        generalize thoseL Pk j = R at *
        generalize hcg : comps N (cutG N l j) = cc at *
        clear hcg
        have hno : Pk j = false → Hid (thoseL Pk (j + 1) = R) := fun e => by rw [Hid, HS.out, e]; simp
        by_cases h1 : 0 < dg
        · have h1' : (0 : Int) < (dg : Int) := by omega
          by_cases h2 : comps N l + 1 < cc
          · have h2' : (comps N l : Int) < (cc : Int) - 1 := by omega
            have HS2 : Hid (thoseL Pk (j + 1) = R ++ [(j : Int)]) := by rw [Hid, HS.out, hPj, decide_eq_true h1, decide_eq_true h2]; rfl
            clear HS hPj h1 h2 hno
            have hownA := hown9.alloc (.cells #[.int .i64 (j : Int)] 3)
            have hnews := one_cell w9 (.int .i64 (j : Int)) 3
            have hone : ∀ z ∈ [Value.int .i64 (j : Int)], z.oneCell' = true := by intro z hz; rw [List.mem_singleton.1 hz]; rfl
            have hmx : R.length + 1 ≤ maxLen := by unfold maxLen; omega
            have hby : (R.length + 1) * 8 ≤ 140737488355328 := by omega
            have hbs : w3.heap.size ≤ (w9.alloc (.cells #[.int .i64 (j : Int)] 3)).heap.size := by have := hbw9.size; simp; omega
            have hlow : ∀ k, (Value.slice ax R.length cx).ownBlock = some k → w3.heap.size ≤ k := fun k hk => (hown9.lt k hk).1
            go_wp2_with (at_builtin; refine wpList_append_own_at _ rfl _ _ 33 rfl w3.heap.size 3 i0 (.int .i64 0) 1 8 Try.underlying33 hi hz0 hz1 hz2 rfl (by decide) (.slice ax R.length cx) _ _ rfl hownA ⟨w9.heap.size, 0, none⟩ 1 1 [.int .i64 (j : Int)] rfl rfl hnews hone hmx hby hbs ?_)
            intro v7 w7 hown7 hg7 hnil7 hat7
            obtain ⟨a7, m7, k7, rfl⟩ := owns_slice hown7
            have hb7 : Below w3.heap.size w3 w7 := (hbw9.alloc hbw9.size _).grown hg7 hbs hlow
            have hown7' : w7.ownsRow w3.heap.size 3 1 (.slice a7 m7 k7) (R ++ [(j : Int)]).length ((R ++ [(j : Int)]).map (Value.int .i64)) := by
              rw [List.length_append, List.map_append]; exact hown7
            clear hown7 hg7 hnil7 hat7 hownA hnews hone
            go_wp2
            exact ⟨⟨j + 1, by omega, by go_num, by rw [HS2.out]; exact hown7', hb7⟩, by simp [intOf]; omega⟩
          · have h2' : ¬ (comps N l : Int) < (cc : Int) - 1 := by omega
            have HS2 := hno (by rw [hPj, decide_eq_false h2, Bool.and_false])
            clear HS hPj h1 h2 hno
            go_wp2
            exact ⟨⟨j + 1, by omega, by go_num, by rw [HS2.out]; exact hown9, hbw9⟩, by simp [intOf]; omega⟩
        · have h1' : ¬ (0 : Int) < (dg : Int) := by omega
          have HS2 := hno (by rw [hPj, decide_eq_false h1, Bool.false_and])
          clear HS hPj h1 hno
          go_wp2
          exact ⟨⟨j + 1, by omega, by go_num, by rw [HS2.out]; exact hown9, hbw9⟩, by simp [intOf]; omega⟩
    · obtain rfl : j = N := by omega
      have hjl : ¬ (j : Int) < (j : Int) := by omega
      have hI := owns_intsP hown
      generalize (thoseL Pk j).length = m at *
      go_wp2
      go_ret
      exact ⟨.slice ax m cx, rfl, by rw [← HPk.out]; exact hI, hbw⟩
end Go.Proofs.Ytdadpfkoocpfaaa
