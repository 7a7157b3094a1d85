import Derived.Test.YtalflecmadacaaaGreatZBP
import Derived.Test.YtalflecmadacaaaGreatZAA
set_option maxRecDepth 100000
set_option maxHeartbeats 8000000
namespace Go.Proofs.YtalflecmadacaaaGreat
open Go Go.Proofs Go.RowKit
section
variable (x : Nat) (w0 : World) (Bk : Nat → Nat) (b off c q : Nat) (sp : Value)
theorem plant_any (hP : FP x w0 Bk b off c) (w : World) (hM : FM x w0 Bk (.slice (some ⟨b, off, none⟩) 1 q) (VS c sp nA nB nC (-(c : Int)) (-(c : Int)) (-1) (-1)) w) : Calls Tryz.prog 142 #[.pointer (some ⟨Bk 0, 0, none⟩)] w fun e w' => e = .returned (.tuple #[]) ∧ FM x w0 Bk (.slice (some ⟨b, off, none⟩) 1 q) (VS c sp A2 B2 C0 (-(c : Int)) (-(c : Int)) (-1) (-1)) w' := by
 have hmix := mixed
 have HP : Hid (FP x w0 Bk b off c) := hP
 have k2 := hM.cell 0 2 (by omega) rfl
 have d1 : Bk 0 ≠ Bk 1 := hP.ne (by omega) (by omega) (by omega)
 have HM : Hid (FM x w0 Bk (.slice (some ⟨b, off, none⟩) 1 q) (VS c sp nA nB nC (-(c : Int)) (-(c : Int)) (-1) (-1)) w) := hM
 clear hM hP
 go_enter Tryz.func142, Tryz.ntmps142
 go_wp2
 go_loopw [9] (fun i wr => (i = .int .i64 0 ∧ FM x w0 Bk (.slice (some ⟨b, off, none⟩) 1 q) (VS c sp nA nB nC (-(c : Int)) (-(c : Int)) (-1) (-1)) wr) ∨ (i = .int .i64 1 ∧ FM x w0 Bk (.slice (some ⟨b, off, none⟩) 1 q) (VS c sp A0 nB nC (-(c : Int)) (-(c : Int)) (-1) (-1)) wr) ∨ (i = .int .i64 2 ∧ FM x w0 Bk (.slice (some ⟨b, off, none⟩) 1 q) (VS c sp A0 B0 nC (-(c : Int)) (-(c : Int)) (-1) (-1)) wr) ∨ (i = .int .i64 3 ∧ FM x w0 Bk (.slice (some ⟨b, off, none⟩) 1 q) (VS c sp A0 B0 C0 (-(c : Int)) (-(c : Int)) (-1) (-1)) wr)) (fun i _ => 3 - (intOf i).toNat)
 case atStart => exact .inl ⟨rfl, HM.out⟩
 case round =>
  clear HM k2
  rcases hrel with ⟨rfl, hM⟩ | ⟨rfl, hM⟩ | ⟨rfl, hM⟩ | ⟨rfl, hM⟩
  ·have k2 := hM.cell 0 2 (by omega) rfl
   have hxw : x ≤ wr.heap.size := by have h1 := hM.lt 0 (by omega); have h2 := HP.out.lo 0 (by omega); omega
   have HM : Hid (FM x w0 Bk (.slice (some ⟨b, off, none⟩) 1 q) (VS c sp nA nB nC (-(c : Int)) (-(c : Int)) (-1) (-1)) wr) := hM
   clear hM
   go_wp2
   refine wp_region_held_drew (S := (fun w' : World => w'.cell? ⟨Bk 0, 2, none⟩ = some (.slice (some ⟨Bk 1, 0, none⟩) 3 3))) (by kernel_rfl) k2 (fun hHeld => ?_)
   refine tkH 0 ?_ rfl (by kernel_rfl) rfl (.inl ⟨by rfl, ?_⟩) (by assumption) ?_
   rotate_left
   ·intro w h; (try dsimp only at h); go_simp; (try rfl)
   try simp only [Act.put, z4]
   refine tkH 1 ?_ rfl (by kernel_rfl) rfl (.inl ⟨by rfl, ?_⟩) (by assumption) ?_
   rotate_left
   ·intro w h; (try dsimp only at h); go_simp; (try rfl)
   try simp only [Act.put]
   refine tkH 2 ?_ rfl (by kernel_rfl) rfl (.inl ⟨by rfl, ?_⟩) (by assumption) ?_
   rotate_left
   ·intro w h; (try dsimp only at h); go_simp; (try rfl)
   try simp only [Act.put]
   refine tkH 3 ?_ rfl (by kernel_rfl) rfl (.inl ⟨by rfl, ?_⟩) (by assumption) ?_
   rotate_left
   ·intro w h; (try dsimp only at h); go_simp; (try rfl)
   try simp only [Act.put]
   refine tkH 4 ?_ rfl (by kernel_rfl) rfl (.inl ⟨by rfl, ?_⟩) (by assumption) ?_
   rotate_left
   ·intro w h; (try dsimp only at h); go_simp; (try rfl)
   try simp only [Act.put]
   refine tkH 5 ?_ rfl (by kernel_rfl) rfl (.inl ⟨by rfl, ?_⟩) (by assumption) ?_
   rotate_left
   ·intro w h; (try dsimp only at h); go_simp; (try rfl)
   try simp only [Act.put]
   refine tkH 6 ?_ rfl (by kernel_rfl) rfl (.inl ⟨by rfl, ?_⟩) (by assumption) ?_
   rotate_left
   ·intro w h; (try dsimp only at h); go_simp; (try rfl)
   try simp only [Act.put]
   simp only [z1, z2, z3, z4, z5, z6]
   refine tkH 7 ?_ rfl (by kernel_rfl) rfl (.inl ⟨by rfl, ?_⟩) (by assumption) ?_
   rotate_left
   ·intro w h; (try dsimp only at h); go_simp; (try rfl)
   try simp only [Act.put]
   refine tkH 8 ?_ rfl (by kernel_rfl) rfl (.inl ⟨by rfl, ?_⟩) (by assumption) ?_
   rotate_left
   ·intro w h; (try dsimp only at h); go_simp; (try rfl)
   try simp only [Act.put]
   refine tkH 9 ?_ rfl (by kernel_rfl) rfl (.inl ⟨by rfl, ?_⟩) (by assumption) ?_
   rotate_left
   ·intro w h; (try dsimp only at h); go_simp; (try rfl)
   try simp only [Act.put]
   refine tkH 10 ?_ rfl (by kernel_rfl) rfl (.inl ⟨by rfl, ?_⟩) (by assumption) ?_
   rotate_left
   ·intro w h; (try dsimp only at h); go_simp; (try rfl)
   try simp only [Act.put]
   refine tkH 11 ?_ rfl (by kernel_rfl) rfl (.inl ⟨by rfl, ?_⟩) (by assumption) ?_
   rotate_left
   ·intro w h; (try dsimp only at h); go_simp; (try rfl)
   try simp only [Act.put]
   simp only [z1, z2, z3, z4, z5, z6]
   refine tkH 12 ?_ rfl (by kernel_rfl) rfl (.inl ⟨by rfl, ?_⟩) (by assumption) ?_
   rotate_left
   ·intro w h; (try dsimp only at h); go_simp; (try rfl)
   try simp only [Act.put]
   refine tkH 13 ?_ rfl (by kernel_rfl) rfl (.inl ⟨by rfl, ?_⟩) (by assumption) ?_
   rotate_left
   ·intro w h; (try dsimp only at h); go_simp; (try rfl)
   try simp only [Act.put]
   refine tkH 14 ?_ rfl (by kernel_rfl) rfl (.inl ⟨by rfl, ?_⟩) (by assumption) ?_
   rotate_left
   ·intro w h; (try dsimp only at h); go_simp; (try rfl)
   try simp only [Act.put]
   simp only [z1, z2, z3, z4, z5, z6]
   refine wpAnyH_ready (rs := [15]) (by kernel_rfl) (by simp) ?_
   refine AllReadyH.cons rfl (fun K hK => ?_) AllReadyH.nil
   go_simp
   refine (missing_any wr.drew).mono ?_
   rintro e w2 ⟨rfl, hb2⟩
   have hM2 := HM.out.drew.go hxw hb2
   have hb2s := hb2.size
   refine hK.out _ _ (hM2.cell 0 2 (by omega) rfl) (fun hHeld2 => ?_)
   clear hK K hHeld
   try simp only [Act.put, z4, z5, z6]
   refine wpAnyH_ready (rs := [16]) (by kernel_rfl) (by simp) ?_
   refine AllReadyH.cons rfl (fun K hK => ?_) AllReadyH.nil
   go_simp
   refine (missing_any w2).mono ?_
   rintro e w3 ⟨rfl, hb3⟩
   have hxw2 : x ≤ w2.heap.size := by have h1 := hM2.lt 0 (by omega); have h2 := HP.out.lo 0 (by omega); omega
   have hM3 := hM2.go hxw2 hb3
   refine hK.out _ _ (hM3.cell 0 2 (by omega) rfl) (fun hHeld3 => ?_)
   clear hK K hHeld2 hM2 hb2 hb3 hb2s HM
   try simp only [Act.put, z4, z5, z6]
   have c0 := hM3.cell 1 0 (by omega) rfl
   have f0 := hM3.frozen 1 0 (by omega)
   have c1 := hM3.cell 1 1 (by omega) rfl
   have f1 := hM3.frozen 1 1 (by omega)
   have c2 := hM3.cell 1 2 (by omega) rfl
   have f2 := hM3.frozen 1 2 (by omega)
   have c3 := hM3.cell 1 3 (by omega) rfl
   have f3 := hM3.frozen 1 3 (by omega)
   have c4 := hM3.cell 1 4 (by omega) rfl
   have f4 := hM3.frozen 1 4 (by omega)
   have HM4 : Hid (FM x w0 Bk (.slice (some ⟨b, off, none⟩) 1 q) (VS c sp A0 nB nC (-(c : Int)) (-(c : Int)) (-1) (-1)) (((((w3.setCell ⟨Bk 1, 0, none⟩ (.int .i64 0)).setCell ⟨Bk 1, 1, none⟩ (.int .i64 (-1))).setCell ⟨Bk 1, 2, none⟩ (.int .i64 (-1))).setCell ⟨Bk 1, 3, none⟩ (.int .i64 (-1))).setCell ⟨Bk 1, 4, none⟩ (.int .i64 (-1)))) := (((((hM3.setN HP.out 0 _).setN HP.out 1 _).setN HP.out 2 _).setN HP.out 3 _).setN HP.out 4 _)
   clear hM3
   refine tkH 17 ?_ rfl (by kernel_rfl) rfl (.inl ⟨by rfl, ?_⟩) (by assumption) ?_
   rotate_left
   ·intro w h; (try dsimp only at h); go_simp; (try rfl)
   try simp only [Act.put]
   refine tkH 18 ?_ rfl (by kernel_rfl) rfl (.inl ⟨by rfl, ?_⟩) (by assumption) ?_
   rotate_left
   ·intro w h; (try dsimp only at h); go_simp; (try rfl)
   try simp only [Act.put]
   simp only [z1, z2, z3, z4, z5, z6]
   refine wpAnyH_ready (rs := [19]) (by kernel_rfl) (by simp) ?_
   refine AllReadyH.cons rfl (fun K hK => ?_) AllReadyH.nil
   go_simp
   refine hK.out _ _ ?_ (fun hHeld => ?_)
   ·(try dsimp only); first | (go_keep; done) | ((repeat' apply And.intro) <;> go_simp)
   clear hK K
   try simp only [List.setIfInBounds_toArray, List.set_cons_zero, List.set_cons_succ]
   refine tkH 20 ?_ rfl (by kernel_rfl) rfl (.inl ⟨by rfl, ?_⟩) (by assumption) ?_
   rotate_left
   ·intro w h; (try dsimp only at h); go_simp; (try rfl)
   try simp only [Act.put]
   refine tkH 21 ?_ rfl (by kernel_rfl) rfl (.inl ⟨by rfl, ?_⟩) (by assumption) ?_
   rotate_left
   ·intro w h; (try dsimp only at h); go_simp; (try rfl)
   try simp only [Act.put]
   simp only [z1, z2, z3, z4, z5, z6]
   refine wpAnyH_ready (rs := [22]) (by kernel_rfl) (by simp) ?_
   refine AllReadyH.cons rfl (fun K hK => ?_) AllReadyH.nil
   go_simp
   refine hK.out _ _ ?_ (fun hHeld => ?_)
   ·(try dsimp only); first | (go_keep; done) | ((repeat' apply And.intro) <;> go_simp)
   clear hK K
   try simp only [List.setIfInBounds_toArray, List.set_cons_zero, List.set_cons_succ]
   refine tkH 23 ?_ rfl (by kernel_rfl) rfl (.inl ⟨by rfl, ?_⟩) (by assumption) ?_
   rotate_left
   ·intro w h; (try dsimp only at h); go_simp; (try rfl)
   try simp only [Act.put]
   refine tkH 24 ?_ rfl (by kernel_rfl) rfl (.inl ⟨by rfl, ?_⟩) (by assumption) ?_
   rotate_left
   ·intro w h; (try dsimp only at h); go_simp; (try rfl)
   try simp only [Act.put]
   simp only [z1, z2, z3, z4, z5, z6]
   refine wpAnyH_ready (rs := [25]) (by kernel_rfl) (by simp) ?_
   refine AllReadyH.cons rfl (fun K hK => ?_) AllReadyH.nil
   go_simp
   refine hK.out _ _ ?_ (fun hHeld => ?_)
   ·(try dsimp only); first | (go_keep; done) | ((repeat' apply And.intro) <;> go_simp)
   clear hK K
   try simp only [List.setIfInBounds_toArray, List.set_cons_zero, List.set_cons_succ]
   refine wpAnyH_done (by kernel_rfl) ?_ _
   go_wp2
   have HM := HM4
   exact ⟨.inr (.inl ⟨rfl, HM.out⟩), by simp [intOf]⟩
  ·have k2 := hM.cell 0 2 (by omega) rfl
   have hxw : x ≤ wr.heap.size := by have h1 := hM.lt 0 (by omega); have h2 := HP.out.lo 0 (by omega); omega
   have HM : Hid (FM x w0 Bk (.slice (some ⟨b, off, none⟩) 1 q) (VS c sp A0 nB nC (-(c : Int)) (-(c : Int)) (-1) (-1)) wr) := hM
   clear hM
   go_wp2
   refine wp_region_held_drew (S := (fun w' : World => w'.cell? ⟨Bk 0, 2, none⟩ = some (.slice (some ⟨Bk 1, 0, none⟩) 3 3))) (by kernel_rfl) k2 (fun hHeld => ?_)
   refine tkH 0 ?_ rfl (by kernel_rfl) rfl (.inl ⟨by rfl, ?_⟩) (by assumption) ?_
   rotate_left
   ·intro w h; (try dsimp only at h); go_simp; (try rfl)
   try simp only [Act.put, z4]
   refine tkH 1 ?_ rfl (by kernel_rfl) rfl (.inl ⟨by rfl, ?_⟩) (by assumption) ?_
   rotate_left
   ·intro w h; (try dsimp only at h); go_simp; (try rfl)
   try simp only [Act.put]
   refine tkH 2 ?_ rfl (by kernel_rfl) rfl (.inl ⟨by rfl, ?_⟩) (by assumption) ?_
   rotate_left
   ·intro w h; (try dsimp only at h); go_simp; (try rfl)
   try simp only [Act.put]
   refine tkH 3 ?_ rfl (by kernel_rfl) rfl (.inl ⟨by rfl, ?_⟩) (by assumption) ?_
   rotate_left
   ·intro w h; (try dsimp only at h); go_simp; (try rfl)
   try simp only [Act.put]
   refine tkH 4 ?_ rfl (by kernel_rfl) rfl (.inl ⟨by rfl, ?_⟩) (by assumption) ?_
   rotate_left
   ·intro w h; (try dsimp only at h); go_simp; (try rfl)
   try simp only [Act.put]
   refine tkH 5 ?_ rfl (by kernel_rfl) rfl (.inl ⟨by rfl, ?_⟩) (by assumption) ?_
   rotate_left
   ·intro w h; (try dsimp only at h); go_simp; (try rfl)
   try simp only [Act.put]
   refine tkH 6 ?_ rfl (by kernel_rfl) rfl (.inl ⟨by rfl, ?_⟩) (by assumption) ?_
   rotate_left
   ·intro w h; (try dsimp only at h); go_simp; (try rfl)
   try simp only [Act.put]
   simp only [z1, z2, z3, z4, z5, z6]
   refine tkH 7 ?_ rfl (by kernel_rfl) rfl (.inl ⟨by rfl, ?_⟩) (by assumption) ?_
   rotate_left
   ·intro w h; (try dsimp only at h); go_simp; (try rfl)
   try simp only [Act.put]
   refine tkH 8 ?_ rfl (by kernel_rfl) rfl (.inl ⟨by rfl, ?_⟩) (by assumption) ?_
   rotate_left
   ·intro w h; (try dsimp only at h); go_simp; (try rfl)
   try simp only [Act.put]
   refine tkH 9 ?_ rfl (by kernel_rfl) rfl (.inl ⟨by rfl, ?_⟩) (by assumption) ?_
   rotate_left
   ·intro w h; (try dsimp only at h); go_simp; (try rfl)
   try simp only [Act.put]
   refine tkH 10 ?_ rfl (by kernel_rfl) rfl (.inl ⟨by rfl, ?_⟩) (by assumption) ?_
   rotate_left
   ·intro w h; (try dsimp only at h); go_simp; (try rfl)
   try simp only [Act.put]
   refine tkH 11 ?_ rfl (by kernel_rfl) rfl (.inl ⟨by rfl, ?_⟩) (by assumption) ?_
   rotate_left
   ·intro w h; (try dsimp only at h); go_simp; (try rfl)
   try simp only [Act.put]
   simp only [z1, z2, z3, z4, z5, z6]
   refine tkH 12 ?_ rfl (by kernel_rfl) rfl (.inl ⟨by rfl, ?_⟩) (by assumption) ?_
   rotate_left
   ·intro w h; (try dsimp only at h); go_simp; (try rfl)
   try simp only [Act.put]
   refine tkH 13 ?_ rfl (by kernel_rfl) rfl (.inl ⟨by rfl, ?_⟩) (by assumption) ?_
   rotate_left
   ·intro w h; (try dsimp only at h); go_simp; (try rfl)
   try simp only [Act.put]
   refine tkH 14 ?_ rfl (by kernel_rfl) rfl (.inl ⟨by rfl, ?_⟩) (by assumption) ?_
   rotate_left
   ·intro w h; (try dsimp only at h); go_simp; (try rfl)
   try simp only [Act.put]
   simp only [z1, z2, z3, z4, z5, z6]
   refine wpAnyH_ready (rs := [15]) (by kernel_rfl) (by simp) ?_
   refine AllReadyH.cons rfl (fun K hK => ?_) AllReadyH.nil
   go_simp
   refine (missing_any wr.drew).mono ?_
   rintro e w2 ⟨rfl, hb2⟩
   have hM2 := HM.out.drew.go hxw hb2
   have hb2s := hb2.size
   refine hK.out _ _ (hM2.cell 0 2 (by omega) rfl) (fun hHeld2 => ?_)
   clear hK K hHeld
   try simp only [Act.put, z4, z5, z6]
   refine wpAnyH_ready (rs := [16]) (by kernel_rfl) (by simp) ?_
   refine AllReadyH.cons rfl (fun K hK => ?_) AllReadyH.nil
   go_simp
   refine (missing_any w2).mono ?_
   rintro e w3 ⟨rfl, hb3⟩
   have hxw2 : x ≤ w2.heap.size := by have h1 := hM2.lt 0 (by omega); have h2 := HP.out.lo 0 (by omega); omega
   have hM3 := hM2.go hxw2 hb3
   refine hK.out _ _ (hM3.cell 0 2 (by omega) rfl) (fun hHeld3 => ?_)
   clear hK K hHeld2 hM2 hb2 hb3 hb2s HM
   try simp only [Act.put, z4, z5, z6]
   have c0 := hM3.cell 1 10 (by omega) rfl
   have f0 := hM3.frozen 1 10 (by omega)
   have c1 := hM3.cell 1 11 (by omega) rfl
   have f1 := hM3.frozen 1 11 (by omega)
   have c2 := hM3.cell 1 12 (by omega) rfl
   have f2 := hM3.frozen 1 12 (by omega)
   have c3 := hM3.cell 1 13 (by omega) rfl
   have f3 := hM3.frozen 1 13 (by omega)
   have c4 := hM3.cell 1 14 (by omega) rfl
   have f4 := hM3.frozen 1 14 (by omega)
   have HM4 : Hid (FM x w0 Bk (.slice (some ⟨b, off, none⟩) 1 q) (VS c sp A0 B0 nC (-(c : Int)) (-(c : Int)) (-1) (-1)) (((((w3.setCell ⟨Bk 1, 10, none⟩ (.int .i64 0)).setCell ⟨Bk 1, 11, none⟩ (.int .i64 (-1))).setCell ⟨Bk 1, 12, none⟩ (.int .i64 (-1))).setCell ⟨Bk 1, 13, none⟩ (.int .i64 (-1))).setCell ⟨Bk 1, 14, none⟩ (.int .i64 (-1)))) := (((((hM3.setN HP.out 10 _).setN HP.out 11 _).setN HP.out 12 _).setN HP.out 13 _).setN HP.out 14 _)
   clear hM3
   refine tkH 17 ?_ rfl (by kernel_rfl) rfl (.inl ⟨by rfl, ?_⟩) (by assumption) ?_
   rotate_left
   ·intro w h; (try dsimp only at h); go_simp; (try rfl)
   try simp only [Act.put]
   refine tkH 18 ?_ rfl (by kernel_rfl) rfl (.inl ⟨by rfl, ?_⟩) (by assumption) ?_
   rotate_left
   ·intro w h; (try dsimp only at h); go_simp; (try rfl)
   try simp only [Act.put]
   simp only [z1, z2, z3, z4, z5, z6]
   refine wpAnyH_ready (rs := [19]) (by kernel_rfl) (by simp) ?_
   refine AllReadyH.cons rfl (fun K hK => ?_) AllReadyH.nil
   go_simp
   refine hK.out _ _ ?_ (fun hHeld => ?_)
   ·(try dsimp only); first | (go_keep; done) | ((repeat' apply And.intro) <;> go_simp)
   clear hK K
   try simp only [List.setIfInBounds_toArray, List.set_cons_zero, List.set_cons_succ]
   refine tkH 20 ?_ rfl (by kernel_rfl) rfl (.inl ⟨by rfl, ?_⟩) (by assumption) ?_
   rotate_left
   ·intro w h; (try dsimp only at h); go_simp; (try rfl)
   try simp only [Act.put]
   refine tkH 21 ?_ rfl (by kernel_rfl) rfl (.inl ⟨by rfl, ?_⟩) (by assumption) ?_
   rotate_left
   ·intro w h; (try dsimp only at h); go_simp; (try rfl)
   try simp only [Act.put]
   simp only [z1, z2, z3, z4, z5, z6]
   refine wpAnyH_ready (rs := [22]) (by kernel_rfl) (by simp) ?_
   refine AllReadyH.cons rfl (fun K hK => ?_) AllReadyH.nil
   go_simp
   refine hK.out _ _ ?_ (fun hHeld => ?_)
   ·(try dsimp only); first | (go_keep; done) | ((repeat' apply And.intro) <;> go_simp)
   clear hK K
   try simp only [List.setIfInBounds_toArray, List.set_cons_zero, List.set_cons_succ]
   refine tkH 23 ?_ rfl (by kernel_rfl) rfl (.inl ⟨by rfl, ?_⟩) (by assumption) ?_
   rotate_left
   ·intro w h; (try dsimp only at h); go_simp; (try rfl)
   try simp only [Act.put]
   refine tkH 24 ?_ rfl (by kernel_rfl) rfl (.inl ⟨by rfl, ?_⟩) (by assumption) ?_
   rotate_left
   ·intro w h; (try dsimp only at h); go_simp; (try rfl)
   try simp only [Act.put]
   simp only [z1, z2, z3, z4, z5, z6]
   refine wpAnyH_ready (rs := [25]) (by kernel_rfl) (by simp) ?_
   refine AllReadyH.cons rfl (fun K hK => ?_) AllReadyH.nil
   go_simp
   refine hK.out _ _ ?_ (fun hHeld => ?_)
   ·(try dsimp only); first | (go_keep; done) | ((repeat' apply And.intro) <;> go_simp)
   clear hK K
   try simp only [List.setIfInBounds_toArray, List.set_cons_zero, List.set_cons_succ]
   refine wpAnyH_done (by kernel_rfl) ?_ _
   go_wp2
   have HM := HM4
   exact ⟨.inr (.inr (.inl ⟨rfl, HM.out⟩)), by simp [intOf]⟩
  ·have k2 := hM.cell 0 2 (by omega) rfl
   have hxw : x ≤ wr.heap.size := by have h1 := hM.lt 0 (by omega); have h2 := HP.out.lo 0 (by omega); omega
   have HM : Hid (FM x w0 Bk (.slice (some ⟨b, off, none⟩) 1 q) (VS c sp A0 B0 nC (-(c : Int)) (-(c : Int)) (-1) (-1)) wr) := hM
   clear hM
   go_wp2
   refine wp_region_held_drew (S := (fun w' : World => w'.cell? ⟨Bk 0, 2, none⟩ = some (.slice (some ⟨Bk 1, 0, none⟩) 3 3))) (by kernel_rfl) k2 (fun hHeld => ?_)
   refine tkH 0 ?_ rfl (by kernel_rfl) rfl (.inl ⟨by rfl, ?_⟩) (by assumption) ?_
   rotate_left
   ·intro w h; (try dsimp only at h); go_simp; (try rfl)
   try simp only [Act.put, z4]
   refine tkH 1 ?_ rfl (by kernel_rfl) rfl (.inl ⟨by rfl, ?_⟩) (by assumption) ?_
   rotate_left
   ·intro w h; (try dsimp only at h); go_simp; (try rfl)
   try simp only [Act.put]
   refine tkH 2 ?_ rfl (by kernel_rfl) rfl (.inl ⟨by rfl, ?_⟩) (by assumption) ?_
   rotate_left
   ·intro w h; (try dsimp only at h); go_simp; (try rfl)
   try simp only [Act.put]
   refine tkH 3 ?_ rfl (by kernel_rfl) rfl (.inl ⟨by rfl, ?_⟩) (by assumption) ?_
   rotate_left
   ·intro w h; (try dsimp only at h); go_simp; (try rfl)
   try simp only [Act.put]
   refine tkH 4 ?_ rfl (by kernel_rfl) rfl (.inl ⟨by rfl, ?_⟩) (by assumption) ?_
   rotate_left
   ·intro w h; (try dsimp only at h); go_simp; (try rfl)
   try simp only [Act.put]
   refine tkH 5 ?_ rfl (by kernel_rfl) rfl (.inl ⟨by rfl, ?_⟩) (by assumption) ?_
   rotate_left
   ·intro w h; (try dsimp only at h); go_simp; (try rfl)
   try simp only [Act.put]
   refine tkH 6 ?_ rfl (by kernel_rfl) rfl (.inl ⟨by rfl, ?_⟩) (by assumption) ?_
   rotate_left
   ·intro w h; (try dsimp only at h); go_simp; (try rfl)
   try simp only [Act.put]
   simp only [z1, z2, z3, z4, z5, z6]
   refine tkH 7 ?_ rfl (by kernel_rfl) rfl (.inl ⟨by rfl, ?_⟩) (by assumption) ?_
   rotate_left
   ·intro w h; (try dsimp only at h); go_simp; (try rfl)
   try simp only [Act.put]
   refine tkH 8 ?_ rfl (by kernel_rfl) rfl (.inl ⟨by rfl, ?_⟩) (by assumption) ?_
   rotate_left
   ·intro w h; (try dsimp only at h); go_simp; (try rfl)
   try simp only [Act.put]
   refine tkH 9 ?_ rfl (by kernel_rfl) rfl (.inl ⟨by rfl, ?_⟩) (by assumption) ?_
   rotate_left
   ·intro w h; (try dsimp only at h); go_simp; (try rfl)
   try simp only [Act.put]
   refine tkH 10 ?_ rfl (by kernel_rfl) rfl (.inl ⟨by rfl, ?_⟩) (by assumption) ?_
   rotate_left
   ·intro w h; (try dsimp only at h); go_simp; (try rfl)
   try simp only [Act.put]
   refine tkH 11 ?_ rfl (by kernel_rfl) rfl (.inl ⟨by rfl, ?_⟩) (by assumption) ?_
   rotate_left
   ·intro w h; (try dsimp only at h); go_simp; (try rfl)
   try simp only [Act.put]
   simp only [z1, z2, z3, z4, z5, z6]
   refine tkH 12 ?_ rfl (by kernel_rfl) rfl (.inl ⟨by rfl, ?_⟩) (by assumption) ?_
   rotate_left
   ·intro w h; (try dsimp only at h); go_simp; (try rfl)
   try simp only [Act.put]
   refine tkH 13 ?_ rfl (by kernel_rfl) rfl (.inl ⟨by rfl, ?_⟩) (by assumption) ?_
   rotate_left
   ·intro w h; (try dsimp only at h); go_simp; (try rfl)
   try simp only [Act.put]
   refine tkH 14 ?_ rfl (by kernel_rfl) rfl (.inl ⟨by rfl, ?_⟩) (by assumption) ?_
   rotate_left
   ·intro w h; (try dsimp only at h); go_simp; (try rfl)
   try simp only [Act.put]
   simp only [z1, z2, z3, z4, z5, z6]
   refine wpAnyH_ready (rs := [15]) (by kernel_rfl) (by simp) ?_
   refine AllReadyH.cons rfl (fun K hK => ?_) AllReadyH.nil
   go_simp
   refine (missing_any wr.drew).mono ?_
   rintro e w2 ⟨rfl, hb2⟩
   have hM2 := HM.out.drew.go hxw hb2
   have hb2s := hb2.size
   refine hK.out _ _ (hM2.cell 0 2 (by omega) rfl) (fun hHeld2 => ?_)
   clear hK K hHeld
   try simp only [Act.put, z4, z5, z6]
   refine wpAnyH_ready (rs := [16]) (by kernel_rfl) (by simp) ?_
   refine AllReadyH.cons rfl (fun K hK => ?_) AllReadyH.nil
   go_simp
   refine (missing_any w2).mono ?_
   rintro e w3 ⟨rfl, hb3⟩
   have hxw2 : x ≤ w2.heap.size := by have h1 := hM2.lt 0 (by omega); have h2 := HP.out.lo 0 (by omega); omega
   have hM3 := hM2.go hxw2 hb3
   refine hK.out _ _ (hM3.cell 0 2 (by omega) rfl) (fun hHeld3 => ?_)
   clear hK K hHeld2 hM2 hb2 hb3 hb2s HM
   try simp only [Act.put, z4, z5, z6]
   have c0 := hM3.cell 1 20 (by omega) rfl
   have f0 := hM3.frozen 1 20 (by omega)
   have c1 := hM3.cell 1 21 (by omega) rfl
   have f1 := hM3.frozen 1 21 (by omega)
   have c2 := hM3.cell 1 22 (by omega) rfl
   have f2 := hM3.frozen 1 22 (by omega)
   have c3 := hM3.cell 1 23 (by omega) rfl
   have f3 := hM3.frozen 1 23 (by omega)
   have c4 := hM3.cell 1 24 (by omega) rfl
   have f4 := hM3.frozen 1 24 (by omega)
   have HM4 : Hid (FM x w0 Bk (.slice (some ⟨b, off, none⟩) 1 q) (VS c sp A0 B0 C0 (-(c : Int)) (-(c : Int)) (-1) (-1)) (((((w3.setCell ⟨Bk 1, 20, none⟩ (.int .i64 0)).setCell ⟨Bk 1, 21, none⟩ (.int .i64 (-1))).setCell ⟨Bk 1, 22, none⟩ (.int .i64 (-1))).setCell ⟨Bk 1, 23, none⟩ (.int .i64 (-1))).setCell ⟨Bk 1, 24, none⟩ (.int .i64 (-1)))) := (((((hM3.setN HP.out 20 _).setN HP.out 21 _).setN HP.out 22 _).setN HP.out 23 _).setN HP.out 24 _)
   clear hM3
   refine tkH 17 ?_ rfl (by kernel_rfl) rfl (.inl ⟨by rfl, ?_⟩) (by assumption) ?_
   rotate_left
   ·intro w h; (try dsimp only at h); go_simp; (try rfl)
   try simp only [Act.put]
   refine tkH 18 ?_ rfl (by kernel_rfl) rfl (.inl ⟨by rfl, ?_⟩) (by assumption) ?_
   rotate_left
   ·intro w h; (try dsimp only at h); go_simp; (try rfl)
   try simp only [Act.put]
   simp only [z1, z2, z3, z4, z5, z6]
   refine wpAnyH_ready (rs := [19]) (by kernel_rfl) (by simp) ?_
   refine AllReadyH.cons rfl (fun K hK => ?_) AllReadyH.nil
   go_simp
   refine hK.out _ _ ?_ (fun hHeld => ?_)
   ·(try dsimp only); first | (go_keep; done) | ((repeat' apply And.intro) <;> go_simp)
   clear hK K
   try simp only [List.setIfInBounds_toArray, List.set_cons_zero, List.set_cons_succ]
   refine tkH 20 ?_ rfl (by kernel_rfl) rfl (.inl ⟨by rfl, ?_⟩) (by assumption) ?_
   rotate_left
   ·intro w h; (try dsimp only at h); go_simp; (try rfl)
   try simp only [Act.put]
   refine tkH 21 ?_ rfl (by kernel_rfl) rfl (.inl ⟨by rfl, ?_⟩) (by assumption) ?_
   rotate_left
   ·intro w h; (try dsimp only at h); go_simp; (try rfl)
   try simp only [Act.put]
   simp only [z1, z2, z3, z4, z5, z6]
   refine wpAnyH_ready (rs := [22]) (by kernel_rfl) (by simp) ?_
   refine AllReadyH.cons rfl (fun K hK => ?_) AllReadyH.nil
   go_simp
   refine hK.out _ _ ?_ (fun hHeld => ?_)
   ·(try dsimp only); first | (go_keep; done) | ((repeat' apply And.intro) <;> go_simp)
   clear hK K
   try simp only [List.setIfInBounds_toArray, List.set_cons_zero, List.set_cons_succ]
   refine tkH 23 ?_ rfl (by kernel_rfl) rfl (.inl ⟨by rfl, ?_⟩) (by assumption) ?_
   rotate_left
   ·intro w h; (try dsimp only at h); go_simp; (try rfl)
   try simp only [Act.put]
   refine tkH 24 ?_ rfl (by kernel_rfl) rfl (.inl ⟨by rfl, ?_⟩) (by assumption) ?_
   rotate_left
   ·intro w h; (try dsimp only at h); go_simp; (try rfl)
   try simp only [Act.put]
   simp only [z1, z2, z3, z4, z5, z6]
   refine wpAnyH_ready (rs := [25]) (by kernel_rfl) (by simp) ?_
   refine AllReadyH.cons rfl (fun K hK => ?_) AllReadyH.nil
   go_simp
   refine hK.out _ _ ?_ (fun hHeld => ?_)
   ·(try dsimp only); first | (go_keep; done) | ((repeat' apply And.intro) <;> go_simp)
   clear hK K
   try simp only [List.setIfInBounds_toArray, List.set_cons_zero, List.set_cons_succ]
   refine wpAnyH_done (by kernel_rfl) ?_ _
   go_wp2
   have HM := HM4
   exact ⟨.inr (.inr (.inr ⟨rfl, HM.out⟩)), by simp [intOf]⟩
  ·have k2 := hM.cell 0 2 (by omega) rfl
   have HM : Hid (FM x w0 Bk (.slice (some ⟨b, off, none⟩) 1 q) (VS c sp A0 B0 C0 (-(c : Int)) (-(c : Int)) (-1) (-1)) wr) := hM
   clear hM
   go_wp2
   go_loopw [41] (fun i wr => (i = .int .i64 0 ∧ FM x w0 Bk (.slice (some ⟨b, off, none⟩) 1 q) (VS c sp A0 B0 C0 (-(c : Int)) (-(c : Int)) (-1) (-1)) wr) ∨ (i = .int .i64 1 ∧ FM x w0 Bk (.slice (some ⟨b, off, none⟩) 1 q) (VS c sp A1 B1 C0 (-(c : Int)) (-(c : Int)) (-1) (-1)) wr) ∨ (i = .int .i64 2 ∧ FM x w0 Bk (.slice (some ⟨b, off, none⟩) 1 q) (VS c sp A2 B2 C0 (-(c : Int)) (-(c : Int)) (-1) (-1)) wr) ∨ (i = .int .i64 3 ∧ FM x w0 Bk (.slice (some ⟨b, off, none⟩) 1 q) (VS c sp A2 B2 C0 (-(c : Int)) (-(c : Int)) (-1) (-1)) wr)) (fun i _ => 3 - (intOf i).toNat)
   case atStart => exact .inl ⟨rfl, HM.out⟩
   case round =>
    clear HM k2
    rcases hrel with ⟨rfl, hM⟩ | ⟨rfl, hM⟩ | ⟨rfl, hM⟩ | ⟨rfl, hM⟩
    ·have k2 := hM.cell 0 2 (by omega) rfl
     have k5 := hM.cell 0 5 (by omega) rfl
     have n6 : wr.cell? ⟨Bk 1, 6, none⟩ = some (.int .i64 0) := hM.cell 1 6 (by omega) rfl
     have m0 := hM.cell 3 0 (by omega) rfl
     have ht : ∀ W, W.heap = wr.heap → Calls Tryz.prog 162 #[.pointer (some ⟨Bk 0, 0, none⟩), .int .i64 0] W fun e w' => e = .returned (.bool true) ∧ w' = W := fun W hW => isTop0 x W Bk b off c q sp A0 B0 C0 (-(c : Int)) (-(c : Int)) (-1) (-1) W ⟨fun i hi => by have := hM.mem i hi; unfold Blk at this ⊢; rw [hW]; exact this, Below.refl _ _⟩
     have HM : Hid (FM x w0 Bk (.slice (some ⟨b, off, none⟩) 1 q) (VS c sp A0 B0 C0 (-(c : Int)) (-(c : Int)) (-1) (-1)) wr) := hM
     clear hM
     go_wp2
     go_quiet ((go_at_call 162; exact Calls.quiet_of_same (ht _ rfl)))
     have hl := lead0 x w0 Bk b off c q sp _ _ _ _ HP.out (wr.drewN nq) (HM.out.drewN nq)
     go_wp2_with fail
     refine hl.mono ?_
     rintro e w5 ⟨rfl, hM5⟩
     have HM5 : Hid (FM x w0 Bk (.slice (some ⟨b, off, none⟩) 1 q) (VS c sp A1 B1 C0 (-(c : Int)) (-(c : Int)) (-1) (-1)) w5) := hM5
     clear hl hM5 HM
     go_wp2
     have HM := HM5
     exact ⟨.inr (.inl ⟨rfl, HM.out⟩), by simp [intOf]⟩
    ·have k2 := hM.cell 0 2 (by omega) rfl
     have k5 := hM.cell 0 5 (by omega) rfl
     have n6 : wr.cell? ⟨Bk 1, 16, none⟩ = some (.int .i64 1) := hM.cell 1 16 (by omega) rfl
     have m0 := hM.cell 3 1 (by omega) rfl
     have ht : ∀ W, W.heap = wr.heap → Calls Tryz.prog 162 #[.pointer (some ⟨Bk 0, 0, none⟩), .int .i64 1] W fun e w' => e = .returned (.bool true) ∧ w' = W := fun W hW => isTop1 x W Bk b off c q sp A1 B1 C0 (-(c : Int)) (-(c : Int)) (-1) (-1) W ⟨fun i hi => by have := hM.mem i hi; unfold Blk at this ⊢; rw [hW]; exact this, Below.refl _ _⟩
     have HM : Hid (FM x w0 Bk (.slice (some ⟨b, off, none⟩) 1 q) (VS c sp A1 B1 C0 (-(c : Int)) (-(c : Int)) (-1) (-1)) wr) := hM
     clear hM
     go_wp2
     go_quiet ((go_at_call 162; exact Calls.quiet_of_same (ht _ rfl)))
     have hl := lead1 x w0 Bk b off c q sp _ _ _ _ HP.out (wr.drewN nq) (HM.out.drewN nq)
     go_wp2_with fail
     refine hl.mono ?_
     rintro e w5 ⟨rfl, hM5⟩
     have HM5 : Hid (FM x w0 Bk (.slice (some ⟨b, off, none⟩) 1 q) (VS c sp A2 B2 C0 (-(c : Int)) (-(c : Int)) (-1) (-1)) w5) := hM5
     clear hl hM5 HM
     go_wp2
     have HM := HM5
     exact ⟨.inr (.inr (.inl ⟨rfl, HM.out⟩)), by simp [intOf]⟩
    ·have ht : ∀ W, W.heap = wr.heap → Calls Tryz.prog 162 #[.pointer (some ⟨Bk 0, 0, none⟩), .int .i64 2] W fun e w' => e = .returned (.bool false) ∧ w' = W := fun W hW => isTop2 x W Bk b off c q sp A2 B2 C0 (-(c : Int)) (-(c : Int)) (-1) (-1) W ⟨fun i hi => by have := hM.mem i hi; unfold Blk at this ⊢; rw [hW]; exact this, Below.refl _ _⟩
     have HM : Hid (FM x w0 Bk (.slice (some ⟨b, off, none⟩) 1 q) (VS c sp A2 B2 C0 (-(c : Int)) (-(c : Int)) (-1) (-1)) wr) := hM
     clear hM
     go_wp2
     go_quiet ((go_at_call 162; exact Calls.quiet_of_same (ht _ rfl)))
     have HM5 : Hid (FM x w0 Bk (.slice (some ⟨b, off, none⟩) 1 q) (VS c sp A2 B2 C0 (-(c : Int)) (-(c : Int)) (-1) (-1)) (wr.drewN nq)) := HM.out.drewN nq
     clear HM
     go_wp2
     have HM := HM5
     exact ⟨.inr (.inr (.inr ⟨rfl, HM.out⟩)), by simp [intOf]⟩
    ·have HM : Hid (FM x w0 Bk (.slice (some ⟨b, off, none⟩) 1 q) (VS c sp A2 B2 C0 (-(c : Int)) (-(c : Int)) (-1) (-1)) wr) := hM
     clear hM
     go_wp2
     exact bodyPost_end (results_none rfl _ _ _) rfl ⟨rfl, HM.out⟩
end
end Go.Proofs.YtalflecmadacaaaGreat
