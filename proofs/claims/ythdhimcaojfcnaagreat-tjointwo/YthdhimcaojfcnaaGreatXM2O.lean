/-
  Of two vertices with one edge: meet, reach, augment.
-/
import Derived.Test.YthdhimcaojfcnaaGreatJH
namespace Go.Proofs.YthdhimcaojfcnaaGreat
open Go Go.Proofs Go.RowKit

section
variable (x : Nat) (w0 : World) (Bk : Nat → Nat) (b off c q : Nat) (sp : Value)
set_option maxRecDepth 100000 in
set_option maxHeartbeats 4000000 in
theorem meet_any (hP : FP x w0 Bk b off c) (w : World) (hM : FM x w0 Bk (.slice (some ⟨b, off, none⟩) 1 q) (VS c sp A2 B2 C0 (-(c : Int)) (-(c : Int)) (-1) (-1)) w) : Calls Tryz.prog 89 #[.pointer (some ⟨Bk 0, 0, none⟩), .int .i64 0] w fun e w' => e = .returned (.bool true) ∧ FM x w0 Bk (.slice (some ⟨b, off, none⟩) 1 q) (VS c sp A2 B2 C0 (-(c : Int)) (-(c : Int)) 1 0) w' := by
  have hmix := mixed
  have HP : Hid (FP x w0 Bk b off c) := hP
  have hxw := FP.le x w0 Bk b off c hP hM
  have h33 := hM.lt 3 (by omega)
  have k2 := hM.cell 0 2 (by omega) rfl
  have n3 : w.cell? ⟨Bk 1, 3, none⟩ = some (.int .i64 1) := hM.cell 1 3 (by omega) rfl
  have n4 : w.cell? ⟨Bk 1, 4, none⟩ = some (.int .i64 0) := hM.cell 1 4 (by omega) rfl
  have hal : Below w.heap.size w (w.alloc (.cells #[.int .i64 1, .int .i64 0] 102)) := (Below.refl _ _).alloc (Nat.le_refl _) _
  have HL : Hid (Blk 102 (w.alloc (.cells #[.int .i64 1, .int .i64 0] 102)) w.heap.size [.int .i64 1, .int .i64 0]) := heap_alloc_new w _
  have HM : Hid (FM x w0 Bk (.slice (some ⟨b, off, none⟩) 1 q) (VS c sp A2 B2 C0 (-(c : Int)) (-(c : Int)) (-1) (-1)) (w.alloc (.cells #[.int .i64 1, .int .i64 0] 102))) := hM.go hxw hal
  clear hM hP hal
  go_enter Tryz.func89, Tryz.ntmps89
  go_wp2
  obtain ⟨w1, hw1⟩ : ∃ W, w.alloc (.cells #[.int .i64 1, .int .i64 0] 102) = W := ⟨_, rfl⟩
  rw [hw1] at HL HM ⊢
  obtain ⟨lb, hlb⟩ : ∃ n, w.heap.size = n := ⟨_, rfl⟩
  rw [hlb] at HL hxw h33 ⊢
  clear hw1 hlb k2 n3 n4
  have k6 := HM.out.cell 0 6 (by omega) rfl
  have t1 : w1.cell? ⟨Bk 4, 1, none⟩ = some (.int .i64 1) := HM.out.cell 4 1 (by omega) rfl
  have l0 := HL.out.cell (j := 0) rfl
  have l1 := HL.out.cell (j := 1) rfl
  have hlt := HL.out.lt
  have hco : ∀ W, Below w1.heap.size w1 W → Calls Tryz.prog 102 #[.pointer (some ⟨Bk 0, 0, none⟩), .int .i64 1, .int .i64 0] W fun e w' => e = .returned (.int .i64 (-1)) ∧ Below W.heap.size W w' := fun W hW => common_any x w0 Bk b off c q sp HP.out W (HM.out.go (by omega) hW)
  refine wp_region_held_drew (S := (fun w' : World => w'.cell? ⟨Bk 0, 6, none⟩ = some (.slice (some ⟨Bk 4, 0, none⟩) 2 2) ∧ w'.cell? ⟨Bk 4, 1, none⟩ = some (.int .i64 1) ∧ w'.cell? ⟨lb, 0, none⟩ = some (.int .i64 1))) (by kernel_rfl) ⟨k6, t1, l0⟩ (fun hHeld => ?_)
  refine wpAnyH_take (i := 0) (v := ?_) rfl (by kernel_rfl) (by kernel_rfl) (by kernel_rfl) (fun _ _ _ h => h) (Or.inl ⟨by rfl, ?_⟩) (by assumption) ?_
  rotate_left
  · intro w hSw; (try dsimp only at hSw); go_simp; (try with_reducible rfl)
  try simp only [Act.put, List.setIfInBounds_toArray]
  refine wpAnyH_take (i := 1) (v := ?_) rfl (by kernel_rfl) (by kernel_rfl) (by kernel_rfl) (fun _ _ _ h => h) (Or.inl ⟨by rfl, ?_⟩) (by assumption) ?_
  rotate_left
  · intro w hSw; (try dsimp only at hSw); go_simp; (try with_reducible rfl)
  try simp only [Act.put]
  refine wpAnyH_take (i := 2) (v := ?_) rfl (by kernel_rfl) (by kernel_rfl) (by kernel_rfl) (fun _ _ _ h => h) (Or.inl ⟨by rfl, ?_⟩) (by assumption) ?_
  rotate_left
  · intro w hSw; (try dsimp only at hSw); go_simp; (try with_reducible rfl)
  try simp only [Act.put]
  refine wpAnyH_take (i := 3) (v := ?_) rfl (by kernel_rfl) (by kernel_rfl) (by kernel_rfl) (fun _ _ _ h => h) (Or.inl ⟨by rfl, ?_⟩) (by assumption) ?_
  rotate_left
  · intro w hSw; (try dsimp only at hSw); go_simp; (try with_reducible rfl)
  try simp only [Act.put]
  refine wpAnyH_take (i := 4) (v := ?_) rfl (by kernel_rfl) (by kernel_rfl) (by kernel_rfl) (fun _ _ _ h => h) (Or.inl ⟨by rfl, ?_⟩) (by assumption) ?_
  rotate_left
  · intro w hSw; (try dsimp only at hSw); go_simp; (try with_reducible rfl)
  try simp only [Act.put]
  refine wpAnyH_take (i := 5) (v := ?_) rfl (by kernel_rfl) (by kernel_rfl) (by kernel_rfl) (fun _ _ _ h => h) (Or.inl ⟨by rfl, ?_⟩) (by assumption) ?_
  rotate_left
  · intro w hSw; (try dsimp only at hSw); go_simp; (try with_reducible rfl)
  try simp only [Act.put]
  refine wpAnyH_take (i := 6) (v := ?_) rfl (by kernel_rfl) (by kernel_rfl) (by kernel_rfl) (fun _ _ _ h => h) (Or.inl ⟨by rfl, ?_⟩) (by assumption) ?_
  rotate_left
  · intro w hSw; (try dsimp only at hSw); go_simp; (try with_reducible rfl)
  try simp only [Act.put]
  simp only [List.getElem_toArray, List.getElem_cons_zero, List.getElem_cons_succ, List.setIfInBounds_toArray, List.set_cons_zero, List.set_cons_succ]
  refine wpAnyH_take (i := 7) (v := ?_) rfl (by kernel_rfl) (by kernel_rfl) (by kernel_rfl) (fun _ _ _ h => h) (Or.inl ⟨by rfl, ?_⟩) (by assumption) ?_
  rotate_left
  · intro w hSw; (try dsimp only at hSw); go_simp; (try with_reducible rfl)
  try simp only [Act.put]
  refine wpAnyH_take (i := 8) (v := ?_) rfl (by kernel_rfl) (by kernel_rfl) (by kernel_rfl) (fun _ _ _ h => h) (Or.inl ⟨by rfl, ?_⟩) (by assumption) ?_
  rotate_left
  · intro w hSw; (try dsimp only at hSw); go_simp; (try with_reducible rfl)
  try simp only [Act.put]
  refine wpAnyH_take (i := 9) (v := ?_) rfl (by kernel_rfl) (by kernel_rfl) (by kernel_rfl) (fun _ _ _ h => h) (Or.inl ⟨by rfl, ?_⟩) (by assumption) ?_
  rotate_left
  · intro w hSw; (try dsimp only at hSw); go_simp; (try with_reducible rfl)
  try simp only [Act.put]
  simp only [List.getElem_toArray, List.getElem_cons_zero, List.getElem_cons_succ, List.setIfInBounds_toArray, List.set_cons_zero, List.set_cons_succ]
  refine wpAnyH_ready (rs := [10]) (by kernel_rfl) (by simp) ?_
  refine AllReadyH.cons rfl (fun K hK => ?_) AllReadyH.nil
  go_simp
  refine (hco w1.drew (below_drewN (Below.refl _ _) 1)).mono ?_
  rintro e w2 ⟨rfl, hb2⟩
  have hM2 := HM.out.drew.go (by show x ≤ w1.heap.size; omega) hb2
  have hL2 : Blk 102 w2 lb [.int .i64 1, .int .i64 0] := Blk.go (t := 102) (vs := [.int .i64 1, .int .i64 0]) (show Blk _ w1.drew lb _ from HL.out) hb2
  refine hK.out _ _ ⟨hM2.cell 0 6 (by omega) rfl, hM2.cell 4 1 (by omega) rfl, hL2.cell (j := 0) rfl⟩ (fun hHeld2 => ?_)
  have hs2 := hb2.size
  have HM2 : Hid (FM x w0 Bk (.slice (some ⟨b, off, none⟩) 1 q) (VS c sp A2 B2 C0 (-(c : Int)) (-(c : Int)) (-1) (-1)) w2) := hM2
  have HL2 : Hid (Blk 102 w2 lb [.int .i64 1, .int .i64 0]) := hL2
  clear hK K hHeld hb2 hM2 hL2 hco k6 t1 l0 l1 HM HL
  try simp only [Act.put, List.setIfInBounds_toArray, List.set_cons_zero, List.set_cons_succ]
  refine wpAnyH_take (i := 11) (v := ?_) rfl (by kernel_rfl) (by kernel_rfl) (by kernel_rfl) (fun _ _ _ h => h) (Or.inl ⟨by rfl, ?_⟩) (by assumption) ?_
  rotate_left
  · intro w hSw; (try dsimp only at hSw); go_simp; (try with_reducible rfl)
  try simp only [Act.put]
  refine wpAnyH_done (by kernel_rfl) ?_ _
  have l0 := HL2.out.cell (j := 0) rfl
  have l1 := HL2.out.cell (j := 1) rfl
  have hlt2 := HL2.out.lt
  have h3 := HM2.out.lt 3 (by omega)
  have hf1 := flip1 x w0 Bk b off c q sp (-1) (-1) HP.out w2 HM2.out
  clear hHeld2
  go_wp2_with fail
  refine hf1.mono ?_
  rintro e w3 ⟨rfl, hM3, hT3⟩
  have HM3 : Hid (FM x w0 Bk (.slice (some ⟨b, off, none⟩) 1 q) (VS c sp A2 B2 C0 (-(c : Int)) (-(c : Int)) (-1) 0) w3) := hM3
  have l0 := hT3.cell l0 (by omega)
  have l1 := hT3.cell l1 (by omega)
  have hf0 := flip0 x w0 Bk b off c q sp (-1) 0 HP.out w3 hM3
  clear hf1 hM3 hT3
  go_wp2_with fail
  refine hf0.mono ?_
  rintro e w4 ⟨rfl, hM4, -⟩
  have HM4 : Hid (FM x w0 Bk (.slice (some ⟨b, off, none⟩) 1 q) (VS c sp A2 B2 C0 (-(c : Int)) (-(c : Int)) 1 0) w4) := hM4
  clear hf0 hM4
  go_wp2
  go_ret
  exact ⟨rfl, HM4.out⟩
set_option maxRecDepth 100000 in
set_option maxHeartbeats 4000000 in
theorem reach_any2 (hP : FP x w0 Bk b off c) (w : World) (hM : FM x w0 Bk (.slice (some ⟨b, off, none⟩) 1 q) (VS c sp A2 B2 C0 (-(c : Int)) (-(c : Int)) (-1) (-1)) w) : Calls Tryz.prog 70 #[.pointer (some ⟨Bk 0, 0, none⟩), .int .i64 0] w fun e w' => e = .returned (.bool true) ∧ FM x w0 Bk (.slice (some ⟨b, off, none⟩) 1 q) (VS c sp A2 B2 C0 (-(c : Int)) (-(c : Int)) 1 0) w' := by
  have k2 := hM.cell 0 2 (by omega) rfl
  have n0 : w.cell? ⟨Bk 1, 0, none⟩ = some (.int .i64 1) := hM.cell 1 0 (by omega) rfl
  have hme := meet_any x w0 Bk b off c q sp hP w hM
  clear hM hP
  go_enter Tryz.func70, Tryz.ntmps70
  go_wp2_with fail
  refine hme.mono ?_
  rintro e w4 ⟨rfl, hM4⟩
  have HM4 : Hid (FM x w0 Bk (.slice (some ⟨b, off, none⟩) 1 q) (VS c sp A2 B2 C0 (-(c : Int)) (-(c : Int)) 1 0) w4) := hM4
  clear hme hM4
  go_wp2
  go_ret
  exact ⟨rfl, HM4.out⟩
set_option maxRecDepth 100000 in
set_option maxHeartbeats 4000000 in
theorem augment_any (hP : FP x w0 Bk b off c) (w : World) (hM : FM x w0 Bk (.slice (some ⟨b, off, none⟩) 1 q) (V4 c sp) w) : Calls Tryz.prog 48 #[.pointer (some ⟨Bk 0, 0, none⟩)] w fun e w' => e = .returned (.bool true) ∧ FM x w0 Bk (.slice (some ⟨b, off, none⟩) 1 q) (VS c sp A2 B2 C0 (-(c : Int)) (-(c : Int)) 1 0) w' := by
  have hpl := plant_any x w0 Bk b off c q sp hP w hM
  have HP : Hid (FP x w0 Bk b off c) := hP
  clear hM hP
  go_enter Tryz.func48, Tryz.ntmps48
  go_wp2_with fail
  refine hpl.mono ?_
  rintro e w2 ⟨rfl, hM2⟩
  have HM2 : Hid (FM x w0 Bk (.slice (some ⟨b, off, none⟩) 1 q) (VS c sp A2 B2 C0 (-(c : Int)) (-(c : Int)) (-1) (-1)) w2) := hM2
  clear hpl hM2
  go_wp2
  go_loopw [] (fun wr => FM x w0 Bk (.slice (some ⟨b, off, none⟩) 1 q) (VS c sp A2 B2 C0 (-(c : Int)) (-(c : Int)) (-1) (-1)) wr) (fun _ => 0)
  case atStart => exact HM2.out
  case round =>
    have hne := next_any2 x w0 Bk b off c q sp HP.out wr hrel
    clear hrel HM2
    go_wp2_with fail
    refine hne.mono ?_
    rintro e w3 ⟨rfl, hM3⟩
    have hmv := move_any2 x w0 Bk b off c q sp HP.out w3 hM3
    clear hne hM3
    go_wp2_with fail
    refine hmv.mono ?_
    rintro e w4 ⟨rfl, hM4⟩
    have hre := reach_any2 x w0 Bk b off c q sp HP.out w4 hM4
    clear hmv hM4
    go_wp2_with fail
    refine hre.mono ?_
    rintro e w5 ⟨rfl, hM5⟩
    have HM5 : Hid (FM x w0 Bk (.slice (some ⟨b, off, none⟩) 1 q) (VS c sp A2 B2 C0 (-(c : Int)) (-(c : Int)) 1 0) w5) := hM5
    clear hre hM5
    go_wp2
    go_ret
    exact ⟨rfl, HM5.out⟩
end
end Go.Proofs.YthdhimcaojfcnaaGreat
