/-
  Of two vertices with one edge: lead.
-/
import Derived.Test.YthdhimcaojfcnaaGreatXM2I
namespace Go.Proofs.YthdhimcaojfcnaaGreat
open Go Go.Proofs Go.RowKit

def A0 : ND := ⟨0, -1, -1, -1, -1, -1, 0⟩
def B0 : ND := ⟨0, -1, -1, -1, -1, -1, 1⟩
def C0 : ND := ⟨0, -1, -1, -1, -1, -2, 0⟩
def A1 : ND := ⟨1, -1, -1, -1, -1, -1, 0⟩
def B1 : ND := ⟨0, -1, -1, 0, 1, -1, 1⟩
def A2 : ND := ⟨1, -1, -1, 1, 0, -1, 0⟩
def B2 : ND := ⟨1, -1, -1, 0, 1, -1, 1⟩
section
variable (x : Nat) (w0 : World) (Bk : Nat → Nat) (b off c q : Nat) (sp : Value) (y0 y1 m0 m1 : Int)
set_option maxRecDepth 100000 in
set_option maxHeartbeats 4000000 in
theorem lead0 (hP : FP x w0 Bk b off c) (w : World) (hM : FM x w0 Bk (.slice (some ⟨b, off, none⟩) 1 q) (VS c sp A0 B0 C0 y0 y1 m0 m1) w) : Calls Tryz.prog 85 #[.pointer (some ⟨Bk 0, 0, none⟩), .int .i64 0] w fun e w' => e = .returned (.tuple #[]) ∧ FM x w0 Bk (.slice (some ⟨b, off, none⟩) 1 q) (VS c sp A1 B1 C0 y0 y1 m0 m1) w' := by
  have HP : Hid _ := hP
  have k2 := hM.cell 0 2 (by omega) rfl
  have a0 := hM.cell 1 0 (by omega) rfl
  have f0 := hM.frozen 1 0 (by omega)
  have d1 : Bk 0 ≠ Bk 1 := hP.ne (by omega) (by omega) (by omega)
  have HM1 : Hid (FM x w0 Bk (.slice (some ⟨b, off, none⟩) 1 q) (VS c sp A1 B0 C0 y0 y1 m0 m1) (w.setCell ⟨Bk 1, 0, none⟩ (.int .i64 1))) := hM.setN hP 0 _
  clear hM hP
  go_enter Tryz.func85, Tryz.ntmps85
  go_wp2
  go_loopw [17] (fun i wr => (i = .int .i64 0 ∧ FM x w0 Bk (.slice (some ⟨b, off, none⟩) 1 q) (VS c sp A1 B0 C0 y0 y1 m0 m1) wr) ∨ (i = .int .i64 1 ∧ FM x w0 Bk (.slice (some ⟨b, off, none⟩) 1 q) (VS c sp A1 B0 C0 y0 y1 m0 m1) wr) ∨ (i = .int .i64 2 ∧ FM x w0 Bk (.slice (some ⟨b, off, none⟩) 1 q) (VS c sp A1 B1 C0 y0 y1 m0 m1) wr) ∨ (i = .int .i64 3 ∧ FM x w0 Bk (.slice (some ⟨b, off, none⟩) 1 q) (VS c sp A1 B1 C0 y0 y1 m0 m1) wr)) (fun i _ => 3 - (intOf i).toNat)
  case atStart => exact .inl ⟨rfl, HM1.out⟩
  case round =>
    clear HM1 k2 a0 f0
    rcases hrel with ⟨rfl, hM⟩ | ⟨rfl, hM⟩ | ⟨rfl, hM⟩ | ⟨rfl, hM⟩
    · have HM : Hid (FM x w0 Bk (.slice (some ⟨b, off, none⟩) 1 q) (VS c sp A1 B0 C0 y0 y1 m0 m1) wr) := hM
      clear hM
      go_wp2
      exact ⟨.inr (.inl ⟨rfl, HM.out⟩), by simp [intOf]⟩
    · have k2 := hM.cell 0 9 (by omega) rfl
      have k3 := hM.cell 11 0 (by omega) rfl
      have e0 := hM.cell 12 2 (by omega) rfl
      have e1 := hM.cell 12 3 (by omega) rfl
      have ht := isTop1 x w0 Bk b off c q sp _ _ _ _ _ _ _ wr hM
      have ho := offer1 x w0 Bk b off c q sp _ _ _ _ _ _ _ HP.out rfl rfl wr hM
      have ht2 : Calls Tryz.prog 84 #[.pointer (some ⟨Bk 0, 0, none⟩), .int .i64 1] wr fun e w' => e = .returned (.bool true) ∧ w' = wr := ht
      clear hM ht
      go_wp2_with fail
      refine ht2.mono ?_
      rintro e w2 ⟨rfl, rfl⟩
      go_wp2_with fail
      refine ho.mono ?_
      rintro e w3 ⟨rfl, hM3⟩
      have HM3 : Hid (FM x w0 Bk (.slice (some ⟨b, off, none⟩) 1 q) (VS c sp A1 B1 C0 y0 y1 m0 m1) w3) := hM3
      clear ho ht2 hM3
      go_wp2
      exact ⟨.inr (.inr (.inl ⟨rfl, HM3.out⟩)), by simp [intOf]⟩
    · have ht := isTop2 x w0 Bk b off c q sp _ _ _ _ _ _ _ wr hM
      have ht2 : Calls Tryz.prog 84 #[.pointer (some ⟨Bk 0, 0, none⟩), .int .i64 2] wr fun e w' => e = .returned (.bool false) ∧ w' = wr := ht
      have HM : Hid (FM x w0 Bk (.slice (some ⟨b, off, none⟩) 1 q) (VS c sp A1 B1 C0 y0 y1 m0 m1) wr) := hM
      clear hM ht
      go_wp2_with fail
      refine ht2.mono ?_
      rintro e w2 ⟨rfl, rfl⟩
      go_wp2
      exact ⟨.inr (.inr (.inr ⟨rfl, HM.out⟩)), by simp [intOf]⟩
    · have HM : Hid (FM x w0 Bk (.slice (some ⟨b, off, none⟩) 1 q) (VS c sp A1 B1 C0 y0 y1 m0 m1) wr) := hM
      clear hM
      go_wp2
      exact bodyPost_end (results_none rfl _ _ _) rfl ⟨rfl, HM.out⟩
set_option maxRecDepth 100000 in
set_option maxHeartbeats 4000000 in
theorem lead1 (hP : FP x w0 Bk b off c) (w : World) (hM : FM x w0 Bk (.slice (some ⟨b, off, none⟩) 1 q) (VS c sp A1 B1 C0 y0 y1 m0 m1) w) : Calls Tryz.prog 85 #[.pointer (some ⟨Bk 0, 0, none⟩), .int .i64 1] w fun e w' => e = .returned (.tuple #[]) ∧ FM x w0 Bk (.slice (some ⟨b, off, none⟩) 1 q) (VS c sp A2 B2 C0 y0 y1 m0 m1) w' := by
  have HP : Hid _ := hP
  have k2 := hM.cell 0 2 (by omega) rfl
  have a0 := hM.cell 1 10 (by omega) rfl
  have f0 := hM.frozen 1 10 (by omega)
  have d1 : Bk 0 ≠ Bk 1 := hP.ne (by omega) (by omega) (by omega)
  have HM1 : Hid (FM x w0 Bk (.slice (some ⟨b, off, none⟩) 1 q) (VS c sp A1 B2 C0 y0 y1 m0 m1) (w.setCell ⟨Bk 1, 10, none⟩ (.int .i64 1))) := hM.setN hP 10 _
  clear hM hP
  go_enter Tryz.func85, Tryz.ntmps85
  go_wp2
  go_loopw [17] (fun i wr => (i = .int .i64 0 ∧ FM x w0 Bk (.slice (some ⟨b, off, none⟩) 1 q) (VS c sp A1 B2 C0 y0 y1 m0 m1) wr) ∨ (i = .int .i64 1 ∧ FM x w0 Bk (.slice (some ⟨b, off, none⟩) 1 q) (VS c sp A2 B2 C0 y0 y1 m0 m1) wr) ∨ (i = .int .i64 2 ∧ FM x w0 Bk (.slice (some ⟨b, off, none⟩) 1 q) (VS c sp A2 B2 C0 y0 y1 m0 m1) wr) ∨ (i = .int .i64 3 ∧ FM x w0 Bk (.slice (some ⟨b, off, none⟩) 1 q) (VS c sp A2 B2 C0 y0 y1 m0 m1) wr)) (fun i _ => 3 - (intOf i).toNat)
  case atStart => exact .inl ⟨rfl, HM1.out⟩
  case round =>
    clear HM1 k2 a0 f0
    rcases hrel with ⟨rfl, hM⟩ | ⟨rfl, hM⟩ | ⟨rfl, hM⟩ | ⟨rfl, hM⟩
    · have k2 := hM.cell 0 9 (by omega) rfl
      have k3 := hM.cell 11 1 (by omega) rfl
      have e0 := hM.cell 13 0 (by omega) rfl
      have e1 := hM.cell 13 1 (by omega) rfl
      have ht := isTop0 x w0 Bk b off c q sp _ _ _ _ _ _ _ wr hM
      have ho := offer0 x w0 Bk b off c q sp _ _ _ _ _ _ _ HP.out rfl rfl wr hM
      have ht2 : Calls Tryz.prog 84 #[.pointer (some ⟨Bk 0, 0, none⟩), .int .i64 0] wr fun e w' => e = .returned (.bool true) ∧ w' = wr := ht
      clear hM ht
      go_wp2_with fail
      refine ht2.mono ?_
      rintro e w2 ⟨rfl, rfl⟩
      go_wp2_with fail
      refine ho.mono ?_
      rintro e w3 ⟨rfl, hM3⟩
      have HM3 : Hid (FM x w0 Bk (.slice (some ⟨b, off, none⟩) 1 q) (VS c sp A2 B2 C0 y0 y1 m0 m1) w3) := hM3
      clear ho ht2 hM3
      go_wp2
      exact ⟨.inr (.inl ⟨rfl, HM3.out⟩), by simp [intOf]⟩
    · have HM : Hid (FM x w0 Bk (.slice (some ⟨b, off, none⟩) 1 q) (VS c sp A2 B2 C0 y0 y1 m0 m1) wr) := hM
      clear hM
      go_wp2
      exact ⟨.inr (.inr (.inl ⟨rfl, HM.out⟩)), by simp [intOf]⟩
    · have ht := isTop2 x w0 Bk b off c q sp _ _ _ _ _ _ _ wr hM
      have ht2 : Calls Tryz.prog 84 #[.pointer (some ⟨Bk 0, 0, none⟩), .int .i64 2] wr fun e w' => e = .returned (.bool false) ∧ w' = wr := ht
      have HM : Hid (FM x w0 Bk (.slice (some ⟨b, off, none⟩) 1 q) (VS c sp A2 B2 C0 y0 y1 m0 m1) wr) := hM
      clear hM ht
      go_wp2_with fail
      refine ht2.mono ?_
      rintro e w2 ⟨rfl, rfl⟩
      go_wp2
      exact ⟨.inr (.inr (.inr ⟨rfl, HM.out⟩)), by simp [intOf]⟩
    · have HM : Hid (FM x w0 Bk (.slice (some ⟨b, off, none⟩) 1 q) (VS c sp A2 B2 C0 y0 y1 m0 m1) wr) := hM
      clear hM
      go_wp2
      exact bodyPost_end (results_none rfl _ _ _) rfl ⟨rfl, HM.out⟩
end
end Go.Proofs.YthdhimcaojfcnaaGreat
