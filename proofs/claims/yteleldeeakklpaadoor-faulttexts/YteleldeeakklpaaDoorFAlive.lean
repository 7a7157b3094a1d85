/-
  The contract of filigreelaw03.alive: it returns true.
-/
import Derived.Test.YteleldeeakklpaaDoorFIs
namespace Go.Proofs.YteleldeeakklpaaDoor
open Go Go.Proofs Go.RowKit

theorem itoa3 : Lib.itoa 3 = [51] := by rw [itoa_small (by omega) (by omega)]; rfl
theorem itoa6 : Lib.itoa 6 = [54] := by rw [itoa_small (by omega) (by omega)]; rfl
theorem kindB6 : kindB 6 = ⟨#[102, 105, 108, 105, 103, 114, 101, 101, 32, 101, 114, 114, 111, 114, 32, 54]⟩ := by
  unfold kindB; rw [numB_ok (by omega) (by omega), itoa6]; rfl
theorem alive_text : (⟨(accL [(⟨#[108, 105, 110, 101]⟩, 3)] ++ (kindB 6).data.toList).toArray⟩ : ByteArray) = ⟨#[108, 105, 110, 101, 32, 51, 58, 32, 102, 105, 108, 105, 103, 114, 101, 101, 32, 101, 114, 114, 111, 114, 32, 54]⟩ := by
  rw [kindB6]
  simp only [accL, linkB, itoa3]
  rfl

set_option maxRecDepth 100000 in
set_option maxHeartbeats 2000000 in
theorem alive_any (w : World) (hE : Env w) : Calls Tryd.prog 9 #[] w fun e w' => e = .returned (.bool true) ∧ Below w.heap.size w w' := by
  have hb1 : Below w.heap.size w ((w.alloc (.cells #[.string ⟨#[108, 105, 110, 101]⟩, .int .i64 3, .iface 23 (.int .i64 6)] 37)).alloc (.cells #[.pointer none] 29)) := ((Below.refl _ _).alloc (Nat.le_refl _) _).alloc (by simp) _
  have hC0 : Chain w (.iface 23 (.int .i64 6)) w.heap.size [] (.iface 23 (.int .i64 6)) := rfl
  have hC1 := (chain_new (Nat.le_refl _) hC0 (⟨#[108, 105, 110, 101]⟩, 3)).below ((Below.refl _ (w.alloc (.cells #[.string ⟨#[108, 105, 110, 101]⟩, .int .i64 3, .iface 23 (.int .i64 6)] 37))).alloc (by simp) (.cells #[.pointer none] 29))
  have hE1 := hE.go hb1
  have hL : Okay [((⟨#[108, 105, 110, 101]⟩ : ByteArray), (3 : Int))] := ⟨by simp, fun x hx => by rw [List.mem_singleton.1 hx]; exact ⟨by decide, by omega, by omega⟩⟩
  go_enter Tryd.func9, Tryd.ntmps9
  go_wp2_with fail
  refine (wrap_any _ _ _ (.kind 6 (by decide)) w).mono ?_
  rintro e w1 ⟨rfl, rfl⟩
  go_wp2_with fail
  refine (asF_any ⟨w.heap.size, 0, none⟩ (w.heap.size + 1) (.pointer none) _ hE1.et (by simp) (by simp)).mono ?_
  rintro e w2 ⟨rfl, hg2, c2, f2⟩
  have hC2 : Chain w2 (.iface 23 (.int .i64 6)) (w.heap.size + 1) [(⟨#[108, 105, 110, 101]⟩, 3)] (.iface 29 (.pointer (some ⟨w.heap.size, 0, none⟩))) :=
    hC1.below ⟨hg2.os, hg2.tape, hg2.output, hg2.size, fun k hk => hg2.block k (by simp; omega) (by simp; omega)⟩
  have hbw2 : Below w.heap.size w w2 := hb1.grown hg2 (by simp; omega) (fun k e => by cases e; omega)
  have hz2 := hg2.size
  simp only [World.size_alloc] at hz2
  have hE2 : Env w2 := hE.below (n := w.heap.size) hE.two hbw2
  clear hC1 hg2 hE1 hC0 hb1
  go_wp2_with fail
  refine (error_any hL (.kind 6) (kindB 6) (by have := kindB_size 6; omega) (fun W => text_kind 6 W) w2 hE2 (hC2.mono (by omega))).mono ?_
  rintro e w3 ⟨rfl, hb3⟩
  rw [alive_text]
  have hC3 := (hC2.mono (m := w2.heap.size) (by omega)).below hb3
  have hE3 := hE2.go hb3
  have hbw3 := hbw2.trans (hb3.mono (by omega))
  go_wp2_with fail
  refine (of_kind w3 hE3 (hC3.mono hb3.size)).mono ?_
  rintro e w4 ⟨rfl, hb4⟩
  have hbw4 := hbw3.trans (hb4.mono (by have := hb3.size; omega))
  go_wp2_with fail
  refine (wrap_nil _ _ w4).mono ?_
  rintro e w5 ⟨rfl, hw5⟩
  rw [hw5]
  go_wp2_with fail
  refine (wrap_ok _ _ w4).mono ?_
  rintro e w6 ⟨rfl, hw6⟩
  rw [hw6]
  go_wp2
  go_ret
  exact ⟨rfl, hbw4⟩

end Go.Proofs.YteleldeeakklpaaDoor
