/-
  The contracts of fault.Of.
-/
import Derived.Deep.AppendLies
import Derived.Test.YteleldeeakklpaaDoorFErr
import Derived.Test.YteleldeeakklpaaDoorFWrap
namespace Go.Proofs.YteleldeeakklpaaDoor
open Go Go.Proofs Go.RowKit

theorem grown_set {a w : World} {b : Nat} (h : a.grownBy w (some b)) (o : Nat) (v : Value) : a.grownBy (w.setCell ⟨b, o, none⟩ v) (some b) :=
  ⟨h.os, h.tape, h.output, by simpa using h.size, fun k hk hne => (Below.heap_setCell _ _ _ _ (fun e => hne (by rw [e]))).trans (h.block k hk hne)⟩
theorem grown_all {a b : World} {r : Option Nat} (h : a.grownBy b r) (o : Obj) : a.grownBy (b.alloc o) r :=
  ⟨h.os, h.tape, h.output, by have := h.size; simp; omega, fun k hk hne => (Below.heap_alloc _ _ _ (by have := h.size; omega)).trans (h.block k hk hne)⟩

theorem cell_set_same {w : World} {a : Addr} {old : Value} (h : w.cell? a = some old) (v : Value) : (w.setCell a v).cell? a = some v := World.cell?_setCell_same' w a v (by simp [h])
theorem asF_any (e : Addr) (b : Nat) (old : Value) (w : World) (hg : ErrType w) (ht0 : w.cell? ⟨b, 0, none⟩ = some old) (hf0 : w.frozen? ⟨b, 0, none⟩ = false) :
    Calls Tryd.prog 11 #[.iface 29 (.pointer (some e)), .iface 31 (.pointer (some ⟨b, 0, none⟩))] w fun ev w' => ev = .returned (.bool true) ∧ w.grownBy w' (some b) ∧ w'.cell? ⟨b, 0, none⟩ = some (.pointer (some e)) ∧ w'.frozen? ⟨b, 0, none⟩ = false := by
  have hlt : b < w.heap.size := by
    rcases Nat.lt_or_ge b w.heap.size with h | h
    · exact h
    · simp [World.cell?, Array.getElem?_eq_none h] at ht0
  refine (as_hitF e ⟨b, 0, none⟩ old w hg ht0 hf0).mono ?_
  rintro ev w' ⟨rfl, rfl⟩
  refine ⟨rfl, grown_set (grown_all (grown_all (grown_all (grown_all (World.grownBy.refl w _) _) _) _) _) 0 _, ?_, ?_⟩
  · refine cell_set_same (old := old) ?_ _
    rw [World.cell?_alloc_lt _ _ ⟨b, 0, none⟩ (by simp; omega), World.cell?_alloc_lt _ _ ⟨b, 0, none⟩ (by simp; omega), World.cell?_alloc_lt _ _ ⟨b, 0, none⟩ (by simp; omega), World.cell?_alloc_lt _ _ ⟨b, 0, none⟩ hlt]; exact ht0
  · rw [World.frozen?_setCell]
    rw [World.frozen?_alloc_old _ _ ⟨b, 0, none⟩ (by simp; omega), World.frozen?_alloc_old _ _ ⟨b, 0, none⟩ (by simp; omega), World.frozen?_alloc_old _ _ ⟨b, 0, none⟩ (by simp; omega), World.frozen?_alloc_old _ _ ⟨b, 0, none⟩ (Nat.ne_of_lt hlt)]; exact hf0
theorem asK_any (e : Int) (b : Nat) (old : Value) (w : World) (hg : ErrType w) (ht0 : w.cell? ⟨b, 0, none⟩ = some old) (hf0 : w.frozen? ⟨b, 0, none⟩ = false) :
    Calls Tryd.prog 11 #[.iface 23 (.int .i64 e), .iface 78 (.pointer (some ⟨b, 0, none⟩))] w fun ev w' => ev = .returned (.bool true) ∧ w.grownBy w' (some b) ∧ w'.cell? ⟨b, 0, none⟩ = some (.int .i64 e) ∧ w'.frozen? ⟨b, 0, none⟩ = false := by
  have hlt : b < w.heap.size := by
    rcases Nat.lt_or_ge b w.heap.size with h | h
    · exact h
    · simp [World.cell?, Array.getElem?_eq_none h] at ht0
  refine (as_hitK e ⟨b, 0, none⟩ old w hg ht0 hf0).mono ?_
  rintro ev w' ⟨rfl, rfl⟩
  refine ⟨rfl, grown_set (grown_all (grown_all (grown_all (grown_all (World.grownBy.refl w _) _) _) _) _) 0 _, ?_, ?_⟩
  · refine cell_set_same (old := old) ?_ _
    rw [World.cell?_alloc_lt _ _ ⟨b, 0, none⟩ (by simp; omega), World.cell?_alloc_lt _ _ ⟨b, 0, none⟩ (by simp; omega), World.cell?_alloc_lt _ _ ⟨b, 0, none⟩ (by simp; omega), World.cell?_alloc_lt _ _ ⟨b, 0, none⟩ hlt]; exact ht0
  · rw [World.frozen?_setCell]
    rw [World.frozen?_alloc_old _ _ ⟨b, 0, none⟩ (by simp; omega), World.frozen?_alloc_old _ _ ⟨b, 0, none⟩ (by simp; omega), World.frozen?_alloc_old _ _ ⟨b, 0, none⟩ (by simp; omega), World.frozen?_alloc_old _ _ ⟨b, 0, none⟩ (Nat.ne_of_lt hlt)]; exact hf0

theorem idle35 (p : Addr) (w : World) :
    CallsD Tryd.prog 35 #[.pointer (some p)] .returning w fun e u' w' => e = .returned (.tuple #[]) ∧ u' = .returning ∧ w' = w := by
  refine callsD_of_wpS Tryd.func35 rfl fun c₀ cs hu => ?_
  apply wpS_seq
  apply wpS_region
  simp [wpOpsS, go_sem, recoverD, hu, Tryd.ntmps35, Exit.thenS]
  refine wpS_cond (t := false) (by simp [Act.eval, Array.replicate]) ?_
  simp only [Bool.false_eq_true, if_false]
  refine wpS_of_wp (wp_skip ?_)
  cases c₀
  simp_all [bodyPostS, results, Tryd.results35]
theorem idle37 (p : Addr) (w : World) :
    CallsD Tryd.prog 37 #[.pointer (some p)] .returning w fun e u' w' => e = .returned (.tuple #[]) ∧ u' = .returning ∧ w' = w := by
  refine callsD_of_wpS Tryd.func37 rfl fun c₀ cs hu => ?_
  apply wpS_seq
  apply wpS_region
  simp [wpOpsS, go_sem, recoverD, hu, Tryd.ntmps37, Exit.thenS]
  refine wpS_cond (t := false) (by simp [Act.eval, Array.replicate]) ?_
  simp only [Bool.false_eq_true, if_false]
  refine wpS_of_wp (wp_skip ?_)
  cases c₀
  simp_all [bodyPostS, results, Tryd.results37]

set_option maxRecDepth 100000 in
set_option maxHeartbeats 1000000 in
theorem of_nil (w : World) : Calls Tryd.prog 15 #[.nilIface] w fun e w' => e = .returned (.int .i64 0) ∧ Below w.heap.size w w' := by
  go_enter_defers Tryd.func15, Tryd.ntmps15
  go_wp2
  simp [bodyPostD, Leaves, results, Tryd.results15, go_sem]
  exact (Below.refl _ _).alloc (Nat.le_refl _) _

set_option maxRecDepth 100000 in
set_option maxHeartbeats 1000000 in
theorem of_kind {L : List (ByteArray × Int)} {k : Int} {v : Value} (w : World) (hE : Env w) (hC : Chain w (.iface 23 (.int .i64 k)) w.heap.size L v) :
    Calls Tryd.prog 15 #[v] w fun e w' => e = .returned (.int .i64 k) ∧ Below w.heap.size w w' := by
  have hm := hmf
  have hb1 : Below w.heap.size w (w.alloc (.cells #[.int .i64 0] 23)) := (Below.refl _ _).alloc (Nat.le_refl _) _
  have hb2 : Below w.heap.size w ((w.alloc (.cells #[.int .i64 0] 23)).alloc (.cells #[.int .i64 0] 23)) := hb1.alloc (by simp) _
  have hend := end_any (EndV.kind k) ((w.alloc (.cells #[.int .i64 0] 23)).alloc (.cells #[.int .i64 0] 23)) (Nat.le_refl _) ((hC.below hb2).mono (by simp; omega))
  obtain ⟨t, x, rfl⟩ : ∃ t x, v = .iface t x := by
    cases L with
    | nil => have hC : v = _ := hC; exact ⟨_, _, hC⟩
    | cons y L => obtain ⟨b, v', _, rfl, _⟩ := hC; exact ⟨_, _, rfl⟩
  go_enter_defers Tryd.func15, Tryd.ntmps15
  go_wp2_with fail
  refine hend.mono ?_
  clear hend
  rintro e w2 ⟨rfl, hb3⟩
  have cr := (hb3.cell (p := ⟨w.heap.size, 0, none⟩) (by simp; omega)).trans (show _ = some (.int .i64 0) by simp)
  have fr := (hb3.frozen (p := ⟨w.heap.size, 0, none⟩) (by simp; omega)).trans (show _ = false by simp)
  have cf := (hb3.cell (p := ⟨w.heap.size + 1, 0, none⟩) (by simp)).trans (show _ = some (.int .i64 0) by simp)
  have ff := (hb3.frozen (p := ⟨w.heap.size + 1, 0, none⟩) (by simp)).trans (show _ = false by simp)
  have hE2 := (hE.go hb2).go hb3
  have hz := hb3.size
  simp only [World.size_alloc] at hz
  go_wp2_with fail
  refine (asK_any k (w.heap.size + 1) _ w2 hE2.et cf ff).mono ?_
  rintro e w3 ⟨rfl, hg3, cf3, ff3⟩
  have hz3 := hg3.size
  have cr3 : w3.cell? ⟨w.heap.size, 0, none⟩ = some (.int .i64 0) := hg3.cell cr (by simp)
  have fr3 : w3.frozen? ⟨w.heap.size, 0, none⟩ = false := (hg3.frozen_far ⟨w.heap.size, 0, none⟩ (by simp; omega) (by simp)).trans fr
  have hbw : Below w.heap.size w (w3.setCell ⟨w.heap.size, 0, none⟩ (.int .i64 k)) := ((hb2.trans (hb3.mono (by simp; omega))).grown hg3 (by omega) (fun j e => by cases e; omega)).setCell (p := ⟨w.heap.size, 0, none⟩) (Nat.le_refl _) _
  go_wp2
  refine leaves_cons (f := 35) (args := #[.pointer (some ⟨w.heap.size, 0, none⟩)]) (by simp) (by simp [go_sem]) ?_
  refine (idle35 ⟨w.heap.size, 0, none⟩ _).mono ?_
  rintro e u' w'' ⟨rfl, rfl, rfl⟩
  simp [Leaves, settle, results, Tryd.results15, go_sem, cr3]
  exact hbw

set_option maxRecDepth 100000 in
set_option maxHeartbeats 1000000 in
theorem of_err {L : List (ByteArray × Int)} {p : Addr} {v : Value} (w : World) (hE : Env w) (hC : Chain w (.iface 81 (.pointer (some p))) w.heap.size L v) :
    Calls Tryd.prog 15 #[v] w fun e w' => e = .returned (.int .i64 1) ∧ Below w.heap.size w w' := by
  have hm := hmf
  have hb1 : Below w.heap.size w (w.alloc (.cells #[.int .i64 0] 23)) := (Below.refl _ _).alloc (Nat.le_refl _) _
  have hb2 : Below w.heap.size w ((w.alloc (.cells #[.int .i64 0] 23)).alloc (.cells #[.int .i64 0] 23)) := hb1.alloc (by simp) _
  have hend := end_any (EndV.err p) ((w.alloc (.cells #[.int .i64 0] 23)).alloc (.cells #[.int .i64 0] 23)) (Nat.le_refl _) ((hC.below hb2).mono (by simp; omega))
  obtain ⟨t, x, rfl⟩ : ∃ t x, v = .iface t x := by
    cases L with
    | nil => have hC : v = _ := hC; exact ⟨_, _, hC⟩
    | cons y L => obtain ⟨b, v', _, rfl, _⟩ := hC; exact ⟨_, _, rfl⟩
  go_enter_defers Tryd.func15, Tryd.ntmps15
  go_wp2_with fail
  refine hend.mono ?_
  clear hend
  rintro e w2 ⟨rfl, hb3⟩
  have cr := (hb3.cell (p := ⟨w.heap.size, 0, none⟩) (by simp; omega)).trans (show _ = some (.int .i64 0) by simp)
  have fr := (hb3.frozen (p := ⟨w.heap.size, 0, none⟩) (by simp; omega)).trans (show _ = false by simp)
  have hE2 := (hE.go hb2).go hb3
  have hz := hb3.size
  simp only [World.size_alloc] at hz
  go_wp2_with fail
  refine (as_miss p _ w2 hE2.et).mono ?_
  rintro e w3 ⟨rfl, hw3⟩
  have hb4 : Below w2.heap.size w2 w3 := by rw [hw3]; exact (((Below.refl _ _).alloc (Nat.le_refl _) _).alloc (by simp) _).alloc (by simp; omega) _
  clear hw3
  have hz3 := hb4.size
  have cr3 : w3.cell? ⟨w.heap.size, 0, none⟩ = some (.int .i64 0) := (hb4.cell (p := ⟨w.heap.size, 0, none⟩) (by simp; omega)).trans cr
  have fr3 : w3.frozen? ⟨w.heap.size, 0, none⟩ = false := (hb4.frozen (p := ⟨w.heap.size, 0, none⟩) (by simp; omega)).trans fr
  have hbw : Below w.heap.size w (w3.setCell ⟨w.heap.size, 0, none⟩ (.int .i64 1)) := ((hb2.trans (hb3.mono (by simp; omega))).trans (hb4.mono (by omega))).setCell (p := ⟨w.heap.size, 0, none⟩) (Nat.le_refl _) _
  go_wp2
  refine leaves_cons (f := 35) (args := #[.pointer (some ⟨w.heap.size, 0, none⟩)]) (by simp) (by simp [go_sem]) ?_
  refine (idle35 ⟨w.heap.size, 0, none⟩ _).mono ?_
  rintro e u' w'' ⟨rfl, rfl, rfl⟩
  simp [Leaves, settle, results, Tryd.results15, go_sem, cr3]
  exact hbw

end Go.Proofs.YteleldeeakklpaaDoor
