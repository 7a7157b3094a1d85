/-
  The contracts of text.kindOf and of what text.read defers.
-/
import Derived.Test.YthlkknfhganecaaGreatDoorUHead
namespace Go.Proofs.YthlkknfhganecaaGreatDoor
open Go Go.Proofs Go.RowKit

theorem assertKind (k : Int) (w : World) : (Instr.typeAssert (.iface 22 (.int .i64 k)) 20 22 true).run Tryz.prog w = .ok (.tuple #[.int .i64 k, .bool true]) w := by kernel_rfl
theorem kindOf_any (k : Int) (w : World) : Calls Tryz.prog 45 #[.iface 22 (.int .i64 k)] w fun e w' => e = .returned (.int .i64 k) ∧ w' = w := by
  have ha := assertKind k
  go_enter Tryz.func45, Tryz.ntmps45
  go_wp2
  go_ret
  exact ⟨rfl, rfl⟩
theorem catch_idle (p0 p1 p2 p3 : Addr) (w : World) :
    CallsD Tryz.prog 44 #[.pointer (some p0), .pointer (some p1), .pointer (some p2), .pointer (some p3)] .returning w fun e u' w' => e = .returned (.tuple #[]) ∧ u' = .returning ∧ w' = w := by
  refine callsD_of_wpS Tryz.func44 rfl fun c₀ cs hu => ?_
  apply wpS_seq
  apply wpS_region
  simp [wpOpsS, go_sem, recoverD, hu, Tryz.ntmps44, Exit.thenS]
  generalize htm : (#[Value.pointer (some p0), Value.pointer (some p1), Value.pointer (some p2), Value.pointer (some p3)] ++ ((Array.replicate 12 undef).setIfInBounds 1 Value.nilIface).setIfInBounds 0 Value.nilIface) = tm
  obtain rfl : tm = #[.pointer (some p0), .pointer (some p1), .pointer (some p2), .pointer (some p3), .nilIface, .nilIface, undef, undef, undef, undef, undef, undef, undef, undef, undef, undef] := by rw [← htm]; rfl
  clear htm
  refine wpS_of_wp ?_
  go_wp2
  cases c₀
  simp_all [bodyPostS, results, Tryz.results44]

theorem keepC_set {W : World} {a b p : Addr} {x y : Value} (h : W.cell? a = some x ∧ W.cell? b = some y) (h1 : p.block ≠ a.block) (h2 : p.block ≠ b.block) (v : Value) : (W.setCell p v).cell? a = some x ∧ (W.setCell p v).cell? b = some y :=
  ⟨(World.cell?_setCell_other _ _ _ _ (fun e => h1 (congrArg Addr.block e))).trans h.1, (World.cell?_setCell_other _ _ _ _ (fun e => h2 (congrArg Addr.block e))).trans h.2⟩
theorem keepC_alloc {W : World} {a b : Addr} {x y : Value} (h : W.cell? a = some x ∧ W.cell? b = some y) (o : Obj) : (W.alloc o).cell? a = some x ∧ (W.alloc o).cell? b = some y :=
  ⟨((Below.refl W.heap.size W).alloc (Nat.le_refl _) o).cell (World.block_lt_of_cell? W a h.1) |>.trans h.1, ((Below.refl W.heap.size W).alloc (Nat.le_refl _) o).cell (World.block_lt_of_cell? W b h.2) |>.trans h.2⟩
theorem keepC_drew {W : World} {a b : Addr} {x y : Value} (h : W.cell? a = some x ∧ W.cell? b = some y) : W.drew.cell? a = some x ∧ W.drew.cell? b = some y := h
def lineB : ByteArray := ⟨#[108, 105, 110, 101]⟩
set_option maxRecDepth 100000 in
set_option maxHeartbeats 2000000 in
theorem catch_kind (k : Int) (hk : k ≠ 0) (lb nb eb rb vb : Nat) (rest : ByteArray) (t : Nat) (n : Int) (es ev : Value) (w : World)
    (hL : Blk 85 w lb [.pointer (some ⟨rb, 0, none⟩)]) (hN : Blk 3 w nb [.int .i64 n]) (hS : Blk 28 w eb [es]) (hV : Blk 32 w vb [ev]) (hR : RB w rb rest t) (hd : nb ≠ eb ∧ nb ≠ vb ∧ eb ≠ vb ∧ lb ≠ nb ∧ lb ≠ eb ∧ lb ≠ vb ∧ rb ≠ nb ∧ rb ≠ eb ∧ rb ≠ vb) :
    CallsD Tryz.prog 44 #[.pointer (some ⟨lb, 0, none⟩), .pointer (some ⟨nb, 0, none⟩), .pointer (some ⟨eb, 0, none⟩), .pointer (some ⟨vb, 0, none⟩)] (.panicking [{ v := .iface 22 (.int .i64 k), recovered := false }]) w fun e u' w' =>
      e = .returned (.tuple #[]) ∧ u' = .panicking [{ v := .iface 22 (.int .i64 k), recovered := true }] ∧
      ∃ x, FB w' x lineB (t : Int) (.iface 22 (.int .i64 k)) ∧ w.heap.size ≤ x ∧ Blk 3 w' nb [.int .i64 0] ∧ Blk 28 w' eb [.slice none 0 0] ∧ Blk 32 w' vb [.iface 81 (.pointer (some ⟨x, 0, none⟩))] ∧
        (∀ b, b < w.heap.size → b ≠ nb → b ≠ eb → b ≠ vb → w'.heap[b]? = w.heap[b]?) ∧ w.heap.size ≤ w'.heap.size ∧ w'.os = w.os ∧ w'.tape = w.tape ∧ w'.output = w.output := by
  have hmix := mixed
  refine callsD_of_wpS Tryz.func44 rfl fun c₀ cs hu => ?_
  apply wpS_seq
  apply wpS_region
  simp [wpOpsS, go_sem, recoverD, hu, Tryz.ntmps44, Exit.thenS]
  generalize htm : (#[Value.pointer (some ⟨lb, 0, none⟩), Value.pointer (some ⟨nb, 0, none⟩), Value.pointer (some ⟨eb, 0, none⟩), Value.pointer (some ⟨vb, 0, none⟩)] ++ ((Array.replicate 12 undef).setIfInBounds 1 (Value.iface 22 (.int .i64 k))).setIfInBounds 0 (Value.iface 22 (.int .i64 k))) = tm
  obtain rfl : tm = #[.pointer (some ⟨lb, 0, none⟩), .pointer (some ⟨nb, 0, none⟩), .pointer (some ⟨eb, 0, none⟩), .pointer (some ⟨vb, 0, none⟩), .iface 22 (.int .i64 k), .iface 22 (.int .i64 k), undef, undef, undef, undef, undef, undef, undef, undef, undef, undef] := by rw [← htm]; rfl
  clear htm hu
  have l0 := hL.cell (j := 0) rfl
  have r1 := Blk.cell hR (j := 1) rfl
  have n0 := hN.cell (j := 0) rfl
  have s0 := hS.cell (j := 0) rfl
  have v0 := hV.cell (j := 0) rfl
  have fn0 := hN.frozen 0
  have fs0 := hS.frozen 0
  have fv0 := hV.frozen 0
  have hll := hL.lt
  have hrl := Blk.lt hR
  have hnl := hN.lt
  have hsl := hS.lt
  have hvl := hV.lt
  obtain ⟨d1, d2, d3, d4, d5, d6, d7, d8, d9⟩ := hd
  have hko := kindOf_any k
  have hwr := wrap_any lineB (t : Int) (.iface 22 (.int .i64 k)) (Wraps.kind k hk)
  refine wpS_of_wp ?_
  go_wp2
  go_region_held3 (fun w' => w'.cell? ⟨lb, 0, none⟩ = some (.pointer (some ⟨rb, 0, none⟩)) ∧ w'.cell? ⟨rb, 1, none⟩ = some (.int .i64 (t : Int))) ((repeat first | assumption | exact ⟨l0, r1⟩ | refine keepC_drew ?_ | refine keepC_alloc ?_ _ | refine keepC_set ?_ (by simp only; omega) (by simp only; omega) _)) (first | (go_at_call 45; refine (hko _).mono ?_; rintro e wK ⟨rfl, rfl⟩) | (go_at_call 22; refine (hwr _).mono ?_; rintro e wX ⟨rfl, rfl⟩))
  have hsz : (((w.setCell ⟨nb, 0, none⟩ (.int .i64 0)).setCell ⟨eb, 0, none⟩ (.slice none 0 0)).setCell ⟨vb, 0, none⟩ (.iface 81 (.pointer (some ⟨w.heap.size, 0, none⟩)))).heap.size = w.heap.size := by simp
  have hN3 := ((hN.set 0 (.int .i64 0)).other (p := ⟨eb, 0, none⟩) (by simp only; omega) (.slice none 0 0)).other (p := ⟨vb, 0, none⟩) (by simp only; omega) (.iface 81 (.pointer (some ⟨w.heap.size, 0, none⟩)))
  have hS3 := ((hS.other (p := ⟨nb, 0, none⟩) (by simp only; omega) (.int .i64 0)).set 0 (.slice none 0 0)).other (p := ⟨vb, 0, none⟩) (by simp only; omega) (.iface 81 (.pointer (some ⟨w.heap.size, 0, none⟩)))
  have hV3 := ((hV.other (p := ⟨nb, 0, none⟩) (by simp only; omega) (.int .i64 0)).other (p := ⟨eb, 0, none⟩) (by simp only; omega) (.slice none 0 0)).set 0 (.iface 81 (.pointer (some ⟨w.heap.size, 0, none⟩)))
  have hkb : ∀ b, b < w.heap.size → b ≠ nb → b ≠ eb → b ≠ vb → (((w.setCell ⟨nb, 0, none⟩ (.int .i64 0)).setCell ⟨eb, 0, none⟩ (.slice none 0 0)).setCell ⟨vb, 0, none⟩ (.iface 81 (.pointer (some ⟨w.heap.size, 0, none⟩)))).heap[b]? = w.heap[b]? := fun b _ h1 h2 h3 => ((Below.heap_setCell _ _ _ _ (by simpa using h3)).trans (Below.heap_setCell _ _ _ _ (by simpa using h2))).trans (Below.heap_setCell _ _ _ _ (by simpa using h1))
  have hbz : Below 0 w (((w.setCell ⟨nb, 0, none⟩ (.int .i64 0)).setCell ⟨eb, 0, none⟩ (.slice none 0 0)).setCell ⟨vb, 0, none⟩ (.iface 81 (.pointer (some ⟨w.heap.size, 0, none⟩)))) := (((Below.refl 0 w).setCell (Nat.zero_le _) _).setCell (Nat.zero_le _) _).setCell (Nat.zero_le _) _
  generalize ((w.setCell ⟨nb, 0, none⟩ (.int .i64 0)).setCell ⟨eb, 0, none⟩ (.slice none 0 0)).setCell ⟨vb, 0, none⟩ (.iface 81 (.pointer (some ⟨w.heap.size, 0, none⟩))) = A at hsz hN3 hS3 hV3 hkb hbz ⊢
  have hbA : Below A.heap.size A (A.alloc (.cells #[.string lineB, .int .i64 (t : Int), .iface 22 (.int .i64 k)] 83)).drew := below_drewN ((Below.refl _ _).alloc (Nat.le_refl _) _) 1
  have hnew := heap_alloc_new A (.cells #[.string lineB, .int .i64 (t : Int), .iface 22 (.int .i64 k)] 83)
  rw [hsz] at hnew
  go_wp2
  exact ⟨rfl, _, rfl, .tuple #[], by simp [results, Tryz.results44], rfl, rfl, w.heap.size, hnew, Nat.le_refl _, hN3.go hbA, hS3.go hbA, hV3.go hbA, fun b hb h1 h2 h3 => (hbA.block b (by omega)).trans (hkb b hb h1 h2 h3), by have := hbA.size; omega, hbA.os.trans hbz.os, hbA.tape.trans hbz.tape, hbA.output.trans hbz.output⟩

end Go.Proofs.YthlkknfhganecaaGreatDoor
