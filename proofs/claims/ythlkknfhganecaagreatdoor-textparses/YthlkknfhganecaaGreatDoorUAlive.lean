/-
  The contract of filigreelaw05.alive.
-/
import Derived.Lib.SlBytesConst
import Derived.Laws.StructEq
import Derived.Test.YthlkknfhganecaaGreatDoorUParse
import Derived.Test.YthlkknfhganecaaGreatDoorUTrail
namespace Go.Proofs.YthlkknfhganecaaGreatDoor
open Go Go.Proofs Go.RowKit

def xs1 : List Int := [103, 114, 97, 112, 104, 32, 50, 32, 49, 10, 101, 100, 103, 101, 32, 49, 32, 48, 32, 53, 10]
def xs2 : List Int := [103, 114, 97, 112, 104, 32, 50, 32, 49, 10, 101, 100, 103, 101, 32, 49, 32, 49, 32, 53, 10]
theorem num5 : numO ⟨#[53]⟩ = some 5 := by kernel_rfl
theorem read1 : readM (strOfNums xs1) = .ok (2, [(1, 0, 5)]) := by kernel_rfl
theorem read2 : readM (strOfNums xs2) = .error (6, 2) := by kernel_rfl

theorem make1 : makeK 2 [(1, 0, 5)] = 0 := by decide
theorem make1N : makeN 2 [(1, 0, 5)] = 2 := by unfold makeN; rw [make1]; rfl
theorem make1L : makeL 2 [(1, 0, 5)] = [(0, 1, 5)] := by unfold makeL; rw [make1, if_pos rfl]; simp [srt, norm]; decide
theorem parse1 : parseM xs1 = ⟨2, [(0, 1, 5)], none⟩ := by
  unfold parseM
  rw [if_neg (by decide), read1]
  show Parsed.mk (makeN 2 [(1, 0, 5)]) (makeL 2 [(1, 0, 5)]) (if makeK 2 [(1, 0, 5)] = 0 then none else some (textB, 0, makeK 2 [(1, 0, 5)])) = _
  rw [make1, make1N, make1L, if_pos rfl]
theorem parse2 : parseM xs2 = ⟨0, [], some (lineB, 2, 6)⟩ := by
  unfold parseM
  rw [if_neg (by decide), read2]
  rfl
theorem bytes_marked (w : World) (t : TypeId) (xs : List Int) (fr : Nat × Nat) : Bytes (w.alloc (.cells (xs.map (Value.int .u8)).toArray t fr)).heap.size (w.alloc (.cells (xs.map (Value.int .u8)).toArray t fr)) (.slice (some ⟨w.heap.size, 0, none⟩) xs.length xs.length) xs := by
  have hB : (w.alloc (.cells (xs.map (Value.int .u8)).toArray t fr)).heap[w.heap.size]? = some (.cells (xs.map (Value.int .u8)).toArray t fr) := heap_alloc_new w _
  refine .inr ⟨w.heap.size, 0, xs.length, rfl, by simp, Nat.le_refl _, fun j x hx => ?_⟩
  rw [Nat.zero_add]
  simp only [World.cell?, hB]
  simp [hx]
theorem eqE_run (x y : Ed) (w : World) : (binOp .eql 50 (edV x) (edV y)).run Tryz.prog w = .ok (.bool (decide (x = y))) w := by
  have u3 := Tryz.underlying3
  have a3 := Tryz.isAgg3
  have z3 := Tryz.sizeOf3
  have u2 := Tryz.underlying2
  have a2 := Tryz.isAgg2
  have z2 := Tryz.sizeOf2
  have hS : Tryz.prog.underlying 50 = some (.struct (Tryz.prog.fieldsOf 50)) := by kernel_rfl
  have hp : Tryz.prog.stoodInHeld 50 = false := by kernel_rfl
  rw [run_eql_struct, show (10000 : Nat) = 9999 + 1 from rfl, run_equalIn_agg w 9999 50 _ _ hS hp]
  simp only [Program.fieldsOf, Tryz.underlying50]
  go_simp
  obtain ⟨x0, x1, x2⟩ := x
  obtain ⟨y0, y1, y2⟩ := y
  by_cases h0 : x0 = y0 <;> by_cases h1 : x1 = y1 <;> by_cases h2 : x2 = y2 <;> simp [h0, h1, h2]

set_option maxRecDepth 100000 in
set_option maxHeartbeats 4000000 in
theorem alive_any (w : World) (hE : Env w) : Calls Tryz.prog 10 #[] w fun e w' => e = .returned (.bool true) ∧ Below w.heap.size w w' := by
  have hmix := mixed
  have hcs := fun W C => Lib.run_convert_bytes_const (P := Tryz.prog) W 27 5 C 21 21 Tryz.underlying27 Tryz.underlying5
  have hp1 : ∀ W, Env W → Calls Tryz.prog 11 #[.slice (some ⟨W.heap.size, 0, none⟩) 21 21] (W.alloc (.cells (xs1.map (Value.int .u8)).toArray 5 (21, 22))) fun e w' => ∃ gv, e = .returned (.tuple #[.agg #[.int .i64 2, gv], .nilIface]) ∧ Edges w'.heap.size w' gv [(0, 1, 5)] ∧ Below W.heap.size W w' := fun W hW => by
    have hb : Below W.heap.size W (W.alloc (.cells (xs1.map (Value.int .u8)).toArray 5 (21, 22))) := (Below.refl _ _).alloc (Nat.le_refl _) _
    have h := parse_any xs1 (by decide) _ _ (hW.go hb) (bytes_marked W 5 xs1 (21, 22))
    rw [parse1] at h
    refine h.mono ?_
    rintro e w' ⟨gv, ev, rfl, h2, rfl, h4⟩
    exact ⟨gv, rfl, h2, hb.trans (h4.mono hb.size)⟩
  have hp2 : ∀ W, Env W → Calls Tryz.prog 11 #[.slice (some ⟨W.heap.size, 0, none⟩) 21 21] (W.alloc (.cells (xs2.map (Value.int .u8)).toArray 5 (21, 22))) fun e w' => ∃ gv b, e = .returned (.tuple #[.agg #[.int .i64 0, gv], .iface 81 (.pointer (some ⟨b, 0, none⟩))]) ∧ Edges w'.heap.size w' gv [] ∧ FB w' b lineB 2 (.iface 22 (.int .i64 6)) ∧ Below W.heap.size W w' := fun W hW => by
    have hb : Below W.heap.size W (W.alloc (.cells (xs2.map (Value.int .u8)).toArray 5 (21, 22))) := (Below.refl _ _).alloc (Nat.le_refl _) _
    have h := parse_any xs2 (by decide) _ _ (hW.go hb) (bytes_marked W 5 xs2 (21, 22))
    rw [parse2] at h
    refine h.mono ?_
    rintro e w' ⟨gv, ev, rfl, h2, ⟨_, b, rfl, hF⟩, h4⟩
    exact ⟨gv, b, rfl, h2, hF, hb.trans (h4.mono hb.size)⟩
  go_enter Tryz.func10, Tryz.ntmps10
  go_wp2_with fail
  refine (hp1 _ hE).mono ?_
  rintro e w2 ⟨gv, rfl, hEd2, hbw2⟩
  clear hp1
  obtain ⟨pg, cg, rfl⟩ := hEd2.len
  have hb3 : Below w2.heap.size w2 (w2.alloc (.cells #[.int .i64 2, .slice pg 1 cg] 30)) := (Below.refl _ _).alloc (Nat.le_refl _) _
  have hX3 : Blk 30 (w2.alloc (.cells #[.int .i64 2, .slice pg 1 cg] 30)) w2.heap.size [.int .i64 2, .slice pg 1 cg] := heap_alloc_new w2 _
  have hEd3 := hEd2.go hb3
  have hbw3 := hbw2.trans (hb3.mono hbw2.size)
  have hE3 := hE.go hbw3
  have hcs2 := hcs (w2.alloc (.cells #[.int .i64 2, .slice pg 1 cg] 30))
  rw [World.size_alloc] at hcs2
  have hp2' := hp2 _ hE3
  rw [World.size_alloc] at hp2'
  go_wp2_with fail
  refine hp2'.mono ?_
  rintro e w4 ⟨gv, b, rfl, hEd4, hF4, hbw4'⟩
  have hbw4 : Below (w2.alloc (.cells #[.int .i64 2, .slice pg 1 cg] 30)).heap.size (w2.alloc (.cells #[.int .i64 2, .slice pg 1 cg] 30)) w4 := by rw [World.size_alloc]; exact hbw4'
  clear hp2 hp2' hcs2
  obtain ⟨ph, ch, rfl⟩ := hEd4.len
  have hb5 : Below w4.heap.size w4 (w4.alloc (.cells #[.int .i64 0, .slice ph 0 ch] 30)) := (Below.refl _ _).alloc (Nat.le_refl _) _
  have hX4 := hX3.go hbw4
  have hEd5 := (hEd3.go hbw4).go hb5
  have hX5 := hX4.go hb5
  have hF5 : FB (w4.alloc (.cells #[.int .i64 0, .slice ph 0 ch] 30)) b lineB 2 (.iface 22 (.int .i64 6)) := (hb5.block b hF4.lt).trans hF4
  have hbw5 : Below w.heap.size w (w4.alloc (.cells #[.int .i64 0, .slice ph 0 ch] 30)) := (hbw3.trans (hbw4.mono hbw3.size)).trans (hb5.mono (by have := hbw3.size; have := hbw4.size; omega))
  have hE5 := hE.go hbw5
  obtain ⟨b2, off2, rfl, hbb2, hcap2, hc2, -⟩ := hEd5.open (j := 0) (by decide)
  obtain ⟨c0, c1, c2⟩ := hc2 _ (Below.refl _ _) 0 (by decide)
  have x0 := hX5.cell (j := 0) rfl
  have x1 := hX5.cell (j := 1) rfl
  have heq := eqE_run (0, 1, 5) (0, 1, 5)
  have hC : Chain (w4.alloc (.cells #[.int .i64 0, .slice ph 0 ch] 30)) (.iface 22 (.int .i64 6)) (w4.alloc (.cells #[.int .i64 0, .slice ph 0 ch] 30)).heap.size [(lineB, 2)] (.iface 81 (.pointer (some ⟨b, 0, none⟩))) := ⟨b, _, hF5.lt, rfl, hF5, rfl⟩
  simp only [List.getElem_cons_zero, Nat.zero_mul, Nat.add_zero] at c0 c1 c2
  have hof := of_kind _ hE5 hC
  go_wp2_with fail
  refine hof.mono ?_
  rintro e w6 ⟨rfl, hb6⟩
  have hC6 := (hC.below hb6).mono hb6.size
  have hpl := place_any (q := lineB) (EndV.kind 6) w6 hC6
  have hp2 : plN lineB [(lineB, 2)] = 2 := by kernel_rfl
  rw [hp2] at hpl
  go_wp2_with fail
  refine hpl.mono ?_
  rintro e w7 ⟨rfl, hb7⟩
  go_wp2
  go_ret
  exact ⟨rfl, (hbw5.trans (hb6.mono hbw5.size)).trans (hb7.mono (by have := hbw5.size; have := hb6.size; omega))⟩

end Go.Proofs.YthlkknfhganecaaGreatDoor
