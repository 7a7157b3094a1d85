/-
  (*walk).start where the vertex has been seen: nothing is done. ((*walk).side, too.)
-/
import Derived.Deep.QuietTactic
import Derived.BigQuiet
import Derived.Test.YtdadpfkoocpfaaaPWalkB
namespace Go.Proofs.Ytdadpfkoocpfaaa
open Go Go.Proofs Go.RowKit

set_option maxRecDepth 100000 in
set_option maxHeartbeats 4000000 in
theorem start_seen (a : Lay) (lv pv ov : Value) (s : WS) (r : Nat) (hr : r < a.N) (hN : a.N ≤ 1048576) (hD : s.depth.length = a.N) (hpos : 0 ≤ s.depth.getD r 0) (w : World) (h : WB a lv pv ov s w) :
    Calls Try.prog 49 #[.pointer (some ⟨a.wb, 0, none⟩), .int .i64 (r : Int)] w fun e w' => e = .returned (.tuple #[]) ∧ w' = w := by
  have b3 := h.blk.cell (j := 3) rfl
  have hrN : (r : Int) < (a.N : Int) := by omega
  have t0 : w.cell? ⟨a.db, r, none⟩ = some (.int .i64 (s.depth.getD r 0)) := h.dep.cell (by rw [List.getElem?_map, List.getElem?_eq_getElem (by omega)]; simp [show r < s.depth.length by omega])
  obtain ⟨N, M, wb, rb, fb, db, kb, h0⟩ := a
  simp only at *
  generalize s.depth.getD r 0 = d at *
  clear h hD
  go_enter Try.func49, Try.ntmps49
  go_wp2
  (try simp only [Exit.inBlock, Exit.then])
  refine bodyPost_ret (results_none rfl _ _ _) rfl ?_
  exact ⟨rfl, rfl⟩
end Go.Proofs.Ytdadpfkoocpfaaa
