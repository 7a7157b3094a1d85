/-
  filigreelaw04.Light: is a graph small?
-/
import Derived.Test.YtdgecflljgnobaaXPLsts
namespace Go.Proofs.Ytdgecflljgnobaa
open Go Go.Proofs Go.RowKit

def lightB (n : Int) (l : List Ed) (c : Int) : Bool := decide (n ≤ c) && decide ((l.length : Int) ≤ 4 * c)
theorem lightB_true {n : Int} {l : List Ed} {c : Int} (h : lightB n l c = true) : n ≤ c ∧ (l.length : Int) ≤ 4 * c := by simpa [lightB] using h
set_option maxRecDepth 100000 in
theorem light_any (n : Int) (l : List Ed) (c : Int) (h0 : 0 ≤ c) (h1 : c ≤ 1000) (sv : Value) (w : World) (hl : Edges w.heap.size w sv l) :
    Calls Try.prog 7 #[.agg #[.int .i64 n, sv], .int .i64 c] w fun r w' => r = .returned (.bool (lightB n l c)) ∧ Grew w w' := by
  unfold lightB
  obtain ⟨p, q, rfl⟩ := hl.len
  go_enter Try.func7, Try.ntmps7
  go_wp2
  all_goals go_ret
  all_goals refine ⟨?_, (Grew.refl w).alloc _⟩
  all_goals simp
  all_goals first | done | omega | (simp_all <;> omega)
end Go.Proofs.Ytdgecflljgnobaa
