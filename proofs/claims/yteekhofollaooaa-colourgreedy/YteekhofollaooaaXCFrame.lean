/-
  A slice of numbers that came in has at most as many numbers as the language's own int can tell.
-/
import Derived.Test.YteekhofollaooaaXGFrame2
import Derived.Test.YteekhofollaooaaXRFrame
namespace Go.Proofs.Yteekhofollaooaa
open Go Go.ChangeShapes Go.WideShapes Go.ChangeAt Go.RowKit Go.Joins
set_option maxRecDepth 100000 in
theorem ints_inB {W : World} {v : Value} {H : Type} {d : DataW H} {p : List MemPlace} {enc : TypeId × Value → H} {base : Nat} {r : Reach}
    (hv : Value.okWide Try.prog W r base 25 v) (h : DataW.Trod enc Try.prog W 0 (fun _ => true) true 25 v d p) : ∃ l : List Int, Ints W.heap.size W v l ∧ l.length ≤ 9223372036854775807 := by
  obtain ⟨a, len, cap, rfl⟩ := okWide_slice Try.underlying25 hv
  obtain ⟨fuel, hf⟩ := h
  exact ints_trod (by simpa [Value.cells] using hf)
end Go.Proofs.Yteekhofollaooaa
