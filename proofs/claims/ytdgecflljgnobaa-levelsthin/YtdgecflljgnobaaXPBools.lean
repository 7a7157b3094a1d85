/-
  Lists of truths that are made, and read.
-/
import Derived.Test.YtdgecflljgnobaaXPTwoMath
namespace Go.Proofs.Ytdgecflljgnobaa
open Go Go.Proofs Go.RowKit

theorem infoBo : (Try.prog.info? 4).map (fun i => (i.zero, i.size, i.bytes)) = some (some (.bool false), 1, 1) := by kernel_rfl
theorem bools_madeP (n : Nat) : (madeCells (Value.bool false).cells (n * 1)).toList = (List.replicate n false).map Value.bool := by
  apply List.ext_getElem
  · simp [madeCells]
  · intro i h1 h2
    simp [madeCells, Value.cells, Nat.mod_one]
theorem Blk.bools {W : World} {g : Nat} {l : List Bool} {t : TypeId} (h : Blk t W g (l.map Value.bool)) : Bools W.heap.size W (.slice (some ⟨g, 0, none⟩) l.length l.length) l :=
  .inr ⟨g, 0, l.length, rfl, h.lt, Nat.le_refl _, fun j x hx => by
    rw [Nat.zero_add]
    exact h.cell (by rw [List.getElem?_map, hx]; rfl)⟩
end Go.Proofs.Ytdgecflljgnobaa
