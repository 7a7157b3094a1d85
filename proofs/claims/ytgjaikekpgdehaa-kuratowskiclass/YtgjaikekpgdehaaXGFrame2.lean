/-
  How slices of numbers and of truth values that came in read as lists.
-/
import Derived.Test.YtgjaikekpgdehaaXGFrame
namespace Go.Proofs.Ytgjaikekpgdehaa
open Go Go.ChangeShapes Go.WideShapes Go.ChangeAt Go.RowKit Go.Joins

theorem vals_in {α : Type} {en : α → Value} {W : World} {a : Option Addr} {len cap : Nat} {H : Type} {x : DataW H × List MemPlace} {enc : TypeId × Value → H} {fuel : Nat} {t e : TypeId}
    (ht : Try.prog.underlying t = some (.slice e)) (hc1 : Try.prog.cellsOf e = 1) (hone : ∀ n v y, DataW.trod enc Try.prog W 0 (fun _ => true) true n e [v] = some y → ∃ z : α, v = en z)
    (hf : DataW.trod enc Try.prog W 0 (fun _ => true) true fuel t [.slice a len cap] = some x) : ∃ l : List α, Vals en W.heap.size W (.slice a len cap) l := by
  rcases Deep.open_slice1 ht hc1 hf with ⟨hcs, _⟩ | ⟨ad, ln, cp, m, n, V, D, Pl, hcs, _, hl, hm, hmm, hx, hc⟩
  · simp only [List.cons.injEq, and_true, Value.slice.injEq] at hcs
    obtain ⟨rfl, rfl, rfl⟩ := hcs
    exact ⟨[], Vals.nil _ _ _ _⟩
  · simp only [List.cons.injEq, and_true, Value.slice.injEq] at hcs
    obtain ⟨rfl, rfl, rfl⟩ := hcs
    simp at hmm
    subst hmm
    have each : ∀ i, i < len → ∃ z : α, W.cell? (ad.add i) = some (en z) := fun i hi => by
      obtain ⟨h1, h2⟩ := hc i (by omega)
      obtain ⟨z, hz⟩ := hone _ _ _ h2
      exact ⟨z, by rw [h1, hz]⟩
    by_cases h0 : len = 0
    · subst h0
      exact ⟨[], Vals.nil _ _ _ _⟩
    · obtain ⟨z0, hz0⟩ := each 0 (by omega)
      have : Inhabited α := ⟨z0⟩
      obtain ⟨g, hg⟩ := Deep.choose_lt each
      refine ⟨(List.range len).map g, ?_⟩
      obtain ⟨b, off, spot⟩ := ad
      have hc0 := hg 0 (by omega)
      have hspot : spot = none := by simpa [Addr.add] using World.cell?_spot hc0
      subst hspot
      rw [Go.WideShapes.add_plain] at hc0
      have hlt : b < W.heap.size := World.block_lt_of_cell? W ⟨b, _, none⟩ hc0
      refine .inr ⟨b, off, m, by simp, hlt, by simp; omega, fun j y hy => ?_⟩
      have hj : j < len := by simpa using (List.getElem?_eq_some_iff.1 hy).1
      have hyj : y = g j := by simpa [hj] using hy.symm
      subst hyj
      have h1 := hg j hj
      rw [Go.WideShapes.add_plain] at h1
      exact h1

set_option maxRecDepth 100000 in
/-- A slice of numbers that came in. -/
theorem ints_in {W : World} {v : Value} {H : Type} {d : DataW H} {p : List MemPlace} {enc : TypeId × Value → H} {base : Nat} {r : Reach}
    (hv : Value.okWide Try.prog W r base 25 v) (h : DataW.Trod enc Try.prog W 0 (fun _ => true) true 25 v d p) : ∃ l : List Int, Ints W.heap.size W v l := by
  obtain ⟨a, len, cap, rfl⟩ := okWide_slice Try.underlying25 hv
  obtain ⟨fuel, hf⟩ := h
  refine vals_in Try.underlying25 (by kernel_rfl) (fun n v y hy => ?_) (by simpa [Value.cells] using hf)
  obtain ⟨z, e1, _⟩ := DataW.trod_int Try.underlying3 hy
  exact ⟨z, by simpa using e1⟩
set_option maxRecDepth 100000 in
/-- A slice of truth values that came in. -/
theorem bools_in {W : World} {v : Value} {H : Type} {d : DataW H} {p : List MemPlace} {enc : TypeId × Value → H} {base : Nat} {r : Reach}
    (hv : Value.okWide Try.prog W r base 60 v) (h : DataW.Trod enc Try.prog W 0 (fun _ => true) true 60 v d p) : ∃ l : List Bool, Bools W.heap.size W v l := by
  obtain ⟨a, len, cap, rfl⟩ := okWide_slice Try.underlying60 hv
  obtain ⟨fuel, hf⟩ := h
  refine vals_in Try.underlying60 (by kernel_rfl) (fun n v y hy => ?_) (by simpa [Value.cells] using hf)
  obtain ⟨z, e1, _⟩ := DataW.trod_bool Try.underlying4 hy
  exact ⟨z, by simpa using e1⟩

end Go.Proofs.Ytgjaikekpgdehaa
