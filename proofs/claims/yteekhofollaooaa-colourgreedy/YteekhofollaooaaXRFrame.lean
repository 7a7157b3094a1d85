/-
  How lists of lists and darts that came in read.
-/
import Derived.Test.YteekhofollaooaaXGFrame
import Derived.Test.YteekhofollaooaaQB
namespace Go.Proofs.Yteekhofollaooaa
open Go Go.ChangeShapes Go.WideShapes Go.ChangeAt Go.RowKit Go.Joins

set_option maxRecDepth 100000 in
theorem ints_trod {W : World} {v : Value} {H : Type} {x : DataW H × List MemPlace} {enc : TypeId × Value → H} {fuel : Nat}
    (hf : DataW.trod enc Try.prog W 0 (fun _ => true) true fuel 25 [v] = some x) : ∃ l : List Int, Ints W.heap.size W v l ∧ l.length ≤ 9223372036854775807 := by
  rcases Deep.open_slice1 Try.underlying25 (by kernel_rfl) hf with ⟨hcs, _⟩ | ⟨ad, len, cp, m, n, V, D, Pl, hcs, _, hl, hm, hmm, hx, hc⟩
  · simp only [List.cons.injEq, and_true] at hcs
    subst hcs
    exact ⟨[], Vals.nil _ _ _ _, by decide⟩
  · simp only [List.cons.injEq, and_true] at hcs
    subst hcs
    simp at hmm
    subst hmm
    unfold maxLen at hm
    have each : ∀ i, i < len → ∃ z : Int, W.cell? (ad.add i) = some (.int .i64 z) := fun i hi => by
      obtain ⟨h1, h2⟩ := hc i (by omega)
      obtain ⟨z, e1, _⟩ := DataW.trod_int Try.underlying3 h2
      exact ⟨z, by rw [h1]; simpa using e1⟩
    by_cases h0 : len = 0
    · subst h0
      exact ⟨[], Vals.nil _ _ _ _, by decide⟩
    · obtain ⟨g, hg⟩ := Deep.choose_lt each
      refine ⟨(List.range len).map g, ?_, by simp; omega⟩
      obtain ⟨b, off, spot⟩ := ad
      have hc0 := hg 0 (by omega)
      have hspot : spot = none := by simpa [Addr.add] using World.cell?_spot hc0
      subst hspot
      rw [Go.WideShapes.add_plain] at hc0
      have hlt : b < W.heap.size := World.block_lt_of_cell? W ⟨b, _, none⟩ hc0
      refine .inr ⟨b, off, m, by simp, hlt, by simp; omega, fun j y hy => ?_⟩
      have hj : j < len := by simpa using (List.getElem?_eq_some_iff.1 hy).1
      have hyj : y = g j := by simpa [hj] using hy.symm
      subst hyj
      have h1 := hg j hj
      rw [Go.WideShapes.add_plain] at h1
      exact h1
set_option maxRecDepth 100000 in
/-- A slice of lists of numbers that came in. -/
theorem lsts_in {W : World} {v : Value} {H : Type} {d : DataW H} {p : List MemPlace} {enc : TypeId × Value → H} {base : Nat} {r : Reach}
    (_hv : Value.okWide Try.prog W r base 38 v) (h : DataW.Trod enc Try.prog W 0 (fun _ => true) true 38 v d p) :
    ∃ L : List (List Int), Lsts W.heap.size W v L ∧ L.length ≤ 9223372036854775807 ∧ ∀ x ∈ L, x.length ≤ 9223372036854775807 := by
  obtain ⟨a, len0, cap, rfl⟩ := okWide_slice Try.underlying38 _hv
  obtain ⟨fuel, hf0⟩ := h
  have hf : DataW.trod enc Try.prog W 0 (fun _ => true) true fuel 38 [.slice a len0 cap] = some (d, p) := by simpa [Value.cells] using hf0
  rcases Deep.open_slice1 Try.underlying38 (by kernel_rfl) hf with ⟨hcs, _⟩ | ⟨ad, len, cp, m, n, V, D, Pl, hcs, _, hl, hm, hmm, hx, hc⟩
  · rw [List.cons.injEq] at hcs
    rw [hcs.1]
    exact ⟨[], .inl ⟨⟨_, _, rfl⟩, rfl⟩, by decide, fun x hx => by simp at hx⟩
  · rw [List.cons.injEq] at hcs
    rw [hcs.1]
    clear hcs hf hf0
    simp at hmm
    subst hmm
    unfold maxLen at hm
    have each : ∀ i, i < len → ∃ z : List Int, ∃ sx, W.cell? (ad.add i) = some sx ∧ Ints W.heap.size W sx z ∧ z.length ≤ 9223372036854775807 := fun i hi => by
      obtain ⟨h1, h2⟩ := hc i (by omega)
      obtain ⟨z, hz, hzl⟩ := ints_trod h2
      exact ⟨z, V i, h1, hz, hzl⟩
    by_cases h0 : len = 0
    · subst h0
      exact ⟨[], .inl ⟨⟨_, _, rfl⟩, rfl⟩, by decide, fun x hx => by simp at hx⟩
    · obtain ⟨g, hg⟩ := Deep.choose_lt each
      refine ⟨(List.range len).map g, ?_, by simp; omega, fun x hx => by
        obtain ⟨i, hi, rfl⟩ := List.mem_map.1 hx
        obtain ⟨_, _, _, h3⟩ := hg i (List.mem_range.1 hi)
        exact h3⟩
      obtain ⟨b, off, spot⟩ := ad
      obtain ⟨s0, hc0, _⟩ := hg 0 (by omega)
      have hspot : spot = none := by simpa [Addr.add] using World.cell?_spot hc0
      subst hspot
      rw [Go.WideShapes.add_plain] at hc0
      have hlt : b < W.heap.size := World.block_lt_of_cell? W ⟨b, _, none⟩ hc0
      refine .inr ⟨b, off, m, by simp, hlt, by simp; omega, fun j y hy => ?_⟩
      have hj : j < len := by simpa using (List.getElem?_eq_some_iff.1 hy).1
      have hyj : y = g j := by simpa [hj] using hy.symm
      subst hyj
      obtain ⟨sx, h1, h2, _⟩ := hg j hj
      rw [Go.WideShapes.add_plain] at h1
      exact ⟨sx, h1, h2⟩
set_option maxRecDepth 100000 in
/-- A dart that came in. -/
theorem dart_in {W : World} {v : Value} {H : Type} {d : DataW H} {p : List MemPlace} {enc : TypeId × Value → H} {base : Nat} {r : Reach}
    (hv : Value.okWide Try.prog W r base 93 v) (h : DataW.Trod enc Try.prog W 0 (fun _ => true) true 93 v d p) : ∃ a b : Int, v = .agg #[.int .i64 a, .int .i64 b] := by
  obtain ⟨v0, v1, y0, y1, k, rfl, _, _, h0, h1⟩ := open_agg2 Try.underlying93 (by kernel_rfl) (by kernel_rfl) hv h
  have k0 : DataW.trod enc Try.prog W 0 (fun _ => true) true k 3 [v0] = some y0 := h0
  have k1 : DataW.trod enc Try.prog W 0 (fun _ => true) true k 3 [v1] = some y1 := h1
  obtain ⟨z, a, _, _⟩ := DataW.trod_int Try.underlying3 k0
  obtain ⟨z', a', _, _⟩ := DataW.trod_int Try.underlying3 k1
  simp only [List.cons.injEq, and_true] at a a'
  subst a
  subst a'
  exact ⟨z, z', rfl⟩
end Go.Proofs.Yteekhofollaooaa
