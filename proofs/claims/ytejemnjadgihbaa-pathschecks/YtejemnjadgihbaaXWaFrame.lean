/-
  How slices of int64 that came in read as lists.
-/
import Derived.Test.YtejemnjadgihbaaXGFrame2
namespace Go.Proofs.Ytejemnjadgihbaa
open Go Go.ChangeShapes Go.WideShapes Go.ChangeAt Go.RowKit Go.Joins

/-- A slice of int64 that came in: its numbers are none above the type's range. -/
theorem longs_in {W : World} {v : Value} {H : Type} {d : DataW H} {p : List MemPlace} {enc : TypeId × Value → H} {base : Nat} {r : Reach}
    (hv : Value.okWide Try.prog W r base 30 v) (h : DataW.Trod enc Try.prog W 0 (fun _ => true) true 30 v d p) : ∃ l : List Int, Ints W.heap.size W v l ∧ ∀ x ∈ l, x ≤ 9223372036854775807 := by
  obtain ⟨a, len, cap, rfl⟩ := okWide_slice Try.underlying30 hv
  obtain ⟨fuel, hf⟩ := h
  have hx : ∃ l : List {z : Int // z ≤ 9223372036854775807}, Vals (fun z : {z : Int // z ≤ 9223372036854775807} => Value.int .i64 z.1) W.heap.size W (.slice a len cap) l := by
    refine vals_in Try.underlying30 (by kernel_rfl) (fun n v y hy => ?_) (by simpa [Value.cells] using hf)
    obtain ⟨z, e1, _, hw⟩ := DataW.trod_int Try.underlying2 hy
    have hz : z ≤ 9223372036854775807 := by
      simp [Lit.wf] at hw
      omega
    exact ⟨⟨z, hz⟩, by simpa using e1⟩
  obtain ⟨l, hl⟩ := hx
  refine ⟨l.map Subtype.val, ?_, fun x hx => ?_⟩
  · rcases hl with ⟨h1, rfl⟩ | ⟨b, off, cp, h1, h2, h3, h4⟩
    · exact .inl ⟨h1, rfl⟩
    · refine .inr ⟨b, off, cp, by simpa using h1, h2, by simpa using h3, fun j x hx => ?_⟩
      rw [List.getElem?_map] at hx
      cases hj : l[j]? with
      | none => rw [hj] at hx; cases hx
      | some z =>
        rw [hj] at hx
        obtain rfl := Option.some.inj hx
        exact h4 j z hj
  · obtain ⟨z, _, rfl⟩ := List.mem_map.1 hx
    exact z.2
end Go.Proofs.Ytejemnjadgihbaa
