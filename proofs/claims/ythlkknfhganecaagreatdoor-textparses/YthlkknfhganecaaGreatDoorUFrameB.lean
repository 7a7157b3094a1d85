/-
  How a slice of bytes that came in reads as a list of numbers.
-/
import Derived.Test.YthlkknfhganecaaGreatDoorUFrameG
import Derived.Test.YthlkknfhganecaaGreatDoorUParse
namespace Go.Proofs.YthlkknfhganecaaGreatDoor
open Go Go.ChangeShapes Go.WideShapes Go.ChangeAt Go.RowKit Go.Joins

set_option maxRecDepth 100000 in
/-- A slice of bytes that came in; its length is no greater than its weight. -/
theorem bytes_in {W : World} {v : Value} {H : Type} {d : DataW H} {p : List MemPlace} {enc : TypeId × Value → H} {base : Nat} {r : Reach}
    (hv : Value.okWide Tryz.prog W r base 27 v) (h : DataW.Trod enc Tryz.prog W 0 (fun _ => true) true 27 v d p) (hw : ∀ n ∈ d.weights Tryz.prog 27, n ≤ reachBytes) :
    ∃ xs : List Int, Bytes W.heap.size W v xs ∧ xs.length ≤ 140737488355328 ∧ ∀ x ∈ xs, 0 ≤ x ∧ x ≤ 255 := by
  obtain ⟨a, len, cap, rfl⟩ := okWide_slice Tryz.underlying27 hv
  obtain ⟨fuel, hf0⟩ := h
  have hf : DataW.trod enc Tryz.prog W 0 (fun _ => true) true fuel 27 [.slice a len cap] = some (d, p) := by simpa [Value.cells] using hf0
  rcases Deep.open_slice Tryz.underlying27 hf with ⟨hcs, _⟩ | ⟨ad, len', cap', m, n, D, Pl, hcs, _, hl, hm, hmm, hx, hc⟩
  · simp only [List.cons.injEq, and_true] at hcs
    cases hcs
    exact ⟨[], .inl ⟨⟨_, _, rfl⟩, rfl⟩, by simp, by simp⟩
  · simp only [List.cons.injEq, and_true, Value.slice.injEq] at hcs
    obtain ⟨rfl, rfl, rfl⟩ := hcs
    simp at hmm
    subst hmm
    have ce : Tryz.prog.cellsOf 5 = 1 := by kernel_rfl
    have each : ∀ i, i < len → ∃ z : Int, W.cell? (ad.add i) = some (.int .u8 z) ∧ 0 ≤ z ∧ z ≤ 255 := fun i hi => by
      obtain ⟨cs', h1, h2⟩ := hc i (by omega)
      rw [ce, Nat.mul_one] at h1
      obtain ⟨_, hlen, hcell⟩ := World.cells?_some h1
      obtain ⟨z, e1, _, wf⟩ := DataW.trod_int Tryz.underlying5 h2
      subst e1
      have e0 := hcell 0 (by omega)
      rw [Deep.add_add, Nat.add_zero] at e0
      refine ⟨z, by simpa using e0, ?_⟩
      simp [Lit.wf, IntKind.min, IntKind.max, IntKind.bits, IntKind.signed] at wf
      omega
    obtain ⟨g, hg⟩ := Deep.choose_lt each
    refine ⟨(List.range len).map g, ?_, ?_, ?_⟩
    · by_cases h0 : len = 0
      · subst h0
        exact .inl ⟨⟨_, _, rfl⟩, by simp⟩
      · obtain ⟨b, off, spot⟩ := ad
        have hc0 := (hg 0 (by omega)).1
        have hspot : spot = none := by simpa [Addr.add] using World.cell?_spot hc0
        subst hspot
        rw [Go.WideShapes.add_plain] at hc0
        have hlt : b < W.heap.size := World.block_lt_of_cell? W ⟨b, _, none⟩ hc0
        refine .inr ⟨b, off, m, by simp, hlt, by simp; omega, fun j y hy => ?_⟩
        have hj : j < len := by simpa using (List.getElem?_eq_some_iff.1 hy).1
        have hyj : y = g j := by simpa [hj] using hy.symm
        subst hyj
        have h1 := (hg j hj).1
        rw [Go.WideShapes.add_plain] at h1
        exact h1
    · simp only [List.length_map, List.length_range]
      have ed : d = DataW.slice (List.map D (List.range len)) (List.map (fun j => D (len + j)) (List.range (m - len))) := (Prod.mk.inj hx).1
      have hb : Tryz.prog.bytesOf 5 = 1 := by kernel_rfl
      have hmem : m * Tryz.prog.bytesOf 5 ∈ d.weights Tryz.prog 27 := by
        rw [ed]
        simp only [DataW.weights, Tryz.underlying27]
        refine List.mem_cons.2 (.inl ?_)
        simp only [List.length_map, List.length_range]
        rw [show len + (m - len) = m by omega]
      have := hw _ hmem
      rw [hb] at this
      simp [reachBytes] at this
      omega
    · intro x hx
      obtain ⟨i, hi, rfl⟩ := List.mem_map.1 hx
      exact (hg i (List.mem_range.1 hi)).2
end Go.Proofs.YthlkknfhganecaaGreatDoor
