/-
  What the proofs of the rows share: how graphs and slices that came in read as lists.
-/
import Derived.Deep.Slices
import Derived.Lib.SmallJoins
import Derived.SizedLaws
import Derived.MakeChecks
import Derived.ProofKit
import Derived.OpenShut
import Derived.ChangeOld
import Derived.ChangeMaps5
import Derived.Test.YthdhimcaojfcnaaGreatRows
import Derived.Test.YthdhimcaojfcnaaGreatJA
namespace Go.Proofs.YthdhimcaojfcnaaGreat
open Go Go.ChangeShapes Go.WideShapes Go.ChangeAt Go.RowKit Go.Joins

theorem own : ownKnob Tryz.prog.godebug = none := by kernel_rfl
theorem laidOut : laidOutB Tryz.prog = true := by kernel_rfl

set_option maxRecDepth 100000 in
theorem edges_in {W : World} {sv : Value} {H : Type} {x : DataW H × List MemPlace} {enc : TypeId × Value → H} {fuel : Nat}
    (hf : DataW.trod enc Tryz.prog W 0 (fun _ => true) true fuel 22 [sv] = some x) : ∃ l : List Ed, Edges W.heap.size W sv l := by
  rcases Deep.open_slice Tryz.underlying22 hf with ⟨hcs, _⟩ | ⟨ad, len, cap, m, n, D, Pl, hcs, _, hl, hm, hmm, hx, hc⟩
  · simp only [List.cons.injEq, and_true] at hcs
    subst hcs
    exact ⟨[], Edges.nil _ _ _ _⟩
  · simp only [List.cons.injEq, and_true] at hcs
    subst hcs
    simp at hmm
    subst hmm
    have ce : Tryz.prog.cellsOf 46 = 3 := by kernel_rfl
    have each : ∀ i, i < len → ∃ e : Ed, W.cell? (ad.add (i * 3)) = some (.int .i64 e.1) ∧ W.cell? (ad.add (i * 3 + 1)) = some (.int .i64 e.2.1) ∧ W.cell? (ad.add (i * 3 + 2)) = some (.int .i64 e.2.2) := fun i hi => by
      obtain ⟨cs', h1, h2⟩ := hc i (by omega)
      rw [ce] at h1
      obtain ⟨_, hlen, hcell⟩ := World.cells?_some h1
      obtain ⟨y0, y1, y2, k, _, _, g0, g1, g2⟩ := Deep.trod_struct3 Tryz.underlying46 h2
      match cs', hlen with
      | [v0, v1, v2], _ =>
        have e0 := hcell 0 (by omega)
        have e1 := hcell 1 (by omega)
        have e2 := hcell 2 (by omega)
        rw [Deep.add_add] at e0 e1 e2
        have k0 : DataW.trod enc Tryz.prog W 0 (fun _ => true) true k 3 [v0] = some y0 := g0
        have k1 : DataW.trod enc Tryz.prog W 0 (fun _ => true) true k 3 [v1] = some y1 := g1
        have k2 : DataW.trod enc Tryz.prog W 0 (fun _ => true) true k 2 [v2] = some y2 := g2
        obtain ⟨z0, a0, _, _⟩ := DataW.trod_int Tryz.underlying3 k0
        obtain ⟨z1, a1, _, _⟩ := DataW.trod_int Tryz.underlying3 k1
        obtain ⟨z2, a2, _, _⟩ := DataW.trod_int Tryz.underlying2 k2
        simp only [List.cons.injEq, and_true] at a0 a1 a2
        subst a0; subst a1; subst a2
        exact ⟨(z0, z1, z2), by simpa using e0, by simpa using e1, by simpa using e2⟩
    obtain ⟨g, hg⟩ := Deep.choose_lt each
    refine ⟨(List.range len).map g, ?_⟩
    by_cases h0 : len = 0
    · subst h0
      exact .inl ⟨⟨_, _, rfl⟩, by simp⟩
    · obtain ⟨b, off, spot⟩ := ad
      have hc0 := (hg 0 (by omega)).1
      have hspot : spot = none := by simpa [Addr.add] using World.cell?_spot hc0
      subst hspot
      rw [Go.WideShapes.add_plain] at hc0
      have hlt : b < W.heap.size := World.block_lt_of_cell? W ⟨b, _, none⟩ hc0
      refine .inr ⟨b, off, m, by simp, hlt, by simp; omega, fun j y hy => ?_⟩
      have hj : j < len := by simpa using (List.getElem?_eq_some_iff.1 hy).1
      have hyj : y = g j := by simpa [hj] using hy.symm
      subst hyj
      obtain ⟨h1, h2, h3⟩ := hg j hj
      rw [Go.WideShapes.add_plain] at h1 h2 h3
      exact ⟨h1, h2, h3⟩

set_option maxRecDepth 100000 in
/-- A graph that came in. -/
theorem graph_in {W : World} {v : Value} {H : Type} {d : DataW H} {p : List MemPlace} {enc : TypeId × Value → H} {base : Nat} {r : Reach}
    (hv : Value.okWide Tryz.prog W r base 24 v) (h : DataW.Trod enc Tryz.prog W 0 (fun _ => true) true 24 v d p) :
    ∃ (n : Int) (sv : Value) (l : List Ed), v = .agg #[.int .i64 n, sv] ∧ Edges W.heap.size W sv l := by
  obtain ⟨v0, v1, y0, y1, k, rfl, _, _, h0, h1⟩ := open_agg2 Tryz.underlying24 (by kernel_rfl) (by kernel_rfl) hv h
  have k0 : DataW.trod enc Tryz.prog W 0 (fun _ => true) true k 3 [v0] = some y0 := h0
  have k1 : DataW.trod enc Tryz.prog W 0 (fun _ => true) true k 22 [v1] = some y1 := h1
  obtain ⟨z, a, _, _⟩ := DataW.trod_int Tryz.underlying3 k0
  simp only [List.cons.injEq, and_true] at a
  subst a
  obtain ⟨l, hl⟩ := edges_in k1
  exact ⟨z, v1, l, rfl, hl⟩

set_option maxRecDepth 100000 in
/-- A slice of edges that came in. -/
theorem list_in {W : World} {v : Value} {H : Type} {d : DataW H} {p : List MemPlace} {enc : TypeId × Value → H} {base : Nat} {r : Reach}
    (hv : Value.okWide Tryz.prog W r base 22 v) (h : DataW.Trod enc Tryz.prog W 0 (fun _ => true) true 22 v d p) : ∃ l : List Ed, Edges W.heap.size W v l := by
  obtain ⟨a, len, cap, rfl⟩ := okWide_slice Tryz.underlying22 hv
  obtain ⟨fuel, hf⟩ := h
  exact edges_in (by simpa [Value.cells] using hf)

end Go.Proofs.YthdhimcaojfcnaaGreat

namespace Go.Proofs.YthdhimcaojfcnaaGreat
open Go Go.ChangeShapes Go.WideShapes Go.ChangeAt Go.RowKit Go.Joins

theorem vals_in {α : Type} {en : α → Value} {W : World} {a : Option Addr} {len cap : Nat} {H : Type} {x : DataW H × List MemPlace} {enc : TypeId × Value → H} {fuel : Nat} {t e : TypeId}
    (ht : Tryz.prog.underlying t = some (.slice e)) (hc1 : Tryz.prog.cellsOf e = 1) (hone : ∀ n v y, DataW.trod enc Tryz.prog W 0 (fun _ => true) true n e [v] = some y → ∃ z : α, v = en z)
    (hf : DataW.trod enc Tryz.prog W 0 (fun _ => true) true fuel t [.slice a len cap] = some x) : ∃ l : List α, Vals en W.heap.size W (.slice a len cap) l := by
  rcases Deep.open_slice1 ht hc1 hf with ⟨hcs, _⟩ | ⟨ad, ln, cp, m, n, V, D, Pl, hcs, _, hl, hm, hmm, hx, hc⟩
  · simp only [List.cons.injEq, and_true, Value.slice.injEq] at hcs
    obtain ⟨rfl, rfl, rfl⟩ := hcs
    exact ⟨[], Vals.nil _ _ _ _⟩
  · simp only [List.cons.injEq, and_true, Value.slice.injEq] at hcs
    obtain ⟨rfl, rfl, rfl⟩ := hcs
    simp at hmm
    subst hmm
    have each : ∀ i, i < len → ∃ z : α, W.cell? (ad.add i) = some (en z) := fun i hi => by
      obtain ⟨h1, h2⟩ := hc i (by omega)
      obtain ⟨z, hz⟩ := hone _ _ _ h2
      exact ⟨z, by rw [h1, hz]⟩
    by_cases h0 : len = 0
    · subst h0
      exact ⟨[], Vals.nil _ _ _ _⟩
    · obtain ⟨z0, hz0⟩ := each 0 (by omega)
      have : Inhabited α := ⟨z0⟩
      obtain ⟨g, hg⟩ := Deep.choose_lt each
      refine ⟨(List.range len).map g, ?_⟩
      obtain ⟨b, off, spot⟩ := ad
      have hc0 := hg 0 (by omega)
      have hspot : spot = none := by simpa [Addr.add] using World.cell?_spot hc0
      subst hspot
      rw [Go.WideShapes.add_plain] at hc0
      have hlt : b < W.heap.size := World.block_lt_of_cell? W ⟨b, _, none⟩ hc0
      refine .inr ⟨b, off, m, by simp, hlt, by simp; omega, fun j y hy => ?_⟩
      have hj : j < len := by simpa using (List.getElem?_eq_some_iff.1 hy).1
      have hyj : y = g j := by simpa [hj] using hy.symm
      subst hyj
      have h1 := hg j hj
      rw [Go.WideShapes.add_plain] at h1
      exact h1

set_option maxRecDepth 100000 in
/-- A slice of numbers that came in. -/
theorem ints_in {W : World} {v : Value} {H : Type} {d : DataW H} {p : List MemPlace} {enc : TypeId × Value → H} {base : Nat} {r : Reach}
    (hv : Value.okWide Tryz.prog W r base 25 v) (h : DataW.Trod enc Tryz.prog W 0 (fun _ => true) true 25 v d p) : ∃ l : List Int, Ints W.heap.size W v l := by
  obtain ⟨a, len, cap, rfl⟩ := okWide_slice Tryz.underlying25 hv
  obtain ⟨fuel, hf⟩ := h
  refine vals_in Tryz.underlying25 (by kernel_rfl) (fun n v y hy => ?_) (by simpa [Value.cells] using hf)
  obtain ⟨z, e1, _⟩ := DataW.trod_int Tryz.underlying3 hy
  exact ⟨z, by simpa using e1⟩
set_option maxRecDepth 100000 in
/-- A slice of truth values that came in. -/
theorem bools_in {W : World} {v : Value} {H : Type} {d : DataW H} {p : List MemPlace} {enc : TypeId × Value → H} {base : Nat} {r : Reach}
    (hv : Value.okWide Tryz.prog W r base 49 v) (h : DataW.Trod enc Tryz.prog W 0 (fun _ => true) true 49 v d p) : ∃ l : List Bool, Bools W.heap.size W v l := by
  obtain ⟨a, len, cap, rfl⟩ := okWide_slice Tryz.underlying49 hv
  obtain ⟨fuel, hf⟩ := h
  refine vals_in Tryz.underlying49 (by kernel_rfl) (fun n v y hy => ?_) (by simpa [Value.cells] using hf)
  obtain ⟨z, e1, _⟩ := DataW.trod_bool Tryz.underlying4 hy
  exact ⟨z, by simpa using e1⟩

end Go.Proofs.YthdhimcaojfcnaaGreat
