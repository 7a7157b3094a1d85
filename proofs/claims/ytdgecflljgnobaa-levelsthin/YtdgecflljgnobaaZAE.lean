/-
  Slices of one-cell elements (numbers, truth values), as lists.
-/
import Derived.Test.YtdgecflljgnobaaXGRight
import Derived.Deep.Slices
import Derived.Lib.SmallJoins
import Derived.SizedLaws
import Derived.MakeChecks
import Derived.ProofKit
import Derived.OpenShut
import Derived.ChangeOld
import Derived.ChangeMaps5
import Derived.Test.YtdgecflljgnobaaRows
namespace Go.Proofs.Ytdgecflljgnobaa
open Go Go.Proofs Go.RowKit

def Vals {α : Type} (enc : α → Value) (n : Nat) (W : World) (sv : Value) (l : List α) : Prop :=
  ((∃ p c, sv = .slice p 0 c) ∧ l = []) ∨ ∃ b off cap, sv = .slice (some ⟨b, off, none⟩) l.length cap ∧ b < n ∧ l.length ≤ cap ∧ ∀ j x, l[j]? = some x → W.cell? ⟨b, off + j, none⟩ = some (enc x)
abbrev Ints (n : Nat) (W : World) (sv : Value) (l : List Int) : Prop := Vals (Value.int .i64) n W sv l
abbrev Bools (n : Nat) (W : World) (sv : Value) (l : List Bool) : Prop := Vals Value.bool n W sv l
section
variable {α : Type} {enc : α → Value}
theorem Vals.below {n : Nat} {W W' : World} {sv : Value} {l : List α} (h : Vals enc n W sv l) (hb : Below n W W') : Vals enc n W' sv l := by
  rcases h with h | ⟨b, off, cap, h1, h2, h3, h4⟩
  · exact .inl h
  · exact .inr ⟨b, off, cap, h1, h2, h3, fun j x hx => (hb.cell (p := ⟨b, _, none⟩) h2).trans (h4 j x hx)⟩
theorem Vals.mono {n m : Nat} {W : World} {sv : Value} {l : List α} (h : Vals enc n W sv l) (hb : n ≤ m) : Vals enc m W sv l := by
  rcases h with h | ⟨b, off, cap, h1, h2, h3, h4⟩
  · exact .inl h
  · exact .inr ⟨b, off, cap, h1, Nat.lt_of_lt_of_le h2 hb, h3, h4⟩
theorem Vals.go {W W' : World} {sv : Value} {l : List α} (h : Vals enc W.heap.size W sv l) (hb : Below W.heap.size W W') : Vals enc W'.heap.size W' sv l := (h.below hb).mono hb.size
theorem Vals.len {n : Nat} {W : World} {sv : Value} {l : List α} (h : Vals enc n W sv l) : ∃ p c, sv = .slice p l.length c := by
  rcases h with ⟨⟨p, c, rfl⟩, rfl⟩ | ⟨b, off, cap, rfl, _⟩ <;> exact ⟨_, _, rfl⟩
theorem Vals.nil (n : Nat) (W : World) (p : Option Addr) (c : Nat) : Vals enc n W (.slice p 0 c) [] := .inl ⟨⟨_, _, rfl⟩, rfl⟩
theorem Vals.open {w : World} {p : Option Addr} {c : Nat} {l : List α} {n : Nat} (h : Vals enc n w (.slice p l.length c) l) {j : Nat} (hj : j < l.length) :
    ∃ b off, p = some ⟨b, off, none⟩ ∧ b < n ∧ l.length ≤ c ∧ ∀ W', Below n w W' → ∀ i (hi : i < l.length), W'.cell? ⟨b, off + i, none⟩ = some (enc l[i]) := by
  rcases h with ⟨⟨p, c, h1⟩, rfl⟩ | ⟨b, off, cap, h1, h2, h3, h4⟩
  · simp at hj
  · simp only [Value.slice.injEq] at h1
    obtain ⟨rfl, _, rfl⟩ := h1
    exact ⟨b, off, rfl, h2, h3, fun W' hW i hi => (hW.cell (p := ⟨b, _, none⟩) h2).trans (h4 i l[i] (List.getElem?_eq_getElem hi))⟩
end

end Go.Proofs.Ytdgecflljgnobaa

namespace Go.Proofs.Ytdgecflljgnobaa
open Go Go.ChangeShapes Go.WideShapes Go.ChangeAt Go.RowKit Go.Joins

theorem own : ownKnob Try.prog.godebug = none := by kernel_rfl
theorem laidOut : laidOutB Try.prog = true := by kernel_rfl

set_option maxRecDepth 100000 in
theorem edges_in {W : World} {sv : Value} {H : Type} {x : DataW H × List MemPlace} {enc : TypeId × Value → H} {fuel : Nat}
    (hf : DataW.trod enc Try.prog W 0 (fun _ => true) true fuel 22 [sv] = some x) : ∃ l : List Ed, Edges W.heap.size W sv l := by
  rcases Deep.open_slice Try.underlying22 hf with ⟨hcs, _⟩ | ⟨ad, len, cap, m, n, D, Pl, hcs, _, hl, hm, hmm, hx, hc⟩
  · simp only [List.cons.injEq, and_true] at hcs
    subst hcs
    exact ⟨[], Edges.nil _ _ _ _⟩
  · simp only [List.cons.injEq, and_true] at hcs
    subst hcs
    simp at hmm
    subst hmm
    have ce : Try.prog.cellsOf 47 = 3 := by kernel_rfl
    have each : ∀ i, i < len → ∃ e : Ed, W.cell? (ad.add (i * 3)) = some (.int .i64 e.1) ∧ W.cell? (ad.add (i * 3 + 1)) = some (.int .i64 e.2.1) ∧ W.cell? (ad.add (i * 3 + 2)) = some (.int .i64 e.2.2) := fun i hi => by
      obtain ⟨cs', h1, h2⟩ := hc i (by omega)
      rw [ce] at h1
      obtain ⟨_, hlen, hcell⟩ := World.cells?_some h1
      obtain ⟨y0, y1, y2, k, _, _, g0, g1, g2⟩ := Deep.trod_struct3 Try.underlying47 h2
      match cs', hlen with
      | [v0, v1, v2], _ =>
        have e0 := hcell 0 (by omega)
        have e1 := hcell 1 (by omega)
        have e2 := hcell 2 (by omega)
        rw [Deep.add_add] at e0 e1 e2
        have k0 : DataW.trod enc Try.prog W 0 (fun _ => true) true k 3 [v0] = some y0 := g0
        have k1 : DataW.trod enc Try.prog W 0 (fun _ => true) true k 3 [v1] = some y1 := g1
        have k2 : DataW.trod enc Try.prog W 0 (fun _ => true) true k 2 [v2] = some y2 := g2
        obtain ⟨z0, a0, _, _⟩ := DataW.trod_int Try.underlying3 k0
        obtain ⟨z1, a1, _, _⟩ := DataW.trod_int Try.underlying3 k1
        obtain ⟨z2, a2, _, _⟩ := DataW.trod_int Try.underlying2 k2
        simp only [List.cons.injEq, and_true] at a0 a1 a2
        subst a0; subst a1; subst a2
        exact ⟨(z0, z1, z2), by simpa using e0, by simpa using e1, by simpa using e2⟩
    obtain ⟨g, hg⟩ := Deep.choose_lt each
    refine ⟨(List.range len).map g, ?_⟩
    by_cases h0 : len = 0
    · subst h0
      exact .inl ⟨⟨_, _, rfl⟩, by simp⟩
    · obtain ⟨b, off, spot⟩ := ad
      have hc0 := (hg 0 (by omega)).1
      have hspot : spot = none := by simpa [Addr.add] using World.cell?_spot hc0
      subst hspot
      rw [Go.WideShapes.add_plain] at hc0
      have hlt : b < W.heap.size := World.block_lt_of_cell? W ⟨b, _, none⟩ hc0
      refine .inr ⟨b, off, m, by simp, hlt, by simp; omega, fun j y hy => ?_⟩
      have hj : j < len := by simpa using (List.getElem?_eq_some_iff.1 hy).1
      have hyj : y = g j := by simpa [hj] using hy.symm
      subst hyj
      obtain ⟨h1, h2, h3⟩ := hg j hj
      rw [Go.WideShapes.add_plain] at h1 h2 h3
      exact ⟨h1, h2, h3⟩

set_option maxRecDepth 100000 in
/-- A graph that came in. -/
theorem graph_in {W : World} {v : Value} {H : Type} {d : DataW H} {p : List MemPlace} {enc : TypeId × Value → H} {base : Nat} {r : Reach}
    (hv : Value.okWide Try.prog W r base 24 v) (h : DataW.Trod enc Try.prog W 0 (fun _ => true) true 24 v d p) :
    ∃ (n : Int) (sv : Value) (l : List Ed), v = .agg #[.int .i64 n, sv] ∧ Edges W.heap.size W sv l := by
  obtain ⟨v0, v1, y0, y1, k, rfl, _, _, h0, h1⟩ := open_agg2 Try.underlying24 (by kernel_rfl) (by kernel_rfl) hv h
  have k0 : DataW.trod enc Try.prog W 0 (fun _ => true) true k 3 [v0] = some y0 := h0
  have k1 : DataW.trod enc Try.prog W 0 (fun _ => true) true k 22 [v1] = some y1 := h1
  obtain ⟨z, a, _, _⟩ := DataW.trod_int Try.underlying3 k0
  simp only [List.cons.injEq, and_true] at a
  subst a
  obtain ⟨l, hl⟩ := edges_in k1
  exact ⟨z, v1, l, rfl, hl⟩

set_option maxRecDepth 100000 in
/-- A slice of edges that came in. -/
theorem list_in {W : World} {v : Value} {H : Type} {d : DataW H} {p : List MemPlace} {enc : TypeId × Value → H} {base : Nat} {r : Reach}
    (hv : Value.okWide Try.prog W r base 22 v) (h : DataW.Trod enc Try.prog W 0 (fun _ => true) true 22 v d p) : ∃ l : List Ed, Edges W.heap.size W v l := by
  obtain ⟨a, len, cap, rfl⟩ := okWide_slice Try.underlying22 hv
  obtain ⟨fuel, hf⟩ := h
  exact edges_in (by simpa [Value.cells] using hf)

end Go.Proofs.Ytdgecflljgnobaa
