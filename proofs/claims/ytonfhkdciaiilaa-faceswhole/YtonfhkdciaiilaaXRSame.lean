/-
  Lists of faces that are read; the contract of the reference's Same.
-/
import Derived.Test.YtonfhkdciaiilaaQI
import Derived.BigQuiet
namespace Go.Proofs.Ytonfhkdciaiilaa
open Go Go.Proofs Go.RowKit

/-- Lists of darts, in memory. -/
def LDr (n : Nat) (W : World) (sv : Value) (LL : List (List Dt)) : Prop :=
  ((∃ p c, sv = .slice p 0 c) ∧ LL = []) ∨ ∃ b off cap, sv = .slice (some ⟨b, off, none⟩) LL.length cap ∧ b < n ∧ LL.length ≤ cap ∧ ∀ (j : Nat) (x : List Dt), LL[j]? = some x → ∃ sx, W.cell? ⟨b, off + j, none⟩ = some sx ∧ Drts n W sx x
theorem LDr.below {n : Nat} {W W' : World} {sv : Value} {LL : List (List Dt)} (h : LDr n W sv LL) (hb : Below n W W') : LDr n W' sv LL := by
  rcases h with h | ⟨b, off, cap, h1, h2, h3, h4⟩
  · exact .inl h
  · exact .inr ⟨b, off, cap, h1, h2, h3, fun j x hx => by
      obtain ⟨sx, h5, h6⟩ := h4 j x hx
      exact ⟨sx, (hb.cell (p := ⟨b, _, none⟩) h2).trans h5, h6.below hb⟩⟩
theorem LDr.mono {n m : Nat} {W : World} {sv : Value} {LL : List (List Dt)} (h : LDr n W sv LL) (hb : n ≤ m) : LDr m W sv LL := by
  rcases h with h | ⟨b, off, cap, h1, h2, h3, h4⟩
  · exact .inl h
  · exact .inr ⟨b, off, cap, h1, Nat.lt_of_lt_of_le h2 hb, h3, fun j x hx => by
      obtain ⟨sx, h5, h6⟩ := h4 j x hx
      exact ⟨sx, h5, h6.mono hb⟩⟩
theorem LDr.go {W W' : World} {sv : Value} {LL : List (List Dt)} (h : LDr W.heap.size W sv LL) (hb : Below W.heap.size W W') : LDr W'.heap.size W' sv LL := (h.below hb).mono hb.size
theorem LDr.len {n : Nat} {W : World} {sv : Value} {LL : List (List Dt)} (h : LDr n W sv LL) : ∃ p c, sv = .slice p LL.length c := by
  rcases h with ⟨⟨p, c, rfl⟩, rfl⟩ | ⟨b, off, cap, rfl, _⟩ <;> exact ⟨_, _, rfl⟩
theorem LDr.cellAt {n : Nat} {w : World} {p : Option Addr} {c : Nat} {L : List (List Dt)} (h : LDr n w (.slice p L.length c) L) {j : Nat} (hj : j < L.length) :
    ∃ b off, p = some ⟨b, off, none⟩ ∧ b < n ∧ L.length ≤ c ∧ ∃ px cx, Drts n w (.slice px L[j].length cx) L[j] ∧ w.cell? ⟨b, off + j, none⟩ = some (.slice px L[j].length cx) := by
  rcases h with ⟨_, h0⟩ | ⟨b, off, cap, h1, h2, h3, h4⟩
  · subst h0; simp at hj
  · simp only [Value.slice.injEq] at h1
    obtain ⟨rfl, _, rfl⟩ := h1
    obtain ⟨sx, h5, h6⟩ := h4 j _ (List.getElem?_eq_getElem hj)
    obtain ⟨px, cx, rfl⟩ := h6.len
    exact ⟨b, off, rfl, h2, h3, px, cx, h6, h5⟩
theorem GrpD.ldr {h0 : Nat} {lv : Value} {svs : List Value} {pre : List (List Dt)} {W : World} (h : GrpD h0 lv svs pre W) : LDr W.heap.size W lv pre := by
  have hlen := h.len
  rcases h.own.2 with ⟨rfl, h1⟩ | ⟨g, cap, cur, rfl, hb, hg, hn, hc⟩
  · exact .inl ⟨⟨_, _, rfl⟩, List.eq_nil_of_length_eq_zero (by omega)⟩
  · refine .inr ⟨g, 0, cap, by rw [hlen], (Array.getElem?_eq_some_iff.1 hg).1, by omega, fun j x hx => ?_⟩
    have hj := (List.getElem?_eq_some_iff.1 hx).1
    obtain ⟨sx, hs⟩ : ∃ sx, svs[j]? = some sx := ⟨_, List.getElem?_eq_getElem (by omega)⟩
    refine ⟨sx, ?_, Drts.of_owns (h.inn j sx x hs hx)⟩
    have := h.own.cells (g := g) rfl j sx hs
    rwa [Go.WideShapes.add_plain] at this
end Go.Proofs.Ytonfhkdciaiilaa
