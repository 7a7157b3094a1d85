/-
  Slices of one-cell elements (numbers, truth values), as lists.
-/
import Derived.Test.YtdadpfkoocpfaaaGRight
namespace Go.Proofs.Ytdadpfkoocpfaaa
open Go Go.Proofs Go.RowKit

def Vals {α : Type} (enc : α → Value) (n : Nat) (W : World) (sv : Value) (l : List α) : Prop :=
  ((∃ p c, sv = .slice p 0 c) ∧ l = []) ∨ ∃ b off cap, sv = .slice (some ⟨b, off, none⟩) l.length cap ∧ b < n ∧ l.length ≤ cap ∧ ∀ j x, l[j]? = some x → W.cell? ⟨b, off + j, none⟩ = some (enc x)
abbrev Ints (n : Nat) (W : World) (sv : Value) (l : List Int) : Prop := Vals (Value.int .i64) n W sv l
abbrev Bools (n : Nat) (W : World) (sv : Value) (l : List Bool) : Prop := Vals Value.bool n W sv l
section
variable {α : Type} {enc : α → Value}
theorem Vals.below {n : Nat} {W W' : World} {sv : Value} {l : List α} (h : Vals enc n W sv l) (hb : Below n W W') : Vals enc n W' sv l := by
  rcases h with h | ⟨b, off, cap, h1, h2, h3, h4⟩
  · exact .inl h
  · exact .inr ⟨b, off, cap, h1, h2, h3, fun j x hx => (hb.cell (p := ⟨b, _, none⟩) h2).trans (h4 j x hx)⟩
theorem Vals.mono {n m : Nat} {W : World} {sv : Value} {l : List α} (h : Vals enc n W sv l) (hb : n ≤ m) : Vals enc m W sv l := by
  rcases h with h | ⟨b, off, cap, h1, h2, h3, h4⟩
  · exact .inl h
  · exact .inr ⟨b, off, cap, h1, Nat.lt_of_lt_of_le h2 hb, h3, h4⟩
theorem Vals.go {W W' : World} {sv : Value} {l : List α} (h : Vals enc W.heap.size W sv l) (hb : Below W.heap.size W W') : Vals enc W'.heap.size W' sv l := (h.below hb).mono hb.size
theorem Vals.len {n : Nat} {W : World} {sv : Value} {l : List α} (h : Vals enc n W sv l) : ∃ p c, sv = .slice p l.length c := by
  rcases h with ⟨⟨p, c, rfl⟩, rfl⟩ | ⟨b, off, cap, rfl, _⟩ <;> exact ⟨_, _, rfl⟩
theorem Vals.nil (n : Nat) (W : World) (p : Option Addr) (c : Nat) : Vals enc n W (.slice p 0 c) [] := .inl ⟨⟨_, _, rfl⟩, rfl⟩
theorem Vals.open {w : World} {p : Option Addr} {c : Nat} {l : List α} {n : Nat} (h : Vals enc n w (.slice p l.length c) l) {j : Nat} (hj : j < l.length) :
    ∃ b off, p = some ⟨b, off, none⟩ ∧ b < n ∧ l.length ≤ c ∧ ∀ W', Below n w W' → ∀ i (hi : i < l.length), W'.cell? ⟨b, off + i, none⟩ = some (enc l[i]) := by
  rcases h with ⟨⟨p, c, h1⟩, rfl⟩ | ⟨b, off, cap, h1, h2, h3, h4⟩
  · simp at hj
  · simp only [Value.slice.injEq] at h1
    obtain ⟨rfl, _, rfl⟩ := h1
    exact ⟨b, off, rfl, h2, h3, fun W' hW i hi => (hW.cell (p := ⟨b, _, none⟩) h2).trans (h4 i l[i] (List.getElem?_eq_getElem hi))⟩
end

end Go.Proofs.Ytdadpfkoocpfaaa
