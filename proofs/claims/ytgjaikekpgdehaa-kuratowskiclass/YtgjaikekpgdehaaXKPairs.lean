/-
  Slices of pairs; kuratowski.eachTwo, kuratowski.across.
-/
import Derived.Test.YtgjaikekpgdehaaXKCorn
namespace Go.Proofs.Ytgjaikekpgdehaa
open Go Go.Proofs Go.RowKit

theorem infoP2 : (Try.prog.info? 83).map (fun i => (i.zero, i.size, i.bytes)) = some (some (.agg #[.int .i64 0, .int .i64 0]), 2, 16) := by kernel_rfl
def encPc (d : Int × Int) : List Value := [.int .i64 d.1, .int .i64 d.2]
def flatP (L : List (Int × Int)) : List Value := L.flatMap encPc
theorem flatP_snoc (L : List (Int × Int)) (d : Int × Int) : flatP (L ++ [d]) = flatP L ++ encPc d := by simp [flatP]
theorem flatP_at : ∀ {L : List (Int × Int)} {j : Nat} {x : Int × Int}, L[j]? = some x → (flatP L)[j * 2]? = some (.int .i64 x.1) ∧ (flatP L)[j * 2 + 1]? = some (.int .i64 x.2)
  | [], j, x, h => by simp at h
  | y :: L, 0, x, h => by
    have : y = x := by simpa using h
    subst this
    exact ⟨rfl, rfl⟩
  | y :: L, j + 1, x, h => by
    have h' : L[j]? = some x := by simpa using h
    obtain ⟨h1, h2⟩ := flatP_at h'
    have e : flatP (y :: L) = [.int .i64 y.1, .int .i64 y.2] ++ flatP L := rfl
    rw [e, List.getElem?_append_right (by simp; omega), List.getElem?_append_right (by simp; omega)]
    have e1 : (j + 1) * 2 - [Value.int .i64 y.1, Value.int .i64 y.2].length = j * 2 := by simp; omega
    have e2 : (j + 1) * 2 + 1 - [Value.int .i64 y.1, Value.int .i64 y.2].length = j * 2 + 1 := by simp; omega
    rw [e1, e2]
    exact ⟨h1, h2⟩
/-- A slice of pairs. -/
def Prs (n : Nat) (W : World) (sv : Value) (L : List (Int × Int)) : Prop :=
  ((∃ p c, sv = .slice p 0 c) ∧ L = []) ∨ ∃ b off cap, sv = .slice (some ⟨b, off, none⟩) L.length cap ∧ b < n ∧ L.length ≤ cap ∧ ∀ j x, L[j]? = some x → W.cell? ⟨b, off + j * 2, none⟩ = some (.int .i64 x.1) ∧ W.cell? ⟨b, off + j * 2 + 1, none⟩ = some (.int .i64 x.2)
theorem Prs.below {n : Nat} {W W' : World} {sv : Value} {L : List (Int × Int)} (h : Prs n W sv L) (hb : Below n W W') : Prs n W' sv L := by
  rcases h with h | ⟨b, off, cap, h1, h2, h3, h4⟩
  · exact .inl h
  · exact .inr ⟨b, off, cap, h1, h2, h3, fun j x hx => ⟨(hb.cell (p := ⟨b, _, none⟩) h2).trans (h4 j x hx).1, (hb.cell (p := ⟨b, _, none⟩) h2).trans (h4 j x hx).2⟩⟩
theorem Prs.mono {n m : Nat} {W : World} {sv : Value} {L : List (Int × Int)} (h : Prs n W sv L) (hb : n ≤ m) : Prs m W sv L := by
  rcases h with h | ⟨b, off, cap, h1, h2, h3, h4⟩
  · exact .inl h
  · exact .inr ⟨b, off, cap, h1, Nat.lt_of_lt_of_le h2 hb, h3, h4⟩
theorem Prs.go {W W' : World} {sv : Value} {L : List (Int × Int)} (h : Prs W.heap.size W sv L) (hb : Below W.heap.size W W') : Prs W'.heap.size W' sv L := (h.below hb).mono hb.size
theorem Prs.len {n : Nat} {W : World} {sv : Value} {L : List (Int × Int)} (h : Prs n W sv L) : ∃ p c, sv = .slice p L.length c := by
  rcases h with ⟨⟨p, c, rfl⟩, rfl⟩ | ⟨b, off, cap, rfl, _⟩ <;> exact ⟨_, _, rfl⟩
theorem Prs.cellAt {n : Nat} {w : World} {p : Option Addr} {c : Nat} {L : List (Int × Int)} (h : Prs n w (.slice p L.length c) L) {j : Nat} (hj : j < L.length) :
    ∃ b off, p = some ⟨b, off, none⟩ ∧ b < n ∧ L.length ≤ c ∧ w.cell? ⟨b, off + j * 2, none⟩ = some (.int .i64 L[j].1) ∧ w.cell? ⟨b, off + j * 2 + 1, none⟩ = some (.int .i64 L[j].2) := by
  rcases h with ⟨_, h0⟩ | ⟨b, off, cap, h1, h2, h3, h4⟩
  · subst h0; simp at hj
  · simp only [Value.slice.injEq] at h1
    obtain ⟨rfl, _, rfl⟩ := h1
    obtain ⟨h5, h6⟩ := h4 j _ (List.getElem?_eq_getElem hj)
    exact ⟨b, off, rfl, h2, h3, h5, h6⟩
theorem Prs.of_owns {W : World} {base : Nat} {e : TypeId} {v : Value} {L : List (Int × Int)} (h : W.ownsRow base e 2 v L.length (flatP L)) : Prs W.heap.size W v L := by
  rcases h.2 with ⟨rfl, h0⟩ | ⟨g, cap, cur, rfl, hb, hg, hn, hc⟩
  · exact .inl ⟨⟨_, _, rfl⟩, List.eq_nil_of_length_eq_zero h0⟩
  · refine .inr ⟨g, 0, cap, rfl, (Array.getElem?_eq_some_iff.1 hg).1, hn, fun j x hx => ?_⟩
    obtain ⟨k0, k1⟩ := flatP_at hx
    have c0 := h.cells (g := g) rfl (j * 2) _ k0
    have c1 := h.cells (g := g) rfl (j * 2 + 1) _ k1
    rw [Go.WideShapes.add_plain] at c0 c1
    exact ⟨c0, c1⟩
theorem oneP (d : Int × Int) : ∀ u ∈ encPc d, u.oneCell' = true := by
  intro u hu
  simp only [encPc, List.mem_cons, List.not_mem_nil, or_false] at hu
  rcases hu with rfl | rfl <;> rfl
/-- What is left of a slice from a place on. -/
theorem slice_from (b off n c k : Nat) (hk : k ≤ n) (hn : n ≤ c) (hc : n ≤ 4194304) : ∃ q, (∀ W : World, (Instr.sliceAt 25 (.slice (some ⟨b, off, none⟩) n c) (some (.int .i64 (k : Int))) none none).run Try.prog W = .ok (.slice q (n - k) (c - k)) W) ∧ (k < n → q = some ⟨b, off + k, none⟩) := by
  have ht := Try.underlying25
  have z3 := Try.sizeOf3
  by_cases h : c - k = 0
  · refine ⟨some ⟨b, off, none⟩, fun W => ?_, fun h1 => by omega⟩
    have e1 : n - k = 0 := by omega
    have e2 : n = k := by omega
    have e3 : c = k := by omega
    subst e2
    subst e3
    go_simp
  · refine ⟨some ⟨b, off + k, none⟩, fun W => ?_, fun h1 => rfl⟩
    have h1 : (k : Int) ≤ (n : Int) := by omega
    have h2 : k < c := by omega
    go_simp
    omega
end Go.Proofs.Ytgjaikekpgdehaa
