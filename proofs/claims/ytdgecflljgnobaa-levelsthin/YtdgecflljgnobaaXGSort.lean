/-
  Blocks that a call has made itself, and the contract of slices.SortFunc at edges.
-/
import Derived.Test.YtdgecflljgnobaaXGRight
namespace Go.Proofs.Ytdgecflljgnobaa
open Go Go.Proofs Go.RowKit

/-- Block g is a row of these cells, all of it, free to be written. -/
def Blk (t : TypeId) (W : World) (g : Nat) (vs : List Value) : Prop := W.heap[g]? = some (.cells vs.toArray t (0, 0))
theorem Blk.lt {t : TypeId} {W : World} {g : Nat} {vs : List Value} (h : Blk t W g vs) : g < W.heap.size := (Array.getElem?_eq_some_iff.1 h).1
theorem Blk.cell {t : TypeId} {W : World} {g : Nat} {vs : List Value} (h : Blk t W g vs) {j : Nat} {v : Value} (hj : vs[j]? = some v) : W.cell? ⟨g, j, none⟩ = some v := by
  unfold Blk at h
  simp only [World.cell?, h]
  simpa using hj
theorem Blk.frozen {t : TypeId} {W : World} {g : Nat} {vs : List Value} (h : Blk t W g vs) (j : Nat) : W.frozen? ⟨g, j, none⟩ = false := by
  unfold Blk at h
  simp [World.frozen?, h]
theorem Blk.below {t : TypeId} {A B : World} {g n : Nat} {vs : List Value} (h : Blk t A g vs) (hb : Below n A B) (hg : g < n) : Blk t B g vs := (hb.block g hg).trans h
theorem Blk.go {t : TypeId} {A B : World} {g : Nat} {vs : List Value} (h : Blk t A g vs) (hb : Below A.heap.size A B) : Blk t B g vs := h.below hb h.lt
theorem Blk.set {t : TypeId} {W : World} {g : Nat} {vs : List Value} (h : Blk t W g vs) (j : Nat) (v : Value) : Blk t (W.setCell ⟨g, j, none⟩ v) g (vs.set j v) := by
  obtain ⟨hlt, hk⟩ := Array.getElem?_eq_some_iff.1 h
  show (W.heap.modify g _)[g]? = _
  rw [Array.getElem?_eq_getElem (by rw [Array.size_modify]; exact hlt), Array.getElem_modify_self, hk]
  simp
theorem Blk.other {t : TypeId} {W : World} {g : Nat} {vs : List Value} (h : Blk t W g vs) {p : Addr} (hp : g ≠ p.block) (v : Value) : Blk t (W.setCell p v) g vs := (Below.heap_setCell _ _ _ _ hp).trans h
/-- What 'make' leaves. -/
theorem Blk.made {t : TypeId} {W : World} {g n k base : Nat} {z : Value} (h : W.ownsRow base t k (.slice (some ⟨g, 0, none⟩) n n) n (madeCells z.cells (n * k)).toList) : Blk t W g (madeCells z.cells (n * k)).toList := by
  obtain ⟨h1, h2⟩ := h
  rcases h2 with ⟨h2, _⟩ | ⟨g', cap, cur, e, _, hb, _, _, hsz, ht⟩
  · cases h2
  · simp only [Value.slice.injEq, Option.some.injEq, Addr.mk.injEq] at e
    obtain ⟨⟨rfl, _, _⟩, _, rfl⟩ := e
    unfold Blk
    rw [hb]
    congr 2
    apply Array.toList_inj.1
    rw [List.take_of_length_le (by simp [hsz])] at ht
    rw [ht]

/-- The cells of edges. -/
def flat (l : List Ed) : List Value := l.flatMap encE
theorem flat_cons (e : Ed) (l : List Ed) : flat (e :: l) = .int .i64 e.1 :: .int .i64 e.2.1 :: .int .i64 e.2.2 :: flat l := rfl
theorem flat_len : ∀ l : List Ed, (flat l).length = l.length * 3
  | [] => rfl
  | e :: l => by rw [flat_cons]; simp [flat_len l]; omega
theorem flat_at : ∀ {l : List Ed} {j : Nat} {x : Ed}, l[j]? = some x → (flat l)[j * 3]? = some (.int .i64 x.1) ∧ (flat l)[j * 3 + 1]? = some (.int .i64 x.2.1) ∧ (flat l)[j * 3 + 2]? = some (.int .i64 x.2.2)
  | [], j, x, h => by simp at h
  | e :: l, 0, x, h => by simp at h; subst h; rw [flat_cons]; simp
  | e :: l, j + 1, x, h => by
    rw [flat_cons, show (j + 1) * 3 = j * 3 + 1 + 1 + 1 by omega]
    simpa using flat_at (l := l) (j := j) (by simpa using h)
theorem flat_set : ∀ (l : List Ed) (j : Nat) (x : Ed), (((flat l).set (j * 3) (.int .i64 x.1)).set (j * 3 + 1) (.int .i64 x.2.1)).set (j * 3 + 2) (.int .i64 x.2.2) = flat (l.set j x)
  | [], j, x => by simp [flat]
  | e :: l, 0, x => by simp [flat_cons]
  | e :: l, j + 1, x => by
    rw [flat_cons, List.set_cons_succ, flat_cons, ← flat_set l j x, show (j + 1) * 3 = j * 3 + 1 + 1 + 1 by omega]
    simp
theorem flat_zero : ∀ n : Nat, flat (List.replicate n (0, 0, 0)) = List.replicate (n * 3) (.int .i64 0)
  | 0 => rfl
  | n + 1 => by rw [List.replicate_succ, flat_cons, flat_zero n, show (n + 1) * 3 = n * 3 + 1 + 1 + 1 by omega]; rfl
theorem flat_made (n : Nat) : (madeCells (Value.agg #[.int .i64 0, .int .i64 0, .int .i64 0]).cells (n * 3)).toList = flat (List.replicate n (0, 0, 0)) := by
  rw [flat_zero]
  have hz : (Value.agg #[.int .i64 0, .int .i64 0, .int .i64 0]).cells = #[.int .i64 0, .int .i64 0, .int .i64 0] := by simp [Value.cells]
  rw [hz]
  apply List.ext_getElem
  · simp [madeCells]
  · intro i h1 h2
    have hm : i % 3 < 3 := Nat.mod_lt _ (by omega)
    simp [madeCells]
    generalize i % 3 = b at hm
    match b, hm with
    | 0, _ => rfl
    | 1, _ => rfl
    | 2, _ => rfl

theorem Blk.edges {W : World} {g : Nat} {l : List Ed} {t : TypeId} (h : Blk t W g (flat l)) : Edges W.heap.size W (.slice (some ⟨g, 0, none⟩) l.length l.length) l :=
  .inr ⟨g, 0, l.length, rfl, h.lt, Nat.le_refl _, fun j x hx => by
    simp only [Nat.zero_add]
    exact ⟨h.cell (flat_at hx).1, h.cell (flat_at hx).2.1, h.cell (flat_at hx).2.2⟩⟩

end Go.Proofs.Ytdgecflljgnobaa
