/-
  Lists while the reference joins components: no list is written once it was laid.
-/
import Derived.Test.YtonfhkdciaiilaaGreatQN
namespace Go.Proofs.YtonfhkdciaiilaaGreat
open Go Go.Proofs Go.RowKit

/-- A list of numbers in a block that is none of these. -/
def Lies (bad : Nat → Prop) (W : World) (sv : Value) (xs : List Int) : Prop :=
  ((∃ p c, sv = .slice p 0 c) ∧ xs = []) ∨ ∃ b off cap, sv = .slice (some ⟨b, off, none⟩) xs.length cap ∧ b < W.heap.size ∧ ¬ bad b ∧ xs.length ≤ cap ∧ ∀ j x, xs[j]? = some x → W.cell? ⟨b, off + j, none⟩ = some (.int .i64 x)
theorem Lies.ints {bad : Nat → Prop} {W : World} {sv : Value} {xs : List Int} (h : Lies bad W sv xs) : Ints W.heap.size W sv xs := by
  rcases h with h | ⟨b, off, cap, h1, h2, _, h3, h4⟩
  · exact .inl h
  · exact .inr ⟨b, off, cap, h1, h2, h3, h4⟩
theorem Lies.of {bad : Nat → Prop} {n : Nat} {W : World} {sv : Value} {xs : List Int} (h : Ints n W sv xs) (hn : n ≤ W.heap.size) (hb : ∀ b, b < n → ¬ bad b) : Lies bad W sv xs := by
  rcases h with h | ⟨b, off, cap, h1, h2, h3, h4⟩
  · exact .inl h
  · exact .inr ⟨b, off, cap, h1, by omega, hb b h2, h3, h4⟩
theorem Lies.go {bad bad' : Nat → Prop} {A B : World} {sv : Value} {xs : List Int} (h : Lies bad A sv xs) (hs : A.heap.size ≤ B.heap.size) (hb : ∀ q, q < A.heap.size → ¬ bad q → B.heap[q]? = A.heap[q]? ∧ ¬ bad' q) : Lies bad' B sv xs := by
  rcases h with h | ⟨b, off, cap, h1, h2, h3, h4, h5⟩
  · exact .inl h
  · obtain ⟨e1, e2⟩ := hb b h2 h3
    refine .inr ⟨b, off, cap, h1, by omega, e2, h4, fun j x hx => ?_⟩
    rw [World.cell?_of_block (a := ⟨b, off + j, none⟩) e1]
    exact h5 j x hx
theorem Lies.owned {bad : Nat → Prop} {W : World} {base : Nat} {e : TypeId} {sv : Value} {xs : List Int} (h : W.ownsRow base e 1 sv xs.length (xs.map (Value.int .i64))) (hb : ∀ q, sv.ownBlock = some q → ¬ bad q) : Lies bad W sv xs := by
  rcases h.2 with ⟨rfl, h1⟩ | ⟨g, cap, cur, rfl, h1, h2, h3, h4⟩
  · refine .inl ⟨⟨_, _, rfl⟩, ?_⟩
    simpa using h1
  · refine .inr ⟨g, 0, cap, rfl, (Array.getElem?_eq_some_iff.1 h2).1, hb g rfl, h3, fun j x hx => ?_⟩
    have := h.cells (g := g) rfl j (.int .i64 x) (by rw [List.getElem?_map, hx]; rfl)
    rwa [Go.WideShapes.add_plain] at this

/-- The lists' slices, as an append reads them. -/
theorem Src.lsts {n : Nat} {W : World} {p : Option Addr} {c : Nat} {LL : List (List Int)} (h : Lsts n W (.slice p LL.length c) LL) : ∃ svs : List Value, svs.length = LL.length ∧ Src W (.slice p LL.length c) LL.length 1 svs ∧ ∀ (k : Nat) (sv : Value) (xs : List Int), svs[k]? = some sv → LL[k]? = some xs → Ints n W sv xs := by
  rcases h with ⟨⟨p', c', h1⟩, h2⟩ | ⟨b, off, cap, h1, h2, h3, h4⟩
  · subst h2
    refine ⟨[], rfl, ?_, fun k sv xs hk => by simp at hk⟩
    cases p with
    | none => exact .inl ⟨⟨c, rfl⟩, rfl, rfl⟩
    | some ad => exact .inr ⟨ad, c, rfl, rfl, fun j u hu => by simp at hu, fun u hu => by simp at hu⟩
  · simp only [Value.slice.injEq] at h1
    obtain ⟨rfl, _, rfl⟩ := h1
    have hat : ∀ j, j < LL.length → ∃ sx, W.cell? ⟨b, off + j, none⟩ = some sx ∧ Ints n W sx (LL.getD j []) := fun j hj => by
      obtain ⟨sx, e1, e2⟩ := h4 j _ (getD_some hj)
      exact ⟨sx, e1, e2⟩
    refine ⟨(List.range LL.length).map fun j => (W.cell? ⟨b, off + j, none⟩).getD undef, by simp, .inr ⟨_, c, rfl, by simp, fun j u hu => ?_, fun u hu => ?_⟩, fun k sv xs hk hx => ?_⟩
    · rw [List.getElem?_map] at hu
      obtain ⟨j', hj', rfl⟩ := Option.map_eq_some_iff.1 hu
      obtain ⟨hl, e⟩ := List.getElem?_eq_some_iff.1 hj'
      rw [List.getElem_range] at e
      subst e
      rw [List.length_range] at hl
      obtain ⟨sx, e1, _⟩ := hat j hl
      rw [Go.WideShapes.add_plain, e1]
      rfl
    · obtain ⟨j, hj, rfl⟩ := List.mem_map.1 hu
      obtain ⟨sx, e1, e2⟩ := hat j (List.mem_range.1 hj)
      obtain ⟨p', c', rfl⟩ := e2.len
      rw [e1]
      rfl
    · rw [List.getElem?_map] at hk
      obtain ⟨j', hj', rfl⟩ := Option.map_eq_some_iff.1 hk
      obtain ⟨hl, e⟩ := List.getElem?_eq_some_iff.1 hj'
      rw [List.getElem_range] at e
      subst e
      rw [List.length_range] at hl
      obtain ⟨sx, e1, e2⟩ := hat k hl
      rw [getD_some hl] at hx
      rw [e1, Option.getD_some, ← Option.some.inj hx]
      exact e2

/-- Edges and lists while the reference joins: sL the edges, sO the row of lists. -/
structure RJ (w0 : World) (h0 N rb : Nat) (sL sO : Value) (svs : List Value) (l : List Ed) (pre : List (List Int)) (W : World) : Prop where
  own : W.ownsRow h0 40 3 sL l.length (flat l)
  row : W.ownsRow h0 37 1 sO N svs
  num : svs.length = N
  len : pre.length = N
  ne : ∀ q, sL.ownBlock = some q → sO.ownBlock ≠ some q
  ent : ∀ (k : Nat) (sv : Value) (xs : List Int), svs[k]? = some sv → pre[k]? = some xs → Lies (fun q => q = rb ∨ sO.ownBlock = some q ∨ sL.ownBlock = some q) W sv xs
  rbl : rb < h0
  size : h0 ≤ W.heap.size
  keep : Below h0 w0 W
theorem RJ.go {w0 : World} {h0 N rb : Nat} {sL sO : Value} {svs : List Value} {l : List Ed} {pre : List (List Int)} {W B : World} (h : RJ w0 h0 N rb sL sO svs l pre W) (hb : Below W.heap.size W B) : RJ w0 h0 N rb sL sO svs l pre B :=
  ⟨owns_below h.own hb, owns_below h.row hb, h.num, h.len, h.ne, fun k sv xs h1 h2 => (h.ent k sv xs h1 h2).go hb.size (fun q hq hn => ⟨hb.block q hq, hn⟩), h.rbl, Nat.le_trans h.size hb.size, h.keep.trans (hb.mono h.size)⟩
theorem RJ.edge {w0 : World} {h0 N rb : Nat} {sL sL' sO : Value} {svs : List Value} {l : List Ed} {pre : List (List Int)} {W B : World} {o : Obj} {e : Ed} (h : RJ w0 h0 N rb sL sO svs l pre W)
    (hB : B.ownsRow h0 40 3 sL' (l.length + 1) (flat l ++ encE e)) (hg : (W.alloc o).grownBy B sL.ownBlock) (hat : sL'.ownBlock = sL.ownBlock ∨ sL'.ownBlock = some (W.alloc o).heap.size) :
    RJ w0 h0 N rb sL' sO svs (l ++ [e]) pre B := by
  have hsz : (W.alloc o).heap.size = W.heap.size + 1 := by simp
  have hgs := hg.size
  have hq : ∀ q, q < W.heap.size → sL.ownBlock ≠ some q → B.heap[q]? = W.heap[q]? := fun q h1 h2 => (hg.block q (by omega) (fun e => h2 e.symm)).trans (Below.heap_alloc _ _ _ (by omega))
  have hh := h.size
  have hnot : ∀ q, q < W.heap.size → sL.ownBlock ≠ some q → sL'.ownBlock ≠ some q := fun q h1 h2 e => by
    rcases hat with h3 | h3
    · rw [h3] at e; exact h2 e
    · rw [h3] at e; have := Option.some.inj e; omega
  refine ⟨?_, owns_same h.row (fun q hq' => hq q (h.row.lt q hq').2 (fun e => h.ne q e hq')), h.num, h.len, fun q hq' e' => ?_, fun k sv xs h1 h2 => (h.ent k sv xs h1 h2).go (by omega) (fun q h3 h4 => ⟨hq q h3 (fun e => h4 (.inr (.inr e))), fun h5 => ?_⟩), h.rbl, by omega, (h.keep.alloc hh o).grown hg (by omega) (fun k e => (h.own.lt k e).1)⟩
  · rw [List.length_append, flat_snoc]; exact hB
  · exact hnot q (h.row.lt q e').2 (fun e => h.ne q e e') hq'
  · rcases h5 with h5 | h5 | h5
    · exact h4 (.inl h5)
    · exact h4 (.inr (.inl h5))
    · exact hnot q h3 (fun e => h4 (.inr (.inr e))) h5
theorem RJ.put {w0 : World} {h0 N g cap k rb : Nat} {sL sv' : Value} {svs : List Value} {l : List Ed} {pre : List (List Int)} {W B : World} {xs : List Int} (h : RJ w0 h0 N rb sL (.slice (some ⟨g, 0, none⟩) N cap) svs l pre W) (hk : k < N) (hb : Below W.heap.size W B) (hB : B.ownsRow W.heap.size 3 1 sv' xs.length (xs.map (Value.int .i64))) :
    RJ w0 h0 N rb sL (.slice (some ⟨g, 0, none⟩) N cap) (svs.set k sv') l (pre.set k xs) (B.setCell ⟨g, k, none⟩ sv') := by
  have h1 := h.go hb
  have hgl : g < W.heap.size := (h.row.lt g rfl).2
  obtain ⟨hst, hsg⟩ := h1.row.stored k sv'
  have hs : ∀ q, q ≠ g → (B.setCell ⟨g, k, none⟩ sv').heap[q]? = B.heap[q]? := fun q h1 => Below.heap_setCell _ _ _ _ (by simpa using h1)
  have hsz : (B.setCell ⟨g, k, none⟩ sv').heap.size = B.heap.size := by simp
  have hbs := hb.size
  have hg0 : h0 ≤ g := (h.row.lt g rfl).1
  refine ⟨owns_same h1.own (fun q hq => hs q (fun e => h.ne q hq (by rw [e]; rfl))), hst, by rw [List.length_set]; exact h.num, by rw [List.length_set]; exact h.len, h.ne, fun j x zs hx hz => ?_, h.rbl, by have := h1.size; omega, h1.keep.setCell (p := ⟨g, k, none⟩) hg0 _⟩
  by_cases hj : k = j
  · subst hj
    rw [List.getElem?_set_self (by rw [h.num]; exact hk)] at hx
    rw [List.getElem?_set_self (by rw [h.len]; exact hk)] at hz
    cases hx
    cases hz
    have hlow : ∀ q, sv'.ownBlock = some q → q ≠ g ∧ sL.ownBlock ≠ some q := fun q hq => by
      have h2 := (hB.lt q hq).1
      exact ⟨by omega, fun e => by have := (h.own.lt q e).2; omega⟩
    refine Lies.owned (owns_same hB (fun q hq => hs q (hlow q hq).1)) (fun q hq h3 => ?_)
    rcases h3 with h3 | h3 | h3
    · have h4 := (hB.lt q hq).1
      have := h.rbl
      have := h.size
      omega
    · exact (hlow q hq).1 (Option.some.inj h3).symm
    · exact (hlow q hq).2 h3
  · rw [List.getElem?_set_ne hj] at hx hz
    exact (h1.ent j x zs hx hz).go (by omega) (fun q _ h3 => ⟨hs q (fun e => h3 (.inr (.inl (by rw [e]; rfl)))), h3⟩)
/-- The lists, where nothing but one block below them has been set. -/
theorem RJ.lsts {w0 : World} {h0 N rb : Nat} {sL sO : Value} {svs : List Value} {l : List Ed} {pre : List (List Int)} {W B : World} (h : RJ w0 h0 N rb sL sO svs l pre W) (hz : B.heap.size = W.heap.size) (hs : ∀ q, q ≠ rb → B.heap[q]? = W.heap[q]?) : Lsts B.heap.size B sO pre := by
  have hl : svs.length = pre.length := by rw [h.num, h.len]
  have hrow : B.ownsRow h0 37 1 sO N svs := owns_same h.row (fun q hq => hs q (by have := (h.row.lt q hq).1; have := h.rbl; omega))
  rcases hrow.2 with ⟨rfl, h1⟩ | ⟨g, cap, cur, rfl, hb, hg, hn, hc⟩
  · refine .inl ⟨⟨_, _, rfl⟩, List.eq_nil_of_length_eq_zero ?_⟩
    have := h.num
    omega
  · refine .inr ⟨g, 0, cap, by rw [h.len], (Array.getElem?_eq_some_iff.1 hg).1, by rw [h.len]; exact hn, fun j x hx => ?_⟩
    have hj := (List.getElem?_eq_some_iff.1 hx).1
    obtain ⟨sx, hsx⟩ : ∃ sx, svs[j]? = some sx := ⟨_, List.getElem?_eq_getElem (by omega)⟩
    refine ⟨sx, ?_, ((h.ent j sx x hsx hx).go (bad' := fun _ => False) (by omega) (fun q _ hq => ⟨hs q (fun e => hq (.inl e)), fun f => f⟩)).ints⟩
    have := hrow.cells (g := g) rfl j sx hsx
    rwa [Go.WideShapes.add_plain] at this
end Go.Proofs.YtonfhkdciaiilaaGreat
