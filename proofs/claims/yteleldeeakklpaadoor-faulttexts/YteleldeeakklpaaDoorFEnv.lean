/-
  What of the start holds all along: the tables that the library reads; and what a strings.Builder bears.
-/
import Derived.Test.YteleldeeakklpaaDoorFAs
import Derived.Test.YteleldeeakklpaaDoorFDig
import Derived.Test.YteleldeeakklpaaDoorFBld
namespace Go.Proofs.YteleldeeakklpaaDoor
open Go Go.Proofs Go.RowKit

theorem tab_at : Tryd.prog.globalNamed "internal/strconv.uint64pow10" = some 1 := by kernel_rfl
theorem tab_lt {A : World} (h : Tab A) : 1 < A.heap.size := by
  unfold Tab Lib.TabIs World.var? at h
  rw [tab_at] at h
  simp only [Option.bind_some] at h
  rcases Nat.lt_or_ge 1 A.heap.size with h1 | h1
  · exact h1
  · simp [Array.getElem?_eq_none h1] at h
theorem tab_below {n : Nat} {A B : World} (h : Tab A) (hn : 2 ≤ n) (hb : Below n A B) : Tab B := by
  unfold Tab Lib.TabIs World.var? at *
  rw [tab_at] at h ⊢
  simp only [Option.bind_some] at h ⊢
  rw [hb.block 1 (by omega)]
  exact h

/-- The variables that the library reads. -/
structure Env (W : World) : Prop where
  tab : Tab W
  et : ErrType W
theorem Env.two {W : World} (h : Env W) : 2 ≤ W.heap.size := tab_lt h.tab
theorem Env.below {n : Nat} {A B : World} (h : Env A) (hn : 2 ≤ n) (hb : Below n A B) : Env B := ⟨tab_below h.tab hn hb, h.et.below (by omega) hb⟩
theorem Env.go {A B : World} (h : Env A) (hb : Below A.heap.size A B) : Env B := h.below h.two hb

/-- A builder stays what it is where rows of cells stay what they are. -/
theorem builder_kept {T e : TypeId} {B b : Nat} {bs : List Value} {W W' : World} (h : Lib.IsBuilder T e B b bs W) (hk : ∀ (k : Nat) (c : Array Value) (t : TypeId), W.heap[k]? = some (Obj.cells c t (0, 0)) → W'.heap[k]? = some (Obj.cells c t (0, 0))) : Lib.IsBuilder T e B b bs W' := by
  have one : ∀ p, Lib.BuilderAt T e B b p bs W → Lib.BuilderAt T e B b p bs W' := by
    rintro p ⟨h1, v, h2, ⟨h3, h4⟩, h5⟩
    refine ⟨h1, v, hk _ _ _ h2, ⟨h3, ?_⟩, h5⟩
    rcases h4 with h4 | ⟨g, cap, cur, a1, a2, a3, a4⟩
    · exact .inl h4
    · exact .inr ⟨g, cap, cur, a1, a2, hk _ _ _ a3, a4⟩
  exact h.imp (one _) (one _)
theorem kept_below {W W' : World} (hb : Below W.heap.size W W') (k : Nat) (c : Array Value) (t : TypeId) (h : W.heap[k]? = some (.cells c t (0, 0))) : W'.heap[k]? = some (.cells c t (0, 0)) :=
  (hb.block k (Array.getElem?_eq_some_iff.1 h).1).trans h
theorem kept_map {W W' : World} {M : Nat} (hM : IsMapAt W M) (hg : W.grownBy W' (some M)) (k : Nat) (c : Array Value) (t : TypeId) (h : W.heap[k]? = some (.cells c t (0, 0))) : W'.heap[k]? = some (.cells c t (0, 0)) := by
  refine (hg.block k (Array.getElem?_eq_some_iff.1 h).1 (fun e => ?_)).trans h
  obtain ⟨es, ck, hm⟩ := hM
  rw [Option.some.inj e, hm] at h
  cases h
theorem map_below {W W' : World} {M : Nat} (hM : IsMapAt W M) (hb : Below W.heap.size W W') : W'.heap[M]? = W.heap[M]? := by
  obtain ⟨es, ck, hm⟩ := hM
  exact hb.block M (Array.getElem?_eq_some_iff.1 hm).1
theorem IsMapAt.of {W W' : World} {M : Nat} (hM : IsMapAt W M) (h : W'.heap[M]? = W.heap[M]?) : IsMapAt W' M := by
  obtain ⟨es, ck, hm⟩ := hM
  exact ⟨es, ck, h.trans hm⟩
theorem map_kept8 {b : Nat} {W W' : World} {M : Nat} (hM : IsMapAt W M) (hne : M ≠ b) (hk : Kept8 b W W') : W'.heap[M]? = W.heap[M]? := by
  obtain ⟨es, ck, hm⟩ := hM
  rw [hm]
  exact hk.2 M _ hm hne (by intro c fr e; cases e)

end Go.Proofs.YteleldeeakklpaaDoor
