/-
  What a walk leaves as it was: all below its stacks, but its struct and its four rows.
-/
import Derived.Test.YtdadpfkoocpfaaaPWalkC
namespace Go.Proofs.Ytdadpfkoocpfaaa
open Go Go.Proofs Go.RowKit

def Lay.five (a : Lay) (k : Nat) : Prop := k = a.wb ∨ k = a.rb ∨ k = a.fb ∨ k = a.db ∨ k = a.kb
structure Wk (a : Lay) (A B : World) : Prop where
  os : B.os = A.os
  tape : B.tape = A.tape
  output : B.output = A.output
  size : A.heap.size ≤ B.heap.size
  block : ∀ k, k < a.h0 → ¬ a.five k → B.heap[k]? = A.heap[k]?
theorem Wk.refl (a : Lay) (A : World) : Wk a A A := ⟨rfl, rfl, rfl, Nat.le_refl _, fun _ _ _ => rfl⟩
theorem Wk.trans {a : Lay} {A B C : World} (h : Wk a A B) (k : Wk a B C) : Wk a A C :=
  ⟨k.os.trans h.os, k.tape.trans h.tape, k.output.trans h.output, Nat.le_trans h.size k.size, fun i hi hn => (k.block i hi hn).trans (h.block i hi hn)⟩
theorem Wk.of_below {a : Lay} {n : Nat} {A B : World} (h : Below n A B) (hn : a.h0 ≤ n) : Wk a A B := ⟨h.os, h.tape, h.output, h.size, fun k hk _ => h.block k (by omega)⟩
theorem Wk.grown {a : Lay} {A B : World} {row : Option Nat} (h : A.grownBy B row) (hs : a.h0 ≤ A.heap.size) (hr : ∀ k, row = some k → a.h0 ≤ k) : Wk a A B :=
  ⟨h.os, h.tape, h.output, h.size, fun k hk _ => h.block k (by omega) (fun e => by have := hr k e.symm; omega)⟩
theorem Wk.set {a : Lay} {A B : World} (h : Wk a A B) {p : Addr} (hp : a.five p.block ∨ a.h0 ≤ p.block) (u : Value) : Wk a A (B.setCell p u) :=
  h.trans ⟨rfl, rfl, rfl, by simp, fun k hk hn => Below.heap_setCell _ _ _ _ (fun e => by
    rcases hp with h1 | h1
    · exact hn (e ▸ h1)
    · omega)⟩
theorem Wk.below {a : Lay} {n : Nat} {A B : World} (h : Wk a A B) (hn : n ≤ a.h0) (h5 : ∀ k, k < n → ¬ a.five k) : Below n A B := ⟨h.os, h.tape, h.output, h.size, fun k hk => h.block k (by omega) (h5 k hk)⟩
theorem Wk.blk {a : Lay} {A B : World} {t : TypeId} {g : Nat} {vs : List Value} (h : Wk a A B) (hB : Blk t A g vs) (hg : g < a.h0) (hn : ¬ a.five g) : Blk t B g vs := (h.block g hg hn).trans hB
/-- The links in memory: a list of lists, all cut of one. -/
structure LK (a : Lay) (lv : Value) (lk : List (List (Int × Int))) (W : World) : Prop where
  ex : ∃ (lb sb : Nat) (svs cs : List Value), lv = .slice (some ⟨lb, 0, none⟩) a.N a.N ∧ lb < a.h0 ∧ ¬ a.five lb ∧ sb < a.h0 ∧ ¬ a.five sb ∧ lk.length = a.N ∧ Blk 55 W lb svs ∧ Blk 57 W sb cs ∧
    ∀ (v : Nat) (xs : List (Int × Int)), lk[v]? = some xs → ∃ off c, svs[v]? = some (.slice (some ⟨sb, off, none⟩) xs.length c) ∧ ∀ (j : Nat) (x : Int × Int), xs[j]? = some x → cs[off + j * 2]? = some (.int .i64 x.1) ∧ cs[off + j * 2 + 1]? = some (.int .i64 x.2)
theorem LK.go {a : Lay} {lv : Value} {lk : List (List (Int × Int))} {A B : World} (h : LK a lv lk A) (k : Wk a A B) : LK a lv lk B := by
  obtain ⟨lb, sb, svs, cs, h1, h2, h3, h4, h5, h6, h7, h8, h9⟩ := h.ex
  exact ⟨lb, sb, svs, cs, h1, h2, h3, h4, h5, h6, k.blk h7 h2 h3, k.blk h8 h4 h5, h9⟩
end Go.Proofs.Ytdadpfkoocpfaaa
