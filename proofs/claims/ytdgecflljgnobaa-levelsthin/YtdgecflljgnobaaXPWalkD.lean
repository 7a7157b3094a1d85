/-
  The walk in memory: a step put on the way.
-/
import Derived.Test.YtdgecflljgnobaaZBA
namespace Go.Proofs.Ytdgecflljgnobaa
open Go Go.Proofs Go.RowKit

theorem WB.setPth {a : Lay} {lv pv pv' ov : Value} {s : WS} {A B : World} {P : List Stp} (h : WB a lv pv ov s A) (hL : LayOK a) (hA : Apart2 pv ov) (hg : A.grownBy B pv.ownBlock) (hlow : ∀ k, pv.ownBlock = some k → a.h0 ≤ k) (hB : B.ownsRow a.h0 77 5 pv' P.length (flatP P)) : WB a lv pv' ov { s with path := P } (B.setCell ⟨a.wb, 5, none⟩ pv') := by
  have hb : ∀ {t : TypeId} {b : Nat} {vs : List Value}, Blk t A b vs → b < a.h0 → Blk t B b vs := fun {t b vs} hB hlt => (hg.block b hB.lt (fun e => by have := hlow b e.symm; omega)).trans hB
  have hbl := (hb h.blk hL.w0).set 5 pv'
  exact ⟨hbl, (hb h.root hL.r0).other (Ne.symm hL.wr) _, (hb h.frm hL.f0).other (Ne.symm hL.wf) _, (hb h.dep hL.d0).other (Ne.symm hL.wd) _, (hb h.bls hL.k0).other (Ne.symm hL.wk) _, owns_lowset hB hL.w0 _, owns_lowset (owns_keep h.opn hg hA.2) hL.w0 _⟩
theorem apart_grown {pv pv' ov : Value} {n : Nat} (hA : Apart2 pv ov) (hat : pv'.ownBlock = pv.ownBlock ∨ pv'.ownBlock = some n) (hov : ∀ k, ov.ownBlock = some k → k < n) : Apart2 pv' ov := by
  rcases hat with h | h
  · unfold Apart2; rw [h]; exact hA
  · refine ⟨.inr ?_, ?_⟩
    · rw [h]
      intro e
      have := hov n e.symm
      omega
    · rw [h]
      cases ho : ov.ownBlock with
      | none => exact .inl rfl
      | some k =>
        have := hov k ho
        exact .inr (by simp; omega)
theorem apart_swap {pv ov : Value} (h : Apart2 pv ov) : Apart2 ov pv := ⟨h.2, h.1⟩
theorem infoSt : (Try.prog.info? 77).map (fun i => (i.zero, i.size, i.bytes)) = some (some (.agg #[.int .i64 0, .int .i64 0, .int .i64 0, .int .i64 0, .int .i64 0]), 5, 40) := by kernel_rfl
theorem news_step (W : World) (y0 y1 y2 y3 y4 : Value) (h0 : y0.oneCell' = true) (h1 : y1.oneCell' = true) (h2 : y2.oneCell' = true) (h3 : y3.oneCell' = true) (h4 : y4.oneCell' = true) : Src (W.alloc (.cells #[y0, y1, y2, y3, y4] 77)).drew (.slice (some ⟨W.heap.size, 0, none⟩) 1 1) 1 5 [y0, y1, y2, y3, y4] := by
  refine .inr ⟨⟨W.heap.size, 0, none⟩, 1, rfl, rfl, fun j u hu => ?_, fun u hu => ?_⟩
  · have hb : Blk 77 (W.alloc (.cells #[y0, y1, y2, y3, y4] 77)).drew W.heap.size [y0, y1, y2, y3, y4] := heap_alloc_new W _
    have e : (⟨W.heap.size, 0, none⟩ : Addr).add j = ⟨W.heap.size, j, none⟩ := by
      simp only [Addr.add]
      by_cases h : j = 0
      · subst h; rfl
      · simp [h]
    rw [e]
    exact hb.cell hu
  · simp at hu
    rcases hu with rfl | rfl | rfl | rfl | rfl <;> assumption
theorem news_step' (W : World) (y0 y1 y2 y3 y4 : Value) (h0 : y0.oneCell' = true) (h1 : y1.oneCell' = true) (h2 : y2.oneCell' = true) (h3 : y3.oneCell' = true) (h4 : y4.oneCell' = true) : Src (W.alloc (.cells #[y0, y1, y2, y3, y4] 77)) (.slice (some ⟨W.heap.size, 0, none⟩) 1 1) 1 5 [y0, y1, y2, y3, y4] := by
  refine .inr ⟨⟨W.heap.size, 0, none⟩, 1, rfl, rfl, fun j u hu => ?_, fun u hu => ?_⟩
  · have hb : Blk 77 (W.alloc (.cells #[y0, y1, y2, y3, y4] 77)) W.heap.size [y0, y1, y2, y3, y4] := heap_alloc_new W _
    have e : (⟨W.heap.size, 0, none⟩ : Addr).add j = ⟨W.heap.size, j, none⟩ := by
      simp only [Addr.add]
      by_cases h : j = 0
      · subst h; rfl
      · simp [h]
    rw [e]
    exact hb.cell hu
  · simp at hu
    rcases hu with rfl | rfl | rfl | rfl | rfl <;> assumption
end Go.Proofs.Ytdgecflljgnobaa
