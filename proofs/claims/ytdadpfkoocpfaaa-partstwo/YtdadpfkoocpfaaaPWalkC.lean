/-
  The walk in memory: the step on top changed, an edge opened.
-/
import Derived.Test.YtdadpfkoocpfaaaPLook
namespace Go.Proofs.Ytdadpfkoocpfaaa
open Go Go.Proofs Go.RowKit

theorem flatP_low (init : List Stp) (top : Stp) (x : Int) : (flatP (init ++ [top])).set (init.length * 5 + 3) (.int .i64 x) = flatP (init ++ [{ top with low := x }]) := by
  rw [flatP_app, flatP_app, List.set_append_right _ _ (by rw [flatP_len]; omega), flatP_len, Nat.add_sub_cancel_left]
  rfl
theorem flatP_next (init : List Stp) (top : Stp) (x : Nat) : (flatP (init ++ [top])).set (init.length * 5 + 2) (.int .i64 (x : Int)) = flatP (init ++ [{ top with next := x }]) := by
  rw [flatP_app, flatP_app, List.set_append_right _ _ (by rw [flatP_len]; omega), flatP_len, Nat.add_sub_cancel_left]
  rfl
/-- The two stacks lie apart. -/
def Apart2 (pv ov : Value) : Prop := (pv.ownBlock = none ∨ pv.ownBlock ≠ ov.ownBlock) ∧ (ov.ownBlock = none ∨ ov.ownBlock ≠ pv.ownBlock)
theorem WB.setWay {a : Lay} {lv ov : Value} {s : WS} {W : World} {pb cap : Nat} (h : WB a lv (.slice (some ⟨pb, 0, none⟩) s.path.length cap) ov s W) (hL : LayOK a) (hA : Apart2 (.slice (some ⟨pb, 0, none⟩) s.path.length cap) ov) {j : Nat} {u : Value} {P : List Stp} (hP : (flatP s.path).set j u = flatP P) (hl : P.length = s.path.length) : WB a lv (.slice (some ⟨pb, 0, none⟩) P.length cap) ov { s with path := P } (W.setCell ⟨pb, j, none⟩ u) := by
  obtain ⟨h1, h2⟩ := h.way.stored j u
  have hb := h.way.lt pb rfl
  rw [hP] at h1
  have hlo : ∀ {t : TypeId} {b : Nat} {vs : List Value}, Blk t W b vs → b < a.h0 → Blk t (W.setCell ⟨pb, j, none⟩ u) b vs := fun hB hlt => hB.other (by simp only; omega) _
  refine ⟨hlo h.blk hL.w0 |> fun x => ?_, hlo h.root hL.r0, hlo h.frm hL.f0, hlo h.dep hL.d0, hlo h.bls hL.k0, by rw [hl]; exact h1, owns_keep h.opn h2 hA.2⟩
  rw [hl]
  exact x
theorem WB.setOpn {a : Lay} {lv pv ov ov' : Value} {s : WS} {A B : World} {P : List Int} (h : WB a lv pv ov s A) (hL : LayOK a) (hA : Apart2 pv ov) (hg : A.grownBy B ov.ownBlock) (hlow : ∀ k, ov.ownBlock = some k → a.h0 ≤ k) (hB : B.ownsRow a.h0 3 1 ov' P.length (P.map (Value.int .i64))) : WB a lv pv ov' { s with opn := P } (B.setCell ⟨a.wb, 6, none⟩ ov') := by
  have hb : ∀ {t : TypeId} {b : Nat} {vs : List Value}, Blk t A b vs → b < a.h0 → Blk t B b vs := fun {t b vs} hB hlt => (hg.block b hB.lt (fun e => by have := hlow b e.symm; omega)).trans hB
  have hbl := (hb h.blk hL.w0).set 6 ov'
  exact ⟨hbl, (hb h.root hL.r0).other (Ne.symm hL.wr) _, (hb h.frm hL.f0).other (Ne.symm hL.wf) _, (hb h.dep hL.d0).other (Ne.symm hL.wd) _, (hb h.bls hL.k0).other (Ne.symm hL.wk) _, owns_lowset (owns_keep h.way hg hA.1) hL.w0 _, owns_lowset hB hL.w0 _⟩
end Go.Proofs.Ytdadpfkoocpfaaa
