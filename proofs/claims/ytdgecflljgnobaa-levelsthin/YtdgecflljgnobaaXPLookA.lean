/-
  (*walk).look, whatever the link leads to.
-/
import Derived.Test.YtdgecflljgnobaaXPLookN
import Derived.Test.YtdgecflljgnobaaXPLook2
namespace Go.Proofs.Ytdgecflljgnobaa
open Go Go.Proofs Go.RowKit

theorem look_any (a : Lay) (hL : LayOK a) (lv ov : Value) (s : WS) (init : List Stp) (top : Stp) (pb cap v u : Nat) (pl : Int) (hp : s.path = init ++ [top]) (hv : top.v = (v : Int)) (hvN : v < a.N) (huN : u < a.N) (hN : a.N ≤ 1048576) (hD : s.depth.length = a.N) (hRt : s.root.length = a.N) (hF : s.from_.length = a.N) (hP : s.path.length ≤ 1073741824) (hO : s.opn.length ≤ 1073741824) (h2 : 0 ≤ s.depth.getD v 0) (h3 : s.depth.getD v 0 ≤ 1073741824) (w : World) (h : WB a lv (.slice (some ⟨pb, 0, none⟩) s.path.length cap) ov s w) (hA : Apart2 (.slice (some ⟨pb, 0, none⟩) s.path.length cap) ov) :
    Calls Try.prog 51 #[.pointer (some ⟨a.wb, 0, none⟩), .pointer (some ⟨pb, init.length * 5, none⟩), .agg #[.int .i64 (u : Int), .int .i64 pl]] w fun e w' => e = .returned (.tuple #[]) ∧ ∃ pv' ov', WB a lv pv' ov' (lookW s init top ((u : Int), pl)) w' ∧ Apart2 pv' ov' ∧ Wk a w w' := by
  by_cases h1 : s.depth.getD u 0 < 0
  · refine (look_new a hL lv ov s init top pb cap v u pl hp hv hvN huN hD hRt hF hP h1 h2 h3 w h hA).mono ?_
    rintro e w' ⟨rfl, pv', g1, g2, g3⟩
    exact ⟨rfl, pv', ov, g1, g2, g3⟩
  · by_cases h4 : s.depth.getD u 0 < s.depth.getD v 0
    · refine (look_back a hL lv ov s init top pb cap v u pl hp hv hvN huN hD hO (by omega) h4 w h hA).mono ?_
      rintro e w' ⟨rfl, ov', g1, g2, g3⟩
      exact ⟨rfl, _, ov', g1, g2, g3⟩
    · refine (look_idle a lv ov s init top pb cap v u pl hp hv hvN huN hN hD (by omega) (by omega) w h).mono ?_
      rintro e w' ⟨rfl, hb⟩
      have hpb := h.way.lt pb rfl
      have HE : lookW s init top ((u : Int), pl) = s := by
        unfold lookW at_
        simp only [Int.toNat_natCast, hv]
        rw [if_neg h1, if_neg h4, ← hp]
      refine ⟨rfl, _, _, ?_, hA, Wk.of_below hb (by omega)⟩
      rw [HE]
      exact h.go hb
end Go.Proofs.Ytdgecflljgnobaa
