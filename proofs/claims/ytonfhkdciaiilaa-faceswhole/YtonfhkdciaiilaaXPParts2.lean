/-
  The contracts of parts.Components and Blocks again, with where their lists lie.
-/
import Derived.Test.YtonfhkdciaiilaaQG
import Derived.Test.YtonfhkdciaiilaaXPGather2
namespace Go.Proofs.Ytonfhkdciaiilaa
open Go Go.Proofs Go.RowKit

set_option maxRecDepth 100000 in
set_option maxHeartbeats 4000000 in
theorem components_at (N : Nat) (l : List Ed) (hR : RightG (N : Int) l) (hLb : Labels (walkW N l).root) (hln : (walkW N l).root.length = N) (sv : Value) (w : World) (hl : Edges w.heap.size w sv l) :
    Calls Try.prog 36 #[.agg #[.int .i64 (N : Int), sv]] w fun r w' => ∃ lv svs h0, r = .returned lv ∧ Grp h0 lv svs (gath (walkW N l).root (walkW N l).root.length).2 w' ∧ w.heap.size ≤ h0 ∧ Below w.heap.size w w' := by
  have hg1 : Grew w (w.alloc (.cells #[.int .i64 (N : Int), sv] 24)) := (Grew.refl w).alloc _
  have hl1 := hl.go hg1.below
  obtain ⟨p, c, rfl⟩ := hl.len
  have hrc := fun W h => right_any (N : Int) l (.slice p l.length c) W h
  rw [right_iff.2 hR] at hrc
  have hn1 := hR.n1
  have hm1 := hR.m1
  go_enter Try.func36, Try.ntmps36
  go_wp2_with fail
  refine (hrc _ hl1).mono ?_
  rintro e w2 ⟨rfl, hg2⟩
  have q0 := (box2 _ hg2).1
  have q1 := (box2 _ hg2).2
  have hbox := box2_lt hg2
  have hbw := (hg1.trans hg2).below
  clear hrc hl1
  go_wp2_with fail
  refine (walked_any N l hR _ _ (hl.go hbw)).mono ?_
  rintro e w3 ⟨a, lv, pv, ov, rfl, aN, aM, hLay, hW, hLK, hF, hh, hb3⟩
  have b := hW.blk.cell (j := 1) rfl
  have hI := hW.root.ints
  rw [hln] at hI
  rw [aN] at b
  have hga := fun W (hb : Below w3.heap.size w3 W) => gathered_at (walkW N l).root hLb (by rw [hln]; omega) _ W (hI.go hb)
  have hbw3 := hbw.trans (hb3.mono hbw.size)
  clear hW hLK hF hI
  go_wp2_with fail
  refine (hga _ (Below.refl _ _)).mono ?_
  rintro e w4 ⟨lv4, svs, h0, rfl, hG, hh0, hb4⟩
  have HG : Hid _ := hG
  have HB : Hid _ := hbw3.trans (hb4.mono hbw3.size)
  clear hG hb4 hga
  go_wp2
  go_ret
  exact ⟨lv4, svs, h0, rfl, HG.out, Nat.le_trans hbw3.size hh0, HB.out⟩


/-- The cells of list i. -/
theorem Grp.cells {h0 : Nat} {lv : Value} {svs : List Value} {pre : List (List Int)} {W : World} (h : Grp h0 lv svs pre W) {i : Nat} {g : List Int} (hg : pre[i]? = some g) : ∃ gb cap p c, lv = .slice (some ⟨gb, 0, none⟩) pre.length cap ∧ h0 ≤ gb ∧ W.cell? ⟨gb, i, none⟩ = some (.slice p g.length c) ∧ ∀ k x, g[k]? = some x → ∃ ib, p = some ⟨ib, 0, none⟩ ∧ h0 ≤ ib ∧ W.cell? ⟨ib, k, none⟩ = some (.int .i64 x) := by
  have hi := (List.getElem?_eq_some_iff.1 hg).1
  have hl := h.len
  obtain ⟨sv, hsv⟩ : ∃ sv, svs[i]? = some sv := ⟨_, List.getElem?_eq_getElem (by omega)⟩
  have hin := h.inn i sv g hsv hg
  obtain ⟨gb, cap, rfl⟩ := owns_pos h.own (by omega)
  obtain ⟨p, c, rfl⟩ := owns_formP hin
  refine ⟨gb, cap, p, c, by rw [hl], (h.own.lt gb rfl).1, (h.own.cellAt i (by omega)).trans hsv, fun k x hx => ?_⟩
  have hk := (List.getElem?_eq_some_iff.1 hx).1
  obtain ⟨ib, cc, he⟩ := owns_pos hin (by omega)
  simp only [Value.slice.injEq] at he
  obtain ⟨rfl, _, rfl⟩ := he
  refine ⟨ib, rfl, (hin.lt ib rfl).1, ?_⟩
  rw [hin.cellAt k (by omega), List.getElem?_map, hx]
  rfl
end Go.Proofs.Ytonfhkdciaiilaa
