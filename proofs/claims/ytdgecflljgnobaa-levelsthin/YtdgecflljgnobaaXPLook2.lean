/-
  (*walk).look: a link that leads back: the step on top is lowered, the edge is opened.
-/
import Derived.Deep.QuietTactic
import Derived.Deep.RegionLaw
import Derived.BigQuiet
import Derived.Test.YtdgecflljgnobaaXPWalkD
namespace Go.Proofs.Ytdgecflljgnobaa
open Go Go.Proofs Go.RowKit

theorem news_one (W : World) (y : Int) : Src (W.alloc (.cells #[.int .i64 y] 3)).drew (.slice (some ⟨W.heap.size, 0, none⟩) 1 1) 1 1 [.int .i64 y] :=
  .inr ⟨⟨W.heap.size, 0, none⟩, 1, rfl, rfl, fun j u hu => one_cell W (.int .i64 y) 3 j u hu, fun u hu => by rw [List.mem_singleton.1 hu]; rfl⟩

set_option maxRecDepth 100000 in
set_option maxHeartbeats 4000000 in
theorem look_back (a : Lay) (hL : LayOK a) (lv ov : Value) (s : WS) (init : List Stp) (top : Stp) (pb cap v u : Nat) (pl : Int) (hp : s.path = init ++ [top]) (hv : top.v = (v : Int)) (hvN : v < a.N) (huN : u < a.N) (hD : s.depth.length = a.N) (hO : s.opn.length ≤ 1073741824) (h1 : 0 ≤ s.depth.getD u 0) (h2 : s.depth.getD u 0 < s.depth.getD v 0) (w : World) (h : WB a lv (.slice (some ⟨pb, 0, none⟩) s.path.length cap) ov s w) (hA : Apart2 (.slice (some ⟨pb, 0, none⟩) s.path.length cap) ov) :
    Calls Try.prog 51 #[.pointer (some ⟨a.wb, 0, none⟩), .pointer (some ⟨pb, init.length * 5, none⟩), .agg #[.int .i64 (u : Int), .int .i64 pl]] w fun e w' => e = .returned (.tuple #[]) ∧ ∃ ov', WB a lv (.slice (some ⟨pb, 0, none⟩) s.path.length cap) ov' (lookW s init top ((u : Int), pl)) w' ∧ Apart2 (.slice (some ⟨pb, 0, none⟩) s.path.length cap) ov' ∧ Wk a w w' := by
  have hmix := mixed
  have HL : Hid (lookW s init top ((u : Int), pl) = { s with path := init ++ [{ top with low := min top.low (s.depth.getD u 0) }], opn := s.opn ++ [pl] }) := by
    unfold Hid lookW at_
    simp only [Int.toNat_natCast, hv]
    rw [if_neg (by omega), if_pos h2]
  have hb1 : Below w.heap.size w (w.alloc (.cells #[.int .i64 (u : Int), .int .i64 pl] 75)) := (Below.refl _ _).alloc (Nat.le_refl _) _
  have hX : Blk 75 (w.alloc (.cells #[.int .i64 (u : Int), .int .i64 pl] 75)) w.heap.size [.int .i64 (u : Int), .int .i64 pl] := heap_alloc_new w _
  have h' := h.go hb1
  have b3 := h'.blk.cell (j := 3) rfl
  obtain ⟨p0, -, -, p3, -⟩ := h'.top hp
  rw [hv] at p0
  have x0 := hX.cell (j := 0) rfl
  have hvN' : (v : Int) < (a.N : Int) := by omega
  have huN' : (u : Int) < (a.N : Int) := by omega
  have t0 : (w.alloc (.cells #[.int .i64 (u : Int), .int .i64 pl] 75)).cell? ⟨a.db, v, none⟩ = some (.int .i64 (s.depth.getD v 0)) := h'.dep.cell (by rw [List.getElem?_map, List.getElem?_eq_getElem (by omega)]; simp [show v < s.depth.length by omega])
  have t1 : (w.alloc (.cells #[.int .i64 (u : Int), .int .i64 pl] 75)).cell? ⟨a.db, u, none⟩ = some (.int .i64 (s.depth.getD u 0)) := h'.dep.cell (by rw [List.getElem?_map, List.getElem?_eq_getElem (by omega)]; simp [show u < s.depth.length by omega])
  generalize s.depth.getD u 0 = du at *
  generalize s.depth.getD v 0 = dv at *
  have h1' : ¬ du < 0 := by omega
  go_enter Try.func51, Try.ntmps51
  go_wp2
  go_quiet (fail)
  have hbq : Below (w.alloc (.cells #[.int .i64 (u : Int), .int .i64 pl] 75)).heap.size (w.alloc (.cells #[.int .i64 (u : Int), .int .i64 pl] 75)) ((w.alloc (.cells #[.int .i64 (u : Int), .int .i64 pl] 75)).drewN nq) := below_drewN (Below.refl _ _) nq
  have hW := h'.go hbq
  have hX5 := hX.go hbq
  have hpb0 := h.way.lt pb rfl
  have hWk : Wk a w ((w.alloc (.cells #[.int .i64 (u : Int), .int .i64 pl] 75)).drewN nq) := Wk.of_below (n := w.heap.size) (hb1.trans (hbq.mono (by simp))) (by omega)
  generalize (w.alloc (.cells #[.int .i64 (u : Int), .int .i64 pl] 75)).drewN nq = w5 at hW hX5 hWk ⊢
  obtain ⟨-, -, -, y3, -⟩ := hW.top hp
  have fr := hW.way.frozenAt (init.length * 5 + 3)
  obtain ⟨po, co, rfl⟩ := owns_formP hW.opn
  obtain ⟨i0, hi, hz0, hz1, hz2⟩ := info_parts infoI
  have hpb := hW.way.lt pb rfl
  have hne : w.heap.size ≠ pb := by have := (h.way.lt pb rfl).2; omega
  have tail : ∀ m : Int, m = min top.low du → WB a lv (.slice (some ⟨pb, 0, none⟩) s.path.length cap) (.slice po s.opn.length co) { s with path := init ++ [{ top with low := m }] } (w5.setCell ⟨pb, init.length * 5 + 3, none⟩ (.int .i64 m)) := fun m _ => by
    have h1 := hW.setWay hL hA (j := init.length * 5 + 3) (u := .int .i64 m) (P := init ++ [{ top with low := m }]) (by rw [hp]; exact flatP_low init top m) (by rw [hp]; simp)
    have el : (init ++ [{ top with low := m }] : List Stp).length = s.path.length := by rw [hp]; simp
    rw [el] at h1
    exact h1
  have fin : ∀ (m : Int) (v8 : Value) (w8 : World), m = min top.low du → w8.ownsRow a.h0 3 1 v8 (s.opn.length + 1) (s.opn.map (Value.int .i64) ++ [.int .i64 pl]) → ((w5.setCell ⟨pb, init.length * 5 + 3, none⟩ (.int .i64 m)).alloc (.cells #[.int .i64 pl] 3)).drew.grownBy w8 (Value.slice po s.opn.length co).ownBlock → (v8.ownBlock = (Value.slice po s.opn.length co).ownBlock ∨ v8.ownBlock = some ((w5.setCell ⟨pb, init.length * 5 + 3, none⟩ (.int .i64 m)).alloc (.cells #[.int .i64 pl] 3)).drew.heap.size) → (∃ ov', WB a lv (.slice (some ⟨pb, 0, none⟩) s.path.length cap) ov' (lookW s init top ((u : Int), pl)) (w8.setCell ⟨a.wb, 6, none⟩ v8) ∧ Apart2 (.slice (some ⟨pb, 0, none⟩) s.path.length cap) ov' ∧ Wk a w (w8.setCell ⟨a.wb, 6, none⟩ v8)) ∧ w8.cell? ⟨a.wb, 6, none⟩ = some (.slice po s.opn.length co) ∧ w8.frozen? ⟨a.wb, 6, none⟩ = false := fun m v8 w8 hm ho hg hat => by
    have hT := (tail m hm).go (B := ((w5.setCell ⟨pb, init.length * 5 + 3, none⟩ (.int .i64 m)).alloc (.cells #[.int .i64 pl] 3)).drew) (below_drewN ((Below.refl _ _).alloc (Nat.le_refl _) _) 1)
    have hlow : ∀ k, (Value.slice po s.opn.length co).ownBlock = some k → a.h0 ≤ k := fun k e => (hW.opn.lt k e).1
    have hS := hT.setOpn (P := s.opn ++ [pl]) hL hA hg hlow (by rw [List.length_append, List.map_append]; exact ho)
    have hb8 : Blk 61 w8 a.wb (cellsW a lv (.slice (some ⟨pb, 0, none⟩) s.path.length cap) (.slice po s.opn.length co)) := (hg.block a.wb hT.blk.lt (fun e => by have := hlow a.wb e.symm; have := hL.w0; omega)).trans hT.blk
    have hk8 := (((hWk.set (p := ⟨pb, init.length * 5 + 3, none⟩) (.inr (by have := hpb0; simp only; omega)) (.int .i64 m)).trans (Wk.of_below (n := w5.heap.size) (below_drewN ((Below.refl (w5.setCell ⟨pb, init.length * 5 + 3, none⟩ (.int .i64 m)).heap.size _).alloc (Nat.le_refl _) (.cells #[.int .i64 pl] 3)) 1 |>.mono (by simp)) (by omega))).trans (Wk.grown hg (by show a.h0 ≤ (World.alloc _ _).heap.size; simp; omega) hlow)).set (p := ⟨a.wb, 6, none⟩) (.inl (.inl rfl)) v8
    refine ⟨⟨v8, ?_, apart_swap (apart_grown (apart_swap hA) hat (fun k e => (hT.way.lt k e).2)), hk8⟩, hb8.cell (j := 6) rfl, hb8.frozen 6⟩
    rw [HL.out, ← hm]
    exact hS
  have b6 : ∀ m : Int, (w5.setCell ⟨pb, init.length * 5 + 3, none⟩ (.int .i64 m)).cell? ⟨a.wb, 6, none⟩ = some (.slice po s.opn.length co) := fun m => (hW.blk.other (p := ⟨pb, init.length * 5 + 3, none⟩) (by have := hL.w0; simp only; omega) (.int .i64 m)).cell (j := 6) rfl
  have b7 : ∀ m : Int, ((w5.setCell ⟨pb, init.length * 5 + 3, none⟩ (.int .i64 m)).alloc (.cells #[.int .i64 pl] 3)).cell? ⟨a.wb, 6, none⟩ = some (.slice po s.opn.length co) := fun m => ((hW.blk.other (p := ⟨pb, init.length * 5 + 3, none⟩) (by have := hL.w0; simp only; omega) (.int .i64 m)).go ((Below.refl _ _).alloc (Nat.le_refl _) _)).cell (j := 6) rfl
  have hs5 : ∀ m : Int, (w5.setCell ⟨pb, init.length * 5 + 3, none⟩ (.int .i64 m)).heap.size = w5.heap.size := fun m => by simp
  have x1 : ∀ m : Int, (w5.setCell ⟨pb, init.length * 5 + 3, none⟩ (.int .i64 m)).cell? ⟨w.heap.size, 1, none⟩ = some (.int .i64 pl) := fun m => (hX5.other (p := ⟨pb, init.length * 5 + 3, none⟩) hne (.int .i64 m)).cell (j := 1) rfl
  have hownA : ∀ m : Int, m = min top.low du → ((w5.setCell ⟨pb, init.length * 5 + 3, none⟩ (.int .i64 m)).alloc (.cells #[.int .i64 pl] 3)).drew.ownsRow a.h0 3 1 (.slice po s.opn.length co) s.opn.length (s.opn.map (Value.int .i64)) := fun m hm => ((tail m hm).go (B := ((w5.setCell ⟨pb, init.length * 5 + 3, none⟩ (.int .i64 m)).alloc (.cells #[.int .i64 pl] 3)).drew) (below_drewN ((Below.refl _ _).alloc (Nat.le_refl _) _) 1)).opn
  have hsz : ∀ m : Int, a.h0 ≤ ((w5.setCell ⟨pb, init.length * 5 + 3, none⟩ (.int .i64 m)).alloc (.cells #[.int .i64 pl] 3)).drew.heap.size := fun m => by
    show a.h0 ≤ ((w5.setCell ⟨pb, init.length * 5 + 3, none⟩ (.int .i64 m)).alloc (.cells #[.int .i64 pl] 3)).heap.size
    simp
    omega
  have Hfin : Hid _ := fin
  have HownA : Hid _ := hownA
  clear b3 p0 p3 x0 t0 t1 h' hX hb1 hbq tail fin hownA
  by_cases hm : du < top.low
  · have b6' := b6 du
    have x1' := x1 du
    have hO1 := HownA.out du (by omega)
    have hs1 := news_one (w5.setCell ⟨pb, init.length * 5 + 3, none⟩ (.int .i64 du)) pl
    rw [hs5] at hs1
    have b7' := b7 du
    have hsz1 := hsz du
    clear b6 x1 hsz b7 hs5
    go_wp2
    go_region_law (refine step_append_src rfl _ _ 27 rfl a.h0 3 i0 (.int .i64 0) 1 8 Try.underlying27 hi hz0 hz1 hz2 rfl (by decide) (.slice po s.opn.length co) s.opn.length (s.opn.map (Value.int .i64)) rfl hO1 (.slice (some ⟨_, 0, none⟩) 1 1) 1 [.int .i64 pl] rfl hs1 (by unfold maxLen; omega) (by omega) hsz1 ?_; intro v8 w8 ho8 hg8 hat8; obtain ⟨a8, m8, k8, rfl⟩ := owns_slice ho8; obtain ⟨z1, z2, z3⟩ := Hfin.out du _ _ (by omega) ho8 hg8 hat8)
    all_goals go_wp2
    all_goals refine bodyPost_end (results_none rfl _ _ _) rfl ?_
    all_goals exact ⟨rfl, z1⟩
  · have b6' := b6 top.low
    have x1' := x1 top.low
    have hO1 := HownA.out top.low (by omega)
    have hs1 := news_one (w5.setCell ⟨pb, init.length * 5 + 3, none⟩ (.int .i64 top.low)) pl
    rw [hs5] at hs1
    have b7' := b7 top.low
    have hsz1 := hsz top.low
    clear b6 x1 hsz b7 hs5
    go_wp2
    go_region_law (refine step_append_src rfl _ _ 27 rfl a.h0 3 i0 (.int .i64 0) 1 8 Try.underlying27 hi hz0 hz1 hz2 rfl (by decide) (.slice po s.opn.length co) s.opn.length (s.opn.map (Value.int .i64)) rfl hO1 (.slice (some ⟨_, 0, none⟩) 1 1) 1 [.int .i64 pl] rfl hs1 (by unfold maxLen; omega) (by omega) hsz1 ?_; intro v8 w8 ho8 hg8 hat8; obtain ⟨a8, m8, k8, rfl⟩ := owns_slice ho8; obtain ⟨z1, z2, z3⟩ := Hfin.out top.low _ _ (by omega) ho8 hg8 hat8)
    all_goals go_wp2
    all_goals refine bodyPost_end (results_none rfl _ _ _) rfl ?_
    all_goals exact ⟨rfl, z1⟩
end Go.Proofs.Ytdgecflljgnobaa
