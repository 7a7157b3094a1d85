/-
  (*walk).look: a link that leads to a new vertex.
-/
import Derived.Deep.QuietTactic
import Derived.Deep.RegionLaw
import Derived.BigQuiet
import Derived.Deep.RegionHeld3
import Derived.Test.YtdgecflljgnobaaXPWalkD
import Derived.Test.YtdgecflljgnobaaXGHeldL
namespace Go.Proofs.Ytdgecflljgnobaa
open Go Go.Proofs Go.RowKit

set_option maxRecDepth 100000 in
set_option maxHeartbeats 4000000 in
theorem look_new (a : Lay) (hL : LayOK a) (lv ov : Value) (s : WS) (init : List Stp) (top : Stp) (pb cap v u : Nat) (pl : Int) (hp : s.path = init ++ [top]) (hv : top.v = (v : Int)) (hvN : v < a.N) (huN : u < a.N) (hD : s.depth.length = a.N) (hRt : s.root.length = a.N) (hF : s.from_.length = a.N) (hP : s.path.length ≤ 1073741824) (h1 : s.depth.getD u 0 < 0) (h2 : 0 ≤ s.depth.getD v 0) (h3 : s.depth.getD v 0 ≤ 1073741824) (w : World) (h : WB a lv (.slice (some ⟨pb, 0, none⟩) s.path.length cap) ov s w) (hA : Apart2 (.slice (some ⟨pb, 0, none⟩) s.path.length cap) ov) :
    Calls Try.prog 51 #[.pointer (some ⟨a.wb, 0, none⟩), .pointer (some ⟨pb, init.length * 5, none⟩), .agg #[.int .i64 (u : Int), .int .i64 pl]] w fun e w' => e = .returned (.tuple #[]) ∧ ∃ pv', WB a lv pv' ov (lookW s init top ((u : Int), pl)) w' ∧ Apart2 pv' ov ∧ Wk a w w' := by
  have hmix := mixed
  have hb1 : Below w.heap.size w (w.alloc (.cells #[.int .i64 (u : Int), .int .i64 pl] 75)) := (Below.refl _ _).alloc (Nat.le_refl _) _
  have hX : Blk 75 (w.alloc (.cells #[.int .i64 (u : Int), .int .i64 pl] 75)) w.heap.size [.int .i64 (u : Int), .int .i64 pl] := heap_alloc_new w _
  have h' := h.go hb1
  have b3 := h'.blk.cell (j := 3) rfl
  obtain ⟨p0, -, -, -, -⟩ := h'.top hp
  rw [hv] at p0
  have x0 := hX.cell (j := 0) rfl
  have hvN' : (v : Int) < (a.N : Int) := by omega
  have huN' : (u : Int) < (a.N : Int) := by omega
  have hne : v ≠ u := fun e => by subst e; omega
  have t0 : (w.alloc (.cells #[.int .i64 (u : Int), .int .i64 pl] 75)).cell? ⟨a.db, v, none⟩ = some (.int .i64 (s.depth.getD v 0)) := h'.dep.cell (by rw [List.getElem?_map, List.getElem?_eq_getElem (by omega)]; simp [show v < s.depth.length by omega])
  have t1 : (w.alloc (.cells #[.int .i64 (u : Int), .int .i64 pl] 75)).cell? ⟨a.db, u, none⟩ = some (.int .i64 (s.depth.getD u 0)) := h'.dep.cell (by rw [List.getElem?_map, List.getElem?_eq_getElem (by omega)]; simp [show u < s.depth.length by omega])
  have HL : Hid (lookW s init top ((u : Int), pl) = { s with root := s.root.set u (s.root.getD v 0), from_ := s.from_.set u (v : Int), depth := s.depth.set u (s.depth.getD v 0 + 1), path := init ++ [top] ++ [⟨(u : Int), pl, 0, s.depth.getD v 0, s.opn.length⟩] }) := by
    unfold Hid lookW at_
    simp only [Int.toNat_natCast, hv]
    rw [if_pos h1]
  generalize hdu : s.depth.getD u 0 = du at *
  generalize hdv : s.depth.getD v 0 = dv at *
  generalize hrv : s.root.getD v 0 = rv at *
  go_enter Try.func51, Try.ntmps51
  go_wp2
  go_quiet (fail)
  have hbq : Below (w.alloc (.cells #[.int .i64 (u : Int), .int .i64 pl] 75)).heap.size (w.alloc (.cells #[.int .i64 (u : Int), .int .i64 pl] 75)) ((w.alloc (.cells #[.int .i64 (u : Int), .int .i64 pl] 75)).drewN nq) := below_drewN (Below.refl _ _) nq
  have hW := h'.go hbq
  have hX5 := hX.go hbq
  have hsw : w.heap.size < ((w.alloc (.cells #[.int .i64 (u : Int), .int .i64 pl] 75)).drewN nq).heap.size := hX5.lt
  have hpb := h.way.lt pb rfl
  have hWk : Wk a w ((w.alloc (.cells #[.int .i64 (u : Int), .int .i64 pl] 75)).drewN nq) := Wk.of_below (n := w.heap.size) (hb1.trans (hbq.mono (by simp))) (by omega)
  generalize (w.alloc (.cells #[.int .i64 (u : Int), .int .i64 pl] 75)).drewN nq = w5 at hW hX5 hWk hsw ⊢
  clear b3 p0 x0 t0 t1 hb1 hbq h' hX
  have c1 := hW.blk.cell (j := 1) rfl
  have c2 := hW.blk.cell (j := 2) rfl
  have c3 := hW.blk.cell (j := 3) rfl
  have x0 := hX5.cell (j := 0) rfl
  obtain ⟨p0, -, -, -, -⟩ := hW.top hp
  rw [hv] at p0
  have r0 : w5.cell? ⟨a.rb, v, none⟩ = some (.int .i64 rv) := hW.root.cell (by rw [List.getElem?_map, List.getElem?_eq_getElem (by omega)]; simp [← hrv, show v < s.root.length by omega])
  obtain ⟨y1, k1⟩ : ∃ z, w5.cell? ⟨a.rb, u, none⟩ = some z := ⟨_, hW.root.cell (by rw [List.getElem?_map, List.getElem?_eq_getElem (by omega)]; rfl)⟩
  obtain ⟨y2, k2⟩ : ∃ z, w5.cell? ⟨a.fb, u, none⟩ = some z := ⟨_, hW.frm.cell (by rw [List.getElem?_map, List.getElem?_eq_getElem (by omega)]; rfl)⟩
  obtain ⟨y3, k3⟩ : ∃ z, w5.cell? ⟨a.db, u, none⟩ = some z := ⟨_, hW.dep.cell (by rw [List.getElem?_map, List.getElem?_eq_getElem (by omega)]; rfl)⟩
  have f1 := hW.root.frozen u
  have f2 := hW.frm.frozen u
  have f3 := hW.dep.frozen u
  have n1 := hL.wr
  have n2 := hL.wf
  have n3 := hL.wd
  have n4 := hL.rf
  have n5 := hL.rd
  have n6 := hL.fd
  have n7 : pb ≠ a.rb := by have := hL.r0; omega
  have n8 : pb ≠ a.fb := by have := hL.f0; omega
  have n9 : pb ≠ a.db := by have := hL.d0; omega
  have m1 : w.heap.size ≠ a.rb := by have := hL.r0; omega
  have m2 : w.heap.size ≠ a.fb := by have := hL.f0; omega
  have m3 : w.heap.size ≠ a.db := by have := hL.d0; omega
  have hT := ((hW.setRoot hL u rv).setFrom hL u (v : Int)).setDepth hL u (dv + 1)
  have hXT := ((hX5.other (p := ⟨a.rb, u, none⟩) m1 (.int .i64 rv)).other (p := ⟨a.fb, u, none⟩) m2 (.int .i64 (v : Int))).other (p := ⟨a.db, u, none⟩) m3 (.int .i64 (dv + 1))
  have hWkT := ((hWk.set (p := ⟨a.rb, u, none⟩) (.inl (.inr (.inl rfl))) (.int .i64 rv)).set (p := ⟨a.fb, u, none⟩) (.inl (.inr (.inr (.inl rfl)))) (.int .i64 (v : Int))).set (p := ⟨a.db, u, none⟩) (.inl (.inr (.inr (.inr (.inl rfl))))) (.int .i64 (dv + 1))
  have HT : Hid _ := hT
  have HXT : Hid _ := hXT
  have HWk : Hid _ := hWkT
  have HN : Hid (w.heap.size < w5.heap.size) := hsw
  have Hpb : Hid _ := hpb
  have Hp : Hid _ := hp
  have Hlen : Hid (s.path.length = init.length + 1) := by unfold Hid; rw [hp]; simp
  clear hT hXT hWkT hWk hX5 hW h hsw hpb hp hdu hdv hrv hD hRt hF hv
  have hwr : IntKind.i64.wrap (dv + 1) = dv + 1 := wrap_i _ (by omega) (by omega)
  go_wp2
  generalize w.heap.size = xb at *
  generalize init.length * 5 = off at *
  refine wp_region_held_drew (S := (fun w' : World => w'.cell? ⟨a.wb, 1, none⟩ = some (.slice (some ⟨a.rb, 0, none⟩) a.N a.N) ∧ w'.cell? ⟨a.wb, 2, none⟩ = some (.slice (some ⟨a.fb, 0, none⟩) a.N a.N) ∧ w'.cell? ⟨a.wb, 3, none⟩ = some (.slice (some ⟨a.db, 0, none⟩) a.N a.N) ∧ w'.cell? ⟨xb, 0, none⟩ = some (.int .i64 (u : Int)) ∧ w'.cell? ⟨pb, off, none⟩ = some (.int .i64 (v : Int)) ∧ w'.cell? ⟨a.rb, v, none⟩ = some (.int .i64 rv))) (by kernel_rfl) ?_ (fun hHeld => ?_)
  · (try dsimp only); go_keep
  refine wpAnyH_take (i := 0) (v := ?_) rfl (by kernel_rfl) (by kernel_rfl) (by kernel_rfl) (fun _ _ _ h => h) (Or.inl ⟨by rfl, ?_⟩) (by assumption) ?_
  rotate_left
  · intro w hSw; (try dsimp only at hSw); go_simp; (try with_reducible rfl)
  try simp only [Act.put, List.setIfInBounds_toArray]
  refine wpAnyH_take (i := 1) (v := ?_) rfl (by kernel_rfl) (by kernel_rfl) (by kernel_rfl) (fun _ _ _ h => h) (Or.inl ⟨by rfl, ?_⟩) (by assumption) ?_
  rotate_left
  · intro w hSw; (try dsimp only at hSw); go_simp; (try with_reducible rfl)
  try simp only [Act.put]
  refine wpAnyH_take (i := 2) (v := ?_) rfl (by kernel_rfl) (by kernel_rfl) (by kernel_rfl) (fun _ _ _ h => h) (Or.inl ⟨by rfl, ?_⟩) (by assumption) ?_
  rotate_left
  · intro w hSw; (try dsimp only at hSw); go_simp; (try with_reducible rfl)
  try simp only [Act.put]
  refine wpAnyH_take (i := 3) (v := ?_) rfl (by kernel_rfl) (by kernel_rfl) (by kernel_rfl) (fun _ _ _ h => h) (Or.inl ⟨by rfl, ?_⟩) (by assumption) ?_
  rotate_left
  · intro w hSw; (try dsimp only at hSw); go_simp; (try with_reducible rfl)
  try simp only [Act.put]
  refine wpAnyH_take (i := 4) (v := ?_) rfl (by kernel_rfl) (by kernel_rfl) (by kernel_rfl) (fun _ _ _ h => h) (Or.inl ⟨by rfl, ?_⟩) (by assumption) ?_
  rotate_left
  · intro w hSw; (try dsimp only at hSw); go_simp; (try with_reducible rfl)
  try simp only [Act.put]
  refine wpAnyH_take (i := 5) (v := ?_) rfl (by kernel_rfl) (by kernel_rfl) (by kernel_rfl) (fun _ _ _ h => h) (Or.inl ⟨by rfl, ?_⟩) (by assumption) ?_
  rotate_left
  · intro w hSw; (try dsimp only at hSw); go_simp; (try with_reducible rfl)
  try simp only [Act.put]
  refine wpAnyH_take (i := 6) (v := ?_) rfl (by kernel_rfl) (by kernel_rfl) (by kernel_rfl) (fun _ _ _ h => h) (Or.inl ⟨by rfl, ?_⟩) (by assumption) ?_
  rotate_left
  · intro w hSw; (try dsimp only at hSw); go_simp; (try with_reducible rfl)
  try simp only [Act.put]
  refine wpAnyH_take (i := 7) (v := ?_) rfl (by kernel_rfl) (by kernel_rfl) (by kernel_rfl) (fun _ _ _ h => h) (Or.inl ⟨by rfl, ?_⟩) (by assumption) ?_
  rotate_left
  · intro w hSw; (try dsimp only at hSw); go_simp; (try with_reducible rfl)
  try simp only [Act.put]
  refine wpAnyH_take (i := 8) (v := ?_) rfl (by kernel_rfl) (by kernel_rfl) (by kernel_rfl) (fun _ _ _ h => h) (Or.inl ⟨by rfl, ?_⟩) (by assumption) ?_
  rotate_left
  · intro w hSw; (try dsimp only at hSw); go_simp; (try with_reducible rfl)
  try simp only [Act.put]
  refine wpAnyH_take (i := 9) (v := ?_) rfl (by kernel_rfl) (by kernel_rfl) (by kernel_rfl) (fun _ _ _ h => h) (Or.inl ⟨by rfl, ?_⟩) (by assumption) ?_
  rotate_left
  · intro w hSw; (try dsimp only at hSw); go_simp; (try with_reducible rfl)
  try simp only [Act.put]
  refine wpAnyH_take (i := 10) (v := ?_) rfl (by kernel_rfl) (by kernel_rfl) (by kernel_rfl) (fun _ _ _ h => h) (Or.inl ⟨by rfl, ?_⟩) (by assumption) ?_
  rotate_left
  · intro w hSw; (try dsimp only at hSw); go_simp; (try with_reducible rfl)
  try simp only [Act.put]
  refine wpAnyH_take (i := 11) (v := ?_) rfl (by kernel_rfl) (by kernel_rfl) (by kernel_rfl) (fun _ _ _ h => h) (Or.inl ⟨by rfl, ?_⟩) (by assumption) ?_
  rotate_left
  · intro w hSw; (try dsimp only at hSw); go_simp; (try with_reducible rfl)
  try simp only [Act.put]
  refine wpAnyH_take (i := 12) (v := ?_) rfl (by kernel_rfl) (by kernel_rfl) (by kernel_rfl) (fun _ _ _ h => h) (Or.inl ⟨by rfl, ?_⟩) (by assumption) ?_
  rotate_left
  · intro w hSw; (try dsimp only at hSw); go_simp; (try with_reducible rfl)
  try simp only [Act.put]
  refine wpAnyH_take (i := 13) (v := ?_) rfl (by kernel_rfl) (by kernel_rfl) (by kernel_rfl) (fun _ _ _ h => h) (Or.inl ⟨by rfl, ?_⟩) (by assumption) ?_
  rotate_left
  · intro w hSw; (try dsimp only at hSw); go_simp; (try with_reducible rfl)
  try simp only [Act.put]
  refine wpAnyH_take (i := 14) (v := ?_) rfl (by kernel_rfl) (by kernel_rfl) (by kernel_rfl) (fun _ _ _ h => h) (Or.inl ⟨by rfl, ?_⟩) (by assumption) ?_
  rotate_left
  · intro w hSw; (try dsimp only at hSw); go_simp; (try with_reducible rfl)
  try simp only [Act.put]
  refine wpAnyH_take (i := 15) (v := ?_) rfl (by kernel_rfl) (by kernel_rfl) (by kernel_rfl) (fun _ _ _ h => h) (Or.inl ⟨by rfl, ?_⟩) (by assumption) ?_
  rotate_left
  · intro w hSw; (try dsimp only at hSw); go_simp; (try with_reducible rfl)
  try simp only [Act.put]
  refine wpAnyH_take (i := 16) (v := ?_) rfl (by kernel_rfl) (by kernel_rfl) (by kernel_rfl) (fun _ _ _ h => h) (Or.inl ⟨by rfl, ?_⟩) (by assumption) ?_
  rotate_left
  · intro w hSw; (try dsimp only at hSw); go_simp; (try with_reducible rfl)
  try simp only [Act.put]
  refine wpAnyH_take (i := 17) (v := ?_) rfl (by kernel_rfl) (by kernel_rfl) (by kernel_rfl) (fun _ _ _ h => h) (Or.inl ⟨by rfl, ?_⟩) (by assumption) ?_
  rotate_left
  · intro w hSw; (try dsimp only at hSw); go_simp; (try with_reducible rfl)
  try simp only [Act.put]
  refine wpAnyH_take (i := 18) (v := ?_) rfl (by kernel_rfl) (by kernel_rfl) (by kernel_rfl) (fun _ _ _ h => h) (Or.inl ⟨by rfl, ?_⟩) (by assumption) ?_
  rotate_left
  · intro w hSw; (try dsimp only at hSw); go_simp; (try with_reducible rfl)
  try simp only [Act.put]
  refine wpAnyH_take (i := 19) (v := ?_) rfl (by kernel_rfl) (by kernel_rfl) (by kernel_rfl) (fun _ _ _ h => h) (Or.inl ⟨by rfl, ?_⟩) (by assumption) ?_
  rotate_left
  · intro w hSw; (try dsimp only at hSw); go_simp; (try with_reducible rfl)
  try simp only [Act.put]
  refine wpAnyH_take (i := 20) (v := ?_) rfl (by kernel_rfl) (by kernel_rfl) (by kernel_rfl) (fun _ _ _ h => h) (Or.inl ⟨by rfl, ?_⟩) (by assumption) ?_
  rotate_left
  · intro w hSw; (try dsimp only at hSw); go_simp; (try with_reducible rfl)
  try simp only [Act.put]
  refine wpAnyH_take (i := 21) (v := ?_) rfl (by kernel_rfl) (by kernel_rfl) (by kernel_rfl) (fun _ _ _ h => h) (Or.inl ⟨by rfl, ?_⟩) (by assumption) ?_
  rotate_left
  · intro w hSw; (try dsimp only at hSw); go_simp; (try with_reducible rfl)
  try simp only [Act.put]
  refine wpAnyH_take (i := 22) (v := ?_) rfl (by kernel_rfl) (by kernel_rfl) (by kernel_rfl) (fun _ _ _ h => h) (Or.inl ⟨by rfl, ?_⟩) (by assumption) ?_
  rotate_left
  · intro w hSw; (try dsimp only at hSw); go_simp; (try with_reducible rfl)
  try simp only [Act.put]
  refine wpAnyH_take (i := 23) (v := ?_) rfl (by kernel_rfl) (by kernel_rfl) (by kernel_rfl) (fun _ _ _ h => h) (Or.inl ⟨by rfl, ?_⟩) (by assumption) ?_
  rotate_left
  · intro w hSw; (try dsimp only at hSw); go_simp; (try with_reducible rfl)
  try simp only [Act.put]
  refine wpAnyH_take (i := 24) (v := ?_) rfl (by kernel_rfl) (by kernel_rfl) (by kernel_rfl) (fun _ _ _ h => h) (Or.inl ⟨by rfl, ?_⟩) (by assumption) ?_
  rotate_left
  · intro w hSw; (try dsimp only at hSw); go_simp; (try with_reducible rfl)
  try simp only [Act.put]
  refine wpAnyH_take (i := 25) (v := ?_) rfl (by kernel_rfl) (by kernel_rfl) (by kernel_rfl) (fun _ _ _ h => h) (Or.inl ⟨by rfl, ?_⟩) (by assumption) ?_
  rotate_left
  · intro w hSw; (try dsimp only at hSw); go_simp; (try with_reducible rfl)
  try simp only [Act.put]
  refine wpAnyH_take (i := 26) (v := ?_) rfl (by kernel_rfl) (by kernel_rfl) (by kernel_rfl) (fun _ _ _ h => h) (Or.inl ⟨by rfl, ?_⟩) (by assumption) ?_
  rotate_left
  · intro w hSw; (try dsimp only at hSw); go_simp; (try with_reducible rfl)
  try simp only [Act.put]
  refine wpAnyH_take (i := 27) (v := ?_) rfl (by kernel_rfl) (by kernel_rfl) (by kernel_rfl) (fun _ _ _ h => h) (Or.inl ⟨by rfl, ?_⟩) (by assumption) ?_
  rotate_left
  · intro w hSw; (try dsimp only at hSw); go_simp; (try with_reducible rfl)
  try simp only [Act.put]
  refine wpAnyH_take (i := 28) (v := ?_) rfl (by kernel_rfl) (by kernel_rfl) (by kernel_rfl) (fun _ _ _ h => h) (Or.inl ⟨by rfl, ?_⟩) (by assumption) ?_
  rotate_left
  · intro w hSw; (try dsimp only at hSw); go_simp; (try with_reducible rfl)
  try simp only [Act.put]
  refine wpAnyH_take (i := 29) (v := ?_) rfl (by kernel_rfl) (by kernel_rfl) (by kernel_rfl) (fun _ _ _ h => h) (Or.inl ⟨by rfl, ?_⟩) (by assumption) ?_
  rotate_left
  · intro w hSw; (try dsimp only at hSw); go_simp; (try with_reducible rfl)
  try simp only [Act.put]
  refine wpAnyH_take (i := 30) (v := ?_) rfl (by kernel_rfl) (by kernel_rfl) (by kernel_rfl) (fun _ _ _ h => h) (Or.inl ⟨by rfl, ?_⟩) (by assumption) ?_
  rotate_left
  · intro w hSw; (try dsimp only at hSw); go_simp; (try with_reducible rfl)
  try simp only [Act.put]
  refine wpAnyH_take (i := 31) (v := ?_) rfl (by kernel_rfl) (by kernel_rfl) (by kernel_rfl) (fun _ _ _ h => h) (Or.inl ⟨by rfl, ?_⟩) (by assumption) ?_
  rotate_left
  · intro w hSw; (try dsimp only at hSw); go_simp; (try with_reducible rfl)
  try simp only [Act.put]
  refine wpAnyH_take (i := 32) (v := ?_) rfl (by kernel_rfl) (by kernel_rfl) (by kernel_rfl) (fun _ _ _ h => h) (Or.inl ⟨by rfl, ?_⟩) (by assumption) ?_
  rotate_left
  · intro w hSw; (try dsimp only at hSw); go_simp; (try with_reducible rfl)
  try simp only [Act.put]
  refine wpAnyH_take (i := 33) (v := ?_) rfl (by kernel_rfl) (by kernel_rfl) (by kernel_rfl) (fun _ _ _ h => h) (Or.inl ⟨by rfl, ?_⟩) (by assumption) ?_
  rotate_left
  · intro w hSw; (try dsimp only at hSw); go_simp; (try with_reducible rfl)
  try simp only [Act.put]
  refine wpAnyH_ready (rs := [34]) (by kernel_rfl) (by simp) ?_
  refine AllReadyH.cons rfl (fun K hK => ?_) AllReadyH.nil
  go_simp
  refine hK.out _ _ ?_ (fun hHeld => ?_)
  · (try dsimp only); first | (go_keep; done) | ((repeat' apply And.intro) <;> go_simp)
  clear hK K
  try simp only [Act.put, List.setIfInBounds_toArray, List.set_cons_zero, List.set_cons_succ]
  refine wpAnyH_ready (rs := [35]) (by kernel_rfl) (by simp) ?_
  refine AllReadyH.cons rfl (fun K hK => ?_) AllReadyH.nil
  go_simp
  refine hK.out _ _ ?_ (fun hHeld => ?_)
  · (try dsimp only); first | (go_keep; done) | ((repeat' apply And.intro) <;> go_simp)
  clear hK K
  try simp only [Act.put, List.setIfInBounds_toArray, List.set_cons_zero, List.set_cons_succ]
  refine wpAnyH_ready (rs := [36]) (by kernel_rfl) (by simp) ?_
  refine AllReadyH.cons rfl (fun K hK => ?_) AllReadyH.nil
  go_simp
  refine hK.out _ _ ?_ (fun hHeld => ?_)
  · (try dsimp only); first | (go_keep; done) | ((repeat' apply And.intro) <;> go_simp)
  clear hK K
  try simp only [Act.put, List.setIfInBounds_toArray, List.set_cons_zero, List.set_cons_succ]
  refine wpAnyH_ready (rs := [37]) (by kernel_rfl) (by simp) ?_
  refine AllReadyH.cons rfl (fun K hK => ?_) AllReadyH.nil
  go_simp
  refine hK.out _ _ ?_ (fun hHeld => ?_)
  · (try dsimp only); first | (go_keep; done) | ((repeat' apply And.intro) <;> go_simp)
  clear hK K
  try simp only [Act.put, List.setIfInBounds_toArray, List.set_cons_zero, List.set_cons_succ]
  refine wpAnyH_ready (rs := [38]) (by kernel_rfl) (by simp) ?_
  refine AllReadyH.cons rfl (fun K hK => ?_) AllReadyH.nil
  go_simp
  refine hK.out _ _ ?_ (fun hHeld => ?_)
  · (try dsimp only); first | (go_keep; done) | ((repeat' apply And.intro) <;> go_simp)
  clear hK K
  try simp only [Act.put, List.setIfInBounds_toArray, List.set_cons_zero, List.set_cons_succ]
  refine wpAnyH_ready (rs := [39]) (by kernel_rfl) (by simp) ?_
  refine AllReadyH.cons rfl (fun K hK => ?_) AllReadyH.nil
  go_simp
  refine hK.out _ _ ?_ (fun hHeld => ?_)
  · (try dsimp only); first | (go_keep; done) | ((repeat' apply And.intro) <;> go_simp)
  clear hK K
  try simp only [Act.put, List.setIfInBounds_toArray, List.set_cons_zero, List.set_cons_succ]
  refine wpAnyH_done (by kernel_rfl) ?_ _
  have hW6 := HT.out.go (B := (((w5.setCell ⟨a.rb, u, none⟩ (.int .i64 rv)).setCell ⟨a.fb, u, none⟩ (.int .i64 (v : Int))).setCell ⟨a.db, u, none⟩ (.int .i64 (dv + 1))).drew) (below_drewN (Below.refl _ _) 1)
  have hX6 : Blk 75 (((w5.setCell ⟨a.rb, u, none⟩ (.int .i64 rv)).setCell ⟨a.fb, u, none⟩ (.int .i64 (v : Int))).setCell ⟨a.db, u, none⟩ (.int .i64 (dv + 1))).drew xb [.int .i64 (u : Int), .int .i64 pl] := HXT.out
  have hk6 : Wk a w (((w5.setCell ⟨a.rb, u, none⟩ (.int .i64 rv)).setCell ⟨a.fb, u, none⟩ (.int .i64 (v : Int))).setCell ⟨a.db, u, none⟩ (.int .i64 (dv + 1))).drew := ⟨HWk.out.os, HWk.out.tape, HWk.out.output, HWk.out.size, HWk.out.block⟩
  have hs6 : xb < (((w5.setCell ⟨a.rb, u, none⟩ (.int .i64 rv)).setCell ⟨a.fb, u, none⟩ (.int .i64 (v : Int))).setCell ⟨a.db, u, none⟩ (.int .i64 (dv + 1))).drew.heap.size := hX6.lt
  generalize (((w5.setCell ⟨a.rb, u, none⟩ (.int .i64 rv)).setCell ⟨a.fb, u, none⟩ (.int .i64 (v : Int))).setCell ⟨a.db, u, none⟩ (.int .i64 (dv + 1))).drew = w6 at hW6 hX6 hk6 hs6 ⊢
  clear HT HXT HWk hHeld c1 c2 c3 x0 p0 r0 k1 k2 k3 f1 f2 f3 n1 n2 n3 n4 n5 n6 n7 n8 n9 m1 m2 m3 HN
  have hxne : xb ≠ a.wb := by have := Hpb.out; have := hL.w0; omega
  have b5 := hW6.blk.cell (j := 5) rfl
  have b6 := hW6.blk.cell (j := 6) rfl
  have x0 := hX6.cell (j := 0) rfl
  have x1 := hX6.cell (j := 1) rfl
  obtain ⟨po, co, rfl⟩ := owns_formP hW6.opn
  obtain ⟨i0, hi, hz0, hz1, hz2⟩ := info_parts infoSt
  have hnw := news_step' w6.drew (.int .i64 (u : Int)) (.int .i64 pl) (.int .i64 0) (.int .i64 dv) (.int .i64 (s.opn.length : Int)) rfl rfl rfl rfl rfl
  have hb7 : Below w6.heap.size w6 (w6.drew.alloc (.cells #[.int .i64 (u : Int), .int .i64 pl, .int .i64 0, .int .i64 dv, .int .i64 (s.opn.length : Int)] 77)) := (below_drewN (Below.refl _ _) 1).alloc (Nat.le_refl _) _
  have hW7 := hW6.go hb7
  have hown := hW7.way
  have hs7 : a.h0 ≤ (w6.drew.alloc (.cells #[.int .i64 (u : Int), .int .i64 pl, .int .i64 0, .int .i64 dv, .int .i64 (s.opn.length : Int)] 77)).heap.size := by
    have := hb7.size; have := Hpb.out; omega
  have fin : ∀ (v8 : Value) (w8 : World), w8.ownsRow a.h0 77 5 v8 (s.path.length + 1) (flatP s.path ++ [.int .i64 (u : Int), .int .i64 pl, .int .i64 0, .int .i64 dv, .int .i64 (s.opn.length : Int)]) → (w6.drew.alloc (.cells #[.int .i64 (u : Int), .int .i64 pl, .int .i64 0, .int .i64 dv, .int .i64 (s.opn.length : Int)] 77)).grownBy w8 (Value.slice (some ⟨pb, 0, none⟩) s.path.length cap).ownBlock → (v8.ownBlock = (Value.slice (some ⟨pb, 0, none⟩) s.path.length cap).ownBlock ∨ v8.ownBlock = some (w6.drew.alloc (.cells #[.int .i64 (u : Int), .int .i64 pl, .int .i64 0, .int .i64 dv, .int .i64 (s.opn.length : Int)] 77)).heap.size) → (∃ pv', WB a lv pv' (.slice po s.opn.length co) (lookW s init top ((u : Int), pl)) (w8.setCell ⟨a.wb, 5, none⟩ v8) ∧ Apart2 pv' (.slice po s.opn.length co) ∧ Wk a w (w8.setCell ⟨a.wb, 5, none⟩ v8)) ∧ (w8.cell? ⟨a.wb, 5, none⟩ = some (.slice (some ⟨pb, 0, none⟩) s.path.length cap) ∧ w8.cell? ⟨a.wb, 6, none⟩ = some (.slice po s.opn.length co) ∧ w8.cell? ⟨xb, 0, none⟩ = some (.int .i64 (u : Int)) ∧ w8.cell? ⟨xb, 1, none⟩ = some (.int .i64 pl)) ∧ w8.frozen? ⟨a.wb, 5, none⟩ = false := fun v8 w8 ho hg hat => by
    have hlow : ∀ k, (Value.slice (some ⟨pb, 0, none⟩) s.path.length cap).ownBlock = some k → a.h0 ≤ k := fun k e => (hW7.way.lt k e).1
    have hS := hW7.setPth (P := s.path ++ [⟨(u : Int), pl, 0, dv, s.opn.length⟩]) hL hA hg hlow (by rw [List.length_append, flatP_app]; exact ho)
    have hb8 : Blk 61 w8 a.wb (cellsW a lv (.slice (some ⟨pb, 0, none⟩) s.path.length cap) (.slice po s.opn.length co)) := (hg.block a.wb hW7.blk.lt (fun e => by have := hlow a.wb e.symm; have := hL.w0; omega)).trans hW7.blk
    have hX7 := hX6.go hb7
    have hX8 : Blk 75 w8 xb [.int .i64 (u : Int), .int .i64 pl] := (hg.block xb hX7.lt (fun e => by have h1 : some xb = some pb := e; have := Hpb.out; simp at h1; omega)).trans hX7
    refine ⟨⟨v8, ?_, apart_grown hA hat (fun k e => (hW7.opn.lt k e).2), ((hk6.trans (Wk.of_below hb7 (by have := Hpb.out; omega))).trans (Wk.grown hg hs7 hlow)).set (p := ⟨a.wb, 5, none⟩) (.inl (.inl rfl)) _⟩, ⟨hb8.cell (j := 5) rfl, hb8.cell (j := 6) rfl, hX8.cell (j := 0) rfl, hX8.cell (j := 1) rfl⟩, hb8.frozen 5⟩
    rw [HL.out, ← Hp.out]
    exact hS
  have Hfin : Hid _ := fin
  have Hown : Hid _ := hown
  have Hnw : Hid _ := hnw
  have Hs7 : Hid _ := hs7
  clear fin hW6 hW7 hb7 hX6 hk6 hown hnw hs7
  go_wp2
  refine wp_region_last (S := (fun w' : World => w'.cell? ⟨a.wb, 5, none⟩ = some (.slice (some ⟨pb, 0, none⟩) s.path.length cap) ∧ w'.cell? ⟨a.wb, 6, none⟩ = some (.slice po s.opn.length co) ∧ w'.cell? ⟨xb, 0, none⟩ = some (.int .i64 (u : Int)) ∧ w'.cell? ⟨xb, 1, none⟩ = some (.int .i64 pl))) (by kernel_rfl) ?_ (fun hHeld => ?_)
  · (try dsimp only); go_keep
  refine wpAnyL_take (i := 0) (v := ?_) rfl (by kernel_rfl) (by kernel_rfl) (by kernel_rfl) (by kernel_rfl) (fun _ _ _ h => h) (Or.inl ⟨by rfl, ?_⟩) (by assumption) ?_
  rotate_left
  · intro w hSw; (try dsimp only at hSw); go_simp; (try with_reducible rfl)
  try simp only [Act.put, List.setIfInBounds_toArray]
  refine wpAnyL_take (i := 1) (v := ?_) rfl (by kernel_rfl) (by kernel_rfl) (by kernel_rfl) (by kernel_rfl) (fun _ _ _ h => h) (Or.inl ⟨by rfl, ?_⟩) (by assumption) ?_
  rotate_left
  · intro w hSw; (try dsimp only at hSw); go_simp; (try with_reducible rfl)
  try simp only [Act.put]
  refine wpAnyL_take (i := 2) (v := ?_) rfl (by kernel_rfl) (by kernel_rfl) (by kernel_rfl) (by kernel_rfl) (fun _ _ _ h => h) (Or.inl ⟨by rfl, ?_⟩) (by assumption) ?_
  rotate_left
  · intro w hSw; (try dsimp only at hSw); go_simp; (try with_reducible rfl)
  try simp only [Act.put]
  refine wpAnyL_take (i := 3) (v := ?_) rfl (by kernel_rfl) (by kernel_rfl) (by kernel_rfl) (by kernel_rfl) (fun _ _ _ h => h) (Or.inl ⟨by rfl, ?_⟩) (by assumption) ?_
  rotate_left
  · intro w hSw; (try dsimp only at hSw); go_simp; (try with_reducible rfl)
  try simp only [Act.put]
  refine wpAnyL_take (i := 4) (v := ?_) rfl (by kernel_rfl) (by kernel_rfl) (by kernel_rfl) (by kernel_rfl) (fun _ _ _ h => h) (Or.inl ⟨by rfl, ?_⟩) (by assumption) ?_
  rotate_left
  · intro w hSw; (try dsimp only at hSw); go_simp; (try with_reducible rfl)
  try simp only [Act.put]
  refine wpAnyL_take (i := 5) (v := ?_) rfl (by kernel_rfl) (by kernel_rfl) (by kernel_rfl) (by kernel_rfl) (fun _ _ _ h => h) (Or.inl ⟨by rfl, ?_⟩) (by assumption) ?_
  rotate_left
  · intro w hSw; (try dsimp only at hSw); go_simp; (try with_reducible rfl)
  try simp only [Act.put]
  refine wpAnyL_take (i := 6) (v := ?_) rfl (by kernel_rfl) (by kernel_rfl) (by kernel_rfl) (by kernel_rfl) (fun _ _ _ h => h) (Or.inl ⟨by rfl, ?_⟩) (by assumption) ?_
  rotate_left
  · intro w hSw; (try dsimp only at hSw); go_simp; (try with_reducible rfl)
  try simp only [Act.put]
  refine wpAnyL_take (i := 7) (v := ?_) rfl (by kernel_rfl) (by kernel_rfl) (by kernel_rfl) (by kernel_rfl) (fun _ _ _ h => h) (Or.inl ⟨by rfl, ?_⟩) (by assumption) ?_
  rotate_left
  · intro w hSw; (try dsimp only at hSw); go_simp; (try with_reducible rfl)
  try simp only [Act.put]
  refine wpAnyL_take (i := 8) (v := ?_) rfl (by kernel_rfl) (by kernel_rfl) (by kernel_rfl) (by kernel_rfl) (fun _ _ _ h => h) (Or.inl ⟨by rfl, ?_⟩) (by assumption) ?_
  rotate_left
  · intro w hSw; (try dsimp only at hSw); go_simp; (try with_reducible rfl)
  try simp only [Act.put]
  refine wpAnyL_take (i := 9) (v := ?_) rfl (by kernel_rfl) (by kernel_rfl) (by kernel_rfl) (by kernel_rfl) (fun _ _ _ h => h) (Or.inl ⟨by rfl, ?_⟩) (by assumption) ?_
  rotate_left
  · intro w hSw; (try dsimp only at hSw); go_simp; (try with_reducible rfl)
  try simp only [Act.put]
  refine wpAnyL_take (i := 10) (v := ?_) rfl (by kernel_rfl) (by kernel_rfl) (by kernel_rfl) (by kernel_rfl) (fun _ _ _ h => h) (Or.inl ⟨by rfl, ?_⟩) (by assumption) ?_
  rotate_left
  · intro w hSw; (try dsimp only at hSw); go_simp; (try with_reducible rfl)
  try simp only [Act.put]
  refine wpAnyL_take (i := 11) (v := ?_) rfl (by kernel_rfl) (by kernel_rfl) (by kernel_rfl) (by kernel_rfl) (fun _ _ _ h => h) (Or.inl ⟨by rfl, ?_⟩) (by assumption) ?_
  rotate_left
  · intro w hSw; (try dsimp only at hSw); go_simp; (try with_reducible rfl)
  try simp only [Act.put]
  refine wpAnyL_take (i := 12) (v := ?_) rfl (by kernel_rfl) (by kernel_rfl) (by kernel_rfl) (by kernel_rfl) (fun _ _ _ h => h) (Or.inl ⟨by rfl, ?_⟩) (by assumption) ?_
  rotate_left
  · intro w hSw; (try dsimp only at hSw); go_simp; (try with_reducible rfl)
  try simp only [Act.put]
  refine wpAnyL_take (i := 13) (v := ?_) rfl (by kernel_rfl) (by kernel_rfl) (by kernel_rfl) (by kernel_rfl) (fun _ _ _ h => h) (Or.inl ⟨by rfl, ?_⟩) (by assumption) ?_
  rotate_left
  · intro w hSw; (try dsimp only at hSw); go_simp; (try with_reducible rfl)
  try simp only [Act.put]
  refine wpAnyL_take (i := 14) (v := ?_) rfl (by kernel_rfl) (by kernel_rfl) (by kernel_rfl) (by kernel_rfl) (fun _ _ _ h => h) (Or.inl ⟨by rfl, ?_⟩) (by assumption) ?_
  rotate_left
  · intro w hSw; (try dsimp only at hSw); go_simp; (try with_reducible rfl)
  try simp only [Act.put]
  refine wpAnyL_take (i := 15) (v := ?_) rfl (by kernel_rfl) (by kernel_rfl) (by kernel_rfl) (by kernel_rfl) (fun _ _ _ h => h) (Or.inl ⟨by rfl, ?_⟩) (by assumption) ?_
  rotate_left
  · intro w hSw; (try dsimp only at hSw); go_simp; (try with_reducible rfl)
  try simp only [Act.put]
  refine wpAnyL_ready (rs := [16]) (by kernel_rfl) (by simp) ?_
  refine AllReadyL.cons rfl (fun K hK => ?_) AllReadyL.nil
  go_simp
  refine hK.out _ _ ?_ (fun hHeld => ?_)
  · (try dsimp only); first | (go_keep; done) | ((repeat' apply And.intro) <;> go_simp)
  clear hK K
  try simp only [Act.put, List.setIfInBounds_toArray, List.set_cons_zero, List.set_cons_succ]
  refine wpAnyL_ready (rs := [17]) (by kernel_rfl) (by simp) ?_
  refine AllReadyL.cons rfl (fun K hK => ?_) AllReadyL.nil
  refine step_append_src rfl _ _ 59 rfl a.h0 77 i0 (.agg #[.int .i64 0, .int .i64 0, .int .i64 0, .int .i64 0, .int .i64 0]) 5 40 Try.underlying59 hi hz0 hz1 hz2 rfl (by decide) (.slice (some ⟨pb, 0, none⟩) s.path.length cap) s.path.length (flatP s.path) rfl Hown.out (.slice (some ⟨_, 0, none⟩) 1 1) 1 [.int .i64 (u : Int), .int .i64 pl, .int .i64 0, .int .i64 dv, .int .i64 (s.opn.length : Int)] rfl Hnw.out (by unfold maxLen; omega) (by omega) Hs7.out ?_
  intro v8 w8 ho8 hg8 hat8
  obtain ⟨a8, m8, k8, rfl⟩ := owns_slice ho8
  obtain ⟨z1, z2, z3⟩ := Hfin.out _ _ ho8 hg8 hat8
  refine hK.out _ _ z2 (fun hHeld => ?_)
  clear hK K ho8 hg8 hat8
  obtain ⟨z4, -, -, -⟩ := z2
  try simp only [Act.put, List.setIfInBounds_toArray]
  refine wpAnyL_take (i := 18) (v := ?_) rfl (by kernel_rfl) (by kernel_rfl) (by kernel_rfl) (by kernel_rfl) (fun _ _ _ h => h) (Or.inl ⟨by rfl, ?_⟩) (by assumption) ?_
  rotate_left
  · intro w hSw; (try dsimp only at hSw); go_simp; (try with_reducible rfl)
  try simp only [Act.put]
  refine wpAnyL_take (i := 19) (v := ?_) rfl (by kernel_rfl) (by kernel_rfl) (by kernel_rfl) (by kernel_rfl) (fun _ _ _ h => h) (Or.inl ⟨by rfl, ?_⟩) (by assumption) ?_
  rotate_left
  · intro w hSw; (try dsimp only at hSw); go_simp; (try with_reducible rfl)
  try simp only [Act.put]
  refine wpAnyL_ready (rs := [20]) (by kernel_rfl) (by simp) ?_
  refine AllReadyL.last rfl (by kernel_rfl) (fun K hK => ?_)
  go_simp
  refine hK.out _ _ ?_
  clear hK K
  try simp only [Act.put, List.setIfInBounds_toArray, List.set_cons_zero, List.set_cons_succ]
  refine wpAnyL_done (by kernel_rfl) ?_ _
  go_wp2
  refine bodyPost_end (results_none rfl _ _ _) rfl ?_
  exact ⟨rfl, z1⟩
end Go.Proofs.Ytdgecflljgnobaa
