/-
  The contract of paths.newSearch.
-/
import Derived.Deep.OwnRows
import Derived.Test.YthdhimcaojfcnaaGreatXWaMem
import Derived.Test.YthdhimcaojfcnaaGreatXGEach
namespace Go.Proofs.YthdhimcaojfcnaaGreat
open Go Go.Proofs Go.RowKit

def rowZW (n : Nat) : List Value := (List.replicate n (0 : Int)).map (Value.int .i64)
theorem rowZW_made (n : Nat) : (madeCells #[Value.int .i64 0] n).toList = rowZW n := by
  have := ints_madeW n
  rw [Nat.mul_one] at this
  exact this
theorem infoL : (Tryz.prog.info? 2).map (fun i => (i.zero, i.size, i.bytes)) = some (some (.int .i64 0), 1, 8) := by kernel_rfl
/-- What has been made: the places (2), the distances (5), the last edges (8). -/
structure JN (N : Nat) (L : List Eg) (n1 : Nat) (ds : List Nat) (x2 x5 x8 : Value) (b2 h2 b5 b8 : Nat) (W : World) : Prop where
  a : 2 ∈ ds → x2 = .slice (some ⟨b2, 0, none⟩) N N ∧ ATI b2 h2 b2 N (plW L L.length) W ∧ n1 ≤ b2 ∧ h2 ≤ W.heap.size
  d : 5 ∈ ds → x5 = .slice (some ⟨b5, 0, none⟩) N N ∧ Blk 2 W b5 (rowZW N) ∧ n1 ≤ b5
  v : 8 ∈ ds → x8 = .slice (some ⟨b8, 0, none⟩) N N ∧ Blk 3 W b8 (rowZW N) ∧ n1 ≤ b8
  dv : 5 ∈ ds → 8 ∈ ds → b5 ≠ b8
  ad : 2 ∈ ds → 5 ∈ ds → ¬ (b2 ≤ b5 ∧ b5 < h2)
  av : 2 ∈ ds → 8 ∈ ds → ¬ (b2 ≤ b8 ∧ b8 < h2)
theorem JN.nil (N : Nat) (L : List Eg) (n1 : Nat) (x2 x5 x8 : Value) (b2 h2 b5 b8 : Nat) (W : World) : JN N L n1 [] x2 x5 x8 b2 h2 b5 b8 W :=
  ⟨fun h => by simp at h, fun h => by simp at h, fun h => by simp at h, fun h => by simp at h, fun h => by simp at h, fun h => by simp at h⟩
theorem JN.go {N : Nat} {L : List Eg} {n1 : Nat} {d : List Nat} {x2 x5 x8 : Value} {b2 h2 b5 b8 : Nat} {W W' : World} (h : JN N L n1 d x2 x5 x8 b2 h2 b5 b8 W) (hb : Below W.heap.size W W') : JN N L n1 d x2 x5 x8 b2 h2 b5 b8 W' :=
  ⟨fun h2' => by obtain ⟨a, b, c, e⟩ := h.a h2'; exact ⟨a, b.keep fun k _ hk => hb.block k (by omega), c, Nat.le_trans e hb.size⟩,
   fun h5 => by obtain ⟨a, b, c⟩ := h.d h5; exact ⟨a, b.go hb, c⟩, fun h8 => by obtain ⟨a, b, c⟩ := h.v h8; exact ⟨a, b.go hb, c⟩, h.dv, h.ad, h.av⟩
theorem JN.addA {N : Nat} {L : List Eg} {n1 : Nat} {d : List Nat} {x2 x5 x8 : Value} {b2 h2 b5 b8 : Nat} {W W' : World} (h : JN N L n1 d x2 x5 x8 b2 h2 b5 b8 W) (hb : Below W.heap.size W W') {h0 : Nat} (hh : W.heap.size ≤ h0) (hn : n1 ≤ W.heap.size) (hA : ATI h0 W'.heap.size h0 N (plW L L.length) W') : JN N L n1 (2 :: d) (.slice (some ⟨h0, 0, none⟩) N N) x5 x8 h0 W'.heap.size b5 b8 W' := by
  have hg := h.go hb
  refine ⟨fun _ => ⟨rfl, hA, by omega, Nat.le_refl _⟩, fun h5 => hg.d (by simpa using h5), fun h8 => hg.v (by simpa using h8), fun h5 h8 => hg.dv (by simpa using h5) (by simpa using h8), fun _ h5 hx => ?_, fun _ h8 hx => ?_⟩
  · have := (h.d (by simpa using h5)).2.1.lt; omega
  · have := (h.v (by simpa using h8)).2.1.lt; omega
theorem JN.addD {N : Nat} {L : List Eg} {n1 : Nat} {d : List Nat} {x2 x5 x8 : Value} {b2 h2 b5 b8 : Nat} {W W' : World} (h : JN N L n1 d x2 x5 x8 b2 h2 b5 b8 W) (hb : Below W.heap.size W W') (hn : n1 ≤ W.heap.size) (hB : Blk 2 W' W.heap.size (rowZW N)) : JN N L n1 (5 :: d) x2 (.slice (some ⟨W.heap.size, 0, none⟩) N N) x8 b2 h2 W.heap.size b8 W' := by
  have hg := h.go hb
  refine ⟨fun h2' => hg.a (by simpa using h2'), fun _ => ⟨rfl, hB, hn⟩, fun h8 => hg.v (by simpa using h8), fun _ h8 => ?_, fun h2' _ hx => ?_, fun h2' h8 => hg.av (by simpa using h2') (by simpa using h8)⟩
  · have := (h.v (by simpa using h8)).2.1.lt; omega
  · have := (h.a (by simpa using h2')).2.2.2; omega
theorem JN.addV {N : Nat} {L : List Eg} {n1 : Nat} {d : List Nat} {x2 x5 x8 : Value} {b2 h2 b5 b8 : Nat} {W W' : World} (h : JN N L n1 d x2 x5 x8 b2 h2 b5 b8 W) (hb : Below W.heap.size W W') (hn : n1 ≤ W.heap.size) (hB : Blk 3 W' W.heap.size (rowZW N)) : JN N L n1 (8 :: d) x2 x5 (.slice (some ⟨W.heap.size, 0, none⟩) N N) b2 h2 b5 W.heap.size W' := by
  have hg := h.go hb
  refine ⟨fun h2' => hg.a (by simpa using h2'), fun h5 => hg.d (by simpa using h5), fun _ => ⟨rfl, hB, hn⟩, fun h5 _ => ?_, fun h2' h5 => hg.ad (by simpa using h2') (by simpa using h5), fun h2' _ hx => ?_⟩
  · have := (h.d (by simpa using h5)).2.1.lt; omega
  · have := (h.a (by simpa using h2')).2.2.2; omega
theorem blk_rowZ (W : World) (N : Nat) (t : TypeId) : Blk t (W.alloc (.cells (madeCells #[.int .i64 0] N) t)) W.heap.size (rowZW N) := by
  have h0 : (W.alloc (.cells (madeCells #[.int .i64 0] N) t)).heap[W.heap.size]? = some (.cells (madeCells #[.int .i64 0] N) t (0, 0)) := heap_alloc_new W _
  show _ = some (Obj.cells (rowZW N).toArray t (0, 0))
  rw [← rowZW_made]
  simpa using h0
/-- Negative ones as far as j, then nothing yet. -/
def negK (N j : Nat) : List Int := List.replicate j (-1) ++ List.replicate (N - j) 0
theorem negK_set (N j : Nat) (hj : j < N) : (negK N j).set j (-1) = negK N (j + 1) := by
  unfold negK
  rw [List.set_append_right _ _ (by simp), List.length_replicate, Nat.sub_self]
  obtain ⟨m, hm⟩ : ∃ m, N - j = m + 1 := ⟨N - j - 1, by omega⟩
  rw [hm, List.replicate_succ, List.set_cons_zero, show N - (j + 1) = m from by omega, List.replicate_succ', List.append_assoc]
  rfl
theorem negK_zero (N : Nat) : (negK N 0).map (Value.int .i64) = rowZW N := by simp [negK, rowZW]
theorem negK_full (N : Nat) : negK N N = negs N := by simp [negK, negs]
theorem negK_at {N j : Nat} (hj : j < N) : (negK N j)[j]? = some 0 := by
  unfold negK
  rw [List.getElem?_append_right (by simp), List.length_replicate, Nat.sub_self, List.getElem?_replicate, if_pos (by omega)]

set_option maxRecDepth 100000 in
set_option maxHeartbeats 4000000 in
theorem newSearch_any (N : Nat) (L : List Eg) (hn1 : N ≤ 1048576) (hm1 : L.length ≤ 4194304) (hE : ∀ e ∈ L, e.1 < N ∧ e.2.1 < N) (hF : ∀ e ∈ L, e.2.2 ≤ 2147483647) (sv : Value) (w : World) (hl : Edges w.heap.size w sv (L.map edE)) :
    Calls Tryz.prog 52 #[.agg #[.int .i64 (N : Int), sv]] w fun r w' => ∃ S : SL, r = .returned (.pointer (some ⟨S.sb, 0, none⟩)) ∧ S.N = N ∧ S.L = L ∧ sv = .slice S.p L.length S.c ∧ SLok S ∧ SM S (negs N) (negs N) (.slice none 0 0) [] w' ∧ Below w.heap.size w w' ∧ w.heap.size ≤ S.sb ∧ w.heap.size ≤ S.bD ∧ w.heap.size ≤ S.bV := by
  have hmix := mixed
  obtain ⟨p, c, rfl⟩ := hl.lenG
  have hb1 : Below w.heap.size w (w.alloc (.cells #[.int .i64 (N : Int), .slice p L.length c] 24)) := (Below.refl _ _).alloc (Nat.le_refl _) _
  have q0 : (w.alloc (.cells #[.int .i64 (N : Int), .slice p L.length c] 24)).cell? ⟨w.heap.size, 0, none⟩ = some (.int .i64 (N : Int)) := new_cell rfl rfl
  have q1 : (w.alloc (.cells #[.int .i64 (N : Int), .slice p L.length c] 24)).cell? ⟨w.heap.size, 1, none⟩ = some (.slice p L.length c) := new_cell rfl rfl
  have hsz1 : (w.alloc (.cells #[.int .i64 (N : Int), .slice p L.length c] 24)).heap.size = w.heap.size + 1 := by simp
  have HL : Hid (Edges w.heap.size w (.slice p L.length c) (L.map edE)) := hl
  have HE : Hid _ := hE
  have HF : Hid _ := hF
  clear hl hE hF
  go_enter Tryz.func52, Tryz.ntmps52
  go_wp2
  generalize hw1 : (w.alloc (.cells #[.int .i64 (N : Int), .slice p L.length c] 24)) = w1 at *
  generalize hxb : w.heap.size = xb at *
  refine wp_region_held_drew (S := (fun w' : World => w'.cell? ⟨xb, 0, none⟩ = some (.int .i64 (N : Int)) ∧ w'.cell? ⟨xb, 1, none⟩ = some (.slice p L.length c))) (by kernel_rfl) ?_ (fun hHeld => ?_)
  · (try dsimp only); go_keep
  refine wpAnyH_take (i := 0) (v := ?_) rfl (by kernel_rfl) (by kernel_rfl) (by kernel_rfl) (fun _ _ _ h => h) (Or.inl ⟨by rfl, ?_⟩) (by assumption) ?_
  rotate_left
  · intro w hSw; (try dsimp only at hSw); go_simp; (try with_reducible rfl)
  try simp only [Act.put, List.setIfInBounds_toArray]
  refine wpAnyH_take (i := 1) (v := ?_) rfl (by kernel_rfl) (by kernel_rfl) (by kernel_rfl) (fun _ _ _ h => h) (Or.inl ⟨by rfl, ?_⟩) (by assumption) ?_
  rotate_left
  · intro w hSw; (try dsimp only at hSw); go_simp; (try with_reducible rfl)
  try simp only [Act.put]
  refine wpAnyH_take (i := 3) (v := ?_) rfl (by kernel_rfl) (by kernel_rfl) (by kernel_rfl) (fun _ _ _ h => h) (Or.inl ⟨by rfl, ?_⟩) (by assumption) ?_
  rotate_left
  · intro w hSw; (try dsimp only at hSw); go_simp; (try with_reducible rfl)
  try simp only [Act.put]
  refine wpAnyH_take (i := 4) (v := ?_) rfl (by kernel_rfl) (by kernel_rfl) (by kernel_rfl) (fun _ _ _ h => h) (Or.inl ⟨by rfl, ?_⟩) (by assumption) ?_
  rotate_left
  · intro w hSw; (try dsimp only at hSw); go_simp; (try with_reducible rfl)
  try simp only [Act.put]
  refine wpAnyH_take (i := 6) (v := ?_) rfl (by kernel_rfl) (by kernel_rfl) (by kernel_rfl) (fun _ _ _ h => h) (Or.inl ⟨by rfl, ?_⟩) (by assumption) ?_
  rotate_left
  · intro w hSw; (try dsimp only at hSw); go_simp; (try with_reducible rfl)
  try simp only [Act.put]
  refine wpAnyH_take (i := 7) (v := ?_) rfl (by kernel_rfl) (by kernel_rfl) (by kernel_rfl) (fun _ _ _ h => h) (Or.inl ⟨by rfl, ?_⟩) (by assumption) ?_
  rotate_left
  · intro w hSw; (try dsimp only at hSw); go_simp; (try with_reducible rfl)
  try simp only [Act.put]
  simp only [List.getElem_toArray, List.getElem_cons_zero, List.getElem_cons_succ, List.setIfInBounds_toArray, List.set_cons_zero, List.set_cons_succ]
  refine wpAnyH_each [2, 5, 8] (by decide) #[true, true, true, true, true, true, true, true, true, false, false, false] (fun d a W => ∃ x2 x5 x8 b2 h2 b5 b8, a = { tmps := #[.agg #[.int .i64 (N : Int), .slice p L.length c], .pointer (some ⟨xb, 0, none⟩), .pointer none, undef, undef, .agg #[.int .i64 (N : Int), .slice p L.length c], .agg #[.int .i64 (N : Int), .slice p L.length c], x2, .pointer (some ⟨xb, 0, none⟩), .int .i64 (N : Int), x5, .pointer (some ⟨xb, 0, none⟩), .int .i64 (N : Int), x8, undef, undef, undef, undef, undef, undef, undef, undef, undef, undef, undef, undef, undef, undef, undef, undef, undef, undef, undef, undef, undef], defers := [] } ∧ JN N L (xb + 1) d x2 x5 x8 b2 h2 b5 b8 W ∧ Below (xb + 1) w1 W) 3 ?_ ?_ 3 _ [] _ _ rfl (by kernel_rfl) ?_
  · intro i hi d a W hid hJ
    obtain ⟨x2, x5, x8, b2, h2, b5, b8, rfl, hJ, hb⟩ := hJ
    have hi' : i = 2 ∨ i = 5 ∨ i = 8 := by simpa using hi
    have hWs : xb + 1 ≤ W.heap.size := by have := hb.size; omega
    have hbw : Below xb w W := hb1.trans (hb.mono (by omega))
    have keep : ∀ W', Below W.heap.size W W' → W'.cell? ⟨xb, 0, none⟩ = some (.int .i64 (N : Int)) ∧ W'.cell? ⟨xb, 1, none⟩ = some (.slice p L.length c) := fun W' h => by
      have h' := hb.trans (h.mono hWs)
      exact ⟨(h'.cell (p := ⟨xb, 0, none⟩) (by simp)).trans q0, (h'.cell (p := ⟨xb, 1, none⟩) (by simp)).trans q1⟩
    clear hi hHeld
    rcases hi' with rfl | rfl | rfl
    · refine wpOp_each rfl (fun K hK => ?_)
      have HJ : Hid _ := hJ
      have HKp : Hid _ := keep
      clear hJ keep
      go_simp
      refine (edgesAt_any N L hn1 hm1 HE.out _ W ((Edges.below HL.out hbw).mono (by omega))).mono ?_
      rintro e W2 ⟨h0, svs, rfl, g1, g2, g3⟩
      exact hK.out _ _ (HKp.out _ g3) ⟨_, _, _, _, _, _, _, rfl, HJ.out.addA g3 g1 hWs (ATI.of_grp g2), hb.trans (g3.mono hWs)⟩
    · refine wpOp_each rfl (fun K hK => ?_)
      have hmk := run_make_row' (P := Tryz.prog) 41 2 (.int .i64 0) 8 Tryz.underlying41 infoL rfl .i64 .i64 (N) (by omega) (by omega)
      have HJ : Hid _ := hJ
      have HKp : Hid _ := keep
      clear hJ keep
      go_simp
      have hbx : Below W.heap.size W (W.alloc (.cells (madeCells #[.int .i64 0] (N)) 2)) := (Below.refl _ _).alloc (Nat.le_refl _) _
      exact hK.out _ _ (HKp.out _ hbx) ⟨_, _, _, _, _, _, _, rfl, HJ.out.addD hbx hWs (blk_rowZ W N _), hb.trans (hbx.mono hWs)⟩
    · refine wpOp_each rfl (fun K hK => ?_)
      have hmk := run_make_row' (P := Tryz.prog) 25 3 (.int .i64 0) 8 Tryz.underlying25 infoIW rfl .i64 .i64 (N) (by omega) (by omega)
      have HJ : Hid _ := hJ
      have HKp : Hid _ := keep
      clear hJ keep
      go_simp
      have hbx : Below W.heap.size W (W.alloc (.cells (madeCells #[.int .i64 0] (N)) 3)) := (Below.refl _ _).alloc (Nat.le_refl _) _
      exact hK.out _ _ (HKp.out _ hbx) ⟨_, _, _, _, _, _, _, rfl, HJ.out.addV hbx hWs (blk_rowZ W N _), hb.trans (hbx.mono hWs)⟩
  · intro d a W hall hJ
    obtain ⟨x2, x5, x8, b2, h2, b5, b8, rfl, hJ, hb⟩ := hJ
    obtain ⟨rfl, hA, hA1, hA2⟩ := hJ.a (hall 2 (by simp))
    obtain ⟨rfl, hD, hD1⟩ := hJ.d (hall 5 (by simp))
    obtain ⟨rfl, hV, hV1⟩ := hJ.v (hall 8 (by simp))
    have hdv := hJ.dv (hall 5 (by simp)) (hall 8 (by simp))
    have had := hJ.ad (hall 2 (by simp)) (hall 5 (by simp))
    have hav := hJ.av (hall 2 (by simp)) (hall 8 (by simp))
    clear hJ hall
    have hWs : xb + 1 ≤ W.heap.size := by have := hb.size; omega
    have hHeld2 : W.cell? ⟨xb, 0, none⟩ = some (.int .i64 (N : Int)) ∧ W.cell? ⟨xb, 1, none⟩ = some (.slice p L.length c) := ⟨(hb.cell (p := ⟨xb, 0, none⟩) (by simp)).trans q0, (hb.cell (p := ⟨xb, 1, none⟩) (by simp)).trans q1⟩
    obtain ⟨k0, k1⟩ := hHeld2
    dsimp only
    refine wpAnyH_ready (rs := [9]) (by kernel_rfl) (by simp) ?_
    refine AllReadyH.cons rfl (fun K hK => ?_) AllReadyH.nil
    go_simp
    refine hK.out _ _ ?_ (fun hHeld => ?_)
    · (try dsimp only); first | (go_keep; done) | ((repeat' apply And.intro) <;> go_simp)
    clear hK K
    try simp only [List.setIfInBounds_toArray, List.set_cons_zero, List.set_cons_succ]
    refine wpAnyH_ready (rs := [10]) (by kernel_rfl) (by simp) ?_
    refine AllReadyH.cons rfl (fun K hK => ?_) AllReadyH.nil
    go_simp
    refine hK.out _ _ ?_ (fun hHeld => ?_)
    · (try dsimp only); first | (go_keep; done) | ((repeat' apply And.intro) <;> go_simp)
    clear hK K
    try simp only [List.setIfInBounds_toArray, List.set_cons_zero, List.set_cons_succ]
    refine wpAnyH_ready (rs := [11]) (by kernel_rfl) (by simp) ?_
    refine AllReadyH.cons rfl (fun K hK => ?_) AllReadyH.nil
    go_simp
    refine hK.out _ _ ?_ (fun hHeld => ?_)
    · (try dsimp only); first | (go_keep; done) | ((repeat' apply And.intro) <;> go_simp)
    clear hK K
    try simp only [List.setIfInBounds_toArray, List.set_cons_zero, List.set_cons_succ]
    refine wpAnyH_done (by kernel_rfl) ?_ _
    have hbW : Below W.heap.size W (W.alloc (.cells #[.int .i64 (N : Int), .slice p L.length c, .slice (some ⟨b2, 0, none⟩) N N, .slice (some ⟨b5, 0, none⟩) N N, .slice (some ⟨b8, 0, none⟩) N N, .slice none 0 0] 86)) := (Below.refl _ _).alloc (Nat.le_refl _) _
    have hsz2 : (W.alloc (.cells #[.int .i64 (N : Int), .slice p L.length c, .slice (some ⟨b2, 0, none⟩) N N, .slice (some ⟨b5, 0, none⟩) N N, .slice (some ⟨b8, 0, none⟩) N N, .slice none 0 0] 86)).heap.size = W.heap.size + 1 := by simp
    have hnew : (W.alloc (.cells #[.int .i64 (N : Int), .slice p L.length c, .slice (some ⟨b2, 0, none⟩) N N, .slice (some ⟨b5, 0, none⟩) N N, .slice (some ⟨b8, 0, none⟩) N N, .slice none 0 0] 86)).heap[W.heap.size]? = _ := heap_alloc_new W _
    have hDl := hD.lt
    have hVl := hV.lt
    have hok : SLok ⟨N, L, p, c, W.heap.size + 1, b2, h2, b2, W.heap.size, b5, b8⟩ := ⟨hn1, hm1, HE.out, HF.out, by show h2 ≤ W.heap.size + 1; omega, ⟨by show W.heap.size < W.heap.size + 1; omega, by show ¬ (b2 ≤ W.heap.size ∧ W.heap.size < h2); omega, by show W.heap.size ≠ b5; omega, by show W.heap.size ≠ b8; omega⟩, ⟨by show b5 < W.heap.size + 1; omega, had, hdv⟩, ⟨by show b8 < W.heap.size + 1; omega, hav⟩⟩
    have hSM : SM ⟨N, L, p, c, W.heap.size + 1, b2, h2, b2, W.heap.size, b5, b8⟩ (negK N 0) (negK N 0) (.slice none 0 0) [] (W.alloc (.cells #[.int .i64 (N : Int), .slice p L.length c, .slice (some ⟨b2, 0, none⟩) N N, .slice (some ⟨b5, 0, none⟩) N N, .slice (some ⟨b8, 0, none⟩) N N, .slice none 0 0] 86)) :=
      ⟨hnew, by rw [negK_zero]; exact hD.go hbW, by rw [negK_zero]; exact hV.go hbW, hA.keep fun k _ hk => hbW.block k (by omega), World.ownsRow_nil _ _ _ _, by rw [hsz2]; exact Nat.le_refl _⟩
    have y0 := cell_keepW hbW k0
    have hbx : Below xb w (W.alloc (.cells #[.int .i64 (N : Int), .slice p L.length c, .slice (some ⟨b2, 0, none⟩) N N, .slice (some ⟨b5, 0, none⟩) N N, .slice (some ⟨b8, 0, none⟩) N N, .slice none 0 0] 86)) := hb1.trans ((hb.trans (hbW.mono hWs)).mono (by omega))
    clear hnew hA hD hV k0 k1 hbW hHeld q0 q1 hb
    generalize W.alloc (.cells #[.int .i64 (N : Int), .slice p L.length c, .slice (some ⟨b2, 0, none⟩) N N, .slice (some ⟨b5, 0, none⟩) N N, .slice (some ⟨b8, 0, none⟩) N N, .slice none 0 0] 86) = w2 at *
    generalize W.heap.size = sb at *
    have hsx : xb < sb := by omega
    clear HE HF
    go_wp2
    go_loopw [18] (fun i wr => ∃ j : Nat, j ≤ N ∧ i = .int .i64 j ∧ SM ⟨N, L, p, c, sb + 1, b2, h2, b2, sb, b5, b8⟩ (negK N j) (negK N j) (.slice none 0 0) [] wr ∧ Fr ⟨N, L, p, c, sb + 1, b2, h2, b2, sb, b5, b8⟩ w2 wr) (fun i _ => N - (intOf i).toNat)
    case atStart => exact ⟨0, Nat.zero_le _, rfl, hSM, Fr.refl _ _⟩
    case round =>
      clear hSM
      obtain ⟨j, hj, rfl, hSM, hFr⟩ := hrel
      have hblow : Below xb w wr := by
        have := Fr.below (w0 := w) (by rw [hxb]; exact hbx) hFr (by show w.heap.size ≤ sb + 1; omega) (by show w.heap.size ≤ sb; omega) (by show w.heap.size ≤ b5; omega) (by show w.heap.size ≤ b8; omega)
        rwa [hxb] at this
      by_cases hlt : j < N
      · have c3 : wr.cell? ⟨sb, 3, none⟩ = some (.slice (some ⟨b5, 0, none⟩) N N) := hSM.cells.2.2.2.1
        have c4 : wr.cell? ⟨sb, 4, none⟩ = some (.slice (some ⟨b8, 0, none⟩) N N) := hSM.cells.2.2.2.2.1
        have d0 : wr.cell? ⟨b5, j, none⟩ = some (.int .i64 0) := hSM.dist.cell (by rw [List.getElem?_map, negK_at hlt]; rfl)
        have v0 : wr.cell? ⟨b8, j, none⟩ = some (.int .i64 0) := hSM.via.cell (by rw [List.getElem?_map, negK_at hlt]; rfl)
        have fd : wr.frozen? ⟨b5, j, none⟩ = false := hSM.dist.frozen j
        have fv : wr.frozen? ⟨b8, j, none⟩ = false := hSM.via.frozen j
        have n1 : sb ≠ b5 := by omega
        have n2 : sb ≠ b8 := by omega
        have n3 : b8 ≠ b5 := Ne.symm hdv
        have hjl : (j : Int) < (N : Int) := by omega
        have hput := SM.put hSM hok j (-1) (-1)
        rw [negK_set N j hlt] at hput
        clear hSM had hav
        go_wp2
        go_big_region_o
        go_wp2
        exact ⟨⟨j + 1, by omega, by go_num, hput.1.drewN 1, (hFr.trans hput.2).drewN 1⟩, by simp [intOf]; omega⟩
      · obtain rfl : N = j := by omega
        rw [negK_full] at hSM
        go_wp2
        go_ret
        exact ⟨_, rfl, rfl, rfl, rfl, hok, hSM, by rw [hxb]; exact hblow, by show w.heap.size ≤ sb; omega, by show w.heap.size ≤ b5; omega, by show w.heap.size ≤ b8; omega⟩
  · exact ⟨undef, undef, undef, 0, 0, 0, 0, rfl, JN.nil _ _ _ _ _ _ _ _ _ _ _, below_drewN (Below.refl _ _) 1⟩
end Go.Proofs.YthdhimcaojfcnaaGreat
