/-
  The contract of faces.Dual.
-/
import Derived.Test.YtonfhkdciaiilaaXFcSides
import Derived.Test.YtonfhkdciaiilaaXFcPlane
namespace Go.Proofs.Ytonfhkdciaiilaa
open Go Go.Proofs Go.RowKit

/-- The dual's edges. -/
def dualL (fs : List (List Dt)) (l : List Ed) : List Ed := l.map fun e => (faceOf fs (e.1, e.2.1), faceOf fs (e.2.1, e.1), e.2.2)
theorem dualL_len (fs : List (List Dt)) (l : List Ed) : (dualL fs l).length = l.length := List.length_map ..
def dualH (fs : List (List Dt)) (l : List Ed) (j : Nat) : List Ed := dualL fs (l.take j) ++ List.replicate (l.length - j) (0, 0, 0)
theorem dualH_zero (fs : List (List Dt)) (l : List Ed) : dualH fs l 0 = List.replicate l.length (0, 0, 0) := by simp [dualH, dualL]
theorem dualH_full (fs : List (List Dt)) (l : List Ed) : dualH fs l l.length = dualL fs l := by simp [dualH]
theorem dualH_len (fs : List (List Dt)) (l : List Ed) {j : Nat} (h : j ≤ l.length) : (dualH fs l j).length = l.length := by
  simp [dualH, dualL]
  omega
theorem dualH_step (fs : List (List Dt)) (l : List Ed) {j : Nat} (h : j < l.length) : (dualH fs l j).set j (faceOf fs (l[j].1, l[j].2.1), faceOf fs (l[j].2.1, l[j].1), l[j].2.2) = dualH fs l (j + 1) := by
  unfold dualH dualL
  have e : l.length - j = (l.length - (j + 1)) + 1 := by omega
  have h1 : ((l.take j).map fun e : Ed => (faceOf fs (e.1, e.2.1), faceOf fs (e.2.1, e.1), e.2.2)).length = j := by simp; omega
  rw [List.set_append, h1, if_neg (Nat.lt_irrefl j), Nat.sub_self, e, List.replicate_succ, List.set_cons_zero, List.take_add_one, List.getElem?_eq_getElem h, List.map_append, List.append_assoc]
  rfl
theorem ret_graph2 {fn : Func} {p u : Tmp} (h : fn.results = #[.cell p 24, .tmp u]) {tmps : Array Value} {w : World} {b : Nat} {x y : Value} (hp : tmps.getD p undef = .pointer (some ⟨b, 0, none⟩)) (h0 : w.cell? ⟨b, 0, none⟩ = some x) (h1 : w.cell? ⟨b, 1, none⟩ = some y) :
    (results fn tmps).run Try.prog w = .ok (.tuple #[.agg #[x, y], tmps.getD u undef]) w := by
  rw [results_cell_tmp h, hp]
  have a1 := Try.isAgg24
  have a2 := Try.sizeOf24
  go_simp

set_option maxRecDepth 100000 in
set_option maxHeartbeats 4000000 in
theorem dual_any (n : Int) (l : List Ed) (hm : l.length ≤ 4194304) (F : List (List Dt)) (hf : F.length ≤ 16777216) (hin : ∀ x ∈ F, x.length ≤ 16777216) (hnd : F.flatten.Nodup) (sv rv : Value) (w : World) (hl : Edges w.heap.size w sv l)
    (hP : ∀ W, Below w.heap.size w W → Calls Try.prog 24 #[.agg #[.int .i64 n, sv], rv] W fun e w' => ∃ lv svs, e = .returned (.tuple #[lv, .int .i64 0]) ∧ GrpD W.heap.size lv svs F w' ∧ Below W.heap.size W w') :
    Calls Try.prog 11 #[.agg #[.int .i64 n, sv], rv] w fun e w' => ∃ gv, e = .returned (.tuple #[.agg #[.int .i64 (F.length : Int), gv], .int .i64 0]) ∧ Edges w'.heap.size w' gv (dualL F l) ∧ Below w.heap.size w w' := by
  obtain ⟨p, c, rfl⟩ := hl.len
  obtain ⟨i0, hi, hz0, hz1, hz2⟩ := info_parts infoE
  have hbA : Below w.heap.size w (w.alloc (.cells #[.int .i64 n, .slice p l.length c] 24)) := (Below.refl _ _).alloc (Nat.le_refl _) _
  have hX : Blk 24 (w.alloc (.cells #[.int .i64 n, .slice p l.length c] 24)) w.heap.size [.int .i64 n, .slice p l.length c] := heap_alloc_new w _
  have hs1 : (w.alloc (.cells #[.int .i64 n, .slice p l.length c] 24)).heap.size = w.heap.size + 1 := by simp
  generalize hw1 : w.alloc (.cells #[.int .i64 n, .slice p l.length c] 24) = w1 at *
  have hbB : Below w1.heap.size w1 (w1.alloc (.cells #[.int .i64 0, .slice none 0 0] 24)) := (Below.refl _ _).alloc (Nat.le_refl _) _
  have hY : Blk 24 (w1.alloc (.cells #[.int .i64 0, .slice none 0 0] 24)) w1.heap.size [.int .i64 0, .slice none 0 0] := heap_alloc_new w1 _
  have hX1 := hX.go hbB
  rw [hs1] at hY
  have q0 := hX1.cell (j := 0) rfl
  have q1 := hX1.cell (j := 1) rfl
  have hbw2 : Below w.heap.size w (w1.alloc (.cells #[.int .i64 0, .slice none 0 0] 24)) := hbA.trans (hbB.mono hbA.size)
  have hip := hP _ hbw2
  have HL : Hid (Edges w.heap.size w (.slice p l.length c) l) := hl
  have HIN : Hid ((∀ x ∈ F, x.length ≤ 16777216) ∧ F.flatten.Nodup) := ⟨hin, hnd⟩
  have HX : Hid (Blk 24 (w1.alloc (.cells #[.int .i64 0, .slice none 0 0] 24)) w.heap.size [.int .i64 n, .slice p l.length c]) := hX1
  have HY : Hid (Blk 24 (w1.alloc (.cells #[.int .i64 0, .slice none 0 0] 24)) (w.heap.size + 1) [.int .i64 0, .slice none 0 0]) := hY
  have HB2 : Hid (Below w.heap.size w (w1.alloc (.cells #[.int .i64 0, .slice none 0 0] 24))) := hbw2
  clear hl hin hnd hP hX hX1 hY hbA hbB hbw2
  go_enter Try.func11, Try.ntmps11
  go_wp2_with fail
  generalize w1.alloc (.cells #[.int .i64 0, .slice none 0 0] 24) = w2 at *
  refine hip.mono ?_
  clear hip
  rintro e w3 ⟨lv, svs, rfl, hG, hb3⟩
  have hlen := hG.len
  obtain ⟨pl, cl, rfl⟩ := owns_form hG.own
  rw [hlen] at hG
  have HG : Hid (LDr w3.heap.size w3 (.slice pl F.length cl) F) := by have := hG.ldr; exact this
  have HX3 : Hid (Blk 24 w3 w.heap.size [.int .i64 n, .slice p l.length c]) := HX.out.go hb3
  have HY3 : Hid (Blk 24 w3 (w.heap.size + 1) [.int .i64 0, .slice none 0 0]) := HY.out.go hb3
  have HB3 : Hid (Below w.heap.size w w3) := HB2.out.trans (hb3.mono HB2.out.size)
  clear hG hb3 HX HY HB2 q0 q1
  have hly := HY3.out.lt
  have q1 := HX3.out.cell (j := 1) rfl
  rw [hlen]
  go_wp2_with (at_make; refine wpList_make_full _ rfl _ _ 22 rfl w3.heap.size 44 i0 (.agg #[.int .i64 0, .int .i64 0, .int .i64 0]) 3 Try.underlying22 hi hz0 hz1 .i64 .i64 _ _ l.length rfl rfl rfl rfl (by rw [hz2]; omega) (by unfold maxLen; omega) (Nat.le_refl _) ?_; intro w4 hown hgrow; have hb4 : Below w3.heap.size w3 w4 := (Below.refl _ _).grown hgrow (Nat.le_refl _) (fun k e => by cases e); have x0 := (HX3.out.go hb4).cell (j := 0) rfl; have x1 := (HX3.out.go hb4).cell (j := 1) rfl)
  have hsd := sides_any n l hm F hf HIN.out.1 HIN.out.2 (.slice p l.length c) (.slice pl F.length cl) w4 (HL.out.go (HB3.out.trans (hb4.mono HB3.out.size))) (HG.out.go hb4)
  have hrow := Blk.made hown
  rw [flat_made, ← dualH_zero F l] at hrow
  have HR4 : Hid (Blk 44 w4 w3.heap.size (flat (dualH F l 0))) := hrow
  have HX4 : Hid (Blk 24 w4 w.heap.size [.int .i64 n, .slice p l.length c]) := HX3.out.go hb4
  have HY4 : Hid (Blk 24 w4 (w.heap.size + 1) [.int .i64 0, .slice none 0 0]) := HY3.out.go hb4
  have HB4 : Hid (Below w.heap.size w w4) := HB3.out.trans (hb4.mono HB3.out.size)
  clear hown hgrow hb4 hrow HX3 HY3 HB3 q1 x0 x1 HG HIN hi hz0 hz1 hz2
  generalize hge : w3.heap.size = g at *
  refine hsd.mono ?_
  clear hsd
  rintro e w5 ⟨gs, rfl, hgs, hB5, hb5⟩
  have hgl := HR4.out.lt
  have hB0 := HR4.out.go hb5
  have HX5 : Hid (Blk 24 w5 w.heap.size [.int .i64 n, .slice p l.length c]) := HX4.out.go hb5
  have HY5 : Hid (Blk 24 w5 (w.heap.size + 1) [.int .i64 0, .slice none 0 0]) := HY4.out.go hb5
  have HB5 : Hid (Below w.heap.size w w5) := HB4.out.trans (hb5.mono HB4.out.size)
  clear hb5 HX4 HY4 HB4 HR4
  have hgg : g < gs := by omega
  go_wp2
  go_loopw [29] (fun i wr => ∃ j : Nat, j ≤ l.length ∧ i = .int .i64 j ∧ Blk 44 wr g (flat (dualH F l j)) ∧ Blk 42 wr gs (flatD (sidesL F l)) ∧ Below g w5 wr) (fun i _ => l.length - (intOf i).toNat)
  case atStart => exact ⟨0, Nat.zero_le _, rfl, hB0, hB5, Below.refl _ _⟩
  case round =>
    clear hB0 hB5
    obtain ⟨j, hj, rfl, hB, hS, hb⟩ := hrel
    rename World => w6
    have hbX := HX5.out
    have x1 := (hb.cell (p := ⟨w.heap.size, 1, none⟩) (by simp only; omega)).trans (HX5.out.cell (j := 1) rfl)
    by_cases hlt : j < l.length
    · obtain ⟨b, off, rfl, hbb, hcap, hc, -⟩ := HL.out.open hlt
      obtain ⟨-, -, c2⟩ := hc w6 (HB5.out.trans (hb.mono (by omega))) j hlt
      have hjl : (j : Int) < (l.length : Int) := by omega
      have HS : Hid _ := dualH_step F l hlt
      have hsl := hS.lt
      obtain ⟨d0, d1⟩ := flatD_at (L := sidesL F l) (j := j) (x := (faceOf F (l[j].1, l[j].2.1), faceOf F (l[j].2.1, l[j].1))) (by unfold sidesL; rw [List.getElem?_map, List.getElem?_eq_getElem hlt]; rfl)
      have s0 := hS.cell d0
      have s1 := hS.cell d1
      have hln : j < (dualH F l j).length := by rw [dualH_len F l hj]; exact hlt
      clear hc d0 d1
      generalize l[j].2.2 = wt at *
      generalize faceOf F (l[j].1, l[j].2.1) = x at *
      generalize faceOf F (l[j].2.1, l[j].1) = y at *
      simp only at s0 s1
      have hbN : Below w6.heap.size w6 (w6.alloc (.cells #[.int .i64 x, .int .i64 y] 42)) := (Below.refl _ _).alloc (Nat.le_refl _) _
      have hE : Blk 42 (w6.alloc (.cells #[.int .i64 x, .int .i64 y] 42)) w6.heap.size [.int .i64 x, .int .i64 y] := heap_alloc_new w6 _
      have e0 := hE.cell (j := 0) rfl
      have e1 := hE.cell (j := 1) rfl
      have hBN := hB.go hbN
      have hSN := hS.go hbN
      have y1 := (hbN.cell (p := ⟨w.heap.size, 1, none⟩) (by simp only; have := hb.size; omega)).trans x1
      have y2 := (hbN.cell (p := ⟨b, off + j * 3 + 2, none⟩) (by simp only; have := hb.size; omega)).trans c2
      have HBN : Hid (Below g w5 (w6.alloc (.cells #[.int .i64 x, .int .i64 y] 42))) := hb.alloc (by omega) _
      clear hbN hE hB hS hbX
      go_wp2_with fail
      generalize w6.alloc (.cells #[.int .i64 x, .int .i64 y] 42) = w7 at *
      have hBn := ((hBN.set (j * 3) (.int .i64 x)).set (j * 3 + 1) (.int .i64 y)).set (j * 3 + 2) (.int .i64 wt)
      have efs := flat_set (dualH F l j) j (x, y, wt)
      simp only at efs
      rw [efs, HS.out] at hBn
      have HBn : Hid _ := hBn
      have f0 : w7.drew.frozen? ⟨g, j * 3, none⟩ = false := hBN.frozen (j * 3)
      have f1 : w7.drew.frozen? ⟨g, j * 3 + 1, none⟩ = false := hBN.frozen (j * 3 + 1)
      have f2 : w7.drew.frozen? ⟨g, j * 3 + 2, none⟩ = false := hBN.frozen (j * 3 + 2)
      have f3 : w7.frozen? ⟨g, j * 3 + 1, none⟩ = false := hBN.frozen (j * 3 + 1)
      have f4 : w7.frozen? ⟨g, j * 3 + 2, none⟩ = false := hBN.frozen (j * 3 + 2)
      have HSN : Hid (Blk 42 w7 gs (flatD (sidesL F l))) := hSN
      have HBO : Hid (Blk 44 w7 g (flat (dualH F l j))) := hBN
      clear hBn hBN hSN s0 s1 x1 c2 efs
      obtain ⟨⟨o0, g0⟩, ⟨o1, g1⟩, ⟨o2, g2⟩⟩ : (∃ o, w7.cell? ⟨g, j * 3, none⟩ = some o) ∧ (∃ o, w7.cell? ⟨g, j * 3 + 1, none⟩ = some o) ∧ (∃ o, w7.cell? ⟨g, j * 3 + 2, none⟩ = some o) := by
        obtain ⟨d0, d1, d2⟩ := flat_at (List.getElem?_eq_getElem hln)
        exact ⟨⟨_, HBO.out.cell d0⟩, ⟨_, HBO.out.cell d1⟩, ⟨_, HBO.out.cell d2⟩⟩
      have HGG : Hid (g < gs) := hgg
      clear hln hgg
      refine wp_region_last (S := (fun w' : World => w'.cell? ⟨w6.heap.size, 0, none⟩ = some (.int .i64 x) ∧ w'.cell? ⟨w6.heap.size, 1, none⟩ = some (.int .i64 y) ∧ w'.cell? ⟨w.heap.size, 1, none⟩ = some (.slice (some ⟨b, off, none⟩) l.length c) ∧ w'.cell? ⟨b, off + j * 3 + 2, none⟩ = some (.int .i64 wt))) (by kernel_rfl) ⟨e0, e1, y1, y2⟩ (fun hHeld => ?_)
      refine wpAnyL_take (i := 0) (v := ?_) rfl (by kernel_rfl) (by kernel_rfl) (by kernel_rfl) (by kernel_rfl) (fun _ _ _ h => h) (Or.inl ⟨by rfl, ?_⟩) (by assumption) ?_
      rotate_left
      · intro w hSw; (try dsimp only at hSw); go_simp; (try with_reducible rfl)
      try simp only [Act.put, List.setIfInBounds_toArray]
      refine wpAnyL_take (i := 1) (v := ?_) rfl (by kernel_rfl) (by kernel_rfl) (by kernel_rfl) (by kernel_rfl) (fun _ _ _ h => h) (Or.inl ⟨by rfl, ?_⟩) (by assumption) ?_
      rotate_left
      · intro w hSw; (try dsimp only at hSw); go_simp; (try with_reducible rfl)
      try simp only [Act.put]
      refine wpAnyL_take (i := 2) (v := ?_) rfl (by kernel_rfl) (by kernel_rfl) (by kernel_rfl) (by kernel_rfl) (fun _ _ _ h => h) (Or.inl ⟨by rfl, ?_⟩) (by assumption) ?_
      rotate_left
      · intro w hSw; (try dsimp only at hSw); go_simp; (try with_reducible rfl)
      try simp only [Act.put]
      refine wpAnyL_take (i := 3) (v := ?_) rfl (by kernel_rfl) (by kernel_rfl) (by kernel_rfl) (by kernel_rfl) (fun _ _ _ h => h) (Or.inl ⟨by rfl, ?_⟩) (by assumption) ?_
      rotate_left
      · intro w hSw; (try dsimp only at hSw); go_simp; (try with_reducible rfl)
      try simp only [Act.put]
      refine wpAnyL_take (i := 4) (v := ?_) rfl (by kernel_rfl) (by kernel_rfl) (by kernel_rfl) (by kernel_rfl) (fun _ _ _ h => h) (Or.inl ⟨by rfl, ?_⟩) (by assumption) ?_
      rotate_left
      · intro w hSw; (try dsimp only at hSw); go_simp; (try with_reducible rfl)
      try simp only [Act.put]
      refine wpAnyL_take (i := 5) (v := ?_) rfl (by kernel_rfl) (by kernel_rfl) (by kernel_rfl) (by kernel_rfl) (fun _ _ _ h => h) (Or.inl ⟨by rfl, ?_⟩) (by assumption) ?_
      rotate_left
      · intro w hSw; (try dsimp only at hSw); go_simp; (try with_reducible rfl)
      try simp only [Act.put]
      refine wpAnyL_take (i := 6) (v := ?_) rfl (by kernel_rfl) (by kernel_rfl) (by kernel_rfl) (by kernel_rfl) (fun _ _ _ h => h) (Or.inl ⟨by rfl, ?_⟩) (by assumption) ?_
      rotate_left
      · intro w hSw; (try dsimp only at hSw); go_simp; (try with_reducible rfl)
      try simp only [Act.put]
      refine wpAnyL_take (i := 7) (v := ?_) rfl (by kernel_rfl) (by kernel_rfl) (by kernel_rfl) (by kernel_rfl) (fun _ _ _ h => h) (Or.inl ⟨by rfl, ?_⟩) (by assumption) ?_
      rotate_left
      · intro w hSw; (try dsimp only at hSw); go_simp; (try with_reducible rfl)
      try simp only [Act.put]
      refine wpAnyL_take (i := 8) (v := ?_) rfl (by kernel_rfl) (by kernel_rfl) (by kernel_rfl) (by kernel_rfl) (fun _ _ _ h => h) (Or.inl ⟨by rfl, ?_⟩) (by assumption) ?_
      rotate_left
      · intro w hSw; (try dsimp only at hSw); go_simp; (try with_reducible rfl)
      try simp only [Act.put]
      refine wpAnyL_take (i := 9) (v := ?_) rfl (by kernel_rfl) (by kernel_rfl) (by kernel_rfl) (by kernel_rfl) (fun _ _ _ h => h) (Or.inl ⟨by rfl, ?_⟩) (by assumption) ?_
      rotate_left
      · intro w hSw; (try dsimp only at hSw); go_simp; (try with_reducible rfl)
      try simp only [Act.put]
      refine wpAnyL_take (i := 10) (v := ?_) rfl (by kernel_rfl) (by kernel_rfl) (by kernel_rfl) (by kernel_rfl) (fun _ _ _ h => h) (Or.inl ⟨by rfl, ?_⟩) (by assumption) ?_
      rotate_left
      · intro w hSw; (try dsimp only at hSw); go_simp; (try with_reducible rfl)
      try simp only [Act.put]
      refine wpAnyL_take (i := 11) (v := ?_) rfl (by kernel_rfl) (by kernel_rfl) (by kernel_rfl) (by kernel_rfl) (fun _ _ _ h => h) (Or.inl ⟨by rfl, ?_⟩) (by assumption) ?_
      rotate_left
      · intro w hSw; (try dsimp only at hSw); go_simp; (try with_reducible rfl)
      try simp only [Act.put]
      refine wpAnyL_take (i := 12) (v := ?_) rfl (by kernel_rfl) (by kernel_rfl) (by kernel_rfl) (by kernel_rfl) (fun _ _ _ h => h) (Or.inl ⟨by rfl, ?_⟩) (by assumption) ?_
      rotate_left
      · intro w hSw; (try dsimp only at hSw); go_simp; (try with_reducible rfl)
      try simp only [Act.put]
      refine wpAnyL_take (i := 13) (v := ?_) rfl (by kernel_rfl) (by kernel_rfl) (by kernel_rfl) (by kernel_rfl) (fun _ _ _ h => h) (Or.inl ⟨by rfl, ?_⟩) (by assumption) ?_
      rotate_left
      · intro w hSw; (try dsimp only at hSw); go_simp; (try with_reducible rfl)
      try simp only [Act.put]
      clear e0 e1 y1 y2 hHeld
      refine wpAnyL_ready (rs := [14]) (by kernel_rfl) (by simp) ?_
      refine AllReadyL.last rfl (by kernel_rfl) (fun K hK => ?_)
      go_simp
      refine hK.out _ _ ?_
      clear hK K
      try simp only [Act.put, List.setIfInBounds_toArray, List.set_cons_zero, List.set_cons_succ]
      refine wpAnyL_done (by kernel_rfl) ?_ _
      have hBq : Blk 44 (((w7.setCell ⟨g, j * 3, none⟩ (.int .i64 x)).setCell ⟨g, j * 3 + 1, none⟩ (.int .i64 y)).setCell ⟨g, j * 3 + 2, none⟩ (.int .i64 wt)).drew g (flat (dualH F l (j + 1))) := HBn.out
      have hSq : Blk 42 (((w7.setCell ⟨g, j * 3, none⟩ (.int .i64 x)).setCell ⟨g, j * 3 + 1, none⟩ (.int .i64 y)).setCell ⟨g, j * 3 + 2, none⟩ (.int .i64 wt)).drew gs (flatD (sidesL F l)) := by
        have hgg := HGG.out
        have h1 := Below.heap_setCell w7 ⟨g, j * 3, none⟩ (.int .i64 x) gs (by simp only; omega)
        have h2 := Below.heap_setCell (w7.setCell ⟨g, j * 3, none⟩ (.int .i64 x)) ⟨g, j * 3 + 1, none⟩ (.int .i64 y) gs (by simp only; omega)
        have h3 := Below.heap_setCell ((w7.setCell ⟨g, j * 3, none⟩ (.int .i64 x)).setCell ⟨g, j * 3 + 1, none⟩ (.int .i64 y)) ⟨g, j * 3 + 2, none⟩ (.int .i64 wt) gs (by simp only; omega)
        exact (h3.trans (h2.trans h1)).trans HSN.out
      have hbq : Below g w5 (((w7.setCell ⟨g, j * 3, none⟩ (.int .i64 x)).setCell ⟨g, j * 3 + 1, none⟩ (.int .i64 y)).setCell ⟨g, j * 3 + 2, none⟩ (.int .i64 wt)).drew := below_drewN (((HBN.out.setCell (p := ⟨g, j * 3, none⟩) (Nat.le_refl _) _).setCell (p := ⟨g, j * 3 + 1, none⟩) (Nat.le_refl _) _).setCell (p := ⟨g, j * 3 + 2, none⟩) (Nat.le_refl _) _) 1
      clear HBn HBN f0 f1 f2 f3 f4 g0 g1 g2 HS HSN HBO
      go_wp2
      exact ⟨⟨j + 1, by omega, by go_num, hBq, hSq, hbq⟩, by simp [intOf]; omega⟩
    · obtain rfl : j = l.length := by omega
      have hjl : ¬ (l.length : Int) < (l.length : Int) := by omega
      rw [dualH_full] at hB
      have hY6 : Blk 24 w6 (w.heap.size + 1) [.int .i64 0, .slice none 0 0] := (hb.block _ (by omega)).trans HY5.out
      have y0 := hY6.cell (j := 0) rfl
      have y1 := hY6.cell (j := 1) rfl
      have f0 := hY6.frozen 0
      have f1 := hY6.frozen 1
      have hY7 := (hY6.set 0 (.int .i64 (F.length : Int))).set 1 (.slice (some ⟨g, 0, none⟩) l.length l.length)
      have z0 := hY7.cell (j := 0) rfl
      have z1 := hY7.cell (j := 1) rfl
      have hBW : Below w.heap.size w w6 := HB5.out.trans (hb.mono (by omega))
      have HBF : Hid (Below w.heap.size w ((w6.setCell ⟨w.heap.size + 1, 0, none⟩ (.int .i64 (F.length : Int))).setCell ⟨w.heap.size + 1, 1, none⟩ (.slice (some ⟨g, 0, none⟩) l.length l.length))) := (hBW.setCell (p := ⟨w.heap.size + 1, 0, none⟩) (by simp) _).setCell (p := ⟨w.heap.size + 1, 1, none⟩) (by simp) _
      have HBG : Hid (Blk 44 ((w6.setCell ⟨w.heap.size + 1, 0, none⟩ (.int .i64 (F.length : Int))).setCell ⟨w.heap.size + 1, 1, none⟩ (.slice (some ⟨g, 0, none⟩) l.length l.length)) g (flat (dualL F l))) := by
        have h1 := Below.heap_setCell w6 ⟨w.heap.size + 1, 0, none⟩ (.int .i64 (F.length : Int)) g (by simp only; omega)
        have h2 := Below.heap_setCell (w6.setCell ⟨w.heap.size + 1, 0, none⟩ (.int .i64 (F.length : Int))) ⟨w.heap.size + 1, 1, none⟩ (.slice (some ⟨g, 0, none⟩) l.length l.length) g (by simp only; omega)
        exact (h2.trans h1).trans hB
      have HLN : Hid (l.length = (dualL F l).length) := (dualL_len F l).symm
      clear hB hS hb hY6 hY7 hBW hbX x1 HX5 HY5 HL
      go_wp2
      refine bodyPost_ret (ret_graph2 rfl rfl z0 z1) rfl ?_
      refine ⟨_, rfl, ?_, HBF.out⟩
      have := HBG.out.edges
      rw [dualL_len] at this
      exact this
end Go.Proofs.Ytonfhkdciaiilaa
