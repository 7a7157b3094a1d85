/-
  The contract of the reference's Of (filigreeref18).
-/
import Derived.OwnWalk
import Derived.BigRegion
import Derived.Test.YtdgecflljgnobaaXPRefLab
import Derived.Test.YtdgecflljgnobaaXLvRefM
namespace Go.Proofs.Ytdgecflljgnobaa
open Go Go.Proofs Go.RowKit

theorem getD_cell {L : List Int} {v : Nat} (h : v < L.length) : (L.map (Value.int .i64))[v]? = some (.int .i64 (L.getD v 0)) := by
  rw [List.getElem?_map, List.getElem?_eq_getElem h]; simp [h]

theorem fold_rlx_next {es : List Ed} {j : Nat} (h : j < es.length) (L : List Int) : (es.take (j + 1)).foldl rlx L = rlx ((es.take j).foldl rlx L) es[j] := by
  rw [List.take_add_one, List.getElem?_eq_getElem h, List.foldl_append]
  rfl

set_option maxRecDepth 100000 in
set_option maxHeartbeats 8000000 in
theorem refOf_any (N : Nat) (l : List Ed) (hR : RightG (N : Int) l) (D : List Int) (hD : Lev N l D) (sv : Value) (w : World) (hl : Edges w.heap.size w sv l) :
    Calls Try.prog 12 #[.agg #[.int .i64 (N : Int), sv]] w fun r w' => ∃ g, r = .returned (.slice (some ⟨g, 0, none⟩) N N) ∧ Blk 3 w' g (D.map (Value.int .i64)) ∧ w.heap.size < g ∧ Below w.heap.size w w' := by
  have hmix := mixed
  obtain ⟨p, c, rfl⟩ := hl.len
  have hn1 := hR.n1
  have hm1 := hR.m1
  obtain ⟨w1, hw1⟩ : ∃ W, (w.alloc (.cells #[.int .i64 (N : Int), .slice p l.length c] 24)) = W := ⟨_, rfl⟩
  have hb1 : Below w.heap.size w w1 := by rw [← hw1]; exact (Below.refl _ _).alloc (Nat.le_refl _) _
  have hX1 : Blk 24 w1 w.heap.size [.int .i64 (N : Int), .slice p l.length c] := by rw [← hw1]; exact heap_alloc_new w _
  have x0 := hX1.cell (j := 0) rfl
  have x1 := hX1.cell (j := 1) rfl
  have hlx := hX1.lt
  obtain ⟨i0, hi, hz0, hz1, hz2⟩ := info_parts infoI
  have hlab : ∀ w3, Below w1.heap.size w1 w3 → Calls Try.prog 24 #[.agg #[.int .i64 (N : Int), .slice p l.length c]] w3 _ := fun w3 hb => refLabels_any N l hR _ w3 ((hl.go hb1).go hb)
  go_enter Try.func12, Try.ntmps12
  go_wp2_with (at_make; refine wpList_make_full _ rfl _ _ 27 rfl w1.heap.size 3 i0 (.int .i64 0) 1 Try.underlying27 hi hz0 hz1 .i64 .i64 _ _ N rfl rfl rfl rfl (by rw [hz2]; omega) (by unfold maxLen; omega) (Nat.le_refl _) ?_; intro w3 hown hgrow; have hb3 : Below w1.heap.size w1 w3 := (Below.refl _ _).grown hgrow (Nat.le_refl _) (fun k e => by cases e); have hX3 := hX1.go hb3; have y0 := hX3.cell (j := 0) rfl; have y1 := hX3.cell (j := 1) rfl; have hlb := hlab w3 hb3)
  refine hlb.mono ?_
  clear hlb hlab
  rintro e w4 ⟨g2, rfl, hB2, hg2, hb4⟩
  have hrow := Blk.made hown
  rw [ints_made, ← lvFrom_zero N l] at hrow
  have HG : Hid (Blk 3 w4 w1.heap.size ((lvFrom N l 0).map (Value.int .i64))) := hrow.go hb4
  have HX : Hid (Blk 24 w4 w.heap.size [.int .i64 (N : Int), .slice p l.length c]) := (hX1.go hb3).go hb4
  have HW : Hid (Below w.heap.size w w4) := hb1.trans ((hb3.trans (hb4.mono hb3.size)).mono hb1.size)
  have HB2 : Hid (Blk 3 w4 g2 ((labAt N l N).map (Value.int .i64))) := hB2
  have hgs := hrow.lt
  have hx1 : w.heap.size < w1.heap.size := hlx
  have h4 := hb4.size
  obtain ⟨g, hg⟩ : ∃ g, w1.heap.size = g := ⟨_, rfl⟩
  rw [hg] at HG hgs hx1 ⊢
  have hgg : g < g2 := by omega
  clear hb1 hX1 x0 x1 hlx hi hz0 hz1 hz2 hown hgrow hb3 hX3 y0 y1 hB2 hg2 hb4 hrow hgs h4 hw1 hg
  go_wp2
  go_loopw [5] (fun i wr => ∃ j : Nat, j ≤ N ∧ i = .int .i64 (j : Int) ∧ Hid (Blk 3 wr g ((lvFrom N l j).map (Value.int .i64))) ∧ Hid (Blk 3 wr g2 ((labAt N l N).map (Value.int .i64))) ∧ Hid (Blk 24 wr w.heap.size [.int .i64 (N : Int), .slice p l.length c]) ∧ Hid (Below g w4 wr)) (fun i _ => N - (intOf i).toNat)
  case atStart => exact ⟨0, Nat.zero_le _, rfl, HG, HB2, HX, Below.refl _ _⟩
  case round =>
    clear HG HB2 HX
    obtain ⟨j, hj, rfl, HG, HB2, HX, HB⟩ := hrel
    have x0 := HX.out.cell (j := 0) rfl
    by_cases hlt : j < N
    · have hjl : (j : Int) < (N : Int) := by omega
      have t0 : wr.cell? ⟨g2, j, none⟩ = some (.int .i64 (labV N l j)) := HB2.out.cell (getD_cell (by rw [labAt_len]; exact hlt))
      by_cases he : labV N l j = (j : Int)
      · have he' : (labV N l j != (j : Int)) = false := by simpa using he
        have HG2 : Hid (Blk 3 wr g ((lvFrom N l (j + 1)).map (Value.int .i64))) := by rw [lvFrom_same he]; exact HG
        clear he
        generalize labV N l j = a at *
        go_wp2
        exact ⟨⟨j + 1, by omega, by go_num, HG2, HB2, HX, HB⟩, by simp [intOf]; omega⟩
      · have he' : (labV N l j != (j : Int)) = true := by simpa using he
        have u0 : wr.cell? ⟨g, j, none⟩ = some (.int .i64 ((lvFrom N l j).getD j 0)) := HG.out.cell (getD_cell (by rw [lvFrom_len]; exact hlt))
        have f0 := HG.out.frozen j
        have hgn := HG.out.set j (.int .i64 (N : Int))
        rw [← List.map_set, lvFrom_set hlt he] at hgn
        have HG2 : Hid _ := hgn
        have HB3 : Hid _ := HB2.out.other (p := ⟨g, j, none⟩) (by show g2 ≠ g; omega) (.int .i64 (N : Int))
        have HX3 : Hid _ := HX.out.other (p := ⟨g, j, none⟩) (by show w.heap.size ≠ g; omega) (.int .i64 (N : Int))
        have HB4 : Hid _ := HB.out.setCell (p := ⟨g, j, none⟩) (Nat.le_refl _) (.int .i64 (N : Int))
        clear he hgn
        generalize labV N l j = a at *
        go_wp2
        exact ⟨⟨j + 1, by omega, by go_num, HG2, HB3, HX3, HB4⟩, by simp [intOf]; omega⟩
    · obtain rfl : N = j := by omega
      have hN : ¬ (N : Int) < (N : Int) := by omega
      have hbw4 : Below w.heap.size w wr := HW.out.trans (HB.out.mono (by omega))
      have x1 := HX.out.cell (j := 1) rfl
      have hB0 : Blk 3 wr g ((lvAt N l 0).map (Value.int .i64)) := HG.out
      have hgw : w.heap.size < g := hx1
      clear HG HB2 HX HB HW
      generalize wr = w4 at *
      go_wp2
      go_loopw [6] (fun i wx => ∃ q : Nat, q ≤ N ∧ i = .int .i64 (q : Int) ∧ Blk 3 wx g ((lvAt N l q).map (Value.int .i64)) ∧ Below g w4 wx) (fun i _ => N - (intOf i).toNat)
      case atStart => exact ⟨0, Nat.zero_le _, rfl, hB0, Below.refl _ _⟩
      case round =>
        obtain ⟨q, hq, rfl, hBq, hbq⟩ := hrel
        have z0 := (hbq.cell (p := ⟨w.heap.size, 0, none⟩) hgw).trans x0
        have z1 := (hbq.cell (p := ⟨w.heap.size, 1, none⟩) hgw).trans x1
        have hbw5 : Below w.heap.size w wr := hbw4.trans (hbq.mono (by omega))
        generalize wr = w5 at *
        by_cases hlt : q < N
        · have hjl : (q : Int) < (N : Int) := by omega
          have hlen := lvAt_len N l q
          have HNX : Hid (lvAt N l (q + 1) = l.foldl rlx (lvAt N l q)) := rfl
          have HRG : Hid (Over N D (lvAt N l q)) := lvAt_over (right_ends hR) hD q
          generalize lvAt N l q = L at *
          go_wp2
          go_loopw [7] (fun i wy => ∃ k : Nat, k ≤ l.length ∧ i = .int .i64 (k : Int) ∧ Blk 3 wy g (((l.take k).foldl rlx L).map (Value.int .i64)) ∧ Below g w5 wy) (fun i _ => l.length - (intOf i).toNat)
          case atStart => exact ⟨0, Nat.zero_le _, rfl, hBq, Below.refl _ _⟩
          case round =>
            obtain ⟨k, hk, rfl, hBk, hbk⟩ := hrel
            have u0 := (hbk.cell (p := ⟨w.heap.size, 0, none⟩) hgw).trans z0
            have u1 := (hbk.cell (p := ⟨w.heap.size, 1, none⟩) hgw).trans z1
            have hbw6 : Below w.heap.size w wr := hbw5.trans (hbk.mono (by omega))
            by_cases hkl : k < l.length
            · obtain ⟨b, off, rfl, hbb, hcap, hc, -⟩ := hl.open hkl
              obtain ⟨c0, c1, c2⟩ := hc wr hbw6 k hkl
              have hkl' : (k : Int) < (l.length : Int) := by omega
              have hok := (hR.each l[k] (List.getElem_mem hkl)).1
              unfold okE at hok
              obtain ⟨u, hu⟩ : ∃ u : Nat, l[k].1 = (u : Int) := ⟨l[k].1.toNat, by omega⟩
              obtain ⟨v, hv⟩ : ∃ v : Nat, l[k].2.1 = (v : Int) := ⟨l[k].2.1.toNat, by omega⟩
              have huN : u < N := by omega
              have hvN : v < N := by omega
              have huv : u ≠ v := by omega
              have hll : ((l.take k).foldl rlx L).length = N := by rw [fold_rlx_len, hlen]
              have hrg := fold_over (right_ends hR) hD (es := l.take k) (fun e he => List.mem_of_mem_take he) hlen HRG.out
              have hru := hrg u huN
              have hrv := hrg v hvN
              have hdu := (hD.ran u huN).1
              have hdv := (hD.ran v hvN).1
              have HS : Hid ((l.take (k + 1)).foldl rlx L = (((l.take k).foldl rlx L).set u (min (((l.take k).foldl rlx L).getD u 0) (((l.take k).foldl rlx L).getD v 0 + 1))).set v (min (((l.take k).foldl rlx L).getD v 0) (min (((l.take k).foldl rlx L).getD u 0) (((l.take k).foldl rlx L).getD v 0 + 1) + 1))) := by
                rw [Hid, fold_rlx_next hkl, rlx, hu, hv, Int.toNat_natCast, Int.toNat_natCast]
              rw [hu] at c0
              rw [hv] at c1
              clear hrg
              generalize (l.take k).foldl rlx L = R at *
              have huN' : (u : Int) < (N : Int) := by omega
              have hvN' : (v : Int) < (N : Int) := by omega
              have t0 : wr.cell? ⟨g, u, none⟩ = some (.int .i64 (R.getD u 0)) := hBk.cell (getD_cell (by omega))
              have t1 : wr.cell? ⟨g, v, none⟩ = some (.int .i64 (R.getD v 0)) := hBk.cell (getD_cell (by omega))
              generalize R.getD u 0 = a at *
              generalize R.getD v 0 = d at *
              have hbg : b ≠ g := by omega
              clear hc hok hu hv
              go_wp2
              go_quiet (fail)
              have hw1 : IntKind.i64.wrap (d + 1) = d + 1 := wrap_i _ (by omega) (by omega)
              have hw2 : IntKind.i64.wrap (min a (d + 1) + 1) = min a (d + 1) + 1 := wrap_i _ (by omega) (by omega)
              have hmin : ∀ x y : Int, (if y < x then y else x) = min x y := fun x y => by split <;> omega
              have f0 := hBk.frozen u
              have f1 := hBk.frozen v
              have hb8 : Below g w5 (wr.drewN nq) := below_drewN hbk nq
              have hBk8 : Blk 3 (wr.drewN nq) g (R.map (Value.int .i64)) := hBk
              have t08 : (wr.drewN nq).cell? ⟨g, u, none⟩ = some (.int .i64 a) := t0
              have t18 : (wr.drewN nq).cell? ⟨g, v, none⟩ = some (.int .i64 d) := t1
              have f08 : (wr.drewN nq).frozen? ⟨g, u, none⟩ = false := f0
              clear t0 t1 f0 f1 c0 c1 c2 u1 hBk hbk u0
              generalize wr.drewN nq = w8 at *
              have HBK : Hid (Blk 3 w8 g (R.map (Value.int .i64))) := hBk8
              have HB8 : Hid _ := hb8
              clear hBk8 hb8
              go_wp2
              go_big_region_o
              obtain ⟨W9, hW9⟩ : ∃ W, (w8.setCell ⟨g, u, none⟩ (.int .i64 (min a (d + 1)))).drew = W := ⟨_, rfl⟩
              have hB9 : Blk 3 W9 g ((R.set u (min a (d + 1))).map (Value.int .i64)) := by
                rw [← hW9, List.map_set]
                exact HBK.out.set u (.int .i64 (min a (d + 1)))
              have HB9 : Hid (Below g w5 W9) := by
                rw [← hW9]
                exact below_drewN (HB8.out.setCell (p := ⟨g, u, none⟩) (Nat.le_refl _) _) 1
              have s1 : W9.cell? ⟨g, v, none⟩ = some (.int .i64 d) := by
                rw [← hW9]
                exact (World.cell?_setCell_other _ _ _ _ (fun e => huv (by have := congrArg Addr.off e; simpa using this))).trans t18
              have s0 : W9.cell? ⟨g, u, none⟩ = some (.int .i64 (min a (d + 1))) := hB9.cell (by rw [List.getElem?_map, List.getElem?_set_self (by omega)]; rfl)
              have f1 := hB9.frozen v
              have HB9b : Hid (Blk 3 W9 g ((R.set u (min a (d + 1))).map (Value.int .i64))) := hB9
              rw [hW9]
              clear hW9 t08 t18 f08 HBK HB8 hB9
              generalize min a (d + 1) = m at *
              go_wp2
              go_big_region_o
              have hBn := HB9b.out.set v (.int .i64 (min d (m + 1)))
              rw [← List.map_set] at hBn
              go_wp2
              exact ⟨⟨k + 1, by omega, by go_num, by rw [HS.out]; exact hBn, below_drewN (HB9.out.setCell (p := ⟨g, v, none⟩) (Nat.le_refl _) _) 1⟩, by simp [intOf]; omega⟩
            · obtain rfl : k = l.length := by omega
              have hkl' : ¬ (l.length : Int) < (l.length : Int) := by omega
              rw [List.take_length] at hBk
              go_wp2
              exact ⟨⟨q + 1, by omega, by go_num, by rw [HNX.out]; exact hBk, hbq.trans (hbk.mono (Nat.le_refl _))⟩, by simp [intOf]; omega⟩
        · obtain rfl : N = q := by omega
          have hjl : ¬ (N : Int) < (N : Int) := by omega
          go_wp2
          go_ret
          exact ⟨g, rfl, by rw [← lev_ref (right_ends hR) hD]; exact hBq, hgw, hbw5⟩
end Go.Proofs.Ytdgecflljgnobaa
