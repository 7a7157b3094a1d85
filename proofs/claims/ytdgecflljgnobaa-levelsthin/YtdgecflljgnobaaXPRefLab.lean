/-
  The reference's Labels (filigreeref06): of each vertex the least one that hangs together with it.
-/
import Derived.Deep.QuietTactic
import Derived.BigQuiet
import Derived.Test.YtdgecflljgnobaaXPGather
namespace Go.Proofs.Ytdgecflljgnobaa
open Go Go.Proofs Go.RowKit

/-- An edge makes its two ends' labels the lesser one. -/
def relax (L : List Int) (e : Ed) : List Int := (L.set e.1.toNat (min (L.getD e.1.toNat 0) (L.getD e.2.1.toNat 0))).set e.2.1.toNat (min (L.getD e.1.toNat 0) (L.getD e.2.1.toNat 0))
theorem relax_len (L : List Int) (e : Ed) : (relax L e).length = L.length := by simp [relax]
theorem fold_relax_len : ∀ (es : List Ed) (L : List Int), (es.foldl relax L).length = L.length
  | [], _ => rfl
  | e :: es, L => by rw [List.foldl_cons, fold_relax_len es, relax_len]
def idL (N : Nat) : List Int := (List.range N).map fun (v : Nat) => (v : Int)
/-- The labels behind i rounds. -/
def labAt (N : Nat) (es : List Ed) : Nat → List Int
  | 0 => idL N
  | i + 1 => es.foldl relax (labAt N es i)
theorem labAt_len (N : Nat) (es : List Ed) : ∀ i, (labAt N es i).length = N
  | 0 => by simp [labAt, idL]
  | i + 1 => by rw [labAt, fold_relax_len, labAt_len N es i]
theorem fold_next {es : List Ed} {j : Nat} (h : j < es.length) (L : List Int) : (es.take (j + 1)).foldl relax L = relax ((es.take j).foldl relax L) es[j] := by
  rw [List.take_add_one, List.getElem?_eq_getElem h, List.foldl_append]
  rfl
/-- The first j numbers stand; nothing behind them. -/
def firstL (N j : Nat) : List Int := (List.range N).map fun (v : Nat) => if v < j then (v : Int) else 0
theorem firstL_len (N j : Nat) : (firstL N j).length = N := by simp [firstL]
theorem firstL_at {N j v : Nat} (h : v < N) : (firstL N j)[v]? = some (if v < j then (v : Int) else 0) := by simp [firstL, h]
theorem firstL_zero (N : Nat) : firstL N 0 = List.replicate N 0 := by
  apply List.ext_getElem <;> simp [firstL]
theorem firstL_full (N : Nat) : firstL N N = idL N := by
  unfold firstL idL
  refine List.map_congr_left fun v hv => ?_
  rw [if_pos (List.mem_range.1 hv)]
theorem firstL_step {N j : Nat} (h : j < N) : (firstL N j).set j (j : Int) = firstL N (j + 1) := by
  apply List.ext_getElem?
  intro v
  by_cases hv : v < N
  · rw [firstL_at hv, List.getElem?_set, firstL_len, firstL_at hv]
    by_cases h1 : j = v
    · subst h1
      rw [if_pos rfl, if_pos h, if_pos (by omega)]
    · rw [if_neg h1]
      by_cases h2 : v < j
      · rw [if_pos h2, if_pos (by omega)]
      · rw [if_neg h2, if_neg (by omega)]
  · rw [List.getElem?_eq_none (by rw [List.length_set, firstL_len]; omega), List.getElem?_eq_none (by rw [firstL_len]; omega)]

set_option maxRecDepth 100000 in
set_option maxHeartbeats 4000000 in
theorem refLabels_any (N : Nat) (l : List Ed) (hR : RightG (N : Int) l) (sv : Value) (w : World) (hl : Edges w.heap.size w sv l) :
    Calls Try.prog 24 #[.agg #[.int .i64 (N : Int), sv]] w fun r w' => ∃ g, r = .returned (.slice (some ⟨g, 0, none⟩) N N) ∧ Blk 3 w' g ((labAt N l N).map (Value.int .i64)) ∧ w.heap.size < g ∧ Below w.heap.size w w' := by
  have hmix := mixed
  have hg1 : Grew w (w.alloc (.cells #[.int .i64 (N : Int), sv] 24)) := (Grew.refl w).alloc _
  have hX1 : Blk 24 (w.alloc (.cells #[.int .i64 (N : Int), sv] 24)) w.heap.size [.int .i64 (N : Int), sv] := heap_alloc_new w _
  obtain ⟨p, c, rfl⟩ := hl.len
  obtain ⟨i0, hi, hz0, hz1, hz2⟩ := info_parts infoI
  have hn1 := hR.n1
  have hm1 := hR.m1
  have q0 := hX1.cell (j := 0) rfl
  have q1 := hX1.cell (j := 1) rfl
  have hs1 : (w.alloc (.cells #[.int .i64 (N : Int), .slice p l.length c] 24)).heap.size = w.heap.size + 1 := by simp
  go_enter Try.func24, Try.ntmps24
  go_wp2_with (at_make; refine wpList_make_full _ rfl _ _ 27 rfl (w.heap.size + 1) 3 i0 (.int .i64 0) 1 Try.underlying27 hi hz0 hz1 .i64 .i64 _ _ N rfl rfl rfl rfl (by rw [hz2]; omega) (by unfold maxLen; omega) (by rw [hs1]; exact Nat.le_refl _) ?_; intro w3 hown hgrow; have hb3 : Below (w.heap.size + 1) (w.alloc (.cells #[.int .i64 (N : Int), .slice p l.length c] 24)) w3 := (Below.refl _ _).grown hgrow (by rw [hs1]; exact Nat.le_refl _) (fun k e => by cases e); have x0 := (hb3.cell (p := ⟨w.heap.size, 0, none⟩) (by simp only; omega)).trans q0; have x1 := (hb3.cell (p := ⟨w.heap.size, 1, none⟩) (by simp only; omega)).trans q1)
  have hrow := Blk.made hown
  rw [ints_made, ← firstL_zero N, hs1] at hrow
  have hbw3 : Below w.heap.size w w3 := hg1.below.trans (hb3.mono (by omega))
  clear hown hgrow hi hz0 hz1 hz2 q0 q1 hb3 hX1 hg1 hs1
  obtain ⟨g, hg⟩ : ∃ g, g = w.heap.size + 1 := ⟨_, rfl⟩
  rw [← hg] at hrow ⊢
  have hgw : w.heap.size < g := by omega
  clear hg
  go_loopw [4] (fun i wr => ∃ j : Nat, j ≤ N ∧ i = .int .i64 j ∧ Blk 3 wr g ((firstL N j).map (Value.int .i64)) ∧ Below g w3 wr) (fun i _ => N - (intOf i).toNat)
  case atStart => exact ⟨0, Nat.zero_le _, rfl, hrow, Below.refl _ _⟩
  case round =>
    obtain ⟨j, hj, rfl, hB, hb⟩ := hrel
    have y0 := (hb.cell (p := ⟨w.heap.size, 0, none⟩) hgw).trans x0
    by_cases hlt : j < N
    · have hjl : (j : Int) < (N : Int) := by omega
      have t0 : wr.cell? ⟨g, j, none⟩ = some (.int .i64 0) := hB.cell (by rw [List.getElem?_map, firstL_at hlt, if_neg (Nat.lt_irrefl j)]; rfl)
      have f0 := hB.frozen j
      have hBn := hB.set j (.int .i64 (j : Int))
      rw [← List.map_set, firstL_step hlt] at hBn
      go_wp2
      exact ⟨⟨j + 1, by omega, by go_num, hBn, hb.setCell (p := ⟨g, j, none⟩) (Nat.le_refl _) _⟩, by simp [intOf]; omega⟩
    · obtain rfl : j = N := by omega
      have hN : ¬ (j : Int) < (j : Int) := by omega
      rw [firstL_full] at hB
      have y1 := (hb.cell (p := ⟨w.heap.size, 1, none⟩) hgw).trans x1
      have hbw4 : Below w.heap.size w wr := hbw3.trans (hb.mono (by omega))
      have hB0 : Blk 3 wr g ((labAt j l 0).map (Value.int .i64)) := hB
      clear hB hb x0 x1 hrow hbw3
      generalize wr = w4 at *
      go_wp2
      go_loopw [5] (fun i wx => ∃ q : Nat, q ≤ j ∧ i = .int .i64 q ∧ Blk 3 wx g ((labAt j l q).map (Value.int .i64)) ∧ Below g w4 wx) (fun i _ => j - (intOf i).toNat)
      case atStart => exact ⟨0, Nat.zero_le _, rfl, hB0, Below.refl _ _⟩
      case round =>
        obtain ⟨q, hq, rfl, hBq, hbq⟩ := hrel
        have z0 := (hbq.cell (p := ⟨w.heap.size, 0, none⟩) hgw).trans y0
        have z1 := (hbq.cell (p := ⟨w.heap.size, 1, none⟩) hgw).trans y1
        have hbw5 : Below w.heap.size w wr := hbw4.trans (hbq.mono (by omega))
        generalize wr = w5 at *
        by_cases hlt : q < j
        · have hjl : (q : Int) < (j : Int) := by omega
          have hlen := labAt_len j l q
          have HNX : Hid (labAt j l (q + 1) = l.foldl relax (labAt j l q)) := rfl
          generalize labAt j l q = L at *
          go_wp2
          go_loopw [6] (fun i wy => ∃ k : Nat, k ≤ l.length ∧ i = .int .i64 k ∧ Blk 3 wy g (((l.take k).foldl relax L).map (Value.int .i64)) ∧ Below g w5 wy) (fun i _ => l.length - (intOf i).toNat)
          case atStart => exact ⟨0, Nat.zero_le _, rfl, hBq, Below.refl _ _⟩
          case round =>
            obtain ⟨k, hk, rfl, hBk, hbk⟩ := hrel
            have u1 := (hbk.cell (p := ⟨w.heap.size, 1, none⟩) hgw).trans z1
            have hbw6 : Below w.heap.size w wr := hbw5.trans (hbk.mono (by omega))
            by_cases hkl : k < l.length
            · obtain ⟨b, off, rfl, hbb, hcap, hc, -⟩ := hl.open hkl
              obtain ⟨c0, c1, c2⟩ := hc wr hbw6 k hkl
              have hkl' : (k : Int) < (l.length : Int) := by omega
              have hok := (hR.each l[k] (List.getElem_mem hkl)).1
              unfold okE at hok
              obtain ⟨u, hu⟩ : ∃ u : Nat, l[k].1 = (u : Int) := ⟨l[k].1.toNat, by omega⟩
              obtain ⟨v, hv⟩ : ∃ v : Nat, l[k].2.1 = (v : Int) := ⟨l[k].2.1.toNat, by omega⟩
              have huN : u < j := by omega
              have hvN : v < j := by omega
              have hll : ((l.take k).foldl relax L).length = j := by rw [fold_relax_len, hlen]
              have HS : Hid ((l.take (k + 1)).foldl relax L = (((l.take k).foldl relax L).set u (min (((l.take k).foldl relax L).getD u 0) (((l.take k).foldl relax L).getD v 0))).set v (min (((l.take k).foldl relax L).getD u 0) (((l.take k).foldl relax L).getD v 0))) := by
                rw [Hid, fold_next hkl, relax, hu, hv, Int.toNat_natCast, Int.toNat_natCast]
              rw [hu] at c0
              rw [hv] at c1
              generalize (l.take k).foldl relax L = R at *
              have huN' : (u : Int) < (j : Int) := by omega
              have hvN' : (v : Int) < (j : Int) := by omega
              have t0 : wr.cell? ⟨g, u, none⟩ = some (.int .i64 (R.getD u 0)) := hBk.cell (by rw [List.getElem?_map, List.getElem?_eq_getElem (by omega)]; simp [show u < R.length by omega])
              have t1 : wr.cell? ⟨g, v, none⟩ = some (.int .i64 (R.getD v 0)) := hBk.cell (by rw [List.getElem?_map, List.getElem?_eq_getElem (by omega)]; simp [show v < R.length by omega])
              generalize R.getD u 0 = a at *
              generalize R.getD v 0 = d at *
              have hbg : b ≠ g := by omega
              have hwg : w.heap.size ≠ g := by omega
              clear hc hok hu hv
              go_wp2
              go_quiet (fail)
              rw [show (if d < a then d else a) = min a d by split <;> omega]
              have hBq8 : Blk 3 (wr.drewN nq) g (R.map (Value.int .i64)) := hBk
              have u8 : (wr.drewN nq).cell? ⟨w.heap.size, 1, none⟩ = some (.slice (some ⟨b, off, none⟩) l.length c) := u1
              have e0 : (wr.drewN nq).cell? ⟨b, off + k * 3, none⟩ = some (.int .i64 (u : Int)) := c0
              have e1 : (wr.drewN nq).cell? ⟨b, off + k * 3 + 1, none⟩ = some (.int .i64 (v : Int)) := c1
              have s0 : (wr.drewN nq).cell? ⟨g, u, none⟩ = some (.int .i64 a) := t0
              have s1 : (wr.drewN nq).cell? ⟨g, v, none⟩ = some (.int .i64 d) := t1
              have hb8 : Below g w5 (wr.drewN nq) := below_drewN hbk nq
              generalize wr.drewN nq = w8 at *
              generalize min a d = m at *
              have f0 := hBq8.frozen u
              have f1 := (hBq8.set u (.int .i64 m)).frozen v
              have r1 : ∃ x, (w8.setCell ⟨g, u, none⟩ (.int .i64 m)).cell? ⟨g, v, none⟩ = some (.int .i64 x) := by
                by_cases huv : u = v
                · subst huv
                  exact ⟨m, (hBq8.set u (.int .i64 m)).cell (by rw [← List.map_set, List.getElem?_map, List.getElem?_set_self (by omega)]; rfl)⟩
                · exact ⟨d, (World.cell?_setCell_other _ _ _ _ (fun e => huv (by have := congrArg Addr.off e; simpa using this))).trans s1⟩
              obtain ⟨x, r1⟩ := r1
              have hBn := (hBq8.set u (.int .i64 m)).set v (.int .i64 m)
              rw [← List.map_set, ← List.map_set] at hBn
              clear c0 c1 c2 t0 t1 u1 hBk hbk
              go_wp2
              exact ⟨⟨k + 1, by omega, by go_num, by rw [HS.out]; exact hBn, (hb8.setCell (p := ⟨g, u, none⟩) (Nat.le_refl _) _).setCell (p := ⟨g, v, none⟩) (Nat.le_refl _) _⟩, by simp [intOf]; omega⟩
            · obtain rfl : k = l.length := by omega
              have hkl' : ¬ (l.length : Int) < (l.length : Int) := by omega
              rw [List.take_length] at hBk
              go_wp2
              exact ⟨⟨q + 1, by omega, by go_num, by rw [HNX.out]; exact hBk, hbq.trans (hbk.mono (Nat.le_refl _))⟩, by simp [intOf]; omega⟩
        · obtain rfl : q = j := by omega
          have hjl : ¬ (q : Int) < (q : Int) := by omega
          go_wp2
          go_ret
          exact ⟨g, rfl, hBq, hgw, hbw5⟩
end Go.Proofs.Ytdgecflljgnobaa
