/-
  The contract of graph.Near.
-/
import Derived.Deep.RegionHeld3
import Derived.Test.YtdgecflljgnobaaXGDeg
import Derived.Test.YtdgecflljgnobaaXPLsts
import Derived.Deep.AppendLies
import Derived.Test.YtdgecflljgnobaaZBN
namespace Go.Proofs.Ytdgecflljgnobaa
open Go Go.Proofs Go.RowKit

theorem infoS : (Try.prog.info? 27).map (fun i => (i.zero, i.size, i.bytes)) = some (some (.slice none 0 0), 1, 24) := by kernel_rfl
theorem slices_made (n : Nat) : (madeCells (Value.slice none 0 0).cells (n * 1)).toList = List.replicate n (.slice none 0 0) := by
  apply List.ext_getElem
  · simp [madeCells]
  · intro i h1 h2
    simp [madeCells, Value.cells, Nat.mod_one]

/-- The outer row's cells: a slice a vertex. -/
def rowsV (N : Nat) (bs : List Nat) (pre : Nat → List Int) (deg : Nat → Nat) : List Value := (List.range N).map fun v => .slice (some ⟨bs.getD v 0, 0, none⟩) (pre v).length (deg v)
theorem rowsV_at {N : Nat} {bs : List Nat} {pre : Nat → List Int} {deg : Nat → Nat} {v : Nat} (h : v < N) : (rowsV N bs pre deg)[v]? = some (.slice (some ⟨bs.getD v 0, 0, none⟩) (pre v).length (deg v)) := by simp [rowsV, h]
theorem rowsV_len (N : Nat) (bs : List Nat) (pre : Nat → List Int) (deg : Nat → Nat) : (rowsV N bs pre deg).length = N := by simp [rowsV]
def upd (pre : Nat → List Int) (v : Nat) (y : Int) : Nat → List Int := fun i => if i = v then pre v ++ [y] else pre i
structure NearI (N g h0 : Nat) (bs : List Nat) (deg : Nat → Nat) (pre : Nat → List Int) (W : World) : Prop where
  len : bs.length = N
  inj : ∀ u v, u < N → v < N → bs.getD u 0 = bs.getD v 0 → u = v
  low : ∀ v, v < N → h0 ≤ bs.getD v 0
  out : g < h0
  row : Blk 27 W g (rowsV N bs pre deg)
  own : ∀ v, v < N → W.ownsRow h0 3 1 (.slice (some ⟨bs.getD v 0, 0, none⟩) (pre v).length (deg v)) (pre v).length ((pre v).map (Value.int .i64))
theorem NearI.go {N g h0 : Nat} {bs : List Nat} {deg : Nat → Nat} {pre : Nat → List Int} {A B : World} (h : NearI N g h0 bs deg pre A) (hb : Below A.heap.size A B) : NearI N g h0 bs deg pre B :=
  ⟨h.len, h.inj, h.low, h.out, h.row.go hb, fun v hv => owns_below (h.own v hv) hb⟩
/-- An owned row of numbers, as a block. -/
theorem owns_ints {w : World} {base : Nat} {e : TypeId} {b n c : Nat} {xs : List Int} (h : w.ownsRow base e 1 (.slice (some ⟨b, 0, none⟩) n c) n (xs.map (Value.int .i64))) : ∃ rest, Blk e w b (xs.map (Value.int .i64) ++ rest) ∧ xs.length = n ∧ n + rest.length = c ∧ c ≤ maxLen ∧ base ≤ b := by
  obtain ⟨h1, h2⟩ := h
  rcases h2 with ⟨h2, _⟩ | ⟨g, cap, cur, hv, hb, hg, hn, hc, hsz, ht⟩
  · cases h2
  · simp only [Value.slice.injEq, Option.some.injEq, Addr.mk.injEq] at hv
    obtain ⟨⟨rfl, _, _⟩, _, rfl⟩ := hv
    have h1' : xs.length = n := by simpa using h1
    refine ⟨cur.toList.drop (n * 1), ?_, h1', ?_, hc, hb⟩
    · unfold Blk
      rw [hg, ← ht, List.take_append_drop]
    · simp at hsz ⊢; omega
theorem ints_owns {w : World} {base : Nat} {e : TypeId} {b n c : Nat} {xs : List Int} {rest : List Value} (hB : Blk e w b (xs.map (Value.int .i64) ++ rest)) (hn : xs.length = n) (hc : n + rest.length = c) (hm : c ≤ maxLen) (hb : base ≤ b) : w.ownsRow base e 1 (.slice (some ⟨b, 0, none⟩) n c) n (xs.map (Value.int .i64)) := by
  refine ⟨by simp [hn], .inr ⟨b, c, _, rfl, hb, hB, by omega, hm, by simp; omega, ?_⟩⟩
  simp [hn]
theorem NearI.push {N g h0 : Nat} {bs : List Nat} {deg : Nat → Nat} {pre : Nat → List Int} {W : World} (h : NearI N g h0 bs deg pre W) {v : Nat} (hv : v < N) (y : Int) (hd : (pre v).length < deg v) :
    NearI N g h0 bs deg (upd pre v y) ((W.setCell ⟨bs.getD v 0, (pre v).length, none⟩ (.int .i64 y)).setCell ⟨g, v, none⟩ (.slice (some ⟨bs.getD v 0, 0, none⟩) ((pre v).length + 1) (deg v))) := by
  have hgo := h.out
  refine ⟨h.len, h.inj, h.low, h.out, ?_, ?_⟩
  · have h1 := (h.row.other (p := ⟨bs.getD v 0, (pre v).length, none⟩) (by have := h.low v hv; simp only; omega) (.int .i64 y)).set v (.slice (some ⟨bs.getD v 0, 0, none⟩) ((pre v).length + 1) (deg v))
    have h2 : (rowsV N bs pre deg).set v (.slice (some ⟨bs.getD v 0, 0, none⟩) ((pre v).length + 1) (deg v)) = rowsV N bs (upd pre v y) deg := by
      apply List.ext_getElem?
      intro i
      rw [List.getElem?_set, rowsV_len]
      by_cases hi : i < N
      · rw [rowsV_at hi, rowsV_at hi]
        by_cases he : v = i
        · subst he; rw [if_pos rfl, if_pos hv]; simp [upd]
        · rw [if_neg he]; simp [upd, Ne.symm he]
      · rw [List.getElem?_eq_none (by rw [rowsV_len]; omega), List.getElem?_eq_none (by rw [rowsV_len]; omega)]
        split
        · rename_i e; omega
        · rfl
    rwa [h2] at h1
  · intro u hu
    obtain ⟨rest, hB, hn, hc, hm, hb⟩ := owns_ints (h.own u hu)
    by_cases he : u = v
    · subst he
      match rest, hc with
      | [], hc => simp at hc; omega
      | z :: rest, hc =>
        have h1 := (hB.set (pre u).length (.int .i64 y)).other (p := ⟨g, u, none⟩) (by simp only; omega) (.slice (some ⟨bs.getD u 0, 0, none⟩) ((pre u).length + 1) (deg u))
        have h2 : ((pre u).map (Value.int .i64) ++ z :: rest).set (pre u).length (.int .i64 y) = (upd pre u y u).map (Value.int .i64) ++ rest := by
          rw [List.set_append_right _ _ (by simp)]
          simp [upd]
        rw [h2] at h1
        exact ints_owns h1 rfl (by simp [upd] at hc ⊢; omega) hm hb
    · have hne : bs.getD u 0 ≠ bs.getD v 0 := fun e => he (h.inj u v hu hv e)
      have h1 := (hB.other (p := ⟨bs.getD v 0, (pre v).length, none⟩) hne (.int .i64 y)).other (p := ⟨g, v, none⟩) (by simp only; omega) (.slice (some ⟨bs.getD v 0, 0, none⟩) ((pre v).length + 1) (deg v))
      have hup : upd pre v y u = pre u := by simp [upd, he]
      rw [hup]
      exact ints_owns h1 hn hc hm hb

/-- Lists of numbers, in memory. -/
def nearL (N : Nat) (l : List Ed) : List (List Int) := (List.range N).map fun (v : Nat) => nb l (v : Int)
theorem nearL_at {N : Nat} {l : List Ed} {v : Nat} (h : v < N) : (nearL N l)[v]? = some (nb l (v : Int)) := by simp [nearL, h]
theorem nearL_len (N : Nat) (l : List Ed) : (nearL N l).length = N := by simp [nearL]
theorem NearI.lsts {N g h0 : Nat} {bs : List Nat} {deg : Nat → Nat} {l : List Ed} {W : World} (h : NearI N g h0 bs deg (fun v => nb l (v : Int)) W) : Lsts W.heap.size W (.slice (some ⟨g, 0, none⟩) N N) (nearL N l) := by
  refine .inr ⟨g, 0, N, by rw [nearL_len], h.row.lt, by rw [nearL_len]; exact Nat.le_refl _, fun j x hx => ?_⟩
  have hj : j < N := by have := (List.getElem?_eq_some_iff.1 hx).1; rwa [nearL_len] at this
  rw [nearL_at hj] at hx
  cases hx
  refine ⟨_, by rw [Nat.zero_add]; exact h.row.cell (rowsV_at hj), ?_⟩
  obtain ⟨rest, hB, hn, hc, hm, hb⟩ := owns_ints (h.own j hj)
  exact .inr ⟨bs.getD j 0, 0, deg j, rfl, hB.lt, by omega, fun i y hy => by
    rw [Nat.zero_add]
    refine hB.cell ?_
    have hi := (List.getElem?_eq_some_iff.1 hy).1
    rw [List.getElem?_append_left (by simpa using hi), List.getElem?_map, hy]; rfl⟩

theorem cell_keepN {A B : World} (hb : Below A.heap.size A B) {a : Addr} {v : Value} (h : A.cell? a = some v) : B.cell? a = some v := (hb.cell (World.block_lt_of_cell? A a h)).trans h
/-- The outer row while its slices are being made. -/
def halfV (N : Nat) (bs : List Nat) (deg : Nat → Nat) (j : Nat) : List Value := (List.range N).map fun v => if v < j then .slice (some ⟨bs.getD v 0, 0, none⟩) 0 (deg v) else .slice none 0 0
theorem halfV_at {N : Nat} {bs : List Nat} {deg : Nat → Nat} {j v : Nat} (h : v < N) : (halfV N bs deg j)[v]? = some (if v < j then .slice (some ⟨bs.getD v 0, 0, none⟩) 0 (deg v) else .slice none 0 0) := by simp [halfV, h]
theorem halfV_len (N : Nat) (bs : List Nat) (deg : Nat → Nat) (j : Nat) : (halfV N bs deg j).length = N := by simp [halfV]
theorem halfV_zero (N : Nat) (deg : Nat → Nat) : halfV N [] deg 0 = List.replicate N (.slice none 0 0) := by
  apply List.ext_getElem <;> simp [halfV]
theorem halfV_step {N : Nat} {bs : List Nat} {deg : Nat → Nat} {j b : Nat} (hj : j < N) (hl : bs.length = j) : (halfV N bs deg j).set j (.slice (some ⟨b, 0, none⟩) 0 (deg j)) = halfV N (bs ++ [b]) deg (j + 1) := by
  apply List.ext_getElem?
  intro i
  rw [List.getElem?_set, halfV_len]
  by_cases hi : i < N
  · rw [halfV_at hi, halfV_at hi]
    by_cases he : j = i
    · subst he
      rw [if_pos rfl, if_pos hj, if_pos (by omega)]
      simp [← hl]
    · rw [if_neg he]
      by_cases h2 : i < j
      · rw [if_pos h2, if_pos (by omega)]
        have : (bs ++ [b]).getD i 0 = bs.getD i 0 := by simp [List.getElem?_append_left (show i < bs.length by omega)]
        rw [this]
      · rw [if_neg h2, if_neg (by omega)]
  · rw [List.getElem?_eq_none (by rw [halfV_len]; omega), List.getElem?_eq_none (by rw [halfV_len]; omega)]
    split
    · rename_i e; omega
    · rfl
theorem halfV_full (N : Nat) (bs : List Nat) (deg : Nat → Nat) : halfV N bs deg N = rowsV N bs (fun _ => []) deg := by
  apply List.ext_getElem?
  intro i
  by_cases hi : i < N
  · rw [halfV_at hi, rowsV_at hi, if_pos hi]; rfl
  · rw [List.getElem?_eq_none (by rw [halfV_len]; omega), List.getElem?_eq_none (by rw [rowsV_len]; omega)]
/-- What stands while the slices are being made. -/
structure HalfI (N g h0 : Nat) (bs : List Nat) (deg : Nat → Nat) (j : Nat) (W : World) : Prop where
  len : bs.length = j
  lt : ∀ v, v < j → bs.getD v 0 < W.heap.size
  inj : ∀ u v, u < j → v < j → bs.getD u 0 = bs.getD v 0 → u = v
  low : ∀ v, v < j → h0 ≤ bs.getD v 0
  row : Blk 27 W g (halfV N bs deg j)
  own : ∀ v, v < j → W.ownsRow h0 3 1 (.slice (some ⟨bs.getD v 0, 0, none⟩) 0 (deg v)) 0 []

theorem getD_left {bs : List Nat} {b v : Nat} (h : v < bs.length) : (bs ++ [b]).getD v 0 = bs.getD v 0 := by simp [List.getElem?_append_left h]
theorem getD_last {bs : List Nat} {b : Nat} : (bs ++ [b]).getD bs.length 0 = b := by simp
theorem HalfI.step {N g h0 : Nat} {bs : List Nat} {deg : Nat → Nat} {j : Nat} {W w6 : World} (h : HalfI N g h0 bs deg j W) (hj : j < N) (hgl : g < h0) (hh0 : h0 ≤ W.heap.size) (hg : W.grownBy w6 none)
    (hown : w6.ownsRow h0 3 1 (.slice (some ⟨W.heap.size, 0, none⟩) 0 (deg j)) 0 []) : HalfI N g h0 (bs ++ [W.heap.size]) deg (j + 1) (w6.setCell ⟨g, j, none⟩ (.slice (some ⟨W.heap.size, 0, none⟩) 0 (deg j))) := by
  have hlt6 : W.heap.size < w6.heap.size := (hown.lt W.heap.size rfl).2
  have hsz : (w6.setCell ⟨g, j, none⟩ (.slice (some ⟨W.heap.size, 0, none⟩) 0 (deg j))).heap.size = w6.heap.size := by simp
  have hgs := hg.size
  have hl := h.len
  refine ⟨by simp [hl], fun v hv => ?_, fun u v hu hv he => ?_, fun v hv => ?_, ?_, fun v hv => ?_⟩
  · rw [hsz]
    by_cases e : v = j
    · subst e; rw [← hl, getD_last]; exact hlt6
    · rw [getD_left (by omega)]; have := h.lt v (by omega); omega
  · by_cases e : u = j
    · by_cases e2 : v = j
      · omega
      · subst e
        rw [← hl, getD_last, getD_left (by omega)] at he
        have := h.lt v (by omega); omega
    · by_cases e2 : v = j
      · subst e2
        rw [← hl, getD_last, getD_left (by omega)] at he
        have := h.lt u (by omega); omega
      · rw [getD_left (by omega), getD_left (by omega)] at he
        exact h.inj u v (by omega) (by omega) he
  · by_cases e : v = j
    · subst e; rw [← hl, getD_last]; exact hh0
    · rw [getD_left (by omega)]; exact h.low v (by omega)
  · have h1 := (h.row.grown hg (by simp)).set j (.slice (some ⟨W.heap.size, 0, none⟩) 0 (deg j))
    rwa [halfV_step hj hl] at h1
  · refine owns_set ?_ hgl _
    by_cases e : v = j
    · subst e; rw [← hl, getD_last, hl]; exact hown
    · rw [getD_left (by omega)]
      exact (h.own v (by omega)).kept (row := none) hg (.inr (by simp [Value.ownBlock]))
theorem HalfI.full {N g h0 : Nat} {bs : List Nat} {deg : Nat → Nat} {W : World} (h : HalfI N g h0 bs deg N W) (hgl : g < h0) : NearI N g h0 bs deg (fun _ => []) W :=
  ⟨h.len, h.inj, h.low, hgl, by rw [← halfV_full]; exact h.row, fun v hv => h.own v hv⟩

set_option maxRecDepth 100000 in
set_option maxHeartbeats 4000000 in
theorem near_at (N : Nat) (l : List Ed) (hR : RightG (N : Int) l) (sv : Value) (w : World) (hl : Edges w.heap.size w sv l) :
    Calls Try.prog 35 #[.agg #[.int .i64 (N : Int), sv]] w fun r w' => ∃ g h0 bs deg, r = .returned (.slice (some ⟨g, 0, none⟩) N N) ∧ NearI N g h0 bs deg (fun v => nb l (v : Int)) w' ∧ w.heap.size ≤ g ∧ Below w.heap.size w w' := by
  have hmix := mixed
  have hg1 : Grew w (w.alloc (.cells #[.int .i64 (N : Int), sv] 24)) := (Grew.refl w).alloc _
  have hl1 := hl.go hg1.below
  obtain ⟨p, c, rfl⟩ := hl.len
  obtain ⟨i0, hi, hz0, hz1, hz2⟩ := info_parts infoS
  obtain ⟨k0, hki, hkz0, hkz1, hkz2⟩ := info_parts infoI
  have hrc := fun W h => right_any (N : Int) l (.slice p l.length c) W h
  rw [right_iff.2 hR] at hrc
  have hn1 := hR.n1
  have hm1 := hR.m1
  go_enter Try.func35, Try.ntmps35
  go_wp2_with fail
  refine (hrc _ hl1).mono ?_
  rintro e w2 ⟨rfl, hg2⟩
  have q0 := (box2 _ hg2).1
  have q1 := (box2 _ hg2).2
  have hbox := box2_lt hg2
  have hbw := (hg1.trans hg2).below
  clear hrc hl1
  go_wp2_with (at_make; refine wpList_make_full _ rfl _ _ 38 rfl w2.heap.size 27 i0 (.slice none 0 0) 1 Try.underlying38 hi hz0 hz1 .i64 .i64 _ _ N rfl rfl rfl rfl (by rw [hz2]; omega) (by unfold maxLen; omega) (Nat.le_refl _) ?_; intro w3 hown hgrow; have hb3 : Below w2.heap.size w2 w3 := (Below.refl _ _).grown hgrow (Nat.le_refl _) (fun k e => by cases e); have x0 := (hb3.cell (p := ⟨w.heap.size, 0, none⟩) hbox).trans q0; have x1 := (hb3.cell (p := ⟨w.heap.size, 1, none⟩) hbox).trans q1)
  have hrow := Blk.made hown
  rw [slices_made] at hrow
  have hbw3 := hbw.trans (hb3.mono hbw.size)
  have hgl3 := hrow.lt
  clear hown hgrow hi hz0 hz1 hz2 hb3 q0 q1 hg2 hg1 hbw
  generalize w2.heap.size = g at hrow hbox hgl3
  go_wp2_with fail
  refine (degrees_any N l hR _ _ (hl.go hbw3)).mono ?_
  rintro e w4 ⟨dv, rfl, hdI, ⟨gd, rfl, hgd⟩, hb4⟩
  have hrow4 := hrow.go hb4
  have y0 := cell_keepN hb4 x0
  have y1 := cell_keepN hb4 x1
  have hbw4 := hbw3.trans (hb4.mono hbw3.size)
  have hgl4 := hrow4.lt
  have hdI' : ∀ v, v < N → w4.cell? ⟨gd, v, none⟩ = some (.int .i64 ((nb l (v : Int)).length : Int)) := fun v hv => by
    rcases hdI with ⟨_, h0⟩ | ⟨b, off, cap, h1, h2, h3, h4⟩
    · have := congrArg List.length h0; rw [degL_len] at this; simp at this; omega
    · simp only [Value.slice.injEq, Option.some.injEq, Addr.mk.injEq] at h1
      obtain ⟨⟨rfl, rfl, _⟩, _, _⟩ := h1
      have := h4 v _ (degL_at (l := l) (j := l.length) hv)
      rwa [Nat.zero_add, List.take_length] at this
  have hgd4 : N = 0 ∨ gd < w4.heap.size := by
    by_cases h : N = 0
    · exact .inl h
    · exact .inr (World.block_lt_of_cell? w4 ⟨gd, 0, none⟩ (hdI' 0 (by omega)))
  clear hdI hrow hb4 x0 x1 hbw3
  go_wp2
  go_loopw [17] (fun i wr => ∃ (j : Nat) (bs : List Nat), j ≤ N ∧ i = .int .i64 j ∧ HalfI N g w4.heap.size bs (fun v => (nb l (v : Int)).length) j wr ∧ w4.grownBy wr (some g)) (fun i _ => N - (intOf i).toNat)
  case atStart => exact ⟨0, [], Nat.zero_le _, rfl, ⟨rfl, fun v h => by omega, fun u v h => by omega, fun v h => by omega, by rw [halfV_zero]; exact hrow4, fun v h => by omega⟩, ⟨rfl, rfl, rfl, Nat.le_refl _, fun _ _ _ => rfl⟩⟩
  case round =>
    obtain ⟨j, bs, hj, rfl, hH, hgr⟩ := hrel
    by_cases hlt : j < N
    · have hgdl : gd < w4.heap.size := by omega
      have c0 := (hgr.cell_far ⟨gd, j, none⟩ hgdl (by simp; omega)).trans (hdI' j hlt)
      have hjl : (j : Int) < (N : Int) := by omega
      have hdl := nb_len (j : Int) l
      have hgs := hgr.size
      go_wp2_with (at_make; refine wpList_make_own _ rfl _ _ 27 rfl w4.heap.size 3 k0 (.int .i64 0) 1 Try.underlying27 hki hkz0 hkz1 .i64 .i64 _ (nb l (j : Int)).length rfl rfl rfl (by rw [hkz2]; omega) (by unfold maxLen; omega) hgs ?_; intro w6 hown6 hgrow6; have hR6 := hH.row.grown hgrow6 (by simp); have o1 := hR6.cell (halfV_at hlt); have f1 := hR6.frozen j; rw [if_neg (Nat.lt_irrefl j)] at o1)
      have hgr6 : w4.grownBy (w6.setCell ⟨g, j, none⟩ (.slice (some ⟨wr.heap.size, 0, none⟩) 0 (nb l (j : Int)).length)) (some g) := by
        refine ⟨hgrow6.os.trans hgr.os, hgrow6.tape.trans hgr.tape, hgrow6.output.trans hgr.output, by have := hgrow6.size; simp; omega, fun k hk hne => ?_⟩
        have hkg : k ≠ g := fun e => hne (by rw [e])
        exact ((Below.heap_setCell _ _ _ _ hkg).trans (hgrow6.block k (by omega) (by simp))).trans (hgr.block k hk hne)
      exact ⟨⟨j + 1, _, by omega, by go_num, hH.step hlt hgl4 hgs hgrow6 hown6, hgr6⟩, by simp [intOf]; omega⟩
    · obtain rfl : j = N := by omega
      have hN := hH.full hgl4
      have z1 := (hgr.cell_far ⟨w.heap.size, 1, none⟩ (by show w.heap.size < _; omega) (by simp; omega)).trans y1
      have hbr : Below g w4 wr := ⟨hgr.os, hgr.tape, hgr.output, hgr.size, fun k hk => hgr.block k (by omega) (by simp; omega)⟩
      have hbwr := hbw4.trans (hbr.mono (by omega))
      have hszr := hgr.size
      clear hH hgr hdI' hrow4 y0 y1 hki hkz0 hkz1 hkz2
      generalize w4.heap.size = h0 at hN hgl4 hszr
      go_wp2
      go_loopw [31] (fun i w5 => ∃ (i' : Nat), i' ≤ l.length ∧ i = .int .i64 i' ∧ NearI j g h0 bs (fun v => (nb l (v : Int)).length) (fun v => nb (l.take i') (v : Int)) w5 ∧ Below g wr w5 ∧ h0 ≤ w5.heap.size) (fun i _ => l.length - (intOf i).toNat)
      case atStart => exact ⟨0, Nat.zero_le _, rfl, hN, Below.refl _ _, hszr⟩
      case round =>
        obtain ⟨i', hi', rfl, hI, hb, hs5⟩ := hrel
        have hbw5 := hbwr.trans (hb.mono (by omega))
        by_cases hlt : i' < l.length
        · obtain ⟨b, off, rfl, hbb, hcap, hc, -⟩ := hl.open hlt
          obtain ⟨c0, c1, c2⟩ := hc _ hbw5 i' hlt
          have hok := hR.each l[i'] (List.getElem_mem hlt)
          unfold okE at hok
          obtain ⟨u, hu⟩ : ∃ u : Nat, l[i'].1 = (u : Int) := ⟨l[i'].1.toNat, by omega⟩
          obtain ⟨v, hv⟩ : ∃ v : Nat, l[i'].2.1 = (v : Int) := ⟨l[i'].2.1.toNat, by omega⟩
          have huN : u < j := by omega
          have hvN : v < j := by omega
          have hne : u ≠ v := by omega
          have huN' : (u : Int) < (j : Int) := by omega
          have hvN' : (v : Int) < (j : Int) := by omega
          have hjl : (i' : Int) < (l.length : Int) := by omega
          have HF : Hid ((fun x : Nat => nb (l.take (i' + 1)) (x : Int)) = upd (upd (fun x : Nat => nb (l.take i') (x : Int)) u (v : Int)) v (u : Int)) := by
            unfold Hid
            funext x
            rw [nb_snoc hlt]
            unfold upd nbOf
            rw [hu, hv]
            by_cases hxv : x = v
            · subst hxv
              have h1 : ¬ ((u : Int) = (x : Int)) := by omega
              have h2 : ¬ x = u := by omega
              simp [h1, h2]
            · by_cases hxu : x = u
              · subst hxu
                simp [hxv]
              · have h1 : ¬ ((u : Int) = (x : Int)) := by omega
                have h2 : ¬ ((v : Int) = (x : Int)) := by omega
                simp [hxv, hxu, h1, h2]
          have hpu : (nb (l.take i') (u : Int)).length + 1 ≤ (nb l (u : Int)).length := by
            have h1 := nb_le l (u : Int) (i' + 1)
            rw [nb_snoc hlt, List.length_append] at h1
            unfold nbOf at h1
            rw [hu, if_pos rfl] at h1
            simpa using h1
          have hpv : (nb (l.take i') (v : Int)).length + 1 ≤ (nb l (v : Int)).length := by
            have h1 := nb_le l (v : Int) (i' + 1)
            rw [nb_snoc hlt, List.length_append] at h1
            unfold nbOf at h1
            rw [hu, hv, if_neg (by omega), if_pos rfl] at h1
            simpa using h1
          rw [hu] at c0
          rw [hv] at c1
          have hP1 := hI.push huN (v : Int) hpu
          have hlen2 : (upd (fun x : Nat => nb (l.take i') (x : Int)) u (v : Int) v).length + 1 ≤ (nb l (v : Int)).length := by
            unfold upd; rw [if_neg (Ne.symm hne)]; exact hpv
          have o1 := hI.row.cell (rowsV_at huN)
          have fo1 := hI.row.frozen u
          obtain ⟨rest, hBu, hnu, hcu, -, hbu⟩ := owns_ints (hI.own u huN)
          have hgl5 := hI.row.lt
          have hbl5v : bs.getD v 0 < wr.heap.size := by obtain ⟨_, h, _⟩ := owns_ints (hI.own v hvN); exact h.lt
          have hbl5 := hBu.lt
          have hbg : bs.getD u 0 ≠ g := by omega
          obtain ⟨z, hz⟩ : ∃ z, wr.cell? ⟨bs.getD u 0, (nb (l.take i') (u : Int)).length, none⟩ = some z := by
            refine ⟨_, hBu.cell (List.getElem?_eq_getElem ?_)⟩
            simp only [List.length_append, List.length_map]; omega
          have fz := hBu.frozen (nb (l.take i') (u : Int)).length
          have HI : Hid _ := hI
          have hb2 : Below g wr ((wr.setCell ⟨bs.getD u 0, (nb (l.take i') (u : Int)).length, none⟩ (.int .i64 (v : Int))).setCell ⟨g, u, none⟩ (.slice (some ⟨bs.getD u 0, 0, none⟩) ((nb (l.take i') (u : Int)).length + 1) (nb l (u : Int)).length)) := ((Below.refl _ _).setCell (p := ⟨bs.getD u 0, _, none⟩) (by simp only; omega) _).setCell (p := ⟨g, u, none⟩) (Nat.le_refl _) _
          have HP1 : Hid _ := hP1
          have HB2 : Hid _ := hb2
          clear hc hok hu hv hI hBu hP1 hb2
          generalize (nb (l.take i') (u : Int)).length = pu at *
          generalize hdu : (nb l (u : Int)).length = du at *
          generalize bs.getD u 0 = bu at *
          generalize l[i'].2.2 = wv at c2
          go_wp2
          go_big_region_o
          have hsz2 : ((wr.setCell ⟨bu, pu, none⟩ (.int .i64 (v : Int))).setCell ⟨g, u, none⟩ (.slice (some ⟨bu, 0, none⟩) (pu + 1) du)).heap.size = wr.heap.size := by simp
          have hgr2 : Grew ((wr.setCell ⟨bu, pu, none⟩ (.int .i64 (v : Int))).setCell ⟨g, u, none⟩ (.slice (some ⟨bu, 0, none⟩) (pu + 1) du)) (((((wr.setCell ⟨bu, pu, none⟩ (.int .i64 (v : Int))).setCell ⟨g, u, none⟩ (.slice (some ⟨bu, 0, none⟩) (pu + 1) du)).alloc (.cells #[.int .i64 (u : Int), .int .i64 (v : Int), .int .i64 wv] 47)).alloc (.cells #[.int .i64 (v : Int)] 3)).drew) := (((Grew.refl _).alloc _).alloc _).drewN 1
          have hI2 := HP1.out.go hgr2.below
          have hb3 : Below g wr (((((wr.setCell ⟨bu, pu, none⟩ (.int .i64 (v : Int))).setCell ⟨g, u, none⟩ (.slice (some ⟨bu, 0, none⟩) (pu + 1) du)).alloc (.cells #[.int .i64 (u : Int), .int .i64 (v : Int), .int .i64 wv] 47)).alloc (.cells #[.int .i64 (v : Int)] 3)).drew) := HB2.out.trans (hgr2.below.mono (by rw [hsz2]; omega))
          have e0 : (((((wr.setCell ⟨bu, pu, none⟩ (.int .i64 (v : Int))).setCell ⟨g, u, none⟩ (.slice (some ⟨bu, 0, none⟩) (pu + 1) du)).alloc (.cells #[.int .i64 (u : Int), .int .i64 (v : Int), .int .i64 wv] 47)).alloc (.cells #[.int .i64 (v : Int)] 3)).drew).cell? ⟨wr.heap.size, 0, none⟩ = some (.int .i64 (u : Int)) := by go_simp
          have e1 : (((((wr.setCell ⟨bu, pu, none⟩ (.int .i64 (v : Int))).setCell ⟨g, u, none⟩ (.slice (some ⟨bu, 0, none⟩) (pu + 1) du)).alloc (.cells #[.int .i64 (u : Int), .int .i64 (v : Int), .int .i64 wv] 47)).alloc (.cells #[.int .i64 (v : Int)] 3)).drew).cell? ⟨wr.heap.size, 1, none⟩ = some (.int .i64 (v : Int)) := by go_simp
          have hs6 : wr.heap.size < (((((wr.setCell ⟨bu, pu, none⟩ (.int .i64 (v : Int))).setCell ⟨g, u, none⟩ (.slice (some ⟨bu, 0, none⟩) (pu + 1) du)).alloc (.cells #[.int .i64 (u : Int), .int .i64 (v : Int), .int .i64 wv] 47)).alloc (.cells #[.int .i64 (v : Int)] 3)).drew).heap.size := by simp; omega
          generalize ((((wr.setCell ⟨bu, pu, none⟩ (.int .i64 (v : Int))).setCell ⟨g, u, none⟩ (.slice (some ⟨bu, 0, none⟩) (pu + 1) du)).alloc (.cells #[.int .i64 (u : Int), .int .i64 (v : Int), .int .i64 wv] 47)).alloc (.cells #[.int .i64 (v : Int)] 3)).drew = w6 at hI2 hb3 e0 e1 hs6 ⊢
          clear HP1 HB2 hgr2 hsz2 o1 fo1 hz fz
          have hP2 := hI2.push hvN (u : Int) hlen2
          have o2 := hI2.row.cell (rowsV_at hvN)
          have fo2 := hI2.row.frozen v
          obtain ⟨rest2, hBv, hnv, hcv, -, hbv⟩ := owns_ints (hI2.own v hvN)
          have hgl6 := hI2.row.lt
          have hbl6 := hBv.lt
          have hbg2 : bs.getD v 0 ≠ g := by omega
          obtain ⟨z2, hz2⟩ : ∃ z, w6.cell? ⟨bs.getD v 0, (upd (fun x : Nat => nb (l.take i') (x : Int)) u (v : Int) v).length, none⟩ = some z := by
            refine ⟨_, hBv.cell (List.getElem?_eq_getElem ?_)⟩
            simp only [List.length_append, List.length_map]; omega
          have fz2 := hBv.frozen (upd (fun x : Nat => nb (l.take i') (x : Int)) u (v : Int) v).length
          have hb4 : Below g wr ((w6.setCell ⟨bs.getD v 0, (upd (fun x : Nat => nb (l.take i') (x : Int)) u (v : Int) v).length, none⟩ (.int .i64 (u : Int))).setCell ⟨g, v, none⟩ (.slice (some ⟨bs.getD v 0, 0, none⟩) ((upd (fun x : Nat => nb (l.take i') (x : Int)) u (v : Int) v).length + 1) (nb l (v : Int)).length)) := (hb3.setCell (p := ⟨bs.getD v 0, _, none⟩) (by simp only; omega) _).setCell (p := ⟨g, v, none⟩) (Nat.le_refl _) _
          rw [← HF.out] at hP2
          have HP2 : Hid _ := hP2
          have HB4 : Hid _ := hb4
          clear hI2 hBv hP2 hb4 hnv hcv
          generalize (upd (fun x : Nat => nb (l.take i') (x : Int)) u (v : Int) v).length = pv at *
          generalize (nb l (v : Int)).length = dv at *
          have hbe : bs.getD v 0 ≠ wr.heap.size := by omega
          have hge : g ≠ wr.heap.size := by omega
          have hbg2' : g ≠ bs.getD v 0 := by omega
          have HB0 : Hid _ := hb
          have HZ : Hid (h0 ≤ w6.heap.size ∧ g ≤ w6.heap.size) := ⟨by omega, by omega⟩
          have hgr3 : Grew ((w6.setCell ⟨bs.getD v 0, pv, none⟩ (.int .i64 (u : Int))).setCell ⟨g, v, none⟩ (.slice (some ⟨bs.getD v 0, 0, none⟩) (pv + 1) dv)) ((((w6.setCell ⟨bs.getD v 0, pv, none⟩ (.int .i64 (u : Int))).setCell ⟨g, v, none⟩ (.slice (some ⟨bs.getD v 0, 0, none⟩) (pv + 1) dv)).alloc (.cells #[.int .i64 (u : Int)] 3)).drew) := ((Grew.refl _).alloc _).drewN 1
          have hsz3 : ((w6.setCell ⟨bs.getD v 0, pv, none⟩ (.int .i64 (u : Int))).setCell ⟨g, v, none⟩ (.slice (some ⟨bs.getD v 0, 0, none⟩) (pv + 1) dv)).heap.size = w6.heap.size := by simp
          have HI3 : Hid _ := HP2.out.go hgr3.below
          have HB5 : Hid (Below g wr ((((w6.setCell ⟨bs.getD v 0, pv, none⟩ (.int .i64 (u : Int))).setCell ⟨g, v, none⟩ (.slice (some ⟨bs.getD v 0, 0, none⟩) (pv + 1) dv)).alloc (.cells #[.int .i64 (u : Int)] 3)).drew)) := HB4.out.trans (hgr3.below.mono (by rw [hsz3]; exact HZ.out.2))
          have HS7 : Hid (h0 ≤ ((((w6.setCell ⟨bs.getD v 0, pv, none⟩ (.int .i64 (u : Int))).setCell ⟨g, v, none⟩ (.slice (some ⟨bs.getD v 0, 0, none⟩) (pv + 1) dv)).alloc (.cells #[.int .i64 (u : Int)] 3)).drew).heap.size) := by have := HZ.out.1; unfold Hid; simp; omega
          have HLT : Hid (i' < l.length) := hlt
          clear hgr3 hsz3 HP2 HB4
          clear hcu hpu hpv c0 c1 c2 hb hbl5 hbl5v hbg HF HI hl z1 hbb hcap hbw5 hi' hs5 hb3 hbu hbv hgl5 hbw4 hbwr hszr hN hR hn1 hgd4 hbr hgl3 hgd hbox hjl huN huN'
          generalize bs.getD v 0 = bv at *
          go_wp2
          refine wp_region_held_drew (S := (fun w' : World => w'.cell? ⟨wr.heap.size, 0, none⟩ = some (.int .i64 (u : Int)) ∧ w'.cell? ⟨wr.heap.size, 1, none⟩ = some (.int .i64 (v : Int)))) (by kernel_rfl) ?_ (fun hHeld => ?_)
          · (try dsimp only); go_keep
          refine wpAnyH_take (i := 0) (v := ?_) rfl (by kernel_rfl) (by kernel_rfl) (by kernel_rfl) (fun _ _ _ h => h) (Or.inl ⟨by rfl, ?_⟩) (by assumption) ?_
          rotate_left
          · intro w hSw; (try dsimp only at hSw); go_simp; (try with_reducible rfl)
          try simp only [Act.put, List.setIfInBounds_toArray]
          refine wpAnyH_take (i := 1) (v := ?_) rfl (by kernel_rfl) (by kernel_rfl) (by kernel_rfl) (fun _ _ _ h => h) (Or.inl ⟨by rfl, ?_⟩) (by assumption) ?_
          rotate_left
          · intro w hSw; (try dsimp only at hSw); go_simp; (try with_reducible rfl)
          try simp only [Act.put]
          refine wpAnyH_take (i := 2) (v := ?_) rfl (by kernel_rfl) (by kernel_rfl) (by kernel_rfl) (fun _ _ _ h => h) (Or.inl ⟨by rfl, ?_⟩) (by assumption) ?_
          rotate_left
          · intro w hSw; (try dsimp only at hSw); go_simp; (try with_reducible rfl)
          try simp only [Act.put]
          refine wpAnyH_take (i := 3) (v := ?_) rfl (by kernel_rfl) (by kernel_rfl) (by kernel_rfl) (fun _ _ _ h => h) (Or.inl ⟨by rfl, ?_⟩) (by assumption) ?_
          rotate_left
          · intro w hSw; (try dsimp only at hSw); go_simp; (try with_reducible rfl)
          try simp only [Act.put]
          refine wpAnyH_take (i := 4) (v := ?_) rfl (by kernel_rfl) (by kernel_rfl) (by kernel_rfl) (fun _ _ _ h => h) (Or.inl ⟨by rfl, ?_⟩) (by assumption) ?_
          rotate_left
          · intro w hSw; (try dsimp only at hSw); go_simp; (try with_reducible rfl)
          try simp only [Act.put]
          refine wpAnyH_take (i := 5) (v := ?_) rfl (by kernel_rfl) (by kernel_rfl) (by kernel_rfl) (fun _ _ _ h => h) (Or.inl ⟨by rfl, ?_⟩) (by assumption) ?_
          rotate_left
          · intro w hSw; (try dsimp only at hSw); go_simp; (try with_reducible rfl)
          try simp only [Act.put]
          refine wpAnyH_take (i := 6) (v := ?_) rfl (by kernel_rfl) (by kernel_rfl) (by kernel_rfl) (fun _ _ _ h => h) (Or.inl ⟨by rfl, ?_⟩) (by assumption) ?_
          rotate_left
          · intro w hSw; (try dsimp only at hSw); go_simp; (try with_reducible rfl)
          try simp only [Act.put]
          refine wpAnyH_take (i := 8) (v := ?_) rfl (by kernel_rfl) (by kernel_rfl) (by kernel_rfl) (fun _ _ _ h => h) (Or.inl ⟨by rfl, ?_⟩) (by assumption) ?_
          rotate_left
          · intro w hSw; (try dsimp only at hSw); go_simp; (try with_reducible rfl)
          try simp only [Act.put]
          refine wpAnyH_take (i := 9) (v := ?_) rfl (by kernel_rfl) (by kernel_rfl) (by kernel_rfl) (fun _ _ _ h => h) (Or.inl ⟨by rfl, ?_⟩) (by assumption) ?_
          rotate_left
          · intro w hSw; (try dsimp only at hSw); go_simp; (try with_reducible rfl)
          try simp only [Act.put]
          refine wpAnyH_ready (rs := [7, 10]) (by kernel_rfl) (by simp) ?_
          refine AllReadyH.cons rfl (fun K hK => ?_) (AllReadyH.cons rfl (fun K hK => ?_) AllReadyH.nil)
          · go_simp
            refine hK.out _ _ ?_ (fun hHeld => ?_)
            · (try dsimp only); go_keep
            clear hK K
            try simp only [Act.put, List.setIfInBounds_toArray, List.set_cons_zero, List.set_cons_succ]
            refine wpAnyH_ready (rs := [10]) (by kernel_rfl) (by simp) ?_
            refine AllReadyH.cons rfl (fun K hK => ?_) AllReadyH.nil
            go_simp
            refine hK.out _ _ ?_ (fun hHeld => ?_)
            · (try dsimp only); go_keep
            clear hK K
            try simp only [Act.put, List.setIfInBounds_toArray, List.set_cons_zero, List.set_cons_succ]
            refine wpAnyH_ready (rs := [11]) (by kernel_rfl) (by simp) ?_
            refine AllReadyH.cons rfl (fun K hK => ?_) AllReadyH.nil
            go_simp
            refine hK.out _ _ ?_ (fun hHeld => ?_)
            · (try dsimp only); go_keep
            clear hK K
            try simp only [Act.put, List.setIfInBounds_toArray, List.set_cons_zero, List.set_cons_succ]
            refine wpAnyH_take (i := 12) (v := ?_) rfl (by kernel_rfl) (by kernel_rfl) (by kernel_rfl) (fun _ _ _ h => h) (Or.inl ⟨by rfl, ?_⟩) (by assumption) ?_
            rotate_left
            · intro w hSw; (try dsimp only at hSw); go_simp; (try with_reducible rfl)
            try simp only [Act.put, List.setIfInBounds_toArray]
            refine wpAnyH_ready (rs := [13]) (by kernel_rfl) (by simp) ?_
            refine AllReadyH.cons rfl (fun K hK => ?_) AllReadyH.nil
            go_simp
            refine hK.out _ _ ?_ (fun hHeld => ?_)
            · (try dsimp only); go_keep
            clear hK K
            try simp only [Act.put, List.setIfInBounds_toArray, List.set_cons_zero, List.set_cons_succ]
            refine wpAnyH_done (by kernel_rfl) ?_ _
            go_wp2
            exact ⟨⟨i' + 1, HLT.out, by go_num, HI3.out, HB0.out.trans HB5.out, HS7.out⟩, by have := HLT.out; simp [intOf]; omega⟩
          · go_simp
            refine hK.out _ _ ?_ (fun hHeld => ?_)
            · (try dsimp only); go_keep
            clear hK K
            try simp only [Act.put, List.setIfInBounds_toArray, List.set_cons_zero, List.set_cons_succ]
            refine wpAnyH_ready (rs := [7]) (by kernel_rfl) (by simp) ?_
            refine AllReadyH.cons rfl (fun K hK => ?_) AllReadyH.nil
            go_simp
            refine hK.out _ _ ?_ (fun hHeld => ?_)
            · (try dsimp only); go_keep
            clear hK K
            try simp only [Act.put, List.setIfInBounds_toArray, List.set_cons_zero, List.set_cons_succ]
            refine wpAnyH_ready (rs := [11]) (by kernel_rfl) (by simp) ?_
            refine AllReadyH.cons rfl (fun K hK => ?_) AllReadyH.nil
            go_simp
            refine hK.out _ _ ?_ (fun hHeld => ?_)
            · (try dsimp only); go_keep
            clear hK K
            try simp only [Act.put, List.setIfInBounds_toArray, List.set_cons_zero, List.set_cons_succ]
            refine wpAnyH_take (i := 12) (v := ?_) rfl (by kernel_rfl) (by kernel_rfl) (by kernel_rfl) (fun _ _ _ h => h) (Or.inl ⟨by rfl, ?_⟩) (by assumption) ?_
            rotate_left
            · intro w hSw; (try dsimp only at hSw); go_simp; (try with_reducible rfl)
            try simp only [Act.put, List.setIfInBounds_toArray]
            refine wpAnyH_ready (rs := [13]) (by kernel_rfl) (by simp) ?_
            refine AllReadyH.cons rfl (fun K hK => ?_) AllReadyH.nil
            go_simp
            refine hK.out _ _ ?_ (fun hHeld => ?_)
            · (try dsimp only); go_keep
            clear hK K
            try simp only [Act.put, List.setIfInBounds_toArray, List.set_cons_zero, List.set_cons_succ]
            refine wpAnyH_done (by kernel_rfl) ?_ _
            go_wp2
            exact ⟨⟨i' + 1, HLT.out, by go_num, HI3.out, HB0.out.trans HB5.out, HS7.out⟩, by have := HLT.out; simp [intOf]; omega⟩
        · obtain rfl : i' = l.length := by omega
          rw [List.take_length] at hI
          have hwg : w.heap.size ≤ g := by omega
          go_wp2
          go_ret
          exact ⟨g, h0, bs, _, rfl, hI, hwg, hbw5⟩
theorem near_any (N : Nat) (l : List Ed) (hR : RightG (N : Int) l) (sv : Value) (w : World) (hl : Edges w.heap.size w sv l) :
    Calls Try.prog 35 #[.agg #[.int .i64 (N : Int), sv]] w fun r w' => ∃ nv, r = .returned nv ∧ Lsts w'.heap.size w' nv (nearL N l) ∧ Below w.heap.size w w' :=
  (near_at N l hR sv w hl).mono fun _ _ ⟨_, _, _, _, h1, h2, _, h3⟩ => ⟨_, h1, h2.lsts, h3⟩

end Go.Proofs.Ytdgecflljgnobaa
