/-
  The contracts of levels.Of and levels.Kept.
-/
import Derived.Test.YtdgecflljgnobaaXPBools
import Derived.Test.YtdgecflljgnobaaXLvSpread
import Derived.Test.YtdgecflljgnobaaXLvRef
namespace Go.Proofs.Ytdgecflljgnobaa
open Go Go.Proofs Go.RowKit

set_option maxRecDepth 100000 in
set_option maxHeartbeats 2000000 in
theorem of_any (N : Nat) (l : List Ed) (hR : RightG (N : Int) l) (sv : Value) (w : World) (hl : Edges w.heap.size w sv l) :
    Calls Try.prog 9 #[.agg #[.int .i64 (N : Int), sv]] w fun r w' => ∃ (g : Nat) (L : List Int), r = .returned (.tuple #[.slice (some ⟨g, 0, none⟩) N N, .int .i64 0]) ∧ w.heap.size < g ∧ Blk 3 w' g (L.map (Value.int .i64)) ∧ Lev N l L ∧ Below w.heap.size w w' := by
  have hg1 : Grew w (w.alloc (.cells #[.int .i64 (N : Int), sv] 24)) := (Grew.refl w).alloc _
  have hl1 := hl.go hg1.below
  obtain ⟨p, c, rfl⟩ := hl.len
  have hrc := fun W h => right_any (N : Int) l (.slice p l.length c) W h
  rw [right_iff.2 hR] at hrc
  go_enter Try.func9, Try.ntmps9
  go_wp2_with fail
  refine (hrc _ hl1).mono ?_
  rintro e w2 ⟨rfl, hg2⟩
  have q0 := (box2 _ hg2).1
  have q1 := (box2 _ hg2).2
  have hbw := (hg1.trans hg2).below
  have hsp := spread_any N l hR (.slice p l.length c) w2 (hl.go hbw)
  clear hrc hl1
  go_wp2_with fail
  refine hsp.mono ?_
  rintro e w3 ⟨g, L, rfl, hg, hB, hL, hb⟩
  clear hsp q0 q1
  go_wp2
  go_ret2
  exact ⟨g, L, rfl, Nat.lt_of_le_of_lt hbw.size hg, hB, hL, hbw.trans (hb.mono hbw.size)⟩

set_option maxRecDepth 100000 in
set_option maxHeartbeats 2000000 in
theorem of_bad (n : Int) (l : List Ed) (hR : rightK n l ≠ 0) (sv : Value) (w : World) (hl : Edges w.heap.size w sv l) :
    Calls Try.prog 9 #[.agg #[.int .i64 n, sv]] w fun r w' => r = .returned (.tuple #[.slice none 0 0, .int .i64 1]) ∧ Below w.heap.size w w' := by
  have hg1 : Grew w (w.alloc (.cells #[.int .i64 n, sv] 24)) := (Grew.refl w).alloc _
  have hl1 := hl.go hg1.below
  obtain ⟨p, c, rfl⟩ := hl.len
  have hrc := fun W h => right_any n l (.slice p l.length c) W h
  have hk : (rightK n l != 0) = true := by simpa using hR
  generalize rightK n l = k at *
  go_enter Try.func9, Try.ntmps9
  go_wp2_with fail
  refine (hrc _ hl1).mono ?_
  rintro e w2 ⟨rfl, hg2⟩
  have hbw := (hg1.trans hg2).below
  clear hrc hl1
  go_wp2
  go_ret2
  exact ⟨rfl, hbw⟩

/-- What stands against a shift. -/
def fitL (n : Int) (l : List Ed) (k s : Int) : Int := if rightK n l ≠ 0 then 1 else if k < 1 ∨ 8 < k ∨ s < 0 ∨ k < s then 11 else 0
theorem fitL_ok {n : Int} {l : List Ed} {k s : Int} : fitL n l k s = 0 ↔ RightG n l ∧ 1 ≤ k ∧ k ≤ 8 ∧ 0 ≤ s ∧ s ≤ k := by
  unfold fitL
  rw [← right_iff]
  by_cases h : rightK n l = 0
  · by_cases h2 : k < 1 ∨ 8 < k ∨ s < 0 ∨ k < s
    · simp [h, h2]; omega
    · simp [h, h2]; omega
  · simp [h]

set_option maxRecDepth 100000 in
set_option maxHeartbeats 4000000 in
theorem fitsL_any (n : Int) (l : List Ed) (k s : Int) (sv : Value) (w : World) (hl : Edges w.heap.size w sv l) :
    Calls Try.prog 25 #[.agg #[.int .i64 n, sv], .int .i64 k, .int .i64 s] w fun r w' => r = .returned (.int .i64 (fitL n l k s)) ∧ Below w.heap.size w w' := by
  have hg1 : Grew w (w.alloc (.cells #[.int .i64 n, sv] 24)) := (Grew.refl w).alloc _
  have hl1 := hl.go hg1.below
  obtain ⟨p, c, rfl⟩ := hl.len
  have hrc := right_any n l (.slice p l.length c) _ hl1
  unfold fitL
  by_cases hk : rightK n l = 0
  · rw [if_neg (by simp [hk])]
    rw [hk] at hrc
    clear hk
    obtain ⟨q, HQ⟩ : ∃ q : Int, Hid ((if k < 1 ∨ 8 < k ∨ s < 0 ∨ k < s then (11 : Int) else 0) = q) := ⟨_, rfl⟩
    rw [HQ.out]
    go_enter Try.func25, Try.ntmps25
    go_wp2_with fail
    refine hrc.mono ?_
    rintro e w2 ⟨rfl, hg2⟩
    have hbw := (hg1.trans hg2).below
    clear hrc hl1
    by_cases h1 : k < 1
    · obtain rfl : (11 : Int) = q := by rw [← HQ.out, if_pos (.inl h1)]
      go_wp2
      go_ret
      exact ⟨rfl, hbw⟩
    · by_cases h2 : 8 < k
      · obtain rfl : (11 : Int) = q := by rw [← HQ.out, if_pos (.inr (.inl h2))]
        go_wp2
        go_ret
        exact ⟨rfl, hbw⟩
      · by_cases h3 : s < 0
        · obtain rfl : (11 : Int) = q := by rw [← HQ.out, if_pos (.inr (.inr (.inl h3)))]
          go_wp2
          go_ret
          exact ⟨rfl, hbw⟩
        · by_cases h4 : k < s
          · obtain rfl : (11 : Int) = q := by rw [← HQ.out, if_pos (.inr (.inr (.inr h4)))]
            go_wp2
            go_ret
            exact ⟨rfl, hbw⟩
          · obtain rfl : (0 : Int) = q := by rw [← HQ.out, if_neg (by omega)]
            go_wp2
            go_ret
            exact ⟨rfl, hbw⟩
  · rw [if_pos hk]
    have hk' : (rightK n l != 0) = true := by simpa using hk
    generalize rightK n l = q at *
    go_enter Try.func25, Try.ntmps25
    go_wp2_with fail
    refine hrc.mono ?_
    rintro e w2 ⟨rfl, hg2⟩
    have hbw := (hg1.trans hg2).below
    clear hrc hl1
    go_wp2
    go_ret
    exact ⟨rfl, hbw⟩

/-- Which vertices stay. -/
def staysL (D : List Int) (k s : Int) : List Bool := D.map fun y => (Int.tmod (y - s) (k + 1) != 0)
theorem staysL_len (D : List Int) (k s : Int) : (staysL D k s).length = D.length := by simp [staysL]
/-- Those below j alone. -/
def someL (f : Int → Bool) (D : List Int) (j : Nat) : List Bool := (List.range D.length).map fun v => if v < j then f (D.getD v 0) else false
theorem someL_len (f : Int → Bool) (D : List Int) (j : Nat) : (someL f D j).length = D.length := by simp [someL]
theorem someL_zero (f : Int → Bool) (D : List Int) : someL f D 0 = List.replicate D.length false := by
  apply List.ext_getElem
  · simp [someL]
  · intro v h1 h2; simp [someL]
theorem someL_step (f : Int → Bool) {D : List Int} {j : Nat} (h : j < D.length) : (someL f D j).set j (f (D.getD j 0)) = someL f D (j + 1) := by
  apply List.ext_getElem?
  intro v
  by_cases hv : v < D.length
  · rw [List.getElem?_set]
    by_cases e : j = v
    · subst e; simp [someL, h]
    · simp only [if_neg e, someL, List.getElem?_map, List.getElem?_range hv, Option.map_some]
      by_cases h2 : v < j
      · rw [if_pos h2, if_pos (by omega)]
      · rw [if_neg h2, if_neg (by omega)]
  · rw [List.getElem?_eq_none (by rw [List.length_set, someL_len]; omega), List.getElem?_eq_none (by rw [someL_len]; omega)]
theorem someL_full (f : Int → Bool) (D : List Int) : someL f D D.length = D.map f := by
  apply List.ext_getElem
  · simp [someL]
  · intro v h1 h2
    have hv : v < D.length := by simpa using h2
    simp [someL, hv]

set_option maxRecDepth 100000 in
set_option maxHeartbeats 4000000 in
theorem kept_any (N : Nat) (l : List Ed) (hR : RightG (N : Int) l) (k s : Int) (hk1 : 1 ≤ k) (hk8 : k ≤ 8) (hs0 : 0 ≤ s) (hsk : s ≤ k) (sv : Value) (w : World) (hl : Edges w.heap.size w sv l) :
    Calls Try.prog 13 #[.agg #[.int .i64 (N : Int), sv], .int .i64 k, .int .i64 s] w fun r w' => ∃ (g : Nat) (D : List Int), r = .returned (.tuple #[.slice (some ⟨g, 0, none⟩) N N, .int .i64 0]) ∧ w.heap.size < g ∧ Blk 4 w' g ((staysL D k s).map Value.bool) ∧ Lev N l D ∧ Below w.heap.size w w' := by
  obtain ⟨p, c, rfl⟩ := hl.len
  have hn1 := hR.n1
  obtain ⟨w1, hw1⟩ : ∃ W, (w.alloc (.cells #[.int .i64 (N : Int), .slice p l.length c] 24)) = W := ⟨_, rfl⟩
  have hb1 : Below w.heap.size w w1 := by rw [← hw1]; exact (Below.refl _ _).alloc (Nat.le_refl _) _
  have hX1 : Blk 24 w1 w.heap.size [.int .i64 (N : Int), .slice p l.length c] := by rw [← hw1]; exact heap_alloc_new w _
  have x0 := hX1.cell (j := 0) rfl
  have x1 := hX1.cell (j := 1) rfl
  have hfit := fitsL_any (N : Int) l k s _ w1 (hl.go hb1)
  rw [fitL_ok.2 ⟨hR, hk1, hk8, hs0, hsk⟩] at hfit
  go_enter Try.func13, Try.ntmps13
  go_wp2_with fail
  refine hfit.mono ?_
  rintro e w2 ⟨rfl, hb2⟩
  clear hfit x0 x1
  have hX2 := hX1.go hb2
  have x0 := hX2.cell (j := 0) rfl
  have x1 := hX2.cell (j := 1) rfl
  obtain ⟨i0, hi, hz0, hz1, hz2⟩ := info_parts infoBo
  have hsp := fun W hb => spread_any N l hR _ W ((hl.go (hb1.trans (hb2.mono hb1.size))).go (W' := W) hb)
  go_wp2_with (at_make; refine wpList_make_full _ rfl _ _ 35 rfl w2.heap.size 4 i0 (.bool false) 1 Try.underlying35 hi hz0 hz1 .i64 .i64 _ _ N rfl rfl rfl rfl (by rw [hz2]; omega) (by unfold maxLen; omega) (Nat.le_refl _) ?_; intro w3 hown hgrow; have hb3 : Below w2.heap.size w2 w3 := (Below.refl _ _).grown hgrow (Nat.le_refl _) (fun k e => by cases e); have hX3 := hX2.go hb3; have y0 := hX3.cell (j := 0) rfl; have y1 := hX3.cell (j := 1) rfl; have hsp3 := hsp w3 hb3)
  refine hsp3.mono ?_
  clear hsp hsp3
  rintro e w4 ⟨gd, D, rfl, hgd, hBD, hD, hb4⟩
  have hrow := Blk.made hown
  rw [bools_madeP, ← hD.len, ← someL_zero (fun y => (Int.tmod (y - s) (k + 1) != 0)) D] at hrow
  have hG0 := hrow.go hb4
  have HW : Hid (Below w.heap.size w w4) := hb1.trans ((hb2.trans (hb3.mono hb2.size |>.trans (hb4.mono (Nat.le_trans hb2.size hb3.size)))).mono hb1.size)
  have hx1 : w.heap.size < w2.heap.size := hX2.lt
  have h3 := hrow.lt
  have hDl := hD.len
  have hne : w2.heap.size ≠ gd := by omega
  clear hb1 hX1 hb2 hX2 x0 x1 hown hgrow hb3 hX3 y0 y1 hb4 hrow hi hz0 hz1 hz2 hw1 h3
  generalize w2.heap.size = g at *
  go_wp2
  go_loopw [25] (fun i wr => ∃ j : Nat, j ≤ N ∧ i = .int .i64 (j : Int) ∧ Hid (Blk 4 wr g ((someL (fun y => (Int.tmod (y - s) (k + 1) != 0)) D j).map Value.bool)) ∧ Hid (Blk 3 wr gd (D.map (Value.int .i64))) ∧ Hid (Below g w4 wr)) (fun i _ => N - (intOf i).toNat)
  case atStart => exact ⟨0, Nat.zero_le _, rfl, hG0, hBD, Below.refl _ _⟩
  case round =>
    clear hG0 hBD
    obtain ⟨j, hj, rfl, HG, HD, HB⟩ := hrel
    by_cases hlt : j < N
    · have hjl : (j : Int) < (N : Int) := by omega
      have t0 := HD.out.cell (getD_cell (show j < D.length by omega))
      have u0 : wr.cell? ⟨g, j, none⟩ = some (.bool ((someL (fun y => (Int.tmod (y - s) (k + 1) != 0)) D j).getD j false)) := HG.out.cell (by rw [List.getElem?_map, List.getElem?_eq_getElem (by rw [someL_len]; omega)]; simp [someL_len, show j < D.length by omega])
      have f0 := HG.out.frozen j
      have hr := hD.ran j hlt
      have hgn := HG.out.set j (.bool ((Int.tmod (D.getD j 0 - s) (k + 1) != 0)))
      rw [← List.map_set, someL_step (fun y => (Int.tmod (y - s) (k + 1) != 0)) (by omega)] at hgn
      have HG2 : Hid _ := hgn
      have HD2 : Hid _ := HD.out.other (p := ⟨g, j, none⟩) (by show gd ≠ g; omega) (.bool ((Int.tmod (D.getD j 0 - s) (k + 1) != 0)))
      have HB2 : Hid _ := HB.out.setCell (p := ⟨g, j, none⟩) (Nat.le_refl _) (.bool ((Int.tmod (D.getD j 0 - s) (k + 1) != 0)))
      clear hgn
      generalize D.getD j 0 = d at *
      have hw1 : IntKind.i64.wrap (d - s) = d - s := wrap_i _ (by omega) (by omega)
      have hw2 : IntKind.i64.wrap (k + 1) = k + 1 := wrap_i _ (by omega) (by omega)
      have hz : ¬ (k + 1 = 0) := by omega
      go_wp2
      exact ⟨⟨j + 1, by omega, by go_num, HG2, HD2, HB2⟩, by simp [intOf]; omega⟩
    · obtain rfl : N = j := by omega
      have hN : ¬ (N : Int) < (N : Int) := by omega
      go_wp2
      go_ret2
      refine ⟨g, rfl, hx1, D, ?_, hD, HW.out.trans (HB.out.mono (by omega))⟩
      have h1 := HG.out
      rw [← hDl, someL_full] at h1
      exact h1

set_option maxRecDepth 100000 in
set_option maxHeartbeats 2000000 in
theorem kept_bad (n : Int) (l : List Ed) (k s : Int) (hF : fitL n l k s ≠ 0) (sv : Value) (w : World) (hl : Edges w.heap.size w sv l) :
    Calls Try.prog 13 #[.agg #[.int .i64 n, sv], .int .i64 k, .int .i64 s] w fun r w' => r = .returned (.tuple #[.slice none 0 0, .int .i64 (fitL n l k s)]) ∧ Below w.heap.size w w' := by
  have hg1 : Grew w (w.alloc (.cells #[.int .i64 n, sv] 24)) := (Grew.refl w).alloc _
  obtain ⟨p, c, rfl⟩ := hl.len
  have hfit := fitsL_any n l k s _ _ (hl.go hg1.below)
  have hk : (fitL n l k s != 0) = true := by simpa using hF
  generalize fitL n l k s = q at *
  go_enter Try.func13, Try.ntmps13
  go_wp2_with fail
  refine hfit.mono ?_
  rintro e w2 ⟨rfl, hb2⟩
  clear hfit
  go_wp2
  go_ret2
  exact ⟨rfl, hg1.below.trans (hb2.mono hg1.below.size)⟩
end Go.Proofs.Ytdgecflljgnobaa
