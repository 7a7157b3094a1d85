/-
  The contract of faces.Joined.
-/
import Derived.Test.YtonfhkdciaiilaaQN
import Derived.Test.YtonfhkdciaiilaaXPParts2
import Derived.Test.YtonfhkdciaiilaaXGMake
import Derived.Test.YtonfhkdciaiilaaQR
namespace Go.Proofs.Ytonfhkdciaiilaa
open Go Go.Proofs Go.RowKit

theorem ret_joined {fn : Func} {p u v : Tmp} (h : fn.results = #[.cell p 24, .tmp u, .tmp v]) {tmps : Array Value} {w : World} {b : Nat} {x y : Value} (hp : tmps.getD p undef = .pointer (some ⟨b, 0, none⟩)) (h0 : w.cell? ⟨b, 0, none⟩ = some x) (h1 : w.cell? ⟨b, 1, none⟩ = some y) :
    (results fn tmps).run Try.prog w = .ok (.tuple #[.agg #[x, y], tmps.getD u undef, tmps.getD v undef]) w := by
  have a1 := Try.isAgg24
  have a2 := Try.sizeOf24
  have hp' : tmps[p]?.getD undef = .pointer (some ⟨b, 0, none⟩) := by simpa using hp
  unfold results
  rw [h]
  go_simp

def halfR (r : List (List Int)) (j : Nat) : List (List Int) := r.take j ++ List.replicate (r.length - j) []
theorem halfR_zero (r : List (List Int)) : halfR r 0 = List.replicate r.length [] := by simp [halfR]
theorem halfR_full (r : List (List Int)) : halfR r r.length = r := by simp [halfR]
theorem halfR_set {r : List (List Int)} {j : Nat} (h : j < r.length) : (halfR r j).set j r[j] = halfR r (j + 1) := by
  unfold halfR
  obtain ⟨m, hm⟩ : ∃ m, r.length - j = m + 1 := ⟨r.length - j - 1, by omega⟩
  have e1 : (r.take j).length = j := by rw [List.length_take]; omega
  rw [List.set_append_right _ _ (by omega), e1, Nat.sub_self, hm, List.replicate_succ, List.set_cons_zero, take_snoc h, List.append_assoc]
  have : r.length - (j + 1) = m := by omega
  rw [this]
  rfl

set_option maxRecDepth 100000 in
set_option maxHeartbeats 8000000 in
theorem joined_any (N : Nat) (l : List Ed) (hR : RightG (N : Int) l) (r : List (List Int)) (hS : SysR N l r) (hP : planeK (numsL N l r) = 0) (sv rv : Value) (w : World) (hl : Edges w.heap.size w sv l) (hr : Lsts w.heap.size w rv r) :
    Calls Try.prog 19 #[.agg #[.int .i64 (N : Int), sv], rv] w fun e w' => ∃ gv lv svs h0, e = .returned (.tuple #[.agg #[.int .i64 (makeN (N : Int) (jE l (compC N l) (compC N l).length)), gv], lv, .int .i64 0]) ∧ Edges w'.heap.size w' gv (makeL (N : Int) (jE l (compC N l) (compC N l).length)) ∧ Grp h0 lv svs (jR r (compC N l) (compC N l).length) w' ∧ Below w.heap.size w w' := by
  obtain ⟨p, c, rfl⟩ := hl.len
  obtain ⟨pr, cr, rfl⟩ := hr.len
  obtain ⟨i0, hi, hz0, hz1, hz2⟩ := info_parts infoSl
  have hbA : Below w.heap.size w (w.alloc (.cells #[.int .i64 (N : Int), .slice p l.length c] 24)) := (Below.refl _ _).alloc (Nat.le_refl _) _
  have hX : Blk 24 (w.alloc (.cells #[.int .i64 (N : Int), .slice p l.length c] 24)) w.heap.size [.int .i64 (N : Int), .slice p l.length c] := heap_alloc_new w _
  have hs1 : (w.alloc (.cells #[.int .i64 (N : Int), .slice p l.length c] 24)).heap.size = w.heap.size + 1 := by simp
  generalize hw1 : w.alloc (.cells #[.int .i64 (N : Int), .slice p l.length c] 24) = w1 at *
  have hbB : Below w1.heap.size w1 (w1.alloc (.cells #[.int .i64 0, .slice none 0 0] 24)) := (Below.refl _ _).alloc (Nat.le_refl _) _
  have hY : Blk 24 (w1.alloc (.cells #[.int .i64 0, .slice none 0 0] 24)) w1.heap.size [.int .i64 0, .slice none 0 0] := heap_alloc_new w1 _
  have hX1 := hX.go hbB
  rw [hs1] at hY
  have q0 := hX1.cell (j := 0) rfl
  have q1 := hX1.cell (j := 1) rfl
  have hbw2 : Below w.heap.size w (w1.alloc (.cells #[.int .i64 0, .slice none 0 0] 24)) := hbA.trans (hbB.mono hbA.size)
  have hpl := plane_any N l hR r hS (.slice p l.length c) (.slice pr r.length cr) _ (hl.go hbw2) (hr.go hbw2)
  rw [hP] at hpl
  have HL : Hid (Edges w.heap.size w (.slice p l.length c) l) := hl
  have HRr : Hid (Lsts w.heap.size w (.slice pr r.length cr) r) := hr
  have HR : Hid (RightG (N : Int) l) := hR
  have HS : Hid (SysR N l r) := hS
  have hm1 := hR.m1
  have hn1 := hR.n1
  have HX : Hid (Blk 24 (w1.alloc (.cells #[.int .i64 0, .slice none 0 0] 24)) w.heap.size [.int .i64 (N : Int), .slice p l.length c]) := hX1
  have HY : Hid (Blk 24 (w1.alloc (.cells #[.int .i64 0, .slice none 0 0] 24)) (w.heap.size + 1) [.int .i64 0, .slice none 0 0]) := hY
  have HB2 : Hid (Below w.heap.size w (w1.alloc (.cells #[.int .i64 0, .slice none 0 0] 24))) := hbw2
  clear hl hr hX hX1 hY hbA hbB hbw2 hR hS hP
  go_enter Try.func19, Try.ntmps19
  go_wp2_with fail
  generalize w1.alloc (.cells #[.int .i64 0, .slice none 0 0] 24) = w2 at *
  refine hpl.mono ?_
  clear hpl
  rintro e w3 ⟨rfl, hb3⟩
  have HX3 : Hid (Blk 24 w3 w.heap.size [.int .i64 (N : Int), .slice p l.length c]) := HX.out.go hb3
  have HY3 : Hid (Blk 24 w3 (w.heap.size + 1) [.int .i64 0, .slice none 0 0]) := HY.out.go hb3
  have HB3 : Hid (Below w.heap.size w w3) := HB2.out.trans (hb3.mono HB2.out.size)
  clear q0 q1 HX HY HB2 hb3
  have q1 := HX3.out.cell (j := 1) rfl
  have hl4 : l.length ≤ 4194304 := by omega
  have hce := cloneE_any l hl4 (.slice p l.length c) w3 (HL.out.go HB3.out)
  go_wp2_with fail
  refine hce.mono ?_
  clear hce
  rintro e w4 ⟨sE, rfl, hO4, hb4⟩
  obtain ⟨pe, ce, rfl⟩ := owns_form hO4
  have hbE : Below w4.heap.size w4 (w4.alloc (.cells #[.slice pe l.length ce] 22)) := (Below.refl _ _).alloc (Nat.le_refl _) _
  have hVE : Blk 22 (w4.alloc (.cells #[.slice pe l.length ce] 22)) w4.heap.size [.slice pe l.length ce] := heap_alloc_new w4 _
  have hO5 := owns_below hO4 hbE
  have hb35 : Below w3.heap.size w3 (w4.alloc (.cells #[.slice pe l.length ce] 22)) := hb4.trans (hbE.mono hb4.size)
  have hs5 : (w4.alloc (.cells #[.slice pe l.length ce] 22)).heap.size = w4.heap.size + 1 := by simp
  have hEB : ∀ q, (Value.slice pe l.length ce).ownBlock = some q → q < w4.heap.size := fun q hq => (hO4.lt q hq).2
  have HEB : Hid _ := hEB
  have hr4 : r.length ≤ 1048576 := by have := HS.out.len; omega
  clear hO4 hbE q1 hEB
  go_wp2_with (at_make; generalize hw5 : w4.alloc (.cells #[.slice pe l.length ce] 22) = w5 at *; refine wpList_make_full _ rfl _ _ 25 rfl w5.heap.size 32 i0 (.slice none 0 0) 1 Try.underlying25 hi hz0 hz1 .i64 .i64 _ _ r.length rfl rfl rfl rfl (by rw [hz2]; omega) (by unfold maxLen; omega) (Nat.le_refl _) ?_; intro w6 hown hgrow)
  have hb56 : Below w5.heap.size w5 w6 := (Below.refl _ _).grown hgrow (Nat.le_refl _) (fun k e => by cases e)
  have hown3 := owns_base hown hb35.size
  rw [hs5] at hown3
  have hG6 := Grp.made hown3
  have hbV : Below w6.heap.size w6 (w6.alloc (.cells #[.slice (some ⟨w4.heap.size + 1, 0, none⟩) r.length r.length] 25)) := (Below.refl _ _).alloc (Nat.le_refl _) _
  have hVL : Blk 25 (w6.alloc (.cells #[.slice (some ⟨w4.heap.size + 1, 0, none⟩) r.length r.length] 25)) w6.heap.size [.slice (some ⟨w4.heap.size + 1, 0, none⟩) r.length r.length] := heap_alloc_new w6 _
  have hs7 : (w6.alloc (.cells #[.slice (some ⟨w4.heap.size + 1, 0, none⟩) r.length r.length] 25)).heap.size = w6.heap.size + 1 := by simp
  generalize hw7 : w6.alloc (.cells #[.slice (some ⟨w4.heap.size + 1, 0, none⟩) r.length r.length] 25) = w7 at *
  have hg6 : w4.heap.size + 1 < w6.heap.size := (hG6.own.lt _ rfl).2
  have hb57 : Below w5.heap.size w5 w7 := hb56.trans (hbV.mono hb56.size)
  have hb37 : Below w3.heap.size w3 w7 := hb35.trans (hb57.mono hb35.size)
  have hb34 := hb4.size
  have hJ7 : JI w7 w3.heap.size w7.heap.size w7.heap.size w4.heap.size w6.heap.size (w4.heap.size + 1) r.length (.slice pe l.length ce) (List.replicate r.length (.slice none 0 0)) l (halfR r 0) w7 := by
    refine ⟨hVE.go hb57, hVL, owns_below hO5 hb57, by rw [halfR_zero]; exact hG6.go hbV, fun q hq => ?_, fun sv hsv q hq => ?_, ?_, List.length_replicate .., Below.refl _ _, fun q _ _ => rfl⟩
    · have := HEB.out q hq
      refine ⟨by omega, by omega, by omega, by omega⟩
    · rw [List.eq_of_mem_replicate hsv] at hq
      cases hq
    · omega
  have HX7 : Hid (Blk 24 w7 w.heap.size [.int .i64 (N : Int), .slice p l.length c]) := HX3.out.go hb37
  have HY7 : Hid (Blk 24 w7 (w.heap.size + 1) [.int .i64 0, .slice none 0 0]) := HY3.out.go hb37
  have HB7 : Hid (Below w.heap.size w w7) := HB3.out.trans (hb37.mono HB3.out.size)
  have hY3 := HY3.out.lt
  have hX3 := HX3.out.lt
  have hin : ∀ x ∈ r, x.length ≤ 4194304 := fun x hx => by
    obtain ⟨v, hv, rfl⟩ := List.getElem_of_mem hx
    have h1 := (HS.out.perm v (by rw [← HS.out.len]; exact hv)).length_eq
    rw [List.getD_eq_getElem?_getD, List.getElem?_eq_getElem hv, Option.getD_some] at h1
    have h2 := nb_len (v : Int) l
    omega
  have HIN : Hid (∀ x ∈ r, x.length ≤ 4194304) := hin
  have hgs := HB3.out.size
  clear hin HX3 HY3 HB3 hown hown3 hgrow hG6 hbV hVL hVE hO5 hb35 hb57 hb37 hb56 hb4 HEB hi hz0 hz1 hz2 hw5 hw7 hs5 hs7
  generalize w3.heap.size = h0 at *
  generalize w4.heap.size = eb at *
  generalize w6.heap.size = lb at *
  go_loopw [33] (fun iv wr => ∃ (j : Nat) (svs : List Value), j ≤ r.length ∧ iv = .int .i64 j ∧ JI w7 h0 w7.heap.size w7.heap.size eb lb (eb + 1) r.length (.slice pe l.length ce) svs l (halfR r j) wr) (fun iv _ => r.length - (intOf iv).toNat)
  case atStart => exact ⟨0, _, Nat.zero_le _, rfl, hJ7⟩
  case round =>
    clear hJ7
    obtain ⟨j, svs, hj, rfl, hJ⟩ := hrel
    have hbW : Below w.heap.size w wr := HB7.out.trans (hJ.keep.mono (by omega))
    by_cases hlt : j < r.length
    · have hjl : (j : Int) < (r.length : Int) := by omega
      have hLr := HRr.out.go hbW
      obtain ⟨bc, oc, rfl, hbc, hcc, px, kx, hIx, c0⟩ := hLr.cellAt hlt
      have HSET : Hid ((halfR r j).set j r[j] = halfR r (j + 1)) := halfR_set hlt
      have hXl := HIN.out _ (List.getElem_mem hlt)
      have b0 := hJ.vl.cell (j := 0) rfl
      have hcl := cloneI_any r[j] hXl _ wr.drew (hIx.below (below_drewN (Below.refl _ _) 1))
      have HJ : Hid (JI w7 h0 w7.heap.size w7.heap.size eb lb (eb + 1) r.length (.slice pe l.length ce) svs l (halfR r j) wr) := hJ
      have HBW : Hid (Below w.heap.size w wr) := hbW
      clear hJ hbW hLr hIx
      generalize r[j] = X at *
      go_wp2_with fail
      refine wp_region_last (S := (fun w' : World => w'.cell? ⟨lb, 0, none⟩ = some (.slice (some ⟨eb + 1, 0, none⟩) r.length r.length))) (by kernel_rfl) b0 (fun hHeld => ?_)
      refine wpAnyL_take (i := 0) (v := ?_) rfl (by kernel_rfl) (by kernel_rfl) (by kernel_rfl) (by kernel_rfl) (fun _ _ _ h => h) (Or.inl ⟨by rfl, ?_⟩) (by assumption) ?_
      rotate_left
      · intro w hSw; (try dsimp only at hSw); go_simp; (try with_reducible rfl)
      try simp only [Act.put, List.setIfInBounds_toArray]
      refine wpAnyL_take (i := 1) (v := ?_) rfl (by kernel_rfl) (by kernel_rfl) (by kernel_rfl) (by kernel_rfl) (fun _ _ _ h => h) (Or.inl ⟨by rfl, ?_⟩) (by assumption) ?_
      rotate_left
      · intro w hSw; (try dsimp only at hSw); go_simp; (try with_reducible rfl)
      try simp only [Act.put]
      refine wpAnyL_take (i := 2) (v := ?_) rfl (by kernel_rfl) (by kernel_rfl) (by kernel_rfl) (by kernel_rfl) (fun _ _ _ h => h) (Or.inl ⟨by rfl, ?_⟩) (by assumption) ?_
      rotate_left
      · intro w hSw; (try dsimp only at hSw); go_simp; (try with_reducible rfl)
      try simp only [Act.put]
      refine wpAnyL_ready (rs := [3]) (by kernel_rfl) (by simp) ?_
      refine AllReadyL.cons rfl (fun K hK => ?_) AllReadyL.nil
      go_simp
      refine hcl.mono ?_
      rintro e w8 ⟨v8, rfl, hO8, hb8⟩
      obtain ⟨p8, c8, rfl⟩ := owns_formP hO8
      refine hK.out _ _ (cell_keepK hb8 hHeld) (fun hHeld8 => ?_)
      clear hK K hcl
      try simp only [Act.put, List.setIfInBounds_toArray, List.set_cons_zero, List.set_cons_succ]
      have hJd := HJ.out.drew 1
      have hPut := hJd.put hlt hb8 hO8
      rw [HSET.out] at hPut
      obtain ⟨g0, g1⟩ : (∃ o, w8.cell? ⟨eb + 1, j, none⟩ = some o) ∧ w8.frozen? ⟨eb + 1, j, none⟩ = false := by
        have h1 := hJd.grp.go hb8
        have hsl : j < svs.length := by rw [hJd.num]; exact hlt
        have h2 := h1.own.cells (g := eb + 1) rfl j _ (List.getElem?_eq_getElem hsl)
        rw [Go.WideShapes.add_plain, Nat.zero_add] at h2
        have h3 := h1.own
        rw [hJd.num] at h3
        exact ⟨⟨_, h2⟩, h3.frozenAt j⟩
      obtain ⟨o0, g0⟩ := g0
      have HPut : Hid _ := hPut
      clear hJd hPut hO8 hb8 hHeld
      refine wpAnyL_take (i := 4) (v := ?_) rfl (by kernel_rfl) (by kernel_rfl) (by kernel_rfl) (by kernel_rfl) (fun _ _ _ h => h) (Or.inl ⟨by rfl, ?_⟩) (by assumption) ?_
      rotate_left
      · intro w hSw; (try dsimp only at hSw); go_simp; (try with_reducible rfl)
      try simp only [Act.put]
      refine wpAnyL_ready (rs := [5]) (by kernel_rfl) (by simp) ?_
      refine AllReadyL.last rfl (by kernel_rfl) (fun K hK => ?_)
      go_simp
      refine hK.out _ _ ?_
      clear hK K
      try simp only [Act.put, List.setIfInBounds_toArray, List.set_cons_zero, List.set_cons_succ]
      refine wpAnyL_done (by kernel_rfl) ?_ _
      clear hHeld8 g0 g1 b0 c0
      generalize w8.setCell ⟨eb + 1, j, none⟩ (.slice p8 X.length c8) = w9 at *
      go_wp2
      exact ⟨⟨j + 1, _, by omega, by go_num, HPut.out⟩, by simp [intOf]; omega⟩
    · obtain rfl : j = r.length := by omega
      have hjl : ¬ (r.length : Int) < (r.length : Int) := by omega
      rw [halfR_full] at hJ
      have hX8 : Blk 24 wr w.heap.size [.int .i64 (N : Int), .slice p l.length c] := (hJ.keep.block _ hX3).trans HX7.out
      have hY8 : Blk 24 wr (w.heap.size + 1) [.int .i64 0, .slice none 0 0] := (hJ.keep.block _ hY3).trans HY7.out
      have q0 := hX8.cell (j := 0) rfl
      have q1 := hX8.cell (j := 1) rfl
      have hcm := components_at N l HR.out (root_labelsR HR.out) (walkW_ok HR.out).lenR (.slice p l.length c) wr (HL.out.go hbW)
      rw [walk_components HR.out] at hcm
      have hcm' : Calls Try.prog 36 #[.agg #[.int .i64 (N : Int), .slice p l.length c]] wr fun r w' => ∃ lv svs h0, r = .returned lv ∧ Grp h0 lv svs (compC N l) w' ∧ wr.heap.size ≤ h0 ∧ Below wr.heap.size wr w' := hcm
      clear hcm
      have HJ : Hid (JI w7 h0 w7.heap.size w7.heap.size eb lb (eb + 1) r.length (.slice pe l.length ce) svs l r wr) := hJ
      have HX8 : Hid (Blk 24 wr w.heap.size [.int .i64 (N : Int), .slice p l.length c]) := hX8
      have HY8 : Hid (Blk 24 wr (w.heap.size + 1) [.int .i64 0, .slice none 0 0]) := hY8
      have HBW : Hid (Below w.heap.size w wr) := hbW
      have HC : Hid (CompsOK N (compC N l)) := comps_ok HR.out
      have HNR : Hid (N = r.length) := HS.out.len.symm
      clear hJ hX8 hY8 hbW HX7 HY7 HB7 HRr HS
      rename World => w8
      generalize hCC : compC N l = C at *
      have HCC : Hid (compC N l = C) := hCC
      clear hCC
      go_wp2_with fail
      refine hcm'.mono ?_
      clear hcm'
      rintro e w9 ⟨lv, cvs, hc, rfl, hGC, hhc, hb9⟩
      have hclen := hGC.len
      obtain ⟨pc, cc, rfl⟩ := owns_formP hGC.own
      rw [hclen] at hGC
      have HGC : Hid (Grp hc (.slice pc C.length cc) cvs C w9) := hGC
      have HCL : Hid (cvs.length = C.length) := hclen
      have HJ9 : Hid (JI w9 h0 w8.heap.size w9.heap.size eb lb (eb + 1) r.length (.slice pe l.length ce) svs l r w9) := HJ.out.again hb9
      have HX9 : Hid (Blk 24 w9 w.heap.size [.int .i64 (N : Int), .slice p l.length c]) := HX8.out.go hb9
      have HY9 : Hid (Blk 24 w9 (w.heap.size + 1) [.int .i64 0, .slice none 0 0]) := HY8.out.go hb9
      have HB9 : Hid (Below w.heap.size w w9) := HBW.out.trans (hb9.mono HBW.out.size)
      have HHC : Hid (w8.heap.size ≤ hc) := hhc
      have hcf := HC.out.few
      clear q0 q1 hGC hb9 hhc HX8 HY8 HBW HJ
      rw [hclen]
      clear hclen
      go_wp2
      go_loopw [49] (fun iv wr => ∃ (i : Nat) (sE : Value) (svs : List Value), i ≤ C.length ∧ iv = .int .i64 i ∧ JI w9 h0 w8.heap.size w9.heap.size eb lb (eb + 1) r.length sE svs (jE l C i) (jR r C i) wr) (fun iv _ => C.length - (intOf iv).toNat)
      case atStart => exact ⟨0, _, _, Nat.zero_le _, rfl, HJ9.out⟩
      case round =>
        clear HJ9
        obtain ⟨i, sE, svs, hi, rfl, hJ⟩ := hrel
        by_cases hlt : i < C.length
        · have hil : (i : Int) < (C.length : Int) := by omega
          have hGr := hJ.comps HGC.out HHC.out rfl
          have hLs := hGr.lsts
          obtain ⟨bc, oc, rfl, hbc, hcc, px, kx, hIx, c0⟩ := hLs.cellAt hlt
          obtain ⟨v, hv, hvN, hvl, hv0⟩ := atC_ok HC.out hlt
          by_cases hz : i = 0
          · subst hz
            have HJ : Hid (JI w9 h0 w8.heap.size w9.heap.size eb lb (eb + 1) r.length sE svs (jE l C 0) (jR r C 0) wr) := hJ
            clear hJ hGr hLs hIx hv hvN hvl hv0
            simp only [Nat.add_zero] at c0
            go_wp2
            exact ⟨⟨1, sE, svs, by omega, by go_num, HJ.out⟩, by simp [intOf]; omega⟩
          · have hip : 0 < i := by omega
            have h0C : 0 < C.length := by omega
            obtain ⟨bc', oc', e', _, _, p0, k0, hI0, c00⟩ := hLs.cellAt h0C
            simp only [Option.some.injEq, Addr.mk.injEq, and_true] at e'
            obtain ⟨rfl, rfl⟩ := e'
            obtain ⟨u, hu, huN, hul, hu0⟩ := atC_ok HC.out h0C
            obtain ⟨ba, oa, rfl, hba, hca, hcla⟩ := hI0.open (j := 0) (by omega)
            obtain ⟨bb, ob, rfl, hbb, hcb, hclb⟩ := hIx.open (j := 0) (by omega)
            have x0 := hcla wr (Below.refl _ _) 0 (by omega)
            have y0 := hclb wr (Below.refl _ _) 0 (by omega)
            have eu : C[0][0]'(by omega) = (u : Int) := by rw [List.getElem?_eq_getElem (by omega)] at hu0; exact Option.some.inj hu0
            have ev : C[i][0]'(by omega) = (v : Int) := by rw [List.getElem?_eq_getElem (by omega)] at hv0; exact Option.some.inj hv0
            rw [eu] at x0
            rw [ev] at y0
            simp only [Nat.add_zero] at x0 y0 c00
            have hjl : (jE l C i).length ≤ 8388608 := by have := jE_len l C i; omega
            have hjs : ∀ x ∈ jR r C i, x.length ≤ 8388608 := fun x hx => by have := jR_short (C := C) HIN.out i x hx; omega
            have hjn := fun W hW => join_any w9 h0 w8.heap.size w9.heap.size eb lb (eb + 1) r.length sE svs (jE l C i) (jR r C i) u v (by rw [← HNR.out]; exact huN) (by rw [← HNR.out]; exact hvN) hjl hjs W hW
            have HE : Hid (jE l C i ++ [((u : Int), (v : Int), 0)] = jE l C (i + 1)) := by
              unfold Hid
              rw [← hu, ← hv]
              show _ = if i = 0 then _ else _
              rw [if_neg hz]
            have HRR : Hid (pushR (pushR (jR r C i) u (v : Int)) v (u : Int) = jR r C (i + 1)) := by
              unfold Hid
              show _ = if i = 0 then _ else _
              rw [if_neg hz, hu, hv]
              rfl
            have hent : ∀ (args : Array Value) (W : World), (callFunc 35 args).run Try.prog W = .ok (.enter 35 args) W := fun args W => by kernel_rfl
            have HJ : Hid (JI w9 h0 w8.heap.size w9.heap.size eb lb (eb + 1) r.length sE svs (jE l C i) (jR r C i) wr) := hJ
            have hCl0 : 0 < C[0].length := by omega
            have hCli : 0 < C[i].length := by omega
            clear hJ hGr hLs hIx hI0 hcla hclb eu ev hu0 hv0 hjl hjs
            have HJN : Hid _ := hjn
            clear hjn
            generalize C[0].length = n0 at *
            generalize C[i].length = n1 at *
            go_wp2_with fail
            refine wp_region_last (S := (fun w' : World => w'.cell? ⟨bc, oc, none⟩ = some (.slice (some ⟨ba, oa, none⟩) n0 k0) ∧ w'.cell? ⟨ba, oa, none⟩ = some (.int .i64 (u : Int)) ∧ w'.cell? ⟨bb, ob, none⟩ = some (.int .i64 (v : Int)))) (by kernel_rfl) ⟨c00, x0, y0⟩ (fun hHeld => ?_)
            refine wpAnyL_take (i := 0) (v := ?_) rfl (by kernel_rfl) (by kernel_rfl) (by kernel_rfl) (by kernel_rfl) (fun _ _ _ h => h) (Or.inl ⟨by rfl, ?_⟩) (by assumption) ?_
            rotate_left
            · intro w hSw; (try dsimp only at hSw); go_simp; (try with_reducible rfl)
            try simp only [Act.put, List.setIfInBounds_toArray]
            refine wpAnyL_take (i := 1) (v := ?_) rfl (by kernel_rfl) (by kernel_rfl) (by kernel_rfl) (by kernel_rfl) (fun _ _ _ h => h) (Or.inl ⟨by rfl, ?_⟩) (by assumption) ?_
            rotate_left
            · intro w hSw; (try dsimp only at hSw); go_simp; (try with_reducible rfl)
            try simp only [Act.put]
            refine wpAnyL_take (i := 2) (v := ?_) rfl (by kernel_rfl) (by kernel_rfl) (by kernel_rfl) (by kernel_rfl) (fun _ _ _ h => h) (Or.inl ⟨by rfl, ?_⟩) (by assumption) ?_
            rotate_left
            · intro w hSw; (try dsimp only at hSw); go_simp; (try with_reducible rfl)
            try simp only [Act.put]
            refine wpAnyL_take (i := 3) (v := ?_) rfl (by kernel_rfl) (by kernel_rfl) (by kernel_rfl) (by kernel_rfl) (fun _ _ _ h => h) (Or.inl ⟨by rfl, ?_⟩) (by assumption) ?_
            rotate_left
            · intro w hSw; (try dsimp only at hSw); go_simp; (try with_reducible rfl)
            try simp only [Act.put]
            refine wpAnyL_take (i := 4) (v := ?_) rfl (by kernel_rfl) (by kernel_rfl) (by kernel_rfl) (by kernel_rfl) (fun _ _ _ h => h) (Or.inl ⟨by rfl, ?_⟩) (by assumption) ?_
            rotate_left
            · intro w hSw; (try dsimp only at hSw); go_simp; (try with_reducible rfl)
            try simp only [Act.put]
            refine wpAnyL_take (i := 5) (v := ?_) rfl (by kernel_rfl) (by kernel_rfl) (by kernel_rfl) (by kernel_rfl) (fun _ _ _ h => h) (Or.inl ⟨by rfl, ?_⟩) (by assumption) ?_
            rotate_left
            · intro w hSw; (try dsimp only at hSw); go_simp; (try with_reducible rfl)
            try simp only [Act.put]
            refine wpAnyL_take (i := 6) (v := ?_) rfl (by kernel_rfl) (by kernel_rfl) (by kernel_rfl) (by kernel_rfl) (fun _ _ _ h => h) (Or.inl ⟨by rfl, ?_⟩) (by assumption) ?_
            rotate_left
            · intro w hSw; (try dsimp only at hSw); go_simp; (try with_reducible rfl)
            try simp only [Act.put]
            refine wpAnyL_take (i := 7) (v := ?_) rfl (by kernel_rfl) (by kernel_rfl) (by kernel_rfl) (by kernel_rfl) (fun _ _ _ h => h) (Or.inl ⟨by rfl, ?_⟩) (by assumption) ?_
            rotate_left
            · intro w hSw; (try dsimp only at hSw); go_simp; (try with_reducible rfl)
            try simp only [Act.put]
            refine wpAnyL_take (i := 8) (v := ?_) rfl (by kernel_rfl) (by kernel_rfl) (by kernel_rfl) (by kernel_rfl) (fun _ _ _ h => h) (Or.inl ⟨by rfl, ?_⟩) (by assumption) ?_
            rotate_left
            · intro w hSw; (try dsimp only at hSw); go_simp; (try with_reducible rfl)
            try simp only [Act.put]
            try simp only [List.getElem_toArray, List.getElem_cons_zero, List.getElem_cons_succ, List.setIfInBounds_toArray, List.set_cons_zero, List.set_cons_succ]
            refine wpAnyL_ready (rs := [9]) (by kernel_rfl) (by simp) ?_
            refine AllReadyL.last rfl (by kernel_rfl) (fun K hK => ?_)
            go_simp
            refine (HJN.out wr.drew (HJ.out.drew 1)).mono ?_
            rintro e w10 ⟨rfl, sE', svs', hJ10⟩
            rw [HE.out, HRR.out] at hJ10
            have HJ10 : Hid _ := hJ10
            clear hJ10 HJN HJ hHeld x0 y0 c00 c0
            refine hK.out _ _ ?_
            clear hK K
            try simp only [Act.put, List.setIfInBounds_toArray, List.set_cons_zero, List.set_cons_succ]
            refine wpAnyL_done (by kernel_rfl) ?_ _
            go_wp2
            exact ⟨⟨i + 1, _, _, by omega, by go_num, HJ10.out⟩, by simp [intOf]; omega⟩
        · obtain rfl : i = C.length := by omega
          have hil : ¬ (C.length : Int) < (C.length : Int) := by omega
          have hbW : Below w.heap.size w wr := HB9.out.trans (hJ.keep.mono hgs)
          have hX10 : Blk 24 wr w.heap.size [.int .i64 (N : Int), .slice p l.length c] := (hJ.keep.block _ hX3).trans HX9.out
          have hY10 : Blk 24 wr (w.heap.size + 1) [.int .i64 0, .slice none 0 0] := (hJ.keep.block _ hY3).trans HY9.out
          have q0 := hX10.cell (j := 0) rfl
          have b0 := hJ.ve.cell (j := 0) rfl
          have hEd := Edges.of_owns hJ.own
          have hmk := make_at (N : Int) (jE l C C.length) sE wr hEd
          obtain ⟨pe2, ce2, rfl⟩ := hEd.len
          have HJ : Hid (JI w9 h0 w8.heap.size w9.heap.size eb lb (eb + 1) r.length (.slice pe2 (jE l C C.length).length ce2) svs (jE l C C.length) (jR r C C.length) wr) := hJ
          have HY10 : Hid (Blk 24 wr (w.heap.size + 1) [.int .i64 0, .slice none 0 0]) := hY10
          have HBW : Hid (Below w.heap.size w wr) := hbW
          clear hJ hX10 hY10 hbW hEd
          generalize hEE : jE l C C.length = E at *
          generalize hRR : jR r C C.length = R at *
          have HEE : Hid (jE l C C.length = E) := hEE
          have HRR : Hid (jR r C C.length = R) := hRR
          clear hEE hRR
          go_wp2_with fail
          refine hmk.mono ?_
          clear hmk
          rintro e w10 ⟨gv, rfl, hE10, hA10, hb10⟩
          obtain ⟨pg, cg, rfl⟩ := hE10.len
          have HGR : Hid (Grp h0 (.slice (some ⟨eb + 1, 0, none⟩) r.length r.length) svs R w10) := HJ.out.grp.go hb10
          have hLV := HJ.out.vl.go hb10
          have HY11 : Hid (Blk 24 w10 (w.heap.size + 1) [.int .i64 0, .slice none 0 0]) := HY10.out.go hb10
          have HB11 : Hid (Below w.heap.size w w10) := HBW.out.trans (hb10.mono HBW.out.size)
          have HWR : Hid (w.heap.size + 1 < wr.heap.size) := HY10.out.lt
          generalize hLL : makeL (N : Int) E = L at *
          generalize hNN : makeN (N : Int) E = nn at *
          have HLL : Hid (makeL (N : Int) E = L) := hLL
          have HNN : Hid (makeN (N : Int) E = nn) := hNN
          clear hLL hNN
          have hbJ : Below w10.heap.size w10 (w10.alloc (.cells #[.int .i64 nn, .slice pg L.length cg] 24)) := (Below.refl _ _).alloc (Nat.le_refl _) _
          have hGJ : Blk 24 (w10.alloc (.cells #[.int .i64 nn, .slice pg L.length cg] 24)) w10.heap.size [.int .i64 nn, .slice pg L.length cg] := heap_alloc_new w10 _
          have hYJ := HY11.out.go hbJ
          have j0 := hGJ.cell (j := 0) rfl
          have j1 := hGJ.cell (j := 1) rfl
          have b1 := (hLV.go hbJ).cell (j := 0) rfl
          have y0 := hYJ.cell (j := 0) rfl
          have y1 := hYJ.cell (j := 1) rfl
          have f0 := hYJ.frozen 0
          have f1 := hYJ.frozen 1
          have HED : Hid (Edges (w10.alloc (.cells #[.int .i64 nn, .slice pg L.length cg] 24)).heap.size (w10.alloc (.cells #[.int .i64 nn, .slice pg L.length cg] 24)) (.slice pg L.length cg) L) := hE10.go hbJ
          have HAB : Hid (Above wr.heap.size (.slice pg L.length cg)) := hA10
          have HGG : Hid (Grp h0 (.slice (some ⟨eb + 1, 0, none⟩) r.length r.length) svs R (w10.alloc (.cells #[.int .i64 nn, .slice pg L.length cg] 24))) := HGR.out.go hbJ
          have HYJ : Hid (Blk 24 (w10.alloc (.cells #[.int .i64 nn, .slice pg L.length cg] 24)) (w.heap.size + 1) [.int .i64 0, .slice none 0 0]) := hYJ
          have HBJ : Hid (Below w.heap.size w (w10.alloc (.cells #[.int .i64 nn, .slice pg L.length cg] 24))) := HB11.out.trans (hbJ.mono HB11.out.size)
          have hlY : w.heap.size + 1 < w10.heap.size := HY11.out.lt
          have hlL : lb ≠ w.heap.size + 1 := by omega
          have hlJ : w10.heap.size ≠ w.heap.size + 1 := by omega
          clear hE10 hA10 hb10 hbJ hGJ hYJ q0 b0 hLV HJ HY10 HBW HGR HY11 HB11
          go_wp2_with fail
          generalize hgj : w10.heap.size = gj at *
          generalize w10.alloc (.cells #[.int .i64 nn, .slice pg L.length cg] 24) = w11 at *
          have hmix := mixed
          go_big_region_o
          go_wp2
          have hYF := (HYJ.out.set 0 (.int .i64 nn)).set 1 (.slice pg L.length cg)
          have z0 := hYF.cell (j := 0) rfl
          have z1 := hYF.cell (j := 1) rfl
          refine bodyPost_ret (ret_joined rfl rfl z0 z1) rfl ?_
          refine ⟨.slice pg L.length cg, .slice (some ⟨eb + 1, 0, none⟩) r.length r.length, svs, h0, ?_, ?_, ?_, ?_⟩
          · rw [HCC.out, HEE.out, HNN.out]
            rfl
          · rw [HCC.out, HEE.out, HLL.out]
            exact (HED.out.setLow HAB.out (p := ⟨w.heap.size + 1, 0, none⟩) (by simp only; exact HWR.out) _).setLow HAB.out (p := ⟨w.heap.size + 1, 1, none⟩) (by simp only; exact HWR.out) _
          · rw [HCC.out, HRR.out]
            exact ((HGG.out.low (p := ⟨w.heap.size + 1, 0, none⟩) (by simp only; exact hY3) _).low (p := ⟨w.heap.size + 1, 1, none⟩) (by simp only; exact hY3) _).go (below_drewN (Below.refl _ _) 1)
          · exact below_drewN ((HBJ.out.setCell (p := ⟨w.heap.size + 1, 0, none⟩) (by simp) _).setCell (p := ⟨w.heap.size + 1, 1, none⟩) (by simp) _) 1
end Go.Proofs.Ytonfhkdciaiilaa
