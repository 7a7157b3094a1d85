/-
  The walk of filigreelaw10.FacesBridges.
-/
import Derived.Test.YtonfhkdciaiilaaXFcEulerLaw
import Derived.Test.YtonfhkdciaiilaaXFcLen
import Derived.Test.YtonfhkdciaiilaaXFcBri3
import Derived.Test.YtonfhkdciaiilaaXPHas
namespace Go.Proofs.Ytonfhkdciaiilaa
open Go Go.Proofs Go.RowKit

set_option maxRecDepth 100000 in
set_option maxHeartbeats 8000000 in
theorem facesBridges_law (n : Int) (l : List Ed) (r : List (List Int)) (hr1 : r.length ≤ 9223372036854775807) (sv rv : Value) (w : World) (hl : Edges w.heap.size w sv l) (hr : Lsts w.heap.size w rv r) :
    Calls Try.prog 4 #[.agg #[.int .i64 n, sv], rv] w fun e w' => e = .returned (.bool true) ∧ Below w.heap.size w w' := by
  obtain ⟨p, c, rfl⟩ := hl.len
  have hb1 : Below w.heap.size w (w.alloc (.cells #[.int .i64 n, .slice p l.length c] 24)) := (Below.refl _ _).alloc (Nat.le_refl _) _
  have hX1 : Blk 24 (w.alloc (.cells #[.int .i64 n, .slice p l.length c] 24)) w.heap.size [.int .i64 n, .slice p l.length c] := heap_alloc_new w _
  have hlt := lightR_any n l r hr1 30 (by decide) (by decide) (.slice p l.length c) rv _ (hl.go hb1) (hr.go hb1)
  have q0 := hX1.cell (j := 0) rfl
  have q1 := hX1.cell (j := 1) rfl
  have HL : Hid (Edges w.heap.size w (.slice p l.length c) l) := hl
  have HR : Hid (Lsts w.heap.size w rv r) := hr
  have HB1 : Hid (Below w.heap.size w (w.alloc (.cells #[.int .i64 n, .slice p l.length c] 24))) := hb1
  have HX1 : Hid (Blk 24 (w.alloc (.cells #[.int .i64 n, .slice p l.length c] 24)) w.heap.size [.int .i64 n, .slice p l.length c]) := hX1
  clear hb1 hX1 hl hr
  have hmix := mixed
  go_enter Try.func4, Try.ntmps4
  go_wp2_with fail
  generalize w.alloc (.cells #[.int .i64 n, .slice p l.length c] 24) = w2 at *
  refine hlt.mono ?_
  clear hlt
  rintro e w3 ⟨bb, rfl, hbb, hb3⟩
  have HB3 : Hid (Below w.heap.size w w3) := HB1.out.trans (hb3.mono HB1.out.size)
  have HX3 : Hid (Blk 24 w3 w.heap.size [.int .i64 n, .slice p l.length c]) := HX1.out.go hb3
  have HBB : Hid (bb = true → lightB n l 30 = true ∧ (r.length : Int) ≤ 2 * 30) := hbb
  clear HB1 HX1 hb3 q0 q1 hbb
  cases bb with
  | false =>
    go_wp2_with fail
    refine (alive10_any w3).mono ?_
    rintro e w4 ⟨rfl, hb4⟩
    have HB4 : Hid (Below w.heap.size w w4) := HB3.out.trans (hb4.mono HB3.out.size)
    clear hb4
    go_wp2
    go_ret
    exact ⟨rfl, HB4.out⟩
  | true =>
    have q0 := HX3.out.cell (j := 0) rfl
    have q1 := HX3.out.cell (j := 1) rfl
    obtain ⟨k, hpl, hk0⟩ : ∃ k : Int, (Calls Try.prog 12 #[.agg #[.int .i64 n, .slice p l.length c], rv] w3 fun e w' => e = .returned (.int .i64 k) ∧ Below w3.heap.size w3 w') ∧ (k = 0 → ∃ N : Nat, n = (N : Int) ∧ RightG (N : Int) l ∧ SysR N l r ∧ planeK (numsL N l r) = 0) := by
      by_cases hk : sysK n l r = 0
      · obtain ⟨N, rfl, hR, hS⟩ := sysK_nought hk
        have hlm : l.length ≤ 120 := by have := (lightB_true (HBB.out rfl).1).2; omega
        have hnm : N ≤ 30 := by have := (lightB_true (HBB.out rfl).1).1; omega
        exact ⟨_, refPlane_any N l hR r hS (by omega) (by omega) _ rv w3 (HL.out.go HB3.out) (HR.out.go HB3.out), fun h => ⟨N, rfl, hR, hS, h⟩⟩
      · exact ⟨_, refPlane_bad n l r hk _ rv w3 (HL.out.go HB3.out) (HR.out.go HB3.out), fun h => absurd h hk⟩
    have HK0 : Hid _ := hk0
    clear hk0
    go_wp2_with fail
    refine hpl.mono ?_
    clear hpl
    rintro e w4 ⟨rfl, hb4⟩
    have HB4 : Hid (Below w.heap.size w w4) := HB3.out.trans (hb4.mono HB3.out.size)
    have HX4 : Hid (Blk 24 w4 w.heap.size [.int .i64 n, .slice p l.length c]) := HX3.out.go hb4
    clear q0 q1 hb4 HX3 HB3
    by_cases hk : k = 0
    · obtain ⟨N, rfl, hR, hS, hP⟩ := HK0.out hk
      subst hk
      have q0 := HX4.out.cell (j := 0) rfl
      have q1 := HX4.out.cell (j := 1) rfl
      have hlm : l.length ≤ 120 := by have := (lightB_true (HBB.out trivial).1).2; omega
      have hnm : N ≤ 30 := by have := (lightB_true (HBB.out trivial).1).1; omega
      have hfm := facesL_few hR r
      have HFE : Hid (∀ x ∈ facesL N l r, x.length ≤ 16777216) := fun f hf => by have := facesL_each N l r f hf; omega
      have HND : Hid (facesL N l r).flatten.Nodup := (faces_dec hR hS).nodup
      have HMX : Hid (∀ W, Below w.heap.size w W → _) := fun W h => inPlane_any N l hR r hS hP (.slice p l.length c) rv W (HL.out.go h) (HR.out.go h)
      have hsd := sidesP_any (N : Int) l (by omega) (facesL N l r) (by omega) HFE.out HND.out (.slice p l.length c) rv w4 (HL.out.go HB4.out) (fun W h => HMX.out W (HB4.out.trans (h.mono HB4.out.size)))
      go_wp2_with fail
      refine hsd.mono ?_
      clear hsd
      rintro e w5 ⟨gs, rfl, hgs, hB5, hb5⟩
      have hS5 : Below w.heap.size w w5 := HB4.out.trans (hb5.mono HB4.out.size)
      have hln := lengths_any (N : Int) (facesL N l r) (by omega) HFE.out (.slice p l.length c) rv w5 (fun W h => HMX.out W (hS5.trans (h.mono hS5.size)))
      have HX5 : Hid (Blk 24 w5 w.heap.size [.int .i64 (N : Int), .slice p l.length c]) := HX4.out.go hb5
      have HB5 : Hid (Below w.heap.size w w5) := hS5
      have HS5 : Hid (Blk 42 w5 gs (flatD (sidesL (facesL N l r) l))) := hB5
      clear q0 q1 HX4 HB4 hb5 hS5 hB5
      have q0 := HX5.out.cell (j := 0) rfl
      have q1 := HX5.out.cell (j := 1) rfl
      go_wp2_with fail
      refine hln.mono ?_
      clear hln
      rintro e w6 ⟨gn, rfl, hgn, hB6, hb6⟩
      have HX6 : Hid (Blk 24 w6 w.heap.size [.int .i64 (N : Int), .slice p l.length c]) := HX5.out.go hb6
      have HB6 : Hid (Below w.heap.size w w6) := HB5.out.trans (hb6.mono HB5.out.size)
      have HS6 : Hid (Blk 42 w6 gs (flatD (sidesL (facesL N l r) l))) := HS5.out.go hb6
      have HN6 : Hid (Blk 3 w6 gn (((facesL N l r).map fun x => (x.length : Int)).map (Value.int .i64))) := hB6
      clear q0 q1 HX5 HB5 hb6 HS5 hB6
      have q0 := HX6.out.cell (j := 0) rfl
      have q1 := HX6.out.cell (j := 1) rfl
      have hbr := refBridges_any N l hR (.slice p l.length c) w6 (HL.out.go HB6.out)
      go_wp2_with fail
      refine hbr.mono ?_
      clear hbr
      rintro e w7 ⟨bv, rfl, hI7, hb7⟩
      obtain ⟨i0, hi, hz0, hz1, hz2⟩ := info_parts infoI
      have hfl : (facesL N l r).length ≤ 360 := by omega
      have HMF : Hid _ := cntM_full hR hS
      have HBS : Hid (∀ (q : Nat) (hq : q < l.length), briP N l q = decide (faceOf (facesL N l r) (l[q].1, l[q].2.1) = faceOf (facesL N l r) (l[q].2.1, l[q].1))) := fun q hq => bri_side hR hS hP hq
      have HFM : Hid (∀ (q : Nat) (hq : q < l.length), (∃ a : Nat, faceOf (facesL N l r) (l[q].1, l[q].2.1) = (a : Int) ∧ a < (facesL N l r).length) ∧ ∃ b : Nat, faceOf (facesL N l r) (l[q].2.1, l[q].1) = (b : Int) ∧ b < (facesL N l r).length) := fun q hq => by
        have hF := faces_dec hR hS
        obtain ⟨m1, m2⟩ := edge_darts hR (List.getElem_mem hq)
        obtain ⟨a, h1, h2, _⟩ := faceOf_mem hF.nodup ((hF.mem _).2 m1)
        obtain ⟨b, h3, h4, _⟩ := faceOf_mem hF.nodup ((hF.mem _).2 m2)
        exact ⟨⟨a, h2, h1⟩, ⟨b, h4, h3⟩⟩
      have HI7 : Hid (Ints w7.heap.size w7 bv (thoseL (briP N l) l.length)) := hI7
      have HS7 : Hid (Blk 42 w7 gs (flatD (sidesL (facesL N l r) l))) := HS6.out.go hb7
      have HN7 : Hid (Blk 3 w7 gn (((facesL N l r).map fun x => (x.length : Int)).map (Value.int .i64))) := HN6.out.go hb7
      have HB7 : Hid (Below w.heap.size w w7) := HB6.out.trans (hb7.mono HB6.out.size)
      clear hI7 hb7 HX6 HS6 HN6 HB6 q0 q1 HFE HND HMX hR hS hP HBB HK0 hfm
      generalize facesL N l r = F at *
      generalize hbr : thoseL (briP N l) l.length = B at *
      go_wp2_with (at_make; refine wpList_make_full _ rfl _ _ 32 rfl w7.heap.size 3 i0 (.int .i64 0) 1 Try.underlying32 hi hz0 hz1 .i64 .i64 _ _ F.length rfl rfl rfl rfl (by rw [hz2]; omega) (by unfold maxLen; omega) (Nat.le_refl _) ?_; intro w8 hown hgrow; have hb8 : Below w7.heap.size w7 w8 := (Below.refl _ _).grown hgrow (Nat.le_refl _) (fun k e => by cases e))
      have hrow := Blk.made hown
      rw [ints_made, ← cntM_zero F l] at hrow
      have HI8 : Hid (Ints w7.heap.size w8 bv B) := HI7.out.below hb8
      have HS8 : Hid (Blk 42 w8 gs (flatD (sidesL F l))) := HS7.out.go hb8
      have HN8 : Hid (Blk 3 w8 gn ((F.map fun x => (x.length : Int)).map (Value.int .i64))) := HN7.out.go hb8
      have HB8 : Hid (Below w.heap.size w w8) := HB7.out.trans (hb8.mono HB7.out.size)
      have hgs7 := HS7.out.lt
      have hgw := HB7.out.size
      have hgn7 := HN7.out.lt
      clear hown hgrow hi hz0 hz1 hz2 hb8 HI7 HS7 HN7 HB7
      generalize w7.heap.size = gm at *
      go_loopw [11] (fun iv wr => ∃ i : Nat, i ≤ l.length ∧ iv = .int .i64 i ∧ Blk 3 wr gm ((cntM F l i).map (Value.int .i64)) ∧ Below gm w8 wr) (fun v _ => l.length - (intOf v).toNat)
      case atStart => exact ⟨0, Nat.zero_le _, rfl, hrow, Below.refl _ _⟩
      case round =>
        obtain ⟨i, hi, rfl, hB, hb⟩ := hrel
        rename World => w9
        by_cases hlt : i < l.length
        · have hil : (i : Int) < (l.length : Int) := by omega
          obtain ⟨⟨a, ha, haF⟩, ⟨b, hb2, hbF⟩⟩ := HFM.out i hlt
          have hS9 : Blk 42 w9 gs (flatD (sidesL F l)) := (hb.block gs hgs7).trans HS8.out
          obtain ⟨d0, d1⟩ := flatD_at (L := sidesL F l) (j := i) (x := ((a : Int), (b : Int))) (by unfold sidesL; rw [List.getElem?_map, List.getElem?_eq_getElem hlt, ← ha, ← hb2]; rfl)
          have s0 := hS9.cell d0
          have s1 := hS9.cell d1
          have HST : Hid _ := cntM_step hlt ha hb2
          have HQ : Hid (inB B (i : Int) = decide ((a : Int) = (b : Int))) := by
            unfold Hid
            rw [← hbr, thoseL_has hlt, HBS.out i hlt, ha, hb2]
          obtain ⟨t, ht1, ht2⟩ : ∃ t : Bool, ((a : Int) == (b : Int)) = t ∧ inB B (i : Int) = t := ⟨_, rfl, HQ.out⟩
          have hB9 := HI8.out.below hb
          have hBl : B.length ≤ 4194304 := by
            rw [← hbr]
            have : (thoseL (briP N l) l.length).length ≤ l.length := by
              unfold thoseL
              rw [List.length_map]
              exact Nat.le_trans (List.length_filter_le _ _) (by simp)
            omega
          have hhas := fun W h => has_any B hBl (i : Int) bv gm W h
          simp only at s0 s1
          have haF' : (a : Int) < (F.length : Int) := by omega
          have hbF' : (b : Int) < (F.length : Int) := by omega
          have HI9 : Hid (Ints gm w9 bv B) := hB9
          have HB : Hid (Blk 3 w9 gm ((cntM F l i).map (Value.int .i64))) := hB
          have HBB9 : Hid (Below gm w8 w9) := hb
          have HD0 : Hid _ := d0
          have HD1 : Hid _ := d1
          clear hB9 hB hb hS9 d0 d1 ha hb2
          go_wp2_with fail
          refine wp_region_held_drew (S := (fun w' : World => w'.cell? ⟨gs, i * 2, none⟩ = some (.int .i64 (a : Int)) ∧ w'.cell? ⟨gs, i * 2 + 1, none⟩ = some (.int .i64 (b : Int)))) (by kernel_rfl) ?_ (fun hHeld => ?_)
          · (try dsimp only); go_keep
          refine wpAnyH_take (i := 0) (v := ?_) rfl (by kernel_rfl) (by kernel_rfl) (by kernel_rfl) (fun _ _ _ h => h) (Or.inl ⟨by rfl, ?_⟩) (by assumption) ?_
          rotate_left
          · intro w hSw; (try dsimp only at hSw); go_simp; (try with_reducible rfl)
          try simp only [Act.put, List.setIfInBounds_toArray]
          refine wpAnyH_take (i := 1) (v := ?_) rfl (by kernel_rfl) (by kernel_rfl) (by kernel_rfl) (fun _ _ _ h => h) (Or.inl ⟨by rfl, ?_⟩) (by assumption) ?_
          rotate_left
          · intro w hSw; (try dsimp only at hSw); go_simp; (try with_reducible rfl)
          try simp only [Act.put]
          refine wpAnyH_take (i := 2) (v := ?_) rfl (by kernel_rfl) (by kernel_rfl) (by kernel_rfl) (fun _ _ _ h => h) (Or.inl ⟨by rfl, ?_⟩) (by assumption) ?_
          rotate_left
          · intro w hSw; (try dsimp only at hSw); go_simp; (try with_reducible rfl)
          try simp only [Act.put]
          refine wpAnyH_take (i := 3) (v := ?_) rfl (by kernel_rfl) (by kernel_rfl) (by kernel_rfl) (fun _ _ _ h => h) (Or.inl ⟨by rfl, ?_⟩) (by assumption) ?_
          rotate_left
          · intro w hSw; (try dsimp only at hSw); go_simp; (try with_reducible rfl)
          try simp only [Act.put]
          refine wpAnyH_take (i := 4) (v := ?_) rfl (by kernel_rfl) (by kernel_rfl) (by kernel_rfl) (fun _ _ _ h => h) (Or.inl ⟨by rfl, ?_⟩) (by assumption) ?_
          rotate_left
          · intro w hSw; (try dsimp only at hSw); go_simp; (try with_reducible rfl)
          try simp only [Act.put]
          refine wpAnyH_take (i := 5) (v := ?_) rfl (by kernel_rfl) (by kernel_rfl) (by kernel_rfl) (fun _ _ _ h => h) (Or.inl ⟨by rfl, ?_⟩) (by assumption) ?_
          rotate_left
          · intro w hSw; (try dsimp only at hSw); go_simp; (try with_reducible rfl)
          try simp only [Act.put]
          refine wpAnyH_take (i := 6) (v := ?_) rfl (by kernel_rfl) (by kernel_rfl) (by kernel_rfl) (fun _ _ _ h => h) (Or.inl ⟨by rfl, ?_⟩) (by assumption) ?_
          rotate_left
          · intro w hSw; (try dsimp only at hSw); go_simp; (try with_reducible rfl)
          try simp only [Act.put]
          refine wpAnyH_take (i := 7) (v := ?_) rfl (by kernel_rfl) (by kernel_rfl) (by kernel_rfl) (fun _ _ _ h => h) (Or.inl ⟨by rfl, ?_⟩) (by assumption) ?_
          rotate_left
          · intro w hSw; (try dsimp only at hSw); go_simp; (try with_reducible rfl)
          try simp only [Act.put]
          refine wpAnyH_take (i := 8) (v := ?_) rfl (by kernel_rfl) (by kernel_rfl) (by kernel_rfl) (fun _ _ _ h => h) (Or.inl ⟨by rfl, ?_⟩) (by assumption) ?_
          rotate_left
          · intro w hSw; (try dsimp only at hSw); go_simp; (try with_reducible rfl)
          try simp only [Act.put]
          refine wpAnyH_take (i := 9) (v := ?_) rfl (by kernel_rfl) (by kernel_rfl) (by kernel_rfl) (fun _ _ _ h => h) (Or.inl ⟨by rfl, ?_⟩) (by assumption) ?_
          rotate_left
          · intro w hSw; (try dsimp only at hSw); go_simp; (try with_reducible rfl)
          try simp only [Act.put]
          refine wpAnyH_take (i := 10) (v := ?_) rfl (by kernel_rfl) (by kernel_rfl) (by kernel_rfl) (fun _ _ _ h => h) (Or.inl ⟨by rfl, ?_⟩) (by assumption) ?_
          rotate_left
          · intro w hSw; (try dsimp only at hSw); go_simp; (try with_reducible rfl)
          try simp only [Act.put]
          refine wpAnyH_take (i := 11) (v := ?_) rfl (by kernel_rfl) (by kernel_rfl) (by kernel_rfl) (fun _ _ _ h => h) (Or.inl ⟨by rfl, ?_⟩) (by assumption) ?_
          rotate_left
          · intro w hSw; (try dsimp only at hSw); go_simp; (try with_reducible rfl)
          try simp only [Act.put]
          refine wpAnyH_take (i := 12) (v := ?_) rfl (by kernel_rfl) (by kernel_rfl) (by kernel_rfl) (fun _ _ _ h => h) (Or.inl ⟨by rfl, ?_⟩) (by assumption) ?_
          rotate_left
          · intro w hSw; (try dsimp only at hSw); go_simp; (try with_reducible rfl)
          try simp only [Act.put]
          refine wpAnyH_ready (rs := [13]) (by kernel_rfl) (by simp) ?_
          refine AllReadyH.cons rfl (fun K hK => ?_) AllReadyH.nil
          go_simp
          refine (hhas w9.drew (HI9.out.below (below_drewN (Below.refl _ _) 1))).mono ?_
          rintro e w10 ⟨rfl, rfl⟩
          refine hK.out _ _ hHeld (fun hHeld4 => ?_)
          clear hK K hhas
          rw [ht2]
          try simp only [Act.put, List.setIfInBounds_toArray, List.set_cons_zero, List.set_cons_succ]
          refine wpAnyH_take (i := 14) (v := ?_) rfl (by kernel_rfl) (by kernel_rfl) (by kernel_rfl) (fun _ _ _ h => h) (Or.inl ⟨by rfl, ?_⟩) (by assumption) ?_
          rotate_left
          · intro w hSw; (try dsimp only at hSw); go_simp; (try with_reducible rfl)
          try simp only [Act.put, List.setIfInBounds_toArray]
          refine wpAnyH_done (by kernel_rfl) ?_ _
          have hbd : ∀ x ∈ cntM F l i, 0 ≤ x ∧ x ≤ 240 := fun x hx => cntM_bound (B := 240) (by omega) hx
          have hl0 := cntM_len F l i
          have ha0 : (cntM F l i)[a]? = some ((cntM F l i).getD a 0) := by rw [List.getD_eq_getElem?_getD, List.getElem?_eq_getElem (by omega)]; rfl
          have hb0 : (add1 (cntM F l i) a)[b]? = some ((add1 (cntM F l i) a).getD b 0) := by rw [List.getD_eq_getElem?_getD, List.getElem?_eq_getElem (by unfold add1; rw [List.length_set]; omega)]; rfl
          have hxa : 0 ≤ (cntM F l i).getD a 0 ∧ (cntM F l i).getD a 0 ≤ 240 := hbd _ (List.mem_of_getElem? ha0)
          have hxb : 0 ≤ (add1 (cntM F l i) a).getD b 0 ∧ (add1 (cntM F l i) a).getD b 0 ≤ 241 := by
            rcases List.mem_or_eq_of_mem_set (List.mem_of_getElem? hb0) with h | h
            · have := hbd _ h; omega
            · omega
          have hE1 : Hid ((cntM F l i).set a ((cntM F l i).getD a 0 + 1) = add1 (cntM F l i) a) := rfl
          have hE2 : Hid ((add1 (cntM F l i) a).set b ((add1 (cntM F l i) a).getD b 0 + 1) = cntM F l (i + 1)) := HST.out
          generalize (cntM F l i).getD a 0 = xa at *
          generalize (add1 (cntM F l i) a).getD b 0 = xb at *
          generalize add1 (cntM F l i) a = M1 at *
          have HA0 : Hid _ := ha0
          have HB0 : Hid _ := hb0
          clear hbd hl0 HST ha0 hb0 HQ ht2
          have hB' := HB.out
          generalize cntM F l i = M0 at *
          generalize hM2 : cntM F l (i + 1) = M2 at *
          have HM2 : Hid (cntM F l (i + 1) = M2) := hM2
          clear hM2
          have hbq : Below gm w8 w9.drew := below_drewN HBB9.out 1
          have hBq : Blk 3 w9.drew gm (M0.map (Value.int .i64)) := HB.out
          clear hB' HB HBB9 s0 s1
          go_wp2
          go_loopw [12] (fun qv wr => ((qv = .int .i64 0 ∧ Blk 3 wr gm (M0.map (Value.int .i64))) ∨ (qv = .int .i64 1 ∧ Blk 3 wr gm (M1.map (Value.int .i64))) ∨ (qv = .int .i64 2 ∧ Blk 3 wr gm (M2.map (Value.int .i64)))) ∧ Below gm w8 wr) (fun v _ => 2 - (intOf v).toNat)
          case atStart => exact ⟨.inl ⟨rfl, hBq⟩, hbq⟩
          case round =>
            clear hBq hbq
            obtain ⟨hrel, hb⟩ := hrel
            rename World => w11
            have hS9 : Blk 42 w11 gs (flatD (sidesL F l)) := (hb.block gs hgs7).trans HS8.out
            have s0 := hS9.cell HD0.out
            have s1 := hS9.cell HD1.out
            try simp only at s0 s1
            have HB11 : Hid (Below gm w8 w11) := hb
            clear hS9 hb
            rcases hrel with ⟨rfl, hB⟩ | ⟨rfl, hB⟩ | ⟨rfl, hB⟩
            · have t0 : w11.cell? ⟨gm, a, none⟩ = some (.int .i64 xa) := hB.cell (by rw [List.getElem?_map, HA0.out]; rfl)
              have f0 := hB.frozen a
              have hBn := hB.set a (.int .i64 (xa + 1))
              rw [← List.map_set, hE1.out] at hBn
              have HBn : Hid _ := hBn
              clear hB hBn s1
              go_wp2
              exact ⟨⟨.inr (.inl ⟨by go_num, HBn.out⟩), HB11.out.setCell (p := ⟨gm, a, none⟩) (Nat.le_refl _) _⟩, by simp [intOf]⟩
            · have t0 : w11.cell? ⟨gm, b, none⟩ = some (.int .i64 xb) := hB.cell (by rw [List.getElem?_map, HB0.out]; rfl)
              have f0 := hB.frozen b
              have hBn := hB.set b (.int .i64 (xb + 1))
              rw [← List.map_set, hE2.out] at hBn
              have HBn : Hid _ := hBn
              clear hB hBn s0
              go_wp2
              exact ⟨⟨.inr (.inr ⟨by go_num, HBn.out⟩), HB11.out.setCell (p := ⟨gm, b, none⟩) (Nat.le_refl _) _⟩, by simp [intOf]⟩
            · have HBn : Hid _ := hB
              clear hB s0 s1
              go_wp2
              exact ⟨⟨i + 1, by omega, by go_num, by rw [HM2.out]; exact HBn.out, HB11.out⟩, by simp [intOf]; omega⟩
        · obtain rfl : i = l.length := by omega
          have hil : ¬ (l.length : Int) < (l.length : Int) := by omega
          have hB' := hB
          rw [HMF.out] at hB'
          have hlF : (F.map fun x => (x.length : Int)).length = F.length := List.length_map ..
          have hI1 := hB'.ints
          have hN9 : Blk 3 w9 gn ((F.map fun x => (x.length : Int)).map (Value.int .i64)) := (hb.block gn hgn7).trans HN8.out
          have hI2 := hN9.ints
          rw [hlF] at hI1 hI2
          have hri := refInts_any (F.map fun x => (x.length : Int)) (F.map fun x => (x.length : Int)) (by omega) _ _ w9 hI1 hI2
          rw [decide_eq_true rfl] at hri
          have HB9 : Hid (Below w.heap.size w w9) := HB8.out.trans (hb.mono hgw)
          clear hB hB' hb hI1 hI2 hlF hN9
          go_wp2_with fail
          refine hri.mono ?_
          rintro e w10 ⟨rfl, hg10⟩
          have HB10 : Hid (Below w.heap.size w w10) := HB9.out.trans (hg10.below.mono HB9.out.size)
          clear hri hg10
          go_wp2_with fail
          refine (alive10_any w10).mono ?_
          rintro e w12 ⟨rfl, hb12⟩
          have HB12 : Hid (Below w.heap.size w w12) := HB10.out.trans (hb12.mono HB10.out.size)
          clear hb12
          go_wp2
          go_ret
          exact ⟨rfl, HB12.out⟩
    · have hk' : (k == 0) = false := by rw [beq_eq_false_iff_ne]; exact hk
      clear HK0 hk
      go_wp2_with fail
      refine (alive10_any w4).mono ?_
      rintro e w5 ⟨rfl, hb5⟩
      have HB5 : Hid (Below w.heap.size w w5) := HB4.out.trans (hb5.mono HB4.out.size)
      clear hb5
      go_wp2
      go_ret
      exact ⟨rfl, HB5.out⟩
end Go.Proofs.Ytonfhkdciaiilaa
