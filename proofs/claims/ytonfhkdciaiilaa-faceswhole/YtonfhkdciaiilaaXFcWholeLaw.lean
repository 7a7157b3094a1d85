/-
  The walk of filigreelaw10.FacesWhole.
-/
import Derived.Test.YtonfhkdciaiilaaXFcEulerLaw
import Derived.Test.YtonfhkdciaiilaaXFcWholeI
import Derived.Test.YtonfhkdciaiilaaXFcJoined
import Derived.Test.YtonfhkdciaiilaaXPRefFind
import Derived.Test.YtonfhkdciaiilaaXGSame
namespace Go.Proofs.Ytonfhkdciaiilaa
open Go Go.Proofs Go.RowKit

theorem find_right {N : Int} {L : List Ed} (hR : RightG N L) {e : Ed} (he : e ∈ L) : ∃ k : Nat, findP L e.1 e.2.1 = (k : Int) ∧ L[k]? = some e := by
  obtain ⟨k, hk⟩ := List.getElem?_of_mem he
  refine ⟨k, findP_at hk (by simp [endsB]) (fun j y hj hy => ?_), hk⟩
  have hkl := (List.getElem?_eq_some_iff.1 hk)
  have hjl := (List.getElem?_eq_some_iff.1 hy)
  have hlo := List.pairwise_iff_getElem.1 hR.rise j k hjl.1 hkl.1 hj
  rw [hjl.2, hkl.2, lo_iff] at hlo
  have h1 := (hR.each e he).2
  have h2 := (hR.each y (List.mem_of_getElem? hy)).2
  unfold endsB
  rw [Bool.or_eq_false_iff, Bool.and_eq_false_iff, Bool.and_eq_false_iff]
  simp only [decide_eq_false_iff_not]
  omega

set_option maxRecDepth 100000 in
set_option maxHeartbeats 8000000 in
theorem facesWhole_law (n : Int) (l : List Ed) (r : List (List Int)) (hr1 : r.length ≤ 9223372036854775807) (sv rv : Value) (w : World) (hl : Edges w.heap.size w sv l) (hr : Lsts w.heap.size w rv r) :
    Calls Try.prog 5 #[.agg #[.int .i64 n, sv], rv] w fun e w' => e = .returned (.bool true) ∧ Below w.heap.size w w' := by
  obtain ⟨p, c, rfl⟩ := hl.len
  have hb1 : Below w.heap.size w (w.alloc (.cells #[.int .i64 n, .slice p l.length c] 24)) := (Below.refl _ _).alloc (Nat.le_refl _) _
  have hX1 : Blk 24 (w.alloc (.cells #[.int .i64 n, .slice p l.length c] 24)) w.heap.size [.int .i64 n, .slice p l.length c] := heap_alloc_new w _
  have hlt := lightR_any n l r hr1 30 (by decide) (by decide) (.slice p l.length c) rv _ (hl.go hb1) (hr.go hb1)
  have q0 := hX1.cell (j := 0) rfl
  have q1 := hX1.cell (j := 1) rfl
  have HL : Hid (Edges w.heap.size w (.slice p l.length c) l) := hl
  have HR : Hid (Lsts w.heap.size w rv r) := hr
  have HB1 : Hid (Below w.heap.size w (w.alloc (.cells #[.int .i64 n, .slice p l.length c] 24))) := hb1
  have HX1 : Hid (Blk 24 (w.alloc (.cells #[.int .i64 n, .slice p l.length c] 24)) w.heap.size [.int .i64 n, .slice p l.length c]) := hX1
  clear hb1 hX1 hl hr
  have hmix := mixed
  go_enter Try.func5, Try.ntmps5
  go_wp2_with fail
  generalize w.alloc (.cells #[.int .i64 n, .slice p l.length c] 24) = w2 at *
  refine hlt.mono ?_
  clear hlt
  rintro e w3 ⟨bb, rfl, hbb, hb3⟩
  have HB3 : Hid (Below w.heap.size w w3) := HB1.out.trans (hb3.mono HB1.out.size)
  have HX3 : Hid (Blk 24 w3 w.heap.size [.int .i64 n, .slice p l.length c]) := HX1.out.go hb3
  have HBB : Hid (bb = true → lightB n l 30 = true ∧ (r.length : Int) ≤ 2 * 30) := hbb
  clear HB1 HX1 hb3 q0 q1 hbb
  cases bb with
  | false =>
    go_wp2_with fail
    refine (alive10_any w3).mono ?_
    rintro e w4 ⟨rfl, hb4⟩
    have HB4 : Hid (Below w.heap.size w w4) := HB3.out.trans (hb4.mono HB3.out.size)
    clear hb4
    go_wp2
    go_ret
    exact ⟨rfl, HB4.out⟩
  | true =>
    have q0 := HX3.out.cell (j := 0) rfl
    have q1 := HX3.out.cell (j := 1) rfl
    obtain ⟨k, hpl, hk0⟩ : ∃ k : Int, (Calls Try.prog 12 #[.agg #[.int .i64 n, .slice p l.length c], rv] w3 fun e w' => e = .returned (.int .i64 k) ∧ Below w3.heap.size w3 w') ∧ (k = 0 → ∃ N : Nat, n = (N : Int) ∧ RightG (N : Int) l ∧ SysR N l r ∧ planeK (numsL N l r) = 0) := by
      by_cases hk : sysK n l r = 0
      · obtain ⟨N, rfl, hR, hS⟩ := sysK_nought hk
        have hlm : l.length ≤ 120 := by have := (lightB_true (HBB.out rfl).1).2; omega
        have hnm : N ≤ 30 := by have := (lightB_true (HBB.out rfl).1).1; omega
        exact ⟨_, refPlane_any N l hR r hS (by omega) (by omega) _ rv w3 (HL.out.go HB3.out) (HR.out.go HB3.out), fun h => ⟨N, rfl, hR, hS, h⟩⟩
      · exact ⟨_, refPlane_bad n l r hk _ rv w3 (HL.out.go HB3.out) (HR.out.go HB3.out), fun h => absurd h hk⟩
    have HK0 : Hid _ := hk0
    clear hk0
    go_wp2_with fail
    refine hpl.mono ?_
    clear hpl
    rintro e w4 ⟨rfl, hb4⟩
    have HB4 : Hid (Below w.heap.size w w4) := HB3.out.trans (hb4.mono HB3.out.size)
    have HX4 : Hid (Blk 24 w4 w.heap.size [.int .i64 n, .slice p l.length c]) := HX3.out.go hb4
    clear q0 q1 hb4 HX3 HB3
    by_cases hk : k = 0
    · obtain ⟨N, rfl, hR, hS, hP⟩ := HK0.out hk
      subst hk
      have q0 := HX4.out.cell (j := 0) rfl
      have q1 := HX4.out.cell (j := 1) rfl
      have hlm : l.length ≤ 120 := by have := (lightB_true (HBB.out trivial).1).2; omega
      have hnm : N ≤ 30 := by have := (lightB_true (HBB.out trivial).1).1; omega
      obtain ⟨hk0, hRw, hSw, hPw, hc1, hsub⟩ := whole hR hS hP (by omega)
      have hjd := joined_any N l hR r hS hP (.slice p l.length c) rv w4 (HL.out.go HB4.out) (HR.out.go HB4.out)
      have eN : makeN (N : Int) (jE l (compC N l) (compC N l).length) = (N : Int) := if_pos hk0
      have eL : makeL (N : Int) (jE l (compC N l) (compC N l).length) = srt ((jE l (compC N l) (compC N l).length).map norm) := if_pos hk0
      rw [eN, eL] at hjd
      have hcf := (comps_ok hR).few
      have hLl : (srt ((jE l (compC N l) (compC N l).length).map norm)).length ≤ 150 := by
        rw [srt_len, List.length_map]
        have := jE_len l (compC N l) (compC N l).length
        omega
      have HCR : Hid (∀ W, Below w.heap.size w W → Calls Try.prog 20 #[.agg #[.int .i64 (N : Int), .slice p l.length c]] W fun r w' => ∃ lv svs h0, r = .returned lv ∧ Grp h0 lv svs (compC N l) w' ∧ Below W.heap.size W w') := fun W h => refComponents_any N l hR (.slice p l.length c) W (HL.out.go h)
      have HFI : Hid (∀ (j : Nat) (hj : j < l.length), ∃ k : Nat, findP (srt ((jE l (compC N l) (compC N l).length).map norm)) l[j].1 l[j].2.1 = (k : Int) ∧ (srt ((jE l (compC N l) (compC N l).length).map norm))[k]? = some l[j]) := fun j hj => find_right hRw (hsub _ (List.getElem_mem hj))
      have HRW : Hid _ := hRw
      have HSW : Hid _ := hSw
      have HPW : Hid _ := hPw
      have HC1 : Hid _ := hc1
      clear hR hS hP hk0 hRw hSw hPw hc1 hsub eN eL HBB HK0
      generalize jR r (compC N l) (compC N l).length = R at *
      generalize srt ((jE l (compC N l) (compC N l).length).map norm) = L at *
      generalize compC N l = C at *
      go_wp2_with fail
      refine hjd.mono ?_
      clear hjd
      rintro e w5 ⟨gv, lv, svs, h0, rfl, hE5, hG5, hb5⟩
      obtain ⟨pg, cg, rfl⟩ := hE5.len
      have hL5 := hG5.lsts
      obtain ⟨pl, cl, rfl⟩ := hL5.len
      have hbD : Below w5.heap.size w5 (w5.alloc (.cells #[.int .i64 (N : Int), .slice pg L.length cg] 24)) := (Below.refl _ _).alloc (Nat.le_refl _) _
      have hD : Blk 24 (w5.alloc (.cells #[.int .i64 (N : Int), .slice pg L.length cg] 24)) w5.heap.size [.int .i64 (N : Int), .slice pg L.length cg] := heap_alloc_new w5 _
      have hb56 := hb5.trans (hbD.mono hb5.size)
      have HX6 : Hid (Blk 24 (w5.alloc (.cells #[.int .i64 (N : Int), .slice pg L.length cg] 24)) w.heap.size [.int .i64 (N : Int), .slice p l.length c]) := HX4.out.go hb56
      have HB6 : Hid (Below w.heap.size w (w5.alloc (.cells #[.int .i64 (N : Int), .slice pg L.length cg] 24))) := HB4.out.trans (hb56.mono HB4.out.size)
      have HD6 : Hid (Blk 24 (w5.alloc (.cells #[.int .i64 (N : Int), .slice pg L.length cg] 24)) w5.heap.size [.int .i64 (N : Int), .slice pg L.length cg]) := hD
      have HE6 : Hid (Edges (w5.alloc (.cells #[.int .i64 (N : Int), .slice pg L.length cg] 24)).heap.size (w5.alloc (.cells #[.int .i64 (N : Int), .slice pg L.length cg] 24)) (.slice pg L.length cg) L) := hE5.go hbD
      have hpl := refPlane_any N L HRW.out R HSW.out (by omega) (by omega) (.slice pg L.length cg) (.slice pl R.length cl) _ (hE5.go hbD) (hL5.go hbD)
      rw [HPW.out] at hpl
      have d0 := hD.cell (j := 0) rfl
      have d1 := hD.cell (j := 1) rfl
      clear q0 q1 HX4 HB4 hE5 hG5 hL5 hb5 hbD hD hb56 HSW HPW
      go_wp2_with fail
      generalize hgd : w5.heap.size = gd at *
      generalize w5.alloc (.cells #[.int .i64 (N : Int), .slice pg L.length cg] 24) = w6 at *
      refine hpl.mono ?_
      clear hpl
      rintro e w7 ⟨rfl, hb7⟩
      have HX7 : Hid (Blk 24 w7 w.heap.size [.int .i64 (N : Int), .slice p l.length c]) := HX6.out.go hb7
      have HB7 : Hid (Below w.heap.size w w7) := HB6.out.trans (hb7.mono HB6.out.size)
      have HD7 : Hid (Blk 24 w7 gd [.int .i64 (N : Int), .slice pg L.length cg]) := HD6.out.go hb7
      have HE7 : Hid (Edges w7.heap.size w7 (.slice pg L.length cg) L) := HE6.out.go hb7
      clear d0 d1 HX6 HB6 HD6 HE6 hb7
      have q0 := HX7.out.cell (j := 0) rfl
      have q1 := HX7.out.cell (j := 1) rfl
      have d0 := HD7.out.cell (j := 0) rfl
      have d1 := HD7.out.cell (j := 1) rfl
      have hcc := HCR.out w7 HB7.out
      go_wp2_with fail
      refine hcc.mono ?_
      clear hcc HCR
      rintro e w8 ⟨lc, cvs, hc0, rfl, hGC, hb8⟩
      have hLC := hGC.lsts
      obtain ⟨pc, cc, rfl⟩ := hLC.len
      have HX8 : Hid (Blk 24 w8 w.heap.size [.int .i64 (N : Int), .slice p l.length c]) := HX7.out.go hb8
      have HB8 : Hid (Below w.heap.size w w8) := HB7.out.trans (hb8.mono HB7.out.size)
      have HD8 : Hid (Blk 24 w8 gd [.int .i64 (N : Int), .slice pg L.length cg]) := HD7.out.go hb8
      have HE8 : Hid (Edges w8.heap.size w8 (.slice pg L.length cg) L) := HE7.out.go hb8
      clear q0 q1 d0 d1 HX7 HB7 HD7 HE7 hb8 hGC hLC cvs
      have q0 := HX8.out.cell (j := 0) rfl
      have q1 := HX8.out.cell (j := 1) rfl
      have d0 := HD8.out.cell (j := 0) rfl
      have d1 := HD8.out.cell (j := 1) rfl
      by_cases hN : N = 0
      · subst hN
        have hNz : ((0 : Nat) : Int) = 0 := rfl
        have HXL : Hid (Blk 24 w8 w.heap.size [.int .i64 ((0 : Nat) : Int), .slice p l.length c]) := HX8.out
        have HDL : Hid (Blk 24 w8 gd [.int .i64 ((0 : Nat) : Int), .slice pg L.length cg]) := HD8.out
        have HBL : Hid (Below w.heap.size w w8) := HB8.out
        have HEL : Hid (Edges w8.heap.size w8 (.slice pg L.length cg) L) := HE8.out
        clear HX8 HD8 HB8 HE8
        go_wp2
        clear q0 q1 d0 d1 HC1
        go_loopw [9] (fun iv wr => ∃ j : Nat, j ≤ l.length ∧ iv = .int .i64 j ∧ Below w8.heap.size w8 wr) (fun v _ => l.length - (intOf v).toNat)
        case atStart => exact ⟨0, Nat.zero_le _, rfl, Below.refl _ _⟩
        case round =>
          obtain ⟨j, hj, rfl, hb⟩ := hrel
          have x1 := (HXL.out.go hb).cell (j := 1) rfl
          by_cases hlt : j < l.length
          · have hjl : (j : Int) < (l.length : Int) := by omega
            obtain ⟨b, off, rfl, hbb, hcap, hc, -⟩ := HL.out.open hlt
            have hbW : Below w.heap.size w wr := HBL.out.trans (hb.mono HBL.out.size)
            obtain ⟨c0, c1, c2⟩ := hc wr hbW j hlt
            obtain ⟨kf, hkf, hkL⟩ := HFI.out j hlt
            have hkl := (List.getElem?_eq_some_iff.1 hkL).1
            have hkl' : (kf : Int) < (L.length : Int) := by omega
            have hLj : L[kf] = l[j] := (List.getElem?_eq_some_iff.1 hkL).2
            have hEr := HEL.out.go hb
            have hfd := fun W h => refFind_any ((0 : Nat) : Int) L (by omega) l[j].1 l[j].2.1 (.slice pg L.length cg) W h
            rw [hkf] at hfd
            have g0 := (HDL.out.go hb).cell (j := 0) rfl
            have g1 := (HDL.out.go hb).cell (j := 1) rfl
            obtain ⟨b2, off2, rfl, hbb2, hcap2, hc2, -⟩ := hEr.open hkl
            obtain ⟨e0, e1, e2⟩ := hc2 wr (Below.refl _ _) kf hkl
            rw [hLj] at e0 e1 e2
            have hne := neE_run l[j] l[j]
            have hnf : neE l[j] l[j] = false := by simp [neE]
            rw [hnf] at hne
            have HER : Hid (Edges wr.heap.size wr (.slice (some ⟨b2, off2, none⟩) L.length cg) L) := hEr
            have HB : Hid (Below w8.heap.size w8 wr) := hb
            have HFD : Hid _ := hfd
            clear hc hc2 hEr hb hfd hbW hkf hkL hLj hnf
            have hne' : ∀ W : World, (binOp .neq 44 (.agg #[.int .i64 l[j].1, .int .i64 l[j].2.1, .int .i64 l[j].2.2]) (.agg #[.int .i64 l[j].1, .int .i64 l[j].2.1, .int .i64 l[j].2.2])).run Try.prog W = .ok (.bool false) W := hne
            clear hne
            generalize l[j].1 = ea at *
            generalize l[j].2.1 = eb at *
            generalize l[j].2.2 = ec at *
            go_wp2_with fail
            generalize hgb : w.heap.size = gb at x1
            refine wp_region_held_drew (S := (fun w' : World => w'.cell? ⟨gd, 0, none⟩ = some (.int .i64 ((0 : Nat) : Int)) ∧ w'.cell? ⟨gd, 1, none⟩ = some (.slice (some ⟨b2, off2, none⟩) L.length cg) ∧ w'.cell? ⟨gb, 1, none⟩ = some (.slice (some ⟨b, off, none⟩) l.length c) ∧ w'.cell? ⟨b, off + j * 3, none⟩ = some (.int .i64 ea) ∧ w'.cell? ⟨b, off + j * 3 + 1, none⟩ = some (.int .i64 eb))) (by kernel_rfl) ⟨g0, g1, x1, c0, c1⟩ (fun hHeld => ?_)
            refine wpAnyH_take (i := 0) (v := ?_) rfl (by kernel_rfl) (by kernel_rfl) (by kernel_rfl) (fun _ _ _ h => h) (Or.inl ⟨by rfl, ?_⟩) (by assumption) ?_
            rotate_left
            · intro w hSw; (try dsimp only at hSw); go_simp; (try with_reducible rfl)
            try simp only [Act.put, List.setIfInBounds_toArray]
            refine wpAnyH_take (i := 1) (v := ?_) rfl (by kernel_rfl) (by kernel_rfl) (by kernel_rfl) (fun _ _ _ h => h) (Or.inl ⟨by rfl, ?_⟩) (by assumption) ?_
            rotate_left
            · intro w hSw; (try dsimp only at hSw); go_simp; (try with_reducible rfl)
            try simp only [Act.put]
            refine wpAnyH_take (i := 2) (v := ?_) rfl (by kernel_rfl) (by kernel_rfl) (by kernel_rfl) (fun _ _ _ h => h) (Or.inl ⟨by rfl, ?_⟩) (by assumption) ?_
            rotate_left
            · intro w hSw; (try dsimp only at hSw); go_simp; (try with_reducible rfl)
            try simp only [Act.put]
            refine wpAnyH_take (i := 3) (v := ?_) rfl (by kernel_rfl) (by kernel_rfl) (by kernel_rfl) (fun _ _ _ h => h) (Or.inl ⟨by rfl, ?_⟩) (by assumption) ?_
            rotate_left
            · intro w hSw; (try dsimp only at hSw); go_simp; (try with_reducible rfl)
            try simp only [Act.put]
            refine wpAnyH_take (i := 4) (v := ?_) rfl (by kernel_rfl) (by kernel_rfl) (by kernel_rfl) (fun _ _ _ h => h) (Or.inl ⟨by rfl, ?_⟩) (by assumption) ?_
            rotate_left
            · intro w hSw; (try dsimp only at hSw); go_simp; (try with_reducible rfl)
            try simp only [Act.put]
            try simp only [List.getElem_toArray, List.getElem_cons_zero, List.getElem_cons_succ, List.setIfInBounds_toArray, List.set_cons_zero, List.set_cons_succ]
            refine wpAnyH_take (i := 5) (v := ?_) rfl (by kernel_rfl) (by kernel_rfl) (by kernel_rfl) (fun _ _ _ h => h) (Or.inl ⟨by rfl, ?_⟩) (by assumption) ?_
            rotate_left
            · intro w hSw; (try dsimp only at hSw); go_simp; (try with_reducible rfl)
            try simp only [Act.put]
            refine wpAnyH_take (i := 6) (v := ?_) rfl (by kernel_rfl) (by kernel_rfl) (by kernel_rfl) (fun _ _ _ h => h) (Or.inl ⟨by rfl, ?_⟩) (by assumption) ?_
            rotate_left
            · intro w hSw; (try dsimp only at hSw); go_simp; (try with_reducible rfl)
            try simp only [Act.put]
            refine wpAnyH_take (i := 7) (v := ?_) rfl (by kernel_rfl) (by kernel_rfl) (by kernel_rfl) (fun _ _ _ h => h) (Or.inl ⟨by rfl, ?_⟩) (by assumption) ?_
            rotate_left
            · intro w hSw; (try dsimp only at hSw); go_simp; (try with_reducible rfl)
            try simp only [Act.put]
            refine wpAnyH_take (i := 8) (v := ?_) rfl (by kernel_rfl) (by kernel_rfl) (by kernel_rfl) (fun _ _ _ h => h) (Or.inl ⟨by rfl, ?_⟩) (by assumption) ?_
            rotate_left
            · intro w hSw; (try dsimp only at hSw); go_simp; (try with_reducible rfl)
            try simp only [Act.put]
            try simp only [List.getElem_toArray, List.getElem_cons_zero, List.getElem_cons_succ, List.setIfInBounds_toArray, List.set_cons_zero, List.set_cons_succ]
            refine wpAnyH_take (i := 9) (v := ?_) rfl (by kernel_rfl) (by kernel_rfl) (by kernel_rfl) (fun _ _ _ h => h) (Or.inl ⟨by rfl, ?_⟩) (by assumption) ?_
            rotate_left
            · intro w hSw; (try dsimp only at hSw); go_simp; (try with_reducible rfl)
            try simp only [Act.put]
            refine wpAnyH_take (i := 10) (v := ?_) rfl (by kernel_rfl) (by kernel_rfl) (by kernel_rfl) (fun _ _ _ h => h) (Or.inl ⟨by rfl, ?_⟩) (by assumption) ?_
            rotate_left
            · intro w hSw; (try dsimp only at hSw); go_simp; (try with_reducible rfl)
            try simp only [Act.put]
            refine wpAnyH_take (i := 11) (v := ?_) rfl (by kernel_rfl) (by kernel_rfl) (by kernel_rfl) (fun _ _ _ h => h) (Or.inl ⟨by rfl, ?_⟩) (by assumption) ?_
            rotate_left
            · intro w hSw; (try dsimp only at hSw); go_simp; (try with_reducible rfl)
            try simp only [Act.put]
            refine wpAnyH_take (i := 12) (v := ?_) rfl (by kernel_rfl) (by kernel_rfl) (by kernel_rfl) (fun _ _ _ h => h) (Or.inl ⟨by rfl, ?_⟩) (by assumption) ?_
            rotate_left
            · intro w hSw; (try dsimp only at hSw); go_simp; (try with_reducible rfl)
            try simp only [Act.put]
            try simp only [List.getElem_toArray, List.getElem_cons_zero, List.getElem_cons_succ, List.setIfInBounds_toArray, List.set_cons_zero, List.set_cons_succ]
            refine wpAnyH_ready (rs := [13]) (by kernel_rfl) (by simp) ?_
            refine AllReadyH.cons rfl (fun K hK => ?_) AllReadyH.nil
            go_simp
            refine (HFD.out wr.drew (HER.out.go (below_drewN (Below.refl _ _) 1))).mono ?_
            rintro e wA ⟨rfl, hgA⟩
            have hbA : Below wr.heap.size wr wA := (below_drewN (Below.refl _ _) 1).trans (hgA.below)
            refine hK.out _ _ ⟨cell_keepK hbA g0, cell_keepK hbA g1, cell_keepK hbA x1, cell_keepK hbA c0, cell_keepK hbA c1⟩ (fun hHeld4 => ?_)
            clear hK K HFD
            try simp only [Act.put, List.setIfInBounds_toArray, List.set_cons_zero, List.set_cons_succ]
            refine wpAnyH_take (i := 14) (v := ?_) rfl (by kernel_rfl) (by kernel_rfl) (by kernel_rfl) (fun _ _ _ h => h) (Or.inl ⟨by rfl, ?_⟩) (by assumption) ?_
            rotate_left
            · intro w hSw; (try dsimp only at hSw); go_simp; (try with_reducible rfl)
            try simp only [Act.put]
            refine wpAnyH_done (by kernel_rfl) ?_ _
            have k1 := cell_keepK hbA g1
            have k2 := cell_keepK hbA x1
            have k3 := cell_keepK hbA c0
            have k4 := cell_keepK hbA c1
            have k5 := cell_keepK hbA c2
            have k6 := cell_keepK hbA e0
            have k7 := cell_keepK hbA e1
            have k8 := cell_keepK hbA e2
            have HBA : Hid (Below w8.heap.size w8 wA) := HB.out.trans (hbA.mono HB.out.size)
            clear g0 g1 x1 c0 c1 c2 e0 e1 e2 hHeld hHeld4 HER HB hbA hgA
            subst hgb
            have hkn : ¬ (kf : Int) < 0 := by omega
            go_wp2_with fail
            go_quiet (fail)
            go_wp2
            exact ⟨⟨j + 1, by omega, by go_num, below_drewN HBA.out nq⟩, by simp [intOf]; omega⟩
          · obtain rfl : j = l.length := by omega
            have hjl : ¬ (l.length : Int) < (l.length : Int) := by omega
            have HBF : Hid (Below w.heap.size w wr) := HBL.out.trans (hb.mono HBL.out.size)
            clear hb
            go_wp2_with fail
            refine (alive10_any wr).mono ?_
            rintro e wF ⟨rfl, hbF⟩
            have HBG : Hid (Below w.heap.size w wF) := HBF.out.trans (hbF.mono HBF.out.size)
            clear hbF
            go_wp2
            go_ret
            exact ⟨rfl, HBG.out⟩
      · have hNp : (0 : Int) < (N : Int) := by omega
        obtain ⟨hone, hmany⟩ := HC1.out (by omega)
        have hcL : Calls Try.prog 20 #[.agg #[.int .i64 (N : Int), .slice pg L.length cg]] w8 fun r w' => ∃ lv svs h0, r = .returned lv ∧ Grp h0 lv svs (compC N L) w' ∧ Below w8.heap.size w8 w' := refComponents_any N L HRW.out (.slice pg L.length cg) w8 HE8.out
        have hmI : (L.length : Int) = (l.length : Int) + (C.length : Int) - 1 := by omega
        have HMI : Hid _ := hmI
        have HON : Hid _ := hone
        clear hmI hmany hone
        generalize compC N L = C2 at *
        go_wp2_with fail
        refine hcL.mono ?_
        clear hcL
        rintro e w9 ⟨l2, cv2, hc2, rfl, hG2, hb9⟩
        have hL2 := hG2.lsts
        obtain ⟨p2, c2, rfl⟩ := hL2.len
        have HXL : Hid (Blk 24 w9 w.heap.size [.int .i64 (N : Int), .slice p l.length c]) := HX8.out.go hb9
        have HDL : Hid (Blk 24 w9 gd [.int .i64 (N : Int), .slice pg L.length cg]) := HD8.out.go hb9
        have HBL : Hid (Below w.heap.size w w9) := HB8.out.trans (hb9.mono HB8.out.size)
        have HEL : Hid (Edges w9.heap.size w9 (.slice pg L.length cg) L) := HE8.out.go hb9
        clear q0 q1 d0 d1 hG2 hL2 HX8 HD8 HB8 HE8 hb9
        have q0 := HXL.out.cell (j := 0) rfl
        have q1 := HXL.out.cell (j := 1) rfl
        have d0 := HDL.out.cell (j := 0) rfl
        have d1 := HDL.out.cell (j := 1) rfl
        have hone : (C2.length : Int) = 1 := by have := HON.out; omega
        have hmI := HMI.out
        have hb1 : (((l.length : Int) + (C.length : Int) - 1) == (l.length : Int) + (C.length : Int) - 1) = true := by simp
        go_wp2
        clear hone hmI hb1
        clear q0 q1 d0 d1 HC1
        go_loopw [9] (fun iv wr => ∃ j : Nat, j ≤ l.length ∧ iv = .int .i64 j ∧ Below w9.heap.size w9 wr) (fun v _ => l.length - (intOf v).toNat)
        case atStart => exact ⟨0, Nat.zero_le _, rfl, Below.refl _ _⟩
        case round =>
          obtain ⟨j, hj, rfl, hb⟩ := hrel
          have x1 := (HXL.out.go hb).cell (j := 1) rfl
          by_cases hlt : j < l.length
          · have hjl : (j : Int) < (l.length : Int) := by omega
            obtain ⟨b, off, rfl, hbb, hcap, hc, -⟩ := HL.out.open hlt
            have hbW : Below w.heap.size w wr := HBL.out.trans (hb.mono HBL.out.size)
            obtain ⟨c0, c1, c2⟩ := hc wr hbW j hlt
            obtain ⟨kf, hkf, hkL⟩ := HFI.out j hlt
            have hkl := (List.getElem?_eq_some_iff.1 hkL).1
            have hkl' : (kf : Int) < (L.length : Int) := by omega
            have hLj : L[kf] = l[j] := (List.getElem?_eq_some_iff.1 hkL).2
            have hEr := HEL.out.go hb
            have hfd := fun W h => refFind_any (N : Int) L (by omega) l[j].1 l[j].2.1 (.slice pg L.length cg) W h
            rw [hkf] at hfd
            have g0 := (HDL.out.go hb).cell (j := 0) rfl
            have g1 := (HDL.out.go hb).cell (j := 1) rfl
            obtain ⟨b2, off2, rfl, hbb2, hcap2, hc2, -⟩ := hEr.open hkl
            obtain ⟨e0, e1, e2⟩ := hc2 wr (Below.refl _ _) kf hkl
            rw [hLj] at e0 e1 e2
            have hne := neE_run l[j] l[j]
            have hnf : neE l[j] l[j] = false := by simp [neE]
            rw [hnf] at hne
            have HER : Hid (Edges wr.heap.size wr (.slice (some ⟨b2, off2, none⟩) L.length cg) L) := hEr
            have HB : Hid (Below w9.heap.size w9 wr) := hb
            have HFD : Hid _ := hfd
            clear hc hc2 hEr hb hfd hbW hkf hkL hLj hnf
            have hne' : ∀ W : World, (binOp .neq 44 (.agg #[.int .i64 l[j].1, .int .i64 l[j].2.1, .int .i64 l[j].2.2]) (.agg #[.int .i64 l[j].1, .int .i64 l[j].2.1, .int .i64 l[j].2.2])).run Try.prog W = .ok (.bool false) W := hne
            clear hne
            generalize l[j].1 = ea at *
            generalize l[j].2.1 = eb at *
            generalize l[j].2.2 = ec at *
            go_wp2_with fail
            generalize hgb : w.heap.size = gb at x1
            refine wp_region_held_drew (S := (fun w' : World => w'.cell? ⟨gd, 0, none⟩ = some (.int .i64 (N : Int)) ∧ w'.cell? ⟨gd, 1, none⟩ = some (.slice (some ⟨b2, off2, none⟩) L.length cg) ∧ w'.cell? ⟨gb, 1, none⟩ = some (.slice (some ⟨b, off, none⟩) l.length c) ∧ w'.cell? ⟨b, off + j * 3, none⟩ = some (.int .i64 ea) ∧ w'.cell? ⟨b, off + j * 3 + 1, none⟩ = some (.int .i64 eb))) (by kernel_rfl) ⟨g0, g1, x1, c0, c1⟩ (fun hHeld => ?_)
            refine wpAnyH_take (i := 0) (v := ?_) rfl (by kernel_rfl) (by kernel_rfl) (by kernel_rfl) (fun _ _ _ h => h) (Or.inl ⟨by rfl, ?_⟩) (by assumption) ?_
            rotate_left
            · intro w hSw; (try dsimp only at hSw); go_simp; (try with_reducible rfl)
            try simp only [Act.put, List.setIfInBounds_toArray]
            refine wpAnyH_take (i := 1) (v := ?_) rfl (by kernel_rfl) (by kernel_rfl) (by kernel_rfl) (fun _ _ _ h => h) (Or.inl ⟨by rfl, ?_⟩) (by assumption) ?_
            rotate_left
            · intro w hSw; (try dsimp only at hSw); go_simp; (try with_reducible rfl)
            try simp only [Act.put]
            refine wpAnyH_take (i := 2) (v := ?_) rfl (by kernel_rfl) (by kernel_rfl) (by kernel_rfl) (fun _ _ _ h => h) (Or.inl ⟨by rfl, ?_⟩) (by assumption) ?_
            rotate_left
            · intro w hSw; (try dsimp only at hSw); go_simp; (try with_reducible rfl)
            try simp only [Act.put]
            refine wpAnyH_take (i := 3) (v := ?_) rfl (by kernel_rfl) (by kernel_rfl) (by kernel_rfl) (fun _ _ _ h => h) (Or.inl ⟨by rfl, ?_⟩) (by assumption) ?_
            rotate_left
            · intro w hSw; (try dsimp only at hSw); go_simp; (try with_reducible rfl)
            try simp only [Act.put]
            refine wpAnyH_take (i := 4) (v := ?_) rfl (by kernel_rfl) (by kernel_rfl) (by kernel_rfl) (fun _ _ _ h => h) (Or.inl ⟨by rfl, ?_⟩) (by assumption) ?_
            rotate_left
            · intro w hSw; (try dsimp only at hSw); go_simp; (try with_reducible rfl)
            try simp only [Act.put]
            try simp only [List.getElem_toArray, List.getElem_cons_zero, List.getElem_cons_succ, List.setIfInBounds_toArray, List.set_cons_zero, List.set_cons_succ]
            refine wpAnyH_take (i := 5) (v := ?_) rfl (by kernel_rfl) (by kernel_rfl) (by kernel_rfl) (fun _ _ _ h => h) (Or.inl ⟨by rfl, ?_⟩) (by assumption) ?_
            rotate_left
            · intro w hSw; (try dsimp only at hSw); go_simp; (try with_reducible rfl)
            try simp only [Act.put]
            refine wpAnyH_take (i := 6) (v := ?_) rfl (by kernel_rfl) (by kernel_rfl) (by kernel_rfl) (fun _ _ _ h => h) (Or.inl ⟨by rfl, ?_⟩) (by assumption) ?_
            rotate_left
            · intro w hSw; (try dsimp only at hSw); go_simp; (try with_reducible rfl)
            try simp only [Act.put]
            refine wpAnyH_take (i := 7) (v := ?_) rfl (by kernel_rfl) (by kernel_rfl) (by kernel_rfl) (fun _ _ _ h => h) (Or.inl ⟨by rfl, ?_⟩) (by assumption) ?_
            rotate_left
            · intro w hSw; (try dsimp only at hSw); go_simp; (try with_reducible rfl)
            try simp only [Act.put]
            refine wpAnyH_take (i := 8) (v := ?_) rfl (by kernel_rfl) (by kernel_rfl) (by kernel_rfl) (fun _ _ _ h => h) (Or.inl ⟨by rfl, ?_⟩) (by assumption) ?_
            rotate_left
            · intro w hSw; (try dsimp only at hSw); go_simp; (try with_reducible rfl)
            try simp only [Act.put]
            try simp only [List.getElem_toArray, List.getElem_cons_zero, List.getElem_cons_succ, List.setIfInBounds_toArray, List.set_cons_zero, List.set_cons_succ]
            refine wpAnyH_take (i := 9) (v := ?_) rfl (by kernel_rfl) (by kernel_rfl) (by kernel_rfl) (fun _ _ _ h => h) (Or.inl ⟨by rfl, ?_⟩) (by assumption) ?_
            rotate_left
            · intro w hSw; (try dsimp only at hSw); go_simp; (try with_reducible rfl)
            try simp only [Act.put]
            refine wpAnyH_take (i := 10) (v := ?_) rfl (by kernel_rfl) (by kernel_rfl) (by kernel_rfl) (fun _ _ _ h => h) (Or.inl ⟨by rfl, ?_⟩) (by assumption) ?_
            rotate_left
            · intro w hSw; (try dsimp only at hSw); go_simp; (try with_reducible rfl)
            try simp only [Act.put]
            refine wpAnyH_take (i := 11) (v := ?_) rfl (by kernel_rfl) (by kernel_rfl) (by kernel_rfl) (fun _ _ _ h => h) (Or.inl ⟨by rfl, ?_⟩) (by assumption) ?_
            rotate_left
            · intro w hSw; (try dsimp only at hSw); go_simp; (try with_reducible rfl)
            try simp only [Act.put]
            refine wpAnyH_take (i := 12) (v := ?_) rfl (by kernel_rfl) (by kernel_rfl) (by kernel_rfl) (fun _ _ _ h => h) (Or.inl ⟨by rfl, ?_⟩) (by assumption) ?_
            rotate_left
            · intro w hSw; (try dsimp only at hSw); go_simp; (try with_reducible rfl)
            try simp only [Act.put]
            try simp only [List.getElem_toArray, List.getElem_cons_zero, List.getElem_cons_succ, List.setIfInBounds_toArray, List.set_cons_zero, List.set_cons_succ]
            refine wpAnyH_ready (rs := [13]) (by kernel_rfl) (by simp) ?_
            refine AllReadyH.cons rfl (fun K hK => ?_) AllReadyH.nil
            go_simp
            refine (HFD.out wr.drew (HER.out.go (below_drewN (Below.refl _ _) 1))).mono ?_
            rintro e wA ⟨rfl, hgA⟩
            have hbA : Below wr.heap.size wr wA := (below_drewN (Below.refl _ _) 1).trans (hgA.below)
            refine hK.out _ _ ⟨cell_keepK hbA g0, cell_keepK hbA g1, cell_keepK hbA x1, cell_keepK hbA c0, cell_keepK hbA c1⟩ (fun hHeld4 => ?_)
            clear hK K HFD
            try simp only [Act.put, List.setIfInBounds_toArray, List.set_cons_zero, List.set_cons_succ]
            refine wpAnyH_take (i := 14) (v := ?_) rfl (by kernel_rfl) (by kernel_rfl) (by kernel_rfl) (fun _ _ _ h => h) (Or.inl ⟨by rfl, ?_⟩) (by assumption) ?_
            rotate_left
            · intro w hSw; (try dsimp only at hSw); go_simp; (try with_reducible rfl)
            try simp only [Act.put]
            refine wpAnyH_done (by kernel_rfl) ?_ _
            have k1 := cell_keepK hbA g1
            have k2 := cell_keepK hbA x1
            have k3 := cell_keepK hbA c0
            have k4 := cell_keepK hbA c1
            have k5 := cell_keepK hbA c2
            have k6 := cell_keepK hbA e0
            have k7 := cell_keepK hbA e1
            have k8 := cell_keepK hbA e2
            have HBA : Hid (Below w9.heap.size w9 wA) := HB.out.trans (hbA.mono HB.out.size)
            clear g0 g1 x1 c0 c1 c2 e0 e1 e2 hHeld hHeld4 HER HB hbA hgA
            subst hgb
            have hkn : ¬ (kf : Int) < 0 := by omega
            go_wp2_with fail
            go_quiet (fail)
            go_wp2
            exact ⟨⟨j + 1, by omega, by go_num, below_drewN HBA.out nq⟩, by simp [intOf]; omega⟩
          · obtain rfl : j = l.length := by omega
            have hjl : ¬ (l.length : Int) < (l.length : Int) := by omega
            have HBF : Hid (Below w.heap.size w wr) := HBL.out.trans (hb.mono HBL.out.size)
            clear hb
            go_wp2_with fail
            refine (alive10_any wr).mono ?_
            rintro e wF ⟨rfl, hbF⟩
            have HBG : Hid (Below w.heap.size w wF) := HBF.out.trans (hbF.mono HBF.out.size)
            clear hbF
            go_wp2
            go_ret
            exact ⟨rfl, HBG.out⟩
    · have hk' : (k == 0) = false := by rw [beq_eq_false_iff_ne]; exact hk
      clear HK0 hk
      go_wp2_with fail
      refine (alive10_any w4).mono ?_
      rintro e w5 ⟨rfl, hb5⟩
      have HB5 : Hid (Below w.heap.size w w5) := HB4.out.trans (hb5.mono HB4.out.size)
      clear hb5
      go_wp2
      go_ret
      exact ⟨rfl, HB5.out⟩
end Go.Proofs.Ytonfhkdciaiilaa
