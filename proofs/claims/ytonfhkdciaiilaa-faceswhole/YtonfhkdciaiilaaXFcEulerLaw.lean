/-
  The walk of filigreelaw10.FacesEuler.
-/
import Derived.Test.YtonfhkdciaiilaaXFcAlive
import Derived.Test.YtonfhkdciaiilaaXREulerLaw
import Derived.Test.YtonfhkdciaiilaaXRRefNear
import Derived.Test.YtonfhkdciaiilaaQM
namespace Go.Proofs.Ytonfhkdciaiilaa
open Go Go.Proofs Go.RowKit

set_option maxRecDepth 100000 in
set_option maxHeartbeats 2000000 in
theorem refPlane_bad (n : Int) (l : List Ed) (r : List (List Int)) (hk : sysK n l r ≠ 0) (sv rv : Value) (w : World) (hl : Edges w.heap.size w sv l) (hr : Lsts w.heap.size w rv r) :
    Calls Try.prog 12 #[.agg #[.int .i64 n, sv], rv] w fun e w' => e = .returned (.int .i64 (sysK n l r)) ∧ Below w.heap.size w w' := by
  have hbA : Below w.heap.size w (w.alloc (.cells #[.int .i64 n, sv] 24)) := (Below.refl _ _).alloc (Nat.le_refl _) _
  have hX : Blk 24 (w.alloc (.cells #[.int .i64 n, sv] 24)) w.heap.size [.int .i64 n, sv] := heap_alloc_new w _
  have q0 := hX.cell (j := 0) rfl
  have q1 := hX.cell (j := 1) rfl
  have hrc := refSys_any n l r sv rv _ (hl.go hbA) (hr.go hbA)
  have HBA : Hid _ := hbA
  clear hX hl hr hbA
  generalize sysK n l r = k at *
  go_enter Try.func12, Try.ntmps12
  go_wp2_with fail
  generalize w.alloc (.cells #[.int .i64 n, sv] 24) = w1 at *
  refine hrc.mono ?_
  clear hrc
  rintro e w2 ⟨rfl, hb2⟩
  have HB2 : Hid (Below w.heap.size w w2) := HBA.out.trans (hb2.mono HBA.out.size)
  clear hb2 q0 q1
  go_wp2
  go_ret
  exact ⟨rfl, HB2.out⟩

/-- How many of the first v vertices have an edge. -/
def cntV (l : List Ed) (v : Nat) : Nat := (List.range v).countP fun (u : Nat) => !(nb l (u : Int)).isEmpty
theorem cntV_yes {l : List Ed} {v : Nat} (h : 0 < (nb l (v : Int)).length) : cntV l (v + 1) = cntV l v + 1 := by
  unfold cntV
  rw [List.range_succ, List.countP_append, List.countP_singleton, if_pos]
  rw [List.isEmpty_eq_false_iff.2 (List.length_pos_iff.1 h)]
  rfl
theorem cntV_no {l : List Ed} {v : Nat} (h : ¬ 0 < (nb l (v : Int)).length) : cntV l (v + 1) = cntV l v := by
  unfold cntV
  rw [List.range_succ, List.countP_append, List.countP_singleton, if_neg]
  · rfl
  · have : nb l (v : Int) = [] := List.eq_nil_of_length_eq_zero (by omega)
    rw [this]
    decide
theorem cntV_le (l : List Ed) (v : Nat) : cntV l v ≤ v := by
  have := List.countP_le_length (p := fun (u : Nat) => !(nb l (u : Int)).isEmpty) (l := List.range v)
  rw [List.length_range] at this
  exact this
theorem cntV_all (N : Nat) (l : List Ed) : cntV l N = N - isoN N l := by
  have := List.length_eq_countP_add_countP (fun (u : Nat) => (nb l (u : Int)).isEmpty) (l := List.range N)
  rw [List.length_range] at this
  have e : cntV l N = (List.range N).countP fun (a : Nat) => decide ¬ ((nb l (a : Int)).isEmpty = true) := List.countP_congr fun (u : Nat) _ => by simp
  unfold isoN
  omega
def cntC (C : List (List Int)) (k : Nat) : Nat := (C.take k).countP fun x => decide (1 < x.length)
theorem cntC_step {C : List (List Int)} {k : Nat} (h : k < C.length) : cntC C (k + 1) = cntC C k + if 1 < C[k].length then 1 else 0 := by
  unfold cntC
  rw [List.take_add_one, List.getElem?_eq_getElem h, List.countP_append]
  simp [List.countP_cons]
theorem cntC_le (C : List (List Int)) (k : Nat) : cntC C k ≤ C.length := by
  unfold cntC
  have h1 := List.countP_le_length (p := fun x : List Int => decide (1 < x.length)) (l := C.take k)
  rw [List.length_take] at h1
  omega

set_option maxRecDepth 100000 in
set_option maxHeartbeats 8000000 in
theorem facesEuler_law (n : Int) (l : List Ed) (r : List (List Int)) (hr1 : r.length ≤ 9223372036854775807) (sv rv : Value) (w : World) (hl : Edges w.heap.size w sv l) (hr : Lsts w.heap.size w rv r) :
    Calls Try.prog 6 #[.agg #[.int .i64 n, sv], rv] w fun e w' => e = .returned (.bool true) ∧ Below w.heap.size w w' := by
  obtain ⟨p, c, rfl⟩ := hl.len
  have hb1 : Below w.heap.size w (w.alloc (.cells #[.int .i64 n, .slice p l.length c] 24)) := (Below.refl _ _).alloc (Nat.le_refl _) _
  have hX1 : Blk 24 (w.alloc (.cells #[.int .i64 n, .slice p l.length c] 24)) w.heap.size [.int .i64 n, .slice p l.length c] := heap_alloc_new w _
  have hlt := lightR_any n l r hr1 30 (by decide) (by decide) (.slice p l.length c) rv _ (hl.go hb1) (hr.go hb1)
  have q0 := hX1.cell (j := 0) rfl
  have q1 := hX1.cell (j := 1) rfl
  have HL : Hid (Edges w.heap.size w (.slice p l.length c) l) := hl
  have HR : Hid (Lsts w.heap.size w rv r) := hr
  have HB1 : Hid (Below w.heap.size w (w.alloc (.cells #[.int .i64 n, .slice p l.length c] 24))) := hb1
  have HX1 : Hid (Blk 24 (w.alloc (.cells #[.int .i64 n, .slice p l.length c] 24)) w.heap.size [.int .i64 n, .slice p l.length c]) := hX1
  clear hb1 hX1 hl hr
  have hmix := mixed
  go_enter Try.func6, Try.ntmps6
  go_wp2_with fail
  generalize w.alloc (.cells #[.int .i64 n, .slice p l.length c] 24) = w2 at *
  refine hlt.mono ?_
  clear hlt
  rintro e w3 ⟨bb, rfl, hbb, hb3⟩
  have HB3 : Hid (Below w.heap.size w w3) := HB1.out.trans (hb3.mono HB1.out.size)
  have HX3 : Hid (Blk 24 w3 w.heap.size [.int .i64 n, .slice p l.length c]) := HX1.out.go hb3
  have HBB : Hid (bb = true → lightB n l 30 = true ∧ (r.length : Int) ≤ 2 * 30) := hbb
  clear HB1 HX1 hb3 q0 q1 hbb
  cases bb with
  | false =>
    go_wp2_with fail
    refine (alive10_any w3).mono ?_
    rintro e w4 ⟨rfl, hb4⟩
    have HB4 : Hid (Below w.heap.size w w4) := HB3.out.trans (hb4.mono HB3.out.size)
    clear hb4
    go_wp2
    go_ret
    exact ⟨rfl, HB4.out⟩
  | true =>
    have q0 := HX3.out.cell (j := 0) rfl
    have q1 := HX3.out.cell (j := 1) rfl
    obtain ⟨k, hpl, hk0⟩ : ∃ k : Int, (Calls Try.prog 12 #[.agg #[.int .i64 n, .slice p l.length c], rv] w3 fun e w' => e = .returned (.int .i64 k) ∧ Below w3.heap.size w3 w') ∧ (k = 0 → ∃ N : Nat, n = (N : Int) ∧ RightG (N : Int) l ∧ SysR N l r ∧ planeK (numsL N l r) = 0) := by
      by_cases hk : sysK n l r = 0
      · obtain ⟨N, rfl, hR, hS⟩ := sysK_nought hk
        have hlm : l.length ≤ 120 := by have := (lightB_true (HBB.out rfl).1).2; omega
        have hnm : N ≤ 30 := by have := (lightB_true (HBB.out rfl).1).1; omega
        exact ⟨_, refPlane_any N l hR r hS (by omega) (by omega) _ rv w3 (HL.out.go HB3.out) (HR.out.go HB3.out), fun h => ⟨N, rfl, hR, hS, h⟩⟩
      · exact ⟨_, refPlane_bad n l r hk _ rv w3 (HL.out.go HB3.out) (HR.out.go HB3.out), fun h => absurd h hk⟩
    have HK0 : Hid _ := hk0
    clear hk0
    go_wp2_with fail
    refine hpl.mono ?_
    clear hpl
    rintro e w4 ⟨rfl, hb4⟩
    have HB4 : Hid (Below w.heap.size w w4) := HB3.out.trans (hb4.mono HB3.out.size)
    have HX4 : Hid (Blk 24 w4 w.heap.size [.int .i64 n, .slice p l.length c]) := HX3.out.go hb4
    clear q0 q1 hb4 HX3 HB3
    by_cases hk : k = 0
    · obtain ⟨N, rfl, hR, hS, hP⟩ := HK0.out hk
      subst hk
      have q0 := HX4.out.cell (j := 0) rfl
      have q1 := HX4.out.cell (j := 1) rfl
      have hdu := dual_plane N l hR r hS hP (.slice p l.length c) rv w4 (HL.out.go HB4.out) (HR.out.go HB4.out)
      have hlm : l.length ≤ 120 := by have := (lightB_true (HBB.out trivial).1).2; omega
      have hnm : N ≤ 30 := by have := (lightB_true (HBB.out trivial).1).1; omega
      have hfm := facesL_few hR r
      have HEU : Hid _ := euler_all hR hS hP
      have HNR : Hid (∀ W, Edges W.heap.size W (.slice p l.length c) l → _) := fun W h => refNear_any N l hR (.slice p l.length c) W h
      have hcm := fun W h => refComponents_any N l hR (.slice p l.length c) W h
      have HCM : Hid (∀ W, Edges W.heap.size W (.slice p l.length c) l → Calls Try.prog 20 #[.agg #[.int .i64 (N : Int), .slice p l.length c]] W fun r w' => ∃ lv svs h0, r = .returned lv ∧ Grp h0 lv svs (compC N l) w' ∧ Below W.heap.size W w') := hcm
      have HCF : Hid ((compC N l).length ≤ N) := (comps_ok hR).few
      have hln := dualL_len (facesL N l r) l
      clear hcm HK0 HBB
      go_wp2_with fail
      refine hdu.mono ?_
      clear hdu
      rintro e w5 ⟨gv, rfl, hD, hb5⟩
      obtain ⟨pd, cd, rfl⟩ := hD.len
      rw [hln]
      clear hD hln hR hS hP
      generalize (facesL N l r).length = f at *
      have hB5 := HB4.out.trans (hb5.mono HB4.out.size)
      have hX5 := HX4.out.go hb5
      have hbN : Below w5.heap.size w5 (w5.alloc (.cells #[.int .i64 (f : Int), .slice pd l.length cd] 24)) := (Below.refl _ _).alloc (Nat.le_refl _) _
      have hD6 : Blk 24 (w5.alloc (.cells #[.int .i64 (f : Int), .slice pd l.length cd] 24)) w5.heap.size [.int .i64 (f : Int), .slice pd l.length cd] := heap_alloc_new w5 _
      have HX6 : Hid (Blk 24 (w5.alloc (.cells #[.int .i64 (f : Int), .slice pd l.length cd] 24)) w.heap.size [.int .i64 (N : Int), .slice p l.length c]) := hX5.go hbN
      have HB6 : Hid (Below w.heap.size w (w5.alloc (.cells #[.int .i64 (f : Int), .slice pd l.length cd] 24))) := hB5.trans (hbN.mono hB5.size)
      have HD6 : Hid (Blk 24 (w5.alloc (.cells #[.int .i64 (f : Int), .slice pd l.length cd] 24)) w5.heap.size [.int .i64 (f : Int), .slice pd l.length cd]) := hD6
      clear hbN hD6 hX5 hB5 hb5 HX4 HB4 q0 q1
      have q0 := HX6.out.cell (j := 0) rfl
      have q1 := HX6.out.cell (j := 1) rfl
      have hnr := HNR.out _ (HL.out.go HB6.out)
      go_wp2_with fail
      generalize w5.alloc (.cells #[.int .i64 (f : Int), .slice pd l.length cd] 24) = w6 at *
      generalize w5.heap.size = db at *
      refine hnr.mono ?_
      clear hnr
      rintro e w7 ⟨nv, rfl, hN7, hb7⟩
      have hnl : (nearL N l).length = N := by simp [nearL]
      obtain ⟨pn, cn, rfl⟩ := hN7.len
      have HN7 : Hid (Lsts w7.heap.size w7 (.slice pn (nearL N l).length cn) (nearL N l)) := hN7
      have HX7 : Hid (Blk 24 w7 w.heap.size [.int .i64 (N : Int), .slice p l.length c]) := HX6.out.go hb7
      have HD7 : Hid (Blk 24 w7 db [.int .i64 (f : Int), .slice pd l.length cd]) := HD6.out.go hb7
      have HB7 : Hid (Below w.heap.size w w7) := HB6.out.trans (hb7.mono HB6.out.size)
      clear hN7 hb7 HX6 HD6 HB6 HNR q0 q1
      have q0 := HX7.out.cell (j := 0) rfl
      have q1 := HX7.out.cell (j := 1) rfl
      go_wp2
      go_loopw [8, 9] (fun nv iv wr => ∃ v : Nat, v ≤ N ∧ iv = .int .i64 v ∧ nv = .int .i64 (cntV l v : Int) ∧ wr = w7) (fun _ i _ => N - (intOf i).toNat)
      case atStart => exact ⟨0, Nat.zero_le _, rfl, rfl, rfl⟩
      case round =>
        obtain ⟨v, hv, rfl, rfl, rfl⟩ := hrel
        by_cases hlt : v < N
        · have hvl : (v : Int) < (N : Int) := by omega
          have hvn : (v : Int) < ((nearL N l).length : Int) := by omega
          obtain ⟨b, off, rfl, hbb, hcap, px, cx, -, c0⟩ := HN7.out.cellAt (j := v) (by omega)
          have hnb : (nearL N l)[v]'(by omega) = nb l (v : Int) := by simp [nearL]
          rw [hnb] at c0
          have hcl := cntV_le l v
          by_cases hz : 0 < (nb l (v : Int)).length
          · have HS : Hid _ := cntV_yes hz
            have hz' : (0 : Int) < ((nb l (v : Int)).length : Int) := by omega
            generalize (nb l (v : Int)).length = d at *
            generalize hcv : cntV l v = cv at *
            clear hz hnb
            go_wp2
            exact ⟨⟨v + 1, by omega, by go_num, by rw [HS.out]; go_num, trivial⟩, by simp [intOf]; omega⟩
          · have HS : Hid _ := cntV_no hz
            have hz' : ¬ (0 : Int) < ((nb l (v : Int)).length : Int) := by omega
            generalize (nb l (v : Int)).length = d at *
            generalize hcv : cntV l v = cv at *
            clear hz hnb
            go_wp2
            exact ⟨⟨v + 1, by omega, by go_num, by rw [HS.out], trivial⟩, by simp [intOf]; omega⟩
        · obtain rfl : v = N := by omega
          have hvl : ¬ (v : Int) < (v : Int) := by omega
          have hce := cntV_all v l
          have hcl := cntV_le l v
          have hcm := HCM.out wr (HL.out.go HB7.out)
          generalize cntV l v = cv at *
          have HCE : Hid (cv = v - isoN v l) := hce
          clear hce
          go_wp2_with fail
          refine hcm.mono ?_
          clear hcm
          rintro e w8 ⟨lv, svs, h0, rfl, hG8, hb8⟩
          have hC8 := hG8.lsts
          have hmN : manyN v l = cntC (compC v l) (compC v l).length := by unfold manyN cntC; rw [List.take_length]
          have hCF := HCF.out
          have HX8 : Hid (Blk 24 w8 w.heap.size [.int .i64 (v : Int), .slice p l.length c]) := HX7.out.go hb8
          have HD8 : Hid (Blk 24 w8 db [.int .i64 (f : Int), .slice pd l.length cd]) := HD7.out.go hb8
          have HB8 : Hid (Below w.heap.size w w8) := HB7.out.trans (hb8.mono HB7.out.size)
          generalize compC v l = C at *
          obtain ⟨pc, cc, rfl⟩ := hC8.len
          have HC8 : Hid (Lsts w8.heap.size w8 (.slice pc C.length cc) C) := hC8
          have heu := HEU.out
          have hce := HCE.out
          have HEQ : Hid (cv + f = l.length + 2 * cntC C C.length) := by unfold Hid; omega
          clear hC8 hG8 hb8 HX7 HD7 HB7 q0 q1 hmN heu HEU HCM HCF HN7 hce HCE
          go_wp2
          go_loopw [11, 12] (fun mv iv wr => ∃ k : Nat, k ≤ C.length ∧ iv = .int .i64 k ∧ mv = .int .i64 (cntC C k : Int) ∧ wr = w8) (fun _ i _ => C.length - (intOf i).toNat)
          case atStart => exact ⟨0, Nat.zero_le _, rfl, rfl, rfl⟩
          case round =>
            obtain ⟨k, hk, rfl, rfl, rfl⟩ := hrel
            rename World => w9
            by_cases hlt2 : k < C.length
            · have hkl : (k : Int) < (C.length : Int) := by omega
              obtain ⟨b, off, rfl, hbb, hcap, px, cx, -, c0⟩ := HC8.out.cellAt hlt2
              have hcc := cntC_le C k
              have HS : Hid _ := cntC_step hlt2
              generalize C[k].length = d at *
              generalize hck : cntC C k = ck at *
              by_cases hz : 1 < d
              · have hz' : (1 : Int) < (d : Int) := by omega
                have HS2 : Hid (cntC C (k + 1) = ck + 1) := by rw [Hid, HS.out, if_pos hz]
                clear hz HS
                go_wp2
                exact ⟨⟨k + 1, by omega, by go_num, by rw [HS2.out]; go_num, trivial⟩, by simp [intOf]; omega⟩
              · have hz' : ¬ (1 : Int) < (d : Int) := by omega
                have HS2 : Hid (cntC C (k + 1) = ck) := by rw [Hid, HS.out, if_neg hz]; rfl
                clear hz HS
                go_wp2
                exact ⟨⟨k + 1, by omega, by go_num, by rw [HS2.out], trivial⟩, by simp [intOf]; omega⟩
            · obtain rfl : k = C.length := by omega
              have hkl : ¬ (C.length : Int) < (C.length : Int) := by omega
              have hcc := cntC_le C C.length
              generalize cntC C C.length = ck at *
              have d0 := HD8.out.cell (j := 0) rfl
              have d1 := HD8.out.cell (j := 1) rfl
              have q1 := HX8.out.cell (j := 1) rfl
              have hw1 : IntKind.i64.wrap ((cv : Int) + (f : Int)) = (cv : Int) + (f : Int) := wrap_i _ (by omega) (by omega)
              have hw2 : IntKind.i64.wrap (2 * (ck : Int)) = 2 * (ck : Int) := wrap_i _ (by omega) (by omega)
              have hw3 : IntKind.i64.wrap ((l.length : Int) + 2 * (ck : Int)) = (l.length : Int) + 2 * (ck : Int) := wrap_i _ (by omega) (by omega)
              have heq : (cv : Int) + (f : Int) = (l.length : Int) + 2 * (ck : Int) := by have := HEQ.out; omega
              clear HC8 HEQ hcc hlt2 hk hlt hv
              go_wp2_with fail
              refine (alive10_any w9).mono ?_
              rintro e w10 ⟨rfl, hb10⟩
              have HB10 : Hid (Below w.heap.size w w10) := HB8.out.trans (hb10.mono HB8.out.size)
              clear hb10 d0 d1 q1
              go_wp2
              go_ret
              exact ⟨rfl, HB10.out⟩
    · have hk' : (k == 0) = false := by rw [beq_eq_false_iff_ne]; exact hk
      clear HK0 hk
      go_wp2_with fail
      refine (alive10_any w4).mono ?_
      rintro e w5 ⟨rfl, hb5⟩
      have HB5 : Hid (Below w.heap.size w w5) := HB4.out.trans (hb5.mono HB4.out.size)
      clear hb5
      go_wp2
      go_ret
      exact ⟨rfl, HB5.out⟩
end Go.Proofs.Ytonfhkdciaiilaa
