/-
  The walk of filigreelaw10.FacesDual.
-/
import Derived.Test.YtonfhkdciaiilaaXFcEulerLaw
import Derived.Test.YtonfhkdciaiilaaXFcLen
import Derived.Test.YtonfhkdciaiilaaXFcDualP
import Derived.Test.YtonfhkdciaiilaaXFcDualN
import Derived.Test.YtonfhkdciaiilaaXFcRefDual
import Derived.Test.YtonfhkdciaiilaaXRBad
import Derived.Test.YtonfhkdciaiilaaXGSame
namespace Go.Proofs.Ytonfhkdciaiilaa
open Go Go.Proofs Go.RowKit

theorem dualL_at {F : List (List Dt)} {l : List Ed} {j : Nat} (h : j < l.length) : (dualL F l)[j]? = some (faceOf F (l[j].1, l[j].2.1), faceOf F (l[j].2.1, l[j].1), l[j].2.2) := by
  unfold dualL
  rw [List.getElem?_map, List.getElem?_eq_getElem h]
  rfl

set_option maxRecDepth 100000 in
set_option maxHeartbeats 8000000 in
theorem facesDual_law (n : Int) (l : List Ed) (r : List (List Int)) (hr1 : r.length ≤ 9223372036854775807) (sv rv : Value) (w : World) (hl : Edges w.heap.size w sv l) (hr : Lsts w.heap.size w rv r) :
    Calls Try.prog 3 #[.agg #[.int .i64 n, sv], rv] w fun e w' => e = .returned (.bool true) ∧ Below w.heap.size w w' := by
  obtain ⟨p, c, rfl⟩ := hl.len
  have hb1 : Below w.heap.size w (w.alloc (.cells #[.int .i64 n, .slice p l.length c] 24)) := (Below.refl _ _).alloc (Nat.le_refl _) _
  have hX1 : Blk 24 (w.alloc (.cells #[.int .i64 n, .slice p l.length c] 24)) w.heap.size [.int .i64 n, .slice p l.length c] := heap_alloc_new w _
  have hlt := lightR_any n l r hr1 25 (by decide) (by decide) (.slice p l.length c) rv _ (hl.go hb1) (hr.go hb1)
  have q0 := hX1.cell (j := 0) rfl
  have q1 := hX1.cell (j := 1) rfl
  have HL : Hid (Edges w.heap.size w (.slice p l.length c) l) := hl
  have HR : Hid (Lsts w.heap.size w rv r) := hr
  have HB1 : Hid (Below w.heap.size w (w.alloc (.cells #[.int .i64 n, .slice p l.length c] 24))) := hb1
  have HX1 : Hid (Blk 24 (w.alloc (.cells #[.int .i64 n, .slice p l.length c] 24)) w.heap.size [.int .i64 n, .slice p l.length c]) := hX1
  clear hb1 hX1 hl hr
  have hmix := mixed
  go_enter Try.func3, Try.ntmps3
  go_wp2_with fail
  generalize w.alloc (.cells #[.int .i64 n, .slice p l.length c] 24) = w2 at *
  refine hlt.mono ?_
  clear hlt
  rintro e w3 ⟨bb, rfl, hbb, hb3⟩
  have HB3 : Hid (Below w.heap.size w w3) := HB1.out.trans (hb3.mono HB1.out.size)
  have HX3 : Hid (Blk 24 w3 w.heap.size [.int .i64 n, .slice p l.length c]) := HX1.out.go hb3
  have HBB : Hid (bb = true → lightB n l 25 = true ∧ (r.length : Int) ≤ 2 * 25) := hbb
  clear HB1 HX1 hb3 q0 q1 hbb
  cases bb with
  | false =>
    go_wp2_with fail
    refine (alive10_any w3).mono ?_
    rintro e w4 ⟨rfl, hb4⟩
    have HB4 : Hid (Below w.heap.size w w4) := HB3.out.trans (hb4.mono HB3.out.size)
    clear hb4
    go_wp2
    go_ret
    exact ⟨rfl, HB4.out⟩
  | true =>
    have q0 := HX3.out.cell (j := 0) rfl
    have q1 := HX3.out.cell (j := 1) rfl
    obtain ⟨k, hrp, hk0, hk1⟩ : ∃ k : Int, (∀ W, Below w.heap.size w W → Calls Try.prog 12 #[.agg #[.int .i64 n, .slice p l.length c], rv] W fun e w' => e = .returned (.int .i64 k) ∧ Below W.heap.size W w') ∧ (k = 0 → ∃ N : Nat, n = (N : Int) ∧ RightG (N : Int) l ∧ SysR N l r ∧ planeK (numsL N l r) = 0) ∧ (k ≠ 0 → ∀ W, Below w.heap.size w W → Calls Try.prog 32 #[.agg #[.int .i64 n, .slice p l.length c], rv] W fun e w' => e = .returned (.int .i64 k) ∧ Below W.heap.size W w') := by
      by_cases hk : sysK n l r = 0
      · obtain ⟨N, rfl, hR, hS⟩ := sysK_nought hk
        have hlm : l.length ≤ 100 := by have := (lightB_true (HBB.out rfl).1).2; omega
        have hnm : N ≤ 25 := by have := (lightB_true (HBB.out rfl).1).1; omega
        exact ⟨_, fun W h => refPlane_any N l hR r hS (by omega) (by omega) _ rv W (HL.out.go h) (HR.out.go h), fun h => ⟨N, rfl, hR, hS, h⟩, fun _ W h => plane_any N l hR r hS _ rv W (HL.out.go h) (HR.out.go h)⟩
      · exact ⟨_, fun W h => refPlane_bad n l r hk _ rv W (HL.out.go h) (HR.out.go h), fun h => absurd h hk, fun _ W h => plane_bad n l r hk _ rv W (HL.out.go h) (HR.out.go h)⟩
    have HK0 : Hid _ := hk0
    have HK1 : Hid _ := hk1
    have HRP : Hid _ := hrp
    clear hk0 hk1 hrp
    by_cases hk : k = 0
    · obtain ⟨N, rfl, hR, hS, hP⟩ := HK0.out hk
      subst hk
      have hlm : l.length ≤ 100 := by have := (lightB_true (HBB.out rfl).1).2; omega
      have hnm : N ≤ 25 := by have := (lightB_true (HBB.out rfl).1).1; omega
      have hfm := facesL_few hR r
      have HFE : Hid (∀ x ∈ facesL N l r, x.length ≤ 16777216) := fun f hf => by have := facesL_each N l r f hf; omega
      have HND : Hid (facesL N l r).flatten.Nodup := (faces_dec hR hS).nodup
      have HMX : Hid (∀ W, Below w.heap.size w W → _) := fun W h => inPlane_any N l hR r hS hP (.slice p l.length c) rv W (HL.out.go h) (HR.out.go h)
      have hsd := sidesP_any (N : Int) l (by omega) (facesL N l r) (by omega) HFE.out HND.out (.slice p l.length c) rv w3 (HL.out.go HB3.out) (fun W h => HMX.out W (HB3.out.trans (h.mono HB3.out.size)))
      go_wp2_with fail
      refine hsd.mono ?_
      clear hsd
      rintro e w5 ⟨gs, rfl, hgs, hB5, hb5⟩
      have hS5 : Below w.heap.size w w5 := HB3.out.trans (hb5.mono HB3.out.size)
      have hln := lengths_any (N : Int) (facesL N l r) (by omega) HFE.out (.slice p l.length c) rv w5 (fun W h => HMX.out W (hS5.trans (h.mono hS5.size)))
      have HX5 : Hid (Blk 24 w5 w.heap.size [.int .i64 (N : Int), .slice p l.length c]) := HX3.out.go hb5
      have HB5 : Hid (Below w.heap.size w w5) := hS5
      have HS5 : Hid (Blk 42 w5 gs (flatD (sidesL (facesL N l r) l))) := hB5
      clear q0 q1 HX3 HB3 hb5 hS5 hB5
      have q0 := HX5.out.cell (j := 0) rfl
      have q1 := HX5.out.cell (j := 1) rfl
      go_wp2_with fail
      refine hln.mono ?_
      clear hln
      rintro e w6 ⟨gn, rfl, hgn, hB6, hb6⟩
      have HX6 : Hid (Blk 24 w6 w.heap.size [.int .i64 (N : Int), .slice p l.length c]) := HX5.out.go hb6
      have HB6 : Hid (Below w.heap.size w w6) := HB5.out.trans (hb6.mono HB5.out.size)
      have HS6 : Hid (Blk 42 w6 gs (flatD (sidesL (facesL N l r) l))) := HS5.out.go hb6
      have HN6 : Hid (Blk 3 w6 gn (((facesL N l r).map fun x => (x.length : Int)).map (Value.int .i64))) := hB6
      clear q0 q1 HX5 HB5 hb6 HS5 hB6
      have q0 := HX6.out.cell (j := 0) rfl
      have q1 := HX6.out.cell (j := 1) rfl
      have hdu := dual_plane N l hR r hS hP (.slice p l.length c) rv w6 (HL.out.go HB6.out) (HR.out.go HB6.out)
      go_wp2_with fail
      refine hdu.mono ?_
      clear hdu
      rintro e w7 ⟨gv, rfl, hE7, hb7⟩
      obtain ⟨pd, cd, rfl⟩ := hE7.len
      have hbD : Below w7.heap.size w7 (w7.alloc (.cells #[.int .i64 ((facesL N l r).length : Int), .slice pd (dualL (facesL N l r) l).length cd] 24)) := (Below.refl _ _).alloc (Nat.le_refl _) _
      have hD : Blk 24 (w7.alloc (.cells #[.int .i64 ((facesL N l r).length : Int), .slice pd (dualL (facesL N l r) l).length cd] 24)) w7.heap.size [.int .i64 ((facesL N l r).length : Int), .slice pd (dualL (facesL N l r) l).length cd] := heap_alloc_new w7 _
      have hb78 := hb7.trans (hbD.mono hb7.size)
      have HX8 : Hid (Blk 24 (w7.alloc (.cells #[.int .i64 ((facesL N l r).length : Int), .slice pd (dualL (facesL N l r) l).length cd] 24)) w.heap.size [.int .i64 (N : Int), .slice p l.length c]) := HX6.out.go hb78
      have HS8 : Hid (Blk 42 (w7.alloc (.cells #[.int .i64 ((facesL N l r).length : Int), .slice pd (dualL (facesL N l r) l).length cd] 24)) gs (flatD (sidesL (facesL N l r) l))) := HS6.out.go hb78
      have HN8 : Hid (Blk 3 (w7.alloc (.cells #[.int .i64 ((facesL N l r).length : Int), .slice pd (dualL (facesL N l r) l).length cd] 24)) gn (((facesL N l r).map fun x => (x.length : Int)).map (Value.int .i64))) := HN6.out.go hb78
      have HB8 : Hid (Below w.heap.size w (w7.alloc (.cells #[.int .i64 ((facesL N l r).length : Int), .slice pd (dualL (facesL N l r) l).length cd] 24))) := HB6.out.trans (hb78.mono HB6.out.size)
      have HD8 : Hid (Blk 24 (w7.alloc (.cells #[.int .i64 ((facesL N l r).length : Int), .slice pd (dualL (facesL N l r) l).length cd] 24)) w7.heap.size [.int .i64 ((facesL N l r).length : Int), .slice pd (dualL (facesL N l r) l).length cd]) := hD
      have HE8 : Hid (Edges (w7.alloc (.cells #[.int .i64 ((facesL N l r).length : Int), .slice pd (dualL (facesL N l r) l).length cd] 24)).heap.size (w7.alloc (.cells #[.int .i64 ((facesL N l r).length : Int), .slice pd (dualL (facesL N l r) l).length cd] 24)) (.slice pd (dualL (facesL N l r) l).length cd) (dualL (facesL N l r) l)) := hE7.go hbD
      clear q0 q1 HX6 HS6 HN6 HB6 hE7 hbD hD hb78 hb7
      have q0 := HX8.out.cell (j := 0) rfl
      have q1 := HX8.out.cell (j := 1) rfl
      have hpl := HRP.out _ HB8.out
      have HLD : Hid _ := dualL_len (facesL N l r) l
      have HRD : Hid (∀ W, Below w.heap.size w W → _) := fun W h => refDual_any N l hR r hS (by omega) (facesL N l r) rfl (by omega) HFE.out (.slice p l.length c) rv W (HL.out.go h) (HR.out.go h)
      have HRF : Hid (∀ W, Below w.heap.size w W → _) := fun W h => refFaces_any N l hR r hS (by omega) (.slice p l.length c) rv W (HL.out.go h) (HR.out.go h)
      have HAT : Hid (∀ (j : Nat) (hj : j < l.length), (dualL (facesL N l r) l)[j]? = some (faceOf (facesL N l r) (l[j].1, l[j].2.1), faceOf (facesL N l r) (l[j].2.1, l[j].1), l[j].2.2)) := fun j hj => dualL_at hj
      have HAS : Hid (∀ (j : Nat) (hj : j < l.length), (sidesL (facesL N l r) l)[j]? = some (faceOf (facesL N l r) (l[j].1, l[j].2.1), faceOf (facesL N l r) (l[j].2.1, l[j].1))) := fun j hj => by unfold sidesL; rw [List.getElem?_map, List.getElem?_eq_getElem hj]; rfl
      have hfl : (facesL N l r).length ≤ 300 := by omega
      clear hR hS hP HFE HND HMX HBB HK0 HK1 HRP hfm
      generalize facesL N l r = F at *
      generalize dualL F l = D at *
      generalize sidesL F l = SD at *
      go_wp2_with fail
      generalize hgd : w7.heap.size = gd at *
      generalize w7.alloc (.cells #[.int .i64 (F.length : Int), .slice pd D.length cd] 24) = w8 at *
      refine hpl.mono ?_
      clear hpl
      rintro e w9 ⟨rfl, hb9⟩
      have HX9 : Hid (Blk 24 w9 w.heap.size [.int .i64 (N : Int), .slice p l.length c]) := HX8.out.go hb9
      have HS9 : Hid (Blk 42 w9 gs (flatD SD)) := HS8.out.go hb9
      have HN9 : Hid (Blk 3 w9 gn ((F.map fun x => (x.length : Int)).map (Value.int .i64))) := HN8.out.go hb9
      have HB9 : Hid (Below w.heap.size w w9) := HB8.out.trans (hb9.mono HB8.out.size)
      have HD9 : Hid (Blk 24 w9 gd [.int .i64 (F.length : Int), .slice pd D.length cd]) := HD8.out.go hb9
      have HE9 : Hid (Edges w9.heap.size w9 (.slice pd D.length cd) D) := HE8.out.go hb9
      clear q0 q1 HX8 HS8 HN8 HB8 HD8 HE8 hb9
      have q0 := HX9.out.cell (j := 0) rfl
      have q1 := HX9.out.cell (j := 1) rfl
      have hrd := HRD.out _ HB9.out
      go_wp2_with fail
      refine hrd.mono ?_
      clear hrd HRD
      rintro e w10 ⟨gx, rfl, hE10, hb10⟩
      obtain ⟨px, cx, rfl⟩ := hE10.len
      have hbD : Below w10.heap.size w10 (w10.alloc (.cells #[.int .i64 (F.length : Int), .slice px D.length cx] 24)) := (Below.refl _ _).alloc (Nat.le_refl _) _
      have hD : Blk 24 (w10.alloc (.cells #[.int .i64 (F.length : Int), .slice px D.length cx] 24)) w10.heap.size [.int .i64 (F.length : Int), .slice px D.length cx] := heap_alloc_new w10 _
      have hb11 := hb10.trans (hbD.mono hb10.size)
      have HX11 : Hid (Blk 24 (w10.alloc (.cells #[.int .i64 (F.length : Int), .slice px D.length cx] 24)) w.heap.size [.int .i64 (N : Int), .slice p l.length c]) := HX9.out.go hb11
      have HS11 : Hid (Blk 42 (w10.alloc (.cells #[.int .i64 (F.length : Int), .slice px D.length cx] 24)) gs (flatD SD)) := HS9.out.go hb11
      have HN11 : Hid (Blk 3 (w10.alloc (.cells #[.int .i64 (F.length : Int), .slice px D.length cx] 24)) gn ((F.map fun x => (x.length : Int)).map (Value.int .i64))) := HN9.out.go hb11
      have HB11 : Hid (Below w.heap.size w (w10.alloc (.cells #[.int .i64 (F.length : Int), .slice px D.length cx] 24))) := HB9.out.trans (hb11.mono HB9.out.size)
      have HD11 : Hid (Blk 24 (w10.alloc (.cells #[.int .i64 (F.length : Int), .slice px D.length cx] 24)) gd [.int .i64 (F.length : Int), .slice pd D.length cd]) := HD9.out.go hb11
      have HE11 : Hid (Edges (w10.alloc (.cells #[.int .i64 (F.length : Int), .slice px D.length cx] 24)).heap.size (w10.alloc (.cells #[.int .i64 (F.length : Int), .slice px D.length cx] 24)) (.slice pd D.length cd) D) := HE9.out.go hb11
      have HY11 : Hid (Blk 24 (w10.alloc (.cells #[.int .i64 (F.length : Int), .slice px D.length cx] 24)) w10.heap.size [.int .i64 (F.length : Int), .slice px D.length cx]) := hD
      have HF11 : Hid (Edges (w10.alloc (.cells #[.int .i64 (F.length : Int), .slice px D.length cx] 24)).heap.size (w10.alloc (.cells #[.int .i64 (F.length : Int), .slice px D.length cx] 24)) (.slice px D.length cx) D) := hE10.go hbD
      clear q0 q1 HX9 HS9 HN9 HB9 HD9 HE9 hb10 hb11 hD hbD hE10
      have q0 := HX11.out.cell (j := 0) rfl
      have q1 := HX11.out.cell (j := 1) rfl
      have hrf := HRF.out _ HB11.out
      go_wp2_with fail
      generalize hgx : w10.heap.size = gx at *
      generalize w10.alloc (.cells #[.int .i64 (F.length : Int), .slice px D.length cx] 24) = w11 at *
      refine hrf.mono ?_
      clear hrf HRF
      rintro e w12 ⟨lf, svs, rfl, hG, hb12⟩
      have hG' := hG.ldr
      obtain ⟨pf, cf, rfl⟩ := hG'.len
      have HG12 : Hid (LDr w12.heap.size w12 (.slice pf F.length cf) F) := hG'
      have HX12 : Hid (Blk 24 w12 w.heap.size [.int .i64 (N : Int), .slice p l.length c]) := HX11.out.go hb12
      have HS12 : Hid (Blk 42 w12 gs (flatD SD)) := HS11.out.go hb12
      have HN12 : Hid (Blk 3 w12 gn ((F.map fun x => (x.length : Int)).map (Value.int .i64))) := HN11.out.go hb12
      have HB12 : Hid (Below w.heap.size w w12) := HB11.out.trans (hb12.mono HB11.out.size)
      have HD12 : Hid (Blk 24 w12 gd [.int .i64 (F.length : Int), .slice pd D.length cd]) := HD11.out.go hb12
      have HY12 : Hid (Blk 24 w12 gx [.int .i64 (F.length : Int), .slice px D.length cx]) := HY11.out.go hb12
      have HF12 : Hid (Edges w12.heap.size w12 (.slice px D.length cx) D) := HF11.out.go hb12
      have hD4 : D.length ≤ 4194304 := by have := HLD.out; omega
      have hsm := refSame_any (F.length : Int) (F.length : Int) D D hD4 _ _ w12 (HE11.out.go hb12) HF12.out
      rw [decide_eq_true ⟨rfl, rfl⟩] at hsm
      have d0 := HD12.out.cell (j := 0) rfl
      have d1 := HD12.out.cell (j := 1) rfl
      have y0 := HY12.out.cell (j := 0) rfl
      have y1 := HY12.out.cell (j := 1) rfl
      clear q0 q1 HX11 HS11 HN11 HB11 HD11 HY11 HE11 HF11 hb12 hG hG' svs
      have q1 := HX12.out.cell (j := 1) rfl
      go_wp2_with fail
      refine hsm.mono ?_
      clear hsm
      rintro e w13 ⟨rfl, hg13⟩
      have hb13 := hg13.below
      have HG13 : Hid (LDr w13.heap.size w13 (.slice pf F.length cf) F) := HG12.out.go hb13
      have HX13 : Hid (Blk 24 w13 w.heap.size [.int .i64 (N : Int), .slice p l.length c]) := HX12.out.go hb13
      have HS13 : Hid (Blk 42 w13 gs (flatD SD)) := HS12.out.go hb13
      have HN13 : Hid (Blk 3 w13 gn ((F.map fun x => (x.length : Int)).map (Value.int .i64))) := HN12.out.go hb13
      have HB13 : Hid (Below w.heap.size w w13) := HB12.out.trans (hb13.mono HB12.out.size)
      have HY13 : Hid (Blk 24 w13 gx [.int .i64 (F.length : Int), .slice px D.length cx]) := HY12.out.go hb13
      have HF13 : Hid (Edges w13.heap.size w13 (.slice px D.length cx) D) := HF12.out.go hb13
      clear q1 d0 d1 y0 y1 HG12 HX12 HS12 HN12 HB12 HD12 HY12 HF12 hg13 hb13
      have q1 := HX13.out.cell (j := 1) rfl
      go_wp2
      clear q1 HX13
      go_loopw [14] (fun iv wr => ∃ j : Nat, j ≤ l.length ∧ iv = .int .i64 j ∧ Below w13.heap.size w13 wr) (fun v _ => l.length - (intOf v).toNat)
      case atStart => exact ⟨0, Nat.zero_le _, rfl, Below.refl _ _⟩
      case round =>
        obtain ⟨j, hj, rfl, hb⟩ := hrel
        by_cases hlt : j < l.length
        · have hjl : (j : Int) < (l.length : Int) := by omega
          have hjd : j < D.length := by have := HLD.out; omega
          have hjd' : (j : Int) < (D.length : Int) := by omega
          obtain ⟨b2, off2, rfl, hbb2, hcap2, hc2, -⟩ := HF13.out.open hjd
          obtain ⟨c0, c1, -⟩ := hc2 wr hb j hjd
          have hdj : D[j] = (faceOf F (l[j].1, l[j].2.1), faceOf F (l[j].2.1, l[j].1), l[j].2.2) := by
            have h1 := HAT.out j hlt
            rw [List.getElem?_eq_getElem hjd] at h1
            exact Option.some.inj h1
          rw [hdj] at c0 c1
          obtain ⟨d0, d1⟩ := flatD_at (HAS.out j hlt)
          have s0 := (HS13.out.go hb).cell d0
          have s1 := (HS13.out.go hb).cell d1
          have y1 := (HY13.out.go hb).cell (j := 1) rfl
          have HB : Hid (Below w13.heap.size w13 wr) := hb
          clear hdj d0 d1 hc2 hb
          generalize faceOf F (l[j].1, l[j].2.1) = fa at *
          generalize faceOf F (l[j].2.1, l[j].1) = fb at *
          simp only at s0 s1 c0 c1
          go_wp2_with fail
          go_quiet (fail)
          go_wp2
          exact ⟨⟨j + 1, by omega, by go_num, below_drewN HB.out nq⟩, by simp [intOf]; omega⟩
        · obtain rfl : j = l.length := by omega
          have hjl : ¬ (l.length : Int) < (l.length : Int) := by omega
          have HG14 : Hid (LDr wr.heap.size wr (.slice pf F.length cf) F) := HG13.out.go hb
          have HN14 : Hid (Blk 3 wr gn ((F.map fun x => (x.length : Int)).map (Value.int .i64))) := HN13.out.go hb
          have HB14 : Hid (Below w.heap.size w wr) := HB13.out.trans (hb.mono HB13.out.size)
          clear HG13 HN13 HB13 hb
          rename World => w14
          go_wp2
          go_loopw [15] (fun iv wr => ∃ j : Nat, j ≤ F.length ∧ iv = .int .i64 j ∧ Below w14.heap.size w14 wr) (fun v _ => F.length - (intOf v).toNat)
          case atStart => exact ⟨0, Nat.zero_le _, rfl, Below.refl _ _⟩
          case round =>
            obtain ⟨j, hj, rfl, hb⟩ := hrel
            by_cases hlt : j < F.length
            · have hjl : (j : Int) < (F.length : Int) := by omega
              obtain ⟨b3, off3, rfl, hbb3, hcap3, px3, cx3, -, c0⟩ := (HG14.out.go hb).cellAt hlt
              have t0 := (HN14.out.go hb).cell (j := j) (v := .int .i64 (F[j].length : Int)) (by rw [List.getElem?_map, List.getElem?_map, List.getElem?_eq_getElem hlt]; rfl)
              have HB : Hid (Below w14.heap.size w14 wr) := hb
              clear hb
              generalize F[j].length = d at *
              go_wp2_with fail
              go_quiet (fail)
              go_wp2
              exact ⟨⟨j + 1, by omega, by go_num, below_drewN HB.out nq⟩, by simp [intOf]; omega⟩
            · obtain rfl : j = F.length := by omega
              have hjl : ¬ (F.length : Int) < (F.length : Int) := by omega
              have HB15 : Hid (Below w.heap.size w wr) := HB14.out.trans (hb.mono HB14.out.size)
              clear hb
              go_wp2_with fail
              refine (alive10_any wr).mono ?_
              rintro e w16 ⟨rfl, hb16⟩
              have HB16 : Hid (Below w.heap.size w w16) := HB15.out.trans (hb16.mono HB15.out.size)
              clear hb16
              go_wp2
              go_ret
              exact ⟨rfl, HB16.out⟩
    · have hk' : (k == 0) = false := by rw [beq_eq_false_iff_ne]; exact hk
      have HPN : Hid (∀ W, Below w.heap.size w W → _) := fun W h => inPlane_no n k hk (.slice p l.length c) rv W (fun W' h' => HK1.out hk W' (h.trans (h'.mono h.size)))
      have hsd := sidesP_no n k hk (.slice p l.length c) rv w3 (fun W h => HPN.out W (HB3.out.trans (h.mono HB3.out.size)))
      have HKN : Hid (k ≠ 0) := hk
      clear HK0 HK1 hk HBB
      go_wp2_with fail
      refine hsd.mono ?_
      clear hsd
      rintro e w4 ⟨rfl, hb4⟩
      have hS4 : Below w.heap.size w w4 := HB3.out.trans (hb4.mono HB3.out.size)
      have hln := lengths_no n k HKN.out (.slice p l.length c) rv w4 (fun W h => HPN.out W (hS4.trans (h.mono hS4.size)))
      have HX4 : Hid (Blk 24 w4 w.heap.size [.int .i64 n, .slice p l.length c]) := HX3.out.go hb4
      have HB4 : Hid (Below w.heap.size w w4) := hS4
      clear q0 q1 HX3 HB3 hb4 hS4
      have q0 := HX4.out.cell (j := 0) rfl
      have q1 := HX4.out.cell (j := 1) rfl
      go_wp2_with fail
      refine hln.mono ?_
      clear hln
      rintro e w5 ⟨rfl, hb5⟩
      have hS5 : Below w.heap.size w w5 := HB4.out.trans (hb5.mono HB4.out.size)
      have hdn := dual_no n k HKN.out (.slice p l.length c) rv w5 (fun W h => HPN.out W (hS5.trans (h.mono hS5.size)))
      have HX5 : Hid (Blk 24 w5 w.heap.size [.int .i64 n, .slice p l.length c]) := HX4.out.go hb5
      have HB5 : Hid (Below w.heap.size w w5) := hS5
      clear q0 q1 HX4 HB4 hb5 hS5
      have q0 := HX5.out.cell (j := 0) rfl
      have q1 := HX5.out.cell (j := 1) rfl
      go_wp2_with fail
      refine hdn.mono ?_
      clear hdn
      rintro e w6 ⟨rfl, hb6⟩
      have hbD : Below w6.heap.size w6 (w6.alloc (.cells #[.int .i64 0, .slice none 0 0] 24)) := (Below.refl _ _).alloc (Nat.le_refl _) _
      have hD : Blk 24 (w6.alloc (.cells #[.int .i64 0, .slice none 0 0] 24)) w6.heap.size [.int .i64 0, .slice none 0 0] := heap_alloc_new w6 _
      have hb67 := hb6.trans (hbD.mono hb6.size)
      have HX7 : Hid (Blk 24 (w6.alloc (.cells #[.int .i64 0, .slice none 0 0] 24)) w.heap.size [.int .i64 n, .slice p l.length c]) := HX5.out.go hb67
      have HD7 : Hid (Blk 24 (w6.alloc (.cells #[.int .i64 0, .slice none 0 0] 24)) w6.heap.size [.int .i64 0, .slice none 0 0]) := hD
      have HB7 : Hid (Below w.heap.size w (w6.alloc (.cells #[.int .i64 0, .slice none 0 0] 24))) := HB5.out.trans (hb67.mono HB5.out.size)
      clear q0 q1 HX5 HB5 hb6 hb67 hD hbD
      have q0 := HX7.out.cell (j := 0) rfl
      have q1 := HX7.out.cell (j := 1) rfl
      have hpl := HRP.out _ HB7.out
      go_wp2_with fail
      generalize hgd : w6.heap.size = gd at *
      generalize w6.alloc (.cells #[.int .i64 0, .slice none 0 0] 24) = w7 at *
      refine hpl.mono ?_
      clear hpl
      rintro e w8 ⟨rfl, hb8⟩
      have HD8 : Hid (Blk 24 w8 gd [.int .i64 0, .slice none 0 0]) := HD7.out.go hb8
      have HB8 : Hid (Below w.heap.size w w8) := HB7.out.trans (hb8.mono HB7.out.size)
      clear q0 q1 HX7 HD7 HB7 hb8
      have d0 := HD8.out.cell (j := 0) rfl
      have d1 := HD8.out.cell (j := 1) rfl
      have hsm := refSame_any 0 0 [] [] (by decide) (.slice none 0 0) (.slice none 0 0) w8 (Edges.nil _ _ _ _) (Edges.nil _ _ _ _)
      rw [decide_eq_true ⟨rfl, rfl⟩] at hsm
      go_wp2_with fail
      refine hsm.mono ?_
      clear hsm
      rintro e w9 ⟨rfl, hg9⟩
      have HB9 : Hid (Below w.heap.size w w9) := HB8.out.trans (hg9.below.mono HB8.out.size)
      clear hg9 d0 d1
      go_wp2_with fail
      refine (alive10_any w9).mono ?_
      rintro e w10 ⟨rfl, hb10⟩
      have HB10 : Hid (Below w.heap.size w w10) := HB9.out.trans (hb10.mono HB9.out.size)
      clear hb10
      go_wp2
      go_ret
      exact ⟨rfl, HB10.out⟩
end Go.Proofs.Ytonfhkdciaiilaa
