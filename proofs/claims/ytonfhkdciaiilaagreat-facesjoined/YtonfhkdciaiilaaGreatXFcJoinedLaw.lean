/-
  The walk of filigreelaw10.FacesJoined.
-/
import Derived.Test.YtonfhkdciaiilaaGreatXFcEulerLaw
import Derived.Test.YtonfhkdciaiilaaGreatXFcRefJoin
import Derived.Test.YtonfhkdciaiilaaGreatXFcJoinedN
import Derived.Test.YtonfhkdciaiilaaGreatXRBad
import Derived.Test.YtonfhkdciaiilaaGreatXGSame
namespace Go.Proofs.YtonfhkdciaiilaaGreat
open Go Go.Proofs Go.RowKit

set_option maxRecDepth 100000 in
set_option maxHeartbeats 8000000 in
theorem facesJoined_law (n : Int) (l : List Ed) (r : List (List Int)) (hr1 : r.length ≤ 9223372036854775807) (sv rv : Value) (w : World) (hl : Edges w.heap.size w sv l) (hr : Lsts w.heap.size w rv r) :
    Calls Tryz.prog 3 #[.agg #[.int .i64 n, sv], rv] w fun e w' => e = .returned (.bool true) ∧ Below w.heap.size w w' := by
  obtain ⟨p, c, rfl⟩ := hl.len
  have hb1 : Below w.heap.size w (w.alloc (.cells #[.int .i64 n, .slice p l.length c] 24)) := (Below.refl _ _).alloc (Nat.le_refl _) _
  have hX1 : Blk 24 (w.alloc (.cells #[.int .i64 n, .slice p l.length c] 24)) w.heap.size [.int .i64 n, .slice p l.length c] := heap_alloc_new w _
  have hlt := lightR_any n l r hr1 25 (by decide) (by decide) (.slice p l.length c) rv _ (hl.go hb1) (hr.go hb1)
  have q0 := hX1.cell (j := 0) rfl
  have q1 := hX1.cell (j := 1) rfl
  have HL : Hid (Edges w.heap.size w (.slice p l.length c) l) := hl
  have HR : Hid (Lsts w.heap.size w rv r) := hr
  have HB1 : Hid (Below w.heap.size w (w.alloc (.cells #[.int .i64 n, .slice p l.length c] 24))) := hb1
  have HX1 : Hid (Blk 24 (w.alloc (.cells #[.int .i64 n, .slice p l.length c] 24)) w.heap.size [.int .i64 n, .slice p l.length c]) := hX1
  clear hb1 hX1 hl hr
  have hmix := mixed
  go_enter Tryz.func3, Tryz.ntmps3
  go_wp2_with fail
  generalize w.alloc (.cells #[.int .i64 n, .slice p l.length c] 24) = w2 at *
  refine hlt.mono ?_
  clear hlt
  rintro e w3 ⟨bb, rfl, hbb, hb3⟩
  have HB3 : Hid (Below w.heap.size w w3) := HB1.out.trans (hb3.mono HB1.out.size)
  have HX3 : Hid (Blk 24 w3 w.heap.size [.int .i64 n, .slice p l.length c]) := HX1.out.go hb3
  have HBB : Hid (bb = true → lightB n l 25 = true ∧ (r.length : Int) ≤ 2 * 25) := hbb
  clear HB1 HX1 hb3 q0 q1 hbb
  cases bb with
  | false =>
    go_wp2_with fail
    refine (alive10_any w3).mono ?_
    rintro e w4 ⟨rfl, hb4⟩
    have HB4 : Hid (Below w.heap.size w w4) := HB3.out.trans (hb4.mono HB3.out.size)
    clear hb4
    go_wp2
    go_ret
    exact ⟨rfl, HB4.out⟩
  | true =>
    have q0 := HX3.out.cell (j := 0) rfl
    have q1 := HX3.out.cell (j := 1) rfl
    obtain ⟨k, hrp, hk0, hk1⟩ : ∃ k : Int, (∀ W, Below w.heap.size w W → Calls Tryz.prog 7 #[.agg #[.int .i64 n, .slice p l.length c], rv] W fun e w' => e = .returned (.int .i64 k) ∧ Below W.heap.size W w') ∧ (k = 0 → ∃ N : Nat, n = (N : Int) ∧ RightG (N : Int) l ∧ SysR N l r ∧ planeK (numsL N l r) = 0) ∧ (k ≠ 0 → ∀ W, Below w.heap.size w W → Calls Tryz.prog 13 #[.agg #[.int .i64 n, .slice p l.length c], rv] W fun e w' => e = .returned (.int .i64 k) ∧ Below W.heap.size W w') := by
      by_cases hk : sysK n l r = 0
      · obtain ⟨N, rfl, hR, hS⟩ := sysK_nought hk
        have hlm : l.length ≤ 100 := by have := (lightB_true (HBB.out rfl).1).2; omega
        have hnm : N ≤ 25 := by have := (lightB_true (HBB.out rfl).1).1; omega
        exact ⟨_, fun W h => refPlane_any N l hR r hS (by omega) (by omega) _ rv W (HL.out.go h) (HR.out.go h), fun h => ⟨N, rfl, hR, hS, h⟩, fun _ W h => plane_any N l hR r hS _ rv W (HL.out.go h) (HR.out.go h)⟩
      · exact ⟨_, fun W h => refPlane_bad n l r hk _ rv W (HL.out.go h) (HR.out.go h), fun h => absurd h hk, fun _ W h => plane_bad n l r hk _ rv W (HL.out.go h) (HR.out.go h)⟩
    have HK0 : Hid _ := hk0
    have HK1 : Hid _ := hk1
    have HRP : Hid _ := hrp
    clear hk0 hk1 hrp
    by_cases hk : k = 0
    · obtain ⟨N, rfl, hR, hS, hP⟩ := HK0.out hk
      subst hk
      have hlm : l.length ≤ 100 := by have := (lightB_true (HBB.out rfl).1).2; omega
      have hnm : N ≤ 25 := by have := (lightB_true (HBB.out rfl).1).1; omega
      have hin : ∀ x ∈ r, x.length ≤ 100 := fun x hx => by
        obtain ⟨v, hv, rfl⟩ := List.getElem_of_mem hx
        have h1 := (hS.perm v (by rw [← hS.len]; exact hv)).length_eq
        rw [List.getD_eq_getElem?_getD, List.getElem?_eq_getElem hv, Option.getD_some] at h1
        have h2 := nb_len (v : Int) l
        omega
      have hcf := (comps_ok hR).few
      have HRS : Hid (∀ x ∈ jR r (compC N l) (compC N l).length, x.length ≤ 4194304) := fun x hx => by have := jR_short hin _ x hx; omega
      have HRL : Hid ((jR r (compC N l) (compC N l).length).length ≤ 4194304) := by have := jR_len r (compC N l) (compC N l).length; have := hS.len; unfold Hid; omega
      have hjl := jE_len l (compC N l) (compC N l).length
      have HML : Hid ((makeL (N : Int) (jE l (compC N l) (compC N l).length)).length ≤ 4194304) := by
        unfold Hid makeL
        split
        · rw [srt_len, List.length_map]; omega
        · simp
      have hjd := joined_any N l hR r hS hP (.slice p l.length c) rv w3 (HL.out.go HB3.out) (HR.out.go HB3.out)
      have HRJ : Hid (∀ W, Below w.heap.size w W → _) := fun W h => refJoined_any N l hR r hS.len (fun x hx => by have := hin x hx; omega) (by omega) (.slice p l.length c) rv W (HL.out.go h) (HR.out.go h)
      clear hR hS hP hin hjl hcf HBB HK0 HK1
      generalize jR r (compC N l) (compC N l).length = R at *
      generalize makeN (N : Int) (jE l (compC N l) (compC N l).length) = nn at *
      generalize makeL (N : Int) (jE l (compC N l) (compC N l).length) = L at *
      go_wp2_with fail
      refine hjd.mono ?_
      clear hjd
      rintro e w4 ⟨gv, lv, svs, h0, rfl, hE4, hG4, hb4⟩
      obtain ⟨pg, cg, rfl⟩ := hE4.len
      have hL4 := hG4.lsts
      obtain ⟨pl, cl, rfl⟩ := hL4.len
      have hbD : Below w4.heap.size w4 (w4.alloc (.cells #[.int .i64 nn, .slice pg L.length cg] 24)) := (Below.refl _ _).alloc (Nat.le_refl _) _
      have hD : Blk 24 (w4.alloc (.cells #[.int .i64 nn, .slice pg L.length cg] 24)) w4.heap.size [.int .i64 nn, .slice pg L.length cg] := heap_alloc_new w4 _
      have hb45 := hb4.trans (hbD.mono hb4.size)
      have HX5 : Hid (Blk 24 (w4.alloc (.cells #[.int .i64 nn, .slice pg L.length cg] 24)) w.heap.size [.int .i64 (N : Int), .slice p l.length c]) := HX3.out.go hb45
      have HB5 : Hid (Below w.heap.size w (w4.alloc (.cells #[.int .i64 nn, .slice pg L.length cg] 24))) := HB3.out.trans (hb45.mono HB3.out.size)
      have HD5 : Hid (Blk 24 (w4.alloc (.cells #[.int .i64 nn, .slice pg L.length cg] 24)) w4.heap.size [.int .i64 nn, .slice pg L.length cg]) := hD
      have HE5 : Hid (Edges (w4.alloc (.cells #[.int .i64 nn, .slice pg L.length cg] 24)).heap.size (w4.alloc (.cells #[.int .i64 nn, .slice pg L.length cg] 24)) (.slice pg L.length cg) L) := hE4.go hbD
      have HL5 : Hid (Lsts (w4.alloc (.cells #[.int .i64 nn, .slice pg L.length cg] 24)).heap.size (w4.alloc (.cells #[.int .i64 nn, .slice pg L.length cg] 24)) (.slice pl R.length cl) R) := hL4.go hbD
      clear q0 q1 HX3 HB3 hE4 hG4 hL4 hb4 hbD hD hb45
      have q0 := HX5.out.cell (j := 0) rfl
      have q1 := HX5.out.cell (j := 1) rfl
      have hpl := HRP.out _ HB5.out
      go_wp2_with fail
      generalize hgd : w4.heap.size = gd at *
      generalize w4.alloc (.cells #[.int .i64 nn, .slice pg L.length cg] 24) = w5 at *
      refine hpl.mono ?_
      clear hpl HRP
      rintro e w6 ⟨rfl, hb6⟩
      have HX6 : Hid (Blk 24 w6 w.heap.size [.int .i64 (N : Int), .slice p l.length c]) := HX5.out.go hb6
      have HB6 : Hid (Below w.heap.size w w6) := HB5.out.trans (hb6.mono HB5.out.size)
      have HD6 : Hid (Blk 24 w6 gd [.int .i64 nn, .slice pg L.length cg]) := HD5.out.go hb6
      have HE6 : Hid (Edges w6.heap.size w6 (.slice pg L.length cg) L) := HE5.out.go hb6
      have HL6 : Hid (Lsts w6.heap.size w6 (.slice pl R.length cl) R) := HL5.out.go hb6
      clear q0 q1 HX5 HB5 HD5 HE5 HL5 hb6
      have q0 := HX6.out.cell (j := 0) rfl
      have q1 := HX6.out.cell (j := 1) rfl
      have hrj := HRJ.out _ HB6.out
      go_wp2_with fail
      refine hrj.mono ?_
      clear hrj HRJ
      rintro e w7 ⟨gx, lx, rfl, hE7, hL7, hb7⟩
      obtain ⟨px, cx, rfl⟩ := hE7.len
      obtain ⟨qx, dx, rfl⟩ := hL7.len
      have hbD : Below w7.heap.size w7 (w7.alloc (.cells #[.int .i64 nn, .slice px L.length cx] 24)) := (Below.refl _ _).alloc (Nat.le_refl _) _
      have hD : Blk 24 (w7.alloc (.cells #[.int .i64 nn, .slice px L.length cx] 24)) w7.heap.size [.int .i64 nn, .slice px L.length cx] := heap_alloc_new w7 _
      have hb78 := hb7.trans (hbD.mono hb7.size)
      have HB8 : Hid (Below w.heap.size w (w7.alloc (.cells #[.int .i64 nn, .slice px L.length cx] 24))) := HB6.out.trans (hb78.mono HB6.out.size)
      have hD8 := HD6.out.go hb78
      have HL8 : Hid (Lsts (w7.alloc (.cells #[.int .i64 nn, .slice px L.length cx] 24)).heap.size (w7.alloc (.cells #[.int .i64 nn, .slice px L.length cx] 24)) (.slice pl R.length cl) R) := HL6.out.go hb78
      have HM8 : Hid (Lsts (w7.alloc (.cells #[.int .i64 nn, .slice px L.length cx] 24)).heap.size (w7.alloc (.cells #[.int .i64 nn, .slice px L.length cx] 24)) (.slice qx R.length dx) R) := hL7.go hbD
      have hsm := refSame_any nn nn L L HML.out _ _ _ (HE6.out.go hb78) (hE7.go hbD)
      rw [decide_eq_true ⟨rfl, rfl⟩] at hsm
      have d0 := hD8.cell (j := 0) rfl
      have d1 := hD8.cell (j := 1) rfl
      have y0 := hD.cell (j := 0) rfl
      have y1 := hD.cell (j := 1) rfl
      clear q0 q1 HX6 HB6 HD6 HE6 HL6 hb7 hE7 hL7 hbD hD hb78 hD8
      go_wp2_with fail
      generalize hgx : w7.heap.size = gx at *
      generalize w7.alloc (.cells #[.int .i64 nn, .slice px L.length cx] 24) = w8 at *
      refine hsm.mono ?_
      clear hsm d0 d1 y0 y1
      rintro e w9 ⟨rfl, hg9⟩
      have hb9 := hg9.below
      have HB9 : Hid (Below w.heap.size w w9) := HB8.out.trans (hb9.mono HB8.out.size)
      have hli := refLists_any R R HRL.out HRS.out (.slice pl R.length cl) (.slice qx R.length dx) w9 (HL8.out.go hb9) (HM8.out.go hb9)
      rw [decide_eq_true rfl] at hli
      clear HB8 HL8 HM8 hb9 hg9
      go_wp2_with fail
      refine hli.mono ?_
      clear hli
      rintro e w10 ⟨rfl, hg10⟩
      have HB10 : Hid (Below w.heap.size w w10) := HB9.out.trans (hg10.below.mono HB9.out.size)
      clear hg10
      go_wp2_with fail
      refine (alive10_any w10).mono ?_
      rintro e w11 ⟨rfl, hb11⟩
      have HB11 : Hid (Below w.heap.size w w11) := HB10.out.trans (hb11.mono HB10.out.size)
      clear hb11
      go_wp2
      go_ret
      exact ⟨rfl, HB11.out⟩
    · have hk' : (k == 0) = false := by rw [beq_eq_false_iff_ne]; exact hk
      have hjn := joined_no n k hk (.slice p l.length c) rv w3 (fun W h => HK1.out hk W (HB3.out.trans (h.mono HB3.out.size)))
      clear HK0 HK1 hk HBB
      go_wp2_with fail
      refine hjn.mono ?_
      clear hjn
      rintro e w4 ⟨rfl, hb4⟩
      have hbD : Below w4.heap.size w4 (w4.alloc (.cells #[.int .i64 0, .slice none 0 0] 24)) := (Below.refl _ _).alloc (Nat.le_refl _) _
      have hD : Blk 24 (w4.alloc (.cells #[.int .i64 0, .slice none 0 0] 24)) w4.heap.size [.int .i64 0, .slice none 0 0] := heap_alloc_new w4 _
      have hb45 := hb4.trans (hbD.mono hb4.size)
      have HX5 : Hid (Blk 24 (w4.alloc (.cells #[.int .i64 0, .slice none 0 0] 24)) w.heap.size [.int .i64 n, .slice p l.length c]) := HX3.out.go hb45
      have HB5 : Hid (Below w.heap.size w (w4.alloc (.cells #[.int .i64 0, .slice none 0 0] 24))) := HB3.out.trans (hb45.mono HB3.out.size)
      have HD5 : Hid (Blk 24 (w4.alloc (.cells #[.int .i64 0, .slice none 0 0] 24)) w4.heap.size [.int .i64 0, .slice none 0 0]) := hD
      clear q0 q1 HX3 HB3 hb4 hbD hD hb45
      have q0 := HX5.out.cell (j := 0) rfl
      have q1 := HX5.out.cell (j := 1) rfl
      have hpl := HRP.out _ HB5.out
      go_wp2_with fail
      generalize hgd : w4.heap.size = gd at *
      generalize w4.alloc (.cells #[.int .i64 0, .slice none 0 0] 24) = w5 at *
      refine hpl.mono ?_
      clear hpl
      rintro e w8 ⟨rfl, hb8⟩
      have HD8 : Hid (Blk 24 w8 gd [.int .i64 0, .slice none 0 0]) := HD5.out.go hb8
      have HB8 : Hid (Below w.heap.size w w8) := HB5.out.trans (hb8.mono HB5.out.size)
      clear q0 q1 HX5 HD5 HB5 hb8
      have d0 := HD8.out.cell (j := 0) rfl
      have d1 := HD8.out.cell (j := 1) rfl
      have hsm := refSame_any 0 0 [] [] (by decide) (.slice none 0 0) (.slice none 0 0) w8 (Edges.nil _ _ _ _) (Edges.nil _ _ _ _)
      rw [decide_eq_true ⟨rfl, rfl⟩] at hsm
      go_wp2_with fail
      refine hsm.mono ?_
      clear hsm
      rintro e w9 ⟨rfl, hg9⟩
      have HB9 : Hid (Below w.heap.size w w9) := HB8.out.trans (hg9.below.mono HB8.out.size)
      clear hg9 d0 d1
      go_wp2_with fail
      refine (alive10_any w9).mono ?_
      rintro e w10 ⟨rfl, hb10⟩
      have HB10 : Hid (Below w.heap.size w w10) := HB9.out.trans (hb10.mono HB9.out.size)
      clear hb10
      go_wp2
      go_ret
      exact ⟨rfl, HB10.out⟩
end Go.Proofs.YtonfhkdciaiilaaGreat
