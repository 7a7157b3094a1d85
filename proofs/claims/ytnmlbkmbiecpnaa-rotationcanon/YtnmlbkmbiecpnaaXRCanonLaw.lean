/-
  filigreelaw07.Light where no list is too long for a machine; the walk of RotationCanon.
-/
import Derived.Test.YtnmlbkmbiecpnaaXRRefMir
import Derived.Test.YtnmlbkmbiecpnaaXRRefCan
import Derived.Test.YtnmlbkmbiecpnaaXRFacesLaw
namespace Go.Proofs.Ytnmlbkmbiecpnaa
open Go Go.Proofs Go.RowKit

def LightS (n : Int) (l : List Ed) (r : List (List Int)) (c : Int) (w : World) (e : Ending) (w' : World) : Prop := ∃ b, e = .returned (.bool b) ∧ (b = true → lightB n l c = true ∧ (r.length : Int) ≤ 2 * c ∧ r.flatten.length ≤ 1000) ∧ Below w.heap.size w w'
theorem lightS_no {n : Int} {l : List Ed} {r : List (List Int)} {c : Int} {w w' : World} {e : Ending} (he : e = .returned (.bool false)) (hb : Below w.heap.size w w') : LightS n l r c w e w' := ⟨false, he, fun h => absurd h (by decide), hb⟩
theorem lightS_yes {n : Int} {l : List Ed} {r : List (List Int)} {c : Int} {w w' : World} {e : Ending} (he : e = .returned (.bool true)) (h1 : lightB n l c = true) (h2 : (r.length : Int) ≤ 2 * c) (h3 : r.flatten.length ≤ 1000) (hb : Below w.heap.size w w') : LightS n l r c w e w' := ⟨true, he, fun _ => ⟨h1, h2, h3⟩, hb⟩
theorem flat_each {r : List (List Int)} {x : List Int} (h : x ∈ r) : x.length ≤ r.flatten.length := by
  obtain ⟨A, B, rfl⟩ := List.append_of_mem h
  rw [List.flatten_append, List.flatten_cons, List.length_append, List.length_append]
  omega

set_option maxRecDepth 100000 in
set_option maxHeartbeats 4000000 in
theorem lightS_any (n : Int) (l : List Ed) (r : List (List Int)) (hr1 : r.length ≤ 9223372036854775807) (hrr : ∀ x ∈ r, x.length ≤ 17592186044416) (c : Int) (h0 : 0 ≤ c) (h1 : c ≤ 1000) (sv rv : Value) (w : World) (hl : Edges w.heap.size w sv l) (hr : Lsts w.heap.size w rv r) :
    Calls Try.prog 9 #[.agg #[.int .i64 n, sv], rv, .int .i64 c] w (LightS n l r c w) := by
  have hbA : Below w.heap.size w (w.alloc (.cells #[.int .i64 n, sv] 24)) := (Below.refl _ _).alloc (Nat.le_refl _) _
  have hX : Blk 24 (w.alloc (.cells #[.int .i64 n, sv] 24)) w.heap.size [.int .i64 n, sv] := heap_alloc_new w _
  have hlc := light_any n l c h0 h1 sv _ (hl.go hbA)
  obtain ⟨p, cr, rfl⟩ := hr.len
  have HR0 := hr.go hbA
  have q0 := hX.cell (j := 0) rfl
  have q1 := hX.cell (j := 1) rfl
  have HR : Hid (Lsts (w.alloc (.cells #[.int .i64 n, sv] 24)).heap.size (w.alloc (.cells #[.int .i64 n, sv] 24)) (.slice p r.length cr) r) := HR0
  have HB : Hid (Below w.heap.size w (w.alloc (.cells #[.int .i64 n, sv] 24))) := hbA
  have HRR : Hid (∀ x ∈ r, x.length ≤ 17592186044416) := hrr
  clear hr hl hX hbA HR0 hrr
  go_enter Try.func9, Try.ntmps9
  go_wp2
  generalize w.alloc (.cells #[.int .i64 n, sv] 24) = w1 at *
  have hrl : (r.length : Int) ≤ 9223372036854775807 := by omega
  go_loopw [7, 8] (fun mv iv wr => ∃ (j m : Nat), j ≤ r.length ∧ iv = .int .i64 j ∧ mv = .int .i64 (m : Int) ∧ Hid (m = (r.take j).flatten.length) ∧ m ≤ 17592186045416 ∧ wr = w1) (fun _ i _ => r.length - (intOf i).toNat)
  case atStart => exact ⟨0, 0, Nat.zero_le _, rfl, rfl, by unfold Hid; simp, by omega, rfl⟩
  case round =>
    obtain ⟨j, m, hj, rfl, rfl, HMJ, hmb, rfl⟩ := hrel
    by_cases hlt : j < r.length
    · have hjl : (j : Int) < (r.length : Int) := by omega
      by_cases hm : m ≤ 1000
      · have hmd : (m : Int) ≤ 1000 := by omega
        obtain ⟨b, off, rfl, hbb, hcap, px, cx, hIx, c0⟩ := HR.out.cellAt hlt
        have hxl := HRR.out _ (List.getElem_mem hlt)
        have HST : Hid (m + r[j].length = (r.take (j + 1)).flatten.length) := by unfold Hid; rw [flat_step hlt, List.length_append, HMJ.out]
        have HLT : Hid (j < r.length) := hlt
        generalize r[j] = X at *
        clear hIx hlt hlc q0 q1
        go_wp2
        exact ⟨⟨j + 1, m + X.length, HLT.out, by go_num, by go_num, HST.out, by omega, trivial⟩, by have := HLT.out; simp [intOf]; omega⟩
      · have hmd : decide ((m : Int) ≤ 1000) = false := by rw [decide_eq_false_iff_not]; omega
        go_wp2_with fail
        refine hlc.mono ?_
        clear hlc
        rintro e w3 ⟨rfl, hg3⟩
        have HB3 : Hid (Below w.heap.size w w3) := HB.out.trans (hg3.below.mono HB.out.size)
        clear hg3 HR q0 q1
        cases hL : lightB n l c with
        | false =>
          go_wp2
          go_ret
          exact lightS_no rfl HB3.out
        | true =>
          have HL : Hid (lightB n l c = true) := hL
          clear hL
          by_cases hc : (r.length : Int) ≤ 2 * c
          · have HC : Hid ((r.length : Int) ≤ 2 * c) := hc
            go_wp2
            go_ret
            exact lightS_no rfl HB3.out
          · go_wp2
            go_ret
            exact lightS_no rfl HB3.out
    · obtain rfl : j = r.length := by omega
      go_wp2_with fail
      refine hlc.mono ?_
      clear hlc
      rintro e w3 ⟨rfl, hg3⟩
      have HB3 : Hid (Below w.heap.size w w3) := HB.out.trans (hg3.below.mono HB.out.size)
      clear hg3 HR q0 q1
      cases hL : lightB n l c with
      | false =>
        go_wp2
        go_ret
        exact lightS_no rfl HB3.out
      | true =>
        have HL : Hid (lightB n l c = true) := hL
        clear hL
        by_cases hc : (r.length : Int) ≤ 2 * c
        · have HC : Hid ((r.length : Int) ≤ 2 * c) := hc
          by_cases hm : m ≤ 1000
          · have hmd : (m : Int) ≤ 1000 := by omega
            have HFL : Hid (r.flatten.length ≤ 1000) := by
              unfold Hid
              have e := HMJ.out
              rw [List.take_length] at e
              omega
            clear HMJ
            go_wp2
            go_ret
            exact lightS_yes rfl HL.out HC.out HFL.out HB3.out
          · have hmd : decide ((m : Int) ≤ 1000) = false := by rw [decide_eq_false_iff_not]; omega
            go_wp2
            go_ret
            exact lightS_no rfl HB3.out
        · go_wp2
          go_ret
          exact lightS_no rfl HB3.out

set_option maxRecDepth 100000 in
set_option maxHeartbeats 8000000 in
theorem canon_law (n : Int) (l : List Ed) (r : List (List Int)) (hr1 : r.length ≤ 9223372036854775807) (hrr : ∀ x ∈ r, x.length ≤ 17592186044416) (sv rv : Value) (w : World) (hl : Edges w.heap.size w sv l) (hr : Lsts w.heap.size w rv r) :
    Calls Try.prog 6 #[.agg #[.int .i64 n, sv], rv] w fun e w' => e = .returned (.bool true) ∧ Below w.heap.size w w' := by
  have hb1 : Below w.heap.size w (w.alloc (.cells #[.int .i64 n, sv] 24)) := (Below.refl _ _).alloc (Nat.le_refl _) _
  have hX1 : Blk 24 (w.alloc (.cells #[.int .i64 n, sv] 24)) w.heap.size [.int .i64 n, sv] := heap_alloc_new w _
  have hlt := lightS_any n l r hr1 hrr 30 (by decide) (by decide) sv rv _ (hl.go hb1) (hr.go hb1)
  have q0 := hX1.cell (j := 0) rfl
  have q1 := hX1.cell (j := 1) rfl
  have HL : Hid (Edges w.heap.size w sv l) := hl
  have HR : Hid (Lsts w.heap.size w rv r) := hr
  have HB1 : Hid (Below w.heap.size w (w.alloc (.cells #[.int .i64 n, sv] 24))) := hb1
  have HX1 : Hid (Blk 24 (w.alloc (.cells #[.int .i64 n, sv] 24)) w.heap.size [.int .i64 n, sv]) := hX1
  clear hb1 hX1 hl hr hrr
  have hmix := mixed
  go_enter Try.func6, Try.ntmps6
  go_wp2_with fail
  generalize w.alloc (.cells #[.int .i64 n, sv] 24) = w2 at *
  refine hlt.mono ?_
  clear hlt
  rintro e w3 ⟨bb, rfl, hbb, hb3⟩
  have HB3 : Hid (Below w.heap.size w w3) := HB1.out.trans (hb3.mono HB1.out.size)
  have HX3 : Hid (Blk 24 w3 w.heap.size [.int .i64 n, sv]) := HX1.out.go hb3
  have HBB : Hid (bb = true → lightB n l 30 = true ∧ (r.length : Int) ≤ 2 * 30 ∧ r.flatten.length ≤ 1000) := hbb
  clear HB1 HX1 hb3 q0 q1 hbb
  cases bb with
  | false =>
    go_wp2_with fail
    refine (alive_any w3).mono ?_
    rintro e w4 ⟨rfl, hb4⟩
    have HB4 : Hid (Below w.heap.size w w4) := HB3.out.trans (hb4.mono HB3.out.size)
    clear hb4
    go_wp2
    go_ret
    exact ⟨rfl, HB4.out⟩
  | true =>
    obtain ⟨_, hrl, hfl⟩ := HBB.out rfl
    have hin : ∀ x ∈ r, x.length ≤ 4194304 := fun x hx => by have := flat_each hx; omega
    have HMI : Hid (∀ W, Lsts W.heap.size W rv r → _) := fun W h => mirror_any r (by omega) hin rv W h
    have HRM : Hid (∀ W, Lsts W.heap.size W rv r → _) := fun W h => refMirror_any r (by omega) hin rv W h
    have HRC : Hid (∀ W, Lsts W.heap.size W rv r → _) := fun W h => refCanon_any r (by omega) hin rv W h
    have HML : Hid ((mirL r).length ≤ 4194304 ∧ (∀ x ∈ mirL r, x.length ≤ 4194304)) := by
      refine ⟨by unfold mirL; rw [List.length_map]; omega, fun x hx => ?_⟩
      unfold mirL at hx
      obtain ⟨y, hy, rfl⟩ := List.mem_map.1 hx
      rw [List.length_reverse]
      exact hin y hy
    have HCL : Hid ((canL r).length ≤ 4194304 ∧ (∀ x ∈ canL r, x.length ≤ 4194304)) := by
      refine ⟨by unfold canL; rw [List.length_map]; omega, fun x hx => ?_⟩
      unfold canL at hx
      obtain ⟨y, hy, rfl⟩ := List.mem_map.1 hx
      unfold eachF
      split
      · simp
      · rw [leastL_len]; exact hin y hy
    have HSYS : Hid (∀ W, Edges W.heap.size W sv l → Lsts W.heap.size W rv r → _) := fun W h1 h2 => refSys_any n l r sv rv W h1 h2
    clear hin hrl hfl
    generalize hmm : mirL r = MM at *
    have q0 := HX3.out.cell (j := 0) rfl
    have q1 := HX3.out.cell (j := 1) rfl
    by_cases hk : sysK n l r = 0
    · obtain ⟨N, rfl, hR, hS⟩ := sysK_nought hk
      have hca := canon_any N l hR r hS sv rv w3 (HL.out.go HB3.out) (HR.out.go HB3.out)
      rw [hk] at HSYS
      clear hk hR hS
      generalize canL r = CC at *
      go_wp2_with fail
      refine hca.mono ?_
      clear hca
      rintro e w4 ⟨lv, svs, rfl, hG4, hb4⟩
      have hC4 := hG4.lsts
      obtain ⟨pc, cc, rfl⟩ := hC4.len
      have HC4 : Hid (Lsts w4.heap.size w4 (.slice pc CC.length cc) CC) := hC4
      have HB4 : Hid (Below w.heap.size w w4) := HB3.out.trans (hb4.mono HB3.out.size)
      have HX4 : Hid (Blk 24 w4 w.heap.size [.int .i64 (N : Int), sv]) := HX3.out.go hb4
      clear hG4 hC4 hb4 q0 q1 HB3 HX3
      have hmi := HMI.out w4 (HR.out.go HB4.out)
      go_wp2_with fail
      refine hmi.mono ?_
      clear hmi
      rintro e w5 ⟨mv, svm, rfl, hG5, hb5⟩
      have hM5 := hG5.lsts
      obtain ⟨pm, cm, rfl⟩ := hM5.len
      have HB5 : Hid (Below w.heap.size w w5) := HB4.out.trans (hb5.mono HB4.out.size)
      have HM5 : Hid (Lsts w5.heap.size w5 (.slice pm MM.length cm) MM) := hM5
      have HB45 : Hid (Below w4.heap.size w4 w5) := hb5
      clear hG5 hM5 hb5
      have hrm := HRM.out w5 (HR.out.go HB5.out)
      go_wp2_with fail
      refine hrm.mono ?_
      clear hrm
      rintro e w6 ⟨mv2, svm2, rfl, hG6, hb6⟩
      have hM6 := hG6.lsts
      obtain ⟨pm2, cm2, rfl⟩ := hM6.len
      have HB6 : Hid (Below w.heap.size w w6) := HB5.out.trans (hb6.mono HB5.out.size)
      have HB46 : Hid (Below w4.heap.size w4 w6) := HB45.out.trans (hb6.mono HB45.out.size)
      have hli := refLists_any MM MM HML.out.1 HML.out.2 (.slice pm MM.length cm) (.slice pm2 MM.length cm2) w6 (HM5.out.go hb6) hM6
      rw [decide_eq_true (rfl : MM = MM)] at hli
      clear hb6 hG6 hM6 HB5 HM5 HB45
      go_wp2_with fail
      refine hli.mono ?_
      clear hli
      rintro e w7 ⟨rfl, hg7⟩
      have HB7 : Hid (Below w.heap.size w w7) := HB6.out.trans (hg7.below.mono HB6.out.size)
      have hb47 : Below w4.heap.size w4 w7 := HB46.out.trans (hg7.below.mono HB46.out.size)
      have HX7 := HX4.out.go hb47
      have HX7 : Hid (Blk 24 w7 w.heap.size [.int .i64 (N : Int), sv]) := HX7
      clear hg7 HB6 HB46 HX4 HB4
      have HC7 : Hid (Lsts w7.heap.size w7 (.slice pc CC.length cc) CC) := HC4.out.go hb47
      clear hb47 HC4
      have q0 := HX7.out.cell (j := 0) rfl
      have q1 := HX7.out.cell (j := 1) rfl
      have hsy := HSYS.out w7 (HL.out.go HB7.out) (HR.out.go HB7.out)
      go_wp2_with fail
      refine hsy.mono ?_
      clear hsy
      rintro e w8 ⟨rfl, hb8⟩
      have HB8 : Hid (Below w.heap.size w w8) := HB7.out.trans (hb8.mono HB7.out.size)
      have HC8 : Hid (Lsts w8.heap.size w8 (.slice pc CC.length cc) CC) := HC7.out.go hb8
      clear hb8 q0 q1 HB7 HC7 HX7
      have hrc := HRC.out w8 (HR.out.go HB8.out)
      go_wp2_with fail
      refine hrc.mono ?_
      clear hrc
      rintro e w9 ⟨lb, svb, rfl, hG9, hb9⟩
      have hC9 := hG9.lsts
      obtain ⟨pb, cb, rfl⟩ := hC9.len
      have HB9 : Hid (Below w.heap.size w w9) := HB8.out.trans (hb9.mono HB8.out.size)
      have hli := refLists_any CC CC HCL.out.1 HCL.out.2 (.slice pc CC.length cc) (.slice pb CC.length cb) w9 (HC8.out.go hb9) hC9
      rw [decide_eq_true (rfl : CC = CC)] at hli
      clear hb9 hG9 hC9 HB8 HC8
      go_wp2_with fail
      refine hli.mono ?_
      clear hli
      rintro e w10 ⟨rfl, hg10⟩
      have HB10 : Hid (Below w.heap.size w w10) := HB9.out.trans (hg10.below.mono HB9.out.size)
      clear hg10
      go_wp2_with fail
      refine (alive_any w10).mono ?_
      rintro e w11 ⟨rfl, hb11⟩
      have HB11 : Hid (Below w.heap.size w w11) := HB10.out.trans (hb11.mono HB10.out.size)
      clear hb11
      go_wp2
      go_ret
      exact ⟨rfl, HB11.out⟩
    · have hca := canon_bad n l r hk sv rv w3 (HL.out.go HB3.out) (HR.out.go HB3.out)
      generalize sysK n l r = k at *
      have hkn : (k != 0) = true := by simpa using hk
      go_wp2_with fail
      refine hca.mono ?_
      clear hca
      rintro e w4 ⟨rfl, hb4⟩
      have HB4 : Hid (Below w.heap.size w w4) := HB3.out.trans (hb4.mono HB3.out.size)
      have HX4 : Hid (Blk 24 w4 w.heap.size [.int .i64 n, sv]) := HX3.out.go hb4
      clear hb4 q0 q1 HB3 HX3
      have hmi := HMI.out w4 (HR.out.go HB4.out)
      go_wp2_with fail
      refine hmi.mono ?_
      clear hmi
      rintro e w5 ⟨mv, svm, rfl, hG5, hb5⟩
      have hM5 := hG5.lsts
      obtain ⟨pm, cm, rfl⟩ := hM5.len
      have HB5 : Hid (Below w.heap.size w w5) := HB4.out.trans (hb5.mono HB4.out.size)
      have HM5 : Hid (Lsts w5.heap.size w5 (.slice pm MM.length cm) MM) := hM5
      have HB45 : Hid (Below w4.heap.size w4 w5) := hb5
      clear hG5 hM5 hb5
      have hrm := HRM.out w5 (HR.out.go HB5.out)
      go_wp2_with fail
      refine hrm.mono ?_
      clear hrm
      rintro e w6 ⟨mv2, svm2, rfl, hG6, hb6⟩
      have hM6 := hG6.lsts
      obtain ⟨pm2, cm2, rfl⟩ := hM6.len
      have HB6 : Hid (Below w.heap.size w w6) := HB5.out.trans (hb6.mono HB5.out.size)
      have HB46 : Hid (Below w4.heap.size w4 w6) := HB45.out.trans (hb6.mono HB45.out.size)
      have hli := refLists_any MM MM HML.out.1 HML.out.2 (.slice pm MM.length cm) (.slice pm2 MM.length cm2) w6 (HM5.out.go hb6) hM6
      rw [decide_eq_true (rfl : MM = MM)] at hli
      clear hb6 hG6 hM6 HB5 HM5 HB45
      go_wp2_with fail
      refine hli.mono ?_
      clear hli
      rintro e w7 ⟨rfl, hg7⟩
      have HB7 : Hid (Below w.heap.size w w7) := HB6.out.trans (hg7.below.mono HB6.out.size)
      have hb47 : Below w4.heap.size w4 w7 := HB46.out.trans (hg7.below.mono HB46.out.size)
      have HX7 := HX4.out.go hb47
      have HX7 : Hid (Blk 24 w7 w.heap.size [.int .i64 n, sv]) := HX7
      clear hg7 HB6 HB46 HX4 HB4
      clear hb47
      have q0 := HX7.out.cell (j := 0) rfl
      have q1 := HX7.out.cell (j := 1) rfl
      have hsy := HSYS.out w7 (HL.out.go HB7.out) (HR.out.go HB7.out)
      go_wp2_with fail
      refine hsy.mono ?_
      clear hsy
      rintro e w8 ⟨rfl, hb8⟩
      have HB8 : Hid (Below w.heap.size w w8) := HB7.out.trans (hb8.mono HB7.out.size)
      clear hb8 q0 q1 HB7 HX7
      go_wp2_with fail
      refine (alive_any w8).mono ?_
      rintro e w11 ⟨rfl, hb11⟩
      have HB11 : Hid (Below w.heap.size w w11) := HB8.out.trans (hb11.mono HB8.out.size)
      clear hb11
      go_wp2
      go_ret
      exact ⟨rfl, HB11.out⟩
end Go.Proofs.Ytnmlbkmbiecpnaa
