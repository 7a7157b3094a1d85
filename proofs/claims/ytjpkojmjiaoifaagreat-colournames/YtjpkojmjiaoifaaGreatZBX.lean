import Derived.Test.YtjpkojmjiaoifaaGreatZAC
import Derived.Test.YtjpkojmjiaoifaaGreatZAG
import Derived.Test.YtjpkojmjiaoifaaGreatZBV
import Derived.Laws.ResultCell
import Derived.Deep.RegionHeld3
namespace Go.Proofs.YtjpkojmjiaoifaaGreat
open Go Go.Proofs Go.RowKit
theorem take_snoc {α : Type} {a : List α} {j : Nat} (h : j < a.length) : a.take (j + 1) = a.take j ++ [a[j]] := by rw [List.take_add_one, List.getElem?_eq_getElem h]; rfl
def inB (a : List Int) (x : Int) : Bool := decide (x ∈ a)
theorem inB_true {a : List Int} {x : Int} : inB a x = true ↔ x ∈ a := by simp [inB]
theorem inB_false {a : List Int} {x : Int} : inB a x = false ↔ x ∉ a := by simp [inB]
theorem inB_snoc (a : List Int) (y x : Int) : inB (a ++ [y]) x = (inB a x || decide (x = y)) := by simp [inB]
set_option maxRecDepth 100000 in
theorem has_any (a : List Int) (ha : a.length ≤ 4194304) (x : Int) (sa : Value) (m : Nat) (w : World) (hA : Ints m w sa a) :
  Calls Tryz.prog 46 #[sa, .int .i64 x] w fun r w' => r = .returned (.bool (inB a x)) ∧ w' = w := by
 obtain ⟨p, c, rfl⟩ := hA.len
 go_enter Tryz.func46, Tryz.ntmps46
 go_wp2
 go_loop [5] (fun i => ∃ j : Nat, j ≤ a.length ∧ i = .int .i64 j ∧ Hid (inB (a.take j) x = false)) (fun i => a.length - (intOf i).toNat)
 case atStart => exact ⟨0, Nat.zero_le _, rfl, inB_false.2 (by simp)⟩
 case round =>
  obtain ⟨j, hj, rfl, hr⟩ := hrel
  by_cases hlt : j < a.length
  ·obtain ⟨b, off, rfl, hbb, hcap, hc⟩ := hA.open hlt
   have c0 := hc w (Below.refl _ _) j hlt
   have hjl : (j : Int) < (a.length : Int) := by omega
   by_cases he : a[j] = x
   ·have he' : (a[j] == x) = true := by simpa using he
    have HE : Hid (inB a x = true) := by
     unfold Hid; rw [inB_true, ← he]; exact List.getElem_mem hlt
    clear hc hr he
    go_wp2
    go_ret
    exact ⟨by rw [HE.out]; rfl, rfl⟩
   ·have he' : (a[j] == x) = false := by simpa using he
    have HS : Hid (inB (a.take (j + 1)) x = false) := by
     unfold Hid
     rw [take_snoc hlt, inB_snoc, hr.out]
     simp
     exact fun h => he h.symm
    clear hc hr he
    go_wp2
    exact ⟨⟨j + 1, by omega, by go_num, HS⟩, by simp [intOf]; omega⟩
  ·obtain rfl : j = a.length := by omega
   have HE : Hid (inB a x = false) := by have := hr.out; rwa [List.take_length] at this
   clear hr
   go_wp2
   go_ret
   exact ⟨by rw [HE.out]; rfl, rfl⟩
end Go.Proofs.YtjpkojmjiaoifaaGreat

namespace Go.Proofs.YtjpkojmjiaoifaaGreat
open Go Go.Proofs Go.RowKit
def lightB (n : Int) (l : List Ed) (c : Int) : Bool := decide (n ≤ c) && decide ((l.length : Int) ≤ 4 * c)
theorem lightB_true {n : Int} {l : List Ed} {c : Int} (h : lightB n l c = true) : n ≤ c ∧ (l.length : Int) ≤ 4 * c := by simpa [lightB] using h
set_option maxRecDepth 100000 in
theorem light_any (n : Int) (l : List Ed) (c : Int) (h0 : 0 ≤ c) (h1 : c ≤ 1000) (sv : Value) (w : World) (hl : Edges w.heap.size w sv l) :
  Calls Tryz.prog 13 #[.agg #[.int .i64 n, sv], .int .i64 c] w fun r w' => r = .returned (.bool (lightB n l c)) ∧ Grew w w' := by
 unfold lightB
 obtain ⟨p, q, rfl⟩ := hl.len
 go_enter Tryz.func13, Tryz.ntmps13
 go_wp2
 all_goals go_ret
 all_goals refine ⟨?_, (Grew.refl w).alloc _⟩
 all_goals simp
 all_goals first | done | omega | (simp_all <;> omega)
end Go.Proofs.YtjpkojmjiaoifaaGreat

namespace Go.Proofs.YtjpkojmjiaoifaaGreat
open Go Go.Proofs Go.RowKit
def LightQ (n : Int) (l : List Ed) (r : List (List Int)) (c : Int) (w : World) (e : Ending) (w' : World) : Prop := ∃ b, e = .returned (.bool b) ∧ (b = true → lightB n l c = true ∧ (r.length : Int) ≤ 2 * c) ∧ Below w.heap.size w w'
theorem lightQ_no {n : Int} {l : List Ed} {r : List (List Int)} {c : Int} {w w' : World} {e : Ending} (he : e = .returned (.bool false)) (hb : Below w.heap.size w w') : LightQ n l r c w e w' := ⟨false, he, fun h => absurd h (by decide), hb⟩
theorem lightQ_yes {n : Int} {l : List Ed} {r : List (List Int)} {c : Int} {w w' : World} {e : Ending} (he : e = .returned (.bool true)) (h1 : lightB n l c = true) (h2 : (r.length : Int) ≤ 2 * c) (hb : Below w.heap.size w w') : LightQ n l r c w e w' := ⟨true, he, fun _ => ⟨h1, h2⟩, hb⟩
set_option maxRecDepth 100000 in
set_option maxHeartbeats 4000000 in
theorem lightR_any (n : Int) (l : List Ed) (r : List (List Int)) (hr1 : r.length ≤ 9223372036854775807) (c : Int) (h0 : 0 ≤ c) (h1 : c ≤ 1000) (sv rv : Value) (w : World) (hl : Edges w.heap.size w sv l) (hr : Lsts w.heap.size w rv r) :
  Calls Tryz.prog 5 #[.agg #[.int .i64 n, sv], rv, .int .i64 c] w (LightQ n l r c w) := by
 have hbA : Below w.heap.size w (w.alloc (.cells #[.int .i64 n, sv] 24)) := (Below.refl _ _).alloc (Nat.le_refl _) _
 have hX : Blk 24 (w.alloc (.cells #[.int .i64 n, sv] 24)) w.heap.size [.int .i64 n, sv] := heap_alloc_new w _
 have hlc := light_any n l c h0 h1 sv _ (hl.go hbA)
 obtain ⟨p, cr, rfl⟩ := hr.len
 have HR0 := hr.go hbA
 have q0 := hX.cell (j := 0) rfl
 have q1 := hX.cell (j := 1) rfl
 have HR : Hid (Lsts (w.alloc (.cells #[.int .i64 n, sv] 24)).heap.size (w.alloc (.cells #[.int .i64 n, sv] 24)) (.slice p r.length cr) r) := HR0
 have HB : Hid (Below w.heap.size w (w.alloc (.cells #[.int .i64 n, sv] 24))) := hbA
 clear hr hl hX hbA HR0
 go_enter Tryz.func5, Tryz.ntmps5
 go_wp2
 generalize w.alloc (.cells #[.int .i64 n, sv] 24) = w1 at *
 have hrl : (r.length : Int) ≤ 9223372036854775807 := by omega
 go_loopw [7, 8] (fun mv iv wr => ∃ (j : Nat) (m : Int), j ≤ r.length ∧ iv = .int .i64 j ∧ mv = .int .i64 m ∧ wr = w1) (fun _ i _ => r.length - (intOf i).toNat)
 case atStart => exact ⟨0, 0, Nat.zero_le _, rfl, rfl, rfl⟩
 case round =>
  obtain ⟨j, m, hj, rfl, rfl, rfl⟩ := hrel
  by_cases hlt : j < r.length
  ·have hjl : (j : Int) < (r.length : Int) := by omega
   by_cases hm : m ≤ 1000
   ·obtain ⟨b, off, rfl, hbb, hcap, px, cx, hIx, c0⟩ := HR.out.cellAt hlt
    have HLT : Hid (j < r.length) := hlt
    generalize r[j] = X at *
    clear hIx hlt hlc q0 q1
    go_wp2
    exact ⟨⟨j + 1, _, HLT.out, by go_num, rfl, trivial⟩, by have := HLT.out; simp [intOf]; omega⟩
   ·have hmd : decide (m ≤ 1000) = false := decide_eq_false hm
    go_wp2_with fail
    refine hlc.mono ?_
    clear hlc
    rintro e w3 ⟨rfl, hg3⟩
    have HB3 : Hid (Below w.heap.size w w3) := HB.out.trans (hg3.below.mono HB.out.size)
    clear hg3 HR q0 q1
    cases hL : lightB n l c with
    | false =>
     go_wp2
     go_ret
     exact lightQ_no rfl HB3.out
    | true =>
     have HL : Hid (lightB n l c = true) := hL
     clear hL
     by_cases hc : (r.length : Int) ≤ 2 * c
     ·have HC : Hid ((r.length : Int) ≤ 2 * c) := hc
      go_wp2
      go_ret
      exact lightQ_no rfl HB3.out
     ·go_wp2
      go_ret
      exact lightQ_no rfl HB3.out
  ·obtain rfl : j = r.length := by omega
   go_wp2_with fail
   refine hlc.mono ?_
   clear hlc
   rintro e w3 ⟨rfl, hg3⟩
   have HB3 : Hid (Below w.heap.size w w3) := HB.out.trans (hg3.below.mono HB.out.size)
   clear hg3 HR q0 q1
   cases hL : lightB n l c with
   | false =>
    go_wp2
    go_ret
    exact lightQ_no rfl HB3.out
   | true =>
    have HL : Hid (lightB n l c = true) := hL
    clear hL
    by_cases hc : (r.length : Int) ≤ 2 * c
    ·have HC : Hid ((r.length : Int) ≤ 2 * c) := hc
     by_cases hm : m ≤ 1000
     ·go_wp2
      go_ret
      exact lightQ_yes rfl HL.out HC.out HB3.out
     ·have hmd : decide (m ≤ 1000) = false := decide_eq_false hm
      go_wp2
      go_ret
      exact lightQ_no rfl HB3.out
    ·go_wp2
     go_ret
     exact lightQ_no rfl HB3.out
end Go.Proofs.YtjpkojmjiaoifaaGreat

namespace Go.Proofs.YtjpkojmjiaoifaaGreat
open Go Go.Proofs Go.RowKit
def nxR (r : List (List Int)) (d : Dt) : Dt × Bool := if 0 ≤ d.2 ∧ d.2 < (r.length : Int) then (if d.1 ∈ r.getD d.2.toNat [] then (nxD r d, true) else ((0, 0), false)) else ((0, 0), false)
theorem idxOf_is {L : List Int} {x : Int} {k : Nat} (hk : k < L.length) (h : L[k] = x) (hne : ∀ (j : Nat) (hj : j < k), L[j] ≠ x) : L.idxOf x = k := by
 unfold List.idxOf
 refine (List.findIdx_eq hk).2 ⟨by simpa using h, fun j hj => by simpa using hne j hj⟩
theorem nxR_hit {r : List (List Int)} {d : Dt} {v k : Nat} (hv : v < r.length) (hd : d.2 = (v : Int)) (hk : k < r[v].length) (h : r[v][k] = d.1) (hne : ∀ (j : Nat) (hj : j < k), r[v][j] ≠ d.1) : nxR r d = (((v : Int), aft r[v] k), true) := by
 have e : r.getD d.2.toNat [] = r[v] := by rw [hd, Int.toNat_natCast, List.getD_eq_getElem?_getD, List.getElem?_eq_getElem hv]; rfl
 unfold nxR
 rw [if_pos ⟨by omega, by omega⟩, e, if_pos (by rw [← h]; exact List.getElem_mem hk)]
 unfold nxD
 rw [e, idxOf_is hk h hne, hd]
theorem nxR_miss {r : List (List Int)} {d : Dt} {v : Nat} (hv : v < r.length) (hd : d.2 = (v : Int)) (h : d.1 ∉ r[v]) : nxR r d = ((0, 0), false) := by
 have e : r.getD d.2.toNat [] = r[v] := by rw [hd, Int.toNat_natCast, List.getD_eq_getElem?_getD, List.getElem?_eq_getElem hv]; rfl
 unfold nxR
 rw [if_pos ⟨by omega, by omega⟩, e, if_neg h]
theorem nxR_out {r : List (List Int)} {d : Dt} (h : ¬ (0 ≤ d.2 ∧ d.2 < (r.length : Int))) : nxR r d = ((0, 0), false) := if_neg h
def FirstAt (L : List Int) (x : Int) (k : Nat) : Prop := ∃ hk : k < L.length, L[k] = x ∧ ∀ (j : Nat) (hj : j < k), L[j] ≠ x
theorem ret_dart {fn : Func} {p u : Tmp} (h : fn.results = #[.cell p 84, .tmp u]) {tmps : Array Value} {w : World} {b : Nat} {x y : Value} (hp : tmps.getD p undef = .pointer (some ⟨b, 0, none⟩)) (h0 : w.cell? ⟨b, 0, none⟩ = some x) (h1 : w.cell? ⟨b, 1, none⟩ = some y) :
  (results fn tmps).run Tryz.prog w = .ok (.tuple #[.agg #[x, y], tmps.getD u undef]) w := by
 rw [results_cell_tmp h, hp]
 have a1 := Tryz.isAgg84
 have a2 := Tryz.sizeOf84
 go_simp
def NextQ (a : Dt × Bool) (w : World) (e : Ending) (w' : World) : Prop := e = .returned (.tuple #[.agg #[.int .i64 a.1.1, .int .i64 a.1.2], .bool a.2]) ∧ Below w.heap.size w w'
theorem two_darts (w : World) (d1 d2 : Int) : Below w.heap.size w ((w.alloc (.cells #[.int .i64 d1, .int .i64 d2] 84)).alloc (.cells #[.int .i64 0, .int .i64 0] 84)) ∧ Blk 84 ((w.alloc (.cells #[.int .i64 d1, .int .i64 d2] 84)).alloc (.cells #[.int .i64 0, .int .i64 0] 84)) w.heap.size [.int .i64 d1, .int .i64 d2] ∧ Blk 84 ((w.alloc (.cells #[.int .i64 d1, .int .i64 d2] 84)).alloc (.cells #[.int .i64 0, .int .i64 0] 84)) (w.heap.size + 1) [.int .i64 0, .int .i64 0] := by
 have h1 : Below w.heap.size w (w.alloc (.cells #[.int .i64 d1, .int .i64 d2] 84)) := (Below.refl _ _).alloc (Nat.le_refl _) _
 have h2 : Below (w.alloc (.cells #[.int .i64 d1, .int .i64 d2] 84)).heap.size (w.alloc (.cells #[.int .i64 d1, .int .i64 d2] 84)) ((w.alloc (.cells #[.int .i64 d1, .int .i64 d2] 84)).alloc (.cells #[.int .i64 0, .int .i64 0] 84)) := (Below.refl _ _).alloc (Nat.le_refl _) _
 have h3 : Blk 84 (w.alloc (.cells #[.int .i64 d1, .int .i64 d2] 84)) w.heap.size [.int .i64 d1, .int .i64 d2] := heap_alloc_new _ _
 have h4 : Blk 84 ((w.alloc (.cells #[.int .i64 d1, .int .i64 d2] 84)).alloc (.cells #[.int .i64 0, .int .i64 0] 84)) (w.alloc (.cells #[.int .i64 d1, .int .i64 d2] 84)).heap.size [.int .i64 0, .int .i64 0] := heap_alloc_new _ _
 rw [World.size_alloc] at h4
 exact ⟨h1.trans (h2.mono h1.size), h3.go h2, h4⟩
set_option maxRecDepth 100000 in
set_option maxHeartbeats 4000000 in
theorem refNext_any (r : List (List Int)) (hrr : ∀ x ∈ r, x.length ≤ 9223372036854775807) (d : Dt) (rv : Value) (w : World) (hr : Lsts w.heap.size w rv r) :
  Calls Tryz.prog 69 #[rv, .agg #[.int .i64 d.1, .int .i64 d.2]] w (NextQ (nxR r d) w) := by
 obtain ⟨p, c, rfl⟩ := hr.len
 obtain ⟨d1, d2⟩ := d
 obtain ⟨hb2, hX2, hY2⟩ := two_darts w d1 d2
 have HB2 : Hid (Below w.heap.size w ((w.alloc (.cells #[.int .i64 d1, .int .i64 d2] 84)).alloc (.cells #[.int .i64 0, .int .i64 0] 84))) := hb2
 have HY2 : Hid (Blk 84 ((w.alloc (.cells #[.int .i64 d1, .int .i64 d2] 84)).alloc (.cells #[.int .i64 0, .int .i64 0] 84)) (w.heap.size + 1) [.int .i64 0, .int .i64 0]) := hY2
 have HX2 : Hid (Blk 84 ((w.alloc (.cells #[.int .i64 d1, .int .i64 d2] 84)).alloc (.cells #[.int .i64 0, .int .i64 0] 84)) w.heap.size [.int .i64 d1, .int .i64 d2]) := hX2
 have HR : Hid (Lsts w.heap.size w (.slice p r.length c) r) := hr
 have HRR : Hid (∀ x ∈ r, x.length ≤ 9223372036854775807) := hrr
 clear hb2 hX2 hY2 hr hrr
 go_enter Tryz.func69, Tryz.ntmps69
 by_cases hneg : d2 < 0
 ·have hE : nxR r (d1, d2) = ((0, 0), false) := nxR_out (fun h => by have := h.1; simp at this; omega)
  rw [hE]
  clear hE
  go_wp2
  refine bodyPost_ret (ret_dart rfl rfl (HY2.out.cell (j := 0) rfl) (HY2.out.cell (j := 1) rfl)) rfl ?_
  exact ⟨rfl, HB2.out⟩
 ·by_cases hout : (r.length : Int) ≤ d2
  ·have hE : nxR r (d1, d2) = ((0, 0), false) := nxR_out (fun h => by have := h.2; simp at this; omega)
   rw [hE]
   clear hE
   go_wp2
   refine bodyPost_ret (ret_dart rfl rfl (HY2.out.cell (j := 0) rfl) (HY2.out.cell (j := 1) rfl)) rfl ?_
   exact ⟨rfl, HB2.out⟩
  ·obtain ⟨v, rfl⟩ : ∃ v : Nat, d2 = (v : Int) := ⟨d2.toNat, by omega⟩
   have hv : v < r.length := by omega
   have hR2 := HR.out.below HB2.out
   obtain ⟨b, off, rfl, hbb, hcap, px, cx, hIx, c0⟩ := hR2.cellAt hv
   have hxl := HRR.out _ (List.getElem_mem hv)
   have q0 := HX2.out.cell (j := 0) rfl
   have q1 := HX2.out.cell (j := 1) rfl
   have y0 := HY2.out.cell (j := 0) rfl
   have y1 := HY2.out.cell (j := 1) rfl
   have fy0 := HY2.out.frozen 0
   have fy1 := HY2.out.frozen 1
   have hvl : (v : Int) < (r.length : Int) := by omega
   have hv0 : ¬ (v : Int) < 0 := by omega
   have HIX : Hid (Ints w.heap.size ((w.alloc (.cells #[.int .i64 d1, .int .i64 (v : Int)] 84)).alloc (.cells #[.int .i64 0, .int .i64 0] 84)) (.slice px r[v].length cx) r[v]) := hIx
   have HHIT : Hid (∀ k, FirstAt r[v] d1 k → nxR r (d1, (v : Int)) = (((v : Int), aft r[v] k), true)) := fun k ⟨h1, h2, h3⟩ => nxR_hit hv rfl h1 h2 h3
   have HMIS : Hid (d1 ∉ r[v] → nxR r (d1, (v : Int)) = ((0, 0), false)) := fun h => nxR_miss hv rfl h
   clear hIx hR2 hneg hout
   generalize hXe : r[v] = X at *
   clear hXe
   go_wp2
   generalize ((w.alloc (.cells #[.int .i64 d1, .int .i64 (v : Int)] 84)).alloc (.cells #[.int .i64 0, .int .i64 0] 84)) = w2 at *
   go_loopw [7] (fun iv wr => ∃ j : Nat, j ≤ X.length ∧ iv = .int .i64 j ∧ Hid (∀ (i : Nat) (h1 : i < X.length), i < j → X[i] ≠ d1) ∧ Below w2.heap.size w2 wr) (fun i _ => X.length - (intOf i).toNat)
   case atStart => exact ⟨0, Nat.zero_le _, rfl, fun i _ h => by omega, Below.refl _ _⟩
   case round =>
    clear q0 q1 y0 y1 fy0 fy1 c0
    obtain ⟨j, hj, rfl, HS, hb⟩ := hrel
    have hXw := HX2.out.go hb
    have hYw := HY2.out.go hb
    have q0 := hXw.cell (j := 0) rfl
    have q1 := hXw.cell (j := 1) rfl
    by_cases hlt : j < X.length
    ·have hjl : (j : Int) < (X.length : Int) := by omega
     obtain ⟨bx, ox, rfl, hbx, hcx, hcl⟩ := HIX.out.open hlt
     have hbm : Below w.heap.size w2 wr := hb.mono HB2.out.size
     have hbxn : bx ≠ w.heap.size + 1 := by omega
     have c1 := hcl wr hbm j hlt
     have HCL : Hid (∀ (i : Nat) (hi : i < X.length), wr.cell? ⟨bx, ox + i, none⟩ = some (.int .i64 X[i])) := fun i hi => hcl wr hbm i hi
     have HB : Hid (Below w2.heap.size w2 wr) := hb
     have HYw : Hid (Blk 84 wr (w.heap.size + 1) [.int .i64 0, .int .i64 0]) := hYw
     clear hcl hb hXw hYw hbm
     by_cases he : X[j] = d1
     ·have HE : Hid _ := HHIT.out j ⟨hlt, he, fun i hi => HS.out i (by omega) hi⟩
      rw [he] at c1
      clear he HS HHIT HMIS
      obtain ⟨k, hk, hmod, hkv⟩ : ∃ (k : Nat) (hk : k < X.length), Int.tmod ((j : Int) + 1) (X.length : Int) = (k : Int) ∧ aft X j = X[k] := by
       by_cases e : j + 1 = X.length
       ·refine ⟨0, by omega, ?_, ?_⟩
        ·rw [show (j : Int) + 1 = (X.length : Int) by omega, Int.tmod_self]; rfl
        ·unfold aft
         rw [if_pos e, List.getD_eq_getElem?_getD, List.getElem?_eq_getElem (by omega)]; rfl
       ·refine ⟨j + 1, by omega, ?_, ?_⟩
        ·rw [Int.tmod_eq_of_lt (by omega) (by omega)]; omega
        ·unfold aft
         rw [if_neg e, List.getD_eq_getElem?_getD, List.getElem?_eq_getElem (by omega)]; rfl
      have c2 := HCL.out k hk
      rw [hkv] at HE
      generalize X[k] = y at *
      have hkl : (k : Int) < (X.length : Int) := by omega
      have hx0 : (X.length : Int) ≠ 0 := by omega
      have hjx : (j : Int) + 1 ≤ (X.length : Int) := by omega
      have hXne : X ≠ [] := fun e => by rw [e] at hk; simp at hk
      have hwp : IntKind.i64.wrap ((j : Int) + 1) = (j : Int) + 1 := wrap_i _ (by omega) (by omega)
      have hbw := HB2.out.trans (HB.out.mono HB2.out.size)
      have HFB : Hid (∀ (q : Nat) (x y : Int), Below w.heap.size w (((wr.drewN q).setCell ⟨w.heap.size + 1, 0, none⟩ (.int .i64 x)).setCell ⟨w.heap.size + 1, 1, none⟩ (.int .i64 y))) := fun q x y => ((below_drewN hbw q).setCell (p := ⟨w.heap.size + 1, 0, none⟩) (by simp) _).setCell (p := ⟨w.heap.size + 1, 1, none⟩) (by simp) _
      clear hkv HCL HB hbw
      go_wp2
      go_quiet (fail)
      have HYq : Hid (Blk 84 (wr.drewN nq) (w.heap.size + 1) [.int .i64 0, .int .i64 0]) := HYw.out
      have r1 : (wr.drewN nq).cell? ⟨w.heap.size, 1, none⟩ = some (.int .i64 (v : Int)) := q1
      have r2 : (wr.drewN nq).cell? ⟨bx, ox + k, none⟩ = some (.int .i64 y) := c2
      have HFB3 : Hid (∀ (x y : Int), Below w.heap.size w (((wr.drewN nq).setCell ⟨w.heap.size + 1, 0, none⟩ (.int .i64 x)).setCell ⟨w.heap.size + 1, 1, none⟩ (.int .i64 y))) := fun x y => HFB.out nq x y
      clear HFB HYw q0 q1 c1 c2
      generalize wr.drewN nq = w3 at *
      have y0 := HYq.out.cell (j := 0) rfl
      have y1 := HYq.out.cell (j := 1) rfl
      have fy0 := HYq.out.frozen 0
      have fy1 := HYq.out.frozen 1
      go_wp2_with fail
      refine wp_region_held_drew (S := (fun w' : World => w'.cell? ⟨w.heap.size, 1, none⟩ = some (.int .i64 (v : Int)) ∧ w'.cell? ⟨bx, ox + k, none⟩ = some (.int .i64 y))) (by kernel_rfl) ?_ (fun hHeld => ?_)
      ·(try dsimp only); go_keep
      refine wpAnyH_take (i := 0) (v := ?_) rfl (by kernel_rfl) (by kernel_rfl) (by kernel_rfl) (fun _ _ _ h => h) (Or.inl ⟨by rfl, ?_⟩) (by assumption) ?_
      rotate_left
      ·intro w hSw; (try dsimp only at hSw); go_simp; (try with_reducible rfl)
      try simp only [Act.put, List.setIfInBounds_toArray]
      refine wpAnyH_take (i := 1) (v := ?_) rfl (by kernel_rfl) (by kernel_rfl) (by kernel_rfl) (fun _ _ _ h => h) (Or.inl ⟨by rfl, ?_⟩) (by assumption) ?_
      rotate_left
      ·intro w hSw; (try dsimp only at hSw); go_simp; (try with_reducible rfl)
      try simp only [Act.put]
      refine wpAnyH_take (i := 2) (v := ?_) rfl (by kernel_rfl) (by kernel_rfl) (by kernel_rfl) (fun _ _ _ h => h) (Or.inl ⟨by rfl, ?_⟩) (by assumption) ?_
      rotate_left
      ·intro w hSw; (try dsimp only at hSw); go_simp; (try with_reducible rfl)
      try simp only [Act.put]
      refine wpAnyH_take (i := 3) (v := ?_) rfl (by kernel_rfl) (by kernel_rfl) (by kernel_rfl) (fun _ _ _ h => h) (Or.inl ⟨by rfl, ?_⟩) (by assumption) ?_
      rotate_left
      ·intro w hSw; (try dsimp only at hSw); go_simp; (try with_reducible rfl)
      try simp only [Act.put]
      refine wpAnyH_take (i := 4) (v := ?_) rfl (by kernel_rfl) (by kernel_rfl) (by kernel_rfl) (fun _ _ _ h => h) (Or.inl ⟨by rfl, ?_⟩) (by assumption) ?_
      rotate_left
      ·intro w hSw; (try dsimp only at hSw); go_simp; (try with_reducible rfl)
      try simp only [Act.put]
      refine wpAnyH_take (i := 5) (v := ?_) rfl (by kernel_rfl) (by kernel_rfl) (by kernel_rfl) (fun _ _ _ h => h) (Or.inl ⟨by rfl, ?_⟩) (by assumption) ?_
      rotate_left
      ·intro w hSw; (try dsimp only at hSw); go_simp; (try with_reducible rfl)
      try simp only [Act.put]
      refine wpAnyH_take (i := 6) (v := ?_) rfl (by kernel_rfl) (by kernel_rfl) (by kernel_rfl) (fun _ _ _ h => h) (Or.inl ⟨by rfl, ?_⟩) (by assumption) ?_
      rotate_left
      ·intro w hSw; (try dsimp only at hSw); go_simp; (try with_reducible rfl)
      try simp only [Act.put]
      refine wpAnyH_take (i := 7) (v := .int .i64 (k : Int)) rfl (by kernel_rfl) (by kernel_rfl) (by kernel_rfl) (fun _ _ _ h => h) (Or.inl ⟨by rfl, ?_⟩) (by assumption) ?_
      ·intro w hSw
       go_simp
      try simp only [Act.put]
      refine wpAnyH_take (i := 8) (v := ?_) rfl (by kernel_rfl) (by kernel_rfl) (by kernel_rfl) (fun _ _ _ h => h) (Or.inl ⟨by rfl, ?_⟩) (by assumption) ?_
      rotate_left
      ·intro w hSw; (try dsimp only at hSw); go_simp; (try with_reducible rfl)
      try simp only [Act.put]
      refine wpAnyH_take (i := 9) (v := ?_) rfl (by kernel_rfl) (by kernel_rfl) (by kernel_rfl) (fun _ _ _ h => h) (Or.inl ⟨by rfl, ?_⟩) (by assumption) ?_
      rotate_left
      ·intro w hSw; (try dsimp only at hSw); go_simp; (try with_reducible rfl)
      try simp only [Act.put]
      refine wpAnyH_take (i := 10) (v := ?_) rfl (by kernel_rfl) (by kernel_rfl) (by kernel_rfl) (fun _ _ _ h => h) (Or.inl ⟨by rfl, ?_⟩) (by assumption) ?_
      rotate_left
      ·intro w hSw; (try dsimp only at hSw); go_simp; (try with_reducible rfl)
      try simp only [Act.put]
      refine wpAnyH_ready (rs := [11]) (by kernel_rfl) (by simp) ?_
      refine AllReadyH.cons rfl (fun K hK => ?_) AllReadyH.nil
      go_simp
      refine hK.out _ _ ?_ (fun hHeld => ?_)
      ·(try dsimp only); first | (go_keep; done) | ((repeat' apply And.intro) <;> go_simp)
      clear hK K
      try simp only [Act.put, List.setIfInBounds_toArray, List.set_cons_zero, List.set_cons_succ]
      refine wpAnyH_ready (rs := [12]) (by kernel_rfl) (by simp) ?_
      refine AllReadyH.cons rfl (fun K hK => ?_) AllReadyH.nil
      go_simp
      refine hK.out _ _ ?_ (fun hHeld => ?_)
      ·(try dsimp only); first | (go_keep; done) | ((repeat' apply And.intro) <;> go_simp)
      clear hK K
      try simp only [Act.put, List.setIfInBounds_toArray, List.set_cons_zero, List.set_cons_succ]
      refine wpAnyH_done (by kernel_rfl) ?_ _
      clear hHeld
      have hY4 := (HYq.out.set 0 (.int .i64 (v : Int))).set 1 (.int .i64 y)
      have z0 : ((w3.setCell ⟨w.heap.size + 1, 0, none⟩ (.int .i64 (v : Int))).setCell ⟨w.heap.size + 1, 1, none⟩ (.int .i64 y)).drew.cell? ⟨w.heap.size + 1, 0, none⟩ = some (.int .i64 (v : Int)) := hY4.cell (j := 0) rfl
      have z1 : ((w3.setCell ⟨w.heap.size + 1, 0, none⟩ (.int .i64 (v : Int))).setCell ⟨w.heap.size + 1, 1, none⟩ (.int .i64 y)).drew.cell? ⟨w.heap.size + 1, 1, none⟩ = some (.int .i64 y) := hY4.cell (j := 1) rfl
      have HFIN : Hid (Below w.heap.size w ((w3.setCell ⟨w.heap.size + 1, 0, none⟩ (.int .i64 (v : Int))).setCell ⟨w.heap.size + 1, 1, none⟩ (.int .i64 y)).drew) := below_drewN (HFB3.out (v : Int) y) 1
      generalize ((w3.setCell ⟨w.heap.size + 1, 0, none⟩ (.int .i64 (v : Int))).setCell ⟨w.heap.size + 1, 1, none⟩ (.int .i64 y)).drew = w5 at z0 z1 HFIN ⊢
      go_wp2
      refine bodyPost_ret (ret_dart rfl rfl z0 z1) rfl ?_
      rw [HE.out]
      exact ⟨rfl, HFIN.out⟩
     ·have HS2 : Hid (∀ (i : Nat) (h1 : i < X.length), i < j + 1 → X[i] ≠ d1) := fun i h1 h => by
       by_cases e : i = j
       ·subst e; exact he
       ·exact HS.out i h1 (by omega)
      have HLT : Hid (j < X.length) := hlt
      generalize X[j] = x at *
      have hxd : (x == d1) = false := by rw [beq_eq_false_iff_ne]; exact he
      clear HS HHIT HMIS HCL hlt
      go_wp2
      go_quiet (fail)
      have HB3 : Hid (Below w2.heap.size w2 (wr.drewN nq)) := below_drewN HB.out nq
      generalize wr.drewN nq = w5 at HB3 ⊢
      go_wp2
      exact ⟨⟨j + 1, HLT.out, by go_num, HS2.out, HB3.out⟩, by have := HLT.out; simp [intOf]; omega⟩
    ·obtain rfl : j = X.length := by omega
     have HE : Hid _ := HMIS.out (fun hm => by
      obtain ⟨i, hi, e⟩ := List.getElem_of_mem hm
      exact HS.out i hi hi e)
     clear HS HHIT HMIS
     have y0 := hYw.cell (j := 0) rfl
     have y1 := hYw.cell (j := 1) rfl
     have fy0 := hYw.frozen 0
     have fy1 := hYw.frozen 1
     have hY4 := (hYw.set 0 (.int .i64 0)).set 1 (.int .i64 0)
     have hbw := HB2.out.trans (hb.mono HB2.out.size)
     have HFB : Hid (Below w.heap.size w ((wr.setCell ⟨w.heap.size + 1, 0, none⟩ (.int .i64 0)).setCell ⟨w.heap.size + 1, 1, none⟩ (.int .i64 0))) := (hbw.setCell (p := ⟨w.heap.size + 1, 0, none⟩) (by simp) _).setCell (p := ⟨w.heap.size + 1, 1, none⟩) (by simp) _
     have z0 := hY4.cell (j := 0) rfl
     have z1 := hY4.cell (j := 1) rfl
     clear hY4 hYw hXw hbw
     go_wp2
     refine bodyPost_ret (ret_dart rfl rfl z0 z1) rfl ?_
     rw [HE.out]
     exact ⟨rfl, HFB.out⟩
end Go.Proofs.YtjpkojmjiaoifaaGreat
