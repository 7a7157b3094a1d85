import Derived.Test.YtalflecmadacaaaGreatZBA
import Derived.Test.YtalflecmadacaaaGreatZAZ
import Derived.Test.YtalflecmadacaaaGreatZAA
set_option maxRecDepth 100000
set_option maxHeartbeats 8000000
namespace Go.Proofs.YtalflecmadacaaaGreat
open Go Go.Proofs Go.RowKit
theorem sort_ne {r K : List (List Int)} {j : Nat} (h1 : j < r.length) (h2 : j < K.length) (h : sortL r[j] ≠ K[j]) : decide (r.map sortL = K) = false := decide_eq_false fun e => h (by
 have := congrArg (fun L => L[j]?) e
 simp only [List.getElem?_map, List.getElem?_eq_getElem h1, List.getElem?_eq_getElem h2, Option.map_some, Option.some.injEq] at this
 exact this)
theorem sort_eq {r K : List (List Int)} (hl : r.length = K.length) (h : ∀ (i : Nat) (h1 : i < r.length) (h2 : i < K.length), sortL r[i] = K[i]) : decide (r.map sortL = K) = true := decide_eq_true (by
 refine List.ext_getElem (by simpa using hl) fun i h1 h2 => ?_
 rw [List.getElem_map]
 exact h i (by simpa using h1) h2)
theorem eqf_any (r K : List (List Int)) (hK : ∀ x ∈ K, x.length ≤ 4194304) (hKl : K.length ≤ 4194304) (sr sk : Value) (w : World) (hr : Lsts w.heap.size w sr r) (hk : Lsts w.heap.size w sk K) :
  Calls Tryz.prog 119 #[sr, sk, .func (.func 121) #[] #[]] w fun e w' => e = .returned (.bool (decide (r.map sortL = K))) ∧ Below w.heap.size w w' := by
 have hent : ∀ (args : Array Value) (W : World), (callFunc 121 args).run Tryz.prog W = .ok (.enter 121 args) W := fun args W => by kernel_rfl
 obtain ⟨p, c, rfl⟩ := hr.len
 obtain ⟨pk, ck, rfl⟩ := hk.len
 by_cases hlen : r.length = K.length
 ·have hlen' : ((r.length : Int) != (K.length : Int)) = false := by rw [hlen]; simp
  have HLEN : Hid _ := hlen
  have HR0 : Hid (Lsts w.heap.size w (.slice p r.length c) r) := hr
  have HK0 : Hid (Lsts w.heap.size w (.slice pk K.length ck) K) := hk
  have HK : Hid _ := hK
  have hrl : r.length ≤ 4194304 := by omega
  clear hlen hr hk hK
  go_enter Tryz.func119, Tryz.ntmps119
  go_wp2
  go_loopw [17] (fun iv wr => ∃ j : Nat, j ≤ r.length ∧ iv = .int .i64 j ∧ Hid (∀ (i : Nat) (h1 : i < r.length) (h2 : i < K.length), i < j → sortL r[i] = K[i]) ∧ Below w.heap.size w wr) (fun i _ => r.length - (intOf i).toNat)
  case atStart => exact ⟨0, Nat.zero_le _, rfl, fun i _ _ h => by omega, Below.refl _ _⟩
  case round =>
   obtain ⟨j, hj, rfl, HS, hb⟩ := hrel
   by_cases hlt : j < r.length
   ·have hjl : (j : Int) < (r.length : Int) := by omega
    have hlk : j < K.length := by have := HLEN.out; omega
    have hjk : (j : Int) < (K.length : Int) := by omega
    obtain ⟨b, off, rfl, hbb, hcap, px, cx, hIx, c0⟩ := (HR0.out.below hb).cellAt hlt
    obtain ⟨bk, offk, rfl, hbk, hcapk, pk', ck', hIk, k0⟩ := (HK0.out.below hb).cellAt hlk
    have hc := isOrder_any r[j] K[j] (HK.out _ (List.getElem_mem hlk)) _ _ wr (hIx.mono hb.size) (hIk.mono hb.size)
    by_cases he : sortL r[j] = K[j]
    ·rw [decide_eq_true he] at hc
     have HS2 : Hid (∀ (i : Nat) (h1 : i < r.length) (h2 : i < K.length), i < j + 1 → sortL r[i] = K[i]) := fun i h1 h2 h => by
      by_cases e : i = j
      ·subst e; exact he
      ·exact HS.out i h1 h2 (by omega)
     have HLT : Hid (j < r.length) := hlt
     clear he HS hIx hIk
     generalize r[j] = X at c0 hc
     generalize K[j] = Y at k0 hc
     clear hlt hlk
     go_wp2_with fail
     refine hc.mono ?_
     clear hc
     rintro e w2 ⟨rfl, hb2⟩
     have HB2 : Hid _ := hb.trans (hb2.mono hb.size)
     clear hb2
     go_wp2
     exact ⟨⟨j + 1, HLT.out, by go_num, HS2.out, HB2.out⟩, by have := HLT.out; simp [intOf]; omega⟩
    ·rw [decide_eq_false he] at hc
     have HE : Hid _ := sort_ne hlt hlk he
     have HLT : Hid (j < r.length) := hlt
     clear he HS hIx hIk
     generalize r[j] = X at c0 hc
     generalize K[j] = Y at k0 hc
     clear hlt hlk
     go_wp2_with fail
     refine hc.mono ?_
     clear hc
     rintro e w2 ⟨rfl, hb2⟩
     have HB2 : Hid _ := hb.trans (hb2.mono hb.size)
     clear hb2
     go_wp2
     go_ret
     exact ⟨by rw [HE.out]; rfl, HB2.out⟩
   ·obtain rfl : j = r.length := by omega
    have HE : Hid _ := sort_eq HLEN.out fun i h1 h2 => HS.out i h1 h2 h1
    clear HS
    go_wp2
    go_ret
    exact ⟨by rw [HE.out]; rfl, hb⟩
 ·have hlen' : ((r.length : Int) != (K.length : Int)) = true := by
   rw [bne_iff_ne]; omega
  have hE : decide (r.map sortL = K) = false := decide_eq_false fun e => hlen (by rw [← e]; simp)
  rw [hE]
  clear hE hlen
  go_enter Tryz.func119, Tryz.ntmps119
  go_wp2
  go_ret
  exact ⟨rfl, Below.refl _ _⟩
theorem sys_iff {N : Nat} {l : List Ed} {r : List (List Int)} (hR : RightG (N : Int) l) : r.map sortL = nearL N l ↔ SysR N l r := by
 constructor
 ·intro h
  have hl : r.length = N := by have := congrArg List.length h; rw [nearL_len] at this; simpa using this
  refine ⟨hl, fun v hv => ?_⟩
  have h1 := congrArg (fun L => L[v]?) h
  simp only [List.getElem?_map, nearL_at hv, List.getElem?_eq_getElem (show v < r.length by omega), Option.map_some, Option.some.injEq] at h1
  rw [List.getD_eq_getElem?_getD, List.getElem?_eq_getElem (show v < r.length by omega)]
  exact (sortL_iff (nb_rise hR _)).1 h1
 ·intro h
  refine List.ext_getElem (by rw [nearL_len]; simpa using h.len) fun i h1 h2 => ?_
  rw [nearL_len] at h2
  have h3 := h.perm i h2
  have h4 : i < r.length := by rw [h.len]; exact h2
  rw [List.getD_eq_getElem?_getD, List.getElem?_eq_getElem h4] at h3
  have h5 := nearL_at (l := l) h2
  rw [List.getElem?_eq_getElem (by rw [nearL_len]; exact h2), Option.some.injEq] at h5
  rw [List.getElem_map, h5]
  exact (sortL_iff (nb_rise hR _)).2 h3
def sysK (n : Int) (l : List Ed) (r : List (List Int)) : Int := if rightK n l = 0 then (if r.map sortL = nearL n.toNat l then 0 else 12) else 1
theorem sysK_ok {N : Nat} {l : List Ed} {r : List (List Int)} (hR : RightG (N : Int) l) (hS : SysR N l r) : sysK (N : Int) l r = 0 := by
 unfold sysK
 rw [if_pos (right_iff.2 hR)]
 exact if_pos ((sys_iff hR).2 hS)
theorem sysK_not {N : Nat} {l : List Ed} {r : List (List Int)} (hR : RightG (N : Int) l) (hS : ¬ SysR N l r) : sysK (N : Int) l r = 12 := by
 unfold sysK
 rw [if_pos (right_iff.2 hR)]
 exact if_neg fun h => hS ((sys_iff hR).1 h)
theorem sysRight_any (n : Int) (l : List Ed) (r : List (List Int)) (sv rv : Value) (w : World) (hl : Edges w.heap.size w sv l) (hr : Lsts w.heap.size w rv r) :
  Calls Tryz.prog 102 #[.agg #[.int .i64 n, sv], rv] w fun e w' => e = .returned (.int .i64 (sysK n l r)) ∧ Below w.heap.size w w' := by
 have hgA : Grew w (w.alloc (.cells #[.int .i64 n, sv] 24)) := (Grew.refl w).alloc _
 have hX : Blk 24 (w.alloc (.cells #[.int .i64 n, sv] 24)) w.heap.size [.int .i64 n, sv] := heap_alloc_new w _
 have q0 := hX.cell (j := 0) rfl
 have q1 := hX.cell (j := 1) rfl
 have hrc := right_any n l sv _ (hl.go hgA.below)
 have HX : Hid (Blk 24 (w.alloc (.cells #[.int .i64 n, sv] 24)) w.heap.size [.int .i64 n, sv]) := hX
 have HL : Hid (Edges w.heap.size w sv l) := hl
 have HR0 : Hid (Lsts w.heap.size w rv r) := hr
 have HBA : Hid _ := hgA.below
 clear hX hl hr hgA
 go_enter Tryz.func102, Tryz.ntmps102
 go_wp2_with fail
 generalize w.alloc (.cells #[.int .i64 n, sv] 24) = w1 at *
 refine hrc.mono ?_
 clear hrc
 rintro e w2 ⟨rfl, hg2⟩
 have hX2 := HX.out.go hg2.below
 have y0 := hX2.cell (j := 0) rfl
 have y1 := hX2.cell (j := 1) rfl
 have HB2 : Hid (Below w.heap.size w w2) := HBA.out.trans (hg2.below.mono HBA.out.size)
 by_cases hk : rightK n l = 0
 ·have hR := right_iff.1 hk
  obtain ⟨N, rfl⟩ : ∃ N : Nat, n = (N : Int) := ⟨n.toNat, by have := hR.n0; omega⟩
  have hne := near_any N l hR sv w2 (HL.out.go HB2.out)
  have hn1 := hR.n1
  have hm1 := hR.m1
  rw [hk]
  have HR : Hid _ := hR
  clear hk hX2 hR q0 q1
  go_wp2_with fail
  refine hne.mono ?_
  clear hne
  rintro e w3 ⟨nv, rfl, hN3, hb3⟩
  have HB3 : Hid (Below w.heap.size w w3) := HB2.out.trans (hb3.mono HB2.out.size)
  have heq := eqf_any r (nearL N l) (fun x hx => by
   obtain ⟨v, hv, rfl⟩ := List.mem_map.1 hx
   exact Nat.le_trans (nb_len _ _) hm1) (by rw [nearL_len]; omega) rv nv w3 (HR0.out.go HB3.out) hN3
  clear y0 y1 hb3 hN3
  by_cases hS : SysR N l r
  ·rw [decide_eq_true ((sys_iff HR.out).2 hS)] at heq
   have HE : Hid _ := sysK_ok HR.out hS
   clear hS
   go_wp2_with fail
   refine heq.mono ?_
   clear heq
   rintro e w4 ⟨rfl, hb4⟩
   go_wp2
   go_ret
   exact ⟨by rw [HE.out]; rfl, HB3.out.trans (hb4.mono HB3.out.size)⟩
  ·rw [decide_eq_false fun e => hS ((sys_iff HR.out).1 e)] at heq
   have HE : Hid (sysK (N : Int) l r = 12) := sysK_not HR.out hS
   clear hS
   go_wp2_with fail
   refine heq.mono ?_
   clear heq
   rintro e w4 ⟨rfl, hb4⟩
   go_wp2
   go_ret
   exact ⟨by rw [HE.out]; rfl, HB3.out.trans (hb4.mono HB3.out.size)⟩
 ·have HE : Hid (sysK n l r = 1) := if_neg hk
  generalize rightK n l = k at *
  go_wp2
  go_ret
  exact ⟨by rw [HE.out]; rfl, HB2.out⟩
def facesL (N : Nat) (l : List Ed) (r : List (List Int)) : List (List Dt) := (roundsAt (nxD r) (2 * l.length + 1) (dartsL N l) (dartsL N l).length).1
theorem GrpD.base {h0 h1 : Nat} {lv : Value} {svs : List Value} {pre : List (List Dt)} {W : World} (h : GrpD h0 lv svs pre W) (hh : h1 ≤ h0) : GrpD h1 lv svs pre W :=
 ⟨h.len, owns_base h.own hh, fun k sv xs h1 h2 => owns_base (h.inn k sv xs h1 h2) hh, h.apart, h.outer⟩
theorem faces_any (N : Nat) (l : List Ed) (hR : RightG (N : Int) l) (r : List (List Int)) (hS : SysR N l r) (sv rv : Value) (w : World) (hl : Edges w.heap.size w sv l) (hr : Lsts w.heap.size w rv r) :
  Calls Tryz.prog 81 #[.agg #[.int .i64 (N : Int), sv], rv] w fun e w' => ∃ lv svs, e = .returned (.tuple #[lv, .int .i64 0]) ∧ GrpD w.heap.size lv svs (facesL N l r) w' ∧ Below w.heap.size w w' := by
 have hbA : Below w.heap.size w (w.alloc (.cells #[.int .i64 (N : Int), sv] 24)) := (Below.refl _ _).alloc (Nat.le_refl _) _
 have hX : Blk 24 (w.alloc (.cells #[.int .i64 (N : Int), sv] 24)) w.heap.size [.int .i64 (N : Int), sv] := heap_alloc_new w _
 have q0 := hX.cell (j := 0) rfl
 have q1 := hX.cell (j := 1) rfl
 have hrc := sysRight_any (N : Int) l r sv rv _ (hl.go hbA) (hr.go hbA)
 rw [sysK_ok hR hS] at hrc
 have hent : ∀ (args : Array Value) (W : World), (callFunc 106 args).run Tryz.prog W = .ok (.enter 106 args) W := fun args W => by kernel_rfl
 have hgr := fun W h1 h2 fb (hfb : fb < W.heap.size) h3 => goRounds_any N l hR r hS 106 #[.pointer (some ⟨fb, 0, none⟩)] hent (fun fs bs W' => ∃ lv svs, IF W W.heap.size fb fs bs W' lv svs) sv rv W h1 h2 h3 (fun fs bs A B ⟨lv, svs, h⟩ hSt => ⟨lv, svs, h.still hfb hSt⟩) (faces1_tells W W.heap.size fb hfb _)
 have HX : Hid (Blk 24 (w.alloc (.cells #[.int .i64 (N : Int), sv] 24)) w.heap.size [.int .i64 (N : Int), sv]) := hX
 have HL : Hid (Edges w.heap.size w sv l) := hl
 have HR0 : Hid (Lsts w.heap.size w rv r) := hr
 have HBA : Hid _ := hbA
 clear hX hl hr hbA hR hS
 have HGR : Hid _ := hgr
 clear hgr
 go_enter Tryz.func81, Tryz.ntmps81
 go_wp2_with fail
 generalize w.alloc (.cells #[.int .i64 (N : Int), sv] 24) = w1 at *
 refine hrc.mono ?_
 clear hrc
 rintro e w2 ⟨rfl, hb2⟩
 have hX2 := HX.out.go hb2
 have hB2 : Below w.heap.size w w2 := HBA.out.trans (hb2.mono HBA.out.size)
 have hbB : Below w2.heap.size w2 (w2.alloc (.cells #[.slice none 0 0] 75)) := (Below.refl _ _).alloc (Nat.le_refl _) _
 have hV : Blk 75 (w2.alloc (.cells #[.slice none 0 0] 75)) w2.heap.size [.slice none 0 0] := heap_alloc_new w2 _
 have hX3 := hX2.go hbB
 have y0 := hX3.cell (j := 0) rfl
 have y1 := hX3.cell (j := 1) rfl
 have hB3 := hB2.trans (hbB.mono hB2.size)
 have hs3 : (w2.alloc (.cells #[.slice none 0 0] 75)).heap.size = w2.heap.size + 1 := by simp
 have hg := HGR.out (w2.alloc (.cells #[.slice none 0 0] 75)) (HL.out.go hB3) (HR0.out.go hB3) w2.heap.size (by omega) ⟨_, _, GrpD.start _ _, hV, fun q hq => by simp [Value.ownBlock] at hq, fun sv hs => by simp at hs, rfl, rfl, rfl, Nat.le_refl _, fun q _ _ => rfl, Nat.le_refl _⟩
 have HB2 : Hid (Below w.heap.size w w2) := hB2
 have HB3 : Hid (Below w.heap.size w (w2.alloc (.cells #[.slice none 0 0] 75))) := hB3
 have HS3 : Hid _ := hs3
 clear hX2 hX3 hV hB2 hbB hB3 hb2 HGR HX q0 q1 hs3
 go_wp2_with fail
 refine hg.mono ?_
 clear hg
 rintro e w4 ⟨rfl, bs, lv, svs, hIF⟩
 have z0 := hIF.var.cell (j := 0) rfl
 obtain ⟨pl, cl, rfl⟩ := owns_formP hIF.grp.own
 have HF : Hid (∃ lv svs', Value.slice pl svs.length cl = lv ∧ GrpD w.heap.size lv svs' (facesL N l r) w4 ∧ Below w.heap.size w w4) := by
  have hs := HS3.out
  have h2 := HB2.out.size
  refine ⟨_, svs, rfl, hIF.grp.base (by omega), ?_⟩
  have h3 := HB3.out
  exact ⟨hIF.os.trans h3.os, hIF.tape.trans h3.tape, hIF.output.trans h3.output, by have := hIF.size; omega, fun q hq => (hIF.low q (by omega) (by omega)).trans (h3.block q hq)⟩
 clear hIF y0 y1
 go_wp2
 refine bodyPost_ret (results_tmp2 rfl _ _ _) rfl ?_
 obtain ⟨lv, svs', e, h1, h2⟩ := HF.out
 exact ⟨lv, svs', by rw [← e]; rfl, h1, h2⟩
def bumpL (L : List Int) (k : Nat) (x : Int) : List Int := L.set k (L.getD k 0 + x)
theorem bumpL_len (L : List Int) (k : Nat) (x : Int) : (bumpL L k x).length = L.length := by simp [bumpL]
theorem bumpL_at (L : List Int) (k : Nat) (x : Int) (i : Nat) : (bumpL L k x).getD i 0 = if k = i ∧ k < L.length then L.getD k 0 + x else L.getD i 0 := by unfold bumpL; rw [set_getD]
def ofRow (O : List Int) (xs : List Int) (i : Int) : List Int := xs.foldl (fun O v => O.set v.toNat i) O
def ofC (N : Nat) (C : List (List Int)) : Nat → List Int
 | 0 => List.replicate N 0
 | j + 1 => ofRow (ofC N C j) (C.getD j []) (j : Int)
theorem ofRow_len (i : Int) : ∀ (xs : List Int) (O : List Int), (ofRow O xs i).length = O.length
 | [], _ => rfl
 | x :: xs, O => by
  have := ofRow_len i xs (O.set x.toNat i)
  unfold ofRow at *
  rw [List.foldl_cons, this]
  simp
theorem ofC_len (N : Nat) (C : List (List Int)) : ∀ j, (ofC N C j).length = N
 | 0 => by simp [ofC]
 | j + 1 => by rw [ofC, ofRow_len]; exact ofC_len N C j
def hd0 (r : List (List Int)) (xs : List Int) : Int := if (r.getD (xs.getD 0 0).toNat []).length = 0 then 1 else 0
def liC (C r : List (List Int)) (j : Nat) : List Int := (List.range C.length).map fun i => if i < j then ((C.getD i []).length : Int) + hd0 r (C.getD i []) else 0
def liE (O L : List Int) (es : List Ed) : List Int := es.foldl (fun L e => bumpL L (O.getD e.1.toNat 0).toNat (-1)) L
def liF (O L : List Int) (fs : List (List Dt)) : List Int := fs.foldl (fun L f => bumpL L (O.getD (f.getD 0 (0, 0)).1.toNat 0).toNat 1) L
def numsM (N : Nat) (l : List Ed) (r C : List (List Int)) (fs : List (List Dt)) : List Int := liF (ofC N C C.length) (liE (ofC N C C.length) (liC C r C.length) l) fs
theorem liE_len (O : List Int) : ∀ (es : List Ed) (L : List Int), (liE O L es).length = L.length
 | [], _ => rfl
 | e :: es, L => by
  have := liE_len O es (bumpL L (O.getD e.1.toNat 0).toNat (-1))
  unfold liE at *
  rw [List.foldl_cons, this, bumpL_len]
theorem liF_len (O : List Int) : ∀ (fs : List (List Dt)) (L : List Int), (liF O L fs).length = L.length
 | [], _ => rfl
 | f :: fs, L => by
  have := liF_len O fs (bumpL L (O.getD (f.getD 0 (0, 0)).1.toNat 0).toNat 1)
  unfold liF at *
  rw [List.foldl_cons, this, bumpL_len]
theorem liF_snoc (O L : List Int) (fs : List (List Dt)) (f : List Dt) : liF O L (fs ++ [f]) = bumpL (liF O L fs) (O.getD (f.getD 0 (0, 0)).1.toNat 0).toNat 1 := by
 unfold liF
 rw [List.foldl_append]
 rfl
def Betw (a b : Int) (L : List Int) : Prop := ∀ i, a ≤ L.getD i 0 ∧ L.getD i 0 ≤ b
theorem Betw.bump {a b : Int} {L : List Int} (h : Betw a b L) (k : Nat) {x : Int} (hx : -1 ≤ x ∧ x ≤ 1) : Betw (a - 1) (b + 1) (bumpL L k x) := by
 intro i
 have h1 := h i
 have h2 := h k
 rw [bumpL_at]
 split <;> omega
structure IN (w0 : World) (h0 lb : Nat) (O L : List Int) (fs : List (List Dt)) (bs : List Nat) (W : World) : Prop where
 none : bs = []
 lst : Blk 3 W lb ((liF O L fs).map (Value.int .i64))
 os : W.os = w0.os
 tape : W.tape = w0.tape
 output : W.output = w0.output
 size : h0 ≤ W.heap.size
 low : ∀ q, q < h0 → q ≠ lb → W.heap[q]? = w0.heap[q]?
 btw : Betw (-8388608) (8388608 + ((fs.map List.length).sum : Nat)) (liF O L fs)
theorem IN.still {w0 : World} {h0 lb : Nat} {O L : List Int} (hlb : lb < h0) {fs : List (List Dt)} {bs : List Nat} {A B : World} (h : IN w0 h0 lb O L fs bs A) (hS : StillR h0 bs A B) : IN w0 h0 lb O L fs bs B :=
 ⟨h.none, (hS.block lb h.lst.lt (.inl hlb)).trans h.lst, hS.os.trans h.os, hS.tape.trans h.tape, hS.output.trans h.output, Nat.le_trans h.size hS.size, fun q hq hne => (hS.block q (Nat.lt_of_lt_of_le hq h.size) (.inl hq)).trans (h.low q hq hne), h.btw⟩
theorem numbers1_tells (w0 : World) (h0 lb ob lvb ovb n N : Nat) (O L : List Int) (hL : L.length = n) (hOl : O.length = N) (hO : ∀ v, v < N → ∃ k : Nat, O.getD v 0 = (k : Int) ∧ k < n) (hlb : lb < h0) (hob : ob < h0) (hlv : lvb < h0) (hov : ovb < h0) (hn1 : ob ≠ lb) (hn2 : lvb ≠ lb) (hn3 : ovb ≠ lb)
  (v1 : Blk 27 w0 lvb [.slice (some ⟨lb, 0, none⟩) n n]) (v2 : Blk 27 w0 ovb [.slice (some ⟨ob, 0, none⟩) N N]) (v3 : Blk 3 w0 ob (O.map (Value.int .i64))) (S : List Dt) (hS : ∀ d ∈ S, ∃ u : Nat, d.1 = (u : Int) ∧ u < N) :
  Tells h0 123 #[.pointer (some ⟨lvb, 0, none⟩), .pointer (some ⟨ovb, 0, none⟩)] S (IN w0 h0 lb O L) := by
 intro fs bs face fv W hI hbs hsz hne hfS hsum hfo hap
 have hfp := List.length_pos_iff.2 hne
 obtain ⟨u, hu, huN⟩ := hS face[0] (hfS _ (List.getElem_mem hfp))
 obtain ⟨k, hk, hkn⟩ := hO u huN
 have hg0 : face.getD 0 (0, 0) = face[0] := by rw [List.getD_eq_getElem?_getD, List.getElem?_eq_getElem hfp]; rfl
 have hLn : (liF O L fs).length = n := by rw [liF_len, hL]
 obtain ⟨pf, cf, rfl⟩ := owns_formP hfo
 obtain ⟨b, off, rfl, hbb, hcap, a0, a1⟩ := (Drts.of_owns hfo).cellAt hfp
 rw [hu, Nat.zero_mul, Nat.add_zero] at a0
 have V1 : Blk 27 W lvb [.slice (some ⟨lb, 0, none⟩) n n] := (hI.low lvb hlv hn2).trans v1
 have V2 : Blk 27 W ovb [.slice (some ⟨ob, 0, none⟩) N N] := (hI.low ovb hov hn3).trans v2
 have V3 : Blk 3 W ob (O.map (Value.int .i64)) := (hI.low ob hob hn1).trans v3
 have c1 := V1.cell (j := 0) rfl
 have c2 := V2.cell (j := 0) rfl
 have c3 : W.cell? ⟨ob, u, none⟩ = some (.int .i64 (k : Int)) := V3.cell (by
  rw [List.getElem?_map, List.getElem?_eq_getElem (by omega)]
  rw [List.getD_eq_getElem?_getD, List.getElem?_eq_getElem (by omega)] at hk
  simpa using hk)
 have c4 : W.cell? ⟨lb, k, none⟩ = some (.int .i64 ((liF O L fs).getD k 0)) := hI.lst.cell (by
  rw [List.getElem?_map, List.getElem?_eq_getElem (by omega), List.getD_eq_getElem?_getD, List.getElem?_eq_getElem (by omega)]
  rfl)
 have f4 := hI.lst.frozen k
 have hbt := hI.btw k
 have hB5 := hI.lst.set k (.int .i64 ((liF O L fs).getD k 0 + 1))
 have e5 : (bumpL (liF O L fs) k 1).map (Value.int .i64) = ((liF O L fs).map (Value.int .i64)).set k (.int .i64 ((liF O L fs).getD k 0 + 1)) := by unfold bumpL; rw [List.map_set]
 have HFIN : Hid (∀ q, IN w0 h0 lb O L (fs ++ [face]) [] ((W.drewN q).setCell ⟨lb, k, none⟩ (.int .i64 ((liF O L fs).getD k 0 + 1))) ∧ ToldR h0 bs [] W ((W.drewN q).setCell ⟨lb, k, none⟩ (.int .i64 ((liF O L fs).getD k 0 + 1)))) := fun q => by
  have hset : ∀ p, p ≠ lb → ((W.drewN q).setCell ⟨lb, k, none⟩ (.int .i64 ((liF O L fs).getD k 0 + 1))).heap[p]? = W.heap[p]? := fun p hp => Below.heap_setCell _ _ _ _ (by simpa using hp)
  refine ⟨⟨rfl, ?_, hI.os, hI.tape, hI.output, by simp; exact hI.size, fun p hp hne => (hset p hne).trans (hI.low p hp hne), ?_⟩, by simp, fun p h1 h2 h3 => hset p (by omega), fun p hp => by simp at hp, fun p hp => by simp at hp⟩
  ·rw [liF_snoc, hg0, hu, Int.toNat_natCast, hk, Int.toNat_natCast, e5]
   exact hB5
  ·rw [liF_snoc]
   intro i
   have := (hI.btw.bump (O.getD (face.getD 0 (0, 0)).1.toNat 0).toNat (x := 1) (by omega)) i
   have h2 := hI.btw
   rw [List.map_append, List.sum_append]
   simp only [List.map_cons, List.map_nil, List.sum_cons, List.sum_nil, Nat.add_zero]
   have h3 := hI.btw i
   rw [bumpL_at] at *
   split
   ·have := hI.btw (O.getD (face.getD 0 (0, 0)).1.toNat 0).toNat
    omega
   ·omega
 have huN' : (u : Int) < (N : Int) := by omega
 have hkn' : (k : Int) < (n : Int) := by omega
 have hfp' : (0 : Int) < (face.length : Int) := by omega
 have hlo : -9000000 ≤ (liF O L fs).getD k 0 := by omega
 have hhi : (liF O L fs).getD k 0 ≤ 20000000 := by omega
 generalize (liF O L fs).getD k 0 = y at *
 show Calls Tryz.prog 123 #[.slice (some ⟨b, off, none⟩) face.length cf, .pointer (some ⟨lvb, 0, none⟩), .pointer (some ⟨ovb, 0, none⟩)] W _
 clear hI hbs hfo hap hfS hbt hB5 e5 v1 v2 v3 V1 V2 V3 hS hO hu hk hg0 hLn hL hOl hsum
 go_enter Tryz.func123, Tryz.ntmps123
 go_wp2
 refine wp_region_last (S := (fun w' : World => w'.cell? ⟨lvb, 0, none⟩ = some (.slice (some ⟨lb, 0, none⟩) n n) ∧ w'.cell? ⟨ovb, 0, none⟩ = some (.slice (some ⟨ob, 0, none⟩) N N) ∧ w'.cell? ⟨b, off, none⟩ = some (.int .i64 (u : Int)) ∧ w'.cell? ⟨ob, u, none⟩ = some (.int .i64 (k : Int)) ∧ w'.cell? ⟨lb, k, none⟩ = some (.int .i64 y))) (by kernel_rfl) ?_ (fun hHeld => ?_)
 ·(try dsimp only); go_keep
 refine tkL 0 ?_ rfl (by kernel_rfl) rfl (.inl ⟨by rfl, ?_⟩) (by assumption) ?_
 rotate_left
 ·intro w h; (try dsimp only at h); go_simp; (try rfl)
 try simp only [Act.put, z4]
 refine tkL 1 ?_ rfl (by kernel_rfl) rfl (.inl ⟨by rfl, ?_⟩) (by assumption) ?_
 rotate_left
 ·intro w h; (try dsimp only at h); go_simp; (try rfl)
 try simp only [Act.put]
 refine tkL 2 ?_ rfl (by kernel_rfl) rfl (.inl ⟨by rfl, ?_⟩) (by assumption) ?_
 rotate_left
 ·intro w h; (try dsimp only at h); go_simp; (try rfl)
 try simp only [Act.put]
 refine tkL 3 ?_ rfl (by kernel_rfl) rfl (.inl ⟨by rfl, ?_⟩) (by assumption) ?_
 rotate_left
 ·intro w h; (try dsimp only at h); go_simp; (try rfl)
 try simp only [Act.put]
 refine tkL 4 ?_ rfl (by kernel_rfl) rfl (.inl ⟨by rfl, ?_⟩) (by assumption) ?_
 rotate_left
 ·intro w h; (try dsimp only at h); go_simp; (try rfl)
 try simp only [Act.put]
 refine tkL 5 ?_ rfl (by kernel_rfl) rfl (.inl ⟨by rfl, ?_⟩) (by assumption) ?_
 rotate_left
 ·intro w h; (try dsimp only at h); go_simp; (try rfl)
 try simp only [Act.put]
 refine tkL 6 ?_ rfl (by kernel_rfl) rfl (.inl ⟨by rfl, ?_⟩) (by assumption) ?_
 rotate_left
 ·intro w h; (try dsimp only at h); go_simp; (try rfl)
 try simp only [Act.put]
 refine tkL 7 ?_ rfl (by kernel_rfl) rfl (.inl ⟨by rfl, ?_⟩) (by assumption) ?_
 rotate_left
 ·intro w h; (try dsimp only at h); go_simp; (try rfl)
 try simp only [Act.put]
 refine tkL 8 ?_ rfl (by kernel_rfl) rfl (.inl ⟨by rfl, ?_⟩) (by assumption) ?_
 rotate_left
 ·intro w h; (try dsimp only at h); go_simp; (try rfl)
 try simp only [Act.put]
 refine tkL 9 ?_ rfl (by kernel_rfl) rfl (.inl ⟨by rfl, ?_⟩) (by assumption) ?_
 rotate_left
 ·intro w h; (try dsimp only at h); go_simp; (try rfl)
 try simp only [Act.put]
 refine tkL 10 ?_ rfl (by kernel_rfl) rfl (.inl ⟨by rfl, ?_⟩) (by assumption) ?_
 rotate_left
 ·intro w h; (try dsimp only at h); go_simp; (try rfl)
 try simp only [Act.put]
 refine tkL 11 ?_ rfl (by kernel_rfl) rfl (.inl ⟨by rfl, ?_⟩) (by assumption) ?_
 rotate_left
 ·intro w h; (try dsimp only at h); go_simp; (try rfl)
 try simp only [Act.put]
 refine wpAnyL_ready (rs := [12]) (by kernel_rfl) (by simp) ?_
 refine AllReadyL.last rfl (by kernel_rfl) (fun K hK => ?_)
 go_simp
 refine hK.out _ _ ?_
 clear hK K
 try simp only [Act.put, z4, z5, z6]
 refine wpAnyL_done (by kernel_rfl) ?_ _
 go_wp2
 refine bodyPost_end (results_none rfl _ _ _) rfl ?_
 rw [show IntKind.i64.wrap (y + 1) = y + 1 from wrap_i _ (by omega) (by omega)]
 exact ⟨rfl, [], HFIN.out 1⟩
structure CompsOK (N : Nat) (C : List (List Int)) : Prop where
 few : C.length ≤ N
 pos : 0 < N → 0 < C.length
 ne : ∀ x ∈ C, x ≠ []
 len : ∀ x ∈ C, x.length ≤ N
 mem : ∀ x ∈ C, ∀ v ∈ x, ∃ u : Nat, v = (u : Int) ∧ u < N
structure NW (w2 : World) (lb lvb ob ovb n N : Nat) (O L : List Int) (W : World) : Prop where
 lst : Blk 3 W lb (L.map (Value.int .i64))
 lv : Blk 27 W lvb [.slice (some ⟨lb, 0, none⟩) n n]
 ofs : Blk 3 W ob (O.map (Value.int .i64))
 ov : Blk 27 W ovb [.slice (some ⟨ob, 0, none⟩) N N]
 below : Below lb w2 W
 len : L.length = n
 olen : O.length = N
 o1 : lb < lvb
 o2 : lvb < ob
 o3 : ob < ovb
section
variable {w2 : World} {lb lvb ob ovb n N : Nat} {O L : List Int} {W : World}
theorem NW.setL (h : NW w2 lb lvb ob ovb n N O L W) (k : Nat) (x : Int) : NW w2 lb lvb ob ovb n N O (L.set k x) (W.setCell ⟨lb, k, none⟩ (.int .i64 x)) := by
 have h1 := h.o1
 have h2 := h.o2
 have h3 := h.o3
 exact ⟨by rw [List.map_set]; exact h.lst.set k _, h.lv.other (by simp; omega) _, h.ofs.other (by simp; omega) _, h.ov.other (by simp; omega) _, h.below.setCell (p := ⟨lb, k, none⟩) (Nat.le_refl _) _, by simpa using h.len, h.olen, h1, h2, h3⟩
theorem NW.setO (h : NW w2 lb lvb ob ovb n N O L W) (k : Nat) (x : Int) : NW w2 lb lvb ob ovb n N (O.set k x) L (W.setCell ⟨ob, k, none⟩ (.int .i64 x)) := by
 have h1 := h.o1
 have h2 := h.o2
 have h3 := h.o3
 exact ⟨h.lst.other (by simp; omega) _, h.lv.other (by simp; omega) _, by rw [List.map_set]; exact h.ofs.set k _, h.ov.other (by simp; omega) _, h.below.setCell (p := ⟨ob, k, none⟩) (by simp; omega) _, h.len, by simpa using h.olen, h1, h2, h3⟩
theorem NW.go {B : World} (h : NW w2 lb lvb ob ovb n N O L W) (hb : Below W.heap.size W B) : NW w2 lb lvb ob ovb n N O L B :=
 ⟨h.lst.go hb, h.lv.go hb, h.ofs.go hb, h.ov.go hb, h.below.trans (hb.mono (by have := h.lst.lt; omega)), h.len, h.olen, h.o1, h.o2, h.o3⟩
theorem NW.cellL (h : NW w2 lb lvb ob ovb n N O L W) {k : Nat} (hk : k < n) : W.cell? ⟨lb, k, none⟩ = some (.int .i64 (L.getD k 0)) := h.lst.cell (by
 have := h.len
 rw [List.getElem?_map, List.getElem?_eq_getElem (by omega), List.getD_eq_getElem?_getD, List.getElem?_eq_getElem (by omega)]
 rfl)
theorem NW.cellO (h : NW w2 lb lvb ob ovb n N O L W) {k : Nat} (hk : k < N) : W.cell? ⟨ob, k, none⟩ = some (.int .i64 (O.getD k 0)) := h.ofs.cell (by
 have := h.olen
 rw [List.getElem?_map, List.getElem?_eq_getElem (by omega), List.getD_eq_getElem?_getD, List.getElem?_eq_getElem (by omega)]
 rfl)
end
theorem liC_len (C r : List (List Int)) (j : Nat) : (liC C r j).length = C.length := by simp [liC]
theorem liC_at {C r : List (List Int)} {j i : Nat} (hi : i < C.length) : (liC C r j).getD i 0 = if i < j then ((C.getD i []).length : Int) + hd0 r (C.getD i []) else 0 := by
 unfold liC
 rw [List.getD_eq_getElem?_getD, List.getElem?_map, List.getElem?_eq_getElem (by simpa using hi)]
 simp
theorem liC_zero (C r : List (List Int)) : liC C r 0 = List.replicate C.length 0 := by
 unfold liC
 refine List.ext_getElem (by simp) fun i h1 h2 => ?_
 simp
theorem liC_step {C r : List (List Int)} {j : Nat} : liC C r (j + 1) = (liC C r j).set j (((C.getD j []).length : Int) + hd0 r (C.getD j [])) := by
 unfold liC
 refine List.ext_getElem (by simp) fun i h1 h2 => ?_
 rw [List.getElem_set]
 simp only [List.getElem_map, List.getElem_range]
 by_cases h : j = i
 ·subst h
  simp
 ·rw [if_neg h]
  by_cases h3 : i < j
  ·rw [if_pos h3, if_pos (by omega)]
  ·rw [if_neg h3, if_neg (by omega)]
theorem liC_betw {N : Nat} {C r : List (List Int)} (hC : CompsOK N C) (j : Nat) : Betw 0 (N + 1) (liC C r j) := by
 intro i
 by_cases hi : i < C.length
 ·rw [liC_at hi]
  split
  ·have h1 : C.getD i [] ∈ C := by rw [List.getD_eq_getElem?_getD, List.getElem?_eq_getElem hi]; exact List.getElem_mem hi
   have h2 := hC.len _ h1
   unfold hd0
   split <;> omega
  ·omega
 ·rw [List.getD_eq_getElem?_getD, List.getElem?_eq_none (by rw [liC_len]; omega)]
  simp
  omega
theorem ofRow_take {O xs : List Int} {i : Int} {k : Nat} (hk : k < xs.length) : ofRow O (xs.take (k + 1)) i = (ofRow O (xs.take k) i).set (xs[k]).toNat i := by
 unfold ofRow
 rw [List.take_add_one, List.foldl_append, List.getElem?_eq_getElem hk]
 rfl
theorem ofRow_ok {n N : Nat} {i : Nat} (hi : i < n) : ∀ (xs : List Int) (O : List Int), (∀ v, v < N → ∃ k : Nat, O.getD v 0 = (k : Int) ∧ k < n) → ∀ v, v < N → ∃ k : Nat, (ofRow O xs (i : Int)).getD v 0 = (k : Int) ∧ k < n
 | [], _, h => h
 | x :: xs, O, h => by
  have := ofRow_ok (N := N) hi xs (O.set x.toNat (i : Int)) (fun v hv => by
   rw [set_getD]
   split
   ·exact ⟨i, rfl, hi⟩
   ·exact h v hv)
  unfold ofRow at *
  rw [List.foldl_cons]
  exact this
theorem ofC_ok {N : Nat} {C : List (List Int)} (hC : CompsOK N C) : ∀ j, j ≤ C.length → ∀ v, v < N → ∃ k : Nat, (ofC N C j).getD v 0 = (k : Int) ∧ k < C.length
 | 0, _ => fun v hv => ⟨0, by simp [ofC, List.getD_eq_getElem?_getD, hv], hC.pos (by omega)⟩
 | j + 1, hj => ofRow_ok (by omega) _ _ (ofC_ok hC j (by omega))
theorem liE_take {O L : List Int} {es : List Ed} {k : Nat} (hk : k < es.length) : liE O L (es.take (k + 1)) = bumpL (liE O L (es.take k)) (O.getD (es[k]).1.toNat 0).toNat (-1) := by
 unfold liE
 rw [List.take_add_one, List.foldl_append, List.getElem?_eq_getElem hk]
 rfl
theorem liE_betw {O L : List Int} {a b : Int} (h : Betw a b L) : ∀ es : List Ed, Betw (a - es.length) b (liE O L es) := by
 intro es
 induction es generalizing L a with
 | nil => simpa [liE] using h
 | cons e es ih =>
  have h1 : Betw (a - 1) b (bumpL L (O.getD e.1.toNat 0).toNat (-1)) := fun i => by
   have h1 := h i
   have h2 := h (O.getD e.1.toNat 0).toNat
   rw [bumpL_at]
   split <;> omega
  have h2 := ih h1
  intro i
  have h3 := h2 i
  have e1 : liE O L (e :: es) = liE O (bumpL L (O.getD e.1.toNat 0).toNat (-1)) es := rfl
  rw [e1]
  simp only [List.length_cons]
  omega
end Go.Proofs.YtalflecmadacaaaGreat
