import Derived.Test.YtalflecmadacaaaGreatZAK
import Derived.OwnWalk
import Derived.Test.YtalflecmadacaaaGreatShelfS
import Derived.Test.YtalflecmadacaaaGreatZAQ
import Derived.Test.YtalflecmadacaaaGreatZAB
set_option maxRecDepth 100000
set_option maxHeartbeats 8000000
namespace Go.Proofs.YtalflecmadacaaaGreat
open Go Go.Proofs Go.RowKit
def unE (e : Ed) : Eg := (e.1.toNat, e.2.1.toNat, e.2.2.toNat)
theorem unE_edE (L : List Eg) : (L.map edE).map unE = L := by
 rw [List.map_map]
 have : (unE ∘ edE) = id := by funext e; simp [unE, edE]
 rw [this, List.map_id]
def oddK (n : Int) (l : List Ed) (B : List Int) : List Int := if rgtW n l = 0 ∧ plcB l.length B = true then oddV n.toNat (l.map unE) B else []
theorem oddK_ok {N : Nat} {L : List Eg} {B : List Int} (h : rgtW (N : Int) (L.map edE) = 0) (hB : plcB L.length B = true) : oddK (N : Int) (L.map edE) B = oddV N L B := by
 unfold oddK
 rw [if_pos ⟨h, by rw [List.length_map]; exact hB⟩, unE_edE, Int.toNat_natCast]
theorem oddK_bad {n : Int} {l : List Ed} {B : List Int} (h : rgtW n l ≠ 0) : oddK n l B = [] := if_neg fun e => h e.1
theorem oddK_none {n : Int} {l : List Ed} {B : List Int} (h : plcB l.length B = false) : oddK n l B = [] := if_neg fun e => by rw [h] at e; exact absurd e.2 (by simp)
def noneB (m : Nat) (x : Int) : Bool := decide (x < 0) || decide ((m : Int) ≤ x)
theorem none_any (m : Nat) (B : List Int) : B.any (noneB m) = !plcB m B := by
 cases h : plcB m B with
 | true =>
  rw [Bool.not_true, List.any_eq_false]
  intro x hx
  have := plc_iff.1 h x hx
  simp [noneB]; omega
 | false =>
  rw [Bool.not_false, List.any_eq_true]
  have h2 : ¬ ∀ x ∈ B, 0 ≤ x ∧ x < (m : Int) := fun h3 => by rw [plc_iff.2 h3] at h; cases h
  rw [Classical.not_forall] at h2
  obtain ⟨x, h3⟩ := h2
  rw [Classical.not_imp] at h3
  exact ⟨x, h3.1, by simp [noneB]; omega⟩
theorem odd1_any (x : Int) (p : Option Addr) (m c mb : Nat) (w : World) (h1 : w.cell? ⟨mb, 1, none⟩ = some (.slice p m c)) :
  Calls Tryz.prog 89 #[.int .i64 x, .pointer (some ⟨mb, 0, none⟩)] w fun e w' => e = .returned (.bool (noneB m x)) ∧ w' = w := by
 by_cases hx : x < 0
 ·have HE : Hid (noneB m x = true) := by simp [Hid, noneB, hx]
  go_enter Tryz.func89, Tryz.ntmps89
  go_wp2
  go_ret
  exact ⟨by rw [HE.out]; rfl, rfl⟩
 ·have HE : Hid (noneB m x = decide ((m : Int) ≤ x)) := by simp [Hid, noneB, hx]
  go_enter Tryz.func89, Tryz.ntmps89
  go_wp2
  go_ret
  exact ⟨by rw [HE.out]; rfl, rfl⟩
theorem odd_any (n : Int) (l : List Ed) (B : List Int) (hBl : B.length ≤ 8388608) (sv bv : Value) (w : World) (hl : Edges w.heap.size w sv l) (hI : Ints w.heap.size w bv B) :
  Calls Tryz.prog 65 #[.agg #[.int .i64 n, sv], bv] w fun r w' => ∃ rv, r = .returned rv ∧ Ints w'.heap.size w' rv (oddK n l B) ∧ Below w.heap.size w w' := by
 obtain ⟨p, c, rfl⟩ := hl.len
 have hg1 : Grew w (w.alloc (.cells #[.int .i64 n, .slice p l.length c] 24)) := (Grew.refl w).alloc _
 have hrt := rightW_any n l _ _ (hl.go hg1.below)
 by_cases hk : rgtW n l = 0
 ·obtain ⟨N, L, rfl, hN, rfl, hm, hE, hW⟩ := right_egs hk
  rw [hk] at hrt
  rw [List.length_map] at hrt hg1 ⊢
  have hent : ∀ (args : Array Value) (W : World), (callFunc 89 args).run Tryz.prog W = .ok (.enter 89 args) W := fun args W => by kernel_rfl
  cases hP : plcB L.length B with
  | false =>
   have HE : Hid (oddK (N : Int) (L.map edE) B = []) := oddK_none (by rw [List.length_map]; exact hP)
   have HA : Hid (B.any (noneB L.length) = true) := by show _ = _; rw [none_any, hP]; rfl
   have HI : Hid (Ints w.heap.size w bv B) := hI
   obtain ⟨pb, cb, rfl⟩ := hI.len
   clear hk hI hl
   go_enter Tryz.func65, Tryz.ntmps65
   go_wp2_with fail
   refine hrt.mono ?_
   rintro e w1 ⟨rfl, hg2⟩
   clear hrt
   have q1 := (box2 _ hg2).2
   have hbw : Below w.heap.size w w1 := (hg1.trans hg2).below
   have hcf := containsF_any 89 #[.pointer (some ⟨w.heap.size, 0, none⟩)] (noneB L.length) hent B hBl (.slice pb B.length cb) w1.heap.size w1 (HI.out.below hbw |>.mono hbw.size) (fun x _ => odd1_any x p L.length c w.heap.size w1 q1)
   rw [HA.out] at hcf
   go_wp2_with fail
   refine hcf.mono ?_
   rintro e w2 ⟨rfl, rfl⟩
   clear hcf
   go_wp2
   go_ret
   exact ⟨_, rfl, by rw [HE.out]; exact Vals.nil _ _ _ _, hbw⟩
  | true =>
   have HE : Hid (oddK (N : Int) (L.map edE) B = oddV N L B) := oddK_ok hk hP
   have HA : Hid (B.any (noneB L.length) = false) := by show _ = _; rw [none_any, hP]; rfl
   have HI : Hid (Ints w.heap.size w bv B) := hI
   have HLe : Hid (Edges w.heap.size w (.slice p L.length c) (L.map edE)) := by rw [List.length_map] at hl; exact hl
   obtain ⟨pb, cb, rfl⟩ := hI.len
   clear hk hI hl
   go_enter Tryz.func65, Tryz.ntmps65
   go_wp2_with fail
   refine hrt.mono ?_
   rintro e w1 ⟨rfl, hg2⟩
   clear hrt
   have q0 := (box2 _ hg2).1
   have q1 := (box2 _ hg2).2
   have hbw : Below w.heap.size w w1 := (hg1.trans hg2).below
   have hcf := containsF_any 89 #[.pointer (some ⟨w.heap.size, 0, none⟩)] (noneB L.length) hent B hBl (.slice pb B.length cb) w1.heap.size w1 (HI.out.below hbw |>.mono hbw.size) (fun x _ => odd1_any x p L.length c w.heap.size w1 q1)
   rw [HA.out] at hcf
   have hod := oddOf_any N L B hN hE hP hBl _ _ w1 ((HLe.out.below hbw).mono hbw.size) ((HI.out.below hbw).mono hbw.size)
   go_wp2_with fail
   refine hcf.mono ?_
   rintro e w2 ⟨rfl, rfl⟩
   clear hcf
   go_wp2_with fail
   refine hod.mono ?_
   rintro e w3 ⟨lv, rfl, ho, hb3⟩
   have HO : Hid _ := ho
   clear hod ho
   go_wp2
   go_ret
   exact ⟨_, rfl, by rw [HE.out]; exact ints_ownsT HO.out, hbw.trans (hb3.mono hbw.size)⟩
 ·have HE : Hid (oddK n l B = []) := oddK_bad hk
  generalize rgtW n l = k at hrt hk
  have hk' : (k == 0) = false := by simpa using hk
  go_enter Tryz.func65, Tryz.ntmps65
  go_wp2_with fail
  refine hrt.mono ?_
  rintro e w1 ⟨rfl, hg2⟩
  clear hrt
  go_wp2
  go_ret
  exact ⟨_, rfl, by rw [HE.out]; exact Vals.nil _ _ _ _, (hg1.trans hg2).below⟩
def negB (e : Ed) : Bool := decide (e.2.2 < 0)
def fitC (n : Int) (l : List Ed) : Int := if rightK n l = 0 then if l.any negB = true then 10 else 0 else 1
theorem fits1_any (e : Ed) (w : World) : Calls Tryz.prog 56 #[edV e] w fun r w' => r = .returned (.bool (negB e)) ∧ Grew w w' := by
 obtain ⟨a, b, c⟩ := e
 unfold edV negB
 by_cases h : c < 0
 all_goals
  go_enter Tryz.func56, Tryz.ntmps56
  go_wp2
  go_ret
  exact ⟨by simp [h], (Grew.refl w).alloc _⟩
theorem fitsC_any (n : Int) (l : List Ed) (hm : l.length ≤ 8388608) (sv : Value) (w : World) (hl : Edges w.heap.size w sv l) :
  Calls Tryz.prog 29 #[.agg #[.int .i64 n, sv]] w fun r w' => r = .returned (.int .i64 (fitC n l)) ∧ Grew w w' := by
 have hg1 : Grew w (w.alloc (.cells #[.int .i64 n, sv] 24)) := (Grew.refl w).alloc _
 have hl1 := hl.go hg1.below
 obtain ⟨p, c, rfl⟩ := hl.len
 have hrc := right_any n l (.slice p l.length c) _ hl1
 go_enter Tryz.func29, Tryz.ntmps29
 go_wp2_with fail
 refine hrc.mono ?_
 rintro e w2 ⟨rfl, hg2⟩
 have hg := hg1.trans hg2
 have q1 : w2.cell? ⟨w.heap.size, 1, none⟩ = some (.slice p l.length c) := (hg2.below.cell (p := ⟨w.heap.size, 1, none⟩) (by simp)).trans (by simp)
 have hce := containsE_any 56 #[] negB (fun _ _ => by kernel_rfl) l hm (.slice p l.length c) w2 (hl1.go hg2.below) (fun e _ W _ => by
  have h := fits1_any e W
  exact h)
 clear hrc hl1
 by_cases hk : rightK n l = 0
 ·have HE : ∀ b, l.any negB = b → Hid (fitC n l = if b = true then 10 else 0) := fun b h => by show _ = _; unfold fitC; rw [if_pos hk, h]
  rw [hk]
  go_wp2_with fail
  refine hce.mono ?_
  rintro e w3 ⟨rfl, hg3⟩
  cases hb : l.any negB with
  | true =>
   have H := HE true hb
   clear HE
   go_wp2
   go_ret
   exact ⟨by rw [H.out]; rfl, hg.trans hg3⟩
  | false =>
   have H := HE false hb
   clear HE
   go_wp2
   go_ret
   exact ⟨by rw [H.out]; rfl, hg.trans hg3⟩
 ·have hk2 : (rightK n l == 0) = false := by simpa using hk
  have H : Hid (fitC n l = 1) := if_neg hk
  generalize rightK n l = k at *
  clear hce q1
  go_wp2
  go_ret
  exact ⟨by rw [H.out]; rfl, hg⟩
def sumC (l : List Ed) (k : Nat) : Int := ((l.take k).map fun e => e.2.2).sum
theorem sumC_succ {l : List Ed} {k : Nat} (h : k < l.length) : sumC l (k + 1) = sumC l k + l[k].2.2 := by
 unfold sumC
 rw [List.take_succ_eq_append_getElem h, List.map_append, List.sum_append]
 simp
theorem sumC_few {l : List Ed} (h : ∀ e ∈ l, -2147483648 ≤ e.2.2 ∧ e.2.2 ≤ 2147483648) : ∀ k : Nat, k ≤ l.length → -((k : Int) * 2147483648) ≤ sumC l k ∧ sumC l k ≤ (k : Int) * 2147483648 := by
 intro k
 induction k with
 | zero => intro _; simp [sumC]
 | succ k ih =>
  intro hk
  have ih' := ih (by omega)
  have h1 := h l[k] (List.getElem_mem (by omega))
  rw [sumC_succ (by omega)]
  generalize sumC l k = s at *
  generalize l[k].2.2 = t at *
  omega
theorem total_any (n : Int) (l : List Ed) (hm : l.length ≤ 4194304) (hw : ∀ e ∈ l, -2147483648 ≤ e.2.2 ∧ e.2.2 ≤ 2147483648) (sv : Value) (w : World) (hl : Edges w.heap.size w sv l) :
  Calls Tryz.prog 36 #[.agg #[.int .i64 n, sv]] w fun r w' => r = .returned (.int .i64 (sumC l l.length)) ∧ Below w.heap.size w w' := by
 have hmix := mixed
 obtain ⟨p, c, rfl⟩ := hl.len
 have hg1 : Grew w (w.alloc (.cells #[.int .i64 n, .slice p l.length c] 24)) := (Grew.refl w).alloc _
 have HL : Hid (Edges w.heap.size w (.slice p l.length c) l) := hl
 have HW : Hid _ := hw
 clear hl hw
 go_enter Tryz.func36, Tryz.ntmps36
 go_wp2
 go_loopw [3, 9] (fun cv i wr => ∃ k : Nat, k ≤ l.length ∧ cv = .int .i64 (sumC l k) ∧ i = .int .i64 (k : Int) ∧ Hid (Below w.heap.size w wr)) (fun _ i _ => l.length - (intOf i).toNat)
 case atStart => exact ⟨0, Nat.zero_le _, rfl, rfl, hg1.below⟩
 case round =>
  clear hg1
  obtain ⟨k, hk, rfl, rfl, HB⟩ := hrel
  by_cases hlt : k < l.length
  ·have hkl : (k : Int) < (l.length : Int) := by omega
   obtain ⟨b, off, rfl, hbb, hcap, hc, -⟩ := HL.out.open hlt
   obtain ⟨e0, e1, e2⟩ := hc _ HB.out k hlt
   have HST : Hid (sumC l (k + 1) = sumC l k + l[k].2.2) := sumC_succ hlt
   have hf := sumC_few HW.out k hk
   have hwe := HW.out l[k] (List.getElem_mem hlt)
   have s2 : (k : Int) ≤ 4194304 := by omega
   have hwr : IntKind.i64.wrap (sumC l k + l[k].2.2) = sumC l k + l[k].2.2 := wrap_i _ (by omega) (by omega)
   have HLT : Hid (k < l.length) := hlt
   generalize sumC l k = S at *
   generalize l[k].2.2 = wt at *
   generalize l[k].1 = u at *
   generalize l[k].2.1 = v at *
   have HB6 : Hid (Below wr.heap.size wr (wr.alloc (.cells #[.int .i64 u, .int .i64 v, .int .i64 wt] 50))) := (Below.refl _ _).alloc (Nat.le_refl _) _
   clear hc hlt hf hwe s2
   go_wp2
   refine ⟨⟨k + 1, HLT.out, ?_, by go_num, HB.out.trans (HB6.out.mono HB.out.size)⟩, by have := HLT.out; simp [intOf]; omega⟩
   rw [HST.out]
  ·obtain rfl : k = l.length := by omega
   go_wp2
   go_ret
   exact ⟨rfl, HB.out⟩
def iotaI (m j : Nat) : List Int := (List.range m).map fun i => if i < j then (i : Int) else 0
theorem iotaI_len (m j : Nat) : (iotaI m j).length = m := by simp [iotaI]
theorem iotaI_zero (m : Nat) : iotaI m 0 = List.replicate m 0 := by
 apply List.ext_getElem <;> simp [iotaI]
theorem iotaI_set {m j : Nat} : (iotaI m j).set j (j : Int) = iotaI m (j + 1) := by
 apply List.ext_getElem?
 intro i
 rw [List.getElem?_set, iotaI_len]
 by_cases h : i < m
 ·have a : ∀ q, (iotaI m q)[i]? = some (if i < q then (i : Int) else 0) := fun q => by simp [iotaI, h]
  rw [a, a]
  by_cases e : j = i
  ·subst e; rw [if_pos rfl, if_pos h, if_pos (by omega)]
  ·rw [if_neg e]
   congr 1
   by_cases hi : i < j
   ·rw [if_pos hi, if_pos (by omega)]
   ·rw [if_neg hi, if_neg (by omega)]
 ·have a : ∀ q, (iotaI m q)[i]? = none := fun q => List.getElem?_eq_none (by rw [iotaI_len]; omega)
  rw [a, a]
  by_cases e : j = i
  ·subst e; rw [if_pos rfl, if_neg h]
  ·rw [if_neg e]
theorem oddOnes_any (n : Int) (l : List Ed) (hm : l.length ≤ 4194304) (sv : Value) (w : World) (hl : Edges w.heap.size w sv l) :
  Calls Tryz.prog 32 #[.agg #[.int .i64 n, sv]] w fun r w' => ∃ rv, r = .returned rv ∧ Ints w'.heap.size w' rv (oddK n l (iotaI l.length l.length)) ∧ Below w.heap.size w w' := by
 have hmix := mixed
 obtain ⟨p, c, rfl⟩ := hl.len
 obtain ⟨i0, hi, hz0, hz1, hz2⟩ := info_parts infoI
 obtain ⟨w1, hw1⟩ : ∃ W, (w.alloc (.cells #[.int .i64 n, .slice p l.length c] 24)) = W := ⟨_, rfl⟩
 have hb1 : Below w.heap.size w w1 := by rw [← hw1]; exact (Below.refl _ _).alloc (Nat.le_refl _) _
 have hX1 : Blk 24 w1 w.heap.size [.int .i64 n, .slice p l.length c] := by rw [← hw1]; exact heap_alloc_new w _
 have HX1 : Hid (Blk 24 w1 w.heap.size [.int .i64 n, .slice p l.length c]) := hX1
 have HB1 : Hid (Below w.heap.size w w1) := hb1
 have HL : Hid (Edges w.heap.size w (.slice p l.length c) l) := hl
 have hlx := hX1.lt
 have x1 := hX1.cell (j := 1) rfl
 clear hX1 hb1 hl
 go_enter Tryz.func32, Tryz.ntmps32
 go_wp2_with (at_make; refine wpList_make_full _ rfl _ _ 27 rfl w1.heap.size 3 i0 (.int .i64 0) 1 Tryz.underlying27 hi hz0 hz1 .i64 .i64 _ _ l.length rfl rfl rfl rfl (by rw [hz2]; omega) (by unfold maxLen; omega) (Nat.le_refl _) ?_; intro w3 hown hgrow; have hb3 : Below w1.heap.size w1 w3 := (Below.refl _ _).grown hgrow (Nat.le_refl _) (fun k e => by cases e); have hrow := Blk.made hown; rw [ints_made, ← iotaI_zero] at hrow; have HR3 : Hid (Blk 3 w3 w1.heap.size ((iotaI l.length 0).map (Value.int .i64))) := hrow; have HX3 : Hid (Blk 24 w3 w.heap.size [.int .i64 n, .slice p l.length c]) := HX1.out.go hb3; have HB3 : Hid (Below w.heap.size w w3) := HB1.out.trans (hb3.mono HB1.out.size); clear hown hgrow hrow hb3 x1)
 clear hw1 HX1 HB1 hi hz0 hz1 hz2
 obtain ⟨g, hg⟩ : ∃ g, w1.heap.size = g := ⟨_, rfl⟩
 rw [hg] at HR3 hlx ⊢
 clear hg
 go_loopw [11] (fun i wr => ∃ j : Nat, j ≤ l.length ∧ i = .int .i64 (j : Int) ∧ Hid (Blk 3 wr g ((iotaI l.length j).map (Value.int .i64))) ∧ Hid (Blk 24 wr w.heap.size [.int .i64 n, .slice p l.length c]) ∧ Hid (Below w.heap.size w wr)) (fun i _ => l.length - (intOf i).toNat)
 case atStart => exact ⟨0, Nat.zero_le _, rfl, HR3, HX3, HB3⟩
 case round =>
  clear HR3 HX3 HB3
  obtain ⟨j, hj, rfl, HR, HX, HB⟩ := hrel
  by_cases hlt : j < l.length
  ·have hjl : (j : Int) < (l.length : Int) := by omega
   have t0 : wr.cell? ⟨g, j, none⟩ = some (.int .i64 ((iotaI l.length j)[j]'(by rw [iotaI_len]; exact hlt))) := HR.out.cell (by rw [List.getElem?_map, List.getElem?_eq_getElem (by rw [iotaI_len]; exact hlt)]; rfl)
   have tf := HR.out.frozen j
   have HR2 : Hid (Blk 3 (wr.setCell ⟨g, j, none⟩ (.int .i64 (j : Int))) g ((iotaI l.length (j + 1)).map (Value.int .i64))) := by
    have h1 := HR.out.set j (.int .i64 (j : Int))
    rw [← List.map_set, iotaI_set] at h1
    exact h1
   have HX2 : Hid _ := HX.out.other (p := ⟨g, j, none⟩) (by show w.heap.size ≠ g; omega) (.int .i64 (j : Int))
   have HB2 : Hid _ := HB.out.setCell (p := ⟨g, j, none⟩) (by show w.heap.size ≤ g; omega) (.int .i64 (j : Int))
   have HLT : Hid (j < l.length) := hlt
   generalize (iotaI l.length j)[j]'(by rw [iotaI_len]; exact hlt) = tv at t0
   clear hlt HR HX HB
   go_wp2
   exact ⟨⟨j + 1, HLT.out, by go_num, HR2, HX2, HB2⟩, by have := HLT.out; simp [intOf]; omega⟩
  ·obtain rfl : j = l.length := by omega
   have x0 := HX.out.cell (j := 0) rfl
   have x1 := HX.out.cell (j := 1) rfl
   have hIn : Ints wr.heap.size wr (.slice (some ⟨g, 0, none⟩) l.length l.length) (iotaI l.length l.length) := by
    have h := HR.out
    exact .inr ⟨g, 0, l.length, by rw [iotaI_len], h.lt, by rw [iotaI_len]; exact Nat.le_refl _, fun q y hy => by rw [Nat.zero_add]; exact h.cell (by rw [List.getElem?_map, hy]; rfl)⟩
   have hod := odd_any n l (iotaI l.length l.length) (by rw [iotaI_len]; omega) (.slice p l.length c) (.slice (some ⟨g, 0, none⟩) l.length l.length) wr (HL.out.go HB.out) hIn
   clear hIn HR HX
   go_wp2_with fail
   refine hod.mono ?_
   rintro e w5 ⟨rv, rfl, hr5, hb5⟩
   clear hod
   have HR5 : Hid _ := hr5
   clear hr5
   go_wp2
   go_ret
   exact ⟨rv, rfl, HR5.out, HB.out.trans (hb5.mono HB.out.size)⟩
theorem uncut_any (x : Int) (I : List Int) (hI : I.Pairwise (· < ·)) (hIl : I.length ≤ 4194304) (iv : Value) (bx : Nat) (W : World) (hbx : W.cell? ⟨bx, 0, none⟩ = some iv) (hv : Ints W.heap.size W iv I) :
  Calls Tryz.prog 33 #[.int .i64 x, .pointer (some ⟨bx, 0, none⟩)] W fun e w' => ∃ b, e = .returned (.bool b) ∧ Below W.heap.size W w' := by
 have hmix := mixed
 have hle : (I.take I.length).Pairwise (· ≤ ·) := by rw [List.take_length]; exact hI.imp fun h => Int.le_of_lt h
 rcases hv with ⟨⟨p, c, rfl⟩, rfl⟩ | ⟨b, off, c, rfl, hb, hc, hcc⟩
 ·have hbs := Tryz.slices_BinarySearch_int_empty p c x W
  go_enter Tryz.func33, Tryz.ntmps33
  go_wp2_with fail
  refine hbs.mono ?_
  rintro e w2 ⟨rfl, rfl⟩
  clear hbs
  go_wp2
  go_ret
  exact ⟨_, rfl, Below.refl _ _⟩
 ·have hbs := Tryz.slices_BinarySearch_int b off I.length c I x W (Nat.le_refl _) (by omega) (fun j hj => by
   have := hcc j I[j] (List.getElem?_eq_getElem hj)
   rw [this]
   congr 2
   simp [List.getD_eq_getElem?_getD, List.getElem?_eq_getElem hj]) hle
  go_enter Tryz.func33, Tryz.ntmps33
  go_wp2_with fail
  refine hbs.mono ?_
  rintro e w2 ⟨rfl, q, rfl⟩
  clear hbs
  go_wp2
  go_ret
  exact ⟨_, rfl, below_drewN (Below.refl _ _) q⟩
abbrev Dt := Int × Int
def aft (L : List Int) (at_ : Nat) : Int := if at_ + 1 = L.length then L.getD 0 0 else L.getD (at_ + 1) 0
def nxD (r : List (List Int)) (d : Dt) : Dt := (d.2, aft (r.getD d.2.toNat []) ((r.getD d.2.toNat []).idxOf d.1))
structure SysR (N : Nat) (l : List Ed) (r : List (List Int)) : Prop where
 len : r.length = N
 perm : ∀ v : Nat, v < N → (r.getD v []).Perm (nb l (v : Int))
def dartsL (N : Nat) (l : List Ed) : List Dt := (List.range N).flatMap fun (u : Nat) => (nb l (u : Int)).map fun v => ((u : Int), v)
theorem dartsL_mem {N : Nat} {l : List Ed} {d : Dt} : d ∈ dartsL N l ↔ ∃ u : Nat, u < N ∧ d.1 = (u : Int) ∧ d.2 ∈ nb l (u : Int) := by
 unfold dartsL
 rw [List.mem_flatMap]
 constructor
 ·rintro ⟨u, hu, h⟩
  obtain ⟨v, hv, rfl⟩ := List.mem_map.1 h
  exact ⟨u, List.mem_range.1 hu, rfl, hv⟩
 ·rintro ⟨u, hu, h1, h2⟩
  exact ⟨u, List.mem_range.2 hu, List.mem_map.2 ⟨d.2, h2, by rw [← h1]⟩⟩
section
variable {N : Nat} {l : List Ed} {r : List (List Int)}
theorem SysR.nodup (hS : SysR N l r) (hR : RightG (N : Int) l) {v : Nat} (hv : v < N) : (r.getD v []).Nodup := (hS.perm v hv).nodup_iff.2 ((nb_rise hR (v : Int)).imp fun {a b} (h : a < b) => (show a ≠ b by omega))
theorem aft_mem {L : List Int} {k : Nat} (h : k < L.length) : aft L k ∈ L := by
 unfold aft
 split
 ·rw [List.getD_eq_getElem?_getD, List.getElem?_eq_getElem (by omega)]
  exact List.getElem_mem _
 ·rw [List.getD_eq_getElem?_getD, List.getElem?_eq_getElem (by omega)]
  exact List.getElem_mem _
theorem aft_inj {L : List Int} (hn : L.Nodup) {j k : Nat} (hj : j < L.length) (hk : k < L.length) (h : aft L j = aft L k) : j = k := by
 have get : ∀ {i : Nat} (hi : i < L.length), L.getD i 0 = L[i] := fun hi => by rw [List.getD_eq_getElem?_getD, List.getElem?_eq_getElem hi]; rfl
 have inj : ∀ {a b : Nat}, a < L.length → b < L.length → L.getD a 0 = L.getD b 0 → a = b := fun {a b} ha hb e => by
  rw [get ha, get hb] at e
  exact (List.getElem_inj hn).1 e
 unfold aft at h
 by_cases h1 : j + 1 = L.length
 ·by_cases h2 : k + 1 = L.length
  ·omega
  ·rw [if_pos h1, if_neg h2] at h
   have := inj (by omega) (by omega) h
   omega
 ·by_cases h2 : k + 1 = L.length
  ·rw [if_neg h1, if_pos h2] at h
   have := inj (by omega) (by omega) h
   omega
  ·rw [if_neg h1, if_neg h2] at h
   have := inj (by omega) (by omega) h
   omega
theorem dart_ends (hR : RightG (N : Int) l) {d : Dt} (h : d ∈ dartsL N l) : ∃ u v : Nat, d = ((u : Int), (v : Int)) ∧ u < N ∧ v < N ∧ (u : Int) ∈ nb l (v : Int) ∧ (v : Int) ∈ nb l (u : Int) := by
 obtain ⟨u, hu, h1, h2⟩ := dartsL_mem.1 h
 obtain ⟨h3, h4, h5, _⟩ := nb_mutual hR h2
 have e : d.2 = ((d.2.toNat : Nat) : Int) := by omega
 refine ⟨u, d.2.toNat, by rw [← e, ← h1], hu, by omega, by rw [← e]; exact h3, by rw [← e]; exact h2⟩
theorem nx_mem (hR : RightG (N : Int) l) (hS : SysR N l r) {d : Dt} (h : d ∈ dartsL N l) : nxD r d ∈ dartsL N l := by
 obtain ⟨u, v, rfl, hu, hv, h1, h2⟩ := dart_ends hR h
 refine dartsL_mem.2 ⟨v, hv, rfl, ?_⟩
 unfold nxD
 simp only [Int.toNat_natCast]
 have hm : (u : Int) ∈ r.getD v [] := (hS.perm v hv).mem_iff.2 h1
 exact (hS.perm v hv).mem_iff.1 (aft_mem (List.idxOf_lt_length_iff.2 hm))
theorem nx_inj (hR : RightG (N : Int) l) (hS : SysR N l r) {d e : Dt} (hd : d ∈ dartsL N l) (he : e ∈ dartsL N l) (h : nxD r d = nxD r e) : d = e := by
 obtain ⟨u, v, rfl, hu, hv, h1, h2⟩ := dart_ends hR hd
 obtain ⟨u', v', rfl, hu', hv', h1', h2'⟩ := dart_ends hR he
 unfold nxD at h
 simp only [Int.toNat_natCast, Prod.mk.injEq] at h
 obtain ⟨e1, e2⟩ := h
 have : v = v' := by omega
 subst this
 have m1 : (u : Int) ∈ r.getD v [] := (hS.perm v hv).mem_iff.2 h1
 have m2 : (u' : Int) ∈ r.getD v [] := (hS.perm v hv).mem_iff.2 h1'
 have l1 := List.idxOf_lt_length_iff.2 m1
 have l2 := List.idxOf_lt_length_iff.2 m2
 have e3 := aft_inj (hS.nodup hR hv) l1 l2 e2
 have g1 := List.getElem_idxOf l1
 have g2 := List.getElem_idxOf l2
 have : (u : Int) = (u' : Int) := by
  rw [← g1, ← g2]
  congr 1
 have : u = u' := by omega
 rw [this]
end
section
variable {nx : Dt → Dt} {S : List Dt}
structure PermS (nx : Dt → Dt) (S : List Dt) : Prop where
 mem : ∀ d ∈ S, nx d ∈ S
 inj : ∀ d ∈ S, ∀ e ∈ S, nx d = nx e → d = e
def Way (nx : Dt → Dt) (d : Dt) : Dt → List Dt → Prop
 | x, [] => x = d
 | x, y :: L => x = y ∧ Way nx d (nx x) L
theorem Way.snoc {d : Dt} : ∀ {x : Dt} {L : List Dt}, Way nx d x L → Way nx (nx d) x (L ++ [d])
 | x, [], h => ⟨h, by show nx x = nx d; rw [show x = d from h]⟩
 | x, y :: L, h => ⟨h.1, Way.snoc h.2⟩
def orb (nx : Dt → Dt) (d : Dt) : Nat → Dt → List Dt
 | 0, _ => []
 | k + 1, x => x :: if nx x = d then [] else orb nx d k (nx x)
theorem orb_way {d : Dt} : ∀ {L : List Dt} {x : Dt} {k : Nat}, L ≠ [] → Way nx d x L → (∀ y ∈ L.tail, y ≠ d) → L.length ≤ k → orb nx d k x = L
 | [], _, _, h, _, _, _ => absurd rfl h
 | [y], x, k, _, hw, _, hk => by
  obtain ⟨rfl, h2⟩ := hw
  match k, hk with
  | k + 1, _ =>
   rw [orb, if_pos (show nx x = d from h2)]
 | y :: z :: L, x, k, _, hw, hne, hk => by
  obtain ⟨rfl, h2⟩ := hw
  match k, hk with
  | k + 1, hk =>
   have hz : nx x = z := h2.1
   have hzd : ¬ nx x = d := by rw [hz]; exact hne z (List.mem_cons_self ..)
   rw [orb, if_neg hzd, orb_way (L := z :: L) (by simp) h2 (fun y hy => hne y (List.mem_cons_of_mem _ hy)) (by simpa using hk)]
structure Shut2 (nx : Dt → Dt) (S met : List Dt) : Prop where
 sub : ∀ d ∈ met, d ∈ S
 fwd : ∀ d ∈ met, nx d ∈ met
 bwd : ∀ d ∈ S, nx d ∈ met → d ∈ met
theorem Way.mem_back {d : Dt} : ∀ {x : Dt} {L : List Dt}, Way nx d x L → ∀ y ∈ L, y = x ∨ ∃ z ∈ L, nx z = y
 | x, [], _, y, hy => by simp at hy
 | x, y :: L, h, z, hz => by
  obtain ⟨rfl, h2⟩ := h
  rcases List.mem_cons.1 hz with rfl | hz
  ·exact .inl rfl
  ·rcases Way.mem_back h2 z hz with rfl | ⟨t, ht, e⟩
   ·exact .inr ⟨x, List.mem_cons_self .., rfl⟩
   ·exact .inr ⟨t, List.mem_cons_of_mem _ ht, e⟩
theorem Way.mem_next {d : Dt} : ∀ {x : Dt} {L : List Dt}, Way nx d x L → ∀ y ∈ L, nx y = d ∨ nx y ∈ L
 | x, [], _, y, hy => by simp at hy
 | x, y :: L, h, z, hz => by
  obtain ⟨rfl, h2⟩ := h
  rcases List.mem_cons.1 hz with rfl | hz
  ·match L, h2 with
   | [], h2 => exact .inl h2
   | t :: L, h2 => exact .inr (List.mem_cons_of_mem _ (by rw [h2.1]; exact List.mem_cons_self ..))
  ·rcases Way.mem_next h2 z hz with h3 | h3
   ·exact .inl h3
   ·exact .inr (List.mem_cons_of_mem _ h3)
theorem Way.last {d : Dt} : ∀ {x : Dt} {L : List Dt}, L ≠ [] → Way nx d x L → ∃ z ∈ L, nx z = d
 | x, [], h, _ => absurd rfl h
 | x, [y], _, h => ⟨y, List.mem_cons_self .., by obtain ⟨rfl, h2⟩ := h; exact h2⟩
 | x, y :: z :: L, _, h => by
  obtain ⟨t, ht, e⟩ := Way.last (L := z :: L) (by simp) h.2
  exact ⟨t, List.mem_cons_of_mem _ ht, e⟩
theorem Way.pred {d : Dt} : ∀ {x : Dt} {L : List Dt}, Way nx d x L → ∀ y ∈ L.tail, ∃ A t B, L = A ++ t :: y :: B ∧ nx t = y
 | x, [], _, y, hy => by simp at hy
 | x, [z], _, y, hy => by simp at hy
 | x, z :: t :: L, h, y, hy => by
  obtain ⟨rfl, h2⟩ := h
  have hy' : y ∈ t :: L := hy
  rcases List.mem_cons.1 hy' with rfl | hy'
  ·exact ⟨[], x, L, rfl, h2.1⟩
  ·obtain ⟨A, u, B, e, hu⟩ := Way.pred h2 y hy'
   exact ⟨x :: A, u, B, by rw [e]; rfl, hu⟩
theorem Way.last2 {d : Dt} : ∀ {x : Dt} {L : List Dt}, L ≠ [] → Way nx d x L → ∃ C z, L = C ++ [z] ∧ nx z = d
 | x, [], h, _ => absurd rfl h
 | x, [y], _, h => ⟨[], y, rfl, by obtain ⟨rfl, h2⟩ := h; exact h2⟩
 | x, y :: z :: L, _, h => by
  obtain ⟨C, t, e, ht⟩ := Way.last2 (L := z :: L) (by simp) h.2
  exact ⟨y :: C, t, by rw [e]; rfl, ht⟩
theorem Way.round (hP : PermS nx S) {met : List Dt} (hM : Shut2 nx S met) {d x : Dt} {L : List Dt} (hne : L ≠ []) (hw : Way nx d x L) (hS : ∀ y ∈ L, y ∈ S) (hn : L.Nodup) (hno : ∀ y ∈ L, y ∉ met) (hd : d ∈ met ∨ d ∈ L) : d = x := by
 obtain ⟨C, z, eC, ez⟩ := hw.last2 hne
 have hz : z ∈ L := by rw [eC]; simp
 rcases hd with hd | hd
 ·exact absurd (hM.bwd z (hS z hz) (by rw [ez]; exact hd)) (hno z hz)
 ·match L, hne, hd, hw with
  | y :: L', _, hd, hw =>
   rcases List.mem_cons.1 hd with rfl | hd
   ·exact hw.1.symm
   ·exfalso
    obtain ⟨A, t, B, eA, et⟩ := hw.pred d hd
    have ht : t ∈ y :: L' := by rw [eA]; simp
    have e1 : t = z := hP.inj t (hS t ht) z (hS z hz) (et.trans ez.symm)
    subst e1
    have hl : (C ++ [t]).getLast? = (A ++ t :: d :: B).getLast? := by rw [← eC, ← eA]
    rw [eA] at hn
    have hn2 := (List.nodup_append.1 hn).2.1
    rw [List.nodup_cons] at hn2
    refine hn2.1 ?_
    have h3 : (A ++ t :: d :: B).getLast? = (d :: B).getLast? := by
     rw [show A ++ t :: d :: B = (A ++ [t]) ++ (d :: B) by simp, List.getLast?_append]
     cases hB : (d :: B).getLast? with
     | none => simp at hB
     | some q => rfl
    rw [h3] at hl
    have h4 : (d :: B).getLast? = some t := by rw [← hl]; simp
    exact List.mem_of_getLast? h4
def roundsAt (nx : Dt → Dt) (fuel : Nat) (starts : List Dt) : Nat → List (List Dt) × List Dt
 | 0 => ([], [])
 | j + 1 => if (roundsAt nx fuel starts j).2.contains (starts.getD j (0, 0)) then roundsAt nx fuel starts j
  else ((roundsAt nx fuel starts j).1 ++ [orb nx (starts.getD j (0, 0)) fuel (starts.getD j (0, 0))], (roundsAt nx fuel starts j).2 ++ orb nx (starts.getD j (0, 0)) fuel (starts.getD j (0, 0)))
theorem Shut2.add (hP : PermS nx S) {met : List Dt} (hM : Shut2 nx S met) {d : Dt} {L : List Dt} (hne : L ≠ []) (hw : Way nx d d L) (hS : ∀ y ∈ L, y ∈ S) : Shut2 nx S (met ++ L) := by
 have hd : d ∈ L := by
  match L, hne, hw with
  | y :: L', _, hw => rw [hw.1]; exact List.mem_cons_self ..
 refine ⟨fun y hy => ?_, fun y hy => ?_, fun y hy h => ?_⟩
 ·rcases List.mem_append.1 hy with h | h
  ·exact hM.sub y h
  ·exact hS y h
 ·rcases List.mem_append.1 hy with h | h
  ·exact List.mem_append_left _ (hM.fwd y h)
  ·rcases hw.mem_next y h with h1 | h1
   ·rw [h1]; exact List.mem_append_right _ hd
   ·exact List.mem_append_right _ h1
 ·rcases List.mem_append.1 h with h1 | h1
  ·exact List.mem_append_left _ (hM.bwd y hy h1)
  ·refine List.mem_append_right _ ?_
   rcases hw.mem_back _ h1 with h2 | ⟨z, hz, ez⟩
   ·obtain ⟨z, hz, ez⟩ := hw.last hne
    rw [hP.inj y hy z (hS z hz) (h2.trans ez.symm)]
    exact hz
   ·rw [hP.inj y hy z (hS z hz) ez.symm]
    exact hz
structure Going (nx : Dt → Dt) (S starts : List Dt) (fuel : Nat) (left face : List Dt) (d : Dt) (j : Nat) : Prop where
 shut : Shut2 nx S (roundsAt nx fuel starts j).2
 nodup : (left ++ (face ++ (roundsAt nx fuel starts j).2)).Nodup
 all : ∀ x, x ∈ S ↔ x ∈ left ∨ x ∈ face ∨ x ∈ (roundsAt nx fuel starts j).2
 len : left.length + face.length + (roundsAt nx fuel starts j).2.length = S.length
 way : face ≠ [] → Way nx d (starts.getD j (0, 0)) face
theorem Going.start (hn : S.Nodup) (d : Dt) (starts : List Dt) (fuel : Nat) : Going nx S starts fuel S [] d 0 := by
 refine ⟨⟨fun d h => by simp [roundsAt] at h, fun d h => by simp [roundsAt] at h, fun d _ h => by simp [roundsAt] at h⟩, by simpa [roundsAt] using hn, fun x => by simp [roundsAt], by simp [roundsAt], fun h => absurd rfl h⟩
theorem Going.take {starts left face : List Dt} {fuel j : Nat} {d : Dt} (h : Going nx S starts fuel left face d j) (hd : d ∈ left) (h0 : face = [] → d = starts.getD j (0, 0)) : Going nx S starts fuel (left.erase d) (face ++ [d]) (nx d) j := by
 have hnl : left.Nodup := (List.nodup_append.1 h.nodup).1
 have hp : (left.erase d ++ (face ++ [d] ++ (roundsAt nx fuel starts j).2)).Perm (left ++ (face ++ (roundsAt nx fuel starts j).2)) := by
  have h1 : left.Perm (d :: left.erase d) := List.perm_cons_erase hd
  have h2 : (face ++ [d] ++ (roundsAt nx fuel starts j).2).Perm (d :: (face ++ (roundsAt nx fuel starts j).2)) := by
   rw [List.append_assoc]
   exact List.perm_middle
  refine ((h2.append_left (left.erase d)).trans ?_).trans (h1.symm.append_right _)
  exact List.perm_middle
 refine ⟨h.shut, hp.nodup_iff.2 h.nodup, fun x => ?_, ?_, fun _ => ?_⟩
 ·rw [h.all x]
  have := hp.mem_iff (a := x)
  simp only [List.mem_append] at this
  simp only [List.mem_append]
  constructor
  ·intro hx
   rcases this.2 hx with h1 | ⟨h1 | h1⟩ | h1
   ·exact .inl h1
   ·exact .inr (.inl (.inl h1))
   ·exact .inr (.inl (.inr ‹_›))
   ·exact .inr (.inr h1)
  ·intro hx
   exact this.1 (by
    rcases hx with h1 | h1 | h1
    ·exact .inl h1
    ·exact .inr (.inl h1)
    ·exact .inr (.inr h1))
 ·have := h.len
  rw [List.length_erase_of_mem hd, List.length_append, List.length_singleton]
  have := List.length_pos_of_mem hd
  omega
 ·by_cases hf : face = []
  ·subst hf
   exact ⟨(h0 rfl).symm, by show nx (starts.getD j (0, 0)) = nx d; rw [← h0 rfl]⟩
  ·exact (h.way hf).snoc
theorem Going.done (hP : PermS nx S) {starts left face : List Dt} {fuel j : Nat} {d : Dt} (h : Going nx S starts fuel left face d j) (hf : face ≠ []) (hd : d ∉ left) (hdS : d ∈ S) (hfu : S.length ≤ fuel) (d' : Dt) : roundsAt nx fuel starts (j + 1) = ((roundsAt nx fuel starts j).1 ++ [face], (roundsAt nx fuel starts j).2 ++ face) ∧ Going nx S starts fuel left [] d' (j + 1) := by
 have hw := h.way hf
 have hnd := (List.nodup_append.1 h.nodup).2.1
 have hnf : face.Nodup := (List.nodup_append.1 hnd).1
 have hap : ∀ y ∈ face, y ∉ (roundsAt nx fuel starts j).2 := fun y hy hy' => (List.nodup_append.1 hnd).2.2 y hy y hy' rfl
 have hsub : ∀ y ∈ face, y ∈ S := fun y hy => (h.all y).2 (.inr (.inl hy))
 have hdm : d ∈ (roundsAt nx fuel starts j).2 ∨ d ∈ face := by
  rcases (h.all d).1 hdS with h1 | h1 | h1
  ·exact absurd h1 hd
  ·exact .inr h1
  ·exact .inl h1
 have e := Way.round hP h.shut hf hw hsub hnf hap hdm
 rw [e] at hw
 have hst : starts.getD j (0, 0) ∈ face := by
  match face, hf, hw with
  | y :: L, _, hw => rw [hw.1]; exact List.mem_cons_self ..
 have horb : orb nx (starts.getD j (0, 0)) fuel (starts.getD j (0, 0)) = face := by
  refine orb_way hf hw (fun y hy e1 => ?_) (by have := h.len; omega)
  match face, hf, hw, hy, hnf with
  | z :: L, _, hw, hy, hnf =>
   have h1 := hw.1
   rw [e1, h1] at hy
   exact (List.nodup_cons.1 hnf).1 hy
 have hc : (roundsAt nx fuel starts j).2.contains (starts.getD j (0, 0)) = false := by
  rw [List.contains_eq_mem, decide_eq_false_iff_not]
  exact hap _ hst
 have er : roundsAt nx fuel starts (j + 1) = ((roundsAt nx fuel starts j).1 ++ [face], (roundsAt nx fuel starts j).2 ++ face) := by
  rw [roundsAt, hc, horb]
  rfl
 refine ⟨er, ?_⟩
 have hp : (left ++ ([] ++ ((roundsAt nx fuel starts j).2 ++ face))).Perm (left ++ (face ++ (roundsAt nx fuel starts j).2)) := by
  rw [List.nil_append]
  exact List.perm_append_comm.append_left left
 refine ⟨by rw [er]; exact h.shut.add hP hf hw hsub, by rw [er]; exact hp.nodup_iff.2 h.nodup, fun x => ?_, ?_, fun h1 => absurd rfl h1⟩
 ·rw [er, h.all x]
  simp only [List.mem_append, List.not_mem_nil, false_or]
  constructor
  ·rintro (h1 | h1 | h1)
   ·exact .inl h1
   ·exact .inr (.inr h1)
   ·exact .inr (.inl h1)
  ·rintro (h1 | h1 | h1)
   ·exact .inl h1
   ·exact .inr (.inr h1)
   ·exact .inr (.inl h1)
 ·rw [er]
  have := h.len
  rw [List.length_append, List.length_nil]
  omega
theorem Going.skip {starts left : List Dt} {fuel j : Nat} {d : Dt} (h : Going nx S starts fuel left [] d j) (hd : d ∉ left) (hdS : d ∈ S) (e : d = starts.getD j (0, 0)) (d' : Dt) : roundsAt nx fuel starts (j + 1) = roundsAt nx fuel starts j ∧ Going nx S starts fuel left [] d' (j + 1) := by
 have hm : d ∈ (roundsAt nx fuel starts j).2 := by
  rcases (h.all d).1 hdS with h1 | h1 | h1
  ·exact absurd h1 hd
  ·simp at h1
  ·exact h1
 have er : roundsAt nx fuel starts (j + 1) = roundsAt nx fuel starts j := by
  rw [roundsAt, if_pos (by rw [List.contains_iff_mem, ← e]; exact hm)]
 exact ⟨er, by rw [er]; exact h.shut, by rw [er]; exact h.nodup, by rw [er]; exact h.all, by rw [er]; exact h.len, fun h1 => absurd rfl h1⟩
end
end Go.Proofs.YtalflecmadacaaaGreat
