import Derived.OwnWalk
import Derived.Test.YtalflecmadacaaaGreatZAB
set_option maxRecDepth 100000
set_option maxHeartbeats 8000000
namespace Go.Proofs.YtalflecmadacaaaGreat
open Go Go.Proofs Go.RowKit
def inBH (a : List Int) (x : Int) : Bool := decide (x ∈ a)
theorem inB_trueH {a : List Int} {x : Int} : inBH a x = true ↔ x ∈ a := by simp [inBH]
theorem inB_falseH {a : List Int} {x : Int} : inBH a x = false ↔ x ∉ a := by simp [inBH]
theorem inB_snocH (a : List Int) (y x : Int) : inBH (a ++ [y]) x = (inBH a x || decide (x = y)) := by simp [inBH]
theorem take_snocH {α : Type} {a : List α} {j : Nat} (h : j < a.length) : a.take (j + 1) = a.take j ++ [a[j]] := by rw [List.take_add_one, List.getElem?_eq_getElem h]; rfl
def placeB (l : List Ed) (x : Int) : Bool := decide (0 ≤ x) && decide (x < (l.length : Int))
def goodB (l : List Ed) (seen : List Int) (x : Int) : Bool := placeB l x && !inBH seen x
def okB (l : List Ed) (a : List Int) (j : Nat) : Bool := (List.range j).all fun i => goodB l (a.take i) (a[i]?.getD 0)
theorem okB_succ {l : List Ed} {a : List Int} {j : Nat} (h : j < a.length) : okB l a (j + 1) = (okB l a j && goodB l (a.take j) a[j]) := by
 unfold okB
 rw [List.range_succ, List.all_append]
 simp [List.getElem?_eq_getElem h]
theorem okB_far {l : List Ed} {a : List Int} {j k : Nat} (h : okB l a j = false) (hk : j ≤ k) : okB l a k = false := by
 unfold okB at *
 rw [List.all_eq_false] at *
 obtain ⟨x, hx, hb⟩ := h
 exact ⟨x, List.mem_range.2 (by have := List.mem_range.1 hx; omega), hb⟩
def wgt (l : List Ed) (x : Int) : Int := (l[x.toNat]?.getD (0, 0, 0)).2.2
def sumW (l : List Ed) (a : List Int) (j : Nat) : Int := ((a.take j).map (wgt l)).sum
theorem sumW_succ {l : List Ed} {a : List Int} {j : Nat} (h : j < a.length) : sumW l a (j + 1) = sumW l a j + wgt l a[j] := by
 unfold sumW
 rw [take_snocH h, List.map_append, List.sum_append]
 show _ + (wgt l a[j] + 0) = _
 omega
theorem wgt_bound {l : List Ed} {n : Int} (hr : RightG n l) (x : Int) : -2147483648 < wgt l x ∧ wgt l x < 2147483648 := by
 unfold wgt
 cases h : l[x.toNat]? with
 | none => simp
 | some e => have := (hr.each e (List.mem_of_getElem? h)).1; unfold okE at this; simp; omega
theorem sumW_bound {l : List Ed} {n : Int} (hr : RightG n l) (a : List Int) : ∀ j, j ≤ a.length → -2147483648 * (j : Int) ≤ sumW l a j ∧ sumW l a j ≤ 2147483648 * (j : Int)
 | 0, _ => by simp [sumW]
 | j + 1, h => by
  have h1 := sumW_bound hr a j (by omega)
  have h2 := wgt_bound hr a[j]
  rw [sumW_succ (by omega)]
  omega
def wK (l : List Ed) (a : List Int) : Int := if okB l a a.length = true then 0 else 1
def wV (l : List Ed) (a : List Int) : Int := if okB l a a.length = true then sumW l a a.length else 0
def takenL (m : Nat) (seen : List Int) : List Bool := (List.range m).map fun (i : Nat) => inBH seen (i : Int)
theorem takenL_len (m : Nat) (seen : List Int) : (takenL m seen).length = m := by simp [takenL]
theorem takenL_at {m : Nat} {seen : List Int} {i : Nat} (h : i < m) : (takenL m seen)[i]? = some (inBH seen (i : Int)) := by simp [takenL, h]
theorem takenL_none {m : Nat} {seen : List Int} {i : Nat} (h : ¬ i < m) : (takenL m seen)[i]? = none := List.getElem?_eq_none (by rw [takenL_len]; omega)
theorem takenL_nil (m : Nat) : takenL m [] = List.replicate m false := by
 apply List.ext_getElem <;> simp [takenL, inBH]
theorem takenL_set {m : Nat} {seen : List Int} {x : Int} (h0 : 0 ≤ x) : (takenL m seen).set x.toNat true = takenL m (seen ++ [x]) := by
 apply List.ext_getElem?
 intro i
 rw [List.getElem?_set]
 by_cases hm : i < m
 ·rw [takenL_at hm, takenL_at hm, inB_snocH, takenL_len]
  split
  ·rename_i he
   rw [if_pos (by omega)]
   have : decide ((i : Int) = x) = true := by simp; omega
   rw [this, Bool.or_true]
  ·rename_i he
   have : decide ((i : Int) = x) = false := by simp; omega
   rw [this, Bool.or_false]
 ·rw [takenL_none hm, takenL_none hm, takenL_len]
  split
  ·rw [if_neg (by omega)]
  ·rfl
theorem has_anyH (a : List Int) (ha : a.length ≤ 4194304) (x : Int) (sa : Value) (m : Nat) (w : World) (hA : Ints m w sa a) :
  Calls Tryz.prog 54 #[sa, .int .i64 x] w fun r w' => r = .returned (.bool (inBH a x)) ∧ w' = w := by
 obtain ⟨p, c, rfl⟩ := hA.len
 go_enter Tryz.func54, Tryz.ntmps54
 go_wp2
 go_loop [5] (fun i => ∃ j : Nat, j ≤ a.length ∧ i = .int .i64 j ∧ Hid (inBH (a.take j) x = false)) (fun i => a.length - (intOf i).toNat)
 case atStart => exact ⟨0, Nat.zero_le _, rfl, inB_falseH.2 (by simp)⟩
 case round =>
  obtain ⟨j, hj, rfl, hr⟩ := hrel
  by_cases hlt : j < a.length
  ·obtain ⟨b, off, rfl, hbb, hcap, hc⟩ := hA.open hlt
   have c0 := hc w (Below.refl _ _) j hlt
   have hjl : (j : Int) < (a.length : Int) := by omega
   by_cases he : a[j] = x
   ·have he' : (a[j] == x) = true := by simpa using he
    have HE : Hid (inBH a x = true) := by
     unfold Hid; rw [inB_trueH, ← he]; exact List.getElem_mem hlt
    clear hc hr he
    go_wp2
    go_ret
    exact ⟨by rw [HE.out]; rfl, rfl⟩
   ·have he' : (a[j] == x) = false := by simpa using he
    have HS : Hid (inBH (a.take (j + 1)) x = false) := by
     unfold Hid
     rw [take_snocH hlt, inB_snocH, hr.out]
     simp
     exact fun h => he h.symm
    clear hc hr he
    go_wp2
    exact ⟨⟨j + 1, by omega, by go_num, HS⟩, by simp [intOf]; omega⟩
  ·obtain rfl : j = a.length := by omega
   have HE : Hid (inBH a x = false) := by have := hr.out; rwa [List.take_length] at this
   clear hr
   go_wp2
   go_ret
   exact ⟨by rw [HE.out]; rfl, rfl⟩
theorem isPlace_any (n : Int) (l : List Ed) (x : Int) (sv : Value) (w : World) (hl : Edges w.heap.size w sv l) :
  Calls Tryz.prog 53 #[.agg #[.int .i64 n, sv], .int .i64 x] w fun r w' => r = .returned (.bool (placeB l x)) ∧ Grew w w' := by
 unfold placeB
 obtain ⟨p, c, rfl⟩ := hl.len
 go_enter Tryz.func53, Tryz.ntmps53
 go_wp2
 all_goals go_ret
 all_goals refine ⟨?_, (Grew.refl w).alloc _⟩
 all_goals simp
 all_goals first | done | omega | (simp_all <;> omega)
theorem infoB : (Tryz.prog.info? 4).map (fun i => (i.zero, i.size, i.bytes)) = some (some (.bool false), 1, 1) := by kernel_rfl
theorem bools_made (n : Nat) : (madeCells (Value.bool false).cells (n * 1)).toList = (List.replicate n false).map Value.bool := by
 apply List.ext_getElem
 ·simp [madeCells]
 ·intro i h1 h2
  simp [madeCells, Value.cells, Nat.mod_one]
def wgtV (n : Int) (l : List Ed) (a : List Int) : Int := if rightK n l = 0 then wV l a else 0
def wgtK (n : Int) (l : List Ed) (a : List Int) : Int := if rightK n l = 0 then wK l a else 1
theorem weight_any (n : Int) (l : List Ed) (a : List Int) (ha : a.length ≤ 4194304) (sv sa : Value) (w : World) (hl : Edges w.heap.size w sv l) (hA : Ints w.heap.size w sa a) :
  Calls Tryz.prog 27 #[.agg #[.int .i64 n, sv], sa] w fun r w' => r = .returned (.tuple #[.int .i64 (wgtV n l a), .int .i64 (wgtK n l a)]) ∧ Below w.heap.size w w' := by
 have hg1 : Grew w (w.alloc (.cells #[.int .i64 n, sv] 24)) := (Grew.refl w).alloc _
 have hl1 := hl.go hg1.below
 obtain ⟨p, c, rfl⟩ := hl.len
 obtain ⟨pa, ca, rfl⟩ := hA.len
 obtain ⟨i0, hi, hz0, hz1, hz2⟩ := info_parts infoB
 have hrc := fun W h => right_any n l (.slice p l.length c) W h
 by_cases hr : rightK n l = 0
 ·have hR := right_iff.1 hr
  have hm1 := hR.m1
  have HV : Hid (wgtV n l a = wV l a) := if_pos hr
  have HK : Hid (wgtK n l a = wK l a) := if_pos hr
  rw [hr] at hrc
  clear hr
  go_enter Tryz.func27, Tryz.ntmps27
  go_wp2_with fail
  refine (hrc _ hl1).mono ?_
  rintro e w2 ⟨rfl, hg2⟩
  have hl2 := hl1.go hg2.below
  have q0 := (box2 _ hg2).1
  have q1 := (box2 _ hg2).2
  have hbox := box2_lt hg2
  have hbw := (hg1.trans hg2).below
  clear hrc
  go_wp2_with (at_make; refine wpList_make_full _ rfl _ _ 25 rfl w2.heap.size 4 i0 (.bool false) 1 Tryz.underlying25 hi hz0 hz1 .i64 .i64 _ _ l.length rfl rfl rfl rfl (by rw [hz2]; omega) (by unfold maxLen; omega) (Nat.le_refl _) ?_; intro w3 hown hgrow)
  have hb3 : Below w2.heap.size w2 w3 := (Below.refl _ _).grown hgrow (Nat.le_refl _) (fun k e => by cases e)
  have hrow := Blk.made hown
  rw [bools_made] at hrow
  replace q0 := (hb3.cell (p := ⟨w.heap.size, 0, none⟩) hbox).trans q0
  replace q1 := (hb3.cell (p := ⟨w.heap.size, 1, none⟩) hbox).trans q1
  have hl3 := hl2.go hb3
  have hbw3 := hbw.trans (hb3.mono hbw.size)
  have HB : Hid _ := sumW_bound hR a
  have hlw : Edges w2.heap.size w3 (.slice p l.length c) l := hl2.below hb3
  clear hown hgrow hi hz0 hz1 hz2 hg2 hl2 hl1 hbw
  generalize w2.heap.size = g at hbox hrow hb3 hlw
  clear hb3
  go_loopw [7, 19] (fun s i wr => ∃ j : Nat, j ≤ a.length ∧ i = .int .i64 j ∧ s = .int .i64 (sumW l a j) ∧ Hid (okB l a j = true) ∧ Blk 4 wr g ((takenL l.length (a.take j)).map Value.bool) ∧ Below g w3 wr) (fun _ i _ => a.length - (intOf i).toNat)
  case atStart => exact ⟨0, Nat.zero_le _, rfl, rfl, rfl, by rw [List.take_zero, takenL_nil]; exact hrow, Below.refl _ _⟩
  case round =>
   obtain ⟨j, hj, rfl, rfl, hok, hB, hb⟩ := hrel
   by_cases hlt : j < a.length
   ·obtain ⟨ba, offa, rfl, hba, hcapa, hca⟩ := hA.open hlt
    have c0 := hca wr (hbw3.trans (hb.mono (by omega))) j hlt
    have d0 := (hb.cell (p := ⟨w.heap.size, 0, none⟩) hbox).trans q0
    have d1 := (hb.cell (p := ⟨w.heap.size, 1, none⟩) hbox).trans q1
    have hjl : (j : Int) < (a.length : Int) := by omega
    have hgl := hB.lt
    have hlr : Edges wr.heap.size wr (.slice p l.length c) l := (hlw.below hb).mono (by omega)
    clear hca
    go_wp2_with fail
    refine (isPlace_any n l a[j] _ _ hlr).mono ?_
    rintro e w7 ⟨rfl, hg7⟩
    have hB7 := hB.go hg7.below
    have hb7 := hb.trans (hg7.below.mono (by omega))
    have hg7l := hB7.lt
    have d17 := (hg7.below.cell (p := ⟨w.heap.size, 1, none⟩) (by show w.heap.size < _; omega)).trans d1
    have hl7 := hlr.go hg7.below
    have hnext := okB_succ (l := l) hlt
    have hsum := sumW_succ (l := l) hlt
    have hbd := HB.out j hj
    have hbd2 := HB.out (j + 1) hlt
    rw [hok.out, Bool.true_and] at hnext
    have HT : Hid (a.take (j + 1) = a.take j ++ [a[j]]) := take_snocH hlt
    generalize a[j] = y at *
    have HNX : Hid _ := hnext
    have HSU : Hid _ := hsum
    have hbad : okB l a (j + 1) = false → Hid (wgtV n l a = 0) ∧ Hid (wgtK n l a = 1) := fun h => by
     have h1 := okB_far h (Nat.succ_le_of_lt hlt)
     unfold Hid
     rw [HV.out, HK.out]
     unfold wV wK
     rw [h1]
     exact ⟨rfl, rfl⟩
    clear hB hb c0 d0 d1 hlr hg7 hnext hsum
    cases hpl : placeB l y with
    | false =>
     obtain ⟨h1, h2⟩ := hbad (by rw [HNX.out]; unfold goodB; rw [hpl]; rfl)
     clear hbad hpl hok
     go_wp2
     go_ret2
     exact ⟨by rw [h1.out, h2.out]; rfl, hbw3.trans (hb7.mono (by omega))⟩
    | true =>
     have hy : 0 ≤ y ∧ y < (l.length : Int) := by simpa [placeB] using hpl
     obtain ⟨x, rfl⟩ : ∃ x : Nat, y = (x : Int) := ⟨y.toNat, by omega⟩
     have hx : x < l.length := by omega
     have hxl : (x : Int) < (l.length : Int) := by omega
     have t0 : w7.cell? ⟨g, x, none⟩ = some (.bool (inBH (a.take j) (x : Int))) := hB7.cell (by rw [List.getElem?_map, takenL_at hx]; rfl)
     have f0 := hB7.frozen x
     cases hin : inBH (a.take j) (x : Int) with
     | true =>
      obtain ⟨h1, h2⟩ := hbad (by rw [HNX.out]; unfold goodB; rw [hpl, hin]; rfl)
      rw [hin] at t0
      clear hbad hpl hin hok
      go_wp2
      go_ret2
      exact ⟨by rw [h1.out, h2.out]; rfl, hbw3.trans (hb7.mono (by omega))⟩
     | false =>
      have HOK : Hid (okB l a (j + 1) = true) := by unfold Hid; rw [HNX.out]; unfold goodB; rw [hpl, hin]; rfl
      rw [hin] at t0
      obtain ⟨bl, offl, rfl, hbl, hcapl, hcl, -⟩ := hl7.open hx
      obtain ⟨e0, e1, e2⟩ := hcl w7 (Below.refl _ _) x hx
      have hwx : wgt l (x : Int) = l[x].2.2 := by simp [wgt, hx]
      have hblg : bl < g := by
       rcases hlw with ⟨⟨p', c', h1⟩, h2⟩ | ⟨b', off', cap', h1, h2, _⟩
       ·rw [h2] at hx; simp at hx
       ·simp only [Value.slice.injEq, Option.some.injEq, Addr.mk.injEq] at h1
        omega
      have hne : bl ≠ g := by omega
      have hneb : w.heap.size ≠ g := by omega
      have hsm : Hid (sumW l a (j + 1) = sumW l a j + l[x].2.2) := by unfold Hid; rw [HSU.out, hwx]
      have hBn := hB7.set x (.bool true)
      rw [← List.map_set, show (takenL l.length (a.take j)).set x true = takenL l.length (a.take (j + 1)) by rw [HT.out]; exact takenL_set (x := (x : Int)) (by omega)] at hBn
      have hlo : -9223372036854775808 ≤ sumW l a j + l[x].2.2 := by rw [← hsm.out]; omega
      have hhi : sumW l a j + l[x].2.2 ≤ 9223372036854775807 := by rw [← hsm.out]; omega
      have hwr := wrap_i _ hlo hhi
      clear hbad hpl hin hok hbd hbd2 hwx hcl
      go_wp2
      refine ⟨⟨j + 1, by omega, by go_num, by rw [hsm.out], HOK, hBn, hb7.setCell (p := ⟨g, x, none⟩) (Nat.le_refl _) _⟩, by simp [intOf]; omega⟩
   ·obtain rfl : j = a.length := by omega
    have h1 : Hid (wgtV n l a = sumW l a a.length) := by unfold Hid; rw [HV.out]; unfold wV; rw [if_pos hok.out]
    have h2 : Hid (wgtK n l a = 0) := by unfold Hid; rw [HK.out]; unfold wK; rw [if_pos hok.out]
    clear hok
    go_wp2
    go_ret2
    exact ⟨by rw [h1.out, h2.out]; rfl, hbw3.trans (hb.mono (by omega))⟩
 ·have HV : Hid (wgtV n l a = 0) := if_neg hr
  have HK : Hid (wgtK n l a = 1) := if_neg hr
  generalize rightK n l = k at hrc hr
  have hk : (k == 0) = false := by simpa using hr
  clear hr
  go_enter Tryz.func27, Tryz.ntmps27
  go_wp2_with fail
  refine (hrc _ hl1).mono ?_
  rintro e w2 ⟨rfl, hg2⟩
  clear hrc
  go_wp2
  go_ret2
  exact ⟨by rw [HV.out, HK.out]; rfl, (hg1.trans hg2).below⟩
theorem Vals.take {α : Type} {enc : α → Value} {n : Nat} {W : World} {b off c : Nat} {l : List α} (h : Vals enc n W (.slice (some ⟨b, off, none⟩) l.length c) l) {j : Nat} (hj : j ≤ l.length) : Vals enc n W (.slice (some ⟨b, off, none⟩) j c) (l.take j) := by
 rcases h with ⟨⟨p, c', h1⟩, rfl⟩ | ⟨b', off', cap, h1, h2, h3, h4⟩
 ·simp at hj; subst hj; exact .inl ⟨⟨_, _, rfl⟩, rfl⟩
 ·simp only [Value.slice.injEq, Option.some.injEq, Addr.mk.injEq] at h1
  obtain ⟨⟨rfl, rfl, _⟩, _, rfl⟩ := h1
  have hl : (l.take j).length = j := by simp; omega
  refine .inr ⟨b, off, c, by rw [hl], h2, by omega, fun i x hx => ?_⟩
  refine h4 i x ?_
  have : i < j := by have := (List.getElem?_eq_some_iff.1 hx).1; omega
  rwa [List.getElem?_take_of_lt this] at hx
theorem refWeight_any (n : Int) (l : List Ed) (hR : RightG n l) (a : List Int) (ha : a.length ≤ 4194304) (sv sa : Value) (w : World) (hl : Edges w.heap.size w sv l) (hA : Ints w.heap.size w sa a) :
  Calls Tryz.prog 28 #[.agg #[.int .i64 n, sv], sa] w fun r w' => r = .returned (.tuple #[.int .i64 (wV l a), .int .i64 (wK l a)]) ∧ Grew w w' := by
 have hmix := mixed
 have hg1 : Grew w (w.alloc (.cells #[.int .i64 n, sv] 24)) := (Grew.refl w).alloc _
 obtain ⟨p, c, rfl⟩ := hl.len
 obtain ⟨pa, ca, rfl⟩ := hA.len
 have hm1 := hR.m1
 have HB : Hid _ := sumW_bound hR a
 go_enter Tryz.func28, Tryz.ntmps28
 go_wp2
 go_loopw [6, 7] (fun s i wr => ∃ j : Nat, j ≤ a.length ∧ i = .int .i64 j ∧ s = .int .i64 (sumW l a j) ∧ Hid (okB l a j = true) ∧ Grew (w.alloc (.cells #[.int .i64 n, .slice p l.length c] 24)) wr) (fun _ i _ => a.length - (intOf i).toNat)
 case atStart => exact ⟨0, Nat.zero_le _, rfl, rfl, rfl, Grew.refl _⟩
 case round =>
  obtain ⟨j, hj, rfl, rfl, hok, hg⟩ := hrel
  by_cases hlt : j < a.length
  ·obtain ⟨ba, offa, rfl, hba, hcapa, hca⟩ := hA.open hlt
   have c0 := hca wr (hg1.trans hg).below j hlt
   have d1 := (box2 _ hg).2
   have hjl : (j : Int) < (a.length : Int) := by omega
   have hnext := okB_succ (l := l) hlt
   have hsum := sumW_succ (l := l) hlt
   have hbd := HB.out j hj
   have hbd2 := HB.out (j + 1) hlt
   rw [hok.out, Bool.true_and] at hnext
   have hcj : ∀ W', Below w.heap.size w W' → W'.cell? ⟨ba, offa + j, none⟩ = some (.int .i64 a[j]) := fun W' hW => hca W' hW j hlt
   have hpre : ∀ W', Below w.heap.size w W' → Ints w.heap.size W' (.slice (some ⟨ba, offa, none⟩) j ca) (a.take j) := fun W' hW => (hA.below hW).take hj
   generalize a[j] = y at *
   have HNX : Hid _ := hnext
   have HSU : Hid _ := hsum
   have HP : Hid _ := hpre
   have HCJ : Hid _ := hcj
   have hbad : okB l a (j + 1) = false → Hid (wV l a = 0) ∧ Hid (wK l a = 1) := fun h => by
    have h1 := okB_far h (Nat.succ_le_of_lt hlt)
    unfold Hid wV wK
    rw [h1]
    exact ⟨rfl, rfl⟩
   clear hca hnext hsum hpre hcj
   by_cases hneg : y < 0
   ·obtain ⟨h1, h2⟩ := hbad (by rw [HNX.out]; unfold goodB placeB; simp; omega)
    have hd : decide (y < 0) = true := by simpa using hneg
    clear hbad hok
    go_wp2
    go_big_region_o
    go_wp2
    go_ret2
    exact ⟨by rw [h1.out, h2.out]; rfl, (hg1.trans hg).drewN 1⟩
   ·have hd : decide (y < 0) = false := by simpa using hneg
    by_cases hbig : (l.length : Int) ≤ y
    ·obtain ⟨h1, h2⟩ := hbad (by rw [HNX.out]; unfold goodB placeB; simp; omega)
     have hd2 : decide ((l.length : Int) ≤ y) = true := by simpa using hbig
     clear hbad hok
     go_wp2
     go_big_region_o
     go_wp2
     go_ret2
     exact ⟨by rw [h1.out, h2.out]; rfl, (hg1.trans hg).drewN 1⟩
    ·obtain ⟨x, rfl⟩ : ∃ x : Nat, y = (x : Int) := ⟨y.toNat, by omega⟩
     have hx : x < l.length := by omega
     have hxl : (x : Int) < (l.length : Int) := by omega
     have hpl : placeB l (x : Int) = true := by unfold placeB; simp; omega
     have hd2 : decide ((l.length : Int) ≤ (x : Int)) = false := by simpa using hbig
     have hjc : (j : Int) ≤ (ca : Int) := by omega
     have hj0 : (0 : Int) ≤ (j : Int) := by omega
     have hht : ∀ q, Calls Tryz.prog 54 #[.slice (some ⟨ba, offa, none⟩) j ca, .int .i64 (x : Int)] (wr.drewN q) fun r w' => r = .returned (.bool (inBH (a.take j) (x : Int))) ∧ w' = wr.drewN q := fun q => has_anyH (a.take j) (by simp; omega) x _ w.heap.size _ (HP.out _ (below_drewN (hg1.trans hg).below q))
     go_wp2
     go_quiet ((go_at_call 54; exact Calls.quiet_of_same (hht _)))
     have hgq := hg.drewN nq
     have hd3 : decide (l.length ≤ x) = false := by simp; omega
     rw [hd3, Bool.false_or]
     generalize wr.drewN nq = w8 at hgq ⊢
     clear c0 d1 hht hg hd2
     cases hin : inBH (a.take j) (x : Int) with
     | true =>
      obtain ⟨h1, h2⟩ := hbad (by rw [HNX.out]; unfold goodB; rw [hpl, hin]; rfl)
      clear hbad hpl hin hok
      go_wp2
      go_ret2
      exact ⟨by rw [h1.out, h2.out]; rfl, hg1.trans hgq⟩
     | false =>
      have HOK : Hid (okB l a (j + 1) = true) := by unfold Hid; rw [HNX.out]; unfold goodB; rw [hpl, hin]; rfl
      obtain ⟨bl, offl, rfl, hbl, hcapl, hcl, -⟩ := hl.open hx
      obtain ⟨e0, e1, e2⟩ := hcl w8 (hg1.trans hgq).below x hx
      have c0 := (HP.out w8 (hg1.trans hgq).below)
      have c1 : w8.cell? ⟨ba, offa + j, none⟩ = some (.int .i64 (x : Int)) := HCJ.out w8 (hg1.trans hgq).below
      have d1 := (box2 _ hgq).2
      have hwx : wgt l (x : Int) = l[x].2.2 := by simp [wgt, hx]
      have hsm : Hid (sumW l a (j + 1) = sumW l a j + l[x].2.2) := by unfold Hid; rw [HSU.out, hwx]
      have hlo : -9223372036854775808 ≤ sumW l a j + l[x].2.2 := by rw [← hsm.out]; omega
      have hhi : sumW l a j + l[x].2.2 ≤ 9223372036854775807 := by rw [← hsm.out]; omega
      have hwr := wrap_i _ hlo hhi
      clear hbad hpl hin hok hbd hbd2 hwx hcl c0
      go_wp2
      go_quiet (fail)
      have hgq2 := hgq.drewN nq
      go_wp2
      exact ⟨⟨j + 1, by omega, by go_num, by rw [hsm.out], HOK, hgq2⟩, by simp [intOf]; omega⟩
  ·obtain rfl : j = a.length := by omega
   have h1 : Hid (wV l a = sumW l a a.length) := by unfold Hid wV; rw [if_pos hok.out]
   have h2 : Hid (wK l a = 0) := by unfold Hid wK; rw [if_pos hok.out]
   clear hok
   go_wp2
   go_ret2
   exact ⟨by rw [h1.out, h2.out]; rfl, hg1.trans hg⟩
end Go.Proofs.YtalflecmadacaaaGreat
