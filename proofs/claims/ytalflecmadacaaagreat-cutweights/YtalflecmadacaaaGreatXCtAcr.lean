import Derived.OwnWalk
import Derived.BigQuiet
import Derived.Test.YtalflecmadacaaaGreatZAN
import Derived.Test.YtalflecmadacaaaGreatXGWgt
import Derived.Test.YtalflecmadacaaaGreatZAB
set_option maxRecDepth 100000
set_option maxHeartbeats 8000000
namespace Go.Proofs.YtalflecmadacaaaGreat
open Go Go.Proofs Go.RowKit
def acrT (l : List Ed) (S : List Bool) : List Bool := l.map fun e => bAt S e.1.toNat != bAt S e.2.1.toNat
theorem acrT_at {l : List Ed} {S : List Bool} {j : Nat} (h : j < l.length) : bAt (acrT l S) j = (bAt S l[j].1.toNat != bAt S l[j].2.1.toNat) := by simp [acrT, bAt, h]
def okC (n : Int) (l : List Ed) (S : List Bool) : Bool := decide (rightK n l = 0 ∧ (S.length : Int) = n)
def acrK (n : Int) (l : List Ed) (S : List Bool) : Int := if okC n l S = true then 0 else 1
def acrV (n : Int) (l : List Ed) (S : List Bool) : List Int := if okC n l S = true then trueK (acrT l S) l.length else []
theorem acr_yes {n : Int} {l : List Ed} {S : List Bool} (h : rightK n l = 0) (h2 : (S.length : Int) = n) : acrK n l S = 0 ∧ acrV n l S = trueK (acrT l S) l.length := by
 have : okC n l S = true := by simp [okC, h, h2]
 exact ⟨if_pos this, if_pos this⟩
theorem acr_no {n : Int} {l : List Ed} {S : List Bool} (h : ¬ (rightK n l = 0 ∧ (S.length : Int) = n)) : acrK n l S = 1 ∧ acrV n l S = [] := by
 have : ¬ okC n l S = true := by simpa [okC] using h
 exact ⟨if_neg this, if_neg this⟩
theorem across_any (n : Int) (l : List Ed) (S : List Bool) (sv bv : Value) (w : World) (hl : Edges w.heap.size w sv l) (hS : Bools w.heap.size w bv S) :
  Calls Tryz.prog 10 #[.agg #[.int .i64 n, sv], bv] w fun r w' => ∃ lv, r = .returned (.tuple #[lv, .int .i64 (acrK n l S)]) ∧ Ints w'.heap.size w' lv (acrV n l S) ∧ Below w.heap.size w w' := by
 have hmix := mixed
 obtain ⟨p, c, rfl⟩ := hl.len
 obtain ⟨ps, cs, rfl⟩ := hS.len
 obtain ⟨w1, hw1⟩ : ∃ W, (w.alloc (.cells #[.int .i64 n, .slice p l.length c] 24)) = W := ⟨_, rfl⟩
 have hb1 : Below w.heap.size w w1 := by rw [← hw1]; exact (Below.refl _ _).alloc (Nat.le_refl _) _
 have hX1 : Blk 24 w1 w.heap.size [.int .i64 n, .slice p l.length c] := by rw [← hw1]; exact heap_alloc_new w _
 have hrc := right_any n l (.slice p l.length c) w1 (hl.go hb1)
 have x0 := hX1.cell (j := 0) rfl
 have x1 := hX1.cell (j := 1) rfl
 have HX1 : Hid (Blk 24 w1 w.heap.size [.int .i64 n, .slice p l.length c]) := hX1
 have HB1 : Hid (Below w.heap.size w w1) := hb1
 have HL : Hid (Edges w.heap.size w (.slice p l.length c) l) := hl
 have HS : Hid (Bools w.heap.size w (.slice ps S.length cs) S) := hS
 clear hX1 hb1 hl hS
 go_enter Tryz.func10, Tryz.ntmps10
 go_wp2_with fail
 refine hrc.mono ?_
 rintro e w2 ⟨rfl, hg2⟩
 clear hrc hw1 x0 x1
 have hX2 := HX1.out.go hg2.below
 have x0 := hX2.cell (j := 0) rfl
 have x1 := hX2.cell (j := 1) rfl
 have HX2 : Hid (Blk 24 w2 w.heap.size [.int .i64 n, .slice p l.length c]) := hX2
 have HB2 : Hid (Below w.heap.size w w2) := HB1.out.trans (hg2.below.mono HB1.out.size)
 have hlx := hX2.lt
 clear hX2 hg2 HX1 HB1
 by_cases hk : rightK n l = 0
 ·by_cases hn : (S.length : Int) = n
  ·have HE : Hid (acrK n l S = 0 ∧ acrV n l S = trueK (acrT l S) l.length) := acr_yes hk hn
   have HR : Hid (RightG n l) := right_iff.1 hk
   have hm1 := HR.out.m1
   rw [hk]
   subst hn
   clear hk
   go_wp2
   go_loopw [6, 22] (fun lv iv wr => ∃ j : Nat, j ≤ l.length ∧ iv = .int .i64 (j : Int) ∧ wr.ownsRow (w.heap.size + 1) 3 1 lv (trueK (acrT l S) j).length ((trueK (acrT l S) j).map (Value.int .i64)) ∧ Hid (Blk 24 wr w.heap.size [.int .i64 (S.length : Int), .slice p l.length c]) ∧ Hid (Below w.heap.size w wr)) (fun _ i _ => l.length - (intOf i).toNat)
   case atStart => exact ⟨0, Nat.zero_le _, rfl, World.ownsRow_nil _ _ _ _, HX2, HB2⟩
   case round =>
    clear HX2 HB2 x0 x1
    obtain ⟨j, hj, rfl, hO, HX, HB⟩ := hrel
    obtain ⟨pp, cc, rfl⟩ := owns_formP hO
    have x1 := HX.out.cell (j := 1) rfl
    by_cases hlt : j < l.length
    ·have hjl : (j : Int) < (l.length : Int) := by omega
     obtain ⟨b, off, rfl, hbb, hcap, hc, -⟩ := HL.out.open hlt
     obtain ⟨e0, e1, e2⟩ := hc _ HB.out j hlt
     have hok := (HR.out.each l[j] (List.getElem_mem hlt)).1
     unfold okE at hok
     have hat := acrT_at (S := S) hlt
     obtain ⟨U, hU⟩ : ∃ U : Nat, l[j].1 = (U : Int) := ⟨l[j].1.toNat, by omega⟩
     obtain ⟨V, hV⟩ : ∃ V : Nat, l[j].2.1 = (V : Int) := ⟨l[j].2.1.toNat, by omega⟩
     rw [hU, hV, Int.toNat_natCast, Int.toNat_natCast] at hat
     rw [hU] at e0
     rw [hV] at e1
     have hUN : U < S.length := by omega
     have hVN : V < S.length := by omega
     obtain ⟨b2, off2, rfl, hbb2, hcap2, hc2⟩ := Vals.open (enc := Value.bool) HS.out hUN
     have d0 := hc2 wr HB.out U hUN
     have d1 := hc2 wr HB.out V hVN
     have hbU : bAt S U = S[U] := by simp [bAt, hUN]
     have hbV : bAt S V = S[V] := by simp [bAt, hVN]
     rw [← hbU] at d0
     rw [← hbV] at d1
     have hUl : (U : Int) < (S.length : Int) := by omega
     have hVl : (V : Int) < (S.length : Int) := by omega
     have hlen := trueK_len (acrT l S) j
     have hst : Hid _ := trueK_succ (acrT l S) j
     have HAT : Hid _ := hat
     have HLT : Hid (j < l.length) := hlt
     have hxl := HX.out.lt
     have HO : Hid _ := hO
     generalize l[j].2.2 = wt at e2
     clear hc hc2 hok hU hV hlt hbb hcap hbb2 hcap2 hbU hbV hat hO
     generalize bAt S U = bU at *
     generalize bAt S V = bV at *
     have HEf : bAt (acrT l S) j = false → Hid (trueK (acrT l S) (j + 1) = trueK (acrT l S) j) := fun h => by unfold Hid; rw [hst.out, h]; simp
     have HEt : bAt (acrT l S) j = true → Hid (trueK (acrT l S) (j + 1) = trueK (acrT l S) j ++ [(j : Int)]) := fun h => by unfold Hid; rw [hst.out, h]; simp
     clear hst
     cases bU with
     | false =>
      cases bV with
      | false =>
       have HE2 := HEf HAT.out
       clear HEf HEt HAT
       obtain ⟨w4, hw4⟩ : ∃ W, wr.alloc (.cells #[.int .i64 (U : Int), .int .i64 (V : Int), .int .i64 wt] 50) = W := ⟨_, rfl⟩
       have hb4 : Below wr.heap.size wr w4 := by rw [← hw4]; exact (Below.refl _ _).alloc (Nat.le_refl _) _
       have hY4 : Blk 50 w4 wr.heap.size [.int .i64 (U : Int), .int .i64 (V : Int), .int .i64 wt] := by rw [← hw4]; exact heap_alloc_new wr _
       have y0 := hY4.cell (j := 0) rfl
       have y1 := hY4.cell (j := 1) rfl
       have d0 := cell_keepK hb4 d0
       have d1 := cell_keepK hb4 d1
       have HW4 : Hid (wr.alloc (.cells #[.int .i64 (U : Int), .int .i64 (V : Int), .int .i64 wt] 50) = w4) := hw4
       have HX4 : Hid (Blk 24 w4 w.heap.size [.int .i64 (S.length : Int), .slice (some ⟨b, off, none⟩) l.length c]) := HX.out.go hb4
       have HB4 : Hid (Below w.heap.size w w4) := HB.out.trans (hb4.mono HB.out.size)
       have HO4 : Hid (w4.ownsRow (w.heap.size + 1) 3 1 (.slice pp (trueK (acrT l S) j).length cc) (trueK (acrT l S) j).length ((trueK (acrT l S) j).map (Value.int .i64))) := owns_goC HO.out hb4
       have hz4 : w.heap.size + 1 ≤ w4.heap.size := Nat.le_trans hxl hb4.size
       clear hw4 hb4 hY4 HX HB HO
       go_wp2
       rw [HW4.out]
       clear HW4
       go_quiet (fail)
       have hbq : Below w4.heap.size w4 (w4.drewN nq) := below_drewN (Below.refl _ _) nq
       have HX5 : Hid (Blk 24 (w4.drewN nq) w.heap.size [.int .i64 (S.length : Int), .slice (some ⟨b, off, none⟩) l.length c]) := HX4.out
       have HB5 : Hid (Below w.heap.size w (w4.drewN nq)) := below_drewN HB4.out nq
       have HO5 : Hid ((w4.drewN nq).ownsRow (w.heap.size + 1) 3 1 (.slice pp (trueK (acrT l S) j).length cc) (trueK (acrT l S) j).length ((trueK (acrT l S) j).map (Value.int .i64))) := owns_goC HO4.out hbq
       have hz5 : w.heap.size + 1 ≤ (w4.drewN nq).heap.size := hz4
       obtain ⟨w5, hw5⟩ : ∃ W, w4.drewN nq = W := ⟨_, rfl⟩
       rw [hw5] at HX5 HB5 HO5 hz5 ⊢
       clear hw5 hbq HX4 HB4 HO4 hz4
       clear e0 e1 e2 d0 d1 y0 y1
       go_wp2
       refine ⟨⟨j + 1, HLT.out, by go_num, ?_, HX5, HB5⟩, by have := HLT.out; simp [intOf]; omega⟩
       rw [HE2.out]
       exact HO5.out
      | true =>
       have HE2 := HEt HAT.out
       clear HEf HEt HAT
       obtain ⟨w4, hw4⟩ : ∃ W, wr.alloc (.cells #[.int .i64 (U : Int), .int .i64 (V : Int), .int .i64 wt] 50) = W := ⟨_, rfl⟩
       have hb4 : Below wr.heap.size wr w4 := by rw [← hw4]; exact (Below.refl _ _).alloc (Nat.le_refl _) _
       have hY4 : Blk 50 w4 wr.heap.size [.int .i64 (U : Int), .int .i64 (V : Int), .int .i64 wt] := by rw [← hw4]; exact heap_alloc_new wr _
       have y0 := hY4.cell (j := 0) rfl
       have y1 := hY4.cell (j := 1) rfl
       have d0 := cell_keepK hb4 d0
       have d1 := cell_keepK hb4 d1
       have HW4 : Hid (wr.alloc (.cells #[.int .i64 (U : Int), .int .i64 (V : Int), .int .i64 wt] 50) = w4) := hw4
       have HX4 : Hid (Blk 24 w4 w.heap.size [.int .i64 (S.length : Int), .slice (some ⟨b, off, none⟩) l.length c]) := HX.out.go hb4
       have HB4 : Hid (Below w.heap.size w w4) := HB.out.trans (hb4.mono HB.out.size)
       have HO4 : Hid (w4.ownsRow (w.heap.size + 1) 3 1 (.slice pp (trueK (acrT l S) j).length cc) (trueK (acrT l S) j).length ((trueK (acrT l S) j).map (Value.int .i64))) := owns_goC HO.out hb4
       have hz4 : w.heap.size + 1 ≤ w4.heap.size := Nat.le_trans hxl hb4.size
       clear hw4 hb4 hY4 HX HB HO
       go_wp2
       rw [HW4.out]
       clear HW4
       go_quiet (fail)
       have hbq : Below w4.heap.size w4 (w4.drewN nq) := below_drewN (Below.refl _ _) nq
       have HX5 : Hid (Blk 24 (w4.drewN nq) w.heap.size [.int .i64 (S.length : Int), .slice (some ⟨b, off, none⟩) l.length c]) := HX4.out
       have HB5 : Hid (Below w.heap.size w (w4.drewN nq)) := below_drewN HB4.out nq
       have HO5 : Hid ((w4.drewN nq).ownsRow (w.heap.size + 1) 3 1 (.slice pp (trueK (acrT l S) j).length cc) (trueK (acrT l S) j).length ((trueK (acrT l S) j).map (Value.int .i64))) := owns_goC HO4.out hbq
       have hz5 : w.heap.size + 1 ≤ (w4.drewN nq).heap.size := hz4
       obtain ⟨w5, hw5⟩ : ∃ W, w4.drewN nq = W := ⟨_, rfl⟩
       rw [hw5] at HX5 HB5 HO5 hz5 ⊢
       clear hw5 hbq HX4 HB4 HO4 hz4
       clear e0 e1 e2 d0 d1 y0 y1
       obtain ⟨i2, hi, hz0, hz1, hz2⟩ := info_parts infoPi
       have hbA : Below w5.heap.size w5 (w5.alloc (.cells #[.int .i64 (j : Int)] 3)) := (Below.refl _ _).alloc (Nat.le_refl _) _
       have hOA := World.ownsRow.alloc HO5.out (.cells #[.int .i64 (j : Int)] 3)
       have hnews := one_cellC w5 (.int .i64 (j : Int)) 3
       have hone : ∀ y ∈ [Value.int .i64 (j : Int)], y.oneCell' = true := fun y hy => by rw [List.mem_singleton.1 hy]; rfl
       have hmx : (trueK (acrT l S) j).length + 1 ≤ maxLen := by unfold maxLen; omega
       have hby : ((trueK (acrT l S) j).length + 1) * 8 ≤ 140737488355328 := by omega
       have hbs : w.heap.size + 1 ≤ (w5.alloc (.cells #[.int .i64 (j : Int)] 3)).heap.size := Nat.le_trans hz5 hbA.size
       have hlow : ∀ q, (Value.slice pp (trueK (acrT l S) j).length cc).ownBlock = some q → w.heap.size + 1 ≤ q := fun q hq => (HO5.out.lt q hq).1
       go_wp2_with (at_builtin; refine wpList_append_own_at _ rfl _ _ 27 rfl (w.heap.size + 1) 3 i2 (.int .i64 0) 1 8 Tryz.underlying27 hi hz0 hz1 hz2 rfl (by decide) (.slice pp (trueK (acrT l S) j).length cc) _ _ rfl hOA ⟨w5.heap.size, 0, none⟩ 1 1 [.int .i64 (j : Int)] rfl rfl hnews hone hmx hby hbs ?_)
       intro v9 w9 hown9 hg9 hnil9 hat9
       have hb9 : Below (w.heap.size + 1) w5 w9 := (hbA.mono hz5).grown hg9 hbs (fun q hq => hlow q hq)
       have HX9 : Hid (Blk 24 w9 w.heap.size [.int .i64 (S.length : Int), .slice (some ⟨b, off, none⟩) l.length c]) := (hb9.block w.heap.size (by omega)).trans HX5.out
       have HB9 : Hid (Below w.heap.size w w9) := HB5.out.trans (hb9.mono (by omega))
       have HO9 : Hid (w9.ownsRow (w.heap.size + 1) 3 1 v9 ((trueK (acrT l S) j).length + 1) ((trueK (acrT l S) j).map (Value.int .i64) ++ [.int .i64 (j : Int)])) := hown9
       obtain ⟨a9, c9, rfl⟩ := owns_formP hown9
       clear hbA hOA hnews hone hmx hby hbs hlow hown9 hg9 hnil9 hat9 hb9 hi hz0 hz1 hz2 HX5 HO5 HB5
       go_wp2
       refine ⟨⟨j + 1, HLT.out, by go_num, ?_, HX9, HB9⟩, by have := HLT.out; simp [intOf]; omega⟩
       rw [HE2.out, List.length_append, List.map_append]
       exact HO9.out
     | true =>
      cases bV with
      | false =>
       have HE2 := HEt HAT.out
       clear HEf HEt HAT
       obtain ⟨w4, hw4⟩ : ∃ W, wr.alloc (.cells #[.int .i64 (U : Int), .int .i64 (V : Int), .int .i64 wt] 50) = W := ⟨_, rfl⟩
       have hb4 : Below wr.heap.size wr w4 := by rw [← hw4]; exact (Below.refl _ _).alloc (Nat.le_refl _) _
       have hY4 : Blk 50 w4 wr.heap.size [.int .i64 (U : Int), .int .i64 (V : Int), .int .i64 wt] := by rw [← hw4]; exact heap_alloc_new wr _
       have y0 := hY4.cell (j := 0) rfl
       have y1 := hY4.cell (j := 1) rfl
       have d0 := cell_keepK hb4 d0
       have d1 := cell_keepK hb4 d1
       have HW4 : Hid (wr.alloc (.cells #[.int .i64 (U : Int), .int .i64 (V : Int), .int .i64 wt] 50) = w4) := hw4
       have HX4 : Hid (Blk 24 w4 w.heap.size [.int .i64 (S.length : Int), .slice (some ⟨b, off, none⟩) l.length c]) := HX.out.go hb4
       have HB4 : Hid (Below w.heap.size w w4) := HB.out.trans (hb4.mono HB.out.size)
       have HO4 : Hid (w4.ownsRow (w.heap.size + 1) 3 1 (.slice pp (trueK (acrT l S) j).length cc) (trueK (acrT l S) j).length ((trueK (acrT l S) j).map (Value.int .i64))) := owns_goC HO.out hb4
       have hz4 : w.heap.size + 1 ≤ w4.heap.size := Nat.le_trans hxl hb4.size
       clear hw4 hb4 hY4 HX HB HO
       go_wp2
       rw [HW4.out]
       clear HW4
       go_quiet (fail)
       have hbq : Below w4.heap.size w4 (w4.drewN nq) := below_drewN (Below.refl _ _) nq
       have HX5 : Hid (Blk 24 (w4.drewN nq) w.heap.size [.int .i64 (S.length : Int), .slice (some ⟨b, off, none⟩) l.length c]) := HX4.out
       have HB5 : Hid (Below w.heap.size w (w4.drewN nq)) := below_drewN HB4.out nq
       have HO5 : Hid ((w4.drewN nq).ownsRow (w.heap.size + 1) 3 1 (.slice pp (trueK (acrT l S) j).length cc) (trueK (acrT l S) j).length ((trueK (acrT l S) j).map (Value.int .i64))) := owns_goC HO4.out hbq
       have hz5 : w.heap.size + 1 ≤ (w4.drewN nq).heap.size := hz4
       obtain ⟨w5, hw5⟩ : ∃ W, w4.drewN nq = W := ⟨_, rfl⟩
       rw [hw5] at HX5 HB5 HO5 hz5 ⊢
       clear hw5 hbq HX4 HB4 HO4 hz4
       clear e0 e1 e2 d0 d1 y0 y1
       obtain ⟨i2, hi, hz0, hz1, hz2⟩ := info_parts infoPi
       have hbA : Below w5.heap.size w5 (w5.alloc (.cells #[.int .i64 (j : Int)] 3)) := (Below.refl _ _).alloc (Nat.le_refl _) _
       have hOA := World.ownsRow.alloc HO5.out (.cells #[.int .i64 (j : Int)] 3)
       have hnews := one_cellC w5 (.int .i64 (j : Int)) 3
       have hone : ∀ y ∈ [Value.int .i64 (j : Int)], y.oneCell' = true := fun y hy => by rw [List.mem_singleton.1 hy]; rfl
       have hmx : (trueK (acrT l S) j).length + 1 ≤ maxLen := by unfold maxLen; omega
       have hby : ((trueK (acrT l S) j).length + 1) * 8 ≤ 140737488355328 := by omega
       have hbs : w.heap.size + 1 ≤ (w5.alloc (.cells #[.int .i64 (j : Int)] 3)).heap.size := Nat.le_trans hz5 hbA.size
       have hlow : ∀ q, (Value.slice pp (trueK (acrT l S) j).length cc).ownBlock = some q → w.heap.size + 1 ≤ q := fun q hq => (HO5.out.lt q hq).1
       go_wp2_with (at_builtin; refine wpList_append_own_at _ rfl _ _ 27 rfl (w.heap.size + 1) 3 i2 (.int .i64 0) 1 8 Tryz.underlying27 hi hz0 hz1 hz2 rfl (by decide) (.slice pp (trueK (acrT l S) j).length cc) _ _ rfl hOA ⟨w5.heap.size, 0, none⟩ 1 1 [.int .i64 (j : Int)] rfl rfl hnews hone hmx hby hbs ?_)
       intro v9 w9 hown9 hg9 hnil9 hat9
       have hb9 : Below (w.heap.size + 1) w5 w9 := (hbA.mono hz5).grown hg9 hbs (fun q hq => hlow q hq)
       have HX9 : Hid (Blk 24 w9 w.heap.size [.int .i64 (S.length : Int), .slice (some ⟨b, off, none⟩) l.length c]) := (hb9.block w.heap.size (by omega)).trans HX5.out
       have HB9 : Hid (Below w.heap.size w w9) := HB5.out.trans (hb9.mono (by omega))
       have HO9 : Hid (w9.ownsRow (w.heap.size + 1) 3 1 v9 ((trueK (acrT l S) j).length + 1) ((trueK (acrT l S) j).map (Value.int .i64) ++ [.int .i64 (j : Int)])) := hown9
       obtain ⟨a9, c9, rfl⟩ := owns_formP hown9
       clear hbA hOA hnews hone hmx hby hbs hlow hown9 hg9 hnil9 hat9 hb9 hi hz0 hz1 hz2 HX5 HO5 HB5
       go_wp2
       refine ⟨⟨j + 1, HLT.out, by go_num, ?_, HX9, HB9⟩, by have := HLT.out; simp [intOf]; omega⟩
       rw [HE2.out, List.length_append, List.map_append]
       exact HO9.out
      | true =>
       have HE2 := HEf HAT.out
       clear HEf HEt HAT
       obtain ⟨w4, hw4⟩ : ∃ W, wr.alloc (.cells #[.int .i64 (U : Int), .int .i64 (V : Int), .int .i64 wt] 50) = W := ⟨_, rfl⟩
       have hb4 : Below wr.heap.size wr w4 := by rw [← hw4]; exact (Below.refl _ _).alloc (Nat.le_refl _) _
       have hY4 : Blk 50 w4 wr.heap.size [.int .i64 (U : Int), .int .i64 (V : Int), .int .i64 wt] := by rw [← hw4]; exact heap_alloc_new wr _
       have y0 := hY4.cell (j := 0) rfl
       have y1 := hY4.cell (j := 1) rfl
       have d0 := cell_keepK hb4 d0
       have d1 := cell_keepK hb4 d1
       have HW4 : Hid (wr.alloc (.cells #[.int .i64 (U : Int), .int .i64 (V : Int), .int .i64 wt] 50) = w4) := hw4
       have HX4 : Hid (Blk 24 w4 w.heap.size [.int .i64 (S.length : Int), .slice (some ⟨b, off, none⟩) l.length c]) := HX.out.go hb4
       have HB4 : Hid (Below w.heap.size w w4) := HB.out.trans (hb4.mono HB.out.size)
       have HO4 : Hid (w4.ownsRow (w.heap.size + 1) 3 1 (.slice pp (trueK (acrT l S) j).length cc) (trueK (acrT l S) j).length ((trueK (acrT l S) j).map (Value.int .i64))) := owns_goC HO.out hb4
       have hz4 : w.heap.size + 1 ≤ w4.heap.size := Nat.le_trans hxl hb4.size
       clear hw4 hb4 hY4 HX HB HO
       go_wp2
       rw [HW4.out]
       clear HW4
       go_quiet (fail)
       have hbq : Below w4.heap.size w4 (w4.drewN nq) := below_drewN (Below.refl _ _) nq
       have HX5 : Hid (Blk 24 (w4.drewN nq) w.heap.size [.int .i64 (S.length : Int), .slice (some ⟨b, off, none⟩) l.length c]) := HX4.out
       have HB5 : Hid (Below w.heap.size w (w4.drewN nq)) := below_drewN HB4.out nq
       have HO5 : Hid ((w4.drewN nq).ownsRow (w.heap.size + 1) 3 1 (.slice pp (trueK (acrT l S) j).length cc) (trueK (acrT l S) j).length ((trueK (acrT l S) j).map (Value.int .i64))) := owns_goC HO4.out hbq
       have hz5 : w.heap.size + 1 ≤ (w4.drewN nq).heap.size := hz4
       obtain ⟨w5, hw5⟩ : ∃ W, w4.drewN nq = W := ⟨_, rfl⟩
       rw [hw5] at HX5 HB5 HO5 hz5 ⊢
       clear hw5 hbq HX4 HB4 HO4 hz4
       clear e0 e1 e2 d0 d1 y0 y1
       go_wp2
       refine ⟨⟨j + 1, HLT.out, by go_num, ?_, HX5, HB5⟩, by have := HLT.out; simp [intOf]; omega⟩
       rw [HE2.out]
       exact HO5.out
    ·obtain rfl : j = l.length := by omega
     have HI := ints_ownsT hO
     have HIh : Hid _ := HI
     clear HI hO
     go_wp2
     refine bodyPost_ret (results_tmp2 rfl _ _ _) rfl ?_
     exact ⟨_, by rw [HE.out.1]; rfl, by rw [HE.out.2]; exact HIh.out, HB.out⟩
  ·have HE : Hid (acrK n l S = 1 ∧ acrV n l S = []) := acr_no (fun h => hn h.2)
   have hnb : ((S.length : Int) == n) = false := by simpa using hn
   rw [hk]
   clear hk
   go_wp2
   refine bodyPost_ret (results_tmp2 rfl _ _ _) rfl ?_
   exact ⟨_, by rw [HE.out.1]; rfl, by rw [HE.out.2]; exact Vals.nil _ _ _ _, HB2.out⟩
 ·have HE : Hid (acrK n l S = 1 ∧ acrV n l S = []) := acr_no (fun h => hk h.1)
  have hkb : (rightK n l == 0) = false := by simpa using hk
  generalize rightK n l = k at *
  go_wp2
  refine bodyPost_ret (results_tmp2 rfl _ _ _) rfl ?_
  exact ⟨_, by rw [HE.out.1]; rfl, by rw [HE.out.2]; exact Vals.nil _ _ _ _, HB2.out⟩
theorem refAcross_any (n : Int) (l : List Ed) (S : List Bool) (sv bv : Value) (w : World) (hl : Edges w.heap.size w sv l) (hS : Bools w.heap.size w bv S) :
  Calls Tryz.prog 11 #[.agg #[.int .i64 n, sv], bv] w fun r w' => ∃ lv, r = .returned (.tuple #[lv, .int .i64 (acrK n l S)]) ∧ Ints w'.heap.size w' lv (acrV n l S) ∧ Below w.heap.size w w' := by
 have hmix := mixed
 obtain ⟨p, c, rfl⟩ := hl.len
 obtain ⟨ps, cs, rfl⟩ := hS.len
 obtain ⟨w1, hw1⟩ : ∃ W, (w.alloc (.cells #[.int .i64 n, .slice p l.length c] 24)) = W := ⟨_, rfl⟩
 have hb1 : Below w.heap.size w w1 := by rw [← hw1]; exact (Below.refl _ _).alloc (Nat.le_refl _) _
 have hX1 : Blk 24 w1 w.heap.size [.int .i64 n, .slice p l.length c] := by rw [← hw1]; exact heap_alloc_new w _
 have hrc := refRight_any n l (.slice p l.length c) w1 (hl.go hb1)
 have x0 := hX1.cell (j := 0) rfl
 have x1 := hX1.cell (j := 1) rfl
 have HX1 : Hid (Blk 24 w1 w.heap.size [.int .i64 n, .slice p l.length c]) := hX1
 have HB1 : Hid (Below w.heap.size w w1) := hb1
 have HL : Hid (Edges w.heap.size w (.slice p l.length c) l) := hl
 have HS : Hid (Bools w.heap.size w (.slice ps S.length cs) S) := hS
 clear hX1 hb1 hl hS
 go_enter Tryz.func11, Tryz.ntmps11
 go_wp2_with fail
 refine hrc.mono ?_
 rintro e w2 ⟨rfl, hg2⟩
 clear hrc hw1 x0 x1
 have hX2 := HX1.out.go hg2.below
 have x0 := hX2.cell (j := 0) rfl
 have x1 := hX2.cell (j := 1) rfl
 have HX2 : Hid (Blk 24 w2 w.heap.size [.int .i64 n, .slice p l.length c]) := hX2
 have HB2 : Hid (Below w.heap.size w w2) := HB1.out.trans (hg2.below.mono HB1.out.size)
 have hlx := hX2.lt
 clear hX2 hg2 HX1 HB1
 by_cases hk : rightK n l = 0
 ·by_cases hn : (S.length : Int) = n
  ·have HE : Hid (acrK n l S = 0 ∧ acrV n l S = trueK (acrT l S) l.length) := acr_yes hk hn
   have HR : Hid (RightG n l) := right_iff.1 hk
   have hm1 := HR.out.m1
   rw [hk]
   subst hn
   clear hk
   go_wp2
   go_loopw [6, 7] (fun lv iv wr => ∃ j : Nat, j ≤ l.length ∧ iv = .int .i64 (j : Int) ∧ wr.ownsRow (w.heap.size + 1) 3 1 lv (trueK (acrT l S) j).length ((trueK (acrT l S) j).map (Value.int .i64)) ∧ Hid (Blk 24 wr w.heap.size [.int .i64 (S.length : Int), .slice p l.length c]) ∧ Hid (Below w.heap.size w wr)) (fun _ i _ => l.length - (intOf i).toNat)
   case atStart => exact ⟨0, Nat.zero_le _, rfl, World.ownsRow_nil _ _ _ _, HX2, HB2⟩
   case round =>
    clear HX2 HB2 x0 x1
    obtain ⟨j, hj, rfl, hO, HX, HB⟩ := hrel
    obtain ⟨pp, cc, rfl⟩ := owns_formP hO
    have x1 := HX.out.cell (j := 1) rfl
    by_cases hlt : j < l.length
    ·have hjl : (j : Int) < (l.length : Int) := by omega
     obtain ⟨b, off, rfl, hbb, hcap, hc, -⟩ := HL.out.open hlt
     obtain ⟨e0, e1, e2⟩ := hc _ HB.out j hlt
     have hok := (HR.out.each l[j] (List.getElem_mem hlt)).1
     unfold okE at hok
     have hat := acrT_at (S := S) hlt
     obtain ⟨U, hU⟩ : ∃ U : Nat, l[j].1 = (U : Int) := ⟨l[j].1.toNat, by omega⟩
     obtain ⟨V, hV⟩ : ∃ V : Nat, l[j].2.1 = (V : Int) := ⟨l[j].2.1.toNat, by omega⟩
     rw [hU, hV, Int.toNat_natCast, Int.toNat_natCast] at hat
     rw [hU] at e0
     rw [hV] at e1
     have hUN : U < S.length := by omega
     have hVN : V < S.length := by omega
     obtain ⟨b2, off2, rfl, hbb2, hcap2, hc2⟩ := Vals.open (enc := Value.bool) HS.out hUN
     have d0 := hc2 wr HB.out U hUN
     have d1 := hc2 wr HB.out V hVN
     have hbU : bAt S U = S[U] := by simp [bAt, hUN]
     have hbV : bAt S V = S[V] := by simp [bAt, hVN]
     rw [← hbU] at d0
     rw [← hbV] at d1
     have hUl : (U : Int) < (S.length : Int) := by omega
     have hVl : (V : Int) < (S.length : Int) := by omega
     have hlen := trueK_len (acrT l S) j
     have hst : Hid _ := trueK_succ (acrT l S) j
     have HAT : Hid _ := hat
     have HLT : Hid (j < l.length) := hlt
     have hxl := HX.out.lt
     have HO : Hid _ := hO
     generalize l[j].2.2 = wt at e2
     clear hc hc2 hok hU hV hlt hbb hcap hbb2 hcap2 hbU hbV hat hO
     generalize bAt S U = bU at *
     generalize bAt S V = bV at *
     have HEf : bAt (acrT l S) j = false → Hid (trueK (acrT l S) (j + 1) = trueK (acrT l S) j) := fun h => by unfold Hid; rw [hst.out, h]; simp
     have HEt : bAt (acrT l S) j = true → Hid (trueK (acrT l S) (j + 1) = trueK (acrT l S) j ++ [(j : Int)]) := fun h => by unfold Hid; rw [hst.out, h]; simp
     clear hst
     cases bU with
     | false =>
      cases bV with
      | false =>
       have HE2 := HEf HAT.out
       clear HEf HEt HAT
       obtain ⟨w4, hw4⟩ : ∃ W, wr = W := ⟨_, rfl⟩
       rw [hw4] at d0 d1 e0 e1 e2 HX HB HO hxl x1 ⊢
       clear hw4
       have HX4 : Hid (Blk 24 w4 w.heap.size [.int .i64 (S.length : Int), .slice (some ⟨b, off, none⟩) l.length c]) := HX
       have HB4 : Hid (Below w.heap.size w w4) := HB
       have HO4 : Hid (w4.ownsRow (w.heap.size + 1) 3 1 (.slice pp (trueK (acrT l S) j).length cc) (trueK (acrT l S) j).length ((trueK (acrT l S) j).map (Value.int .i64))) := HO.out
       have hz4 : w.heap.size + 1 ≤ w4.heap.size := hxl
       clear HX HB HO
       go_wp2
       go_quiet (fail)
       have hbq : Below w4.heap.size w4 (w4.drewN nq) := below_drewN (Below.refl _ _) nq
       have HX5 : Hid (Blk 24 (w4.drewN nq) w.heap.size [.int .i64 (S.length : Int), .slice (some ⟨b, off, none⟩) l.length c]) := HX4.out
       have HB5 : Hid (Below w.heap.size w (w4.drewN nq)) := below_drewN HB4.out nq
       have HO5 : Hid ((w4.drewN nq).ownsRow (w.heap.size + 1) 3 1 (.slice pp (trueK (acrT l S) j).length cc) (trueK (acrT l S) j).length ((trueK (acrT l S) j).map (Value.int .i64))) := owns_goC HO4.out hbq
       have hz5 : w.heap.size + 1 ≤ (w4.drewN nq).heap.size := hz4
       obtain ⟨w5, hw5⟩ : ∃ W, w4.drewN nq = W := ⟨_, rfl⟩
       rw [hw5] at HX5 HB5 HO5 hz5 ⊢
       clear hw5 hbq HX4 HB4 HO4 hz4
       clear e0 e1 e2 d0 d1
       go_wp2
       refine ⟨⟨j + 1, HLT.out, by go_num, ?_, HX5, HB5⟩, by have := HLT.out; simp [intOf]; omega⟩
       rw [HE2.out]
       exact HO5.out
      | true =>
       have HE2 := HEt HAT.out
       clear HEf HEt HAT
       obtain ⟨w4, hw4⟩ : ∃ W, wr = W := ⟨_, rfl⟩
       rw [hw4] at d0 d1 e0 e1 e2 HX HB HO hxl x1 ⊢
       clear hw4
       have HX4 : Hid (Blk 24 w4 w.heap.size [.int .i64 (S.length : Int), .slice (some ⟨b, off, none⟩) l.length c]) := HX
       have HB4 : Hid (Below w.heap.size w w4) := HB
       have HO4 : Hid (w4.ownsRow (w.heap.size + 1) 3 1 (.slice pp (trueK (acrT l S) j).length cc) (trueK (acrT l S) j).length ((trueK (acrT l S) j).map (Value.int .i64))) := HO.out
       have hz4 : w.heap.size + 1 ≤ w4.heap.size := hxl
       clear HX HB HO
       go_wp2
       go_quiet (fail)
       have hbq : Below w4.heap.size w4 (w4.drewN nq) := below_drewN (Below.refl _ _) nq
       have HX5 : Hid (Blk 24 (w4.drewN nq) w.heap.size [.int .i64 (S.length : Int), .slice (some ⟨b, off, none⟩) l.length c]) := HX4.out
       have HB5 : Hid (Below w.heap.size w (w4.drewN nq)) := below_drewN HB4.out nq
       have HO5 : Hid ((w4.drewN nq).ownsRow (w.heap.size + 1) 3 1 (.slice pp (trueK (acrT l S) j).length cc) (trueK (acrT l S) j).length ((trueK (acrT l S) j).map (Value.int .i64))) := owns_goC HO4.out hbq
       have hz5 : w.heap.size + 1 ≤ (w4.drewN nq).heap.size := hz4
       obtain ⟨w5, hw5⟩ : ∃ W, w4.drewN nq = W := ⟨_, rfl⟩
       rw [hw5] at HX5 HB5 HO5 hz5 ⊢
       clear hw5 hbq HX4 HB4 HO4 hz4
       clear e0 e1 e2 d0 d1
       obtain ⟨i2, hi, hz0, hz1, hz2⟩ := info_parts infoPi
       have hbA : Below w5.heap.size w5 (w5.alloc (.cells #[.int .i64 (j : Int)] 3)) := (Below.refl _ _).alloc (Nat.le_refl _) _
       have hOA := World.ownsRow.alloc HO5.out (.cells #[.int .i64 (j : Int)] 3)
       have hnews := one_cellC w5 (.int .i64 (j : Int)) 3
       have hone : ∀ y ∈ [Value.int .i64 (j : Int)], y.oneCell' = true := fun y hy => by rw [List.mem_singleton.1 hy]; rfl
       have hmx : (trueK (acrT l S) j).length + 1 ≤ maxLen := by unfold maxLen; omega
       have hby : ((trueK (acrT l S) j).length + 1) * 8 ≤ 140737488355328 := by omega
       have hbs : w.heap.size + 1 ≤ (w5.alloc (.cells #[.int .i64 (j : Int)] 3)).heap.size := Nat.le_trans hz5 hbA.size
       have hlow : ∀ q, (Value.slice pp (trueK (acrT l S) j).length cc).ownBlock = some q → w.heap.size + 1 ≤ q := fun q hq => (HO5.out.lt q hq).1
       go_wp2_with (at_builtin; refine wpList_append_own_at _ rfl _ _ 27 rfl (w.heap.size + 1) 3 i2 (.int .i64 0) 1 8 Tryz.underlying27 hi hz0 hz1 hz2 rfl (by decide) (.slice pp (trueK (acrT l S) j).length cc) _ _ rfl hOA ⟨w5.heap.size, 0, none⟩ 1 1 [.int .i64 (j : Int)] rfl rfl hnews hone hmx hby hbs ?_)
       intro v9 w9 hown9 hg9 hnil9 hat9
       have hb9 : Below (w.heap.size + 1) w5 w9 := (hbA.mono hz5).grown hg9 hbs (fun q hq => hlow q hq)
       have HX9 : Hid (Blk 24 w9 w.heap.size [.int .i64 (S.length : Int), .slice (some ⟨b, off, none⟩) l.length c]) := (hb9.block w.heap.size (by omega)).trans HX5.out
       have HB9 : Hid (Below w.heap.size w w9) := HB5.out.trans (hb9.mono (by omega))
       have HO9 : Hid (w9.ownsRow (w.heap.size + 1) 3 1 v9 ((trueK (acrT l S) j).length + 1) ((trueK (acrT l S) j).map (Value.int .i64) ++ [.int .i64 (j : Int)])) := hown9
       obtain ⟨a9, c9, rfl⟩ := owns_formP hown9
       clear hbA hOA hnews hone hmx hby hbs hlow hown9 hg9 hnil9 hat9 hb9 hi hz0 hz1 hz2 HX5 HO5 HB5
       go_wp2
       refine ⟨⟨j + 1, HLT.out, by go_num, ?_, HX9, HB9⟩, by have := HLT.out; simp [intOf]; omega⟩
       rw [HE2.out, List.length_append, List.map_append]
       exact HO9.out
     | true =>
      cases bV with
      | false =>
       have HE2 := HEt HAT.out
       clear HEf HEt HAT
       obtain ⟨w4, hw4⟩ : ∃ W, wr = W := ⟨_, rfl⟩
       rw [hw4] at d0 d1 e0 e1 e2 HX HB HO hxl x1 ⊢
       clear hw4
       have HX4 : Hid (Blk 24 w4 w.heap.size [.int .i64 (S.length : Int), .slice (some ⟨b, off, none⟩) l.length c]) := HX
       have HB4 : Hid (Below w.heap.size w w4) := HB
       have HO4 : Hid (w4.ownsRow (w.heap.size + 1) 3 1 (.slice pp (trueK (acrT l S) j).length cc) (trueK (acrT l S) j).length ((trueK (acrT l S) j).map (Value.int .i64))) := HO.out
       have hz4 : w.heap.size + 1 ≤ w4.heap.size := hxl
       clear HX HB HO
       go_wp2
       go_quiet (fail)
       have hbq : Below w4.heap.size w4 (w4.drewN nq) := below_drewN (Below.refl _ _) nq
       have HX5 : Hid (Blk 24 (w4.drewN nq) w.heap.size [.int .i64 (S.length : Int), .slice (some ⟨b, off, none⟩) l.length c]) := HX4.out
       have HB5 : Hid (Below w.heap.size w (w4.drewN nq)) := below_drewN HB4.out nq
       have HO5 : Hid ((w4.drewN nq).ownsRow (w.heap.size + 1) 3 1 (.slice pp (trueK (acrT l S) j).length cc) (trueK (acrT l S) j).length ((trueK (acrT l S) j).map (Value.int .i64))) := owns_goC HO4.out hbq
       have hz5 : w.heap.size + 1 ≤ (w4.drewN nq).heap.size := hz4
       obtain ⟨w5, hw5⟩ : ∃ W, w4.drewN nq = W := ⟨_, rfl⟩
       rw [hw5] at HX5 HB5 HO5 hz5 ⊢
       clear hw5 hbq HX4 HB4 HO4 hz4
       clear e0 e1 e2 d0 d1
       obtain ⟨i2, hi, hz0, hz1, hz2⟩ := info_parts infoPi
       have hbA : Below w5.heap.size w5 (w5.alloc (.cells #[.int .i64 (j : Int)] 3)) := (Below.refl _ _).alloc (Nat.le_refl _) _
       have hOA := World.ownsRow.alloc HO5.out (.cells #[.int .i64 (j : Int)] 3)
       have hnews := one_cellC w5 (.int .i64 (j : Int)) 3
       have hone : ∀ y ∈ [Value.int .i64 (j : Int)], y.oneCell' = true := fun y hy => by rw [List.mem_singleton.1 hy]; rfl
       have hmx : (trueK (acrT l S) j).length + 1 ≤ maxLen := by unfold maxLen; omega
       have hby : ((trueK (acrT l S) j).length + 1) * 8 ≤ 140737488355328 := by omega
       have hbs : w.heap.size + 1 ≤ (w5.alloc (.cells #[.int .i64 (j : Int)] 3)).heap.size := Nat.le_trans hz5 hbA.size
       have hlow : ∀ q, (Value.slice pp (trueK (acrT l S) j).length cc).ownBlock = some q → w.heap.size + 1 ≤ q := fun q hq => (HO5.out.lt q hq).1
       go_wp2_with (at_builtin; refine wpList_append_own_at _ rfl _ _ 27 rfl (w.heap.size + 1) 3 i2 (.int .i64 0) 1 8 Tryz.underlying27 hi hz0 hz1 hz2 rfl (by decide) (.slice pp (trueK (acrT l S) j).length cc) _ _ rfl hOA ⟨w5.heap.size, 0, none⟩ 1 1 [.int .i64 (j : Int)] rfl rfl hnews hone hmx hby hbs ?_)
       intro v9 w9 hown9 hg9 hnil9 hat9
       have hb9 : Below (w.heap.size + 1) w5 w9 := (hbA.mono hz5).grown hg9 hbs (fun q hq => hlow q hq)
       have HX9 : Hid (Blk 24 w9 w.heap.size [.int .i64 (S.length : Int), .slice (some ⟨b, off, none⟩) l.length c]) := (hb9.block w.heap.size (by omega)).trans HX5.out
       have HB9 : Hid (Below w.heap.size w w9) := HB5.out.trans (hb9.mono (by omega))
       have HO9 : Hid (w9.ownsRow (w.heap.size + 1) 3 1 v9 ((trueK (acrT l S) j).length + 1) ((trueK (acrT l S) j).map (Value.int .i64) ++ [.int .i64 (j : Int)])) := hown9
       obtain ⟨a9, c9, rfl⟩ := owns_formP hown9
       clear hbA hOA hnews hone hmx hby hbs hlow hown9 hg9 hnil9 hat9 hb9 hi hz0 hz1 hz2 HX5 HO5 HB5
       go_wp2
       refine ⟨⟨j + 1, HLT.out, by go_num, ?_, HX9, HB9⟩, by have := HLT.out; simp [intOf]; omega⟩
       rw [HE2.out, List.length_append, List.map_append]
       exact HO9.out
      | true =>
       have HE2 := HEf HAT.out
       clear HEf HEt HAT
       obtain ⟨w4, hw4⟩ : ∃ W, wr = W := ⟨_, rfl⟩
       rw [hw4] at d0 d1 e0 e1 e2 HX HB HO hxl x1 ⊢
       clear hw4
       have HX4 : Hid (Blk 24 w4 w.heap.size [.int .i64 (S.length : Int), .slice (some ⟨b, off, none⟩) l.length c]) := HX
       have HB4 : Hid (Below w.heap.size w w4) := HB
       have HO4 : Hid (w4.ownsRow (w.heap.size + 1) 3 1 (.slice pp (trueK (acrT l S) j).length cc) (trueK (acrT l S) j).length ((trueK (acrT l S) j).map (Value.int .i64))) := HO.out
       have hz4 : w.heap.size + 1 ≤ w4.heap.size := hxl
       clear HX HB HO
       go_wp2
       go_quiet (fail)
       have hbq : Below w4.heap.size w4 (w4.drewN nq) := below_drewN (Below.refl _ _) nq
       have HX5 : Hid (Blk 24 (w4.drewN nq) w.heap.size [.int .i64 (S.length : Int), .slice (some ⟨b, off, none⟩) l.length c]) := HX4.out
       have HB5 : Hid (Below w.heap.size w (w4.drewN nq)) := below_drewN HB4.out nq
       have HO5 : Hid ((w4.drewN nq).ownsRow (w.heap.size + 1) 3 1 (.slice pp (trueK (acrT l S) j).length cc) (trueK (acrT l S) j).length ((trueK (acrT l S) j).map (Value.int .i64))) := owns_goC HO4.out hbq
       have hz5 : w.heap.size + 1 ≤ (w4.drewN nq).heap.size := hz4
       obtain ⟨w5, hw5⟩ : ∃ W, w4.drewN nq = W := ⟨_, rfl⟩
       rw [hw5] at HX5 HB5 HO5 hz5 ⊢
       clear hw5 hbq HX4 HB4 HO4 hz4
       clear e0 e1 e2 d0 d1
       go_wp2
       refine ⟨⟨j + 1, HLT.out, by go_num, ?_, HX5, HB5⟩, by have := HLT.out; simp [intOf]; omega⟩
       rw [HE2.out]
       exact HO5.out
    ·obtain rfl : j = l.length := by omega
     have HI := ints_ownsT hO
     have HIh : Hid _ := HI
     clear HI hO
     go_wp2
     refine bodyPost_ret (results_tmp2 rfl _ _ _) rfl ?_
     exact ⟨_, by rw [HE.out.1]; rfl, by rw [HE.out.2]; exact HIh.out, HB.out⟩
  ·have HE : Hid (acrK n l S = 1 ∧ acrV n l S = []) := acr_no (fun h => hn h.2)
   have hnb : ((S.length : Int) == n) = false := by simpa using hn
   rw [hk]
   clear hk
   go_wp2
   refine bodyPost_ret (results_tmp2 rfl _ _ _) rfl ?_
   exact ⟨_, by rw [HE.out.1]; rfl, by rw [HE.out.2]; exact Vals.nil _ _ _ _, HB2.out⟩
 ·have HE : Hid (acrK n l S = 1 ∧ acrV n l S = []) := acr_no (fun h => hk h.1)
  have hkb : (rightK n l == 0) = false := by simpa using hk
  generalize rightK n l = k at *
  go_wp2
  refine bodyPost_ret (results_tmp2 rfl _ _ _) rfl ?_
  exact ⟨_, by rw [HE.out.1]; rfl, by rw [HE.out.2]; exact Vals.nil _ _ _ _, HB2.out⟩
end Go.Proofs.YtalflecmadacaaaGreat
