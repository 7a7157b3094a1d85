/-
  The reference's Sub: a graph of some edges alone.
-/
import Derived.BigRegion
import Derived.Deep.RegionLaw
import Derived.Deep.DrawnRows
import Derived.Test.YtgjaikekpgdehaaXKSrc
namespace Go.Proofs.Ytgjaikekpgdehaa
open Go Go.Proofs Go.RowKit

attribute [local go_sem ↓] Go.wp_at_zero Go.wp_at_succ

set_option maxRecDepth 100000 in
set_option maxHeartbeats 4000000 in
theorem refSub_bad (n : Int) (l : List Ed) (a : List Int) (ha : a.length ≤ 4194304) (hw : wgtK n l a ≠ 0) (sv sk : Value) (w : World) (hl : Edges w.heap.size w sv l) (hK : Ints w.heap.size w sk a) :
    Calls Try.prog 22 #[.agg #[.int .i64 n, sv], sk] w fun r w' => r = .returned (.tuple #[.agg #[.int .i64 0, .slice none 0 0], .bool false]) ∧ Below w.heap.size w w' := by
  obtain ⟨p, c, rfl⟩ := hl.len
  obtain ⟨pk, ck, rfl⟩ := hK.len
  have hg1 : Grew w ((w.alloc (.cells #[.int .i64 n, .slice p l.length c] 24)).alloc (.cells #[.int .i64 0, .slice none 0 0] 24)) := ((Grew.refl w).alloc _).alloc _
  have hB0 : Blk 24 ((w.alloc (.cells #[.int .i64 n, .slice p l.length c] 24)).alloc (.cells #[.int .i64 0, .slice none 0 0] 24)) w.heap.size [.int .i64 n, .slice p l.length c] := by
    have h1 : Blk 24 (w.alloc (.cells #[.int .i64 n, .slice p l.length c] 24)) w.heap.size [.int .i64 n, .slice p l.length c] := heap_alloc_new w _
    exact h1.go (((Grew.refl _).alloc _).below)
  have hB1 : Blk 24 ((w.alloc (.cells #[.int .i64 n, .slice p l.length c] 24)).alloc (.cells #[.int .i64 0, .slice none 0 0] 24)) (w.heap.size + 1) [.int .i64 0, .slice none 0 0] := by
    have := heap_alloc_new (w.alloc (.cells #[.int .i64 n, .slice p l.length c] 24)) (.cells #[.int .i64 0, .slice none 0 0] 24)
    simpa [Blk] using this
  have d0 := hB0.cell (j := 0) rfl
  have d1 := hB0.cell (j := 1) rfl
  have hrt := refRight_any n l (.slice p l.length c) _ (hl.go hg1.below)
  have HW : Hid _ := hw
  have HL : Hid _ := hl
  have HKK : Hid _ := hK
  clear hl hK hw
  by_cases hr : rightK n l = 0
  · have hR : RightG n l := right_iff.1 hr
    have hwk : wK l a = 1 := by
      have := HW.out
      unfold wgtK at this
      rw [if_pos hr] at this
      unfold wK at this ⊢
      split at this
      · exact absurd rfl this
      · rename_i h; rw [if_neg h]
    rw [hr] at hrt
    go_enter Try.func22, Try.ntmps22
    go_wp2_with fail
    refine hrt.mono ?_
    rintro e w2 ⟨rfl, hg2⟩
    have hg12 := hg1.trans hg2
    have hE0 := hB0.go hg2.below
    have hE1 := hB1.go hg2.below
    have d0 := hE0.cell (j := 0) rfl
    have d1 := hE0.cell (j := 1) rfl
    have hwt := refWeight_any n l hR a ha (.slice p l.length c) (.slice pk a.length ck) w2 (Edges.go HL.out hg12.below) (Vals.go HKK.out hg12.below)
    rw [hwk] at hwt
    generalize wV l a = wv at *
    clear hrt hB0 hB1 hg1 hg2 hR hr hwk HW
    go_wp2_with fail
    refine hwt.mono ?_
    rintro e w3 ⟨rfl, hg3⟩
    have HB : Hid (Below w.heap.size w w3) := (hg12.trans hg3).below
    replace hE1 := hE1.go hg3.below
    have HE1 : Hid (Blk 24 w3 (w.heap.size + 1) [.int .i64 0, .slice none 0 0]) := hE1
    have y0 := hE1.cell (j := 0) rfl
    have y1 := hE1.cell (j := 1) rfl
    have f0 := hE1.frozen 0
    have f1 := hE1.frozen 1
    clear hwt hg12 hg3 hE0 hE1
    go_wp2
    have hbf := (Blk.set HE1.out 0 (.int .i64 0)).set 1 (.slice none 0 0)
    (try simp only [Exit.inBlock, Exit.then])
    refine bodyPost_ret (ret_graphK rfl (by rfl) (hbf.cell (j := 0) rfl) (hbf.cell (j := 1) rfl)) rfl ?_
    exact ⟨rfl, (Below.setCell HB.out (p := ⟨w.heap.size + 1, 0, none⟩) (by simp) _).setCell (p := ⟨w.heap.size + 1, 1, none⟩) (by simp) _⟩
  · have hk' : (rightK n l != 0) = true := by simpa using hr
    clear hr HW
    generalize rightK n l = kk at *
    go_enter Try.func22, Try.ntmps22
    go_wp2_with fail
    refine hrt.mono ?_
    rintro e w2 ⟨rfl, hg2⟩
    have HB : Hid (Below w.heap.size w w2) := (hg1.trans hg2).below
    have hE1 := hB1.go hg2.below
    have HE1 : Hid (Blk 24 w2 (w.heap.size + 1) [.int .i64 0, .slice none 0 0]) := hE1
    have y0 := hE1.cell (j := 0) rfl
    have y1 := hE1.cell (j := 1) rfl
    have f0 := hE1.frozen 0
    have f1 := hE1.frozen 1
    clear hrt hB0 hB1 hg1 hg2 hE1
    go_wp2
    have hbf := (Blk.set HE1.out 0 (.int .i64 0)).set 1 (.slice none 0 0)
    (try simp only [Exit.inBlock, Exit.then])
    refine bodyPost_ret (ret_graphK rfl (by rfl) (hbf.cell (j := 0) rfl) (hbf.cell (j := 1) rfl)) rfl ?_
    exact ⟨rfl, (Below.setCell HB.out (p := ⟨w.heap.size + 1, 0, none⟩) (by simp) _).setCell (p := ⟨w.heap.size + 1, 1, none⟩) (by simp) _⟩

set_option maxRecDepth 100000 in
set_option maxHeartbeats 4000000 in
theorem refSub_any (n : Int) (l : List Ed) (a : List Int) (ha : a.length ≤ 4194304) (hw : wgtK n l a = 0) (sv sk : Value) (w : World) (hl : Edges w.heap.size w sv l) (hK : Ints w.heap.size w sk a) :
    Calls Try.prog 22 #[.agg #[.int .i64 n, sv], sk] w fun r w' => ∃ gv, r = .returned (.tuple #[.agg #[.int .i64 n, gv], .bool true]) ∧ Edges w'.heap.size w' gv (subL l a) ∧ Below w.heap.size w w' := by
  obtain ⟨p, c, rfl⟩ := hl.len
  obtain ⟨pk, ck, rfl⟩ := hK.len
  have hmix := mixed
  obtain ⟨i0, hi, hz0, hz1, hz2⟩ := info_parts infoE
  obtain ⟨hR, hok⟩ := wgtK_zero hw
  have hm1 := hR.m1
  have hr : rightK n l = 0 := right_iff.2 hR
  have hwk : wK l a = 0 := by unfold wK; rw [if_pos hok]
  have hg1 : Grew w ((w.alloc (.cells #[.int .i64 n, .slice p l.length c] 24)).alloc (.cells #[.int .i64 0, .slice none 0 0] 24)) := ((Grew.refl w).alloc _).alloc _
  have hB0 : Blk 24 ((w.alloc (.cells #[.int .i64 n, .slice p l.length c] 24)).alloc (.cells #[.int .i64 0, .slice none 0 0] 24)) w.heap.size [.int .i64 n, .slice p l.length c] := by
    have h1 : Blk 24 (w.alloc (.cells #[.int .i64 n, .slice p l.length c] 24)) w.heap.size [.int .i64 n, .slice p l.length c] := heap_alloc_new w _
    exact h1.go (((Grew.refl _).alloc _).below)
  have hB1 : Blk 24 ((w.alloc (.cells #[.int .i64 n, .slice p l.length c] 24)).alloc (.cells #[.int .i64 0, .slice none 0 0] 24)) (w.heap.size + 1) [.int .i64 0, .slice none 0 0] := by
    have := heap_alloc_new (w.alloc (.cells #[.int .i64 n, .slice p l.length c] 24)) (.cells #[.int .i64 0, .slice none 0 0] 24)
    simpa [Blk] using this
  have d0 := hB0.cell (j := 0) rfl
  have d1 := hB0.cell (j := 1) rfl
  have hrt := refRight_any n l (.slice p l.length c) _ (hl.go hg1.below)
  rw [hr] at hrt
  clear hw hok hr
  go_enter Try.func22, Try.ntmps22
  go_wp2_with fail
  refine hrt.mono ?_
  rintro e w2 ⟨rfl, hg2⟩
  have hg12 := hg1.trans hg2
  replace hB0 := hB0.go hg2.below
  replace hB1 := hB1.go hg2.below
  have d0 := hB0.cell (j := 0) rfl
  have d1 := hB0.cell (j := 1) rfl
  have hwt := refWeight_any n l hR a ha (.slice p l.length c) (.slice pk a.length ck) w2 (hl.go hg12.below) (hK.go hg12.below)
  rw [hwk] at hwt
  generalize wV l a = wv at *
  clear hrt hg1 hg2 hwk
  go_wp2_with fail
  refine hwt.mono ?_
  rintro e w3 ⟨rfl, hg3⟩
  have hg13 := hg12.trans hg3
  replace hB0 := hB0.go hg3.below
  replace hB1 := hB1.go hg3.below
  have d0 := hB0.cell (j := 0) rfl
  have d1 := hB0.cell (j := 1) rfl
  clear hwt hg12 hg3
  have hg4 : Grew w (w3.alloc (.cells #[.int .i64 n, .slice none 0 0] 24)) := hg13.alloc _
  have hB2 : Blk 24 (w3.alloc (.cells #[.int .i64 n, .slice none 0 0] 24)) w3.heap.size [.int .i64 n, .slice none 0 0] := heap_alloc_new w3 _
  have hlt1 := hB1.lt
  replace hB0 := hB0.go ((Grew.refl w3).alloc (.cells #[.int .i64 n, .slice none 0 0] 24)).below
  replace hB1 := hB1.go ((Grew.refl w3).alloc (.cells #[.int .i64 n, .slice none 0 0] 24)).below
  go_wp2
  have hsz := hB2.lt
  generalize w3.alloc (.cells #[.int .i64 n, .slice none 0 0] 24) = w1 at hg4 hB0 hB1 hB2 hsz ⊢
  generalize w3.heap.size = hb at *
  go_loopw [9] (fun i wr => ∃ (j : Nat) (s : Value), j ≤ l.length ∧ i = .int .i64 j ∧ Blk 24 wr hb [.int .i64 n, s] ∧ wr.ownsRow (hb + 1) 41 3 s (keepL l (fun i => inB a (i : Int)) j).length (flat (keepL l (fun i => inB a (i : Int)) j)) ∧ Below hb w1 wr) (fun i _ => l.length - (intOf i).toNat)
  case atStart => exact ⟨0, _, Nat.zero_le _, rfl, hB2, World.ownsRow_nil _ _ _ _, Below.refl _ _⟩
  case round =>
    obtain ⟨j, s, hj, rfl, hO, hown, hbl⟩ := hrel
    have hbwr : Below w.heap.size w wr := hg4.below.trans (hbl.mono (by omega))
    have hE0 := hB0.below hbl (by omega)
    have hE1 := hB1.below hbl (by omega)
    have hOl := hO.lt
    have d1 := hE0.cell (j := 1) rfl
    by_cases hlt : j < l.length
    · obtain ⟨b, off, rfl, hbb, hcap, hc, -⟩ := hl.open hlt
      obtain ⟨c0, c1, c2⟩ := hc wr hbwr j hlt
      have hjl : (j : Int) < (l.length : Int) := by omega
      have hhas := has_any a ha (j : Int) (.slice pk a.length ck) _ wr (hK.go hbwr)
      clear hc
      cases hin : inB a (j : Int) with
      | false =>
        rw [hin] at hhas
        have HKp : Hid _ := keepL_out (l := l) (pred := (fun i => inB a (i : Int))) (j := j) hin
        clear hin
        go_wp2_with fail
        refine hhas.mono ?_
        rintro e w2 ⟨rfl, rfl⟩
        clear hhas
        go_wp2
        exact ⟨⟨j + 1, s, by omega, by go_num, hO, by rw [HKp.out]; exact hown, hbl⟩, by simp [intOf]; omega⟩
      | true =>
        rw [hin] at hhas
        have HKp : Hid _ := keepL_in (l := l) (pred := (fun i => inB a (i : Int))) hlt hin
        clear hin
        obtain ⟨ej, hej⟩ : ∃ ej, l[j] = ej := ⟨_, rfl⟩
        rw [hej] at c0 c1 c2 HKp
        have hklen := keepL_len l (fun i => inB a (i : Int)) j
        generalize keepL l (fun i => inB a (i : Int)) j = R at *
        obtain ⟨pp, cc, rfl⟩ := owns_form hown
        have k1 := hO.cell (j := 1) rfl
        have f1 := hO.frozen 1
        have hownA : (wr.alloc (.cells #[.int .i64 ej.1, .int .i64 ej.2.1, .int .i64 ej.2.2] 41)).drew.ownsRow (hb + 1) 41 3 (.slice pp R.length cc) R.length (flat R) := owns_below (hown.alloc _) (below_drewN (Below.refl _ _) 1)
        have hlow : ∀ k, (Value.slice pp R.length cc).ownBlock = some k → hb + 1 ≤ k := fun k e => (hown.lt k e).1
        have hn3 : ∀ i u, (encE ej)[i]? = some u → (wr.alloc (.cells #[.int .i64 ej.1, .int .i64 ej.2.1, .int .i64 ej.2.2] 41)).drew.cell? ((⟨wr.heap.size, 0, none⟩ : Addr).add i) = some u := news3 (w := wr) ej
        have hSrc : Src (wr.alloc (.cells #[.int .i64 ej.1, .int .i64 ej.2.1, .int .i64 ej.2.2] 41)).drew (.slice (some ⟨wr.heap.size, 0, none⟩) 1 1) 1 3 (encE ej) := .inr ⟨⟨wr.heap.size, 0, none⟩, 1, rfl, rfl, hn3, one3 ej⟩
        have hmx : R.length + 1 ≤ maxLen := by unfold maxLen; omega
        have hby : (R.length + 1) * 24 ≤ 140737488355328 := by omega
        have hbs : hb + 1 ≤ (wr.alloc (.cells #[.int .i64 ej.1, .int .i64 ej.2.1, .int .i64 ej.2.2] 41)).drew.heap.size := by simp; omega
        have hzc : (Value.agg #[.int .i64 0, .int .i64 0, .int .i64 0]).cells.size = 3 := by simp [Value.cells]
        have hO9 : Blk 24 (wr.alloc (.cells #[.int .i64 ej.1, .int .i64 ej.2.1, .int .i64 ej.2.2] 41)).drew hb _ := hO.go (below_drewN ((Grew.refl wr).alloc _).below 1)
        have hne9 : some hb ≠ (Value.slice pp R.length cc).ownBlock := fun e => by have := hlow _ e.symm; omega
        have hb9 : Below hb w1 (wr.alloc (.cells #[.int .i64 ej.1, .int .i64 ej.2.1, .int .i64 ej.2.2] 41)).drew := below_drewN (hbl.alloc (by omega) _) 1
        have hs9 : hb ≤ (wr.alloc (.cells #[.int .i64 ej.1, .int .i64 ej.2.1, .int .i64 ej.2.2] 41)).drew.heap.size := by simp; omega
        have hlow2 : ∀ k, (Value.slice pp R.length cc).ownBlock = some k → hb ≤ k := fun k e => by have := hlow k e; omega
        clear hej
        go_wp2_with fail
        refine hhas.mono ?_
        rintro e w2 ⟨rfl, h2⟩
        rw [h2]
        clear hhas h2
        go_wp2
        go_region_law (refine step_append_src rfl _ _ 22 rfl (hb + 1) 41 i0 (.agg #[.int .i64 0, .int .i64 0, .int .i64 0]) 3 24 Try.underlying22 hi hz0 hz1 hz2 hzc (by decide) (.slice pp R.length cc) _ _ rfl hownA (.slice (some ⟨wr.heap.size, 0, none⟩) 1 1) 1 (encE ej) rfl hSrc hmx hby hbs ?_; intro v6 w6 hown6 hgrow6 hat6; obtain ⟨p6, c6, rfl⟩ := owns_form hown6; have hO6 := hO9.grown hgrow6 hne9; have k6 := hO6.cell (j := 1) rfl; have f6 := hO6.frozen 1; have hb6 := hb9.grown hgrow6 hs9 hlow2)
        all_goals go_wp2
        all_goals refine ⟨⟨j + 1, _, by omega, by go_num, hO6.set 1 _, ?_, hb6.setCell (p := ⟨hb, 1, none⟩) (by simp) _⟩, by simp [intOf]; omega⟩
        all_goals rw [HKp.out, flat_snoc, List.length_append]
        all_goals exact owns_set hown6 (by simp) _
    · obtain rfl : j = l.length := by omega
      have HOW : Hid (wr.ownsRow (hb + 1) 41 3 s (subL l a).length (flat (subL l a))) := hown
      have hown2 : wr.ownsRow (hb + 1) 41 3 s (subL l a).length (flat (subL l a)) := hown
      obtain ⟨M, hM⟩ : ∃ M, subL l a = M := ⟨_, rfl⟩
      rw [hM] at HOW hown2
      have HM : Hid (subL l a = M) := hM
      clear hM
      obtain ⟨pp, cc, rfl⟩ := owns_form hown2
      have k0 := hO.cell (j := 0) rfl
      have k1 := hO.cell (j := 1) rfl
      have f0 := hE1.frozen 0
      have f1 := hE1.frozen 1
      have x0 := hE1.cell (j := 0) rfl
      have x1 := hE1.cell (j := 1) rfl
      have HE1 : Hid _ := hE1
      have HB : Hid _ := hbwr
      clear hown hown2 hE1 hbwr hbl hB0 hB1 hB2 hE0
      go_wp2
      have hbf := (Blk.set HE1.out 0 (.int .i64 n)).set 1 (.slice pp M.length cc)
      (try simp only [Exit.inBlock, Exit.then])
      refine bodyPost_ret (ret_graphK rfl (by rfl) (hbf.cell (j := 0) rfl) (hbf.cell (j := 1) rfl)) rfl ?_
      exact ⟨.slice pp M.length cc, rfl, by rw [HM.out]; exact Edges.of_owns (owns_set (owns_set HOW.out (p := ⟨w.heap.size + 1, 0, none⟩) (by simp only; omega) _) (p := ⟨w.heap.size + 1, 1, none⟩) (by simp only; omega) _), (Below.setCell HB.out (p := ⟨w.heap.size + 1, 0, none⟩) (by simp) _).setCell (p := ⟨w.heap.size + 1, 1, none⟩) (by simp) _⟩
end Go.Proofs.Ytgjaikekpgdehaa
