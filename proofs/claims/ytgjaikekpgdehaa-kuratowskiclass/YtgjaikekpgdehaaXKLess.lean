/-
  The contract of graph.Less.
-/
import Derived.Test.YtgjaikekpgdehaaXKStay
import Derived.Test.YtgjaikekpgdehaaXGWgt
namespace Go.Proofs.Ytgjaikekpgdehaa
open Go Go.Proofs Go.RowKit

theorem takenL_skip {l : List Ed} {seen : List Int} {y : Int} (h : placeB l y = false) : takenL l.length (seen ++ [y]) = takenL l.length seen := by
  apply List.ext_getElem?
  intro i
  by_cases hm : i < l.length
  · rw [takenL_at hm, takenL_at hm, inB_snoc]
    have : decide ((i : Int) = y) = false := by
      simp only [decide_eq_false_iff_not]
      intro e
      subst e
      simp [placeB] at h
      omega
    rw [this, Bool.or_false]
  · rw [takenL_none hm, takenL_none hm]

set_option maxRecDepth 100000 in
theorem less1_any (T : List Bool) (g k i : Nat) (hi : i < T.length) (W : World) (hB : Blk 4 W g (T.map Value.bool)) (hk : W.cell? ⟨k, 0, none⟩ = some (.slice (some ⟨g, 0, none⟩) T.length T.length)) :
    Calls Try.prog 52 #[.int .i64 (i : Int), .pointer (some ⟨k, 0, none⟩)] W fun e w' => e = .returned (.bool (!T[i])) ∧ w' = W := by
  have t0 : W.cell? ⟨g, i, none⟩ = some (.bool T[i]) := hB.cell (by rw [List.getElem?_map, List.getElem?_eq_getElem hi]; rfl)
  have hil : (i : Int) < (T.length : Int) := by omega
  go_enter Try.func52, Try.ntmps52
  go_wp2
  go_ret
  exact ⟨rfl, rfl⟩

/-- Which places stay. -/
def lessP (a : List Int) (i : Nat) : Bool := !inB a (i : Int)

set_option maxRecDepth 100000 in
set_option maxHeartbeats 2000000 in
theorem less_at (n : Int) (l : List Ed) (a : List Int) (ha : a.length ≤ 4194304) (sv sa : Value) (w : World) (hl : Edges w.heap.size w sv l) (hA : Ints w.heap.size w sa a) :
    Calls Try.prog 35 #[.agg #[.int .i64 n, sv], sa] w fun r w' => ∃ gv, r = .returned (.agg #[.int .i64 (stayN n l), gv]) ∧ Edges w'.heap.size w' gv (stayL n l (lessP a)) ∧ Above w.heap.size gv ∧ Below w.heap.size w w' := by
  have eg : ∀ args w, (callFunc 52 args).run Try.prog w = .ok (.enter 52 args) w := enters_of Try.func52 (by kernel_rfl) rfl
  have hg1 : Grew w ((w.alloc (.cells #[.int .i64 n, sv] 24)).alloc (.cells #[.int .i64 0, .slice none 0 0] 24)) := ((Grew.refl w).alloc _).alloc _
  have hl1 := hl.go hg1.below
  have hB1 : Blk 24 ((w.alloc (.cells #[.int .i64 n, sv] 24)).alloc (.cells #[.int .i64 0, .slice none 0 0] 24)) (w.heap.size + 1) [.int .i64 0, .slice none 0 0] := by
    have := heap_alloc_new (w.alloc (.cells #[.int .i64 n, sv] 24)) (.cells #[.int .i64 0, .slice none 0 0] 24)
    simpa [Blk] using this
  have hB0 : Blk 24 ((w.alloc (.cells #[.int .i64 n, sv] 24)).alloc (.cells #[.int .i64 0, .slice none 0 0] 24)) w.heap.size [.int .i64 n, sv] := by
    have h1 : Blk 24 (w.alloc (.cells #[.int .i64 n, sv] 24)) w.heap.size [.int .i64 n, sv] := heap_alloc_new w _
    exact h1.go (((Grew.refl _).alloc _).below)
  obtain ⟨p, c, rfl⟩ := hl.len
  obtain ⟨pa, ca, rfl⟩ := hA.len
  obtain ⟨i0, hi, hz0, hz1, hz2⟩ := info_parts infoB
  have hrc := fun W h => right_any n l (.slice p l.length c) W h
  by_cases hr : rightK n l = 0
  · have hR := right_iff.1 hr
    have hm1 := hR.m1
    have HN : Hid (stayN n l = n) := if_pos hr
    rw [hr] at hrc
    clear hr
    go_enter Try.func35, Try.ntmps35
    go_wp2_with fail
    refine (hrc _ hl1).mono ?_
    rintro e w2 ⟨rfl, hg2⟩
    have hC0 := hB0.go hg2.below
    have hC1 := hB1.go hg2.below
    have q0 := hC0.cell (j := 0) rfl
    have q1 := hC0.cell (j := 1) rfl
    have hbw := (hg1.trans hg2).below
    have hbx : w.heap.size + 2 ≤ w2.heap.size := by have := hC1.lt; omega
    clear hrc hl1 hB0 hB1 hg1 hg2
    go_wp2_with (at_make; refine wpList_make_full _ rfl _ _ 60 rfl w2.heap.size 4 i0 (.bool false) 1 Try.underlying60 hi hz0 hz1 .i64 .i64 _ _ l.length rfl rfl rfl rfl (by rw [hz2]; omega) (by unfold maxLen; omega) (Nat.le_refl _) ?_; intro w3 hown hgrow)
    have hb3 : Below w2.heap.size w2 w3 := (Below.refl _ _).grown hgrow (Nat.le_refl _) (fun k e => by cases e)
    have hrow := Blk.made hown
    rw [bools_made] at hrow
    have hgk : w2.heap.size < w3.heap.size := hrow.lt
    have hBk : Blk 60 (w3.alloc (.cells #[.slice (some ⟨w2.heap.size, 0, none⟩) l.length l.length] 60)) w3.heap.size [.slice (some ⟨w2.heap.size, 0, none⟩) l.length l.length] := heap_alloc_new w3 _
    have hBg := hrow.go ((Grew.refl w3).alloc (.cells #[.slice (some ⟨w2.heap.size, 0, none⟩) l.length l.length] 60)).below
    have hb4 : Below w2.heap.size w2 (w3.alloc (.cells #[.slice (some ⟨w2.heap.size, 0, none⟩) l.length l.length] 60)) := hb3.alloc (Nat.le_of_lt hgk) _
    have hsz4 : (w3.alloc (.cells #[.slice (some ⟨w2.heap.size, 0, none⟩) l.length l.length] 60)).heap.size = w3.heap.size + 1 := by simp
    generalize w3.alloc (.cells #[.slice (some ⟨w2.heap.size, 0, none⟩) l.length l.length] 60) = w4 at hBk hBg hb4 hsz4 ⊢
    have hD0 := hC0.below hb4 (by omega)
    have hD1 := hC1.below hb4 (by omega)
    have hbw4 := hbw.trans (hb4.mono hbw.size)
    clear hown hgrow hi hz0 hz1 hz2 hrow hb3 hb4 hC0 hC1 q0 q1 hbw
    generalize w3.heap.size = k at hgk hBk hsz4
    generalize w2.heap.size = g at hgk hBk hBg hbx
    go_loopw [18] (fun i wr => ∃ j : Nat, j ≤ a.length ∧ i = .int .i64 j ∧ Blk 4 wr g ((takenL l.length (a.take j)).map Value.bool) ∧ Blk 60 wr k [.slice (some ⟨g, 0, none⟩) l.length l.length] ∧ Below g w4 wr) (fun i _ => a.length - (intOf i).toNat)
    case atStart => exact ⟨0, Nat.zero_le _, rfl, by rw [List.take_zero, takenL_nil]; exact hBg, hBk, Below.refl _ _⟩
    case round =>
      obtain ⟨j, hj, rfl, hG, hK, hb⟩ := hrel
      have hE0 := hD0.below hb (by omega)
      have hE1 := hD1.below hb (by omega)
      have hbwr := hbw4.trans (hb.mono (by omega))
      have hKl := hK.lt
      by_cases hlt : j < a.length
      · obtain ⟨ba, offa, rfl, hba, hcapa, hca⟩ := hA.open hlt
        have c0 := hca wr hbwr j hlt
        have d0 := hE0.cell (j := 0) rfl
        have d1 := hE0.cell (j := 1) rfl
        have hjl : (j : Int) < (a.length : Int) := by omega
        have hlr : Edges wr.heap.size wr (.slice p l.length c) l := hl.go hbwr
        have HT : Hid (a.take (j + 1) = a.take j ++ [a[j]]) := take_snoc hlt
        clear hca
        go_wp2_with fail
        refine (isPlace_any n l a[j] _ _ hlr).mono ?_
        rintro e w7 ⟨rfl, hg7⟩
        have hG7 := hG.go hg7.below
        have hK7 := hK.go hg7.below
        have hb7 := hb.trans (hg7.below.mono (by omega))
        have k0 := hK7.cell (j := 0) rfl
        generalize a[j] = y at *
        clear hG hK c0 d0 d1 hlr hE0 hE1
        cases hpl : placeB l y with
        | false =>
          have HS : Hid (takenL l.length (a.take (j + 1)) = takenL l.length (a.take j)) := by unfold Hid; rw [HT.out]; exact takenL_skip hpl
          clear hpl
          go_wp2
          exact ⟨⟨j + 1, by omega, by go_num, by rw [HS.out]; exact hG7, hK7, hb7⟩, by simp [intOf]; omega⟩
        | true =>
          have hy : 0 ≤ y ∧ y < (l.length : Int) := by simpa [placeB] using hpl
          obtain ⟨x, rfl⟩ : ∃ x : Nat, y = (x : Int) := ⟨y.toNat, by omega⟩
          have hx : x < l.length := by omega
          have hxl : (x : Int) < (l.length : Int) := by omega
          have t0 : w7.cell? ⟨g, x, none⟩ = some (.bool (inB (a.take j) (x : Int))) := hG7.cell (by rw [List.getElem?_map, takenL_at hx]; rfl)
          have f0 := hG7.frozen x
          have hBn := hG7.set x (.bool true)
          rw [← List.map_set, show (takenL l.length (a.take j)).set x true = takenL l.length (a.take (j + 1)) by rw [HT.out]; exact takenL_set (x := (x : Int)) (by omega)] at hBn
          clear hpl
          go_wp2
          exact ⟨⟨j + 1, by omega, by go_num, hBn, hK7.other (p := ⟨g, x, none⟩) (by simp; omega) _, hb7.setCell (p := ⟨g, x, none⟩) (Nat.le_refl _) _⟩, by simp [intOf]; omega⟩
      · obtain rfl : j = a.length := by omega
        rw [List.take_length] at hG
        have d0 := hE0.cell (j := 0) rfl
        have d1 := hE0.cell (j := 1) rfl
        have hlr : Edges wr.heap.size wr (.slice p l.length c) l := hl.go hbwr
        have hst := staying_any n l (lessP a) 52 #[.pointer (some ⟨k, 0, none⟩)] _ wr hlr eg (fun _ W' hW i hi => by
          have h1 := less1_any (takenL l.length a) g k i (by rw [takenL_len]; exact hi) W' (hG.go hW) (by rw [takenL_len]; exact (hK.go hW).cell (j := 0) rfl)
          have h2 : (takenL l.length a)[i]'(by rw [takenL_len]; exact hi) = inB a (i : Int) := Option.some.inj ((List.getElem?_eq_getElem _).symm.trans (takenL_at hi))
          rw [h2] at h1
          exact h1.mono fun e w' ⟨h3, h4⟩ => ⟨h3, by rw [h4]; exact Below.refl _ _⟩)
        go_wp2_with fail
        refine hst.mono ?_
        rintro e w9 ⟨gv, rfl, hgE, hgA, hb9⟩
        have hF1 := hE1.go hb9
        have f0 := hF1.frozen 0
        have f1 := hF1.frozen 1
        have x0 := hF1.cell (j := 0) rfl
        have x1 := hF1.cell (j := 1) rfl
        have hbf' := below_keep hb9 hbwr (Nat.le_refl _)
        obtain ⟨pp, cc, rfl⟩ := hgE.len
        clear hst d0 d1
        go_wp2
        have hbf := (hF1.set 0 (.int .i64 (stayN n l))).set 1 (.slice pp (stayL n l (lessP a)).length cc)
        (try simp only [Exit.inBlock, Exit.then])
        refine bodyPost_ret (ret_graph1 rfl (by rfl) (hbf.cell (j := 0) rfl) (hbf.cell (j := 1) rfl)) rfl ?_
        refine ⟨.slice pp (stayL n l (lessP a)).length cc, rfl, ?_, fun a' len' c' h' h0' => Nat.le_trans hbwr.size (hgA a' len' c' h' h0'), (hbf'.setCell (p := ⟨w.heap.size + 1, 0, none⟩) (by simp) _).setCell (p := ⟨w.heap.size + 1, 1, none⟩) (by simp) _⟩
        exact (hgE.setLow hgA (by show w.heap.size + 1 < _; omega) _).setLow hgA (by show w.heap.size + 1 < _; omega) _
  · have HN : Hid (stayN n l = 0) := if_neg hr
    have HL : Hid (stayL n l (lessP a) = []) := if_neg hr
    generalize rightK n l = k at hrc hr
    have hk : (k == 0) = false := by simpa using hr
    clear hr
    go_enter Try.func35, Try.ntmps35
    go_wp2_with fail
    refine (hrc _ hl1).mono ?_
    rintro e w2 ⟨rfl, hg2⟩
    have hD1 := hB1.go hg2.below
    have hbw := (hg1.trans hg2).below
    have f0 := hD1.frozen 0
    have f1 := hD1.frozen 1
    have d0 := hD1.cell (j := 0) rfl
    have d1 := hD1.cell (j := 1) rfl
    clear hrc
    go_wp2
    have hbf := (hD1.set 0 (.int .i64 0)).set 1 (.slice none 0 0)
    (try simp only [Exit.inBlock, Exit.then])
    refine bodyPost_ret (ret_graph1 rfl (by rfl) (hbf.cell (j := 0) rfl) (hbf.cell (j := 1) rfl)) rfl ?_
    exact ⟨.slice none 0 0, by rw [HN.out], by rw [HL.out]; exact Edges.nil _ _ _ _, (fun a' len' c' h' => by cases h'), (hbw.setCell (p := ⟨w.heap.size + 1, 0, none⟩) (by simp) _).setCell (p := ⟨w.heap.size + 1, 1, none⟩) (by simp) _⟩

theorem less_any (n : Int) (l : List Ed) (a : List Int) (ha : a.length ≤ 4194304) (sv sa : Value) (w : World) (hl : Edges w.heap.size w sv l) (hA : Ints w.heap.size w sa a) :
    Calls Try.prog 35 #[.agg #[.int .i64 n, sv], sa] w fun r w' => ∃ gv, r = .returned (.agg #[.int .i64 (stayN n l), gv]) ∧ Edges w'.heap.size w' gv (stayL n l (lessP a)) ∧ Below w.heap.size w w' :=
  (less_at n l a ha sv sa w hl hA).mono fun _ _ ⟨gv, h1, h2, _, h3⟩ => ⟨gv, h1, h2, h3⟩

end Go.Proofs.Ytgjaikekpgdehaa
