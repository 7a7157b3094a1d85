/-
  The contracts of kuratowski.Class and kuratowski.Check.
-/
import Derived.Test.YtgjaikekpgdehaaXKParted
namespace Go.Proofs.Ytgjaikekpgdehaa
open Go Go.Proofs Go.RowKit

def fiveB (ws : List (List Int)) : Bool := decide (ws.length = 10) && (decide ((crnL ws).length = 5) && joinB ws (twoTo (crnL ws) (crnL ws).length))
def nrP (ws : List (List Int)) : List Int := preN (crnL ws) ws (crnL ws).length
def frP (ws : List (List Int)) : List Int := preF (crnL ws) ws (crnL ws).length
def threeB (ws : List (List Int)) : Bool := decide (ws.length = 9) && (decide ((nrP ws).length = 3) && (decide ((frP ws).length = 3) && joinB ws (acrTo (nrP ws) (frP ws) (nrP ws).length)))

set_option maxRecDepth 100000 in
set_option maxHeartbeats 2000000 in
theorem isFive_any (ws : List (List Int)) (hw : ∀ x ∈ ws, 1 ≤ x.length ∧ x.length ≤ 4194304) (lv : Value) (w : World) (hl : Lsts w.heap.size w lv ws) :
    Calls Try.prog 28 #[lv] w fun r w' => r = .returned (.bool (fiveB ws)) ∧ Below w.heap.size w w' := by
  obtain ⟨p, c, rfl⟩ := hl.len
  by_cases h10 : ws.length = 10
  · have hco := cornersOf_any ws (by omega) (by omega) hw _ w hl
    have HE : Hid (fiveB ws = (decide ((crnL ws).length = 5) && joinB ws (twoTo (crnL ws) (crnL ws).length))) := by unfold Hid fiveB; rw [decide_eq_true h10, Bool.true_and]
    have HJ : Hid (∀ ps : List (Int × Int), ps.length ≤ 4194304 → ∀ (pv : Value) (W : World), Below w.heap.size w W → Prs W.heap.size W pv ps → Calls Try.prog 43 #[.slice p 10 c, pv] W fun r w' => r = .returned (.bool (joinB ws ps)) ∧ Below W.heap.size W w') := fun ps hps pv W hb hP =>
      joinsEach_any ws (by omega) hw ps hps (.slice p 10 c) pv W (by rw [h10] at hl; exact (hl.below hb).mono hb.size) hP
    rw [h10] at hco ⊢
    generalize crnL ws = C at *
    clear hl hw
    go_enter Try.func28, Try.ntmps28
    go_wp2_with fail
    refine hco.mono ?_
    clear hco
    rintro e w2 ⟨cv, rfl, hC, hb2⟩
    obtain ⟨pc, cc, rfl⟩ := hC.len
    by_cases h5 : C.length = 5
    · have het := eachTwo_any C (by omega) _ w2 hC
      have HE2 : Hid (fiveB ws = joinB ws (twoTo C C.length)) := by unfold Hid; rw [HE.out, decide_eq_true h5, Bool.true_and]
      have HT : Hid ((twoTo C C.length).length ≤ 4194304) := by unfold Hid; have := twoTo_len C C.length; rw [h5] at this ⊢; omega
      rw [h5] at het ⊢
      have e5 : twoTo C 5 = twoTo C C.length := by rw [h5]
      rw [e5] at het
      generalize twoTo C C.length = ps at *
      clear hC HE e5
      go_wp2_with fail
      refine het.mono ?_
      clear het
      rintro e w3 ⟨pv, rfl, hP, hb3⟩
      have hb23 := hb2.trans (hb3.mono hb2.size)
      have hj := HJ.out ps HT.out pv w3 hb23 hP
      obtain ⟨pp, cp, rfl⟩ := hP.len
      generalize joinB ws ps = q at *
      have HB : Hid _ := hb23
      clear hP hb2 hb3 hb23 h5
      go_wp2_with fail
      refine hj.mono ?_
      clear hj
      rintro e w4 ⟨rfl, hb4⟩
      have HB4 : Hid (Below w.heap.size w w4) := HB.out.trans (hb4.mono HB.out.size)
      clear hb4 HB
      go_wp2
      go_ret
      exact ⟨by rw [HE2.out]; rfl, HB4.out⟩
    · have HE2 : Hid (fiveB ws = false) := by unfold Hid; rw [HE.out, decide_eq_false h5, Bool.false_and]
      have hne : ¬ ((C.length : Int) = 5) := by omega
      have HB : Hid _ := hb2
      clear hC hb2 h5 HE
      generalize C.length = m at *
      go_wp2
      go_ret
      exact ⟨by rw [HE2.out]; rfl, HB.out⟩
  · have HE2 : Hid (fiveB ws = false) := by unfold Hid fiveB; rw [decide_eq_false h10, Bool.false_and]
    have hne : ¬ ((ws.length : Int) = 10) := by omega
    clear hl h10
    generalize ws.length = m at *
    go_enter Try.func28, Try.ntmps28
    go_wp2
    go_ret
    exact ⟨by rw [HE2.out]; rfl, Below.refl _ _⟩

set_option maxRecDepth 100000 in
set_option maxHeartbeats 2000000 in
theorem isThree_any (ws : List (List Int)) (hw : ∀ x ∈ ws, 1 ≤ x.length ∧ x.length ≤ 4194304) (lv : Value) (w : World) (hl : Lsts w.heap.size w lv ws) :
    Calls Try.prog 29 #[lv] w fun r w' => r = .returned (.bool (threeB ws)) ∧ Below w.heap.size w w' := by
  obtain ⟨p, c, rfl⟩ := hl.len
  by_cases h9 : ws.length = 9
  · have hco := cornersOf_any ws (by omega) (by omega) hw _ w hl
    have HCL : Hid ((crnL ws).length ≤ 18) := by
      have h1 : (Lib.compact (sortL (endsL ws))).length ≤ (endsL ws).length := by
        rw [← sortL_len (endsL ws)]
        unfold Lib.compact Lib.compactUpTo
        rw [List.length_map]
        exact Nat.le_trans (List.length_filter_le _ _) (by simp)
      have h2 := endsL_len ws
      show (Lib.compact (sortL (endsL ws))).length ≤ 18
      omega
    have HE : Hid (threeB ws = (decide ((nrP ws).length = 3) && (decide ((frP ws).length = 3) && joinB ws (acrTo (nrP ws) (frP ws) (nrP ws).length)))) := by unfold Hid threeB; rw [decide_eq_true h9, Bool.true_and]
    have HJ : Hid (∀ ps : List (Int × Int), ps.length ≤ 4194304 → ∀ (pv : Value) (W : World), Below w.heap.size w W → Prs W.heap.size W pv ps → Calls Try.prog 43 #[.slice p 9 c, pv] W fun r w' => r = .returned (.bool (joinB ws ps)) ∧ Below W.heap.size W w') := fun ps hps pv W hb hP =>
      joinsEach_any ws (by omega) hw ps hps (.slice p 9 c) pv W (by rw [h9] at hl; exact (hl.below hb).mono hb.size) hP
    have HP : Hid (∀ (cv : Value) (W : World), Below w.heap.size w W → Ints W.heap.size W cv (crnL ws) → Calls Try.prog 45 #[cv, .slice p 9 c] W fun r w' => ∃ nv fv, r = .returned (.tuple #[nv, fv]) ∧ Ints w'.heap.size w' nv (nrP ws) ∧ Ints w'.heap.size w' fv (frP ws) ∧ Below W.heap.size W w') := fun cv W hb hC =>
      parted_any (crnL ws) (by have := HCL.out; omega) ws (by omega) hw cv (.slice p 9 c) W hC (by rw [h9] at hl; exact (hl.below hb).mono hb.size)
    have HNL : Hid ((nrP ws).length ≤ 18 ∧ (frP ws).length ≤ 18) := ⟨Nat.le_trans (preN_len _ _ _) HCL.out, Nat.le_trans (preF_len _ _ _) HCL.out⟩
    rw [h9] at hco ⊢
    generalize nrP ws = A at *
    generalize frP ws = B at *
    generalize crnL ws = C at *
    clear hl hw
    go_enter Try.func29, Try.ntmps29
    go_wp2_with fail
    refine hco.mono ?_
    clear hco
    rintro e w2 ⟨cv, rfl, hC, hb2⟩
    have hpt := HP.out cv w2 hb2 hC
    obtain ⟨pc, cc, rfl⟩ := hC.len
    clear HP hC
    go_wp2_with fail
    refine hpt.mono ?_
    clear hpt
    rintro e w3 ⟨nv, fv, rfl, hA, hB, hb3⟩
    have hb23 := hb2.trans (hb3.mono hb2.size)
    have HB23 : Hid _ := hb23
    have hac := across_any A B (by have := HNL.out.1; omega) (by have := HNL.out.2; omega) nv fv w3 hA hB
    obtain ⟨pa, ca, rfl⟩ := hA.len
    obtain ⟨pb, cb, rfl⟩ := hB.len
    clear hA hB hb2 hb3 hb23
    by_cases ha3 : A.length = 3
    · by_cases hb3 : B.length = 3
      · have HE2 : Hid (threeB ws = joinB ws (acrTo A B A.length)) := by unfold Hid; rw [HE.out, decide_eq_true ha3, decide_eq_true hb3, Bool.true_and, Bool.true_and]
        have HT : Hid ((acrTo A B A.length).length ≤ 4194304) := by unfold Hid; have := acrTo_len A B A.length; rw [ha3, hb3] at this; rw [ha3]; omega
        have e3 : acrTo A B 3 = acrTo A B A.length := by rw [ha3]
        rw [ha3, hb3, e3] at hac
        rw [ha3, hb3]
        generalize acrTo A B A.length = ps at *
        clear HE e3
        go_wp2_with fail
        refine hac.mono ?_
        clear hac
        rintro e w4 ⟨pv, rfl, hP, hb4⟩
        have hb34 := HB23.out.trans (hb4.mono HB23.out.size)
        have hj := HJ.out ps HT.out pv w4 hb34 hP
        obtain ⟨pp, cp, rfl⟩ := hP.len
        generalize joinB ws ps = q at *
        have HB : Hid _ := hb34
        clear hP hb4 hb34
        go_wp2_with fail
        refine hj.mono ?_
        clear hj
        rintro e w5 ⟨rfl, hb5⟩
        have HB5 : Hid (Below w.heap.size w w5) := HB.out.trans (hb5.mono HB.out.size)
        clear hb5 HB
        go_wp2
        go_ret
        exact ⟨by rw [HE2.out]; rfl, HB5.out⟩
      · have HE2 : Hid (threeB ws = false) := by unfold Hid; rw [HE.out, decide_eq_false hb3, Bool.false_and, Bool.and_false]
        have hne : ¬ ((B.length : Int) = 3) := by omega
        rw [ha3]
        clear hac HE
        generalize B.length = m at *
        go_wp2
        go_ret
        exact ⟨by rw [HE2.out]; rfl, HB23.out⟩
    · have HE2 : Hid (threeB ws = false) := by unfold Hid; rw [HE.out, decide_eq_false ha3, Bool.false_and]
      have hne : ¬ ((A.length : Int) = 3) := by omega
      clear hac HE
      generalize A.length = m at *
      go_wp2
      go_ret
      exact ⟨by rw [HE2.out]; rfl, HB23.out⟩
  · have HE2 : Hid (threeB ws = false) := by unfold Hid threeB; rw [decide_eq_false h9, Bool.false_and]
    have hne : ¬ ((ws.length : Int) = 9) := by omega
    clear hl h9
    generalize ws.length = m at *
    go_enter Try.func29, Try.ntmps29
    go_wp2
    go_ret
    exact ⟨by rw [HE2.out]; rfl, Below.refl _ _⟩

theorem waysTo_each {N : Nat} {l : List Ed} : ∀ {j : Nat} {x : List Int}, x ∈ waysTo l N j → ∃ (v : Nat) (u : Int), v < j ∧ u ∈ nb l (v : Int) ∧ 3 ≤ (nb l (v : Int)).length ∧ x = wayL l N (v : Int) u ∧ toldB x = true
  | 0, x, h => by simp [waysTo] at h
  | j + 1, x, h => by
    rw [waysTo] at h
    rcases List.mem_append.1 h with h | h
    · obtain ⟨v, u, h1, h2⟩ := waysTo_each h
      exact ⟨v, u, by omega, h2⟩
    · by_cases h3 : (nb l (j : Int)).length < 3
      · rw [if_pos h3] at h; simp at h
      · rw [if_neg h3] at h
        unfold vWays at h
        obtain ⟨h4, h5⟩ := List.mem_filter.1 h
        obtain ⟨u, hu, rfl⟩ := List.mem_map.1 h4
        exact ⟨j, u, by omega, hu, by omega, rfl, h5⟩
theorem sub_right {n : Int} {l : List Ed} {a : List Int} (h : RightG n l) : RightG ((n.toNat : Nat) : Int) (subL l a) := by
  have := keep_right h (fun i => inB a (i : Int))
  rw [show ((n.toNat : Nat) : Int) = n by have := h.n0; omega]
  exact this
theorem wyL_len {n : Int} {l : List Ed} {a : List Int} : ∀ x ∈ wyL n l a, 1 ≤ x.length ∧ x.length ≤ 4194304 := by
  intro x hx
  unfold wyL at hx
  by_cases hk : wgtK n l a = 0
  · rw [if_pos hk] at hx
    obtain ⟨hR, -⟩ := wgtK_zero hk
    have hR2 := sub_right (a := a) hR
    unfold wsL at hx
    split at hx
    · obtain ⟨v, u, h1, h2, h3, rfl, _⟩ := waysTo_each hx
      have := wayL_len hR2 h2 (by omega)
      have h4 := hR.n1
      omega
    · simp at hx
  · rw [if_neg hk] at hx; simp at hx

def clsV (n : Int) (l : List Ed) (a : List Int) : Int := if wyK n l a = 0 then (if fiveB (wyL n l a) = true then 5 else if threeB (wyL n l a) = true then 33 else 0) else 0
def clsK (n : Int) (l : List Ed) (a : List Int) : Int := if wyK n l a = 0 then (if fiveB (wyL n l a) = true then 0 else if threeB (wyL n l a) = true then 0 else 13) else wyK n l a

set_option maxRecDepth 100000 in
set_option maxHeartbeats 2000000 in
theorem class_any (n : Int) (l : List Ed) (a : List Int) (ha : a.length ≤ 4194304) (sv sa : Value) (w : World) (hl : Edges w.heap.size w sv l) (hA : Ints w.heap.size w sa a) :
    Calls Try.prog 12 #[.agg #[.int .i64 n, sv], sa] w fun r w' => r = .returned (.tuple #[.int .i64 (clsV n l a), .int .i64 (clsK n l a)]) ∧ Below w.heap.size w w' := by
  have hg1 : Grew w (w.alloc (.cells #[.int .i64 n, sv] 24)) := (Grew.refl w).alloc _
  have hwy := ways_any n l a ha sv sa _ (hl.go hg1.below) (hA.go hg1.below)
  have hw := wyL_len (n := n) (l := l) (a := a)
  obtain ⟨p, c, rfl⟩ := hl.len
  obtain ⟨pa, ca, rfl⟩ := hA.len
  have HV : Hid (clsV n l a = if wyK n l a = 0 then (if fiveB (wyL n l a) = true then 5 else if threeB (wyL n l a) = true then 33 else 0) else 0) := rfl
  have HK : Hid (clsK n l a = if wyK n l a = 0 then (if fiveB (wyL n l a) = true then 0 else if threeB (wyL n l a) = true then 0 else 13) else wyK n l a) := rfl
  have HG : Hid _ := hg1.below
  generalize wyK n l a = k at *
  generalize wyL n l a = ws at *
  clear hl hA hg1
  go_enter Try.func12, Try.ntmps12
  go_wp2_with fail
  refine hwy.mono ?_
  clear hwy
  rintro e w2 ⟨lv, rfl, hL, hb2⟩
  have hb := HG.out.trans (hb2.mono HG.out.size)
  by_cases hk : k = 0
  · subst hk
    have h5 := isFive_any ws hw lv w2 hL
    have H3 : Hid (∀ W, Below w2.heap.size w2 W → Calls Try.prog 29 #[lv] W fun r w' => r = .returned (.bool (threeB ws)) ∧ Below W.heap.size W w') := fun W hW => isThree_any ws hw lv W ((hL.below hW).mono hW.size)
    obtain ⟨pl, cl, rfl⟩ := hL.len
    rw [if_pos rfl] at HV HK
    have HB : Hid _ := hb
    clear hL hb hb2 HG hw
    go_wp2_with fail
    refine h5.mono ?_
    clear h5
    rintro e w3 ⟨rfl, hb3⟩
    have hb23 := HB.out.trans (hb3.mono HB.out.size)
    cases hf : fiveB ws with
    | true =>
      rw [hf, if_pos rfl] at HV HK
      have HB3 : Hid _ := hb23
      clear hb3 hb23 H3
      go_wp2
      go_ret2
      exact ⟨by rw [HV.out, HK.out]; rfl, HB3.out⟩
    | false =>
      have h3 := H3.out w3 hb3
      rw [hf, if_neg (by simp)] at HV HK
      have HB3 : Hid _ := hb23
      clear hb3 hb23 H3
      go_wp2_with fail
      refine h3.mono ?_
      clear h3
      rintro e w4 ⟨rfl, hb4⟩
      have HB4 : Hid (Below w.heap.size w w4) := HB3.out.trans (hb4.mono HB3.out.size)
      clear hb4
      cases ht : threeB ws with
      | true =>
        rw [ht, if_pos rfl] at HV HK
        go_wp2
        go_ret2
        exact ⟨by rw [HV.out, HK.out]; rfl, HB4.out⟩
      | false =>
        rw [ht, if_neg (by simp)] at HV HK
        go_wp2
        go_ret2
        exact ⟨by rw [HV.out, HK.out]; rfl, HB4.out⟩
  · rw [if_neg hk] at HV HK
    obtain ⟨pl, cl, rfl⟩ := hL.len
    clear hL hw
    go_wp2
    go_ret2
    exact ⟨by rw [HV.out, HK.out]; rfl, hb⟩

set_option maxRecDepth 100000 in
theorem check_any (n : Int) (l : List Ed) (a : List Int) (ha : a.length ≤ 4194304) (sv sa : Value) (w : World) (hl : Edges w.heap.size w sv l) (hA : Ints w.heap.size w sa a) :
    Calls Try.prog 14 #[.agg #[.int .i64 n, sv], sa] w fun r w' => r = .returned (.int .i64 (clsK n l a)) ∧ Below w.heap.size w w' := by
  have hg1 : Grew w (w.alloc (.cells #[.int .i64 n, sv] 24)) := (Grew.refl w).alloc _
  have hcl := class_any n l a ha sv sa _ (hl.go hg1.below) (hA.go hg1.below)
  obtain ⟨p, c, rfl⟩ := hl.len
  obtain ⟨pa, ca, rfl⟩ := hA.len
  have HG : Hid _ := hg1.below
  generalize clsV n l a = v at *
  generalize clsK n l a = k at *
  clear hl hA hg1
  go_enter Try.func14, Try.ntmps14
  go_wp2_with fail
  refine hcl.mono ?_
  clear hcl
  rintro e w2 ⟨rfl, hb2⟩
  have hb := HG.out.trans (hb2.mono HG.out.size)
  clear hb2
  go_wp2
  go_ret
  exact ⟨rfl, hb⟩
end Go.Proofs.Ytgjaikekpgdehaa
