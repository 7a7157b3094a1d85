/-
  The contracts of slices.Concat at []int, of rotation.fromLeast and Canon.
-/
import Derived.Test.YtnmlbkmbiecpnaaXRConcat
import Derived.Test.YtnmlbkmbiecpnaaXRNext
namespace Go.Proofs.Ytnmlbkmbiecpnaa
open Go Go.Proofs Go.RowKit

theorem flat_step {LL : List (List Int)} {j : Nat} (h : j < LL.length) : (LL.take (j + 1)).flatten = (LL.take j).flatten ++ LL[j] := by
  rw [take_snoc h, List.flatten_append]
  simp
theorem flat_le (LL : List (List Int)) (j : Nat) : (LL.take j).flatten.length ≤ LL.flatten.length := by
  have e : LL.flatten = (LL.take j).flatten ++ (LL.drop j).flatten := by rw [← List.flatten_append, List.take_append_drop]
  rw [e, List.length_append]
  omega

set_option maxRecDepth 100000 in
set_option maxHeartbeats 4000000 in
theorem concat_any (LL : List (List Int)) (h0 : 0 < LL.flatten.length) (hn : LL.flatten.length ≤ 4194304) (hl : LL.length ≤ 1000) (sv : Value) (w : World) (hr : Lsts w.heap.size w sv LL) :
    Calls Try.prog 68 #[sv] w fun e w' => ∃ v', e = .returned v' ∧ w'.ownsRow w.heap.size 3 1 v' LL.flatten.length (LL.flatten.map (Value.int .i64)) ∧ Below w.heap.size w w' := by
  obtain ⟨p, c, rfl⟩ := hr.len
  obtain ⟨i0, hi, hz0, hz1, hz2⟩ := info_parts infoI
  have HL : Hid (Lsts w.heap.size w (.slice p LL.length c) LL) := hr
  have HFL : Hid (∀ j, (LL.take j).flatten.length ≤ LL.flatten.length) := flat_le LL
  have H0 : Hid (0 < LL.flatten.length) := h0
  have HN : Hid (LL.flatten.length ≤ 4194304) := hn
  obtain ⟨Z, HZ⟩ : ∃ Z, Hid (LL.flatten = Z) := ⟨LL.flatten, rfl⟩
  rw [HZ.out]
  clear hr h0 hn
  go_enter Try.func68, Try.ntmps68
  go_wp2
  go_loop [3, 11] (fun nv iv => ∃ (j m : Nat), j ≤ LL.length ∧ iv = .int .i64 j ∧ nv = .int .i64 (m : Int) ∧ Hid (m = (LL.take j).flatten.length)) (fun _ iv => LL.length - (intOf iv).toNat)
  case atStart => exact ⟨0, 0, Nat.zero_le _, rfl, rfl, by unfold Hid; simp⟩
  case round =>
    obtain ⟨j, m, hj, rfl, rfl, HM⟩ := hrel
    have hml : m ≤ 4194304 := by have := HFL.out j; have := HM.out; have := HN.out; omega
    by_cases hlt : j < LL.length
    · have hjl : (j : Int) < (LL.length : Int) := by omega
      obtain ⟨b, off, rfl, hbb, hcap, px, kx, hIx, c0⟩ := HL.out.cellAt hlt
      have HST : Hid (m + LL[j].length = (LL.take (j + 1)).flatten.length) := by unfold Hid; rw [flat_step hlt, List.length_append, HM.out]
      have hxl : m + LL[j].length ≤ 4194304 := by have := HFL.out (j + 1); have := HST.out; have := HN.out; omega
      generalize LL[j] = X at *
      have hneg : ¬ ((m : Int) + (X.length : Int)) < 0 := by omega
      have HLT : Hid (j < LL.length) := hlt
      clear hIx hlt HM
      go_wp2
      exact ⟨⟨j + 1, m + X.length, HLT.out, by go_num, by go_num, HST.out⟩, by have := HLT.out; simp [intOf]; omega⟩
    · have hjn : ¬ (j : Int) < (LL.length : Int) := by omega
      have hme : m = LL.flatten.length := by rw [HM.out, List.take_of_length_le (by omega)]
      have hgr := grow_any m (by have := H0.out; omega) (by omega) w
      clear hlt HM hme
      go_wp2_with fail
      refine hgr.mono ?_
      clear hgr
      rintro e w2 ⟨v2, rfl, hO2, hb2⟩
      obtain ⟨p2, c2, rfl⟩ := owns_formP hO2
      have HO2 : Hid (w2.ownsRow w.heap.size 3 1 (.slice p2 0 c2) 0 []) := hO2
      have HB2 : Hid (Below w.heap.size w w2) := hb2
      clear hO2 hb2
      go_wp2
      go_loopw [6, 27] (fun nv iv wr => ∃ (k : Nat) (R : List Int), k ≤ LL.length ∧ iv = .int .i64 k ∧ Hid (R = (LL.take k).flatten) ∧ wr.ownsRow w.heap.size 3 1 nv R.length (R.map (Value.int .i64)) ∧ Below w.heap.size w wr) (fun _ iv _ => LL.length - (intOf iv).toNat)
      case atStart => exact ⟨0, [], Nat.zero_le _, rfl, by unfold Hid; simp, HO2.out, HB2.out⟩
      case round =>
        obtain ⟨k, R, hk, rfl, HR, hown, hb⟩ := hrel
        have hRl : R.length ≤ 4194304 := by have := HFL.out k; have := HN.out; rw [HR.out]; omega
        obtain ⟨pn, cn, rfl⟩ := owns_formP hown
        by_cases hkl : k < LL.length
        · have hkl' : (k : Int) < (LL.length : Int) := by omega
          obtain ⟨b, off, rfl, hbb, hcap, px, kx, hIx, c0⟩ := (HL.out.go hb).cellAt hkl
          have HST : Hid (R ++ LL[k] = (LL.take (k + 1)).flatten) := by unfold Hid; rw [flat_step hkl, HR.out]
          have hxl : R.length + LL[k].length ≤ 4194304 := by have h1 := HFL.out (k + 1); have h2 := congrArg List.length HST.out; rw [List.length_append] at h2; have := HN.out; omega
          have hsrc := Src.ints hIx
          generalize LL[k] = X at *
          have hmx : R.length + X.length ≤ maxLen := by unfold maxLen; omega
          have hby : (R.length + X.length) * 8 ≤ 140737488355328 := by omega
          have hbs := hb.size
          have hlow : ∀ q, (Value.slice pn R.length cn).ownBlock = some q → w.heap.size ≤ q := fun q hq => (hown.lt q hq).1
          have HKL : Hid (k < LL.length) := hkl
          clear hIx hkl HR
          go_wp2_with (at_builtin; refine wpList_append_src _ rfl _ _ 41 rfl w.heap.size 3 i0 (.int .i64 0) 1 8 Try.underlying41 hi hz0 hz1 hz2 rfl (by decide) (.slice pn R.length cn) R.length (R.map (Value.int .i64)) rfl hown (.slice px X.length kx) X.length (X.map (Value.int .i64)) rfl hsrc hmx hby hbs ?_)
          intro v7 w7 hown7 hg7
          obtain ⟨a7, m7, k7, rfl⟩ := owns_slice hown7
          have HO7 : Hid (w7.ownsRow w.heap.size 3 1 (.slice a7 m7 k7) (R ++ X).length ((R ++ X).map (Value.int .i64))) := by
            unfold Hid
            rw [List.length_append, List.map_append]
            exact hown7
          have HB7 : Hid (Below w.heap.size w w7) := hb.grown hg7 hbs hlow
          clear hown7 hg7 hown hb hsrc
          go_wp2
          exact ⟨⟨k + 1, R ++ X, HKL.out, by go_num, HST.out, HO7.out, HB7.out⟩, by have := HKL.out; simp [intOf]; omega⟩
        · have hkn : ¬ (k : Int) < (LL.length : Int) := by omega
          have hRe : R = Z := by rw [HR.out, List.take_of_length_le (by omega)]; exact HZ.out
          subst hRe
          have HF : Hid (wr.ownsRow w.heap.size 3 1 (.slice pn R.length cn) R.length (R.map (Value.int .i64)) ∧ Below w.heap.size w wr) := ⟨hown, hb⟩
          clear hown hb hkl HR hml hRl H0 HN HFL HZ
          go_wp2
          go_ret
          exact ⟨.slice pn R.length cn, rfl, HF.out.1, HF.out.2⟩
/-- The list from its least one on. -/
def leastAt (L : List Int) : Nat := L.idxOf (Lib.minOf L)
def leastL (L : List Int) : List Int := L.drop (leastAt L) ++ L.take (leastAt L)
theorem foldl_min : ∀ (L : List Int) (a : Int), L.foldl min a ≤ a ∧ (∀ x ∈ L, L.foldl min a ≤ x) ∧ (L.foldl min a = a ∨ L.foldl min a ∈ L)
  | [], a => by simp
  | y :: L, a => by
    rw [List.foldl_cons]
    obtain ⟨h1, h2, h3⟩ := foldl_min L (min a y)
    have hm : min a y ≤ a ∧ min a y ≤ y := ⟨Int.min_le_left _ _, Int.min_le_right _ _⟩
    refine ⟨by omega, fun x hx => ?_, ?_⟩
    · rcases List.mem_cons.1 hx with rfl | hx
      · omega
      · exact h2 x hx
    · rcases h3 with h3 | h3
      · by_cases h : a ≤ y
        · left; rw [h3, Int.min_eq_left h]
        · right; rw [h3, Int.min_eq_right (by omega)]; simp
      · right; simp [h3]
theorem minOf_mem {L : List Int} (h : L ≠ []) : Lib.minOf L ∈ L ∧ ∀ x ∈ L, Lib.minOf L ≤ x := by
  unfold Lib.minOf
  match L, h with
  | y :: L, _ =>
    obtain ⟨h1, h2, h3⟩ := foldl_min (y :: L) ((y :: L).headD 0)
    refine ⟨?_, h2⟩
    rcases h3 with h3 | h3
    · rw [h3]; simp
    · exact h3
theorem leastAt_lt {L : List Int} (h : L ≠ []) : leastAt L < L.length := List.idxOf_lt_length_of_mem (minOf_mem h).1
theorem leastL_len (L : List Int) : (leastL L).length = L.length := by
  unfold leastL
  rw [List.length_append, List.length_drop, List.length_take]
  omega
theorem first_idx {L : List Int} {x : Int} {k : Nat} (h : FirstAt L x k) : L.idxOf x = k := by
  obtain ⟨hk, he, hn⟩ := h
  exact idxOf_is hk he hn

set_option maxRecDepth 100000 in
set_option maxHeartbeats 4000000 in
theorem fromLeast_any (L : List Int) (hne : L ≠ []) (hL : L.length ≤ 4194304) (sv : Value) (w : World) (h : Ints w.heap.size w sv L) :
    Calls Try.prog 47 #[sv] w fun e w' => ∃ v', e = .returned v' ∧ w'.ownsRow w.heap.size 3 1 v' (leastL L).length ((leastL L).map (Value.int .i64)) ∧ Below w.heap.size w w' := by
  obtain ⟨p, c, rfl⟩ := h.len
  have hpos := List.length_pos_iff.2 hne
  obtain ⟨b, off, rfl, hbb, hcap, hc⟩ := h.open hpos
  have hmin := Try.slices_Min_int b off L.length c L w hpos (Nat.le_refl _) (by omega) (ints_cells h)
  rw [List.take_length] at hmin
  have hix := idx_any L (Lib.minOf L) (by omega) (.slice (some ⟨b, off, none⟩) L.length c) _ w h
  have hal := leastAt_lt hne
  have hmm := (minOf_mem hne).1
  have HX : Hid (∀ k, FirstAt L (Lib.minOf L) k → leastAt L = k) := fun k hk => first_idx hk
  have HM : Hid (Lib.minOf L ∈ L) := hmm
  have HC : Hid (∀ W', Below w.heap.size w W' → ∀ (i : Nat) (hi : i < L.length), W'.cell? ⟨b, off + i, none⟩ = some (.int .i64 L[i])) := hc
  have HF : Hid (leastL L = L.drop (leastAt L) ++ L.take (leastAt L)) := rfl
  have hmix := mixed
  generalize Lib.minOf L = mm at *
  generalize leastAt L = at_ at *
  generalize leastL L = R at *
  clear h hne hc hmm
  go_enter Try.func47, Try.ntmps47
  go_wp2_with fail
  refine hmin.mono ?_
  clear hmin
  rintro e w2 ⟨rfl, rfl⟩
  go_wp2_with fail
  refine hix.mono ?_
  clear hix
  rintro e w3 ⟨rfl, ⟨k, hk, rfl⟩ | ⟨hn, rfl⟩⟩
  · have e1 := HX.out k hk
    subst e1
    clear hk HX HM
    have hak : (at_ : Int) ≤ (L.length : Int) := by omega
    have hac : (at_ : Int) ≤ (c : Int) := by omega
    have ha0 : ¬ (at_ : Int) < 0 := by omega
    go_wp2_with fail
    refine wp_region_held_drew (S := (fun w' : World => True)) (by kernel_rfl) trivial (fun hHeld => ?_)
    refine wpAnyH_take (i := 0) (v := ?_) rfl (by kernel_rfl) (by kernel_rfl) (by kernel_rfl) (fun _ _ _ h => h) (Or.inl ⟨by rfl, ?_⟩) (by assumption) ?_
    rotate_left
    · intro w hSw; (try dsimp only at hSw); go_simp; (try with_reducible rfl)
    try simp only [Act.put, List.setIfInBounds_toArray]
    refine wpAnyH_take (i := 1) (v := ?_) rfl (by kernel_rfl) (by kernel_rfl) (by kernel_rfl) (fun _ _ _ h => h) (Or.inl ⟨by rfl, ?_⟩) (by assumption) ?_
    rotate_left
    · intro w hSw; (try dsimp only at hSw); go_simp; (try with_reducible rfl)
    try simp only [Act.put]
    refine wpAnyH_take (i := 2) (v := .slice (some ⟨b, off + at_, none⟩) (L.length - at_) (c - at_)) rfl (by kernel_rfl) (by kernel_rfl) (by kernel_rfl) (fun _ _ _ h => h) (Or.inl ⟨by rfl, ?_⟩) (by assumption) ?_
    · intro w hSw; go_simp; intro h; omega
    try simp only [Act.put]
    refine wpAnyH_take (i := 3) (v := ?_) rfl (by kernel_rfl) (by kernel_rfl) (by kernel_rfl) (fun _ _ _ h => h) (Or.inl ⟨by rfl, ?_⟩) (by assumption) ?_
    rotate_left
    · intro w hSw; (try dsimp only at hSw); go_simp; (try with_reducible rfl)
    try simp only [Act.put]
    refine wpAnyH_take (i := 4) (v := ?_) rfl (by kernel_rfl) (by kernel_rfl) (by kernel_rfl) (fun _ _ _ h => h) (Or.inl ⟨by rfl, ?_⟩) (by assumption) ?_
    rotate_left
    · intro w hSw; (try dsimp only at hSw); go_simp; (try with_reducible rfl)
    try simp only [Act.put]
    refine wpAnyH_take (i := 5) (v := .slice (some ⟨b, off, none⟩) at_ c) rfl (by kernel_rfl) (by kernel_rfl) (by kernel_rfl) (fun _ _ _ h => h) (Or.inl ⟨by rfl, ?_⟩) (by assumption) ?_
    · intro w hSw; go_simp
    try simp only [Act.put]
    have hbd : Below w3.heap.size w3 w3.drew := below_drewN (Below.refl _ _) 1
    generalize w3.drew = w4 at *
    have hbA : Below w4.heap.size w4 (w4.alloc (.cells #[.slice (some ⟨b, off + at_, none⟩) (L.length - at_) (c - at_), .slice (some ⟨b, off, none⟩) at_ c] 41)) := (Below.refl _ _).alloc (Nat.le_refl _) _
    have hXA : Blk 41 (w4.alloc (.cells #[.slice (some ⟨b, off + at_, none⟩) (L.length - at_) (c - at_), .slice (some ⟨b, off, none⟩) at_ c] 41)) w4.heap.size [.slice (some ⟨b, off + at_, none⟩) (L.length - at_) (c - at_), .slice (some ⟨b, off, none⟩) at_ c] := heap_alloc_new w4 _
    have hb34 := hbd.trans (hbA.mono hbd.size)
    have hcell := HC.out _ hb34
    have hLst : Lsts (w4.alloc (.cells #[.slice (some ⟨b, off + at_, none⟩) (L.length - at_) (c - at_), .slice (some ⟨b, off, none⟩) at_ c] 41)).heap.size (w4.alloc (.cells #[.slice (some ⟨b, off + at_, none⟩) (L.length - at_) (c - at_), .slice (some ⟨b, off, none⟩) at_ c] 41)) (.slice (some ⟨w4.heap.size, 0, none⟩) 2 2) [L.drop at_, L.take at_] := by
      have hbb4 := Nat.lt_of_lt_of_le hbb hb34.size
      refine .inr ⟨w4.heap.size, 0, 2, rfl, hXA.lt, Nat.le_refl _, fun j x hx => ?_⟩
      match j, hx with
      | 0, hx =>
        have e : L.drop at_ = x := by simpa using hx
        subst e
        refine ⟨_, hXA.cell (j := 0) rfl, .inr ⟨b, off + at_, c - at_, by rw [List.length_drop], hbb4, by rw [List.length_drop]; omega, fun i y hy => ?_⟩⟩
        rw [List.getElem?_drop] at hy
        obtain ⟨hi, rfl⟩ := List.getElem?_eq_some_iff.1 hy
        rw [Nat.add_assoc]
        exact hcell (at_ + i) hi
      | 1, hx =>
        have e : L.take at_ = x := by simpa using hx
        subst e
        have hlt : (L.take at_).length = at_ := by rw [List.length_take]; omega
        refine ⟨_, hXA.cell (j := 1) rfl, .inr ⟨b, off, c, by rw [hlt], hbb4, by rw [hlt]; omega, fun i y hy => ?_⟩⟩
        have hia : i < at_ := by have := (List.getElem?_eq_some_iff.1 hy).1; rw [hlt] at this; exact this
        rw [List.getElem?_take_of_lt hia] at hy
        obtain ⟨hi, rfl⟩ := List.getElem?_eq_some_iff.1 hy
        exact hcell i hi
      | j + 2, hx => simp at hx
    have hfl : [L.drop at_, L.take at_].flatten = R := by rw [HF.out]; simp
    have hRl : R.length = L.length := by rw [HF.out, List.length_append, List.length_drop, List.length_take]; omega
    have hco := concat_any [L.drop at_, L.take at_] (by rw [hfl, hRl]; exact hpos) (by rw [hfl, hRl]; exact hL) (by simp) _ _ hLst
    rw [hfl] at hco
    clear hfl hRl
    refine wpAnyH_ready (rs := [6]) (by kernel_rfl) (by simp) ?_
    refine AllReadyH.cons rfl (fun K hK => ?_) AllReadyH.nil
    go_simp
    refine hK.out _ _ trivial (fun _ => ?_)
    clear hK K
    try simp only [Act.put, List.setIfInBounds_toArray, List.set_cons_zero, List.set_cons_succ]
    refine wpAnyH_ready (rs := [7]) (by kernel_rfl) (by simp) ?_
    refine AllReadyH.cons rfl (fun K hK => ?_) AllReadyH.nil
    go_simp
    refine hco.mono ?_
    rintro e w6 ⟨v6, rfl, hO6, hb6⟩
    obtain ⟨p6, c6, rfl⟩ := owns_formP hO6
    refine hK.out _ _ trivial (fun _ => ?_)
    clear hK K hco
    have HO : Hid (w6.ownsRow w3.heap.size 3 1 (.slice p6 R.length c6) R.length (R.map (Value.int .i64)) ∧ Below w3.heap.size w3 w6) := ⟨owns_base hO6 hb34.size, hb34.trans (hb6.mono hb34.size)⟩
    try simp only [Act.put, List.setIfInBounds_toArray, List.set_cons_zero, List.set_cons_succ]
    refine wpAnyH_ready (rs := [8]) (by kernel_rfl) (by simp) ?_
    refine AllReadyH.cons rfl (fun K hK => ?_) AllReadyH.nil
    go_simp
    refine hK.out _ _ trivial (fun _ => ?_)
    clear hK K
    try simp only [List.setIfInBounds_toArray, List.set_cons_zero, List.set_cons_succ]
    refine wpAnyH_done (by kernel_rfl) ?_ _
    clear hO6 hb6 hLst hcell hbA hXA hb34 hbd
    go_wp2
    go_ret
    exact ⟨.slice p6 R.length c6, rfl, HO.out.1, HO.out.2⟩
  · exact absurd HM.out hn
end Go.Proofs.Ytnmlbkmbiecpnaa
