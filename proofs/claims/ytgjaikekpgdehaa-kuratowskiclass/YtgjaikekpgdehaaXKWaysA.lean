/-
  The contract of kuratowski.Ways.
-/
import Derived.Test.YtgjaikekpgdehaaXKWaysOf
namespace Go.Proofs.Ytgjaikekpgdehaa
open Go Go.Proofs Go.RowKit

theorem keepL_take {l : List Ed} {pred : Nat → Bool} : ∀ {j : Nat}, j ≤ l.length → (keepL l pred j).Sublist (l.take j)
  | 0, _ => by simp [keepL]
  | j + 1, h => by
    have hj : j < l.length := by omega
    rw [take_snoc hj]
    cases hp : pred j with
    | false =>
      rw [keepL_out hp]
      exact (keepL_take (by omega)).trans (List.sublist_append_left _ _)
    | true =>
      rw [keepL_in hj hp]
      exact (keepL_take (by omega)).append (List.Sublist.refl _)
theorem keep_right {n : Int} {l : List Ed} (hR : RightG n l) (pred : Nat → Bool) : RightG n (keepL l pred l.length) := by
  have hs := keepL_take (l := l) (pred := pred) (Nat.le_refl _)
  rw [List.take_length] at hs
  exact ⟨hR.n0, hR.n1, Nat.le_trans hs.length_le hR.m1, fun e he => hR.each e (hs.subset he), hR.rise.sublist hs⟩
/-- What Ways answers. -/
def wyK (n : Int) (l : List Ed) (a : List Int) : Int := if wgtK n l a = 0 then wsK n.toNat (subL l a) else 1
def wyL (n : Int) (l : List Ed) (a : List Int) : List (List Int) := if wgtK n l a = 0 then wsL n.toNat (subL l a) else []
theorem wgtK_zero {n : Int} {l : List Ed} {a : List Int} (h : wgtK n l a = 0) : RightG n l ∧ okB l a a.length = true := by
  unfold wgtK at h
  by_cases hr : rightK n l = 0
  · rw [if_pos hr] at h
    refine ⟨right_iff.1 hr, ?_⟩
    unfold wK at h
    by_cases ho : okB l a a.length = true
    · exact ho
    · rw [if_neg ho] at h; cases h
  · rw [if_neg hr] at h; cases h
theorem wgtK_one {n : Int} {l : List Ed} {a : List Int} (h : wgtK n l a ≠ 0) : wgtK n l a = 1 := by
  unfold wgtK wK at *
  split at h <;> (try split at h) <;> simp_all

set_option maxRecDepth 100000 in
set_option maxHeartbeats 4000000 in
theorem ways_any (n : Int) (l : List Ed) (a : List Int) (ha : a.length ≤ 4194304) (sv sa : Value) (w : World) (hl : Edges w.heap.size w sv l) (hA : Ints w.heap.size w sa a) :
    Calls Try.prog 9 #[.agg #[.int .i64 n, sv], sa] w fun r w' => ∃ lv, r = .returned (.tuple #[lv, .int .i64 (wyK n l a)]) ∧ Lsts w'.heap.size w' lv (wyL n l a) ∧ Below w.heap.size w w' := by
  have hg1 : Grew w (w.alloc (.cells #[.int .i64 n, sv] 24)) := (Grew.refl w).alloc _
  have hal := alone_any n l a ha sv sa _ (hl.go hg1.below) (hA.go hg1.below)
  obtain ⟨p, c, rfl⟩ := hl.len
  obtain ⟨pa, ca, rfl⟩ := hA.len
  go_enter Try.func9, Try.ntmps9
  go_wp2_with fail
  refine hal.mono ?_
  rintro e w2 ⟨gv, rfl, hE, hb2⟩
  have hbw2 := hg1.below.trans (hb2.mono hg1.below.size)
  have hbA : Below w2.heap.size w2 (w2.alloc (.cells #[.int .i64 (alnN n l a), gv] 24)) := ((Grew.refl w2).alloc _).below
  have hbw3 := hbw2.trans (hbA.mono hbw2.size)
  have hE3 := hE.go hbA
  obtain ⟨p2, c2, rfl⟩ := hE.len
  clear hal
  by_cases hk : wgtK n l a = 0
  · obtain ⟨hR, -⟩ := wgtK_zero hk
    have HK : Hid (wyK n l a = wsK n.toNat (subL l a)) := if_pos hk
    have HL : Hid (wyL n l a = wsL n.toNat (subL l a)) := if_pos hk
    have e1 : alnN n l a = ((n.toNat : Nat) : Int) := by unfold alnN; rw [if_pos hk]; have := hR.n0; omega
    have e2 : alnL n l a = subL l a := by unfold alnL; rw [if_pos hk]
    have hR2 : RightG ((n.toNat : Nat) : Int) (subL l a) := by
      have := keep_right hR (fun i => inB a (i : Int))
      rw [show ((n.toNat : Nat) : Int) = n by have := hR.n0; omega]
      exact this
    rw [e1, e2] at hE3 hbw3
    rw [e1, hk, e2]
    have hwo := waysOf_any n.toNat (subL l a) hR2 _ _ hE3
    clear hk e1 e2 hE hbA hR hR2
    generalize n.toNat = N at *
    generalize subL l a = l' at *
    go_wp2_with fail
    refine hwo.mono ?_
    rintro e w4 ⟨lv, rfl, hLs, hb4⟩
    obtain ⟨p4, c4, rfl⟩ := hLs.len
    clear hwo
    go_wp2
    go_ret2
    exact ⟨_, by rw [HK.out]; rfl, by rw [HL.out]; exact hLs, hbw3.trans (hb4.mono hbw3.size)⟩
  · have hk1 := wgtK_one hk
    have HK : Hid (wyK n l a = 1) := if_neg hk
    have HL : Hid (wyL n l a = []) := if_neg hk
    rw [hk1]
    clear hk hk1 hE3 hE
    go_wp2
    go_ret2
    exact ⟨.slice none 0 0, by rw [HK.out]; rfl, by rw [HL.out]; exact .inl ⟨⟨_, _, rfl⟩, rfl⟩, hbw3⟩
end Go.Proofs.Ytgjaikekpgdehaa
