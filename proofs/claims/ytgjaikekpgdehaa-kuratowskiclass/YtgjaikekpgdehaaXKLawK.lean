/-
  The walk of KuratowskiClass.
-/
import Derived.Test.YtgjaikekpgdehaaXKRefClass
namespace Go.Proofs.Ytgjaikekpgdehaa
open Go Go.Proofs Go.RowKit

set_option maxRecDepth 100000 in
set_option maxHeartbeats 4000000 in
theorem refClass_bad (n : Int) (hn30 : n ≤ 30) (l : List Ed) (a : List Int) (ha : a.length ≤ 4194304) (sv sa : Value) (w : World) (hl : Edges w.heap.size w sv l) (hA : Ints w.heap.size w sa a) (hk : wyK n l a ≠ 0) :
    Calls Try.prog 13 #[.agg #[.int .i64 n, sv], sa] w fun r w' => r = .returned (.tuple #[.int .i64 0, .int .i64 (wyK n l a)]) ∧ Below w.heap.size w w' := by
  have hg1 : Grew w (w.alloc (.cells #[.int .i64 n, sv] 24)) := (Grew.refl w).alloc _
  have hwy := refWays_all n hn30 l a ha sv sa _ (hl.go hg1.below) (hA.go hg1.below)
  have HG : Hid _ := hg1.below
  obtain ⟨p, c, rfl⟩ := hl.len
  obtain ⟨pa, ca, rfl⟩ := hA.len
  have hk' : (wyK n l a != 0) = true := by simpa using hk
  clear hl hA hg1 hk
  generalize wyL n l a = Z at *
  generalize wyK n l a = kk at *
  go_enter Try.func13, Try.ntmps13
  go_wp2_with fail
  refine hwy.mono ?_
  rintro e w1 ⟨lv, rfl, hLs, hb1⟩
  have HB1 : Hid (Below w.heap.size w w1) := HG.out.trans (hb1.mono HG.out.size)
  obtain ⟨pw, cw, rfl⟩ := hLs.len
  clear hwy hb1 hLs
  go_wp2
  go_ret2
  exact ⟨rfl, HB1.out⟩
theorem refClass_all (n : Int) (hn30 : n ≤ 30) (l : List Ed) (a : List Int) (ha : a.length ≤ 4194304) (sv sa : Value) (w : World) (hl : Edges w.heap.size w sv l) (hA : Ints w.heap.size w sa a) :
    Calls Try.prog 13 #[.agg #[.int .i64 n, sv], sa] w fun r w' => r = .returned (.tuple #[.int .i64 (clsV n l a), .int .i64 (clsK n l a)]) ∧ Below w.heap.size w w' := by
  by_cases hk : wyK n l a = 0
  · have hw : wgtK n l a = 0 := by
      apply Classical.byContradiction
      intro h
      unfold wyK at hk
      rw [if_neg h] at hk
      cases hk
    obtain ⟨N, rfl⟩ : ∃ N : Nat, n = (N : Int) := ⟨n.toNat, by have := (wgtK_zero hw).1.n0; omega⟩
    have hRS : RightG (N : Int) (subL l a) := by have := sub_right (a := a) (wgtK_zero hw).1; simpa using this
    have hsK : wsK N (subL l a) = 0 := by have h := hk; unfold wyK at h; rw [if_pos hw] at h; simpa using h
    have hyL : wyL (N : Int) l a = waysTo (subL l a) N N := by unfold wyL wsL; rw [if_pos hw]; simp [hsK]
    have hno := ((wsK_iff hRS).1 hsK).1
    have hsame := cls_same hRS hno
    refine (refClass_any N (by omega) l a ha sv sa w hl hA hk).mono fun e w' h => ⟨?_, h.2⟩
    rw [h.1, hsame]
    unfold clsV clsK kindR
    rw [hk, hyL]
    simp only [if_true]
    by_cases h5 : fiveB (waysTo (subL l a) N N) = true
    · simp [h5]
    · by_cases h3 : threeB (waysTo (subL l a) N N) = true
      · simp [h5, h3]
      · simp [h5, h3]
  · refine (refClass_bad n hn30 l a ha sv sa w hl hA hk).mono fun e w' h => ⟨?_, h.2⟩
    rw [h.1]
    unfold clsV clsK
    rw [if_neg hk, if_neg hk]

set_option maxRecDepth 100000 in
set_option maxHeartbeats 4000000 in
theorem class_walk (n : Int) (l : List Ed) (a : List Int) (sv av : Value) (w : World) (hl : Edges w.heap.size w sv l) (hA : Ints w.heap.size w av a) :
    Calls Try.prog 4 #[.agg #[.int .i64 n, sv], av] w fun r w' => r = .returned (.bool true) ∧ Below w.heap.size w w' := by
  have hmix := mixed
  obtain ⟨p, q, rfl⟩ := hl.len
  obtain ⟨pa, ca, rfl⟩ := hA.len
  have hg1 : Grew w (w.alloc (.cells #[.int .i64 n, .slice p l.length q] 24)) := (Grew.refl w).alloc _
  have q0 := (box2 _ (Grew.refl (w.alloc (.cells #[.int .i64 n, .slice p l.length q] 24)))).1
  have q1 := (box2 _ (Grew.refl (w.alloc (.cells #[.int .i64 n, .slice p l.length q] 24)))).2
  have hlt := light_any n l 20 (by omega) (by omega) (.slice p l.length q) _ (hl.go hg1.below)
  cases hli : lightB n l 20 with
  | false =>
    rw [hli] at hlt
    go_enter Try.func4, Try.ntmps4
    go_wp2_with fail
    refine hlt.mono ?_
    rintro e w2 ⟨rfl, hg2⟩
    go_wp2_with fail
    refine (alive_any _).mono ?_
    rintro e w3 ⟨rfl, hb3⟩
    go_wp2
    go_ret
    exact ⟨rfl, (hg1.trans hg2).below.trans (hb3.mono (hg1.trans hg2).below.size)⟩
  | true =>
    rw [hli] at hlt
    obtain ⟨hl1, hl2⟩ := lightB_true hli
    by_cases h1 : (100 : Int) < (a.length : Int)
    · go_enter Try.func4, Try.ntmps4
      go_wp2_with fail
      refine hlt.mono ?_
      rintro e w2 ⟨rfl, hg2⟩
      go_wp2_with fail
      refine (alive_any _).mono ?_
      rintro e w3 ⟨rfl, hb3⟩
      go_wp2
      go_ret
      exact ⟨rfl, (hg1.trans hg2).below.trans (hb3.mono (hg1.trans hg2).below.size)⟩
    · have h1d : decide ((100 : Int) < (a.length : Int)) = false := by simp; omega
      have HL : Hid (Edges w.heap.size w (.slice p l.length q) l) := hl
      have HA : Hid (Ints w.heap.size w (.slice pa a.length ca) a) := hA
      have HC : Hid (n ≤ 30 ∧ a.length ≤ 100) := ⟨by omega, by omega⟩
      clear hl hA h1 hl1 hl2
      go_enter Try.func4, Try.ntmps4
      go_wp2_with fail
      refine hlt.mono ?_
      rintro e w1 ⟨rfl, hg2⟩
      clear q0 q1
      have q0 := (box2 _ hg2).1
      have q1 := (box2 _ hg2).2
      have hB1 := (hg1.trans hg2).below
      have hcl := class_any n l a (by have := HC.out; omega) (.slice p l.length q) (.slice pa a.length ca) w1 (Edges.go HL.out hB1) (Vals.go HA.out hB1)
      clear hlt hg1 hg2
      go_wp2_with fail
      refine hcl.mono ?_
      rintro e w2 ⟨rfl, hb2⟩
      have hB2 := hB1.trans (hb2.mono hB1.size)
      replace q0 := cell_keep hb2 q0
      replace q1 := cell_keep hb2 q1
      have hrc := refClass_all n HC.out.1 l a (by have := HC.out; omega) (.slice p l.length q) (.slice pa a.length ca) w2 (Edges.go HL.out hB2) (Vals.go HA.out hB2)
      clear hcl hB1 hb2
      go_wp2_with fail
      refine hrc.mono ?_
      rintro e w3 ⟨rfl, hb3⟩
      have hB3 := hB2.trans (hb3.mono hB2.size)
      replace q0 := cell_keep hb3 q0
      replace q1 := cell_keep hb3 q1
      have hck := check_any n l a (by have := HC.out; omega) (.slice p l.length q) (.slice pa a.length ca) w3 (Edges.go HL.out hB3) (Vals.go HA.out hB3)
      clear hrc hB2 hb3
      generalize clsV n l a = cv at *
      generalize clsK n l a = ck at *
      go_wp2_with fail
      refine hck.mono ?_
      rintro e w4 ⟨rfl, hb4⟩
      have hB4 := hB3.trans (hb4.mono hB3.size)
      clear hck hB3 hb4
      go_wp2_with fail
      refine (alive_any _).mono ?_
      rintro e w5 ⟨rfl, hb5⟩
      have HB5 : Hid (Below w.heap.size w w5) := hB4.trans (hb5.mono hB4.size)
      clear hb5 hB4
      go_wp2
      go_ret
      exact ⟨rfl, HB5.out⟩
end Go.Proofs.Ytgjaikekpgdehaa
