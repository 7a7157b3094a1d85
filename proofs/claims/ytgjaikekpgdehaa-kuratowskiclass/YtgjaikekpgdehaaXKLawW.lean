/-
  The walk of KuratowskiWays.
-/
import Derived.Test.YtgjaikekpgdehaaXKRefWays
import Derived.Test.YtgjaikekpgdehaaQD
namespace Go.Proofs.Ytgjaikekpgdehaa
open Go Go.Proofs Go.RowKit

theorem wyL_cnt {n : Int} (hn : n ≤ 30) (l : List Ed) (a : List Int) : (wyL n l a).length ≤ 900 := by
  unfold wyL
  by_cases hw : wgtK n l a = 0
  · rw [if_pos hw]
    have hR := sub_right (a := a) (wgtK_zero hw).1
    have h1 := waysTo_cnt (subL l a) n.toNat hR n.toNat
    have h2 : n.toNat * n.toNat ≤ 30 * 30 := Nat.mul_le_mul (by omega) (by omega)
    unfold wsL
    split
    · omega
    · simp
  · rw [if_neg hw]; simp
theorem refWays_all (n : Int) (hn30 : n ≤ 30) (l : List Ed) (a : List Int) (ha : a.length ≤ 4194304) (sv sa : Value) (w : World) (hl : Edges w.heap.size w sv l) (hA : Ints w.heap.size w sa a) :
    Calls Try.prog 10 #[.agg #[.int .i64 n, sv], sa] w fun r w' => ∃ lv, r = .returned (.tuple #[lv, .int .i64 (wyK n l a)]) ∧ Lsts w'.heap.size w' lv (wyL n l a) ∧ Below w.heap.size w w' := by
  by_cases hw : wgtK n l a = 0
  · exact refWays_any n hn30 l a ha hw sv sa w hl hA
  · refine (refWays_bad n l a ha hw sv sa w hl hA).mono fun e w' h => ⟨.slice none 0 0, ?_, ?_, h.2⟩
    · rw [h.1]; unfold wyK; rw [if_neg hw]
    · unfold wyL; rw [if_neg hw]; exact .inl ⟨⟨_, _, rfl⟩, rfl⟩

set_option maxRecDepth 100000 in
set_option maxHeartbeats 4000000 in
theorem ways_walk (n : Int) (l : List Ed) (a : List Int) (sv av : Value) (w : World) (hl : Edges w.heap.size w sv l) (hA : Ints w.heap.size w av a) :
    Calls Try.prog 3 #[.agg #[.int .i64 n, sv], av] w fun r w' => r = .returned (.bool true) ∧ Below w.heap.size w w' := by
  have hmix := mixed
  obtain ⟨p, q, rfl⟩ := hl.len
  obtain ⟨pa, ca, rfl⟩ := hA.len
  have hg1 : Grew w (w.alloc (.cells #[.int .i64 n, .slice p l.length q] 24)) := (Grew.refl w).alloc _
  have q0 := (box2 _ (Grew.refl (w.alloc (.cells #[.int .i64 n, .slice p l.length q] 24)))).1
  have q1 := (box2 _ (Grew.refl (w.alloc (.cells #[.int .i64 n, .slice p l.length q] 24)))).2
  have hlt := light_any n l 20 (by omega) (by omega) (.slice p l.length q) _ (hl.go hg1.below)
  cases hli : lightB n l 20 with
  | false =>
    rw [hli] at hlt
    go_enter Try.func3, Try.ntmps3
    go_wp2_with fail
    refine hlt.mono ?_
    rintro e w2 ⟨rfl, hg2⟩
    go_wp2_with fail
    refine (alive_any _).mono ?_
    rintro e w3 ⟨rfl, hb3⟩
    go_wp2
    go_ret
    exact ⟨rfl, (hg1.trans hg2).below.trans (hb3.mono (hg1.trans hg2).below.size)⟩
  | true =>
    rw [hli] at hlt
    obtain ⟨hl1, hl2⟩ := lightB_true hli
    by_cases h1 : (100 : Int) < (a.length : Int)
    · go_enter Try.func3, Try.ntmps3
      go_wp2_with fail
      refine hlt.mono ?_
      rintro e w2 ⟨rfl, hg2⟩
      go_wp2_with fail
      refine (alive_any _).mono ?_
      rintro e w3 ⟨rfl, hb3⟩
      go_wp2
      go_ret
      exact ⟨rfl, (hg1.trans hg2).below.trans (hb3.mono (hg1.trans hg2).below.size)⟩
    · have h1d : decide ((100 : Int) < (a.length : Int)) = false := by simp; omega
      have HL : Hid (Edges w.heap.size w (.slice p l.length q) l) := hl
      have HA : Hid (Ints w.heap.size w (.slice pa a.length ca) a) := hA
      have HC : Hid (n ≤ 30 ∧ a.length ≤ 100) := ⟨by omega, by omega⟩
      clear hl hA h1 hl1 hl2
      go_enter Try.func3, Try.ntmps3
      go_wp2_with fail
      refine hlt.mono ?_
      rintro e w1 ⟨rfl, hg2⟩
      clear q0 q1
      have q0 := (box2 _ hg2).1
      have q1 := (box2 _ hg2).2
      have hB1 := (hg1.trans hg2).below
      have hwy := ways_any n l a (by have := HC.out; omega) (.slice p l.length q) (.slice pa a.length ca) w1 (Edges.go HL.out hB1) (Vals.go HA.out hB1)
      clear hlt hg1 hg2
      go_wp2_with fail
      refine hwy.mono ?_
      rintro e w2 ⟨lv, rfl, hLs, hb2⟩
      have hB2 := hB1.trans (hb2.mono hB1.size)
      replace q0 := cell_keep hb2 q0
      replace q1 := cell_keep hb2 q1
      have hrw := refWays_all n HC.out.1 l a (by have := HC.out; omega) (.slice p l.length q) (.slice pa a.length ca) w2 (Edges.go HL.out hB2) (Vals.go HA.out hB2)
      have HLs : Hid _ := hLs
      have HLen : Hid _ := wyL_cnt HC.out.1 l a
      have HIn : Hid _ := wyL_len (n := n) (l := l) (a := a)
      generalize wyL n l a = Z at *
      generalize wyK n l a = kk at *
      obtain ⟨p2, c2, rfl⟩ := hLs.len
      clear hwy hB1 hb2 hLs
      go_wp2_with fail
      refine hrw.mono ?_
      rintro e w3 ⟨lv, rfl, hRs, hb3⟩
      have hB3 := hB2.trans (hb3.mono hB2.size)
      have hls := refLists_any Z Z (by have := HLen.out; omega) (fun x hx => (HIn.out x hx).2) (.slice p2 Z.length c2) lv w3 (Lsts.go HLs.out hb3) hRs
      have hde : decide (Z = Z) = true := decide_eq_true rfl
      rw [hde] at hls
      obtain ⟨p3, c3, rfl⟩ := hRs.len
      clear hrw hB2 hb3 hRs hde
      go_wp2_with fail
      refine hls.mono ?_
      rintro e w4 ⟨rfl, hg4⟩
      have hB4 := hB3.trans (hg4.below.mono hB3.size)
      clear hls hB3 hg4
      go_wp2_with fail
      refine (alive_any _).mono ?_
      rintro e w5 ⟨rfl, hb5⟩
      have HB5 : Hid (Below w.heap.size w w5) := hB4.trans (hb5.mono hB4.size)
      clear hb5 hB4
      go_wp2
      go_ret
      exact ⟨rfl, HB5.out⟩
end Go.Proofs.Ytgjaikekpgdehaa
