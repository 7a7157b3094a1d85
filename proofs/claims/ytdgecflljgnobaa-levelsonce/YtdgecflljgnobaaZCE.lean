/-
  PROVED: filigreelaw18.LevelsOnce returns true for any arguments, and each argument reads afterwards as it read before. No condition.
-/
import Derived.Test.YtdgecflljgnobaaXLvAlive
import Derived.Test.YtdgecflljgnobaaZAE
namespace Go.Proofs.Ytdgecflljgnobaa
open Go Go.Proofs Go.RowKit

theorem cell_keepL {A B : World} (hb : Below A.heap.size A B) {a : Addr} {v : Value} (h : A.cell? a = some v) : B.cell? a = some v := (hb.cell (World.block_lt_of_cell? A a h)).trans h

set_option maxRecDepth 100000 in
set_option maxHeartbeats 4000000 in
theorem of_law (n : Int) (l : List Ed) (sv : Value) (w : World) (hl : Edges w.heap.size w sv l) :
    Calls Try.prog 3 #[.agg #[.int .i64 n, sv]] w fun e w' => e = .returned (.bool true) ∧ Below w.heap.size w w' := by
  have hg1 : Grew w (w.alloc (.cells #[.int .i64 n, sv] 24)) := (Grew.refl w).alloc _
  have hl1 := hl.go hg1.below
  obtain ⟨p, c, rfl⟩ := hl.len
  have hlt := light_any n l 40 (by decide) (by decide) (.slice p l.length c) _ hl1
  go_enter Try.func3, Try.ntmps3
  go_wp2_with fail
  refine hlt.mono ?_
  rintro e w2 ⟨rfl, hg2⟩
  obtain ⟨q0, q1⟩ := box2 _ hg2
  have hbw2 := (hg1.trans hg2).below
  have hl2 := hl.go hbw2
  clear hlt hl1 hg1 hg2
  cases hL : lightB n l 40 with
  | false =>
    go_wp2_with fail
    refine (alive_any w2).mono ?_
    rintro e w3 ⟨rfl, hb3⟩
    have HB : Hid _ := hbw2.trans (hb3.mono hbw2.size)
    clear hb3 hbw2 hl2
    go_wp2
    go_ret
    exact ⟨rfl, HB.out⟩
  | true =>
    have hlb := lightB_true hL
    clear hL
    by_cases hk : rightK n l = 0
    · have hR := right_iff.1 hk
      obtain ⟨N, rfl⟩ : ∃ N : Nat, n = (N : Int) := ⟨n.toNat, by have := hR.n0; omega⟩
      have hof := of_any N l hR (.slice p l.length c) w2 hl2
      go_wp2_with fail
      refine hof.mono ?_
      rintro e w3 ⟨g, L, rfl, hg, hBL, hLev, hb3⟩
      have r0 := cell_keepL hb3 q0
      have r1 := cell_keepL hb3 q1
      have hbw3 := hbw2.trans (hb3.mono hbw2.size)
      have hl3 := hl.go hbw3
      clear hof hb3 q0 q1 hbw2 hl2
      have hrr := refRight_any (N : Int) l (.slice p l.length c) w3 hl3
      rw [hk] at hrr
      clear hk
      go_wp2_with fail
      refine hrr.mono ?_
      rintro e w4 ⟨rfl, hg4⟩
      have s0 := cell_keepL hg4.below r0
      have s1 := cell_keepL hg4.below r1
      have hbw4 := hbw3.trans (hg4.below.mono hbw3.size)
      have hl4 := hl.go hbw4
      have hBL4 := hBL.go hg4.below
      clear hrr hg4 r0 r1 hbw3 hl3 hBL
      have hro := refOf_any N l hR L hLev (.slice p l.length c) w4 hl4
      go_wp2_with fail
      refine hro.mono ?_
      rintro e w5 ⟨g2, rfl, hB2, hg2, hb5⟩
      have hLl := hLev.len
      have hI1 : Ints w5.heap.size w5 (.slice (some ⟨g, 0, none⟩) N N) L := by
        have := (hBL4.go hb5).ints
        rwa [hLl] at this
      have hI2 : Ints w5.heap.size w5 (.slice (some ⟨g2, 0, none⟩) N N) L := by
        have := hB2.ints
        rwa [hLl] at this
      have hbw5 := hbw4.trans (hb5.mono hbw4.size)
      have hri := refInts_any L L (by omega) _ _ w5 hI1 hI2
      clear hro hb5 s0 s1 hbw4 hl4 hBL4 hB2 hI1 hI2
      go_wp2_with fail
      refine hri.mono ?_
      rintro e w6 ⟨rfl, hg6⟩
      have hbw6 := hbw5.trans (hg6.below.mono hbw5.size)
      clear hri hg6 hbw5
      simp only [decide_true]
      go_wp2_with fail
      refine (alive_any w6).mono ?_
      rintro e w7 ⟨rfl, hb7⟩
      have HB : Hid _ := hbw6.trans (hb7.mono hbw6.size)
      clear hb7 hbw6
      go_wp2
      go_ret
      exact ⟨rfl, HB.out⟩
    · have hof := of_bad n l hk (.slice p l.length c) w2 hl2
      go_wp2_with fail
      refine hof.mono ?_
      rintro e w3 ⟨rfl, hb3⟩
      have r0 := cell_keepL hb3 q0
      have r1 := cell_keepL hb3 q1
      have hbw3 := hbw2.trans (hb3.mono hbw2.size)
      have hl3 := hl.go hbw3
      clear hof hb3 q0 q1 hbw2 hl2
      have hrr := refRight_any n l (.slice p l.length c) w3 hl3
      have hk' : (rightK n l != 0) = true := by simpa using hk
      generalize rightK n l = q at *
      go_wp2_with fail
      refine hrr.mono ?_
      rintro e w4 ⟨rfl, hg4⟩
      have hbw4 := hbw3.trans (hg4.below.mono hbw3.size)
      clear hrr hg4 r0 r1 hbw3 hl3
      go_wp2_with fail
      refine (alive_any w4).mono ?_
      rintro e w5 ⟨rfl, hb5⟩
      have HB : Hid _ := hbw4.trans (hb5.mono hbw4.size)
      clear hb5 hbw4
      go_wp2
      go_ret
      exact ⟨rfl, HB.out⟩
end Go.Proofs.Ytdgecflljgnobaa

namespace Go.Proofs.Ytdgecflljgnobaa
open Go Go.Proofs Go.RowKit

/-- How often each vertex is left out by the shifts below s; those below j by shift s too. -/
def midL (D : List Int) (k : Int) (s j : Nat) : List Int := (List.range D.length).map fun v => if Int.tmod (D.getD v 0) (k + 1) < (if v < j then (s : Int) + 1 else (s : Int)) then 1 else 0
theorem midL_len (D : List Int) (k : Int) (s j : Nat) : (midL D k s j).length = D.length := by simp [midL]
theorem midL_at {D : List Int} {k : Int} {s j v : Nat} (h : v < D.length) : (midL D k s j)[v]? = some (if Int.tmod (D.getD v 0) (k + 1) < (if v < j then (s : Int) + 1 else (s : Int)) then 1 else 0) := by simp [midL, h]
theorem midL_next (D : List Int) (k : Int) (s : Nat) : midL D k s D.length = midL D k (s + 1) 0 := by
  apply List.ext_getElem?
  intro v
  by_cases h : v < D.length
  · rw [midL_at h, midL_at h, if_pos h, if_neg (Nat.not_lt_zero v)]
    simp
  · rw [List.getElem?_eq_none (by rw [midL_len]; omega), List.getElem?_eq_none (by rw [midL_len]; omega)]
theorem midL_kept {D : List Int} {k : Int} {s j : Nat} (hj : Int.tmod (D.getD j 0) (k + 1) ≠ (s : Int)) : midL D k s j = midL D k s (j + 1) := by
  apply List.ext_getElem?
  intro v
  by_cases h : v < D.length
  · rw [midL_at h, midL_at h]
    by_cases e : v = j
    · subst e
      rw [if_neg (Nat.lt_irrefl v), if_pos (Nat.lt_succ_self v)]
      by_cases h2 : Int.tmod (D.getD v 0) (k + 1) < (s : Int)
      · rw [if_pos h2, if_pos (by omega)]
      · rw [if_neg h2, if_neg (by omega)]
    · simp only [show (v < j + 1) = (v < j) from propext (by omega)]
  · rw [List.getElem?_eq_none (by rw [midL_len]; omega), List.getElem?_eq_none (by rw [midL_len]; omega)]
theorem midL_gone {D : List Int} {k : Int} {s j : Nat} (h : j < D.length) (hj : Int.tmod (D.getD j 0) (k + 1) = (s : Int)) : (midL D k s j).getD j 0 = 0 ∧ (midL D k s j).set j 1 = midL D k s (j + 1) := by
  constructor
  · rw [List.getD_eq_getElem?_getD, midL_at h, if_neg (Nat.lt_irrefl j), if_neg (by omega)]
    rfl
  · apply List.ext_getElem?
    intro v
    by_cases hv : v < D.length
    · rw [List.getElem?_set, midL_at hv, midL_at hv, midL_len]
      by_cases e : j = v
      · subst e
        rw [if_pos rfl, if_pos h, if_pos (Nat.lt_succ_self j), if_pos (by omega)]
      · rw [if_neg e]
        simp only [show (v < j + 1) = (v < j) from propext (by omega)]
    · rw [List.getElem?_eq_none (by rw [List.length_set, midL_len]; omega), List.getElem?_eq_none (by rw [midL_len]; omega)]
theorem tmod_ran {y k : Int} (hy : 0 ≤ y) (hk : 1 ≤ k) : 0 ≤ Int.tmod y (k + 1) ∧ Int.tmod y (k + 1) < k + 1 := by
  rw [Int.tmod_eq_emod_of_nonneg hy]
  exact ⟨Int.emod_nonneg y (by omega), Int.emod_lt_of_pos y (by omega)⟩
theorem midL_zero {N : Nat} {l : List Ed} {D : List Int} (hD : Lev N l D) {k : Int} (hk : 1 ≤ k) : midL D k 0 0 = List.replicate N 0 := by
  apply List.ext_getElem?
  intro v
  have hl := hD.len
  by_cases h : v < N
  · have h1 := tmod_ran (hD.ran v h).1 hk
    rw [midL_at (by omega), if_neg (by rw [if_neg (Nat.not_lt_zero v)]; omega)]
    simp [h]
  · rw [List.getElem?_eq_none (by rw [midL_len]; omega), List.getElem?_eq_none (by simp; omega)]
theorem midL_all {N : Nat} {l : List Ed} {D : List Int} (hD : Lev N l D) {k : Int} (hk : 1 ≤ k) {s : Nat} (hs : k < (s : Int)) {v : Nat} (hv : v < N) : (midL D k s 0).getD v 0 = 1 := by
  have hl := hD.len
  have h1 := tmod_ran (hD.ran v hv).1 hk
  rw [List.getD_eq_getElem?_getD, midL_at (by omega), if_pos (by rw [if_neg (Nat.not_lt_zero v)]; omega)]
  rfl

set_option maxRecDepth 100000 in
set_option maxHeartbeats 8000000 in
theorem once_law (n : Int) (l : List Ed) (k : Int) (sv : Value) (w : World) (hl : Edges w.heap.size w sv l) :
    Calls Try.prog 5 #[.agg #[.int .i64 n, sv], .int .i64 k] w fun e w' => e = .returned (.bool true) ∧ Below w.heap.size w w' := by
  have hmix := mixed
  have hg1 : Grew w (w.alloc (.cells #[.int .i64 n, sv] 24)) := (Grew.refl w).alloc _
  have hl1 := hl.go hg1.below
  obtain ⟨p, c, rfl⟩ := hl.len
  have hlt := light_any n l 60 (by decide) (by decide) (.slice p l.length c) _ hl1
  go_enter Try.func5, Try.ntmps5
  go_wp2_with fail
  refine hlt.mono ?_
  rintro e w2 ⟨rfl, hg2⟩
  obtain ⟨q0, q1⟩ := box2 _ hg2
  have hbox := box2_lt hg2
  have hbw2 := (hg1.trans hg2).below
  have hl2 := hl.go hbw2
  clear hlt hl1 hg1 hg2
  cases hL : lightB n l 60 with
  | false =>
    go_wp2_with fail
    refine (alive_any w2).mono ?_
    rintro e w3 ⟨rfl, hb3⟩
    have HB : Hid _ := hbw2.trans (hb3.mono hbw2.size)
    clear hb3 hbw2 hl2
    go_wp2
    go_ret
    exact ⟨rfl, HB.out⟩
  | true =>
    have hlb := lightB_true hL
    clear hL
    by_cases hk1 : k < 1
    · go_wp2_with fail
      refine (alive_any w2).mono ?_
      rintro e w3 ⟨rfl, hb3⟩
      have HB : Hid _ := hbw2.trans (hb3.mono hbw2.size)
      clear hb3 hbw2 hl2
      go_wp2
      go_ret
      exact ⟨rfl, HB.out⟩
    by_cases hk8 : 8 < k
    · go_wp2_with fail
      refine (alive_any w2).mono ?_
      rintro e w3 ⟨rfl, hb3⟩
      have HB : Hid _ := hbw2.trans (hb3.mono hbw2.size)
      clear hb3 hbw2 hl2
      go_wp2
      go_ret
      exact ⟨rfl, HB.out⟩
    have hrr := refRight_any n l (.slice p l.length c) w2 hl2
    go_wp2_with fail
    refine hrr.mono ?_
    rintro e w3 ⟨rfl, hg3⟩
    have r0 := cell_keepL hg3.below q0
    have r1 := cell_keepL hg3.below q1
    have hbw3 := hbw2.trans (hg3.below.mono hbw2.size)
    have hl3 := hl.go hbw3
    have hbox3 : w.heap.size < w3.heap.size := Nat.lt_of_lt_of_le hbox hg3.below.size
    clear hrr hg3 q0 q1 hbw2 hl2 hbox
    by_cases hk : rightK n l = 0
    · have hR := right_iff.1 hk
      obtain ⟨N, rfl⟩ : ∃ N : Nat, n = (N : Int) := ⟨n.toNat, by have := hR.n0; omega⟩
      obtain ⟨K, rfl⟩ : ∃ K : Nat, k = (K : Int) := ⟨k.toNat, by omega⟩
      have hn1 := hR.n1
      rw [hk]
      clear hk
      have hof := of_any N l hR (.slice p l.length c) w3 hl3
      go_wp2_with fail
      refine hof.mono ?_
      rintro e w4 ⟨g, D, rfl, hg, hBL, hLev, hb4⟩
      have s0 := cell_keepL hb4 r0
      have s1 := cell_keepL hb4 r1
      have hbw4 := hbw3.trans (hb4.mono hbw3.size)
      have hDl := hLev.len
      have hlen : (l.length : Int) ≤ 240 := by omega
      have HR : Hid (RightG (N : Int) l) := hR
      have HLEV : Hid (Lev N l D) := hLev
      have HW4 : Hid (Below w.heap.size w w4) := hbw4
      have hbox4 : w.heap.size < w4.heap.size := Nat.lt_of_lt_of_le hbox3 hb4.size
      clear hof hb4 r0 r1 hbw3 hl3 hbox3 hbw4 hLev hR hlb
      generalize hxb : w.heap.size = xb at s0 s1
      have HXB : Hid (w.heap.size = xb) := hxb
      clear hxb
      go_wp2
      go_loopw [7] (fun i wr => ∃ j m : Nat, j ≤ l.length ∧ i = .int .i64 (j : Int) ∧ wr = w4.drewN m) (fun i _ => l.length - (intOf i).toNat)
      case atStart => exact ⟨0, 0, Nat.zero_le _, rfl, rfl⟩
      case round =>
        obtain ⟨j, m, hj, rfl, hwr⟩ := hrel
        have hbr : Below w4.heap.size w4 wr := by rw [hwr]; exact below_drewN (Below.refl _ _) m
        have t0 := cell_keepL hbr s0
        have t1 := cell_keepL hbr s1
        have hBr := hBL.go hbr
        by_cases hlt : j < l.length
        · obtain ⟨b, off, rfl, hbb, hcap, hc, -⟩ := hl.open hlt
          obtain ⟨c0, c1, c2⟩ := hc wr (HW4.out.trans (hbr.mono HW4.out.size)) j hlt
          have hjl : (j : Int) < (l.length : Int) := by omega
          have hok := (HR.out.each l[j] (List.getElem_mem hlt)).1
          unfold okE at hok
          obtain ⟨u, hu⟩ : ∃ u : Nat, l[j].1 = (u : Int) := ⟨l[j].1.toNat, by omega⟩
          obtain ⟨v, hv⟩ : ∃ v : Nat, l[j].2.1 = (v : Int) := ⟨l[j].2.1.toNat, by omega⟩
          have hadj : Adj l u v := ⟨l[j], List.getElem_mem hlt, by omega⟩
          have h1 := HLEV.out.edge u v hadj
          have h2 := HLEV.out.edge v u hadj.symm
          have huN : u < N := by omega
          have hvN : v < N := by omega
          have hru := HLEV.out.ran u huN
          have hrv := HLEV.out.ran v hvN
          rw [hu] at c0
          rw [hv] at c1
          have a0 := hBr.cell (getD_cell (show u < D.length by omega))
          have a1 := hBr.cell (getD_cell (show v < D.length by omega))
          have hul : (u : Int) < (N : Int) := by omega
          have hvl : (v : Int) < (N : Int) := by omega
          generalize D.getD u 0 = a at *
          generalize D.getD v 0 = d at *
          have hw1 : IntKind.i64.wrap (a - d) = a - d := wrap_i _ (by omega) (by omega)
          have hd1 : ¬ (a - d < -1) := by omega
          have hd2 : ¬ (1 < a - d) := by omega
          have HWR : Hid (wr = w4.drewN m) := hwr
          have HJ : Hid (j < l.length) := hlt
          clear hc hok hu hv hadj h1 h2 hwr hbr hBr hlt c2 hru hrv
          go_wp2
          go_quiet (fail)
          go_wp2
          refine ⟨⟨j + 1, m + nq, HJ.out, by go_num, ?_⟩, by have := HJ.out; simp [intOf]; omega⟩
          rw [HWR.out]
          exact World.drewN_drewN _ _ _
        · obtain rfl : j = l.length := by omega
          have hjl : ¬ (l.length : Int) < (l.length : Int) := by omega
          have HW5 : Hid (Below w.heap.size w wr) := HW4.out.trans (hbr.mono HW4.out.size)
          have hbox5 : w.heap.size < wr.heap.size := Nat.lt_of_lt_of_le hbox4 hbr.size
          have HX5 : Hid (∀ W, Below wr.heap.size wr W → W.cell? ⟨xb, 0, none⟩ = some (.int .i64 (N : Int)) ∧ W.cell? ⟨xb, 1, none⟩ = some (.slice p l.length c)) := fun W hb => ⟨cell_keepL hb t0, cell_keepL hb t1⟩
          clear hwr hbr s0 s1 hBL hBr HW4 hbox4
          generalize wr = w5 at *
          obtain ⟨i0, hi, hz0, hz1, hz2⟩ := info_parts infoI
          go_wp2_with (at_make; refine wpList_make_full _ rfl _ _ 27 rfl w5.heap.size 3 i0 (.int .i64 0) 1 Try.underlying27 hi hz0 hz1 .i64 .i64 _ _ N rfl rfl rfl rfl (by rw [hz2]; omega) (by unfold maxLen; omega) (Nat.le_refl _) ?_; intro w6 hown hgrow; have hb6 : Below w5.heap.size w5 w6 := (Below.refl _ _).grown hgrow (Nat.le_refl _) (fun k e => by cases e))
          have hrow := Blk.made hown
          rw [ints_made, ← midL_zero HLEV.out (k := (K : Int)) (by omega)] at hrow
          have hgs := hrow.lt
          clear hown hgrow hi hz0 hz1 hz2 t0 t1
          obtain ⟨go, hgo⟩ : ∃ n, w5.heap.size = n := ⟨_, rfl⟩
          rw [hgo] at hrow hgs hbox5 HX5 hb6 ⊢
          have HG5 : Hid (w.heap.size ≤ go) := by show _ ≤ _; omega
          clear hgo
          go_loopw [10] (fun i wr => ∃ s : Nat, s ≤ K + 1 ∧ i = .int .i64 (s : Int) ∧ Hid (Blk 3 wr go ((midL D (K : Int) s 0).map (Value.int .i64))) ∧ Hid (Below go w5 wr)) (fun i _ => K + 1 - (intOf i).toNat)
          case atStart => exact ⟨0, Nat.zero_le _, rfl, hrow, hb6⟩
          case round =>
            clear hrow hb6 hgs
            obtain ⟨s, hs, rfl, HO, HB⟩ := hrel
            obtain ⟨x0, x1⟩ := HX5.out wr HB.out
            have hgl := HO.out.lt
            by_cases hsk : s ≤ K
            · have hsl : (s : Int) ≤ (K : Int) := by omega
              have hlw := hl.go (HW5.out.trans (HB.out.mono HG5.out))
              have hkp := kept_any N l HR.out (K : Int) (s : Int) (by omega) (by omega) (by omega) (by omega) (.slice p l.length c) wr hlw
              have HSK : Hid (s ≤ K) := hsk
              clear hlw hsk
              go_wp2_with fail
              refine hkp.mono ?_
              clear hkp x0 x1
              rintro e w8 ⟨gk, D2, rfl, hgk, hBK, hLev2, hb8⟩
              obtain rfl : D2 = D := hLev2.uniq HR.out HLEV.out
              have hO8 := HO.out.go hb8
              have HB8 : Hid (Below go w5 w8) := HB.out.trans (hb8.mono (by omega))
              obtain ⟨x0, x1⟩ := HX5.out w8 HB8.out
              have hne : gk ≠ go := by omega
              have hkl : (staysL D2 (K : Int) (s : Int)).length = N := by rw [staysL_len, hDl]
              clear hb8 HO HB hgk
              go_wp2
              go_loopw [13] (fun i wq => ∃ j : Nat, j ≤ N ∧ i = .int .i64 (j : Int) ∧ Hid (Blk 3 wq go ((midL D2 (K : Int) s j).map (Value.int .i64))) ∧ Hid (Blk 4 wq gk ((staysL D2 (K : Int) (s : Int)).map Value.bool)) ∧ Hid (Below go w5 wq)) (fun i _ => N - (intOf i).toNat)
              case atStart => exact ⟨0, Nat.zero_le _, rfl, hO8, hBK, HB8⟩
              case round =>
                clear hO8 hBK HB8 x0 x1
                obtain ⟨j, hj, rfl, HO, HK, HB⟩ := hrel
                obtain ⟨x0, x1⟩ := HX5.out wr HB.out
                by_cases hlt : j < N
                · have hjl : (j : Int) < (N : Int) := by omega
                  have hst : (staysL D2 (K : Int) (s : Int)).getD j false = (Int.tmod (D2.getD j 0) ((K : Int) + 1) != (s : Int)) := by
                    have h1 := staysL_ref HLEV.out (k := (K : Int)) (s := (s : Int)) (by omega) (by omega) (by have := HSK.out; omega)
                    rw [← h1, List.getD_eq_getElem?_getD, List.getElem?_map, List.getElem?_eq_getElem (by omega)]
                    simp [show j < D2.length by omega]
                  have a0 : wr.cell? ⟨gk, j, none⟩ = some (.bool ((staysL D2 (K : Int) (s : Int)).getD j false)) := HK.out.cell (by rw [List.getElem?_map, List.getElem?_eq_getElem (by omega)]; simp [show j < (staysL D2 (K : Int) (s : Int)).length by omega])
                  have HJ : Hid (j < N) := hlt
                  rw [hst] at a0
                  by_cases he : Int.tmod (D2.getD j 0) ((K : Int) + 1) = (s : Int)
                  · rw [show (Int.tmod (D2.getD j 0) ((K : Int) + 1) != (s : Int)) = false by simpa using he] at a0
                    obtain ⟨hz, hset⟩ := midL_gone (D := D2) (by omega) he
                    have b0 := HO.out.cell (getD_cell (show j < (midL D2 (K : Int) s j).length by rw [midL_len]; omega))
                    rw [hz] at b0
                    have f0 := HO.out.frozen j
                    have hn := HO.out.set j (.int .i64 1)
                    rw [← List.map_set, hset] at hn
                    have HO2 : Hid (Blk 3 (wr.setCell ⟨go, j, none⟩ (.int .i64 1)) go ((midL D2 (K : Int) s (j + 1)).map (Value.int .i64))) := hn
                    have HK2 : Hid _ := HK.out.other (p := ⟨go, j, none⟩) (by show gk ≠ go; exact hne) (.int .i64 1)
                    have HB2 : Hid _ := HB.out.setCell (p := ⟨go, j, none⟩) (Nat.le_refl _) (.int .i64 1)
                    clear hn hz hset he hst hlt
                    go_wp2
                    exact ⟨⟨j + 1, HJ.out, by go_num, HO2, HK2, HB2⟩, by have := HJ.out; simp [intOf]; omega⟩
                  · rw [show (Int.tmod (D2.getD j 0) ((K : Int) + 1) != (s : Int)) = true by simpa using he] at a0
                    have HO2 : Hid (Blk 3 wr go ((midL D2 (K : Int) s (j + 1)).map (Value.int .i64))) := by rw [← midL_kept he]; exact HO
                    clear he hst hlt
                    go_wp2
                    exact ⟨⟨j + 1, HJ.out, by go_num, HO2, HK, HB⟩, by have := HJ.out; simp [intOf]; omega⟩
                · obtain rfl : N = j := by omega
                  have hN : ¬ (N : Int) < (N : Int) := by omega
                  have HO2 : Hid (Blk 3 wr go ((midL D2 (K : Int) (s + 1) 0).map (Value.int .i64))) := by
                    rw [← midL_next, hDl]; exact HO
                  clear HK
                  go_wp2
                  exact ⟨⟨s + 1, by have := HSK.out; omega, by go_num, HO2, HB⟩, by have := HSK.out; simp [intOf]; omega⟩
            · have hsl : ¬ (s : Int) ≤ (K : Int) := by omega
              have hall : Hid (∀ v, v < N → (midL D (K : Int) s 0).getD v 0 = 1) := fun v hv => midL_all HLEV.out (by omega) (by omega) hv
              have hml : (midL D (K : Int) s 0).length = N := by rw [midL_len, hDl]
              generalize midL D (K : Int) s 0 = M at *
              have HB9 : Hid (Below w.heap.size w wr) := HW5.out.trans (HB.out.mono HG5.out)
              go_wp2
              go_loopw [14] (fun i wz => ∃ j : Nat, j ≤ N ∧ i = .int .i64 (j : Int) ∧ wz = wr) (fun i _ => N - (intOf i).toNat)
              case atStart => exact ⟨0, Nat.zero_le _, rfl, rfl⟩
              case round =>
                obtain ⟨j, hj, rfl, hwz⟩ := hrel
                rw [hwz]
                by_cases hlt : j < N
                · have hjl : (j : Int) < (N : Int) := by omega
                  have b0 := HO.out.cell (getD_cell (show j < M.length by omega))
                  rw [hall.out j hlt] at b0
                  go_wp2
                  exact ⟨⟨j + 1, by omega, by go_num, trivial⟩, by simp [intOf]; omega⟩
                · obtain rfl : N = j := by omega
                  have hN : ¬ (N : Int) < (N : Int) := by omega
                  go_wp2_with fail
                  refine (alive_any _).mono ?_
                  rintro e w9 ⟨rfl, hb9⟩
                  have HB : Hid _ := HB9.out.trans (hb9.mono HB9.out.size)
                  clear hb9 HB9
                  go_wp2
                  go_ret
                  exact ⟨rfl, HB.out⟩
    · have hk' : (rightK n l != 0) = true := by simpa using hk
      generalize rightK n l = q at *
      go_wp2_with fail
      refine (alive_any w3).mono ?_
      rintro e w4 ⟨rfl, hb4⟩
      have HB : Hid _ := hbw3.trans (hb4.mono hbw3.size)
      clear hb4 hbw3 hl3
      go_wp2
      go_ret
      exact ⟨rfl, HB.out⟩
end Go.Proofs.Ytdgecflljgnobaa

namespace Go.Proofs.Ytdgecflljgnobaa.levelsOnce
open Go Go.ChangeShapes Go.WideShapes Go.ChangeAt Go.RowKit

set_option maxRecDepth 100000 in
set_option maxHeartbeats 1000000 in
theorem lifted (os : Os) (started : os.Started) (H : Type) (enc : TypeId × Value → H) :
    ReturnsInHanded {} Try.checked os 5 .any (Rows.levelsOnceSpec.pre6 enc Try.prog Try.f5 Rows.levelsOnceRow.domain false) (Rows.levelsOnceSpec.post enc Try.prog Try.f5 false true false false) := by
  refine returnsInHanded_of_change (C := Try.checked) own started (by kernel_rfl) Try.func5
    (ChangeSpec.witness6 (enc := enc) (C := Try.checked) false ⟨#[], #[.agg #[.int .i64 0, .slice none 0 0], .int .i64 0], []⟩ 8 (by kernel_rfl) (by kernel_rfl) (by kernel_rfl) (by kernel_rfl)) ?_
  intro W base args ds gs before hval0 hW hcnd _
  have hval : ∀ (j : Nat) t v, Try.f5.params[j]? = some t → args[j]? = some v → Value.okWide Try.prog W .any base t v := hval0
  have hW' := hW
  obtain ⟨p, q, hA0, hV, rfl, hfz, hnd⟩ := hW
  have hA : DataW.TrodAll enc Try.prog W 0 (fun _ => true) true Try.f5.params.toList args.toList ds p := hA0
  rw [Try.params5] at hA hval
  obtain ⟨v0, vs0, d0, ds0, p0, q0, hargs, rfl, rfl, h0, r0⟩ := trodAll_cons hA
  obtain ⟨v1, vs1, d1, ds1, p1, q1, rfl, rfl, rfl, h1, r1⟩ := trodAll_cons r0
  obtain ⟨rfl, rfl, rfl⟩ := trodAll_nil r1
  obtain rfl : args = #[v0, v1] := by cases args; simp_all
  obtain ⟨rfl, rfl⟩ := trodVars_none hV
  have k0 := h0
  have lt0 : ∀ x ∈ p0, x.block < W.heap.size := by obtain ⟨m, hm⟩ := k0; exact DataW.trod_lt m _ _ _ hm
  have k1 := h1
  have lt1 : ∀ x ∈ p1, x.block < W.heap.size := by obtain ⟨m, hm⟩ := k1; exact DataW.trod_lt m _ _ _ hm
  obtain ⟨n0, s0, l0, rfl, e0⟩ := graph_in (hval 0 24 v0 rfl rfl) h0
  obtain ⟨n1, hn1, _, _, wf1⟩ := open_int Try.underlying3 (hval 1 3 v1 rfl rfl) h1
  subst hn1
  clear hA0 hval0
  refine (once_law n0 l0 n1 _ W e0).mono fun e W' ⟨he, bel⟩ => ?_
  subst he
  exact ⟨_, rfl, _, _, _, [], _, [], hW', trodAll_mk1 (shut_bool Try.underlying4 _), (trodAll_cons_mk (Below.trod laidOut (by kernel_rfl) (of_decide_eq_true (by kernel_rfl)) k0 bel lt0) (trodAll_cons_mk (Below.trod laidOut (by kernel_rfl) (of_decide_eq_true (by kernel_rfl)) k1 bel lt1) trodAll_mk0)), rfl, bel.frame _, fun h => by cases h⟩

end Go.Proofs.Ytdgecflljgnobaa.levelsOnce

namespace Go.Proofs.Ytdgecflljgnobaa
open Go

theorem levelsOnce_holds : Rows.LevelsOnceSaid :=
  OpenClaim.holds_of_wide 5 Try.f5 rfl rfl rfl rfl rfl rfl rfl ⟨rfl, rfl, rfl, rfl, rfl⟩ rfl rfl rfl rfl rfl (by kernel_rfl) Try.func5 (by kernel_rfl)
    (of_decide_eq_true (by kernel_rfl)) (by unfold Func.isWrapper; first | (rw [if_pos (by decide +kernel)]; kernel_rfl) | (rw [if_neg (by decide +kernel)]; exact ⟨rfl, rfl⟩))
    (fun os started H enc _ => levelsOnce.lifted os started H enc)

#print axioms levelsOnce_holds
end Go.Proofs.Ytdgecflljgnobaa
