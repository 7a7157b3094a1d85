/-
  The contract of graph.Make.
-/
import Derived.OwnWalk
import Derived.Laws.ResultCell
import Derived.Test.YtonfhkdciaiilaaXGSortS
namespace Go.Proofs.Ytonfhkdciaiilaa
open Go Go.Proofs Go.RowKit

theorem infoE : (Try.prog.info? 44).map (fun i => (i.zero, i.size, i.bytes)) = some (some (.agg #[.int .i64 0, .int .i64 0, .int .i64 0]), 3, 24) := by kernel_rfl

theorem firstK_end {n : Int} {l : List Ed} : firstK n (l.drop l.length) = 0 := by simp [firstK]

/-- The list, its first j edges as they shall be, the others zero. -/
def halfN (l : List Ed) (j : Nat) : List Ed := (l.take j).map norm ++ List.replicate (l.length - j) (0, 0, 0)
theorem halfN_zero (l : List Ed) : halfN l 0 = List.replicate l.length (0, 0, 0) := by simp [halfN]
theorem halfN_len {l : List Ed} {j : Nat} (h : j ≤ l.length) : (halfN l j).length = l.length := by simp [halfN]; omega
theorem halfN_full (l : List Ed) : halfN l l.length = l.map norm := by simp [halfN]
theorem halfN_step {l : List Ed} {j : Nat} (h : j < l.length) : (halfN l j).set j (norm l[j]) = halfN l (j + 1) := by
  apply List.ext_getElem?
  intro i
  unfold halfN
  rw [List.getElem?_set]
  split
  · rename_i he; subst he
    rw [if_pos (by simp; omega), List.getElem?_append_left (by simp; omega)]
    simp [h]
  · rename_i hne
    rw [List.getElem?_append, List.getElem?_append]
    simp only [List.length_map, List.length_take]
    by_cases h1 : i < j
    · rw [if_pos (by omega), if_pos (by omega)]
      simp [h1, show i < j + 1 by omega]
    · rw [if_neg (by omega), if_neg (by omega), List.getElem?_replicate, List.getElem?_replicate]
      congr 1
      simp only [eq_iff_iff]
      omega

theorem strict_step {s : List Ed} {j : Nat} (hw : Weak s) (h : j + 1 < s.length) (hs : Strict (s.take (j + 1))) (hc : ¬ cfE s[j] s[j + 1] = 0) : Strict (s.take (j + 2)) := by
  have hlo : lo s[j] s[j + 1] = true := by
    rcases cfE_cases s[j] s[j + 1] with ⟨_, h'⟩ | ⟨h', _⟩ | ⟨_, h'⟩
    · exact h'
    · exact absurd h' hc
    · have := List.pairwise_iff_getElem.1 hw j (j + 1) (by omega) h (by omega)
      rw [this] at h'; cases h'
  have e : s.take (j + 2) = s.take (j + 1) ++ [s[j + 1]] := by rw [List.take_add_one, List.getElem?_eq_getElem h]; rfl
  rw [e]
  refine List.pairwise_append.2 ⟨hs, List.pairwise_singleton _ _, fun a ha b hb => ?_⟩
  rw [List.mem_singleton.1 hb]
  obtain ⟨i, hi⟩ := List.getElem?_of_mem ha
  have hij : i < j + 1 := by have := (List.getElem?_eq_some_iff.1 hi).1; simp at this; omega
  by_cases he : i = j
  · subst he
    rw [List.getElem?_take_of_lt (by omega), List.getElem?_eq_getElem (by omega)] at hi
    cases hi; exact hlo
  · have h1 : i < (s.take (j + 1)).length := by simp; omega
    have h2 : j < (s.take (j + 1)).length := by simp; omega
    have := List.pairwise_iff_getElem.1 hs i j h1 h2 (by omega)
    have ha' : (s.take (j + 1))[i] = a := Option.some.inj ((List.getElem?_eq_getElem h1).symm.trans hi)
    rw [ha'] at this
    have hb' : (s.take (j + 1))[j] = s[j] := by simp
    rw [hb'] at this
    exact lo_trans this hlo
theorem not_alone {s l : List Ed} (hp : s.Perm l) {j : Nat} (h : j + 1 < s.length) (hc : cfE s[j] s[j + 1] = 0) : ¬ Alone l := by
  intro ha
  have := List.pairwise_iff_getElem.1 ((alone_perm hp).2 ha) j (j + 1) (by omega) h (by omega)
  rcases cfE_cases s[j] s[j + 1] with ⟨h', _⟩ | ⟨_, h'⟩ | ⟨h', _⟩
  · omega
  · exact this h'
  · omega

theorem Edges.setOther {W : World} {g len c : Nat} {l : List Ed} (h : Edges W.heap.size W (.slice (some ⟨g, 0, none⟩) len c) l) {p : Addr} (hp : p.block ≠ g) (v : Value) : Edges (W.setCell p v).heap.size (W.setCell p v) (.slice (some ⟨g, 0, none⟩) len c) l := by
  rcases h with ⟨⟨p, c, h1⟩, h⟩ | ⟨b, off, cap, h1, h2, h3, h4⟩
  · exact .inl ⟨⟨_, _, h1⟩, h⟩
  · refine .inr ⟨b, off, cap, h1, by simpa using h2, h3, fun j x hx => ?_⟩
    simp only [Value.slice.injEq, Option.some.injEq, Addr.mk.injEq] at h1
    obtain ⟨⟨rfl, rfl, _⟩, _, _⟩ := h1
    obtain ⟨k0, k1, k2⟩ := h4 j x hx
    exact ⟨(World.cell?_setCell_other _ _ _ _ (fun h => hp (by rw [h]))).trans k0, (World.cell?_setCell_other _ _ _ _ (fun h => hp (by rw [h]))).trans k1, (World.cell?_setCell_other _ _ _ _ (fun h => hp (by rw [h]))).trans k2⟩

theorem ret_graph {fn : Func} {p u : Tmp} (h : fn.results = #[.cell p 24, .tmp u]) {tmps : Array Value} {w : World} {b : Nat} {x y : Value} (hp : tmps.getD p undef = .pointer (some ⟨b, 0, none⟩)) (h0 : w.cell? ⟨b, 0, none⟩ = some x) (h1 : w.cell? ⟨b, 1, none⟩ = some y) :
    (results fn tmps).run Try.prog w = .ok (.tuple #[.agg #[x, y], tmps.getD u undef]) w := by
  rw [results_cell_tmp h, hp]
  have a1 := Try.isAgg24
  have a2 := Try.sizeOf24
  go_simp

set_option maxRecDepth 100000 in
set_option maxHeartbeats 2000000 in
theorem make_at (n : Int) (l : List Ed) (sv : Value) (w : World) (hl : Edges w.heap.size w sv l) :
    Calls Try.prog 37 #[.int .i64 n, sv] w fun r w' => ∃ gv, r = .returned (.tuple #[.agg #[.int .i64 (makeN n l), gv], .int .i64 (makeK n l)]) ∧ Edges w'.heap.size w' gv (makeL n l) ∧ (∀ a len c, gv = .slice (some a) len c → 0 < len → w.heap.size ≤ a.block) ∧ Below w.heap.size w w' := by
  obtain ⟨p, c, rfl⟩ := hl.len
  have hmix := mixed
  obtain ⟨i0, hi, hz0, hz1, hz2⟩ := info_parts infoE
  by_cases hm : manyK n l.length = 0
  · obtain ⟨hn0, hn1, hlen⟩ := many_ok hm
    have hS := fun W => sized_any n l.length W
    have HM : Hid (manyK n l.length = 0) := hm
    rw [hm] at hS
    go_enter Try.func37, Try.ntmps37
    go_wp2_with fail
    refine (hS _).mono ?_
    rintro e w1 ⟨rfl, rfl⟩
    clear hS hm
    have hg1 : Grew w (w.alloc (.cells #[.int .i64 0, .slice none 0 0] 24)) := (Grew.refl w).alloc _
    have hB1 : Blk 24 (w.alloc (.cells #[.int .i64 0, .slice none 0 0] 24)) w.heap.size [.int .i64 0, .slice none 0 0] := heap_alloc_new w _
    go_wp2
    go_loopw [24] (fun i wr => ∃ j : Nat, j ≤ l.length ∧ i = .int .i64 j ∧ Hid (firstK n (l.drop j) = firstK n l) ∧ Grew (w.alloc (.cells #[.int .i64 0, .slice none 0 0] 24)) wr) (fun i _ => l.length - (intOf i).toNat)
    case atStart => exact ⟨0, Nat.zero_le _, rfl, rfl, Grew.refl _⟩
    case round =>
      obtain ⟨j, hj, rfl, hr, hg⟩ := hrel
      have hbr := hB1.go hg.below
      have hbrl := hbr.lt
      by_cases hlt : j < l.length
      · obtain ⟨b, off, rfl, hbb, hcap, hc, _⟩ := hl.open hlt
        obtain ⟨c0, c1, c2⟩ := hc wr (hg1.trans hg).below j hlt
        have hst := hr
        unfold Hid at hst
        rw [firstK_step hlt] at hst
        have HST : Hid _ := hst
        have hjl : (j : Int) < (l.length : Int) := by omega
        clear hc hst hr
        go_wp2_with fail
        refine (fits_any n l[j] _).mono ?_
        rintro e w7 ⟨rfl, hg7⟩
        have hg9 : Grew (w.alloc (.cells #[.int .i64 0, .slice none 0 0] 24)) w7 := hg.trans (((Grew.refl wr).alloc _).trans hg7)
        clear c0 c1 c2 hbr hbrl hg hg7
        by_cases hk : edgeK n l[j] = 0
        · rw [hk]
          have HS : Hid (firstK n (l.drop (j + 1)) = firstK n l) := by
            have h2 := HST.out
            rw [hk, if_pos rfl] at h2
            exact h2
          clear HST hk
          go_wp2
          exact ⟨⟨j + 1, by omega, by go_num, HS, hg9⟩, by simp [intOf]; omega⟩
        · have HF : Hid (firstK n l = edgeK n l[j]) := by
            have h2 := HST.out
            rw [if_neg hk] at h2
            exact h2.symm
          have HE : Hid (makeK n l = edgeK n l[j]) := by unfold Hid makeK; rw [if_pos HM.out, HF.out, if_neg hk]
          have HN : Hid (makeN n l = 0) := by unfold Hid makeN; rw [HE.out, if_neg hk]
          have HL : Hid (makeL n l = []) := by unfold Hid makeL; rw [HE.out, if_neg hk]
          have hb7 := hB1.go hg9.below
          have f0 := hb7.frozen 0
          have f1 := hb7.frozen 1
          have d0 := hb7.cell (j := 0) rfl
          have d1 := hb7.cell (j := 1) rfl
          generalize edgeK n l[j] = k at HE hk
          have hk' : (k == 0) = false := by simpa using hk
          clear HST hk HF
          go_wp2
          have hbf := (hb7.set 0 (.int .i64 0)).set 1 (.slice none 0 0)
          (try simp only [Exit.inBlock, Exit.then])
          refine bodyPost_ret (ret_graph rfl (by rfl) (hbf.cell (j := 0) rfl) (hbf.cell (j := 1) rfl)) rfl ?_
          exact ⟨.slice none 0 0, by rw [HE.out, HN.out]; rfl, by rw [HL.out]; exact Edges.nil _ _ _ _, (fun a' len' c' h' => by cases h'), ((hg1.trans hg9).below.setCell (p := ⟨w.heap.size, 0, none⟩) (Nat.le_refl _) _).setCell (p := ⟨w.heap.size, 1, none⟩) (Nat.le_refl _) _⟩
      · obtain rfl : j = l.length := by omega
        have HF : Hid (firstK n l = 0) := by
          unfold Hid; rw [← hr.out, firstK_end]
        clear hr
        have hbw := (hg1.trans hg).below
        have hle : w.heap.size + 1 ≤ wr.heap.size := hbrl
        go_wp2_with (at_make; refine wpList_make_full _ rfl _ _ 22 rfl wr.heap.size 44 i0 (.agg #[.int .i64 0, .int .i64 0, .int .i64 0]) 3 Try.underlying22 hi hz0 hz1 .i64 .i64 _ _ l.length rfl rfl rfl rfl (by rw [hz2]; omega) (by unfold maxLen; omega) (Nat.le_refl _) ?_; intro w3 hown hgrow)
        have hb3 : Below wr.heap.size wr w3 := (Below.refl _ _).grown hgrow (Nat.le_refl _) (fun k e => by cases e)
        have hrow := Blk.made hown
        rw [flat_made] at hrow
        have hbr3 := hbr.below hb3 hbrl
        have hbw3 := hbw.trans (hb3.mono hbw.size)
        clear hown hgrow hi hz0 hz1 hz2 hg hg1 hB1 hbr hbw
        clear hb3
        generalize wr.heap.size = g at hbrl hle hrow
        clear wr
        go_loopw [41] (fun i wr => ∃ j : Nat, j ≤ l.length ∧ i = .int .i64 j ∧ Blk 44 wr g (flat (halfN l j)) ∧ Below g w3 wr) (fun i _ => l.length - (intOf i).toNat)
        case atStart => exact ⟨0, Nat.zero_le _, rfl, by rw [halfN_zero]; exact hrow, Below.refl _ _⟩
        case round =>
          obtain ⟨j, hj, rfl, hB, hb⟩ := hrel
          have hgl := hB.lt
          by_cases hlt : j < l.length
          · obtain ⟨b, off, rfl, hbb, hcap, hc, _⟩ := hl.open hlt
            obtain ⟨c0, c1, c2⟩ := hc wr (hbw3.trans (hb.mono (by omega))) j hlt
            have hjl : (j : Int) < (l.length : Int) := by omega
            have hbg : b < wr.heap.size := by omega
            have hne : b ≠ g := by omega
            obtain ⟨y, hy⟩ : ∃ y, (halfN l j)[j]? = some y := ⟨_, List.getElem?_eq_getElem (by rw [halfN_len hj]; exact hlt)⟩
            obtain ⟨d0, d1, d2⟩ := flat_at hy
            replace d0 := hB.cell d0
            replace d1 := hB.cell d1
            replace d2 := hB.cell d2
            have f0 := hB.frozen (j * 3)
            have f1 := hB.frozen (j * 3 + 1)
            have f2 := hB.frozen (j * 3 + 2)
            clear hc hy
            go_wp2
            have hBf := ((hB.set (j * 3) (.int .i64 (norm l[j]).1)).set (j * 3 + 1) (.int .i64 (norm l[j]).2.1)).set (j * 3 + 2) (.int .i64 (norm l[j]).2.2)
            rw [flat_set, halfN_step hlt] at hBf
            refine ⟨⟨j + 1, by omega, by go_num, hBf.go ((Below.refl _ _).alloc (Nat.le_refl _) _), (((hb.setCell (p := ⟨g, j * 3, none⟩) (Nat.le_refl _) _).setCell (p := ⟨g, j * 3 + 1, none⟩) (Nat.le_refl _) _).setCell (p := ⟨g, j * 3 + 2, none⟩) (Nat.le_refl _) _).alloc ?_ _⟩, by simp [intOf]; omega⟩
            simp; omega
          · obtain rfl : j = l.length := by omega
            rw [halfN_full] at hB
            have hSrt := sort_any wr g l.length (l.map norm) _ hB (by simp; omega)
            simp only [List.length_map] at hSrt
            have hbr4 := hbr3.below hb hbrl
            have hbw4 := hbw3.trans (hb.mono (by omega))
            clear hB hb hbr3 hbw3 hrow
            go_wp2_with fail
            refine hSrt.mono ?_
            rintro e w5 ⟨rfl, s, hp, hwk, hsl, hsE, hbel⟩
            have hbr5 := hbr4.below (hbel g (Nat.le_refl _)) hbrl
            have hbw5 := hbw4.trans (hbel w.heap.size (by omega))
            have hz5 := hbr5.lt
            have HSL : Hid (s.length = l.length) := hsl
            clear hSrt hbr4 hbw4 hbel hgl wr hsl
            go_wp2
            go_loopw [13] (fun i wr => ∃ j : Nat, (j = 0 ∨ j + 1 ≤ l.length) ∧ i = .int .i64 ((j : Int) + 1) ∧ Hid (Strict (s.take (j + 1))) ∧ Grew w5 wr) (fun i _ => l.length + 1 - (intOf i).toNat)
            case atStart =>
              refine ⟨0, .inl rfl, rfl, ?_, Grew.refl _⟩
              cases s with
              | nil => exact List.Pairwise.nil
              | cons a s => simp only [List.take_succ_cons, List.take_zero]; exact List.pairwise_singleton _ _
            case round =>
              obtain ⟨j, hj, rfl, hr, hg⟩ := hrel
              have hbr6 := hbr5.go hg.below
              have hbw6 := hbw5.trans (hg.below.mono hbw5.size)
              by_cases hlt : j + 1 < l.length
              · have hjs : j + 1 < s.length := by have := HSL.out; omega
                have hjs' : j < s.length := by omega
                obtain ⟨b, off, hsome, hbb, hcap, _, hc⟩ := Edges.open (l := s) (c := l.length) (by rw [HSL.out]; exact hsE) (j := j) hjs'
                simp only [Option.some.injEq, Addr.mk.injEq, and_true] at hsome
                obtain ⟨rfl, rfl⟩ := hsome
                obtain ⟨c0, c1, c2⟩ := hc wr hg.below (j + 1) hjs
                obtain ⟨d0, d1, d2⟩ := hc wr hg.below j hjs'
                simp only [Nat.zero_add] at c0 c1 c2 d0 d1 d2
                have hjl : (j : Int) + 1 < (l.length : Int) := by omega
                have hjl2 : (j : Int) < (l.length : Int) := by omega
                have hjl3 : (0 : Int) ≤ (j : Int) + 1 := by omega
                have hwi := wrap_i j (by omega) (by omega)
                clear hc
                go_wp2
                go_quiet_grown (first | (go_at_call 51; refine Calls.grown_of (byEnds_any s[j] s[j + 1] _)))
                have hgq := hg.trans ⟨nq, osq, rfl⟩
                generalize Go.Sort.grow (wr.drewN nq) osq = w8 at hgq ⊢
                have hbr8 := hbr5.go hgq.below
                have hbw8 := hbw5.trans (hgq.below.mono hbw5.size)
                clear c0 c1 c2 d0 d1 d2 hbr6 hbw6 hg
                by_cases hc : cfE s[j] s[j + 1] = 0
                · have hna := not_alone hp hjs hc
                  have HE : Hid (makeK n l = 7) := by unfold Hid makeK; rw [if_pos HM.out, if_pos HF.out, if_neg hna]
                  have HN : Hid (makeN n l = 0) := by unfold Hid makeN; rw [HE.out]; rfl
                  have HL : Hid (makeL n l = []) := by unfold Hid makeL; rw [HE.out]; rfl
                  have f0 := hbr8.frozen 0
                  have f1 := hbr8.frozen 1
                  have d0 := hbr8.cell (j := 0) rfl
                  have d1 := hbr8.cell (j := 1) rfl
                  rw [hc]
                  clear hc hna hp
                  go_wp2
                  have hbf := (hbr8.set 0 (.int .i64 0)).set 1 (.slice none 0 0)
                  (try simp only [Exit.inBlock, Exit.then])
                  refine bodyPost_ret (ret_graph rfl (by rfl) (hbf.cell (j := 0) rfl) (hbf.cell (j := 1) rfl)) rfl ?_
                  exact ⟨.slice none 0 0, by rw [HE.out, HN.out]; rfl, by rw [HL.out]; exact Edges.nil _ _ _ _, (fun a' len' c' h' => by cases h'), (hbw8.setCell (p := ⟨w.heap.size, 0, none⟩) (Nat.le_refl _) _).setCell (p := ⟨w.heap.size, 1, none⟩) (Nat.le_refl _) _⟩
                · have HS : Hid (Strict (s.take (j + 2))) := strict_step hwk hjs hr.out hc
                  generalize cfE s[j] s[j + 1] = k at hc
                  have hc' : (k == 0) = false := by simpa using hc
                  clear hc hr
                  go_wp2
                  exact ⟨⟨j + 1, .inr (by omega), by go_num, HS, hgq⟩, by simp [intOf]; omega⟩
              · have hss : Strict s := by
                  have := hr.out
                  rwa [List.take_of_length_le (by have := HSL.out; omega)] at this
                have ha : Alone (l.map norm) := (alone_perm hp).1 (strict_alone hss)
                have HE : Hid (makeK n l = 0) := by unfold Hid makeK; rw [if_pos HM.out, if_pos HF.out, if_pos ha]
                have HN : Hid (makeN n l = n) := by unfold Hid makeN; rw [if_pos HE.out]
                have HL : Hid (makeL n l = s) := by unfold Hid makeL; rw [if_pos HE.out, ← srt_eq hp hss]
                have f0 := hbr6.frozen 0
                have f1 := hbr6.frozen 1
                have d0 := hbr6.cell (j := 0) rfl
                have d1 := hbr6.cell (j := 1) rfl
                have hsW := hsE.go hg.below
                have hge : (l.length : Int) ≤ (j : Int) + 1 := by omega
                have hbg : g ≠ w.heap.size := by omega
                clear hss ha hp hr hsE
                go_wp2
                have hbf := (hbr6.set 0 (.int .i64 n)).set 1 (.slice (some ⟨g, 0, none⟩) l.length l.length)
                (try simp only [Exit.inBlock, Exit.then])
                refine bodyPost_ret (ret_graph rfl (by rfl) (hbf.cell (j := 0) rfl) (hbf.cell (j := 1) rfl)) rfl ?_
                refine ⟨.slice (some ⟨g, 0, none⟩) l.length l.length, by rw [HE.out, HN.out]; rfl, ?_, (fun a' len' c' h' _ => by cases h'; show w.heap.size ≤ g; omega), (hbw6.setCell (p := ⟨w.heap.size, 0, none⟩) (Nat.le_refl _) _).setCell (p := ⟨w.heap.size, 1, none⟩) (Nat.le_refl _) _⟩
                rw [HL.out]
                exact (hsW.setOther (by simp; omega) _).setOther (by simp; omega) _
  · have HE : Hid (makeK n l = manyK n l.length) := if_neg hm
    have HN : Hid (makeN n l = 0) := by unfold Hid makeN; rw [HE.out, if_neg hm]
    have HL : Hid (makeL n l = []) := by unfold Hid makeL; rw [HE.out, if_neg hm]
    have hS := fun W => sized_any n l.length W
    generalize manyK n l.length = k at hS HE hm
    have hk : (k == 0) = false := by simpa using hm
    clear hm
    go_enter Try.func37, Try.ntmps37
    go_wp2_with fail
    refine (hS _).mono ?_
    rintro e w1 ⟨rfl, rfl⟩
    clear hS
    go_wp2
    (try simp only [Exit.inBlock, Exit.then])
    refine bodyPost_ret (ret_graph rfl (by rfl) (by simp; rfl) (by simp; rfl)) rfl ?_
    refine ⟨.slice none 0 0, by rw [HE.out, HN.out]; rfl, by rw [HL.out]; exact Edges.nil _ _ _ _, (fun a' len' c' h' => by cases h'), ?_⟩
    exact (Grew.alloc (Grew.refl w) _).below

theorem make_any (n : Int) (l : List Ed) (sv : Value) (w : World) (hl : Edges w.heap.size w sv l) :
    Calls Try.prog 37 #[.int .i64 n, sv] w fun r w' => ∃ gv, r = .returned (.tuple #[.agg #[.int .i64 (makeN n l), gv], .int .i64 (makeK n l)]) ∧ Edges w'.heap.size w' gv (makeL n l) ∧ Below w.heap.size w w' :=
  (make_at n l sv w hl).mono fun _ _ ⟨gv, h1, h2, _, h3⟩ => ⟨gv, h1, h2, h3⟩

end Go.Proofs.Ytonfhkdciaiilaa
