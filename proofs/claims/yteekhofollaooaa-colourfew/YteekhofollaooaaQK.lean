/-
  The contracts of rotation.isOrder and Right, and of slices.EqualFunc with it.
-/
import Derived.Sort.OwnSortedInts
import Derived.Test.YteekhofollaooaaShelfS
import Derived.Test.YteekhofollaooaaQH
import Derived.Test.YteekhofollaooaaQI
namespace Go.Proofs.Yteekhofollaooaa
open Go Go.Proofs Go.RowKit

def sortL (L : List Int) : List Int := L.mergeSort fun x y => decide (x ≤ y)
theorem sortL_len (L : List Int) : (sortL L).length = L.length := by unfold sortL; simp
theorem sortL_perm (L : List Int) : (sortL L).Perm L := List.mergeSort_perm _ _
/-- A rising list that has the same numbers is the sorted one. -/
theorem sortL_iff {L K : List Int} (hK : K.Pairwise (· < ·)) : sortL L = K ↔ L.Perm K := by
  constructor
  · intro h
    rw [← h]
    exact (sortL_perm L).symm
  · intro h
    have h1 : (sortL L).Pairwise (fun x y => decide (x ≤ y) = true) := List.pairwise_mergeSort (fun a b c h1 h2 => by simp at *; omega) (fun a b => by simp; omega) L
    refine List.Perm.eq_of_pairwise (le := fun x y => decide (x ≤ y) = true) (fun a b _ _ h1 h2 => by simp at *; omega) h1 (hK.imp fun {a b} hab => by simp; omega) ((sortL_perm L).trans h)
theorem ints_cells {n : Nat} {w : World} {b off c : Nat} {L : List Int} (h : Ints n w (.slice (some ⟨b, off, none⟩) L.length c) L) : ∀ j, j < L.length → w.cell? ⟨b, off + j, none⟩ = some (.int .i64 (L.getD j 0)) := fun j hj => by
  obtain ⟨b', off', e, _, _, hc⟩ := h.open hj
  simp only [Option.some.injEq, Addr.mk.injEq, and_true] at e
  obtain ⟨rfl, rfl⟩ := e
  rw [hc w (Below.refl _ _) j hj, List.getD_eq_getElem?_getD, List.getElem?_eq_getElem hj]
  rfl

set_option maxRecDepth 100000 in
set_option maxHeartbeats 2000000 in
theorem isOrder_any (L K : List Int) (hK : K.length ≤ 4194304) (sl sk : Value) (w : World) (hl : Ints w.heap.size w sl L) (hk : Ints w.heap.size w sk K) :
    Calls Try.prog 56 #[sl, sk] w fun e w' => e = .returned (.bool (decide (sortL L = K))) ∧ Below w.heap.size w w' := by
  obtain ⟨p, c, rfl⟩ := hl.len
  obtain ⟨pk, ck, rfl⟩ := hk.len
  by_cases hlen : L.length = K.length
  · have hL : L.length ≤ 4194304 := by omega
    have hlen' : ((L.length : Int) != (K.length : Int)) = false := by rw [hlen]; simp
    by_cases hz : L.length = 0
    · have hL0 : L = [] := List.eq_nil_of_length_eq_zero hz
      have hK0 : K = [] := List.eq_nil_of_length_eq_zero (by omega)
      subst hL0
      subst hK0
      have hE : decide (sortL [] = []) = true := by simp [sortL]
      rw [hE]
      have hcl : Calls Try.prog 68 #[.slice p 0 c] w fun e w' => ∃ q k, e = .returned (.slice q 0 k) ∧ Below w.heap.size w w' := by
        cases p with
        | none => exact (Try.slices_Clone_int_nil 0 c w).mono fun e w' ⟨h1, h2⟩ => ⟨none, 0, h1, by rw [h2]; exact Below.refl _ _⟩
        | some a =>
          refine (Try.slices_Clone_int_zero a c w).mono ?_
          rintro e w' ⟨v', h1, h2, _, h3⟩
          obtain ⟨q, k, rfl⟩ := owns_formP h2
          exact ⟨q, k, h1, h3⟩
      clear hE hlen hz
      go_enter Try.func56, Try.ntmps56
      go_wp2_with fail
      refine hcl.mono ?_
      rintro e w2 ⟨q, k, rfl, hb2⟩
      go_wp2_with fail
      refine (Try.slices_Sort_int_none q k w2).mono ?_
      rintro e w3 ⟨rfl, rfl⟩
      go_wp2_with fail
      refine (Try.slices_Equal_int_empty q pk k 0 ck w3 (by omega)).mono ?_
      rintro e w4 ⟨rfl, rfl⟩
      go_wp2
      go_ret
      exact ⟨rfl, hb2⟩
    · obtain ⟨b, off, rfl, hbb, hcap, _⟩ := hl.open (show 0 < L.length by omega)
      obtain ⟨bk, offk, rfl, hbk, hcapk, _⟩ := hk.open (show 0 < K.length by omega)
      have hcl := Try.slices_Clone_int b off L.length c L w (Nat.le_refl _) (by omega) (ints_cells hl)
      rw [List.take_length] at hcl
      have HLEN : Hid _ := hlen
      have hpos : 0 < L.length := by omega
      clear hlen hz
      go_enter Try.func56, Try.ntmps56
      go_wp2_with fail
      refine hcl.mono ?_
      clear hcl
      rintro e w2 ⟨v2, rfl, hO2, hn2, hb2⟩
      rcases hO2.2 with ⟨h0, _⟩ | ⟨g2, cap2, cur2, rfl, hbase, hblk, h1, h2, h3, h4⟩
      · exact absurd h0 hn2
      have hgl := (Array.getElem?_eq_some_iff.1 hblk).1
      have hso := Try.slices_Sort_int g2 0 cap2 L w2 (holds_of_blockI hblk (by simpa using h4)) hgl (by omega)
      go_wp2_with fail
      refine hso.mono ?_
      clear hso
      rintro e w3 ⟨rfl, nn, os, hw3⟩
      have hO3 : w3.ownsRow w.heap.size 3 1 (.slice (some ⟨g2, 0, none⟩) L.length cap2) L.length ((sortL L).map (Value.int .i64)) := by
        rw [hw3]
        exact ownsRow_sortedI (ss := L) (ts := sortL L) (sortL_len L) hbase hblk h1 h2 h3
      have hg3 : w2.grownBy w3 (some g2) := by
        rw [hw3]
        exact grownBy_sortedI _
      have hb3 : Below w.heap.size w w3 := hb2.grown hg3 hb2.size (fun q e => by cases e; exact hbase)
      have hI3 : Ints w3.heap.size w3 (.slice (some ⟨g2, 0, none⟩) (sortL L).length cap2) (sortL L) := by
        refine owns_intsP (base := w.heap.size) ?_
        rw [sortL_len]
        exact hO3
      have hk3 := hk.go hb3
      have heq := Try.slices_Equal_int g2 0 L.length cap2 bk offk K.length ck (sortL L) K _ (by rw [sortL_len]; exact Nat.le_refl _) (Nat.le_refl _) (by omega) (by omega) (ints_cells hI3) (ints_cells hk3)
      have e1 : (sortL L).take L.length = sortL L := List.take_of_length_le (by rw [sortL_len]; exact Nat.le_refl _)
      rw [e1, List.take_length] at heq
      have hbe : (sortL L == K) = decide (sortL L = K) := by
        by_cases h : sortL L = K
        · rw [decide_eq_true h, beq_iff_eq]; exact h
        · rw [decide_eq_false h, beq_eq_false_iff_ne]; exact h
      rw [hbe] at heq
      clear e1 hbe hI3 hk3 hO3 hg3 hO2 hblk h1 h2 h3 h4 hw3
      have HB3 : Hid _ := hb3
      clear hb3
      obtain ⟨res, HRES⟩ : ∃ res, Hid (decide (sortL L = K) = res) := ⟨_, rfl⟩
      rw [HRES.out] at heq
      go_wp2_with fail
      refine heq.mono ?_
      rintro e w4 ⟨rfl, q, rfl⟩
      go_wp2
      go_ret
      exact ⟨by rw [HRES.out]; rfl, below_drewN HB3.out q⟩
  · have hlen' : ((L.length : Int) != (K.length : Int)) = true := by
      rw [bne_iff_ne]; omega
    have hE : decide (sortL L = K) = false := decide_eq_false fun e => hlen (by rw [← e, sortL_len])
    rw [hE]
    clear hE hlen
    go_enter Try.func56, Try.ntmps56
    go_wp2
    go_ret
    exact ⟨rfl, Below.refl _ _⟩
end Go.Proofs.Yteekhofollaooaa

namespace Go.Proofs.Yteekhofollaooaa
open Go Go.Proofs Go.RowKit

theorem sort_ne {r K : List (List Int)} {j : Nat} (h1 : j < r.length) (h2 : j < K.length) (h : sortL r[j] ≠ K[j]) : decide (r.map sortL = K) = false := decide_eq_false fun e => h (by
  have := congrArg (fun L => L[j]?) e
  simp only [List.getElem?_map, List.getElem?_eq_getElem h1, List.getElem?_eq_getElem h2, Option.map_some, Option.some.injEq] at this
  exact this)
theorem sort_eq {r K : List (List Int)} (hl : r.length = K.length) (h : ∀ (i : Nat) (h1 : i < r.length) (h2 : i < K.length), sortL r[i] = K[i]) : decide (r.map sortL = K) = true := decide_eq_true (by
  refine List.ext_getElem (by simpa using hl) fun i h1 h2 => ?_
  rw [List.getElem_map]
  exact h i (by simpa using h1) h2)

set_option maxRecDepth 100000 in
set_option maxHeartbeats 2000000 in
theorem eqf_any (r K : List (List Int)) (hK : ∀ x ∈ K, x.length ≤ 4194304) (hKl : K.length ≤ 4194304) (sr sk : Value) (w : World) (hr : Lsts w.heap.size w sr r) (hk : Lsts w.heap.size w sk K) :
    Calls Try.prog 55 #[sr, sk, .func (.func 56) #[] #[]] w fun e w' => e = .returned (.bool (decide (r.map sortL = K))) ∧ Below w.heap.size w w' := by
  have hent : ∀ (args : Array Value) (W : World), (callFunc 56 args).run Try.prog W = .ok (.enter 56 args) W := fun args W => by kernel_rfl
  obtain ⟨p, c, rfl⟩ := hr.len
  obtain ⟨pk, ck, rfl⟩ := hk.len
  by_cases hlen : r.length = K.length
  · have hlen' : ((r.length : Int) != (K.length : Int)) = false := by rw [hlen]; simp
    have HLEN : Hid _ := hlen
    have HR0 : Hid (Lsts w.heap.size w (.slice p r.length c) r) := hr
    have HK0 : Hid (Lsts w.heap.size w (.slice pk K.length ck) K) := hk
    have HK : Hid _ := hK
    have hrl : r.length ≤ 4194304 := by omega
    clear hlen hr hk hK
    go_enter Try.func55, Try.ntmps55
    go_wp2
    go_loopw [17] (fun iv wr => ∃ j : Nat, j ≤ r.length ∧ iv = .int .i64 j ∧ Hid (∀ (i : Nat) (h1 : i < r.length) (h2 : i < K.length), i < j → sortL r[i] = K[i]) ∧ Below w.heap.size w wr) (fun i _ => r.length - (intOf i).toNat)
    case atStart => exact ⟨0, Nat.zero_le _, rfl, fun i _ _ h => by omega, Below.refl _ _⟩
    case round =>
      obtain ⟨j, hj, rfl, HS, hb⟩ := hrel
      by_cases hlt : j < r.length
      · have hjl : (j : Int) < (r.length : Int) := by omega
        have hlk : j < K.length := by have := HLEN.out; omega
        have hjk : (j : Int) < (K.length : Int) := by omega
        obtain ⟨b, off, rfl, hbb, hcap, px, cx, hIx, c0⟩ := (HR0.out.below hb).cellAt hlt
        obtain ⟨bk, offk, rfl, hbk, hcapk, pk', ck', hIk, k0⟩ := (HK0.out.below hb).cellAt hlk
        have hc := isOrder_any r[j] K[j] (HK.out _ (List.getElem_mem hlk)) _ _ wr (hIx.mono hb.size) (hIk.mono hb.size)
        by_cases he : sortL r[j] = K[j]
        · rw [decide_eq_true he] at hc
          have HS2 : Hid (∀ (i : Nat) (h1 : i < r.length) (h2 : i < K.length), i < j + 1 → sortL r[i] = K[i]) := fun i h1 h2 h => by
            by_cases e : i = j
            · subst e; exact he
            · exact HS.out i h1 h2 (by omega)
          have HLT : Hid (j < r.length) := hlt
          clear he HS hIx hIk
          generalize r[j] = X at c0 hc
          generalize K[j] = Y at k0 hc
          clear hlt hlk
          go_wp2_with fail
          refine hc.mono ?_
          clear hc
          rintro e w2 ⟨rfl, hb2⟩
          have HB2 : Hid _ := hb.trans (hb2.mono hb.size)
          clear hb2
          go_wp2
          exact ⟨⟨j + 1, HLT.out, by go_num, HS2.out, HB2.out⟩, by have := HLT.out; simp [intOf]; omega⟩
        · rw [decide_eq_false he] at hc
          have HE : Hid _ := sort_ne hlt hlk he
          have HLT : Hid (j < r.length) := hlt
          clear he HS hIx hIk
          generalize r[j] = X at c0 hc
          generalize K[j] = Y at k0 hc
          clear hlt hlk
          go_wp2_with fail
          refine hc.mono ?_
          clear hc
          rintro e w2 ⟨rfl, hb2⟩
          have HB2 : Hid _ := hb.trans (hb2.mono hb.size)
          clear hb2
          go_wp2
          go_ret
          exact ⟨by rw [HE.out]; rfl, HB2.out⟩
      · obtain rfl : j = r.length := by omega
        have HE : Hid _ := sort_eq HLEN.out fun i h1 h2 => HS.out i h1 h2 h1
        clear HS
        go_wp2
        go_ret
        exact ⟨by rw [HE.out]; rfl, hb⟩
  · have hlen' : ((r.length : Int) != (K.length : Int)) = true := by
      rw [bne_iff_ne]; omega
    have hE : decide (r.map sortL = K) = false := decide_eq_false fun e => hlen (by rw [← e]; simp)
    rw [hE]
    clear hE hlen
    go_enter Try.func55, Try.ntmps55
    go_wp2
    go_ret
    exact ⟨rfl, Below.refl _ _⟩

theorem sys_iff {N : Nat} {l : List Ed} {r : List (List Int)} (hR : RightG (N : Int) l) : r.map sortL = nearL N l ↔ SysR N l r := by
  constructor
  · intro h
    have hl : r.length = N := by have := congrArg List.length h; rw [nearL_len] at this; simpa using this
    refine ⟨hl, fun v hv => ?_⟩
    have h1 := congrArg (fun L => L[v]?) h
    simp only [List.getElem?_map, nearL_at hv, List.getElem?_eq_getElem (show v < r.length by omega), Option.map_some, Option.some.injEq] at h1
    rw [List.getD_eq_getElem?_getD, List.getElem?_eq_getElem (show v < r.length by omega)]
    exact (sortL_iff (nb_rise hR _)).1 h1
  · intro h
    refine List.ext_getElem (by rw [nearL_len]; simpa using h.len) fun i h1 h2 => ?_
    rw [nearL_len] at h2
    have h3 := h.perm i h2
    have h4 : i < r.length := by rw [h.len]; exact h2
    rw [List.getD_eq_getElem?_getD, List.getElem?_eq_getElem h4] at h3
    have h5 := nearL_at (l := l) h2
    rw [List.getElem?_eq_getElem (by rw [nearL_len]; exact h2), Option.some.injEq] at h5
    rw [List.getElem_map, h5]
    exact (sortL_iff (nb_rise hR _)).2 h3
/-- What rotation.Right answers. -/
def sysK (n : Int) (l : List Ed) (r : List (List Int)) : Int := if rightK n l = 0 then (if r.map sortL = nearL n.toNat l then 0 else 12) else 1
theorem sysK_ok {N : Nat} {l : List Ed} {r : List (List Int)} (hR : RightG (N : Int) l) (hS : SysR N l r) : sysK (N : Int) l r = 0 := by
  unfold sysK
  rw [if_pos (right_iff.2 hR)]
  exact if_pos ((sys_iff hR).2 hS)
theorem sysK_not {N : Nat} {l : List Ed} {r : List (List Int)} (hR : RightG (N : Int) l) (hS : ¬ SysR N l r) : sysK (N : Int) l r = 12 := by
  unfold sysK
  rw [if_pos (right_iff.2 hR)]
  exact if_neg fun h => hS ((sys_iff hR).1 h)
theorem sysK_zero {N : Nat} {l : List Ed} {r : List (List Int)} (h : sysK (N : Int) l r = 0) : RightG (N : Int) l ∧ SysR N l r := by
  unfold sysK at h
  split at h
  · rename_i h1
    split at h
    · rename_i h2
      exact ⟨right_iff.1 h1, (sys_iff (right_iff.1 h1)).1 h2⟩
    · omega
  · omega

set_option maxRecDepth 100000 in
set_option maxHeartbeats 2000000 in
theorem sysRight_any (n : Int) (l : List Ed) (r : List (List Int)) (sv rv : Value) (w : World) (hl : Edges w.heap.size w sv l) (hr : Lsts w.heap.size w rv r) :
    Calls Try.prog 45 #[.agg #[.int .i64 n, sv], rv] w fun e w' => e = .returned (.int .i64 (sysK n l r)) ∧ Below w.heap.size w w' := by
  have hgA : Grew w (w.alloc (.cells #[.int .i64 n, sv] 24)) := (Grew.refl w).alloc _
  have hX : Blk 24 (w.alloc (.cells #[.int .i64 n, sv] 24)) w.heap.size [.int .i64 n, sv] := heap_alloc_new w _
  have q0 := hX.cell (j := 0) rfl
  have q1 := hX.cell (j := 1) rfl
  have hrc := right_any n l sv _ (hl.go hgA.below)
  have HX : Hid (Blk 24 (w.alloc (.cells #[.int .i64 n, sv] 24)) w.heap.size [.int .i64 n, sv]) := hX
  have HL : Hid (Edges w.heap.size w sv l) := hl
  have HR0 : Hid (Lsts w.heap.size w rv r) := hr
  have HBA : Hid _ := hgA.below
  clear hX hl hr hgA
  go_enter Try.func45, Try.ntmps45
  go_wp2_with fail
  generalize w.alloc (.cells #[.int .i64 n, sv] 24) = w1 at *
  refine hrc.mono ?_
  clear hrc
  rintro e w2 ⟨rfl, hg2⟩
  have hX2 := HX.out.go hg2.below
  have y0 := hX2.cell (j := 0) rfl
  have y1 := hX2.cell (j := 1) rfl
  have HB2 : Hid (Below w.heap.size w w2) := HBA.out.trans (hg2.below.mono HBA.out.size)
  by_cases hk : rightK n l = 0
  · have hR := right_iff.1 hk
    obtain ⟨N, rfl⟩ : ∃ N : Nat, n = (N : Int) := ⟨n.toNat, by have := hR.n0; omega⟩
    have hne := near_any N l hR sv w2 (HL.out.go HB2.out)
    have hn1 := hR.n1
    have hm1 := hR.m1
    rw [hk]
    have HR : Hid _ := hR
    clear hk hX2 hR q0 q1
    go_wp2_with fail
    refine hne.mono ?_
    clear hne
    rintro e w3 ⟨nv, rfl, hN3, hb3⟩
    have HB3 : Hid (Below w.heap.size w w3) := HB2.out.trans (hb3.mono HB2.out.size)
    have heq := eqf_any r (nearL N l) (fun x hx => by
      obtain ⟨v, hv, rfl⟩ := List.mem_map.1 hx
      exact Nat.le_trans (nb_len _ _) hm1) (by rw [nearL_len]; omega) rv nv w3 (HR0.out.go HB3.out) hN3
    clear y0 y1 hb3 hN3
    by_cases hS : SysR N l r
    · rw [decide_eq_true ((sys_iff HR.out).2 hS)] at heq
      have HE : Hid _ := sysK_ok HR.out hS
      clear hS
      go_wp2_with fail
      refine heq.mono ?_
      clear heq
      rintro e w4 ⟨rfl, hb4⟩
      go_wp2
      go_ret
      exact ⟨by rw [HE.out]; rfl, HB3.out.trans (hb4.mono HB3.out.size)⟩
    · rw [decide_eq_false fun e => hS ((sys_iff HR.out).1 e)] at heq
      have HE : Hid (sysK (N : Int) l r = 12) := sysK_not HR.out hS
      clear hS
      go_wp2_with fail
      refine heq.mono ?_
      clear heq
      rintro e w4 ⟨rfl, hb4⟩
      go_wp2
      go_ret
      exact ⟨by rw [HE.out]; rfl, HB3.out.trans (hb4.mono HB3.out.size)⟩
  · have HE : Hid (sysK n l r = 1) := if_neg hk
    generalize rightK n l = k at *
    go_wp2
    go_ret
    exact ⟨by rw [HE.out]; rfl, HB2.out⟩
end Go.Proofs.Yteekhofollaooaa
