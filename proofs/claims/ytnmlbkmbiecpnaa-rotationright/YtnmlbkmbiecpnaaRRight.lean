/-
  The contracts of rotation.isOrder and Right, and of slices.EqualFunc with it.
-/
import Derived.Sort.OwnSortedInts
import Derived.Test.YtnmlbkmbiecpnaaShelfS
import Derived.Test.YtnmlbkmbiecpnaaRNear
import Derived.Test.YtnmlbkmbiecpnaaRMath
namespace Go.Proofs.Ytnmlbkmbiecpnaa
open Go Go.Proofs Go.RowKit

def sortL (L : List Int) : List Int := L.mergeSort fun x y => decide (x ≤ y)
theorem sortL_len (L : List Int) : (sortL L).length = L.length := by unfold sortL; simp
theorem sortL_perm (L : List Int) : (sortL L).Perm L := List.mergeSort_perm _ _
/-- A rising list that has the same numbers is the sorted one. -/
theorem sortL_iff {L K : List Int} (hK : K.Pairwise (· < ·)) : sortL L = K ↔ L.Perm K := by
  constructor
  · intro h
    rw [← h]
    exact (sortL_perm L).symm
  · intro h
    have h1 : (sortL L).Pairwise (fun x y => decide (x ≤ y) = true) := List.pairwise_mergeSort (fun a b c h1 h2 => by simp at *; omega) (fun a b => by simp; omega) L
    refine List.Perm.eq_of_pairwise (le := fun x y => decide (x ≤ y) = true) (fun a b _ _ h1 h2 => by simp at *; omega) h1 (hK.imp fun {a b} hab => by simp; omega) ((sortL_perm L).trans h)
theorem ints_cells {n : Nat} {w : World} {b off c : Nat} {L : List Int} (h : Ints n w (.slice (some ⟨b, off, none⟩) L.length c) L) : ∀ j, j < L.length → w.cell? ⟨b, off + j, none⟩ = some (.int .i64 (L.getD j 0)) := fun j hj => by
  obtain ⟨b', off', e, _, _, hc⟩ := h.open hj
  simp only [Option.some.injEq, Addr.mk.injEq, and_true] at e
  obtain ⟨rfl, rfl⟩ := e
  rw [hc w (Below.refl _ _) j hj, List.getD_eq_getElem?_getD, List.getElem?_eq_getElem hj]
  rfl

set_option maxRecDepth 100000 in
set_option maxHeartbeats 2000000 in
theorem isOrder_any (L K : List Int) (hK : K.length ≤ 4194304) (sl sk : Value) (w : World) (hl : Ints w.heap.size w sl L) (hk : Ints w.heap.size w sk K) :
    Calls Try.prog 36 #[sl, sk] w fun e w' => e = .returned (.bool (decide (sortL L = K))) ∧ Below w.heap.size w w' := by
  obtain ⟨p, c, rfl⟩ := hl.len
  obtain ⟨pk, ck, rfl⟩ := hk.len
  by_cases hlen : L.length = K.length
  · have hL : L.length ≤ 4194304 := by omega
    have hlen' : ((L.length : Int) != (K.length : Int)) = false := by rw [hlen]; simp
    by_cases hz : L.length = 0
    · have hL0 : L = [] := List.eq_nil_of_length_eq_zero hz
      have hK0 : K = [] := List.eq_nil_of_length_eq_zero (by omega)
      subst hL0
      subst hK0
      have hE : decide (sortL [] = []) = true := by simp [sortL]
      rw [hE]
      have hcl : Calls Try.prog 49 #[.slice p 0 c] w fun e w' => ∃ q k, e = .returned (.slice q 0 k) ∧ Below w.heap.size w w' := by
        cases p with
        | none => exact (Try.slices_Clone_int_nil 0 c w).mono fun e w' ⟨h1, h2⟩ => ⟨none, 0, h1, by rw [h2]; exact Below.refl _ _⟩
        | some a =>
          refine (Try.slices_Clone_int_zero a c w).mono ?_
          rintro e w' ⟨v', h1, h2, _, h3⟩
          obtain ⟨q, k, rfl⟩ := owns_formP h2
          exact ⟨q, k, h1, h3⟩
      clear hE hlen hz
      go_enter Try.func36, Try.ntmps36
      go_wp2_with fail
      refine hcl.mono ?_
      rintro e w2 ⟨q, k, rfl, hb2⟩
      go_wp2_with fail
      refine (Try.slices_Sort_int_none q k w2).mono ?_
      rintro e w3 ⟨rfl, rfl⟩
      go_wp2_with fail
      refine (Try.slices_Equal_int_empty q pk k 0 ck w3 (by omega)).mono ?_
      rintro e w4 ⟨rfl, rfl⟩
      go_wp2
      go_ret
      exact ⟨rfl, hb2⟩
    · obtain ⟨b, off, rfl, hbb, hcap, _⟩ := hl.open (show 0 < L.length by omega)
      obtain ⟨bk, offk, rfl, hbk, hcapk, _⟩ := hk.open (show 0 < K.length by omega)
      have hcl := Try.slices_Clone_int b off L.length c L w (Nat.le_refl _) (by omega) (ints_cells hl)
      rw [List.take_length] at hcl
      have HLEN : Hid _ := hlen
      have hpos : 0 < L.length := by omega
      clear hlen hz
      go_enter Try.func36, Try.ntmps36
      go_wp2_with fail
      refine hcl.mono ?_
      clear hcl
      rintro e w2 ⟨v2, rfl, hO2, hn2, hb2⟩
      rcases hO2.2 with ⟨h0, _⟩ | ⟨g2, cap2, cur2, rfl, hbase, hblk, h1, h2, h3, h4⟩
      · exact absurd h0 hn2
      have hgl := (Array.getElem?_eq_some_iff.1 hblk).1
      have hso := Try.slices_Sort_int g2 0 cap2 L w2 (holds_of_blockI hblk (by simpa using h4)) hgl (by omega)
      go_wp2_with fail
      refine hso.mono ?_
      clear hso
      rintro e w3 ⟨rfl, nn, os, hw3⟩
      have hO3 : w3.ownsRow w.heap.size 3 1 (.slice (some ⟨g2, 0, none⟩) L.length cap2) L.length ((sortL L).map (Value.int .i64)) := by
        rw [hw3]
        exact ownsRow_sortedI (ss := L) (ts := sortL L) (sortL_len L) hbase hblk h1 h2 h3
      have hg3 : w2.grownBy w3 (some g2) := by
        rw [hw3]
        exact grownBy_sortedI _
      have hb3 : Below w.heap.size w w3 := hb2.grown hg3 hb2.size (fun q e => by cases e; exact hbase)
      have hI3 : Ints w3.heap.size w3 (.slice (some ⟨g2, 0, none⟩) (sortL L).length cap2) (sortL L) := by
        refine owns_intsP (base := w.heap.size) ?_
        rw [sortL_len]
        exact hO3
      have hk3 := hk.go hb3
      have heq := Try.slices_Equal_int g2 0 L.length cap2 bk offk K.length ck (sortL L) K _ (by rw [sortL_len]; exact Nat.le_refl _) (Nat.le_refl _) (by omega) (by omega) (ints_cells hI3) (ints_cells hk3)
      have e1 : (sortL L).take L.length = sortL L := List.take_of_length_le (by rw [sortL_len]; exact Nat.le_refl _)
      rw [e1, List.take_length] at heq
      have hbe : (sortL L == K) = decide (sortL L = K) := by
        by_cases h : sortL L = K
        · rw [decide_eq_true h, beq_iff_eq]; exact h
        · rw [decide_eq_false h, beq_eq_false_iff_ne]; exact h
      rw [hbe] at heq
      clear e1 hbe hI3 hk3 hO3 hg3 hO2 hblk h1 h2 h3 h4 hw3
      have HB3 : Hid _ := hb3
      clear hb3
      obtain ⟨res, HRES⟩ : ∃ res, Hid (decide (sortL L = K) = res) := ⟨_, rfl⟩
      rw [HRES.out] at heq
      go_wp2_with fail
      refine heq.mono ?_
      rintro e w4 ⟨rfl, q, rfl⟩
      go_wp2
      go_ret
      exact ⟨by rw [HRES.out]; rfl, below_drewN HB3.out q⟩
  · have hlen' : ((L.length : Int) != (K.length : Int)) = true := by
      rw [bne_iff_ne]; omega
    have hE : decide (sortL L = K) = false := decide_eq_false fun e => hlen (by rw [← e, sortL_len])
    rw [hE]
    clear hE hlen
    go_enter Try.func36, Try.ntmps36
    go_wp2
    go_ret
    exact ⟨rfl, Below.refl _ _⟩
end Go.Proofs.Ytnmlbkmbiecpnaa
