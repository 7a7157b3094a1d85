/-
  The contracts of kuratowski.other, slices.Compare at numbers, kuratowski.isAsTold.
-/
import Derived.BigRegion
import Derived.BigQuiet
import Derived.Deep.QuietTactic
import Derived.Test.YtgjaikekpgdehaaXKMath
import Derived.Test.YtgjaikekpgdehaaXKAlone
namespace Go.Proofs.Ytgjaikekpgdehaa
open Go Go.Proofs Go.RowKit

/-- Which of two lists is the lesser. -/
def cmpL : List Int → List Int → Int
  | [], [] => 0
  | [], _ :: _ => -1
  | _ :: _, [] => 1
  | a :: A, b :: B => if cmpI a b = 0 then cmpL A B else cmpI a b
set_option maxRecDepth 100000 in
theorem compareL_any (A B : List Int) (hlen : B.length = A.length) (hA : A.length ≤ 4194304) (sa sb : Value) (m : Nat) (w : World) (ha : Ints m w sa A) (hb : Ints m w sb B) :
    Calls Try.prog 66 #[sa, sb] w fun r w' => r = .returned (.int .i64 (cmpL A B)) ∧ w' = w := by
  obtain ⟨p, c, rfl⟩ := ha.len
  obtain ⟨q, d, rfl⟩ := hb.len
  have HL : Hid _ := hlen
  generalize hBn : B.length = bl at *
  subst hlen
  clear HL
  have HBn : Hid _ := hBn
  clear hBn
  go_enter Try.func66, Try.ntmps66
  go_wp2
  go_loop [11] (fun i => ∃ j : Nat, j ≤ A.length ∧ i = .int .i64 j ∧ Hid (cmpL (A.drop j) (B.drop j) = cmpL A B)) (fun i => A.length - (intOf i).toNat)
  case atStart => exact ⟨0, Nat.zero_le _, rfl, rfl⟩
  case round =>
    obtain ⟨j, hj, rfl, hr⟩ := hrel
    by_cases hlt : j < A.length
    · have hltB : j < B.length := by rw [HBn.out]; exact hlt
      obtain ⟨b1, off1, rfl, hbb1, hcap1, hc1⟩ := ha.open hlt
      have hb' : Ints m w (.slice q B.length d) B := by rw [HBn.out]; exact hb
      obtain ⟨b2, off2, rfl, hbb2, hcap2, hc2⟩ := hb'.open hltB
      have c1 := hc1 w (Below.refl _ _) j hlt
      have c2 := hc2 w (Below.refl _ _) j hltB
      have hjl : (j : Int) < (A.length : Int) := by omega
      have hd : Hid (cmpL (A.drop j) (B.drop j) = if cmpI A[j] B[j] = 0 then cmpL (A.drop (j + 1)) (B.drop (j + 1)) else cmpI A[j] B[j]) := by
        unfold Hid
        rw [List.drop_eq_getElem_cons hlt, List.drop_eq_getElem_cons hltB, cmpL]
      have hcap2' : off2 + A.length ≤ off2 + d := by rw [HBn.out] at hcap2; omega
      generalize A[j] = x at *
      generalize B[j] = y at *
      clear hc1 hc2 hb' hltB hcap2
      have hcc := compare_any x y w
      generalize cmpI x y = k at *
      by_cases hk : k = 0
      · subst hk
        rw [if_pos rfl] at hd
        have HR : Hid (cmpL (A.drop (j + 1)) (B.drop (j + 1)) = cmpL A B) := by unfold Hid; rw [← hr.out, hd.out]
        clear hd hr
        go_wp2_with fail
        refine hcc.mono ?_
        rintro e w' ⟨rfl, hw⟩
        subst hw
        go_wp2
        exact ⟨⟨j + 1, by omega, by go_num, HR⟩, by simp [intOf]; omega⟩
      · have hkb : (k == 0) = false := by simpa using hk
        rw [if_neg hk] at hd
        have HE : Hid (cmpL A B = k) := by unfold Hid; rw [← hr.out, hd.out]
        clear hd hr hk
        go_wp2_with fail
        refine hcc.mono ?_
        rintro e w' ⟨rfl, hw⟩
        subst hw
        go_wp2
        go_ret
        exact ⟨by rw [HE.out]; rfl, rfl⟩
    · obtain rfl : j = A.length := by omega
      have HE : Hid (cmpL A B = 0) := by
        unfold Hid
        rw [← hr.out, List.drop_length, ← HBn.out, List.drop_length]; rfl
      clear hr
      go_wp2
      go_ret
      exact ⟨by rw [HE.out]; rfl, rfl⟩

set_option maxRecDepth 100000 in
theorem other_any (two : List Int) (h2 : two.length = 2) (it : Int) (sv : Value) (m : Nat) (w : World) (hl : Ints m w sv two) :
    Calls Try.prog 56 #[sv, .int .i64 it] w fun r w' => r = .returned (.int .i64 (othr two it)) ∧ w' = w := by
  obtain ⟨a, b, rfl⟩ := two_of h2
  obtain ⟨p, c, rfl⟩ := hl.len
  obtain ⟨bl, off, rfl, hbb, hcap, hc⟩ := hl.open (j := 0) (by simp)
  have c0 := hc w (Below.refl _ _) 0 (by simp)
  have c1 := hc w (Below.refl _ _) 1 (by simp)
  have HO : Hid (othr [a, b] it = if a = it then b else a) := rfl
  simp only [List.getElem_cons_zero, List.getElem_cons_succ, Nat.add_zero] at c0 c1
  simp only [List.length_cons, List.length_nil] at hcap ⊢
  by_cases he : a = it
  · have he' : (a == it) = true := by simpa using he
    rw [if_pos he] at HO
    clear hc he
    go_enter Try.func56, Try.ntmps56
    go_wp2
    go_ret
    exact ⟨by rw [HO.out]; rfl, rfl⟩
  · have he' : (a == it) = false := by simpa using he
    rw [if_neg he] at HO
    clear hc he
    go_enter Try.func56, Try.ntmps56
    go_wp2
    go_ret
    exact ⟨by rw [HO.out]; rfl, rfl⟩
theorem two_ints {m b : Nat} {w : World} {x y : Int} (hb : b < m) (h0 : w.cell? ⟨b, 0, none⟩ = some (.int .i64 x)) (h1 : w.cell? ⟨b, 1, none⟩ = some (.int .i64 y)) : Ints m w (.slice (some ⟨b, 0, none⟩) 2 2) [x, y] := by
  refine .inr ⟨b, 0, 2, rfl, hb, Nat.le_refl _, fun j z hz => ?_⟩
  match j with
  | 0 => simp at hz; subst hz; exact h0
  | 1 => simp at hz; subst hz; exact h1
  | j + 2 => simp at hz
theorem Vals.drewK {α : Type} {enc : α → Value} {n : Nat} {W : World} {sv : Value} {l : List α} (h : Vals enc n W sv l) (q : Nat) : Vals enc n (W.drewN q) sv l := h.below (below_drewN (Below.refl _ _) q)
/-- A way goes as it is told. -/
def toldB (L : List Int) : Bool := decide (cmpL [L.getD 0 0, L.getD 1 0] [L.getD (L.length - 1) 0, L.getD (L.length - 2) 0] < 0)
set_option maxRecDepth 100000 in
set_option maxHeartbeats 4000000 in
theorem isAsTold_any (L : List Int) (h2 : 2 ≤ L.length) (hL : L.length ≤ 4194304) (sv : Value) (w : World) (hl : Ints w.heap.size w sv L) :
    Calls Try.prog 57 #[sv] w fun r w' => r = .returned (.bool (toldB L)) ∧ Below w.heap.size w w' := by
  obtain ⟨p, c, rfl⟩ := hl.len
  obtain ⟨bl, off, rfl, hbb, hcap, hc⟩ := hl.open (j := 0) (by omega)
  obtain ⟨n, hn⟩ : ∃ n, L.length = n + 2 := ⟨L.length - 2, by omega⟩
  have c0 := hc w (Below.refl _ _) 0 (by omega)
  have c1 := hc w (Below.refl _ _) 1 (by omega)
  have c2 := hc w (Below.refl _ _) (n + 1) (by omega)
  have c3 := hc w (Below.refl _ _) n (by omega)
  have HT : Hid (toldB L = decide (cmpL [L[0], L[1]] [L[n + 1], L[n]] < 0)) := by
    unfold Hid toldB
    rw [show L.length - 1 = n + 1 by omega, show L.length - 2 = n by omega]
    simp only [List.getD_eq_getElem?_getD, List.getElem?_eq_getElem (show 0 < L.length by omega), List.getElem?_eq_getElem (show 1 < L.length by omega), List.getElem?_eq_getElem (show n + 1 < L.length by omega), List.getElem?_eq_getElem (show n < L.length by omega), Option.getD_some]
  generalize L[0] = a0 at *
  generalize L[1] = a1 at *
  generalize L[n + 1] = b0 at *
  generalize L[n] = b1 at *
  rw [hn] at hcap hl ⊢
  simp only [Nat.add_zero] at c0
  have hnI : (n : Int) + 2 - 1 = (n : Int) + 1 := by omega
  have hnl : (n : Int) + 1 < (n : Int) + 2 := by omega
  have hmix := mixed
  have hnb : n ≤ 4194304 := by omega
  clear hc h2 hl hn hL
  go_enter Try.func57, Try.ntmps57
  go_wp2
  go_big_region_o
  · have hb5 : Below w.heap.size w ((w.alloc (.cells #[.int .i64 a0, .int .i64 a1] 83)).alloc (.cells #[.int .i64 b0, .int .i64 b1] 83)).drew := below_drewN (((Grew.refl w).alloc _).alloc _).below 1
    have hI1 : Ints (w.heap.size + 2) ((w.alloc (.cells #[.int .i64 a0, .int .i64 a1] 83)).alloc (.cells #[.int .i64 b0, .int .i64 b1] 83)).drew (.slice (some ⟨w.heap.size, 0, none⟩) 2 2) [a0, a1] := two_ints (by omega) (by go_simp) (by go_simp)
    have hI2 : Ints (w.heap.size + 2) ((w.alloc (.cells #[.int .i64 a0, .int .i64 a1] 83)).alloc (.cells #[.int .i64 b0, .int .i64 b1] 83)).drew (.slice (some ⟨w.heap.size + 1, 0, none⟩) 2 2) [b0, b1] := two_ints (by omega) (by go_simp) (by go_simp)
    generalize ((w.alloc (.cells #[.int .i64 a0, .int .i64 a1] 83)).alloc (.cells #[.int .i64 b0, .int .i64 b1] 83)).drew = w5 at hb5 hI1 hI2 ⊢
    have hht : ∀ q, Calls Try.prog 66 #[.slice (some ⟨w.heap.size, 0, none⟩) 2 2, .slice (some ⟨w.heap.size + 1, 0, none⟩) 2 2] (w5.drewN q) fun r w' => r = .returned (.int .i64 (cmpL [a0, a1] [b0, b1])) ∧ w' = w5.drewN q := fun q => compareL_any [a0, a1] [b0, b1] rfl (by simp) _ _ (w.heap.size + 2) _ (hI1.drewK q) (hI2.drewK q)
    generalize cmpL [a0, a1] [b0, b1] = k at *
    clear hI1 hI2 c0 c1 c2 c3
    go_wp2
    go_quiet ((go_at_call 66; exact Calls.quiet_of_same (hht _)))
    go_wp2
    go_ret
    exact ⟨by rw [HT.out]; rfl, below_drewN hb5 _⟩
  · have hb5 : Below w.heap.size w ((w.alloc (.cells #[.int .i64 b0, .int .i64 b1] 83)).alloc (.cells #[.int .i64 a0, .int .i64 a1] 83)).drew := below_drewN (((Grew.refl w).alloc _).alloc _).below 1
    have hI1 : Ints (w.heap.size + 2) ((w.alloc (.cells #[.int .i64 b0, .int .i64 b1] 83)).alloc (.cells #[.int .i64 a0, .int .i64 a1] 83)).drew (.slice (some ⟨w.heap.size + 1, 0, none⟩) 2 2) [a0, a1] := two_ints (by omega) (by go_simp) (by go_simp)
    have hI2 : Ints (w.heap.size + 2) ((w.alloc (.cells #[.int .i64 b0, .int .i64 b1] 83)).alloc (.cells #[.int .i64 a0, .int .i64 a1] 83)).drew (.slice (some ⟨w.heap.size, 0, none⟩) 2 2) [b0, b1] := two_ints (by omega) (by go_simp) (by go_simp)
    generalize ((w.alloc (.cells #[.int .i64 b0, .int .i64 b1] 83)).alloc (.cells #[.int .i64 a0, .int .i64 a1] 83)).drew = w5 at hb5 hI1 hI2 ⊢
    have hht : ∀ q, Calls Try.prog 66 #[.slice (some ⟨w.heap.size + 1, 0, none⟩) 2 2, .slice (some ⟨w.heap.size, 0, none⟩) 2 2] (w5.drewN q) fun r w' => r = .returned (.int .i64 (cmpL [a0, a1] [b0, b1])) ∧ w' = w5.drewN q := fun q => compareL_any [a0, a1] [b0, b1] rfl (by simp) _ _ (w.heap.size + 2) _ (hI1.drewK q) (hI2.drewK q)
    generalize cmpL [a0, a1] [b0, b1] = k at *
    clear hI1 hI2 c0 c1 c2 c3
    go_wp2
    go_quiet ((go_at_call 66; exact Calls.quiet_of_same (hht _)))
    go_wp2
    go_ret
    exact ⟨by rw [HT.out]; rfl, below_drewN hb5 _⟩
end Go.Proofs.Ytgjaikekpgdehaa
