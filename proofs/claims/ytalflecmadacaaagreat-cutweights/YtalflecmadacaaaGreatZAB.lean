import Derived.Test.YtalflecmadacaaaGreatZAA
import Derived.Deep.Slices
import Derived.Lib.SmallJoins
import Derived.SizedLaws
import Derived.MakeChecks
import Derived.ProofKit
import Derived.OpenShut
import Derived.ChangeOld
import Derived.ChangeMaps5
import Derived.Test.YtalflecmadacaaaGreatRows
set_option maxRecDepth 100000
set_option maxHeartbeats 8000000
namespace Go.Proofs.YtalflecmadacaaaGreat
open Go Go.Proofs Go.RowKit
theorem Edges.at {n : Nat} {W : World} {p : Option Addr} {c : Nat} {l : List Ed} (h : Edges n W (.slice p l.length c) l) {j : Nat} (hj : j < l.length) :
  ∃ b off, p = some ⟨b, off, none⟩ ∧ b < n ∧ l.length ≤ c ∧ ∀ i x, l[i]? = some x → W.cell? ⟨b, off + i * 3, none⟩ = some (.int .i64 x.1) ∧ W.cell? ⟨b, off + i * 3 + 1, none⟩ = some (.int .i64 x.2.1) ∧ W.cell? ⟨b, off + i * 3 + 2, none⟩ = some (.int .i64 x.2.2) := by
 rcases h with ⟨⟨p, c, h1⟩, rfl⟩ | ⟨b, off, cap, h1, h2, h3, h4⟩
 ·simp at hj
 ·simp only [Value.slice.injEq] at h1
  obtain ⟨rfl, _, rfl⟩ := h1
  exact ⟨b, off, rfl, h2, h3, h4⟩
theorem Edges.open {w : World} {p : Option Addr} {c : Nat} {l : List Ed} (h : Edges w.heap.size w (.slice p l.length c) l) {j : Nat} (hj : j < l.length) :
  ∃ b off, p = some ⟨b, off, none⟩ ∧ b < w.heap.size ∧ l.length ≤ c ∧
   (∀ W', Below w.heap.size w W' → ∀ i (hi : i < l.length), W'.cell? ⟨b, off + i * 3, none⟩ = some (.int .i64 l[i].1) ∧ W'.cell? ⟨b, off + i * 3 + 1, none⟩ = some (.int .i64 l[i].2.1) ∧ W'.cell? ⟨b, off + i * 3 + 2, none⟩ = some (.int .i64 l[i].2.2)) ∧
   (∀ W', Below w.heap.size w W' → ∀ i (hi : i < l.length), (∀ n os, (Go.Sort.grow (W'.drewN n) os).cell? ⟨b, off + i * 3, none⟩ = some (.int .i64 l[i].1)) ∧ (∀ n os, (Go.Sort.grow (W'.drewN n) os).cell? ⟨b, off + i * 3 + 1, none⟩ = some (.int .i64 l[i].2.1)) ∧ (∀ n os, (Go.Sort.grow (W'.drewN n) os).cell? ⟨b, off + i * 3 + 2, none⟩ = some (.int .i64 l[i].2.2))) := by
 obtain ⟨b, off, rfl, hb, hc, h4⟩ := h.at hj
 have hp : ∀ W', Below w.heap.size w W' → ∀ i (hi : i < l.length), W'.cell? ⟨b, off + i * 3, none⟩ = some (.int .i64 l[i].1) ∧ W'.cell? ⟨b, off + i * 3 + 1, none⟩ = some (.int .i64 l[i].2.1) ∧ W'.cell? ⟨b, off + i * 3 + 2, none⟩ = some (.int .i64 l[i].2.2) := by
  intro W' hW i hi
  obtain ⟨c0, c1, c2⟩ := h4 i l[i] (List.getElem?_eq_getElem hi)
  exact ⟨(hW.cell (p := ⟨b, _, none⟩) hb).trans c0, (hW.cell (p := ⟨b, _, none⟩) hb).trans c1, (hW.cell (p := ⟨b, _, none⟩) hb).trans c2⟩
 refine ⟨b, off, rfl, hb, hc, hp, ?_⟩
 intro W' hW i hi
 obtain ⟨c0, c1, c2⟩ := hp W' hW i hi
 have hbW : b < W'.heap.size := Nat.lt_of_lt_of_le hb hW.size
 exact ⟨cell_grown (a := ⟨b, _, none⟩) hbW c0, cell_grown (a := ⟨b, _, none⟩) hbW c1, cell_grown (a := ⟨b, _, none⟩) hbW c2⟩
theorem box2 {w : World} {x y : Value} {t : TypeId} : ∀ W', Grew (w.alloc (.cells #[x, y] t)) W' → W'.cell? ⟨w.heap.size, 0, none⟩ = some x ∧ W'.cell? ⟨w.heap.size, 1, none⟩ = some y := fun W' h =>
 ⟨(h.below.cell (p := ⟨w.heap.size, 0, none⟩) (by simp)).trans (by simp), (h.below.cell (p := ⟨w.heap.size, 1, none⟩) (by simp)).trans (by simp)⟩
theorem box2g {w : World} {x y : Value} {t : TypeId} : ∀ W', Grew (w.alloc (.cells #[x, y] t)) W' → (∀ n os, (Go.Sort.grow (W'.drewN n) os).cell? ⟨w.heap.size, 0, none⟩ = some x) ∧ ∀ n os, (Go.Sort.grow (W'.drewN n) os).cell? ⟨w.heap.size, 1, none⟩ = some y := fun W' h =>
 have hlt : w.heap.size < W'.heap.size := by have := h.below.size; simp only [World.size_alloc] at this; omega
 ⟨cell_grown (a := ⟨w.heap.size, 0, none⟩) hlt (box2 W' h).1, cell_grown (a := ⟨w.heap.size, 1, none⟩) hlt (box2 W' h).2⟩
theorem box2_lt {w : World} {x y : Value} {t : TypeId} {W' : World} (h : Grew (w.alloc (.cells #[x, y] t)) W') : w.heap.size < W'.heap.size := by have := h.below.size; simp only [World.size_alloc] at this; omega
theorem wrap_i (x : Int) (h0 : -9223372036854775808 ≤ x) (h1 : x ≤ 9223372036854775807) : IntKind.i64.wrap x = x := by
 simp [IntKind.wrap, IntKind.bits, IntKind.signed]; omega
theorem mixed : Tryz.prog.follows .mixedOrders = true := by kernel_rfl
theorem right_any (n : Int) (l : List Ed) (sv : Value) (w : World) (hl : Edges w.heap.size w sv l) :
  Calls Tryz.prog 26 #[.agg #[.int .i64 n, sv]] w fun r w' => r = .returned (.int .i64 (rightK n l)) ∧ Grew w w' := by
 obtain ⟨p, c, rfl⟩ := hl.len
 by_cases hm : manyK n l.length = 0
 ·have hR : Hid (rightK n l = listK n none l) := if_pos hm
  obtain ⟨hn0, hn1, hlen⟩ := many_ok hm
  have hS := fun W => sized_any n l.length W
  rw [hm] at hS
  have hg1 : Grew w (w.alloc (.cells #[.int .i64 n, .slice p l.length c] 24)) := (Grew.refl w).alloc _
  go_enter Tryz.func26, Tryz.ntmps26
  go_wp2_with fail
  refine (hS _).mono ?_
  rintro e w1 ⟨rfl, rfl⟩
  clear hS hm
  go_wp2
  go_loopw [20] (fun i wr => ∃ j : Nat, j ≤ l.length ∧ i = .int .i64 j ∧ Hid (listK n (prevA l j) (l.drop j) = listK n none l) ∧ Grew (w.alloc (.cells #[.int .i64 n, .slice p l.length c] 24)) wr) (fun i _ => l.length - (intOf i).toNat)
  case atStart => exact ⟨0, Nat.zero_le _, rfl, rfl, Grew.refl _⟩
  case round =>
   obtain ⟨j, hj, rfl, hr, hg⟩ := hrel
   by_cases hlt : j < l.length
   ·obtain ⟨b, off, rfl, hbb, hcap, hc⟩ := hl.at hlt
    have hb0 := (hg1.trans hg).below
    have q0 := (hg.below.cell (p := ⟨w.heap.size, 0, none⟩) (by simp)).trans (by simp : _ = some (Value.int .i64 n))
    have q1 := (hg.below.cell (p := ⟨w.heap.size, 1, none⟩) (by simp)).trans (by simp : _ = some (Value.slice (some ⟨b, off, none⟩) l.length c))
    obtain ⟨c0, c1, c2⟩ := hc j l[j] (List.getElem?_eq_getElem hlt)
    replace c0 := (hb0.cell (p := ⟨b, off + j * 3, none⟩) hbb).trans c0
    replace c1 := (hb0.cell (p := ⟨b, off + j * 3 + 1, none⟩) hbb).trans c1
    replace c2 := (hb0.cell (p := ⟨b, off + j * 3 + 2, none⟩) hbb).trans c2
    have hjl : (j : Int) < (l.length : Int) := by omega
    have hst := hr
    unfold Hid at hst
    rw [listK_step hlt] at hst
    have HC : Hid _ := hc
    have HST : Hid _ := hst
    clear hc hst
    have hsz : w.heap.size < wr.heap.size := by have := hg.below.size; simp at this; omega
    have hbr : b < wr.heap.size := by omega
    go_wp2_with fail
    refine (fits_any n l[j] _).mono ?_
    rintro e w7 ⟨rfl, hg7⟩
    have hb7 := hg7.below
    simp only [World.size_alloc] at hb7
    have e0 : w7.cell? ⟨wr.heap.size, 0, none⟩ = some (.int .i64 l[j].1) := (hb7.cell (p := ⟨wr.heap.size, 0, none⟩) (by simp)).trans (by simp)
    have e1 : w7.cell? ⟨wr.heap.size, 1, none⟩ = some (.int .i64 l[j].2.1) := (hb7.cell (p := ⟨wr.heap.size, 1, none⟩) (by simp)).trans (by simp)
    have e2 : w7.cell? ⟨wr.heap.size, 2, none⟩ = some (.int .i64 l[j].2.2) := (hb7.cell (p := ⟨wr.heap.size, 2, none⟩) (by simp)).trans (by simp)
    have q1' : w7.cell? ⟨w.heap.size, 1, none⟩ = some (Value.slice (some ⟨b, off, none⟩) l.length c) := (hb7.cell (p := ⟨w.heap.size, 1, none⟩) (by show w.heap.size < _; omega)).trans ((World.cell?_alloc_past _ _ _ hsz).trans q1)
    have hg8 : Grew w w7 := (hg1.trans hg).trans (((Grew.refl wr).alloc _).trans hg7)
    have hg9 : Grew (w.alloc (.cells #[.int .i64 n, .slice (some ⟨b, off, none⟩) l.length c] 24)) w7 := hg.trans (((Grew.refl wr).alloc _).trans hg7)
    have hz7 : wr.heap.size < w7.heap.size := by have := hb7.size; simp only [World.size_alloc] at this; omega
    clear q0 q1 c0 c1 c2 hb0 hg hg7 hb7 hg1
    by_cases hk : edgeK n l[j] = 0
    ·rw [hk]
     by_cases huv : l[j].2.1 < l[j].1
     ·have HE : Hid (rightK n l = 1) := by
       have h1 : oneK n (prevA l j) l[j] = 1 := by unfold oneK; rw [if_pos hk, if_pos huv]
       have h2 := HST.out
       rw [h1] at h2
       unfold Hid; rw [hR.out, ← h2]; rfl
      clear hr HST HC hk
      go_wp2
      go_ret
      exact ⟨by rw [HE.out]; rfl, hg8⟩
     ·have h1 : oneK n (prevA l j) l[j] = riseO (prevA l j) l[j] := by unfold oneK; rw [if_pos hk, if_neg huv]
      cases j with
      | zero =>
       have HS : Hid (listK n (prevA l 1) (l.drop 1) = listK n none l) := by
        have h2 := HST.out
        rw [h1, show riseO (prevA l 0) l[0] = 0 from rfl, if_pos rfl] at h2
        exact h2
       clear hr HST HC hk h1
       go_wp2
       exact ⟨⟨1, by omega, by go_num, HS, hg9⟩, by simp [intOf]; omega⟩
      | succ i =>
       have hil : i < l.length := by omega
       have h2 : riseO (prevA l (i + 1)) l[i + 1] = riseK l[i] l[i + 1] := by rw [show prevA l (i + 1) = some l[i] from List.getElem?_eq_getElem hil]; rfl
       rw [h2] at h1
       obtain ⟨c0, c1, c2⟩ := HC.out i l[i] (List.getElem?_eq_getElem hil)
       replace c0 := cell_grown (a := ⟨b, off + i * 3, none⟩) (by show b < _; omega) ((hg8.below.cell (p := ⟨b, off + i * 3, none⟩) hbb).trans c0)
       replace c1 := cell_grown (a := ⟨b, off + i * 3 + 1, none⟩) (by show b < _; omega) ((hg8.below.cell (p := ⟨b, off + i * 3 + 1, none⟩) hbb).trans c1)
       replace c2 := cell_grown (a := ⟨b, off + i * 3 + 2, none⟩) (by show b < _; omega) ((hg8.below.cell (p := ⟨b, off + i * 3 + 2, none⟩) hbb).trans c2)
       replace q1' := cell_grown (a := ⟨w.heap.size, 1, none⟩) (by show w.heap.size < _; omega) q1'
       have e0' := cell_grown (a := ⟨wr.heap.size, 0, none⟩) hz7 e0
       have e1' := cell_grown (a := ⟨wr.heap.size, 1, none⟩) hz7 e1
       have e2' := cell_grown (a := ⟨wr.heap.size, 2, none⟩) hz7 e2
       have hii : (i : Int) < (l.length : Int) := by omega
       have HK : Hid _ := h1
       have HG8 : Hid _ := hg8
       clear hr HC hk h1 h2 hg8
       go_wp2
       have hmix := mixed
       have hwi := wrap_i i (by omega) (by omega)
       go_quiet_grown (first | (go_at_call 52; refine Calls.grown_of (rises_any l[i] l[i + 1] _)))
       by_cases hz : riseK l[i] l[i + 1] = 0
       ·have HS : Hid (listK n (prevA l (i + 1 + 1)) (l.drop (i + 1 + 1)) = listK n none l) := by
         have h2 := HST.out
         rw [HK.out, hz, if_pos rfl] at h2
         exact h2
        have hgf := hg9.trans ⟨nq, osq, rfl⟩
        rw [hz]
        clear HST HK HG8 hz e0 e1 e2 c0 c1 c2 e0' e1' e2' q1'
        go_wp2
        exact ⟨⟨i + 1 + 1, by omega, by go_num, HS, hgf⟩, by simp [intOf]; omega⟩
       ·have HE : Hid (rightK n l = riseK l[i] l[i + 1]) := by
         have h2 := HST.out
         rw [HK.out, if_neg hz] at h2
         unfold Hid; rw [hR.out, ← h2]
        have hgf : Grew w _ := (show Grew w w7 from HG8.out).trans ⟨nq, osq, rfl⟩
        generalize riseK l[i] l[i + 1] = k at HE hz
        have hz' : (k == 0) = false := by simpa using hz
        clear HST HK HG8 hz e0 e1 e2 c0 c1 c2 e0' e1' e2' q1'
        go_wp2
        go_ret
        exact ⟨by rw [HE.out]; rfl, hgf⟩
    ·have HE : Hid (rightK n l = edgeK n l[j]) := by
      have h1 : oneK n (prevA l j) l[j] = edgeK n l[j] := by unfold oneK; rw [if_neg hk]
      have h2 := HST.out
      rw [h1, if_neg hk] at h2
      unfold Hid; rw [hR.out, ← h2]
     generalize edgeK n l[j] = k at HE hk
     have hk' : (k == 0) = false := by simpa using hk
     clear hr HST HC hk
     go_wp2
     go_ret
     exact ⟨by rw [HE.out]; rfl, hg8⟩
   ·obtain rfl : j = l.length := by omega
    have HE : Hid (rightK n l = 0) := by
     unfold Hid; rw [hR.out, ← hr.out, listK_end]
    clear hr
    go_wp2
    go_ret
    exact ⟨by rw [HE.out]; rfl, hg1.trans hg⟩
 ·have HE : Hid (rightK n l = manyK n l.length) := if_neg hm
  have hS := fun W => sized_any n l.length W
  generalize manyK n l.length = k at hS HE hm
  have hk : (k == 0) = false := by simpa using hm
  clear hm
  go_enter Tryz.func26, Tryz.ntmps26
  go_wp2_with fail
  refine (hS _).mono ?_
  rintro e w1 ⟨rfl, rfl⟩
  clear hS
  go_wp2
  go_ret
  exact ⟨by rw [HE.out]; rfl, (Grew.refl w).alloc _⟩
theorem refRight_any (n : Int) (l : List Ed) (sv : Value) (w : World) (hl : Edges w.heap.size w sv l) :
  Calls Tryz.prog 17 #[.agg #[.int .i64 n, sv]] w fun r w' => r = .returned (.int .i64 (rightK n l)) ∧ Grew w w' := by
 obtain ⟨p, c, rfl⟩ := hl.len
 have hmix := mixed
 by_cases hm : manyK n l.length = 0
 ·have hR : Hid (rightK n l = listK n none l) := if_pos hm
  obtain ⟨hn0, hn1, hlen⟩ := many_ok hm
  have hS := fun W => refMany_any n l.length W
  rw [hm] at hS
  have hg1 : Grew w (w.alloc (.cells #[.int .i64 n, .slice p l.length c] 24)) := (Grew.refl w).alloc _
  go_enter Tryz.func17, Tryz.ntmps17
  go_wp2_with fail
  refine (hS _).mono ?_
  rintro e w1 ⟨rfl, rfl⟩
  clear hS hm
  go_wp2
  go_loopw [4] (fun i wr => ∃ j : Nat, j ≤ l.length ∧ i = .int .i64 j ∧ Hid (listK n (prevA l j) (l.drop j) = listK n none l) ∧ Grew (w.alloc (.cells #[.int .i64 n, .slice p l.length c] 24)) wr) (fun i _ => l.length - (intOf i).toNat)
  case atStart => exact ⟨0, Nat.zero_le _, rfl, rfl, Grew.refl _⟩
  case round =>
   obtain ⟨j, hj, rfl, hr, hg⟩ := hrel
   have q0 := (box2 _ hg).1
   have q1 := (box2 _ hg).2
   by_cases hlt : j < l.length
   ·obtain ⟨b, off, rfl, hbb, hcap, hc, hcg⟩ := hl.open hlt
    have hst := hr
    unfold Hid at hst
    rw [listK_step hlt] at hst
    have HST : Hid _ := hst
    have HC : Hid _ := hc
    have HCG : Hid _ := hcg
    clear hc hcg hst
    have hjl : (j : Int) < (l.length : Int) := by omega
    have q0g := (box2g _ hg).1
    have q1g := (box2g _ hg).2
    obtain ⟨c0, c1, c2⟩ := HCG.out wr (hg1.trans hg).below j hlt
    go_wp2
    go_quiet_grown (first | (go_at_call 38; refine Calls.grown_of (refEdge_any n l[j] _)))
    have hg2 := hg.trans ⟨nq, osq, rfl⟩
    generalize Go.Sort.grow (wr.drewN nq) osq = w2 at hg2 ⊢
    clear q0 q1 q0g q1g c0 c1 c2 hg nq osq
    by_cases hk : edgeK n l[j] = 0
    ·rw [hk]
     have q1 := (box2 _ hg2).2
     obtain ⟨c0, c1, c2⟩ := HC.out w2 (hg1.trans hg2).below j hlt
     go_wp2
     go_quiet (fail)
     have hg3 := hg2.drewN nq
     generalize w2.drewN nq = w3 at hg3 ⊢
     clear q1 c0 c1 c2 hg2
     by_cases huv : l[j].2.1 < l[j].1
     ·have HE : Hid (rightK n l = 1) := by
       have h1 : oneK n (prevA l j) l[j] = 1 := by unfold oneK; rw [if_pos hk, if_pos huv]
       have h2 := HST.out
       rw [h1] at h2
       unfold Hid; rw [hR.out, ← h2]; rfl
      clear hr HST HC HCG hk
      go_wp2
      go_ret
      exact ⟨by rw [HE.out]; rfl, hg1.trans hg3⟩
     ·have h1 : oneK n (prevA l j) l[j] = riseO (prevA l j) l[j] := by unfold oneK; rw [if_pos hk, if_neg huv]
      by_cases hj0 : j = 0
      ·have HS : Hid (listK n (prevA l (j + 1)) (l.drop (j + 1)) = listK n none l) := by
        have h2 := HST.out
        rw [h1] at h2
        subst hj0
        rw [show riseO (prevA l 0) l[0] = 0 from rfl, if_pos rfl] at h2
        exact h2
       have hneg : decide (0 < j) = false := by simp; omega
       clear hr HST HC HCG hk h1 hj0
       go_wp2
       go_big_region_o
       have hg4 := hg3.drewN 1
       go_wp2
       exact ⟨⟨j + 1, by omega, by go_num, HS, hg4⟩, by simp [intOf]; omega⟩
      ·obtain ⟨i, rfl⟩ : ∃ i, j = i + 1 := ⟨j - 1, by omega⟩
       have hil : i < l.length := by omega
       have h2 : riseO (prevA l (i + 1)) l[i + 1] = riseK l[i] l[i + 1] := by rw [show prevA l (i + 1) = some l[i] from List.getElem?_eq_getElem hil]; rfl
       rw [h2] at h1
       have HK : Hid _ := h1
       clear h1 h2 hk
       have hwi := wrap_i i (by omega) (by omega)
       have hii : (i : Int) < (l.length : Int) := by omega
       have q1g := (box2g _ hg3).2
       obtain ⟨c0, c1, c2⟩ := HCG.out w3 (hg1.trans hg3).below (i + 1) hlt
       obtain ⟨d0, d1, d2⟩ := HCG.out w3 (hg1.trans hg3).below i hil
       have hjl' : (i : Int) + 1 < (l.length : Int) := by omega
       have hjl'' : (0 : Int) ≤ (i : Int) + 1 := by omega
       have hpos : decide ((0 : Int) < ((i + 1 : Nat) : Int)) = true := by simp
       go_wp2
       go_quiet_grown (first | (go_at_call 39; refine Calls.grown_of (refBelow_any l[i] l[i + 1] _)))
       have hg4 := hg3.trans ⟨nq, osq, rfl⟩
       generalize Go.Sort.grow (w3.drewN nq) osq = w4 at hg4 ⊢
       clear q1g c0 c1 c2 d0 d1 d2 hg3 nq osq
       cases hlo : lo l[i] l[i + 1] with
       | true =>
        have HS : Hid (listK n (prevA l (i + 1 + 1)) (l.drop (i + 1 + 1)) = listK n none l) := by
         have h2 := HST.out
         rw [HK.out, show riseK l[i] l[i + 1] = 0 by unfold riseK; rw [if_pos hlo], if_pos rfl] at h2
         exact h2
        clear hr HST HC HCG HK hlo
        go_wp2
        exact ⟨⟨i + 1 + 1, by omega, by go_num, HS, hg4⟩, by simp [intOf]; omega⟩
       | false =>
        have q1g := (box2g _ hg4).2
        obtain ⟨c0, c1, c2⟩ := HCG.out w4 (hg1.trans hg4).below (i + 1) hlt
        obtain ⟨d0, d1, d2⟩ := HCG.out w4 (hg1.trans hg4).below i hil
        have HL : Hid _ := hlo
        clear hlo
        go_wp2
        go_quiet_grown (first | (go_at_call 39; refine Calls.grown_of (refBelow_any l[i + 1] l[i] _)))
        have hg5 := hg4.trans ⟨nq, osq, rfl⟩
        generalize Go.Sort.grow (w4.drewN nq) osq = w5 at hg5 ⊢
        clear q1g c0 c1 c2 d0 d1 d2 hg4 nq osq
        cases hlo2 : lo l[i + 1] l[i] with
        | true =>
         have HE : Hid (rightK n l = 1) := by
          have h3 : riseK l[i] l[i + 1] = 1 := by unfold riseK; rw [HL.out, hlo2]; rfl
          have h2 := HST.out
          rw [HK.out, h3] at h2
          unfold Hid; rw [hR.out, ← h2]; rfl
         clear hr HST HC HCG HK hlo2 HL
         go_wp2
         go_ret
         exact ⟨by rw [HE.out]; rfl, hg1.trans hg5⟩
        | false =>
         have HE : Hid (rightK n l = 7) := by
          have h3 : riseK l[i] l[i + 1] = 7 := by unfold riseK; rw [HL.out, hlo2]; rfl
          have h2 := HST.out
          rw [HK.out, h3] at h2
          unfold Hid; rw [hR.out, ← h2]; rfl
         clear hr HST HC HCG HK hlo2 HL
         go_wp2
         go_ret
         exact ⟨by rw [HE.out]; rfl, hg1.trans hg5⟩
    ·have HE : Hid (rightK n l = edgeK n l[j]) := by
      have h1 : oneK n (prevA l j) l[j] = edgeK n l[j] := by unfold oneK; rw [if_neg hk]
      have h2 := HST.out
      rw [h1, if_neg hk] at h2
      unfold Hid; rw [hR.out, ← h2]
     generalize edgeK n l[j] = k at HE hk
     have hk' : (k == 0) = false := by simpa using hk
     clear hr HST HC HCG hk
     go_wp2
     go_ret
     exact ⟨by rw [HE.out]; rfl, hg1.trans hg2⟩
   ·obtain rfl : j = l.length := by omega
    have HE : Hid (rightK n l = 0) := by
     unfold Hid; rw [hR.out, ← hr.out, listK_end]
    clear hr
    go_wp2
    go_ret
    exact ⟨by rw [HE.out]; rfl, hg1.trans hg⟩
 ·have HE : Hid (rightK n l = manyK n l.length) := if_neg hm
  have hS := fun W => refMany_any n l.length W
  generalize manyK n l.length = k at hS HE hm
  have hk : (k == 0) = false := by simpa using hm
  clear hm
  go_enter Tryz.func17, Tryz.ntmps17
  go_wp2_with fail
  refine (hS _).mono ?_
  rintro e w1 ⟨rfl, rfl⟩
  clear hS
  go_wp2
  go_ret
  exact ⟨by rw [HE.out]; rfl, (Grew.refl w).alloc _⟩
def Vals {α : Type} (enc : α → Value) (n : Nat) (W : World) (sv : Value) (l : List α) : Prop :=
 ((∃ p c, sv = .slice p 0 c) ∧ l = []) ∨ ∃ b off cap, sv = .slice (some ⟨b, off, none⟩) l.length cap ∧ b < n ∧ l.length ≤ cap ∧ ∀ j x, l[j]? = some x → W.cell? ⟨b, off + j, none⟩ = some (enc x)
abbrev Ints (n : Nat) (W : World) (sv : Value) (l : List Int) : Prop := Vals (Value.int .i64) n W sv l
abbrev Bools (n : Nat) (W : World) (sv : Value) (l : List Bool) : Prop := Vals Value.bool n W sv l
section
variable {α : Type} {enc : α → Value}
theorem Vals.below {n : Nat} {W W' : World} {sv : Value} {l : List α} (h : Vals enc n W sv l) (hb : Below n W W') : Vals enc n W' sv l := by
 rcases h with h | ⟨b, off, cap, h1, h2, h3, h4⟩
 ·exact .inl h
 ·exact .inr ⟨b, off, cap, h1, h2, h3, fun j x hx => (hb.cell (p := ⟨b, _, none⟩) h2).trans (h4 j x hx)⟩
theorem Vals.mono {n m : Nat} {W : World} {sv : Value} {l : List α} (h : Vals enc n W sv l) (hb : n ≤ m) : Vals enc m W sv l := by
 rcases h with h | ⟨b, off, cap, h1, h2, h3, h4⟩
 ·exact .inl h
 ·exact .inr ⟨b, off, cap, h1, Nat.lt_of_lt_of_le h2 hb, h3, h4⟩
theorem Vals.go {W W' : World} {sv : Value} {l : List α} (h : Vals enc W.heap.size W sv l) (hb : Below W.heap.size W W') : Vals enc W'.heap.size W' sv l := (h.below hb).mono hb.size
theorem Vals.len {n : Nat} {W : World} {sv : Value} {l : List α} (h : Vals enc n W sv l) : ∃ p c, sv = .slice p l.length c := by
 rcases h with ⟨⟨p, c, rfl⟩, rfl⟩ | ⟨b, off, cap, rfl, _⟩ <;> exact ⟨_, _, rfl⟩
theorem Vals.nil (n : Nat) (W : World) (p : Option Addr) (c : Nat) : Vals enc n W (.slice p 0 c) [] := .inl ⟨⟨_, _, rfl⟩, rfl⟩
theorem Vals.open {w : World} {p : Option Addr} {c : Nat} {l : List α} {n : Nat} (h : Vals enc n w (.slice p l.length c) l) {j : Nat} (hj : j < l.length) :
  ∃ b off, p = some ⟨b, off, none⟩ ∧ b < n ∧ l.length ≤ c ∧ ∀ W', Below n w W' → ∀ i (hi : i < l.length), W'.cell? ⟨b, off + i, none⟩ = some (enc l[i]) := by
 rcases h with ⟨⟨p, c, h1⟩, rfl⟩ | ⟨b, off, cap, h1, h2, h3, h4⟩
 ·simp at hj
 ·simp only [Value.slice.injEq] at h1
  obtain ⟨rfl, _, rfl⟩ := h1
  exact ⟨b, off, rfl, h2, h3, fun W' hW i hi => (hW.cell (p := ⟨b, _, none⟩) h2).trans (h4 i l[i] (List.getElem?_eq_getElem hi))⟩
end
end Go.Proofs.YtalflecmadacaaaGreat
namespace Go.Proofs.YtalflecmadacaaaGreat
open Go Go.ChangeShapes Go.WideShapes Go.ChangeAt Go.RowKit Go.Joins
theorem own : ownKnob Tryz.prog.godebug = none := by kernel_rfl
theorem laidOut : laidOutB Tryz.prog = true := by kernel_rfl
theorem edges_in {W : World} {sv : Value} {H : Type} {x : DataW H × List MemPlace} {enc : TypeId × Value → H} {fuel : Nat}
  (hf : DataW.trod enc Tryz.prog W 0 (fun _ => true) true fuel 22 [sv] = some x) : ∃ l : List Ed, Edges W.heap.size W sv l := by
 rcases Deep.open_slice Tryz.underlying22 hf with ⟨hcs, _⟩ | ⟨ad, len, cap, m, n, D, Pl, hcs, _, hl, hm, hmm, hx, hc⟩
 ·simp only [List.cons.injEq, and_true] at hcs
  subst hcs
  exact ⟨[], Edges.nil _ _ _ _⟩
 ·simp only [List.cons.injEq, and_true] at hcs
  subst hcs
  simp at hmm
  subst hmm
  have ce : Tryz.prog.cellsOf 50 = 3 := by kernel_rfl
  have each : ∀ i, i < len → ∃ e : Ed, W.cell? (ad.add (i * 3)) = some (.int .i64 e.1) ∧ W.cell? (ad.add (i * 3 + 1)) = some (.int .i64 e.2.1) ∧ W.cell? (ad.add (i * 3 + 2)) = some (.int .i64 e.2.2) := fun i hi => by
   obtain ⟨cs', h1, h2⟩ := hc i (by omega)
   rw [ce] at h1
   obtain ⟨_, hlen, hcell⟩ := World.cells?_some h1
   obtain ⟨y0, y1, y2, k, _, _, g0, g1, g2⟩ := Deep.trod_struct3 Tryz.underlying50 h2
   match cs', hlen with
   | [v0, v1, v2], _ =>
    have e0 := hcell 0 (by omega)
    have e1 := hcell 1 (by omega)
    have e2 := hcell 2 (by omega)
    rw [Deep.add_add] at e0 e1 e2
    have k0 : DataW.trod enc Tryz.prog W 0 (fun _ => true) true k 3 [v0] = some y0 := g0
    have k1 : DataW.trod enc Tryz.prog W 0 (fun _ => true) true k 3 [v1] = some y1 := g1
    have k2 : DataW.trod enc Tryz.prog W 0 (fun _ => true) true k 2 [v2] = some y2 := g2
    obtain ⟨z0, a0, _, _⟩ := DataW.trod_int Tryz.underlying3 k0
    obtain ⟨z1, a1, _, _⟩ := DataW.trod_int Tryz.underlying3 k1
    obtain ⟨z2, a2, _, _⟩ := DataW.trod_int Tryz.underlying2 k2
    simp only [List.cons.injEq, and_true] at a0 a1 a2
    subst a0; subst a1; subst a2
    exact ⟨(z0, z1, z2), by simpa using e0, by simpa using e1, by simpa using e2⟩
  obtain ⟨g, hg⟩ := Deep.choose_lt each
  refine ⟨(List.range len).map g, ?_⟩
  by_cases h0 : len = 0
  ·subst h0
   exact .inl ⟨⟨_, _, rfl⟩, by simp⟩
  ·obtain ⟨b, off, spot⟩ := ad
   have hc0 := (hg 0 (by omega)).1
   have hspot : spot = none := by simpa [Addr.add] using World.cell?_spot hc0
   subst hspot
   rw [Go.WideShapes.add_plain] at hc0
   have hlt : b < W.heap.size := World.block_lt_of_cell? W ⟨b, _, none⟩ hc0
   refine .inr ⟨b, off, m, by simp, hlt, by simp; omega, fun j y hy => ?_⟩
   have hj : j < len := by simpa using (List.getElem?_eq_some_iff.1 hy).1
   have hyj : y = g j := by simpa [hj] using hy.symm
   subst hyj
   obtain ⟨h1, h2, h3⟩ := hg j hj
   rw [Go.WideShapes.add_plain] at h1 h2 h3
   exact ⟨h1, h2, h3⟩
theorem graph_in {W : World} {v : Value} {H : Type} {d : DataW H} {p : List MemPlace} {enc : TypeId × Value → H} {base : Nat} {r : Reach}
  (hv : Value.okWide Tryz.prog W r base 24 v) (h : DataW.Trod enc Tryz.prog W 0 (fun _ => true) true 24 v d p) :
  ∃ (n : Int) (sv : Value) (l : List Ed), v = .agg #[.int .i64 n, sv] ∧ Edges W.heap.size W sv l := by
 obtain ⟨v0, v1, y0, y1, k, rfl, _, _, h0, h1⟩ := open_agg2 Tryz.underlying24 (by kernel_rfl) (by kernel_rfl) hv h
 have k0 : DataW.trod enc Tryz.prog W 0 (fun _ => true) true k 3 [v0] = some y0 := h0
 have k1 : DataW.trod enc Tryz.prog W 0 (fun _ => true) true k 22 [v1] = some y1 := h1
 obtain ⟨z, a, _, _⟩ := DataW.trod_int Tryz.underlying3 k0
 simp only [List.cons.injEq, and_true] at a
 subst a
 obtain ⟨l, hl⟩ := edges_in k1
 exact ⟨z, v1, l, rfl, hl⟩
theorem vals_in {α : Type} {en : α → Value} {W : World} {a : Option Addr} {len cap : Nat} {H : Type} {x : DataW H × List MemPlace} {enc : TypeId × Value → H} {fuel : Nat} {t e : TypeId}
  (ht : Tryz.prog.underlying t = some (.slice e)) (hc1 : Tryz.prog.cellsOf e = 1) (hone : ∀ n v y, DataW.trod enc Tryz.prog W 0 (fun _ => true) true n e [v] = some y → ∃ z : α, v = en z)
  (hf : DataW.trod enc Tryz.prog W 0 (fun _ => true) true fuel t [.slice a len cap] = some x) : ∃ l : List α, Vals en W.heap.size W (.slice a len cap) l := by
 rcases Deep.open_slice1 ht hc1 hf with ⟨hcs, _⟩ | ⟨ad, ln, cp, m, n, V, D, Pl, hcs, _, hl, hm, hmm, hx, hc⟩
 ·simp only [List.cons.injEq, and_true, Value.slice.injEq] at hcs
  obtain ⟨rfl, rfl, rfl⟩ := hcs
  exact ⟨[], Vals.nil _ _ _ _⟩
 ·simp only [List.cons.injEq, and_true, Value.slice.injEq] at hcs
  obtain ⟨rfl, rfl, rfl⟩ := hcs
  simp at hmm
  subst hmm
  have each : ∀ i, i < len → ∃ z : α, W.cell? (ad.add i) = some (en z) := fun i hi => by
   obtain ⟨h1, h2⟩ := hc i (by omega)
   obtain ⟨z, hz⟩ := hone _ _ _ h2
   exact ⟨z, by rw [h1, hz]⟩
  by_cases h0 : len = 0
  ·subst h0
   exact ⟨[], Vals.nil _ _ _ _⟩
  ·obtain ⟨z0, hz0⟩ := each 0 (by omega)
   have : Inhabited α := ⟨z0⟩
   obtain ⟨g, hg⟩ := Deep.choose_lt each
   refine ⟨(List.range len).map g, ?_⟩
   obtain ⟨b, off, spot⟩ := ad
   have hc0 := hg 0 (by omega)
   have hspot : spot = none := by simpa [Addr.add] using World.cell?_spot hc0
   subst hspot
   rw [Go.WideShapes.add_plain] at hc0
   have hlt : b < W.heap.size := World.block_lt_of_cell? W ⟨b, _, none⟩ hc0
   refine .inr ⟨b, off, m, by simp, hlt, by simp; omega, fun j y hy => ?_⟩
   have hj : j < len := by simpa using (List.getElem?_eq_some_iff.1 hy).1
   have hyj : y = g j := by simpa [hj] using hy.symm
   subst hyj
   have h1 := hg j hj
   rw [Go.WideShapes.add_plain] at h1
   exact h1
theorem bools_in {W : World} {v : Value} {H : Type} {d : DataW H} {p : List MemPlace} {enc : TypeId × Value → H} {base : Nat} {r : Reach}
  (hv : Value.okWide Tryz.prog W r base 25 v) (h : DataW.Trod enc Tryz.prog W 0 (fun _ => true) true 25 v d p) : ∃ l : List Bool, Bools W.heap.size W v l := by
 obtain ⟨a, len, cap, rfl⟩ := okWide_slice Tryz.underlying25 hv
 obtain ⟨fuel, hf⟩ := h
 refine vals_in Tryz.underlying25 (by kernel_rfl) (fun n v y hy => ?_) (by simpa [Value.cells] using hf)
 obtain ⟨z, e1, _⟩ := DataW.trod_bool Tryz.underlying4 hy
 exact ⟨z, by simpa using e1⟩
end Go.Proofs.YtalflecmadacaaaGreat
namespace Go.Proofs.YtalflecmadacaaaGreat
open Go Go.Proofs
def nbOf (e : Ed) (x : Int) : List Int := if e.1 = x then [e.2.1] else if e.2.1 = x then [e.1] else []
def nb (l : List Ed) (x : Int) : List Int := l.flatMap fun e => nbOf e x
theorem nb_snoc {l : List Ed} {j : Nat} (h : j < l.length) (x : Int) : nb (l.take (j + 1)) x = nb (l.take j) x ++ nbOf l[j] x := by
 unfold nb
 rw [List.take_add_one, List.getElem?_eq_getElem h, List.flatMap_append]
 simp
theorem nb_le (l : List Ed) (x : Int) (j : Nat) : (nb (l.take j) x).length ≤ (nb l x).length := by
 have h : nb l x = nb (l.take j) x ++ nb (l.drop j) x := by unfold nb; rw [← List.flatMap_append, List.take_append_drop]
 rw [h, List.length_append]; omega
theorem nbOf_len (e : Ed) (x : Int) : (nbOf e x).length ≤ 1 := by unfold nbOf; split <;> (try split) <;> simp
theorem nb_len (x : Int) : ∀ l : List Ed, (nb l x).length ≤ l.length
 | [] => Nat.le_refl _
 | e :: l => by
  have := nb_len x l; have := nbOf_len e x
  unfold nb at *
  rw [List.flatMap_cons, List.length_append, List.length_cons]; omega
theorem mem_nb {l : List Ed} {x y : Int} : y ∈ nb l x ↔ ∃ e ∈ l, (e.1 = x ∧ e.2.1 = y) ∨ (e.1 ≠ x ∧ e.2.1 = x ∧ e.1 = y) := by
 unfold nb
 rw [List.mem_flatMap]
 constructor
 ·rintro ⟨e, he, hy⟩
  refine ⟨e, he, ?_⟩
  unfold nbOf at hy
  split at hy
  ·left; exact ⟨by assumption, (List.mem_singleton.1 hy).symm⟩
  ·split at hy
   ·right; exact ⟨by assumption, by assumption, (List.mem_singleton.1 hy).symm⟩
   ·cases hy
 ·rintro ⟨e, he, h | h⟩
  ·exact ⟨e, he, by unfold nbOf; rw [if_pos h.1, h.2]; exact List.mem_singleton.2 rfl⟩
  ·exact ⟨e, he, by unfold nbOf; rw [if_neg h.1, if_pos h.2.1, h.2.2]; exact List.mem_singleton.2 rfl⟩
theorem nb_mutual {n : Int} {l : List Ed} (hR : RightG n l) {x y : Int} (h : y ∈ nb l x) : x ∈ nb l y ∧ 0 ≤ y ∧ y < n ∧ y ≠ x := by
 obtain ⟨e, he, hc⟩ := mem_nb.1 h
 have hok := hR.each e he
 unfold okE at hok
 refine ⟨mem_nb.2 ⟨e, he, ?_⟩, ?_⟩
 ·omega
 ·omega
theorem nb_rise {n : Int} {l : List Ed} (hR : RightG n l) (x : Int) : (nb l x).Pairwise (· < ·) := by
 unfold nb
 rw [List.pairwise_flatMap]
 refine ⟨fun e _ => ?_, ?_⟩
 ·unfold nbOf
  split
  ·exact List.pairwise_singleton _ _
  ·split
   ·exact List.pairwise_singleton _ _
   ·exact List.Pairwise.nil
 ·refine hR.rise.imp_of_mem fun {a b} ha hb hlo y hy z hz => ?_
  have h1 := (hR.each a ha).2
  have h2 := (hR.each b hb).2
  rw [lo_iff] at hlo
  unfold nbOf at hy hz
  split at hy
  ·have := List.mem_singleton.1 hy
   split at hz
   ·have := List.mem_singleton.1 hz; omega
   ·split at hz
    ·have := List.mem_singleton.1 hz; omega
    ·cases hz
  ·split at hy
   ·have := List.mem_singleton.1 hy
    split at hz
    ·have := List.mem_singleton.1 hz; omega
    ·split at hz
     ·have := List.mem_singleton.1 hz; omega
     ·cases hz
   ·cases hy
def degS (l : List Ed) : Nat → Nat
 | 0 => 0
 | v + 1 => degS l v + (nb l (v : Int)).length
theorem degS_nil : ∀ v, degS [] v = 0
 | 0 => rfl
 | v + 1 => by rw [degS, degS_nil v]; rfl
def endsLow (e : Ed) (v : Nat) : Nat := (if e.1 < (v : Int) then 1 else 0) + (if e.2.1 < (v : Int) then 1 else 0)
theorem degS_cons {e : Ed} {l : List Ed} (h0 : 0 ≤ e.1) (h1 : 0 ≤ e.2.1) (hne : e.1 ≠ e.2.1) : ∀ v, degS (e :: l) v = endsLow e v + degS l v
 | 0 => by
  unfold endsLow
  rw [if_neg (by omega), if_neg (by omega)]
  rfl
 | v + 1 => by
  rw [degS, degS, degS_cons h0 h1 hne v]
  have hl : (nb (e :: l) (v : Int)).length = (nbOf e (v : Int)).length + (nb l (v : Int)).length := by unfold nb; rw [List.flatMap_cons, List.length_append]
  rw [hl]
  have : endsLow e (v + 1) = endsLow e v + (nbOf e (v : Int)).length := by
   unfold endsLow nbOf
   by_cases a : e.1 = (v : Int)
   ·rw [if_pos a]
    simp only [List.length_singleton]
    split <;> split <;> split <;> split <;> omega
   ·rw [if_neg a]
    by_cases b : e.2.1 = (v : Int)
    ·rw [if_pos b]
     simp only [List.length_singleton]
     split <;> split <;> split <;> split <;> omega
    ·rw [if_neg b]
     simp only [List.length_nil]
     split <;> split <;> split <;> split <;> omega
  omega
theorem degS_all {n : Nat} : ∀ {l : List Ed}, (∀ e ∈ l, okE (n : Int) e) → degS l n = 2 * l.length
 | [], _ => degS_nil n
 | e :: l, h => by
  have he := h e (List.mem_cons_self ..)
  unfold okE at he
  rw [degS_cons (by omega) (by omega) (by omega), degS_all fun x hx => h x (List.mem_cons_of_mem _ hx), List.length_cons]
  unfold endsLow
  rw [if_pos (by omega), if_pos (by omega)]
  omega
theorem degS_le {l : List Ed} {v n : Nat} (h : v ≤ n) : degS l v ≤ degS l n := by
 induction h with
 | refl => exact Nat.le_refl _
 | step _ ih => rw [degS]; omega
end Go.Proofs.YtalflecmadacaaaGreat
namespace Go.Proofs.YtalflecmadacaaaGreat
open Go Go.Proofs Go.RowKit
def Blk (t : TypeId) (W : World) (g : Nat) (vs : List Value) : Prop := W.heap[g]? = some (.cells vs.toArray t (0, 0))
theorem Blk.lt {t : TypeId} {W : World} {g : Nat} {vs : List Value} (h : Blk t W g vs) : g < W.heap.size := (Array.getElem?_eq_some_iff.1 h).1
theorem Blk.cell {t : TypeId} {W : World} {g : Nat} {vs : List Value} (h : Blk t W g vs) {j : Nat} {v : Value} (hj : vs[j]? = some v) : W.cell? ⟨g, j, none⟩ = some v := by
 unfold Blk at h
 simp only [World.cell?, h]
 simpa using hj
theorem Blk.frozen {t : TypeId} {W : World} {g : Nat} {vs : List Value} (h : Blk t W g vs) (j : Nat) : W.frozen? ⟨g, j, none⟩ = false := by
 unfold Blk at h
 simp [World.frozen?, h]
theorem Blk.below {t : TypeId} {A B : World} {g n : Nat} {vs : List Value} (h : Blk t A g vs) (hb : Below n A B) (hg : g < n) : Blk t B g vs := (hb.block g hg).trans h
theorem Blk.go {t : TypeId} {A B : World} {g : Nat} {vs : List Value} (h : Blk t A g vs) (hb : Below A.heap.size A B) : Blk t B g vs := h.below hb h.lt
theorem Blk.set {t : TypeId} {W : World} {g : Nat} {vs : List Value} (h : Blk t W g vs) (j : Nat) (v : Value) : Blk t (W.setCell ⟨g, j, none⟩ v) g (vs.set j v) := by
 obtain ⟨hlt, hk⟩ := Array.getElem?_eq_some_iff.1 h
 show (W.heap.modify g _)[g]? = _
 rw [Array.getElem?_eq_getElem (by rw [Array.size_modify]; exact hlt), Array.getElem_modify_self, hk]
 simp
theorem Blk.other {t : TypeId} {W : World} {g : Nat} {vs : List Value} (h : Blk t W g vs) {p : Addr} (hp : g ≠ p.block) (v : Value) : Blk t (W.setCell p v) g vs := (Below.heap_setCell _ _ _ _ hp).trans h
theorem Blk.made {t : TypeId} {W : World} {g n k base : Nat} {z : Value} (h : W.ownsRow base t k (.slice (some ⟨g, 0, none⟩) n n) n (madeCells z.cells (n * k)).toList) : Blk t W g (madeCells z.cells (n * k)).toList := by
 obtain ⟨h1, h2⟩ := h
 rcases h2 with ⟨h2, _⟩ | ⟨g', cap, cur, e, _, hb, _, _, hsz, ht⟩
 ·cases h2
 ·simp only [Value.slice.injEq, Option.some.injEq, Addr.mk.injEq] at e
  obtain ⟨⟨rfl, _, _⟩, _, rfl⟩ := e
  unfold Blk
  rw [hb]
  congr 2
  apply Array.toList_inj.1
  rw [List.take_of_length_le (by simp [hsz])] at ht
  rw [ht]
def flat (l : List Ed) : List Value := l.flatMap encE
theorem flat_cons (e : Ed) (l : List Ed) : flat (e :: l) = .int .i64 e.1 :: .int .i64 e.2.1 :: .int .i64 e.2.2 :: flat l := rfl
theorem flat_at : ∀ {l : List Ed} {j : Nat} {x : Ed}, l[j]? = some x → (flat l)[j * 3]? = some (.int .i64 x.1) ∧ (flat l)[j * 3 + 1]? = some (.int .i64 x.2.1) ∧ (flat l)[j * 3 + 2]? = some (.int .i64 x.2.2)
 | [], j, x, h => by simp at h
 | e :: l, 0, x, h => by simp at h; subst h; rw [flat_cons]; simp
 | e :: l, j + 1, x, h => by
  rw [flat_cons, show (j + 1) * 3 = j * 3 + 1 + 1 + 1 by omega]
  simpa using flat_at (l := l) (j := j) (by simpa using h)
theorem flat_set : ∀ (l : List Ed) (j : Nat) (x : Ed), (((flat l).set (j * 3) (.int .i64 x.1)).set (j * 3 + 1) (.int .i64 x.2.1)).set (j * 3 + 2) (.int .i64 x.2.2) = flat (l.set j x)
 | [], j, x => by simp [flat]
 | e :: l, 0, x => by simp [flat_cons]
 | e :: l, j + 1, x => by
  rw [flat_cons, List.set_cons_succ, flat_cons, ← flat_set l j x, show (j + 1) * 3 = j * 3 + 1 + 1 + 1 by omega]
  simp
theorem flat_zero : ∀ n : Nat, flat (List.replicate n (0, 0, 0)) = List.replicate (n * 3) (.int .i64 0)
 | 0 => rfl
 | n + 1 => by rw [List.replicate_succ, flat_cons, flat_zero n, show (n + 1) * 3 = n * 3 + 1 + 1 + 1 by omega]; rfl
theorem flat_made (n : Nat) : (madeCells (Value.agg #[.int .i64 0, .int .i64 0, .int .i64 0]).cells (n * 3)).toList = flat (List.replicate n (0, 0, 0)) := by
 rw [flat_zero]
 have hz : (Value.agg #[.int .i64 0, .int .i64 0, .int .i64 0]).cells = #[.int .i64 0, .int .i64 0, .int .i64 0] := by simp [Value.cells]
 rw [hz]
 apply List.ext_getElem
 ·simp [madeCells]
 ·intro i h1 h2
  have hm : i % 3 < 3 := Nat.mod_lt _ (by omega)
  simp [madeCells]
  generalize i % 3 = b at hm
  match b, hm with
  | 0, _ => rfl
  | 1, _ => rfl
  | 2, _ => rfl
theorem Blk.edges {W : World} {g : Nat} {l : List Ed} {t : TypeId} (h : Blk t W g (flat l)) : Edges W.heap.size W (.slice (some ⟨g, 0, none⟩) l.length l.length) l :=
 .inr ⟨g, 0, l.length, rfl, h.lt, Nat.le_refl _, fun j x hx => by
  simp only [Nat.zero_add]
  exact ⟨h.cell (flat_at hx).1, h.cell (flat_at hx).2.1, h.cell (flat_at hx).2.2⟩⟩
end Go.Proofs.YtalflecmadacaaaGreat
