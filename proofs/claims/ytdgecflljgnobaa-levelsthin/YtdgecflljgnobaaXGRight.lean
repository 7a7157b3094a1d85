/-
  The contracts of graph.Right and of the reference's Right.
-/
import Derived.Test.YtdgecflljgnobaaXGBase
namespace Go.Proofs.Ytdgecflljgnobaa
open Go Go.Proofs Go.RowKit

theorem Edges.at {n : Nat} {W : World} {p : Option Addr} {c : Nat} {l : List Ed} (h : Edges n W (.slice p l.length c) l) {j : Nat} (hj : j < l.length) :
    ∃ b off, p = some ⟨b, off, none⟩ ∧ b < n ∧ l.length ≤ c ∧ ∀ i x, l[i]? = some x → W.cell? ⟨b, off + i * 3, none⟩ = some (.int .i64 x.1) ∧ W.cell? ⟨b, off + i * 3 + 1, none⟩ = some (.int .i64 x.2.1) ∧ W.cell? ⟨b, off + i * 3 + 2, none⟩ = some (.int .i64 x.2.2) := by
  rcases h with ⟨⟨p, c, h1⟩, rfl⟩ | ⟨b, off, cap, h1, h2, h3, h4⟩
  · simp at hj
  · simp only [Value.slice.injEq] at h1
    obtain ⟨rfl, _, rfl⟩ := h1
    exact ⟨b, off, rfl, h2, h3, h4⟩

/-- The cells of an edge, in every world that has only grown since; and in every one that grows out of that. -/
theorem Edges.open {w : World} {p : Option Addr} {c : Nat} {l : List Ed} (h : Edges w.heap.size w (.slice p l.length c) l) {j : Nat} (hj : j < l.length) :
    ∃ b off, p = some ⟨b, off, none⟩ ∧ b < w.heap.size ∧ l.length ≤ c ∧
      (∀ W', Below w.heap.size w W' → ∀ i (hi : i < l.length), W'.cell? ⟨b, off + i * 3, none⟩ = some (.int .i64 l[i].1) ∧ W'.cell? ⟨b, off + i * 3 + 1, none⟩ = some (.int .i64 l[i].2.1) ∧ W'.cell? ⟨b, off + i * 3 + 2, none⟩ = some (.int .i64 l[i].2.2)) ∧
      (∀ W', Below w.heap.size w W' → ∀ i (hi : i < l.length), (∀ n os, (Go.Sort.grow (W'.drewN n) os).cell? ⟨b, off + i * 3, none⟩ = some (.int .i64 l[i].1)) ∧ (∀ n os, (Go.Sort.grow (W'.drewN n) os).cell? ⟨b, off + i * 3 + 1, none⟩ = some (.int .i64 l[i].2.1)) ∧ (∀ n os, (Go.Sort.grow (W'.drewN n) os).cell? ⟨b, off + i * 3 + 2, none⟩ = some (.int .i64 l[i].2.2))) := by
  obtain ⟨b, off, rfl, hb, hc, h4⟩ := h.at hj
  have hp : ∀ W', Below w.heap.size w W' → ∀ i (hi : i < l.length), W'.cell? ⟨b, off + i * 3, none⟩ = some (.int .i64 l[i].1) ∧ W'.cell? ⟨b, off + i * 3 + 1, none⟩ = some (.int .i64 l[i].2.1) ∧ W'.cell? ⟨b, off + i * 3 + 2, none⟩ = some (.int .i64 l[i].2.2) := by
    intro W' hW i hi
    obtain ⟨c0, c1, c2⟩ := h4 i l[i] (List.getElem?_eq_getElem hi)
    exact ⟨(hW.cell (p := ⟨b, _, none⟩) hb).trans c0, (hW.cell (p := ⟨b, _, none⟩) hb).trans c1, (hW.cell (p := ⟨b, _, none⟩) hb).trans c2⟩
  refine ⟨b, off, rfl, hb, hc, hp, ?_⟩
  intro W' hW i hi
  obtain ⟨c0, c1, c2⟩ := hp W' hW i hi
  have hbW : b < W'.heap.size := Nat.lt_of_lt_of_le hb hW.size
  exact ⟨cell_grown (a := ⟨b, _, none⟩) hbW c0, cell_grown (a := ⟨b, _, none⟩) hbW c1, cell_grown (a := ⟨b, _, none⟩) hbW c2⟩
/-- A box with two cells, in every world that has only grown since it was laid. -/
theorem box2 {w : World} {x y : Value} {t : TypeId} : ∀ W', Grew (w.alloc (.cells #[x, y] t)) W' → W'.cell? ⟨w.heap.size, 0, none⟩ = some x ∧ W'.cell? ⟨w.heap.size, 1, none⟩ = some y := fun W' h =>
  ⟨(h.below.cell (p := ⟨w.heap.size, 0, none⟩) (by simp)).trans (by simp), (h.below.cell (p := ⟨w.heap.size, 1, none⟩) (by simp)).trans (by simp)⟩
theorem box2g {w : World} {x y : Value} {t : TypeId} : ∀ W', Grew (w.alloc (.cells #[x, y] t)) W' → (∀ n os, (Go.Sort.grow (W'.drewN n) os).cell? ⟨w.heap.size, 0, none⟩ = some x) ∧ ∀ n os, (Go.Sort.grow (W'.drewN n) os).cell? ⟨w.heap.size, 1, none⟩ = some y := fun W' h =>
  have hlt : w.heap.size < W'.heap.size := by have := h.below.size; simp only [World.size_alloc] at this; omega
  ⟨cell_grown (a := ⟨w.heap.size, 0, none⟩) hlt (box2 W' h).1, cell_grown (a := ⟨w.heap.size, 1, none⟩) hlt (box2 W' h).2⟩
theorem box2_lt {w : World} {x y : Value} {t : TypeId} {W' : World} (h : Grew (w.alloc (.cells #[x, y] t)) W') : w.heap.size < W'.heap.size := by have := h.below.size; simp only [World.size_alloc] at this; omega

theorem wrap_i (x : Int) (h0 : -9223372036854775808 ≤ x) (h1 : x ≤ 9223372036854775807) : IntKind.i64.wrap x = x := by
  simp [IntKind.wrap, IntKind.bits, IntKind.signed]; omega
theorem mixed : Try.prog.follows .mixedOrders = true := by kernel_rfl

set_option maxRecDepth 100000 in
set_option maxHeartbeats 2000000 in
theorem right_any (n : Int) (l : List Ed) (sv : Value) (w : World) (hl : Edges w.heap.size w sv l) :
    Calls Try.prog 19 #[.agg #[.int .i64 n, sv]] w fun r w' => r = .returned (.int .i64 (rightK n l)) ∧ Grew w w' := by
  obtain ⟨p, c, rfl⟩ := hl.len
  by_cases hm : manyK n l.length = 0
  · have hR : Hid (rightK n l = listK n none l) := if_pos hm
    obtain ⟨hn0, hn1, hlen⟩ := many_ok hm
    have hS := fun W => sized_any n l.length W
    rw [hm] at hS
    have hg1 : Grew w (w.alloc (.cells #[.int .i64 n, .slice p l.length c] 24)) := (Grew.refl w).alloc _
    go_enter Try.func19, Try.ntmps19
    go_wp2_with fail
    refine (hS _).mono ?_
    rintro e w1 ⟨rfl, rfl⟩
    clear hS hm
    go_wp2
    go_loopw [20] (fun i wr => ∃ j : Nat, j ≤ l.length ∧ i = .int .i64 j ∧ Hid (listK n (prevA l j) (l.drop j) = listK n none l) ∧ Grew (w.alloc (.cells #[.int .i64 n, .slice p l.length c] 24)) wr) (fun i _ => l.length - (intOf i).toNat)
    case atStart => exact ⟨0, Nat.zero_le _, rfl, rfl, Grew.refl _⟩
    case round =>
      obtain ⟨j, hj, rfl, hr, hg⟩ := hrel
      by_cases hlt : j < l.length
      · obtain ⟨b, off, rfl, hbb, hcap, hc⟩ := hl.at hlt
        have hb0 := (hg1.trans hg).below
        have q0 := (hg.below.cell (p := ⟨w.heap.size, 0, none⟩) (by simp)).trans (by simp : _ = some (Value.int .i64 n))
        have q1 := (hg.below.cell (p := ⟨w.heap.size, 1, none⟩) (by simp)).trans (by simp : _ = some (Value.slice (some ⟨b, off, none⟩) l.length c))
        obtain ⟨c0, c1, c2⟩ := hc j l[j] (List.getElem?_eq_getElem hlt)
        replace c0 := (hb0.cell (p := ⟨b, off + j * 3, none⟩) hbb).trans c0
        replace c1 := (hb0.cell (p := ⟨b, off + j * 3 + 1, none⟩) hbb).trans c1
        replace c2 := (hb0.cell (p := ⟨b, off + j * 3 + 2, none⟩) hbb).trans c2
        have hjl : (j : Int) < (l.length : Int) := by omega
        have hst := hr
        unfold Hid at hst
        rw [listK_step hlt] at hst
        have HC : Hid _ := hc
        have HST : Hid _ := hst
        clear hc hst
        have hsz : w.heap.size < wr.heap.size := by have := hg.below.size; simp at this; omega
        have hbr : b < wr.heap.size := by omega
        go_wp2_with fail
        refine (fits_any n l[j] _).mono ?_
        rintro e w7 ⟨rfl, hg7⟩
        have hb7 := hg7.below
        simp only [World.size_alloc] at hb7
        have e0 : w7.cell? ⟨wr.heap.size, 0, none⟩ = some (.int .i64 l[j].1) := (hb7.cell (p := ⟨wr.heap.size, 0, none⟩) (by simp)).trans (by simp)
        have e1 : w7.cell? ⟨wr.heap.size, 1, none⟩ = some (.int .i64 l[j].2.1) := (hb7.cell (p := ⟨wr.heap.size, 1, none⟩) (by simp)).trans (by simp)
        have e2 : w7.cell? ⟨wr.heap.size, 2, none⟩ = some (.int .i64 l[j].2.2) := (hb7.cell (p := ⟨wr.heap.size, 2, none⟩) (by simp)).trans (by simp)
        have q1' : w7.cell? ⟨w.heap.size, 1, none⟩ = some (Value.slice (some ⟨b, off, none⟩) l.length c) := (hb7.cell (p := ⟨w.heap.size, 1, none⟩) (by show w.heap.size < _; omega)).trans ((World.cell?_alloc_past _ _ _ hsz).trans q1)
        have hg8 : Grew w w7 := (hg1.trans hg).trans (((Grew.refl wr).alloc _).trans hg7)
        have hg9 : Grew (w.alloc (.cells #[.int .i64 n, .slice (some ⟨b, off, none⟩) l.length c] 24)) w7 := hg.trans (((Grew.refl wr).alloc _).trans hg7)
        have hz7 : wr.heap.size < w7.heap.size := by have := hb7.size; simp only [World.size_alloc] at this; omega
        clear q0 q1 c0 c1 c2 hb0 hg hg7 hb7 hg1
        by_cases hk : edgeK n l[j] = 0
        · rw [hk]
          by_cases huv : l[j].2.1 < l[j].1
          · have HE : Hid (rightK n l = 1) := by
              have h1 : oneK n (prevA l j) l[j] = 1 := by unfold oneK; rw [if_pos hk, if_pos huv]
              have h2 := HST.out
              rw [h1] at h2
              unfold Hid; rw [hR.out, ← h2]; rfl
            clear hr HST HC hk
            go_wp2
            go_ret
            exact ⟨by rw [HE.out]; rfl, hg8⟩
          · have h1 : oneK n (prevA l j) l[j] = riseO (prevA l j) l[j] := by unfold oneK; rw [if_pos hk, if_neg huv]
            cases j with
            | zero =>
              have HS : Hid (listK n (prevA l 1) (l.drop 1) = listK n none l) := by
                have h2 := HST.out
                rw [h1, show riseO (prevA l 0) l[0] = 0 from rfl, if_pos rfl] at h2
                exact h2
              clear hr HST HC hk h1
              go_wp2
              exact ⟨⟨1, by omega, by go_num, HS, hg9⟩, by simp [intOf]; omega⟩
            | succ i =>
              have hil : i < l.length := by omega
              have h2 : riseO (prevA l (i + 1)) l[i + 1] = riseK l[i] l[i + 1] := by rw [show prevA l (i + 1) = some l[i] from List.getElem?_eq_getElem hil]; rfl
              rw [h2] at h1
              obtain ⟨c0, c1, c2⟩ := HC.out i l[i] (List.getElem?_eq_getElem hil)
              replace c0 := cell_grown (a := ⟨b, off + i * 3, none⟩) (by show b < _; omega) ((hg8.below.cell (p := ⟨b, off + i * 3, none⟩) hbb).trans c0)
              replace c1 := cell_grown (a := ⟨b, off + i * 3 + 1, none⟩) (by show b < _; omega) ((hg8.below.cell (p := ⟨b, off + i * 3 + 1, none⟩) hbb).trans c1)
              replace c2 := cell_grown (a := ⟨b, off + i * 3 + 2, none⟩) (by show b < _; omega) ((hg8.below.cell (p := ⟨b, off + i * 3 + 2, none⟩) hbb).trans c2)
              replace q1' := cell_grown (a := ⟨w.heap.size, 1, none⟩) (by show w.heap.size < _; omega) q1'
              have e0' := cell_grown (a := ⟨wr.heap.size, 0, none⟩) hz7 e0
              have e1' := cell_grown (a := ⟨wr.heap.size, 1, none⟩) hz7 e1
              have e2' := cell_grown (a := ⟨wr.heap.size, 2, none⟩) hz7 e2
              have hii : (i : Int) < (l.length : Int) := by omega
              have HK : Hid _ := h1
              have HG8 : Hid _ := hg8
              clear hr HC hk h1 h2 hg8
              go_wp2
              have hmix := mixed
              have hwi := wrap_i i (by omega) (by omega)
              go_quiet_grown (first | (go_at_call 34; refine Calls.grown_of (rises_any l[i] l[i + 1] _)))
              by_cases hz : riseK l[i] l[i + 1] = 0
              · have HS : Hid (listK n (prevA l (i + 1 + 1)) (l.drop (i + 1 + 1)) = listK n none l) := by
                  have h2 := HST.out
                  rw [HK.out, hz, if_pos rfl] at h2
                  exact h2
                have hgf := hg9.trans ⟨nq, osq, rfl⟩
                rw [hz]
                clear HST HK HG8 hz e0 e1 e2 c0 c1 c2 e0' e1' e2' q1'
                go_wp2
                exact ⟨⟨i + 1 + 1, by omega, by go_num, HS, hgf⟩, by simp [intOf]; omega⟩
              · have HE : Hid (rightK n l = riseK l[i] l[i + 1]) := by
                  have h2 := HST.out
                  rw [HK.out, if_neg hz] at h2
                  unfold Hid; rw [hR.out, ← h2]
                have hgf : Grew w _ := (show Grew w w7 from HG8.out).trans ⟨nq, osq, rfl⟩
                generalize riseK l[i] l[i + 1] = k at HE hz
                have hz' : (k == 0) = false := by simpa using hz
                clear HST HK HG8 hz e0 e1 e2 c0 c1 c2 e0' e1' e2' q1'
                go_wp2
                go_ret
                exact ⟨by rw [HE.out]; rfl, hgf⟩
        · have HE : Hid (rightK n l = edgeK n l[j]) := by
            have h1 : oneK n (prevA l j) l[j] = edgeK n l[j] := by unfold oneK; rw [if_neg hk]
            have h2 := HST.out
            rw [h1, if_neg hk] at h2
            unfold Hid; rw [hR.out, ← h2]
          generalize edgeK n l[j] = k at HE hk
          have hk' : (k == 0) = false := by simpa using hk
          clear hr HST HC hk
          go_wp2
          go_ret
          exact ⟨by rw [HE.out]; rfl, hg8⟩
      · obtain rfl : j = l.length := by omega
        have HE : Hid (rightK n l = 0) := by
          unfold Hid; rw [hR.out, ← hr.out, listK_end]
        clear hr
        go_wp2
        go_ret
        exact ⟨by rw [HE.out]; rfl, hg1.trans hg⟩
  · have HE : Hid (rightK n l = manyK n l.length) := if_neg hm
    have hS := fun W => sized_any n l.length W
    generalize manyK n l.length = k at hS HE hm
    have hk : (k == 0) = false := by simpa using hm
    clear hm
    go_enter Try.func19, Try.ntmps19
    go_wp2_with fail
    refine (hS _).mono ?_
    rintro e w1 ⟨rfl, rfl⟩
    clear hS
    go_wp2
    go_ret
    exact ⟨by rw [HE.out]; rfl, (Grew.refl w).alloc _⟩

set_option maxRecDepth 100000 in
set_option maxHeartbeats 1000000 in
theorem refRight_any (n : Int) (l : List Ed) (sv : Value) (w : World) (hl : Edges w.heap.size w sv l) :
    Calls Try.prog 10 #[.agg #[.int .i64 n, sv]] w fun r w' => r = .returned (.int .i64 (rightK n l)) ∧ Grew w w' := by
  obtain ⟨p, c, rfl⟩ := hl.len
  have hmix := mixed
  by_cases hm : manyK n l.length = 0
  · have hR : Hid (rightK n l = listK n none l) := if_pos hm
    obtain ⟨hn0, hn1, hlen⟩ := many_ok hm
    have hS := fun W => refMany_any n l.length W
    rw [hm] at hS
    have hg1 : Grew w (w.alloc (.cells #[.int .i64 n, .slice p l.length c] 24)) := (Grew.refl w).alloc _
    go_enter Try.func10, Try.ntmps10
    go_wp2_with fail
    refine (hS _).mono ?_
    rintro e w1 ⟨rfl, rfl⟩
    clear hS hm
    go_wp2
    go_loopw [4] (fun i wr => ∃ j : Nat, j ≤ l.length ∧ i = .int .i64 j ∧ Hid (listK n (prevA l j) (l.drop j) = listK n none l) ∧ Grew (w.alloc (.cells #[.int .i64 n, .slice p l.length c] 24)) wr) (fun i _ => l.length - (intOf i).toNat)
    case atStart => exact ⟨0, Nat.zero_le _, rfl, rfl, Grew.refl _⟩
    case round =>
      obtain ⟨j, hj, rfl, hr, hg⟩ := hrel
      have q0 := (box2 _ hg).1
      have q1 := (box2 _ hg).2
      by_cases hlt : j < l.length
      · obtain ⟨b, off, rfl, hbb, hcap, hc, hcg⟩ := hl.open hlt
        have hst := hr
        unfold Hid at hst
        rw [listK_step hlt] at hst
        have HST : Hid _ := hst
        have HC : Hid _ := hc
        have HCG : Hid _ := hcg
        clear hc hcg hst
        have hjl : (j : Int) < (l.length : Int) := by omega
        have q0g := (box2g _ hg).1
        have q1g := (box2g _ hg).2
        obtain ⟨c0, c1, c2⟩ := HCG.out wr (hg1.trans hg).below j hlt
        go_wp2
        go_quiet_grown (first | (go_at_call 22; refine Calls.grown_of (refEdge_any n l[j] _)))
        have hg2 := hg.trans ⟨nq, osq, rfl⟩
        generalize Go.Sort.grow (wr.drewN nq) osq = w2 at hg2 ⊢
        clear q0 q1 q0g q1g c0 c1 c2 hg nq osq
        by_cases hk : edgeK n l[j] = 0
        · rw [hk]
          have q1 := (box2 _ hg2).2
          obtain ⟨c0, c1, c2⟩ := HC.out w2 (hg1.trans hg2).below j hlt
          go_wp2
          go_quiet (fail)
          have hg3 := hg2.drewN nq
          generalize w2.drewN nq = w3 at hg3 ⊢
          clear q1 c0 c1 c2 hg2
          by_cases huv : l[j].2.1 < l[j].1
          · have HE : Hid (rightK n l = 1) := by
              have h1 : oneK n (prevA l j) l[j] = 1 := by unfold oneK; rw [if_pos hk, if_pos huv]
              have h2 := HST.out
              rw [h1] at h2
              unfold Hid; rw [hR.out, ← h2]; rfl
            clear hr HST HC HCG hk
            go_wp2
            go_ret
            exact ⟨by rw [HE.out]; rfl, hg1.trans hg3⟩
          · have h1 : oneK n (prevA l j) l[j] = riseO (prevA l j) l[j] := by unfold oneK; rw [if_pos hk, if_neg huv]
            by_cases hj0 : j = 0
            · have HS : Hid (listK n (prevA l (j + 1)) (l.drop (j + 1)) = listK n none l) := by
                have h2 := HST.out
                rw [h1] at h2
                subst hj0
                rw [show riseO (prevA l 0) l[0] = 0 from rfl, if_pos rfl] at h2
                exact h2
              have hneg : decide (0 < j) = false := by simp; omega
              clear hr HST HC HCG hk h1 hj0
              go_wp2
              go_big_region_o
              have hg4 := hg3.drewN 1
              go_wp2
              exact ⟨⟨j + 1, by omega, by go_num, HS, hg4⟩, by simp [intOf]; omega⟩
            · obtain ⟨i, rfl⟩ : ∃ i, j = i + 1 := ⟨j - 1, by omega⟩
              have hil : i < l.length := by omega
              have h2 : riseO (prevA l (i + 1)) l[i + 1] = riseK l[i] l[i + 1] := by rw [show prevA l (i + 1) = some l[i] from List.getElem?_eq_getElem hil]; rfl
              rw [h2] at h1
              have HK : Hid _ := h1
              clear h1 h2 hk
              have hwi := wrap_i i (by omega) (by omega)
              have hii : (i : Int) < (l.length : Int) := by omega
              have q1g := (box2g _ hg3).2
              obtain ⟨c0, c1, c2⟩ := HCG.out w3 (hg1.trans hg3).below (i + 1) hlt
              obtain ⟨d0, d1, d2⟩ := HCG.out w3 (hg1.trans hg3).below i hil
              have hjl' : (i : Int) + 1 < (l.length : Int) := by omega
              have hjl'' : (0 : Int) ≤ (i : Int) + 1 := by omega
              have hpos : decide ((0 : Int) < ((i + 1 : Nat) : Int)) = true := by simp
              go_wp2
              go_quiet_grown (first | (go_at_call 23; refine Calls.grown_of (refBelow_any l[i] l[i + 1] _)))
              have hg4 := hg3.trans ⟨nq, osq, rfl⟩
              generalize Go.Sort.grow (w3.drewN nq) osq = w4 at hg4 ⊢
              clear q1g c0 c1 c2 d0 d1 d2 hg3 nq osq
              cases hlo : lo l[i] l[i + 1] with
              | true =>
                have HS : Hid (listK n (prevA l (i + 1 + 1)) (l.drop (i + 1 + 1)) = listK n none l) := by
                  have h2 := HST.out
                  rw [HK.out, show riseK l[i] l[i + 1] = 0 by unfold riseK; rw [if_pos hlo], if_pos rfl] at h2
                  exact h2
                clear hr HST HC HCG HK hlo
                go_wp2
                exact ⟨⟨i + 1 + 1, by omega, by go_num, HS, hg4⟩, by simp [intOf]; omega⟩
              | false =>
                have q1g := (box2g _ hg4).2
                obtain ⟨c0, c1, c2⟩ := HCG.out w4 (hg1.trans hg4).below (i + 1) hlt
                obtain ⟨d0, d1, d2⟩ := HCG.out w4 (hg1.trans hg4).below i hil
                have HL : Hid _ := hlo
                clear hlo
                go_wp2
                go_quiet_grown (first | (go_at_call 23; refine Calls.grown_of (refBelow_any l[i + 1] l[i] _)))
                have hg5 := hg4.trans ⟨nq, osq, rfl⟩
                generalize Go.Sort.grow (w4.drewN nq) osq = w5 at hg5 ⊢
                clear q1g c0 c1 c2 d0 d1 d2 hg4 nq osq
                cases hlo2 : lo l[i + 1] l[i] with
                | true =>
                  have HE : Hid (rightK n l = 1) := by
                    have h3 : riseK l[i] l[i + 1] = 1 := by unfold riseK; rw [HL.out, hlo2]; rfl
                    have h2 := HST.out
                    rw [HK.out, h3] at h2
                    unfold Hid; rw [hR.out, ← h2]; rfl
                  clear hr HST HC HCG HK hlo2 HL
                  go_wp2
                  go_ret
                  exact ⟨by rw [HE.out]; rfl, hg1.trans hg5⟩
                | false =>
                  have HE : Hid (rightK n l = 7) := by
                    have h3 : riseK l[i] l[i + 1] = 7 := by unfold riseK; rw [HL.out, hlo2]; rfl
                    have h2 := HST.out
                    rw [HK.out, h3] at h2
                    unfold Hid; rw [hR.out, ← h2]; rfl
                  clear hr HST HC HCG HK hlo2 HL
                  go_wp2
                  go_ret
                  exact ⟨by rw [HE.out]; rfl, hg1.trans hg5⟩
        · have HE : Hid (rightK n l = edgeK n l[j]) := by
            have h1 : oneK n (prevA l j) l[j] = edgeK n l[j] := by unfold oneK; rw [if_neg hk]
            have h2 := HST.out
            rw [h1, if_neg hk] at h2
            unfold Hid; rw [hR.out, ← h2]
          generalize edgeK n l[j] = k at HE hk
          have hk' : (k == 0) = false := by simpa using hk
          clear hr HST HC HCG hk
          go_wp2
          go_ret
          exact ⟨by rw [HE.out]; rfl, hg1.trans hg2⟩
      · obtain rfl : j = l.length := by omega
        have HE : Hid (rightK n l = 0) := by
          unfold Hid; rw [hR.out, ← hr.out, listK_end]
        clear hr
        go_wp2
        go_ret
        exact ⟨by rw [HE.out]; rfl, hg1.trans hg⟩
  · have HE : Hid (rightK n l = manyK n l.length) := if_neg hm
    have hS := fun W => refMany_any n l.length W
    generalize manyK n l.length = k at hS HE hm
    have hk : (k == 0) = false := by simpa using hm
    clear hm
    go_enter Try.func10, Try.ntmps10
    go_wp2_with fail
    refine (hS _).mono ?_
    rintro e w1 ⟨rfl, rfl⟩
    clear hS
    go_wp2
    go_ret
    exact ⟨by rw [HE.out]; rfl, (Grew.refl w).alloc _⟩

end Go.Proofs.Ytdgecflljgnobaa
