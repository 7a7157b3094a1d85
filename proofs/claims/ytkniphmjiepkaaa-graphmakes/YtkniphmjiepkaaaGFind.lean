/-
  The contracts of slices.BinarySearchFunc at edges, of graph.Find, and of the reference's Find.
-/
import Derived.Test.YtkniphmjiepkaaaGRight
namespace Go.Proofs.Ytkniphmjiepkaaa
open Go Go.Proofs Go.RowKit

/-- All of the first i are below t; none from j on is. -/
structure Cut (l : List Ed) (t : Ed) (i j : Nat) : Prop where
  le : i ≤ j
  len : j ≤ l.length
  low : ∀ k x, k < i → l[k]? = some x → lo x t = true
  hi : ∀ k x, j ≤ k → l[k]? = some x → lo x t = false
theorem Cut.up {l : List Ed} {t : Ed} {i j h : Nat} (hc : Cut l t i j) (hs : Strict l) (h0 : h < j) (hl : h < l.length) (hk : lo l[h] t = true) : Cut l t (h + 1) j :=
  ⟨h0, hc.len, fun k x hk' hx => by
    by_cases he : k = h
    · subst he; rw [List.getElem?_eq_getElem hl] at hx; cases hx; exact hk
    · obtain ⟨h1, rfl⟩ := List.getElem?_eq_some_iff.1 hx
      exact lo_trans (List.pairwise_iff_getElem.1 hs k h h1 hl (by omega)) hk, hc.hi⟩
theorem Cut.down {l : List Ed} {t : Ed} {i j h : Nat} (hc : Cut l t i j) (hs : Strict l) (h0 : i ≤ h) (hl : h < l.length) (hk : lo l[h] t = false) : Cut l t i h :=
  ⟨h0, by omega, hc.low, fun k x hk' hx => by
    by_cases he : k = h
    · subst he; rw [List.getElem?_eq_getElem hl] at hx; cases hx; exact hk
    · obtain ⟨h1, rfl⟩ := List.getElem?_eq_some_iff.1 hx
      have h3 := List.pairwise_iff_getElem.1 hs h k hl h1 (by omega)
      rw [lo_iff] at h3; rw [lo_not] at *; omega⟩

/-- What the search tells. -/
def Found (l : List Ed) (t : Ed) (i : Nat) (f : Bool) : Prop := i ≤ l.length ∧ (f = true → ∃ x, l[i]? = some x ∧ x.1 = t.1 ∧ x.2.1 = t.2.1) ∧ (f = false → ∀ x ∈ l, ¬ (x.1 = t.1 ∧ x.2.1 = t.2.1))
theorem Cut.found {l : List Ed} {t : Ed} {i : Nat} (hc : Cut l t i i) (hi : i < l.length) (hs : Strict l) : Found l t i (cfE l[i] t == 0) := by
  have h1 := hc.hi i l[i] (Nat.le_refl _) (List.getElem?_eq_getElem hi)
  refine ⟨hc.len, fun hf => ⟨_, List.getElem?_eq_getElem hi, ?_⟩, fun hf x hx he => ?_⟩
  · rcases cfE_cases l[i] t with ⟨h', _⟩ | ⟨_, h'⟩ | ⟨h', _⟩
    · rw [h'] at hf; cases hf
    · exact h'
    · rw [h'] at hf; cases hf
  · obtain ⟨k, hk, rfl⟩ := List.getElem_of_mem hx
    have h2 : ¬ k < i := fun hki => by have := hc.low k _ hki (List.getElem?_eq_getElem hk); rw [lo_iff] at this; omega
    by_cases hki : k = i
    · subst hki
      rcases cfE_cases l[k] t with ⟨_, h'⟩ | ⟨h', _⟩ | ⟨_, h'⟩
      · rw [lo_iff] at h'; omega
      · rw [h'] at hf; cases hf
      · rw [lo_iff] at h'; omega
    · have h3 := List.pairwise_iff_getElem.1 hs i k hi hk (by omega)
      rw [lo_iff] at h3; rw [lo_not] at h1; omega
theorem Cut.none {l : List Ed} {t : Ed} (hc : Cut l t l.length l.length) : Found l t l.length false := by
  refine ⟨Nat.le_refl _, ?_, ?_⟩
  · intro h; cases h
  · intro _ x hx he
    obtain ⟨k, hk, rfl⟩ := List.getElem_of_mem hx
    have h1 := hc.low k _ hk (List.getElem?_eq_getElem hk)
    rw [lo_iff] at h1
    omega
theorem box3 {w : World} {x y z : Value} {t : TypeId} : ∀ W', Grew (w.alloc (.cells #[x, y, z] t)) W' → (∀ n os, (Go.Sort.grow (W'.drewN n) os).cell? ⟨w.heap.size, 0, none⟩ = some x) ∧ (∀ n os, (Go.Sort.grow (W'.drewN n) os).cell? ⟨w.heap.size, 1, none⟩ = some y) ∧ ∀ n os, (Go.Sort.grow (W'.drewN n) os).cell? ⟨w.heap.size, 2, none⟩ = some z := fun W' h =>
  have hlt : w.heap.size < W'.heap.size := by have := h.below.size; simp only [World.size_alloc] at this; omega
  ⟨cell_grown (a := ⟨w.heap.size, 0, none⟩) hlt ((h.below.cell (p := ⟨w.heap.size, 0, none⟩) (by simp)).trans (by simp)), cell_grown (a := ⟨w.heap.size, 1, none⟩) hlt ((h.below.cell (p := ⟨w.heap.size, 1, none⟩) (by simp)).trans (by simp)), cell_grown (a := ⟨w.heap.size, 2, none⟩) hlt ((h.below.cell (p := ⟨w.heap.size, 2, none⟩) (by simp)).trans (by simp))⟩

set_option maxRecDepth 100000 in
set_option maxHeartbeats 2000000 in
theorem bsearch_any (l : List Ed) (hlen : l.length ≤ 4194304) (hs : Strict l) (t : Ed) (sv : Value) (w : World) (hl : Edges w.heap.size w sv l) :
    Calls Try.prog 38 #[sv, edV t, .func (.func 37) #[] #[]] w fun r w' => ∃ i f, r = .returned (.tuple #[.int .i64 (i : Nat), .bool f]) ∧ Found l t i f ∧ Grew w w' := by
  obtain ⟨p, c, rfl⟩ := hl.len
  have hmix := mixed
  have eg : ∀ args w, (callFunc 37 args).run Try.prog w = .ok (.enter 37 args) w := enters_of Try.func37 (by kernel_rfl) rfl
  have hg1 : Grew w (w.alloc (.cells #[.int .i64 t.1, .int .i64 t.2.1, .int .i64 t.2.2] 51)) := (Grew.refl w).alloc _
  go_enter Try.func38, Try.ntmps38
  go_wp2
  go_loopw [9, 10] (fun u v wr => ∃ i j : Nat, u = .int .i64 i ∧ v = .int .i64 j ∧ Cut l t i j ∧ Grew (w.alloc (.cells #[.int .i64 t.1, .int .i64 t.2.1, .int .i64 t.2.2] 51)) wr) (fun u v _ => (intOf v).toNat - (intOf u).toNat)
  case atStart => exact ⟨0, l.length, rfl, rfl, ⟨Nat.zero_le _, Nat.le_refl _, fun k x h => by omega, fun k x h hx => by have := (List.getElem?_eq_some_iff.1 hx).1; omega⟩, Grew.refl _⟩
  case round =>
    obtain ⟨i, j, rfl, rfl, hc, hg⟩ := hrel
    have hcl := hc.len
    have hcle := hc.le
    by_cases hlt : i < j
    · go_wp2
      rw [show ((i : Int) + (j : Int)) / 2 = (((i + j) / 2 : Nat) : Int) by omega]
      obtain ⟨h, hh⟩ : ∃ h, (i + j) / 2 = h := ⟨_, rfl⟩
      have h0 : i ≤ h := by omega
      have h1 : h < j := by omega
      have h2 : h < l.length := by omega
      rw [hh]
      clear hh
      obtain ⟨b, off, rfl, hbb, hcap, _, hcg⟩ := hl.open h2
      obtain ⟨c0, c1, c2⟩ := hcg wr (hg1.trans hg).below h h2
      obtain ⟨e0, e1, e2⟩ := box3 wr hg
      have hjl : (h : Int) < (l.length : Int) := by omega
      go_quiet_grown (first | (go_at_call 37; refine Calls.grown_of (byEnds_any l[h] t _)))
      have hgq := hg.trans ⟨nq, osq, rfl⟩
      generalize Go.Sort.grow (wr.drewN nq) osq = w8 at hgq ⊢
      clear c0 c1 c2 e0 e1 e2 hcg
      have hlt' := cfE_lt l[h] t
      cases hlo : lo l[h] t with
      | true =>
        rw [hlo] at hlt'
        have hcu := hc.up hs h1 h2 hlo
        generalize cfE l[h] t = k at hlt'
        have hk : k < 0 := by simpa using hlt'
        clear hlo hlt'
        go_wp2
        exact ⟨⟨h + 1, j, by go_num, rfl, hcu, hgq⟩, by simp [intOf]; omega⟩
      | false =>
        rw [hlo] at hlt'
        have hcd := hc.down hs h0 h2 hlo
        generalize cfE l[h] t = k at hlt'
        have hk : 0 ≤ k := by simpa using hlt'
        clear hlo hlt'
        go_wp2
        exact ⟨⟨i, h, rfl, rfl, hcd, hgq⟩, by simp [intOf]; omega⟩
    · obtain rfl : i = j := by omega
      by_cases hil : i < l.length
      · obtain ⟨b, off, rfl, hbb, hcap, _, hcg⟩ := hl.open hil
        obtain ⟨c0, c1, c2⟩ := hcg wr (hg1.trans hg).below i hil
        obtain ⟨e0, e1, e2⟩ := box3 wr hg
        have hjl : (i : Int) < (l.length : Int) := by omega
        have hfd := hc.found hil hs
        go_wp2
        go_quiet_grown (first | (go_at_call 37; refine Calls.grown_of (byEnds_any l[i] t _)))
        have hgq := hg.trans ⟨nq, osq, rfl⟩
        generalize Go.Sort.grow (wr.drewN nq) osq = w8 at hgq ⊢
        generalize cfE l[i] t = k at hfd
        clear c0 c1 c2 e0 e1 e2 hcg
        go_wp2
        go_ret2
        exact ⟨i, (k == 0), rfl, hfd, hg1.trans hgq⟩
      · obtain rfl : i = l.length := by omega
        have hfd := hc.none
        have hneg : decide ((l.length : Int) < (l.length : Int)) = false := by simp
        go_wp2
        go_big_region_o
        go_wp2
        go_ret2
        exact ⟨l.length, false, rfl, hfd, (hg1.trans hg).drewN 1⟩

/-- The place of the edge between u and v, or -1. -/
def endsB (u v : Int) (e : Ed) : Bool := (decide (e.1 = u) && decide (e.2.1 = v)) || (decide (e.1 = v) && decide (e.2.1 = u))
def findP (l : List Ed) (u v : Int) : Int := match l.findIdx? (endsB u v) with
  | some i => i
  | none => -1
theorem findP_at {l : List Ed} {u v : Int} {i : Nat} {x : Ed} (hx : l[i]? = some x) (h : endsB u v x = true) (hno : ∀ k y, k < i → l[k]? = some y → endsB u v y = false) : findP l u v = i := by
  unfold findP
  have : l.findIdx? (endsB u v) = some i := by
    rw [List.findIdx?_eq_some_iff_getElem]
    obtain ⟨h1, h2⟩ := List.getElem?_eq_some_iff.1 hx
    exact ⟨h1, by rw [h2]; exact h, fun j hj => by simpa using hno j _ hj (List.getElem?_eq_getElem (by omega))⟩
  rw [this]
theorem findP_no {l : List Ed} {u v : Int} (hno : ∀ y ∈ l, endsB u v y = false) : findP l u v = -1 := by
  unfold findP
  have : l.findIdx? (endsB u v) = none := by rw [List.findIdx?_eq_none_iff]; exact hno
  rw [this]
theorem endsB_iff {u v : Int} {e : Ed} (h : e.1 < e.2.1) : endsB u v e = true ↔ e.1 = min u v ∧ e.2.1 = max u v := by
  simp only [endsB, Bool.or_eq_true, Bool.and_eq_true, decide_eq_true_eq]
  omega
theorem found_at {l : List Ed} {n u v : Int} (hr : RightG n l) {i : Nat} {f : Bool} (h : Found l (min u v, max u v, 0) i f) : findP l u v = if f = true then (i : Int) else -1 := by
  obtain ⟨_, h1, h2⟩ := h
  cases f with
  | true =>
    obtain ⟨x, hx, hu, hv⟩ := h1 rfl
    rw [if_pos rfl]
    refine findP_at hx ((endsB_iff (hr.each x (List.mem_of_getElem? hx)).2).2 ⟨hu, hv⟩) fun k y hk hy => ?_
    cases hb : endsB u v y with
    | false => rfl
    | true =>
      have hy' := (endsB_iff (hr.each y (List.mem_of_getElem? hy)).2).1 hb
      obtain ⟨k1, rfl⟩ := List.getElem?_eq_some_iff.1 hx
      obtain ⟨k2, rfl⟩ := List.getElem?_eq_some_iff.1 hy
      have := List.pairwise_iff_getElem.1 hr.rise k i k2 k1 hk
      rw [lo_iff] at this
      simp only at hu hv
      omega
  | false =>
    rw [if_neg (by simp)]
    refine findP_no fun y hy => ?_
    cases hb : endsB u v y with
    | false => rfl
    | true => exact absurd ((endsB_iff (hr.each y hy).2).1 hb) (h2 rfl y hy)

def findK (n : Int) (l : List Ed) (u v : Int) : Int := if rightK n l = 0 then findP l u v else -1

set_option maxRecDepth 100000 in
set_option maxHeartbeats 2000000 in
theorem find_any (n : Int) (l : List Ed) (u v : Int) (sv : Value) (w : World) (hl : Edges w.heap.size w sv l) :
    Calls Try.prog 16 #[.agg #[.int .i64 n, sv], .int .i64 u, .int .i64 v] w fun r w' => r = .returned (.int .i64 (findK n l u v)) ∧ Grew w w' := by
  have hg1 : Grew w (w.alloc (.cells #[.int .i64 n, sv] 24)) := (Grew.refl w).alloc _
  have hl1 := hl.go hg1.below
  have hsv : sv.oneCell' = true := by obtain ⟨p, c, rfl⟩ := hl.len; rfl
  obtain ⟨p, c, rfl⟩ := hl.len
  by_cases hr : rightK n l = 0
  · have hR := right_iff.1 hr
    have HE : Hid (findK n l u v = findP l u v) := if_pos hr
    have hrc := fun W h => right_any n l (.slice p l.length c) W h
    rw [hr] at hrc
    clear hr
    rcases Int.lt_trichotomy v u with huv | huv | huv
    · have HM : Hid (min u v = v ∧ max u v = u) := by unfold Hid; omega
      go_enter Try.func16, Try.ntmps16
      go_wp2_with fail
      refine (hrc _ hl1).mono ?_
      rintro e w2 ⟨rfl, hg2⟩
      have hl2 := hl1.go hg2.below
      obtain ⟨q0, q1⟩ := box2 _ hg2
      clear hrc
      go_wp2_with fail
      refine (bsearch_any l hR.m1 hR.rise (v, u, 0) _ _ hl2).mono ?_
      rintro e w3 ⟨i, f, rfl, hf, hg3⟩
      have HF : Hid (findP l u v = if f = true then (i : Int) else -1) := found_at hR (by rw [HM.out.1, HM.out.2]; exact hf)
      clear hf q0 q1
      have hgf := (hg1.trans hg2).trans hg3
      cases f with
      | true =>
        go_wp2
        go_ret
        exact ⟨by rw [HE.out, HF.out]; rfl, hgf⟩
      | false =>
        go_wp2
        go_ret
        exact ⟨by rw [HE.out, HF.out]; rfl, hgf⟩
    · subst huv
      have HM : Hid (min v v = v ∧ max v v = v) := by unfold Hid; omega
      go_enter Try.func16, Try.ntmps16
      go_wp2_with fail
      refine (hrc _ hl1).mono ?_
      rintro e w2 ⟨rfl, hg2⟩
      have hl2 := hl1.go hg2.below
      obtain ⟨q0, q1⟩ := box2 _ hg2
      clear hrc
      go_wp2_with fail
      refine (bsearch_any l hR.m1 hR.rise (v, v, 0) _ _ hl2).mono ?_
      rintro e w3 ⟨i, f, rfl, hf, hg3⟩
      have HF : Hid (findP l v v = if f = true then (i : Int) else -1) := found_at hR (by rw [HM.out.1, HM.out.2]; exact hf)
      clear hf q0 q1
      have hgf := (hg1.trans hg2).trans hg3
      cases f with
      | true =>
        go_wp2
        go_ret
        exact ⟨by rw [HE.out, HF.out]; rfl, hgf⟩
      | false =>
        go_wp2
        go_ret
        exact ⟨by rw [HE.out, HF.out]; rfl, hgf⟩
    · have HM : Hid (min u v = u ∧ max u v = v) := by unfold Hid; omega
      go_enter Try.func16, Try.ntmps16
      go_wp2_with fail
      refine (hrc _ hl1).mono ?_
      rintro e w2 ⟨rfl, hg2⟩
      have hl2 := hl1.go hg2.below
      obtain ⟨q0, q1⟩ := box2 _ hg2
      clear hrc
      go_wp2_with fail
      refine (bsearch_any l hR.m1 hR.rise (u, v, 0) _ _ hl2).mono ?_
      rintro e w3 ⟨i, f, rfl, hf, hg3⟩
      have HF : Hid (findP l u v = if f = true then (i : Int) else -1) := found_at hR (by rw [HM.out.1, HM.out.2]; exact hf)
      clear hf q0 q1
      have hgf := (hg1.trans hg2).trans hg3
      cases f with
      | true =>
        go_wp2
        go_ret
        exact ⟨by rw [HE.out, HF.out]; rfl, hgf⟩
      | false =>
        go_wp2
        go_ret
        exact ⟨by rw [HE.out, HF.out]; rfl, hgf⟩
  · have HE : Hid (findK n l u v = -1) := if_neg hr
    have hrc := fun W h => right_any n l (.slice p l.length c) W h
    generalize rightK n l = k at hrc hr
    have hk : (k == 0) = false := by simpa using hr
    clear hr
    go_enter Try.func16, Try.ntmps16
    go_wp2_with fail
    refine (hrc _ hl1).mono ?_
    rintro e w2 ⟨rfl, hg2⟩
    clear hrc
    go_wp2
    go_ret
    exact ⟨by rw [HE.out]; rfl, hg1.trans hg2⟩

end Go.Proofs.Ytkniphmjiepkaaa
