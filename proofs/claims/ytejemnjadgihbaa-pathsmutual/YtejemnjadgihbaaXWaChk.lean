/-
  What paths.Check looks at: isKept, endsAt, isRightAt.
-/
import Derived.Test.YtejemnjadgihbaaXWaAt
import Derived.Test.YtejemnjadgihbaaQB
namespace Go.Proofs.Ytejemnjadgihbaa
open Go Go.Proofs Go.RowKit

/-- The cells of a slice of numbers, in every world that has grown since. -/
theorem Vals.openW {w : World} {sv : Value} {l : List Int} (h : Ints w.heap.size w sv l) : ∃ p c, sv = .slice p l.length c ∧ ∀ {j : Nat}, j < l.length → ∃ b off, p = some ⟨b, off, none⟩ ∧ b < w.heap.size ∧ ∀ W', Below w.heap.size w W' → ∀ i, i < l.length → W'.cell? ⟨b, off + i, none⟩ = some (.int .i64 (at' l i)) := by
  obtain ⟨p, c, rfl⟩ := h.len
  refine ⟨p, c, rfl, fun {j} hj => ?_⟩
  obtain ⟨b, off, h1, h2, _, h4⟩ := h.open hj
  exact ⟨b, off, h1, h2, fun W' hW i hi => by rw [at_get hi]; exact h4 W' hW i hi⟩
theorem at_mem {d : List Int} {v : Nat} (h : v < d.length) : at' d v ∈ d := by rw [at_get h]; exact List.getElem_mem h

/-- A truth value that tells just whether P. -/
def Tells (r : Ending) (P : Prop) : Prop := ∃ b, r = .returned (.bool b) ∧ (b = true ↔ P)
set_option maxRecDepth 100000 in
set_option maxHeartbeats 2000000 in
theorem isKept_any (N : Nat) (D : List Int) (e : Eg) (dv : Value) (w : World) (hD : Ints w.heap.size w dv D) (hl : D.length = N) (h1 : e.1 < N) (h2 : e.2.1 < N) (hW : e.2.2 ≤ 2147483647) (hb : ∀ x ∈ D, x ≤ 9223372036854775807) :
    Calls Try.prog 26 #[.agg #[.int .i64 (e.1 : Int), .int .i64 (e.2.1 : Int), .int .i64 (e.2.2 : Int)], dv] w fun r w' => Tells r (Kept D e) ∧ Grew w w' := by
  have hmix := mixed
  obtain ⟨p, c, rfl, hop⟩ := hD.openW
  obtain ⟨b, off, rfl, hbb, hc⟩ := hop (j := e.1) (by omega)
  have hal : Below w.heap.size w (w.alloc (.cells #[.int .i64 (e.1 : Int), .int .i64 (e.2.1 : Int), .int .i64 (e.2.2 : Int)] 39)) := (Below.refl _ _).alloc (Nat.le_refl _) _
  have d0 := hc _ hal e.1 (by omega)
  have d1 := hc _ hal e.2.1 (by omega)
  have b0 := hb _ (at_mem (d := D) (v := e.1) (by omega))
  have b1 := hb _ (at_mem (d := D) (v := e.2.1) (by omega))
  have y0 : (w.alloc (.cells #[.int .i64 (e.1 : Int), .int .i64 (e.2.1 : Int), .int .i64 (e.2.2 : Int)] 39)).cell? ⟨w.heap.size, 0, none⟩ = some (.int .i64 (e.1 : Int)) := new_cell rfl rfl
  have y1 : (w.alloc (.cells #[.int .i64 (e.1 : Int), .int .i64 (e.2.1 : Int), .int .i64 (e.2.2 : Int)] 39)).cell? ⟨w.heap.size, 1, none⟩ = some (.int .i64 (e.2.1 : Int)) := new_cell rfl rfl
  have y2 : (w.alloc (.cells #[.int .i64 (e.1 : Int), .int .i64 (e.2.1 : Int), .int .i64 (e.2.2 : Int)] 39)).cell? ⟨w.heap.size, 2, none⟩ = some (.int .i64 (e.2.2 : Int)) := new_cell rfl rfl
  have i0 : (e.1 : Int) < (D.length : Int) := by omega
  have i1 : (e.2.1 : Int) < (D.length : Int) := by omega
  have hg : Grew w (w.alloc (.cells #[.int .i64 (e.1 : Int), .int .i64 (e.2.1 : Int), .int .i64 (e.2.2 : Int)] 39)) := (Grew.refl w).alloc _
  have hK : Hid (Kept D e ↔ (at' D e.1 < 0 ∧ at' D e.2.1 = at' D e.1) ∨ (0 ≤ at' D e.1 ∧ 0 ≤ at' D e.2.1 ∧ at' D e.1 - at' D e.2.1 ≤ e.2.2 ∧ at' D e.2.1 - at' D e.1 ≤ e.2.2)) := Iff.rfl
  clear hc hop hb hD hal
  generalize at' D e.1 = x at *
  generalize at' D e.2.1 = y at *
  generalize Kept D e = kp at *
  go_enter Try.func26, Try.ntmps26
  go_wp2
  generalize w.alloc (.cells #[.int .i64 (e.1 : Int), .int .i64 (e.2.1 : Int), .int .i64 (e.2.2 : Int)] 39) = w1 at *
  go_quiet (fail)
  have hgq := hg.drewN nq
  have z2 : (w1.drewN nq).cell? ⟨w.heap.size, 2, none⟩ = some (.int .i64 (e.2.2 : Int)) := y2
  generalize w1.drewN nq = w2 at *
  by_cases x0 : x < 0
  · go_wp2
    go_ret
    refine ⟨⟨_, rfl, ?_⟩, hgq⟩
    rw [hK.out]
    simp
    omega
  · by_cases y0 : y < 0
    · go_wp2
      go_ret
      refine ⟨⟨_, rfl, ?_⟩, hgq⟩
      rw [hK.out]
      simp
      omega
    · by_cases z0 : x - y ≤ (e.2.2 : Int)
      · go_wp2
        go_ret
        refine ⟨⟨_, rfl, ?_⟩, hgq⟩
        rw [hK.out]
        simp
        omega
      · go_wp2
        go_ret
        refine ⟨⟨_, rfl, ?_⟩, hgq⟩
        rw [hK.out]
        simp
        omega

/-- Is there an edge at this place that ends at v? -/
def endsB (L : List Eg) (place : Int) (v : Nat) : Bool := decide (0 ≤ place) && (match L[place.toNat]? with
  | some e => decide (e.1 = v ∨ e.2.1 = v)
  | none => false)
theorem ends_iff {L : List Eg} {place : Int} {v : Nat} : endsB L place v = true ↔ ∃ i : Nat, place = i ∧ ∃ e, L[i]? = some e ∧ (e.1 = v ∨ e.2.1 = v) := by
  unfold endsB
  constructor
  · intro h
    rw [Bool.and_eq_true] at h
    refine ⟨place.toNat, by have := h.1; simp at this; omega, ?_⟩
    have h2 := h.2
    cases hL : L[place.toNat]? with
    | none => rw [hL] at h2; simp at h2
    | some e => rw [hL] at h2; exact ⟨e, rfl, by simpa using h2⟩
  · rintro ⟨i, rfl, e, he, hv⟩
    rw [Int.toNat_natCast, he]
    simpa using hv
set_option maxRecDepth 100000 in
set_option maxHeartbeats 2000000 in
theorem endsAt_any (n : Int) (L : List Eg) (place : Int) (v : Nat) (sv : Value) (w : World) (hl : Edges w.heap.size w sv (L.map edE)) :
    Calls Try.prog 29 #[.agg #[.int .i64 n, sv], .int .i64 place, .int .i64 (v : Int)] w fun r w' => r = .returned (.bool (endsB L place v)) ∧ Grew w w' := by
  obtain ⟨p, c, rfl⟩ := hl.lenG
  have hg : Grew w (w.alloc (.cells #[.int .i64 n, .slice p L.length c] 24)) := (Grew.refl w).alloc _
  by_cases h0 : 0 ≤ place
  · obtain ⟨i, rfl⟩ : ∃ i : Nat, place = i := ⟨place.toNat, by omega⟩
    by_cases h1 : i < L.length
    · obtain ⟨b, off, rfl, hbb, hcap, hc⟩ := hl.eg h1
      obtain ⟨c0, c1, c2⟩ := hc _ hg.below i h1
      have h1' : (i : Int) < (L.length : Int) := by omega
      have hE : endsB L (i : Int) v = (decide (L[i].1 = v ∨ L[i].2.1 = v)) := by
        unfold endsB
        rw [Int.toNat_natCast, List.getElem?_eq_getElem h1]
        simp
      rw [hE]
      clear hE hc hl
      generalize L[i].1 = x at *
      generalize L[i].2.1 = y at *
      have hE : ∃ r, Hid (decide (x = v ∨ y = v) = r) := ⟨_, show Hid _ from rfl⟩
      obtain ⟨r, HR⟩ := hE
      rw [HR.out]
      by_cases hx : x = v
      · have hR : r = true := by rw [← HR.out]; simp [hx]
        subst hR hx
        go_enter Try.func29, Try.ntmps29
        go_wp2
        go_ret
        exact ⟨rfl, hg⟩
      · have hx' : ¬ (x : Int) = (v : Int) := by omega
        by_cases hy : y = v
        · have hR : r = true := by rw [← HR.out]; simp [hy]
          subst hR hy
          go_enter Try.func29, Try.ntmps29
          go_wp2
          go_ret
          exact ⟨by simp, hg⟩
        · have hR : r = false := by rw [← HR.out]; simp [hx, hy]
          have hy' : ¬ (y : Int) = (v : Int) := by omega
          subst hR
          go_enter Try.func29, Try.ntmps29
          go_wp2
          go_ret
          exact ⟨by simp [hx', hy'], hg⟩
    · have hE : endsB L (i : Int) v = false := by
        unfold endsB
        rw [Int.toNat_natCast, List.getElem?_eq_none (by omega)]
        simp
      have h1' : ¬ (i : Int) < (L.length : Int) := by omega
      rw [hE]
      go_enter Try.func29, Try.ntmps29
      go_wp2
      go_ret
      exact ⟨by simp, hg⟩
  · have hE : endsB L place v = false := by unfold endsB; simp [h0]
    rw [hE]
    go_enter Try.func29, Try.ntmps29
    go_wp2
    go_ret
    exact ⟨by simp, hg⟩
/-- What is told of v is right. -/
def RA (L : List Eg) (D V : List Int) (v : Nat) : Prop := (at' D v = -1 ∧ at' V v = -1) ∨ (0 ≤ at' D v ∧ Last L D V v)
set_option maxRecDepth 100000 in
set_option maxHeartbeats 4000000 in
theorem isRightAt_any (N : Nat) (L : List Eg) (hE : ∀ e ∈ L, e.1 < N ∧ e.2.1 < N) (hW : ∀ e ∈ L, e.2.2 ≤ 2147483647) (D V : List Int) (v : Nat) (hv : v < N) (sv dv vv : Value) (w : World) (hl : Edges w.heap.size w sv (L.map edE)) (hD : Ints w.heap.size w dv D) (hV : Ints w.heap.size w vv V) (lD : D.length = N) (lV : V.length = N) (hb : ∀ x ∈ D, x ≤ 9223372036854775807) :
    Calls Try.prog 27 #[.agg #[.int .i64 (N : Int), sv], .int .i64 (v : Int), dv, vv] w fun r w' => Tells r (RA L D V v) ∧ Grew w w' := by
  have hmix := mixed
  obtain ⟨p, c, rfl⟩ := hl.lenG
  obtain ⟨pd, cd, rfl, hod⟩ := hD.openW
  obtain ⟨pv, cv, rfl, hov⟩ := hV.openW
  obtain ⟨bd, od, rfl, hbd, hcd⟩ := hod (j := v) (by omega)
  obtain ⟨bv, ov, rfl, hbv, hcv⟩ := hov (j := v) (by omega)
  have hg : Grew w (w.alloc (.cells #[.int .i64 (N : Int), .slice p L.length c] 24)) := (Grew.refl w).alloc _
  have hX : Blk 24 (w.alloc (.cells #[.int .i64 (N : Int), .slice p L.length c] 24)) w.heap.size [.int .i64 (N : Int), .slice p L.length c] := heap_alloc_new w _
  have d0 := hcd _ hg.below v (by omega)
  have v0 := hcv _ hg.below v (by omega)
  have hvD : (v : Int) < (D.length : Int) := by omega
  have hvV : (v : Int) < (V.length : Int) := by omega
  have HCD : Hid _ := hcd
  have HCV : Hid _ := hcv
  have HL : Hid _ := hl
  have b0 := hb _ (at_mem (d := D) (v := v) (by omega))
  clear hcd hcv hod hov hD hV hl
  by_cases h0 : at' D v < 0
  · have hR : Hid (RA L D V v ↔ at' D v = -1 ∧ at' V v = -1) := by
      unfold Hid RA
      constructor
      · rintro (h | h)
        · exact h
        · omega
      · exact .inl
    generalize RA L D V v = P at *
    generalize at' D v = x at *
    generalize at' V v = y at *
    by_cases h1 : x = -1
    · go_enter Try.func27, Try.ntmps27
      go_wp2
      go_ret
      refine ⟨⟨_, rfl, ?_⟩, hg⟩
      rw [hR.out]
      simp [h1]
    · go_enter Try.func27, Try.ntmps27
      go_wp2
      go_ret
      refine ⟨⟨_, rfl, ?_⟩, hg⟩
      rw [hR.out]
      simp [h1]
  · have hea : ∀ W, Below w.heap.size w W → Calls Try.prog 29 #[.agg #[.int .i64 (N : Int), .slice p L.length c], .int .i64 (at' V v), .int .i64 (v : Int)] W fun r w' => r = .returned (.bool (endsB L (at' V v) v)) ∧ Grew W w' := fun W h => endsAt_any (N : Int) L (at' V v) v _ W ((Edges.below HL.out h).mono h.size)
    have q0 := hX.cell (j := 0) rfl
    have q1 := hX.cell (j := 1) rfl
    have hwl : w.heap.size < (w.alloc (.cells #[.int .i64 (N : Int), .slice p L.length c] 24)).heap.size := by simp
    go_enter Try.func27, Try.ntmps27
    go_wp2
    generalize w.alloc (.cells #[.int .i64 (N : Int), .slice p L.length c] 24) = w1 at *
    have q0g := cell_grown (a := ⟨w.heap.size, 0, none⟩) hwl q0
    have q1g := cell_grown (a := ⟨w.heap.size, 1, none⟩) hwl q1
    have v0g := cell_grown (a := ⟨bv, ov + v, none⟩) (by show bv < _; omega) v0
    have hea1 : ∀ n os, Calls Try.prog 29 #[.agg #[.int .i64 (N : Int), .slice p L.length c], .int .i64 (at' V v), .int .i64 (v : Int)] (Go.Sort.grow (w1.drewN n) os) fun r w' => r = .returned (.bool (endsB L (at' V v) v)) ∧ Grew (Go.Sort.grow (w1.drewN n) os) w' := fun n os => hea _ ((hg.trans ⟨n, os, rfl⟩).below)
    go_quiet_grown (first | (go_at_call 29; refine Calls.grown_of (hea1 _ _)))
    have hg2 := hg.trans ⟨nq, osq, rfl⟩
    have hX2 := hX.go (Grew.below ⟨nq, osq, rfl⟩)
    generalize Go.Sort.grow (w1.drewN nq) osq = w2 at *
    clear q0g q1g v0g hea1 hea q0 q1 d0 v0 hX hg hwl
    cases hen : endsB L (at' V v) v with
    | false =>
      have hR : Hid (¬ RA L D V v) := fun h => by
        rcases h with h | ⟨_, i, h1, e, h2, h3, _⟩
        · omega
        · have : endsB L (at' V v) v = true := ends_iff.2 ⟨i, h1, e, h2, h3⟩
          rw [hen] at this
          cases this
      go_wp2
      go_ret
      exact ⟨⟨false, rfl, by simpa using hR.out⟩, hg2⟩
    | true =>
      obtain ⟨i, hvi, e, he, hev⟩ := ends_iff.1 hen
      have hil := (List.getElem?_eq_some_iff.1 he).1
      have hie := (List.getElem?_eq_some_iff.1 he).2
      obtain ⟨bl, ol, rfl, hbl, hcl, hcel⟩ := Edges.eg HL.out hil
      obtain ⟨e0, e1, e2⟩ := hcel _ hg2.below i hil
      rw [hie] at e0 e1 e2
      have hends := hE e (List.mem_of_getElem? he)
      have hwt := hW e (List.mem_of_getElem? he)
      have hon : oth e v < N := by rcases oth_jn hev with ⟨a, b⟩ | ⟨a, b⟩ <;> omega
      have hR : Hid (RA L D V v ↔ at' D (oth e v) = at' D v - e.2.2) := by
        unfold Hid RA
        constructor
        · rintro (h | ⟨_, j, h1, e', h2, h3, h4⟩)
          · omega
          · have hji : j = i := by omega
            subst hji
            rw [he] at h2
            obtain rfl := Option.some.inj h2
            exact h4
        · intro h
          exact .inr ⟨h0, i, hvi, e, he, hev, h⟩
      have v0 := HCV.out w2 hg2.below v (by omega)
      rw [hvi] at v0
      have q1 := hX2.cell (j := 1) rfl
      have hil' : (i : Int) < (L.length : Int) := by omega
      have HE2 : Hid _ := hen
      have hz2 : w.heap.size < w2.heap.size := hX2.lt
      have hz3 : bv < w2.heap.size := by omega
      have hz4 : bl < w2.heap.size := by omega
      clear hcel he hie hev hen hvi
      go_wp2
      go_big_region_o
      have hg3 : Grew w ((w2.alloc (.cells #[.int .i64 (e.1 : Int), .int .i64 (e.2.1 : Int), .int .i64 (e.2.2 : Int)] 39)).drewN 1) := (hg2.alloc _).drewN 1
      have hX3 : Blk 39 ((w2.alloc (.cells #[.int .i64 (e.1 : Int), .int .i64 (e.2.1 : Int), .int .i64 (e.2.2 : Int)] 39)).drewN 1) w2.heap.size [.int .i64 (e.1 : Int), .int .i64 (e.2.1 : Int), .int .i64 (e.2.2 : Int)] := heap_alloc_new w2 _
      clear e0 e1 e2 v0 q1 hX2 hg2
      go_wp2
      generalize w2.heap.size = eb at *
      have hdd : (w2.alloc (.cells #[.int .i64 (e.1 : Int), .int .i64 (e.2.1 : Int), .int .i64 (e.2.2 : Int)] 39)).drewN 1 = (w2.alloc (.cells #[.int .i64 (e.1 : Int), .int .i64 (e.2.1 : Int), .int .i64 (e.2.2 : Int)] 39)).drew := rfl
      rw [hdd] at hg3 hX3
      clear hdd
      generalize (w2.alloc (.cells #[.int .i64 (e.1 : Int), .int .i64 (e.2.1 : Int), .int .i64 (e.2.2 : Int)] 39)).drew = w3 at *
      have y0 := cell_grown (a := ⟨eb, 0, none⟩) hX3.lt (hX3.cell (j := 0) rfl)
      have y1 := cell_grown (a := ⟨eb, 1, none⟩) hX3.lt (hX3.cell (j := 1) rfl)
      have y2 := cell_grown (a := ⟨eb, 2, none⟩) hX3.lt (hX3.cell (j := 2) rfl)
      have hs3 := hg3.below.size
      have d0 := cell_grown (a := ⟨bd, od + v, none⟩) (by show bd < _; omega) (HCD.out w3 hg3.below v (by omega))
      have d1 := cell_grown (a := ⟨bd, od + oth e v, none⟩) (by show bd < _; omega) (HCD.out w3 hg3.below (oth e v) (by omega))
      have hon' : ((oth e v : Nat) : Int) < (N : Int) := by omega
      have hvN : (v : Int) < (N : Int) := by omega
      have hon2 : ((oth e v : Nat) : Int) < (D.length : Int) := by omega
      have hot := fun W => other_any e v W
      generalize oth e v = u at *
      generalize at' D u = x at *
      generalize at' D v = y at *
      have hwr := wrap_i (y - (e.2.2 : Int)) (by omega) (by omega)
      go_quiet_grown (first | (go_at_call 30; refine Calls.grown_of (hot _)))
      have hg4 := hg3.trans ⟨nq, osq, rfl⟩
      go_wp2
      go_ret
      refine ⟨⟨_, rfl, ?_⟩, hg4⟩
      rw [hR.out]
      simp
end Go.Proofs.Ytejemnjadgihbaa
