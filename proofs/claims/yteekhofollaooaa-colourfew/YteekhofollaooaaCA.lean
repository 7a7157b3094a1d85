/-
  The contracts of slices.IndexFunc and slices.ContainsFunc at numbers, of any predicate that leaves the world as it is.
-/
import Derived.WalkMore
import Derived.Test.YteekhofollaooaaQA
import Derived.Laws.EntriesVeiled
import Derived.Test.YteekhofollaooaaQF
namespace Go.Proofs.Yteekhofollaooaa
open Go Go.Proofs Go.RowKit

/-- The first place of which p holds, or -1. -/
def idxF (p : Int → Bool) (L : List Int) : Int := match L.findIdx? p with
  | some i => i
  | none => -1
theorem idxF_at {p : Int → Bool} {L : List Int} {j : Nat} (hj : j < L.length) (h : p L[j] = true) (hno : ∀ (i : Nat) (h1 : i < L.length), i < j → p L[i] = false) : idxF p L = j := by
  unfold idxF
  have : L.findIdx? p = some j := by
    rw [List.findIdx?_eq_some_iff_getElem]
    exact ⟨hj, h, fun i hi => by rw [hno i (by omega) hi]; simp⟩
  rw [this]
theorem idxF_no {p : Int → Bool} {L : List Int} (hno : ∀ (i : Nat) (h1 : i < L.length), p L[i] = false) : idxF p L = -1 := by
  unfold idxF
  have : L.findIdx? p = none := by
    rw [List.findIdx?_eq_none_iff]
    intro x hx
    obtain ⟨i, hi, rfl⟩ := List.getElem_of_mem hx
    exact hno i hi
  rw [this]
theorem idxF_any (p : Int → Bool) (L : List Int) : decide (0 ≤ idxF p L) = L.any p := by
  unfold idxF
  cases h : L.findIdx? p with
  | none =>
    rw [List.findIdx?_eq_none_iff] at h
    have : L.any p = false := by rw [List.any_eq_false]; intro x hx; rw [h x hx]; simp
    rw [this]
    rfl
  | some i =>
    have h1 := h
    rw [List.findIdx?_eq_some_iff_getElem] at h1
    obtain ⟨hi, hp, _⟩ := h1
    have : L.any p = true := by rw [List.any_eq_true]; exact ⟨L[i], List.getElem_mem hi, hp⟩
    rw [this]
    simp

set_option maxRecDepth 100000 in
set_option maxHeartbeats 2000000 in
theorem indexF_any (f : Nat) (caps : Array Value) (p : Int → Bool) (hent : ∀ (args : Array Value) (W : World), (callFunc f args).run Try.prog W = .ok (.enter f args) W) (L : List Int) (hL : L.length ≤ 8388608) (sv : Value) (n : Nat) (w : World) (h : Ints n w sv L)
    (hp : ∀ x ∈ L, Calls Try.prog f (#[.int .i64 x] ++ caps) w fun e w' => e = .returned (.bool (p x)) ∧ w' = w) :
    Calls Try.prog 40 #[sv, .func (.func f) #[] caps] w fun e w' => e = .returned (.int .i64 (idxF p L)) ∧ w' = w := by
  obtain ⟨pp, c, rfl⟩ := h.len
  have HI : Hid (Ints n w (.slice pp L.length c) L) := h
  have HP : Hid (∀ x ∈ L, Calls Try.prog f (#[.int .i64 x] ++ caps) w fun e w' => e = .returned (.bool (p x)) ∧ w' = w) := hp
  clear h hp
  go_enter Try.func40, Try.ntmps40
  go_wp2
  go_loopw [8] (fun iv wr => ∃ j : Nat, j ≤ L.length ∧ iv = .int .i64 j ∧ Hid (∀ (i : Nat) (h1 : i < L.length), i < j → p L[i] = false) ∧ wr = w) (fun i _ => L.length - (intOf i).toNat)
  case atStart => exact ⟨0, Nat.zero_le _, rfl, fun i _ h => by omega, rfl⟩
  case round =>
    obtain ⟨j, hj, rfl, HS, rfl⟩ := hrel
    by_cases hlt : j < L.length
    · have hjl : (j : Int) < (L.length : Int) := by omega
      obtain ⟨b, off, rfl, hbb, hcap, hc⟩ := HI.out.open hlt
      have c0 := hc wr (Below.refl _ _) j hlt
      have hcl := HP.out L[j] (List.getElem_mem hlt)
      cases hv : p L[j] with
      | false =>
        have HS2 : Hid (∀ (i : Nat) (h1 : i < L.length), i < j + 1 → p L[i] = false) := fun i h1 h => by
          by_cases e : i = j
          · subst e; exact hv
          · exact HS.out i h1 (by omega)
        have HLT : Hid (j < L.length) := hlt
        rw [hv] at hcl
        generalize L[j] = x at c0 hcl
        clear HS hlt hc hv
        go_wp2_with fail
        refine hcl.mono ?_
        clear hcl
        rintro e w2 ⟨rfl, rfl⟩
        go_wp2
        exact ⟨⟨j + 1, HLT.out, by go_num, HS2.out, trivial⟩, by have := HLT.out; simp [intOf]; omega⟩
      | true =>
        have HE : Hid (idxF p L = j) := idxF_at hlt hv HS.out
        rw [hv] at hcl
        generalize L[j] = x at c0 hcl
        clear HS hlt hc hv
        go_wp2_with fail
        refine hcl.mono ?_
        clear hcl
        rintro e w2 ⟨rfl, rfl⟩
        go_wp2
        go_ret
        exact ⟨by rw [HE.out]; rfl, rfl⟩
    · obtain rfl : j = L.length := by omega
      have HE : Hid (idxF p L = -1) := idxF_no fun i hi => HS.out i hi hi
      clear HS
      go_wp2
      go_ret
      exact ⟨by rw [HE.out]; rfl, rfl⟩

set_option maxRecDepth 100000 in
set_option maxHeartbeats 2000000 in
theorem containsF_any (f : Nat) (caps : Array Value) (p : Int → Bool) (hent : ∀ (args : Array Value) (W : World), (callFunc f args).run Try.prog W = .ok (.enter f args) W) (L : List Int) (hL : L.length ≤ 8388608) (sv : Value) (n : Nat) (w : World) (h : Ints n w sv L)
    (hp : ∀ x ∈ L, Calls Try.prog f (#[.int .i64 x] ++ caps) w fun e w' => e = .returned (.bool (p x)) ∧ w' = w) :
    Calls Try.prog 21 #[sv, .func (.func f) #[] caps] w fun e w' => e = .returned (.bool (L.any p)) ∧ w' = w := by
  have hi := indexF_any f caps p hent L hL sv n w h hp
  obtain ⟨pp, c, rfl⟩ := h.len
  have HA : Hid (decide (0 ≤ idxF p L) = L.any p) := idxF_any p L
  clear h hp
  generalize idxF p L = k at *
  go_enter Try.func21, Try.ntmps21
  go_wp2_with fail
  refine hi.mono ?_
  clear hi
  rintro e w2 ⟨rfl, rfl⟩
  go_wp2
  go_ret
  exact ⟨by rw [← HA.out]; rfl, rfl⟩
end Go.Proofs.Yteekhofollaooaa

namespace Go.Proofs.Yteekhofollaooaa
open Go Go.Proofs Go.RowKit

def idxE (p : Ed → Bool) (L : List Ed) : Int := match L.findIdx? p with
  | some i => i
  | none => -1
theorem idxE_at {p : Ed → Bool} {L : List Ed} {j : Nat} (hj : j < L.length) (h : p L[j] = true) (hno : ∀ (i : Nat) (h1 : i < L.length), i < j → p L[i] = false) : idxE p L = j := by
  unfold idxE
  have : L.findIdx? p = some j := by
    rw [List.findIdx?_eq_some_iff_getElem]
    exact ⟨hj, h, fun i hi => by rw [hno i (by omega) hi]; simp⟩
  rw [this]
theorem idxE_no {p : Ed → Bool} {L : List Ed} (hno : ∀ (i : Nat) (h1 : i < L.length), p L[i] = false) : idxE p L = -1 := by
  unfold idxE
  have : L.findIdx? p = none := by
    rw [List.findIdx?_eq_none_iff]
    intro x hx
    obtain ⟨i, hi, rfl⟩ := List.getElem_of_mem hx
    exact hno i hi
  rw [this]
theorem idxE_any (p : Ed → Bool) (L : List Ed) : decide (0 ≤ idxE p L) = L.any p := by
  unfold idxE
  cases h : L.findIdx? p with
  | none =>
    rw [List.findIdx?_eq_none_iff] at h
    have : L.any p = false := by rw [List.any_eq_false]; intro x hx; rw [h x hx]; simp
    rw [this]
    rfl
  | some i =>
    have h1 := h
    rw [List.findIdx?_eq_some_iff_getElem] at h1
    obtain ⟨hi, hp, _⟩ := h1
    have : L.any p = true := by rw [List.any_eq_true]; exact ⟨L[i], List.getElem_mem hi, hp⟩
    rw [this]
    simp

set_option maxRecDepth 100000 in
set_option maxHeartbeats 2000000 in
theorem indexE_any (f : Nat) (caps : Array Value) (p : Ed → Bool) (hent : ∀ (args : Array Value) (W : World), (callFunc f args).run Try.prog W = .ok (.enter f args) W) (L : List Ed) (hL : L.length ≤ 8388608) (sv : Value) (w : World) (h : Edges w.heap.size w sv L)
    (hp : ∀ x ∈ L, ∀ W, Grew w W → Calls Try.prog f (#[edV x] ++ caps) W fun e w' => e = .returned (.bool (p x)) ∧ Grew W w') :
    Calls Try.prog 41 #[sv, .func (.func f) #[] caps] w fun e w' => e = .returned (.int .i64 (idxE p L)) ∧ Grew w w' := by
  obtain ⟨pp, c, rfl⟩ := h.len
  have HI : Hid (Edges w.heap.size w (.slice pp L.length c) L) := h
  have HP : Hid (∀ x ∈ L, ∀ W, Grew w W → Calls Try.prog f (#[edV x] ++ caps) W fun e w' => e = .returned (.bool (p x)) ∧ Grew W w') := hp
  clear h hp
  go_enter Try.func41, Try.ntmps41
  go_wp2
  go_loopw [8] (fun iv wr => ∃ j : Nat, j ≤ L.length ∧ iv = .int .i64 j ∧ Hid (∀ (i : Nat) (h1 : i < L.length), i < j → p L[i] = false) ∧ Grew w wr) (fun i _ => L.length - (intOf i).toNat)
  case atStart => exact ⟨0, Nat.zero_le _, rfl, fun i _ h => by omega, Grew.refl _⟩
  case round =>
    obtain ⟨j, hj, rfl, HS, hg⟩ := hrel
    by_cases hlt : j < L.length
    · have hjl : (j : Int) < (L.length : Int) := by omega
      obtain ⟨b, off, rfl, hbb, hcap, hc, -⟩ := HI.out.open hlt
      obtain ⟨c0, c1, c2⟩ := hc wr hg.below j hlt
      have hcl := HP.out L[j] (List.getElem_mem hlt) wr hg
      have HG : Hid (Grew w wr) := hg
      cases hv : p L[j] with
      | false =>
        have HS2 : Hid (∀ (i : Nat) (h1 : i < L.length), i < j + 1 → p L[i] = false) := fun i h1 h => by
          by_cases e : i = j
          · subst e; exact hv
          · exact HS.out i h1 (by omega)
        have HLT : Hid (j < L.length) := hlt
        rw [hv] at hcl
        unfold edV at hcl
        clear HS hc hv hg
        generalize L[j].1 = x at c0 hcl
        generalize L[j].2.1 = y at c1 hcl
        generalize L[j].2.2 = z at c2 hcl
        clear hlt
        go_wp2_with fail
        refine hcl.mono ?_
        clear hcl
        rintro e w2 ⟨rfl, hg2⟩
        have HG2 : Hid (Grew w w2) := HG.out.trans hg2
        clear hg2 HG c0 c1 c2
        go_wp2
        exact ⟨⟨j + 1, HLT.out, by go_num, HS2.out, HG2.out⟩, by have := HLT.out; simp [intOf]; omega⟩
      | true =>
        have HE : Hid (idxE p L = j) := idxE_at hlt hv HS.out
        rw [hv] at hcl
        unfold edV at hcl
        clear HS hc hv hg
        generalize L[j].1 = x at c0 hcl
        generalize L[j].2.1 = y at c1 hcl
        generalize L[j].2.2 = z at c2 hcl
        clear hlt
        go_wp2_with fail
        refine hcl.mono ?_
        clear hcl
        rintro e w2 ⟨rfl, hg2⟩
        have HG2 : Hid (Grew w w2) := HG.out.trans hg2
        clear hg2 HG c0 c1 c2
        go_wp2
        go_ret
        exact ⟨by rw [HE.out]; rfl, HG2.out⟩
    · obtain rfl : j = L.length := by omega
      have HE : Hid (idxE p L = -1) := idxE_no fun i hi => HS.out i hi hi
      have HG : Hid (Grew w wr) := hg
      clear HS hg
      go_wp2
      go_ret
      exact ⟨by rw [HE.out]; rfl, HG.out⟩

set_option maxRecDepth 100000 in
set_option maxHeartbeats 2000000 in
theorem containsE_any (f : Nat) (caps : Array Value) (p : Ed → Bool) (hent : ∀ (args : Array Value) (W : World), (callFunc f args).run Try.prog W = .ok (.enter f args) W) (L : List Ed) (hL : L.length ≤ 8388608) (sv : Value) (w : World) (h : Edges w.heap.size w sv L)
    (hp : ∀ x ∈ L, ∀ W, Grew w W → Calls Try.prog f (#[edV x] ++ caps) W fun e w' => e = .returned (.bool (p x)) ∧ Grew W w') :
    Calls Try.prog 22 #[sv, .func (.func f) #[] caps] w fun e w' => e = .returned (.bool (L.any p)) ∧ Grew w w' := by
  have hi := indexE_any f caps p hent L hL sv w h hp
  obtain ⟨pp, c, rfl⟩ := h.len
  have HA : Hid (decide (0 ≤ idxE p L) = L.any p) := idxE_any p L
  clear h hp
  generalize idxE p L = k at *
  go_enter Try.func22, Try.ntmps22
  go_wp2_with fail
  refine hi.mono ?_
  clear hi
  rintro e w2 ⟨rfl, hg2⟩
  have HG2 : Hid (Grew w w2) := hg2
  clear hg2
  go_wp2
  go_ret
  exact ⟨by rw [← HA.out]; rfl, HG2.out⟩
end Go.Proofs.Yteekhofollaooaa

namespace Go.Proofs.Yteekhofollaooaa
open Go Go.Proofs Go.RowKit

def offB (most : Int) (x : Int) : Bool := decide (x < 0) || decide (most ≤ x)
def oneB (c : List Int) (e : Ed) : Bool := decide (c.getD e.1.toNat 0 = c.getD e.2.1.toNat 0)
/-- What colour.Check answers. -/
def chkK (n : Int) (l : List Ed) (c : List Int) (most : Int) : Int := if rightK n l = 0 then (if (c.length : Int) = n then (if c.any (offB most) then 13 else if l.any (oneB c) then 13 else 0) else 13) else 1

set_option maxRecDepth 100000 in
theorem check1_any (x most : Int) (mb : Nat) (w : World) (hm : w.cell? ⟨mb, 0, none⟩ = some (.int .i64 most)) :
    Calls Try.prog 20 #[.int .i64 x, .pointer (some ⟨mb, 0, none⟩)] w fun e w' => e = .returned (.bool (offB most x)) ∧ w' = w := by
  by_cases hx : x < 0
  · have HE : Hid (offB most x = true) := by simp [Hid, offB, hx]
    go_enter Try.func20, Try.ntmps20
    go_wp2
    go_ret
    exact ⟨by rw [HE.out]; rfl, rfl⟩
  · have HE : Hid (offB most x = decide (most ≤ x)) := by simp [Hid, offB, hx]
    go_enter Try.func20, Try.ntmps20
    go_wp2
    go_ret
    exact ⟨by rw [HE.out]; rfl, rfl⟩

set_option maxRecDepth 100000 in
set_option maxHeartbeats 2000000 in
theorem check2_any (e : Ed) (c : List Int) (h1 : 0 ≤ e.1) (h2 : e.1 < c.length) (h3 : 0 ≤ e.2.1) (h4 : e.2.1 < c.length) (p : Option Addr) (k cb n : Nat) (w : World) (hc : w.cell? ⟨cb, 0, none⟩ = some (.slice p c.length k)) (hI : Ints n w (.slice p c.length k) c) (hn : n ≤ w.heap.size) :
    Calls Try.prog 23 #[edV e, .pointer (some ⟨cb, 0, none⟩)] w fun r w' => r = .returned (.bool (oneB c e)) ∧ Grew w w' := by
  obtain ⟨x, y, z⟩ := e
  simp only at h1 h2 h3 h4
  obtain ⟨u, rfl⟩ : ∃ u : Nat, x = (u : Int) := ⟨x.toNat, by omega⟩
  obtain ⟨v, rfl⟩ : ∃ v : Nat, y = (v : Int) := ⟨y.toNat, by omega⟩
  have hu : u < c.length := by omega
  have hv : v < c.length := by omega
  obtain ⟨b, off, rfl, hbb, hcap, hcl⟩ := hI.open hu
  have hbA : Below w.heap.size w (w.alloc (.cells #[.int .i64 (u : Int), .int .i64 (v : Int), .int .i64 z] 41)) := (Below.refl _ _).alloc (Nat.le_refl _) _
  have c0 := hcl _ (hbA.mono hn) u hu
  have c1 := hcl _ (hbA.mono hn) v hv
  have q0 := cell_keepK hbA hc
  have HE : Hid (oneB c ((u : Int), (v : Int), z) = decide (c[u] = c[v])) := by
    unfold Hid oneB
    simp only [Int.toNat_natCast, List.getD_eq_getElem?_getD, List.getElem?_eq_getElem hu, List.getElem?_eq_getElem hv, Option.getD_some]
  have hg : Grew w (w.alloc (.cells #[.int .i64 (u : Int), .int .i64 (v : Int), .int .i64 z] 41)) := (Grew.refl w).alloc _
  have HG : Hid _ := hg
  clear hcl hI hbA hg
  generalize c[u] = x at *
  generalize c[v] = y at *
  have huI : (u : Int) < (c.length : Int) := by omega
  have hvI : (v : Int) < (c.length : Int) := by omega
  unfold edV
  simp only
  go_enter Try.func23, Try.ntmps23
  go_wp2
  go_quiet (fail)
  go_wp2
  go_ret
  exact ⟨by rw [HE.out]; rfl, Grew.drewN HG.out nq⟩

set_option maxRecDepth 100000 in
set_option maxHeartbeats 4000000 in
theorem check_any (n : Int) (l : List Ed) (c : List Int) (hcl : c.length ≤ 9223372036854775807) (most : Int) (sv cv : Value) (w : World) (hl : Edges w.heap.size w sv l) (hc : Ints w.heap.size w cv c) :
    Calls Try.prog 8 #[.agg #[.int .i64 n, sv], cv, .int .i64 most] w fun e w' => e = .returned (.int .i64 (chkK n l c most)) ∧ Grew w w' := by
  obtain ⟨p, k, rfl⟩ := hl.len
  obtain ⟨q, d, rfl⟩ := hc.len
  have hg3 : Grew w (((w.alloc (.cells #[.int .i64 n, .slice p l.length k] 24)).alloc (.cells #[.slice q c.length d] 25)).alloc (.cells #[.int .i64 most] 3)) := (((Grew.refl w).alloc _).alloc _).alloc _
  have hX : Blk 24 (((w.alloc (.cells #[.int .i64 n, .slice p l.length k] 24)).alloc (.cells #[.slice q c.length d] 25)).alloc (.cells #[.int .i64 most] 3)) w.heap.size [.int .i64 n, .slice p l.length k] := by
    have h1 : Blk 24 (w.alloc (.cells #[.int .i64 n, .slice p l.length k] 24)) w.heap.size [.int .i64 n, .slice p l.length k] := heap_alloc_new w _
    exact h1.go ((((Grew.refl _).alloc _).alloc _).below)
  have hC : Blk 25 (((w.alloc (.cells #[.int .i64 n, .slice p l.length k] 24)).alloc (.cells #[.slice q c.length d] 25)).alloc (.cells #[.int .i64 most] 3)) (w.heap.size + 1) [.slice q c.length d] := by
    have h1 : Blk 25 ((w.alloc (.cells #[.int .i64 n, .slice p l.length k] 24)).alloc (.cells #[.slice q c.length d] 25)) (w.heap.size + 1) [.slice q c.length d] := by
      have := heap_alloc_new (w.alloc (.cells #[.int .i64 n, .slice p l.length k] 24)) (.cells #[.slice q c.length d] 25)
      simpa [Blk] using this
    exact h1.go (((Grew.refl _).alloc _).below)
  have hM : Blk 3 (((w.alloc (.cells #[.int .i64 n, .slice p l.length k] 24)).alloc (.cells #[.slice q c.length d] 25)).alloc (.cells #[.int .i64 most] 3)) (w.heap.size + 1 + 1) [.int .i64 most] := by
    have := heap_alloc_new ((w.alloc (.cells #[.int .i64 n, .slice p l.length k] 24)).alloc (.cells #[.slice q c.length d] 25)) (.cells #[.int .i64 most] 3)
    simpa [Blk] using this
  have q0 := hX.cell (j := 0) rfl
  have q1 := hX.cell (j := 1) rfl
  have hrc := right_any n l (.slice p l.length k) _ (hl.go hg3.below)
  have hent1 : ∀ (args : Array Value) (W : World), (callFunc 20 args).run Try.prog W = .ok (.enter 20 args) W := fun args W => by kernel_rfl
  have hent2 : ∀ (args : Array Value) (W : World), (callFunc 23 args).run Try.prog W = .ok (.enter 23 args) W := fun args W => by kernel_rfl
  have HL : Hid (Edges w.heap.size w (.slice p l.length k) l) := hl
  have HI : Hid (Ints w.heap.size w (.slice q c.length d) c) := hc
  have HX : Hid _ := hX
  have HC : Hid _ := hC
  have HM : Hid _ := hM
  have HG3 : Hid _ := hg3
  clear hl hc hX hC hM hg3
  go_enter Try.func8, Try.ntmps8
  go_wp2_with fail
  generalize ((w.alloc (.cells #[.int .i64 n, .slice p l.length k] 24)).alloc (.cells #[.slice q c.length d] 25)).alloc (.cells #[.int .i64 most] 3) = w3 at *
  refine hrc.mono ?_
  rintro e w4 ⟨rfl, hg4⟩
  have hb4 := hg4.below
  have HX4 : Hid (Blk 24 w4 w.heap.size [.int .i64 n, .slice p l.length k]) := Blk.go HX.out hb4
  have HC4 : Hid (Blk 25 w4 (w.heap.size + 1) [.slice q c.length d]) := Blk.go HC.out hb4
  have HM4 : Hid (Blk 3 w4 (w.heap.size + 1 + 1) [.int .i64 most]) := Blk.go HM.out hb4
  have HG4 : Hid (Grew w w4) := Grew.trans HG3.out hg4
  clear hrc hg4 hb4 HX HC HM HG3 q0 q1
  by_cases hr : rightK n l = 0
  · have hR := right_iff.1 hr
    have hn1 := hR.n1
    have hm1 := hR.m1
    rw [hr]
    have q0 := HX4.out.cell (j := 0) rfl
    have q1 := HX4.out.cell (j := 1) rfl
    have c0 := HC4.out.cell (j := 0) rfl
    have m0 := HM4.out.cell (j := 0) rfl
    by_cases hlen : (c.length : Int) = n
    · have hc8 : c.length ≤ 8388608 := by omega
      have hI4 : Ints w.heap.size w4 (.slice q c.length d) c := Vals.below HI.out (Grew.below HG4.out)
      have hcf := containsF_any 20 #[.pointer (some ⟨w.heap.size + 1 + 1, 0, none⟩)] (offB most) hent1 c hc8 (.slice q c.length d) w.heap.size w4 hI4 (fun x _ => check1_any x most _ w4 m0)
      cases ha : c.any (offB most) with
      | true =>
        have HE : Hid (chkK n l c most = 13) := by unfold Hid chkK; rw [if_pos hr, if_pos hlen, ha]; rfl
        rw [ha] at hcf
        clear hI4 ha hr hR
        go_wp2_with fail
        refine hcf.mono ?_
        clear hcf
        rintro e w5 ⟨rfl, rfl⟩
        go_wp2
        go_ret
        exact ⟨by rw [HE.out]; rfl, HG4.out⟩
      | false =>
        rw [ha] at hcf
        have hce := containsE_any 23 #[.pointer (some ⟨w.heap.size + 1, 0, none⟩)] (oneB c) hent2 l (by omega) (.slice p l.length k) w4 (Edges.go HL.out (Grew.below HG4.out)) (fun x hx W hW => by
          have hok := (hR.each x hx).1
          unfold okE at hok
          exact check2_any x c hok.1 (by omega) hok.2.2.1 (by omega) q d _ w.heap.size W (cell_keepK hW.below c0) (hI4.below (hW.below.mono (Grew.below HG4.out).size)) (Nat.le_trans (Grew.below HG4.out).size hW.below.size))
        have HE : Hid (chkK n l c most = if l.any (oneB c) = true then 13 else 0) := by unfold Hid chkK; rw [if_pos hr, if_pos hlen, ha]; rfl
        clear hI4 ha hr hR
        cases hb : l.any (oneB c) with
        | true =>
          rw [hb] at hce HE
          clear hb
          go_wp2_with fail
          refine hcf.mono ?_
          clear hcf
          rintro e w5 ⟨rfl, rfl⟩
          go_wp2_with fail
          refine hce.mono ?_
          clear hce
          rintro e w6 ⟨rfl, hg6⟩
          have HG6 : Hid (Grew w w6) := Grew.trans HG4.out hg6
          clear hg6
          go_wp2
          go_ret
          exact ⟨by rw [HE.out]; rfl, HG6.out⟩
        | false =>
          rw [hb] at hce HE
          clear hb
          go_wp2_with fail
          refine hcf.mono ?_
          clear hcf
          rintro e w5 ⟨rfl, rfl⟩
          go_wp2_with fail
          refine hce.mono ?_
          clear hce
          rintro e w6 ⟨rfl, hg6⟩
          have HG6 : Hid (Grew w w6) := Grew.trans HG4.out hg6
          clear hg6
          go_wp2
          go_ret
          exact ⟨by rw [HE.out]; rfl, HG6.out⟩
    · have hlen' : ((c.length : Int) == n) = false := by simpa using hlen
      have HE : Hid (chkK n l c most = 13) := by unfold Hid chkK; rw [if_pos hr, if_neg hlen]
      clear hr hR
      go_wp2
      go_ret
      exact ⟨by rw [HE.out]; rfl, HG4.out⟩
  · have HE : Hid (chkK n l c most = 1) := by unfold Hid chkK; rw [if_neg hr]
    have hr' : (rightK n l == 0) = false := by simpa using hr
    generalize rightK n l = kk at *
    clear hr
    go_wp2
    go_ret
    exact ⟨by rw [HE.out]; rfl, HG4.out⟩
end Go.Proofs.Yteekhofollaooaa

namespace Go.Proofs.Yteekhofollaooaa
open Go Go.Proofs Go.RowKit

theorem any_take {α : Type} {p : α → Bool} {L : List α} {j : Nat} (h : j < L.length) (h1 : (L.take j).any p = false) (h2 : p L[j] = false) : (L.take (j + 1)).any p = false := by
  rw [List.take_add_one, List.getElem?_eq_getElem h, List.any_append, h1]
  simp [h2]
theorem any_at {α : Type} {p : α → Bool} {L : List α} {j : Nat} (h : j < L.length) (h2 : p L[j] = true) : L.any p = true := List.any_eq_true.2 ⟨_, List.getElem_mem h, h2⟩

set_option maxRecDepth 100000 in
set_option maxHeartbeats 4000000 in
theorem refCheck_any (n : Int) (l : List Ed) (c : List Int) (hcl : c.length ≤ 9223372036854775807) (most : Int) (sv cv : Value) (w : World) (hl : Edges w.heap.size w sv l) (hc : Ints w.heap.size w cv c) :
    Calls Try.prog 9 #[.agg #[.int .i64 n, sv], cv, .int .i64 most] w fun e w' => e = .returned (.int .i64 (chkK n l c most)) ∧ Grew w w' := by
  obtain ⟨p, k, rfl⟩ := hl.len
  obtain ⟨q, d, rfl⟩ := hc.len
  have hg1 : Grew w (w.alloc (.cells #[.int .i64 n, .slice p l.length k] 24)) := (Grew.refl w).alloc _
  have hX : Blk 24 (w.alloc (.cells #[.int .i64 n, .slice p l.length k] 24)) w.heap.size [.int .i64 n, .slice p l.length k] := heap_alloc_new w _
  have q0 := hX.cell (j := 0) rfl
  have q1 := hX.cell (j := 1) rfl
  have hrc := refRight_any n l (.slice p l.length k) _ (hl.go hg1.below)
  have HL : Hid (Edges w.heap.size w (.slice p l.length k) l) := hl
  have HI : Hid (Ints w.heap.size w (.slice q c.length d) c) := hc
  have HX : Hid _ := hX
  have HG1 : Hid _ := hg1
  clear hl hc hX hg1
  go_enter Try.func9, Try.ntmps9
  go_wp2_with fail
  generalize w.alloc (.cells #[.int .i64 n, .slice p l.length k] 24) = w3 at *
  refine hrc.mono ?_
  rintro e w4 ⟨rfl, hg4⟩
  have hb4 := hg4.below
  have HX4 : Hid (Blk 24 w4 w.heap.size [.int .i64 n, .slice p l.length k]) := Blk.go HX.out hb4
  have HG4 : Hid (Grew w w4) := Grew.trans HG1.out hg4
  clear hrc hg4 hb4 HX HG1 q0 q1
  by_cases hr : rightK n l = 0
  · have hR := right_iff.1 hr
    have hn1 := hR.n1
    have hm1 := hR.m1
    rw [hr]
    have q0 := HX4.out.cell (j := 0) rfl
    by_cases hlen : (c.length : Int) = n
    · have hc8 : c.length ≤ 8388608 := by omega
      have HIF : Hid (chkK n l c most = if c.any (offB most) = true then 13 else if l.any (oneB c) = true then 13 else 0) := by unfold Hid chkK; rw [if_pos hr, if_pos hlen]
      have HR : Hid (RightG n l) := hR
      have HLN : Hid ((c.length : Int) = n) := hlen
      clear hr hR
      go_wp2
      clear hlen q0
      go_loop [7] (fun iv => ∃ j : Nat, j ≤ c.length ∧ iv = .int .i64 j ∧ Hid ((c.take j).any (offB most) = false)) (fun iv => c.length - (intOf iv).toNat)
      case atStart => exact ⟨0, Nat.zero_le _, rfl, by simp [Hid]⟩
      case round =>
        obtain ⟨j, hj, rfl, HA⟩ := hrel
        by_cases hlt : j < c.length
        · have hjl : (j : Int) < (c.length : Int) := by omega
          obtain ⟨b, off, rfl, hbb, hcap, hcc⟩ := HI.out.open hlt
          have c0 := hcc w4 (Grew.below HG4.out) j hlt
          cases hv : offB most c[j] with
          | true =>
            have HE : Hid (chkK n l c most = 13) := by rw [HIF.out, any_at hlt hv]; rfl
            unfold offB at hv
            generalize c[j] = x at *
            clear hcc HA HIF
            by_cases hx : x < 0
            · go_wp2
              go_ret
              exact ⟨by rw [HE.out]; rfl, HG4.out⟩
            · have hx2 : most ≤ x := by simpa [hx] using hv
              clear hv
              go_wp2
              go_ret
              exact ⟨by rw [HE.out]; rfl, HG4.out⟩
          | false =>
            have HA2 : Hid ((c.take (j + 1)).any (offB most) = false) := any_take hlt HA.out hv
            unfold offB at hv
            have hx : ¬ c[j] < 0 ∧ ¬ most ≤ c[j] := by simpa using hv
            obtain ⟨hx1, hx2⟩ := hx
            generalize c[j] = x at *
            clear hcc HA hv
            go_wp2
            exact ⟨⟨j + 1, by omega, by go_num, HA2⟩, by simp [intOf]; omega⟩
        · obtain rfl : j = c.length := by omega
          have hjl : ¬ (c.length : Int) < (c.length : Int) := by omega
          have ha : c.any (offB most) = false := by have := HA.out; rwa [List.take_length] at this
          have HIF2 : Hid (chkK n l c most = if l.any (oneB c) = true then 13 else 0) := by rw [HIF.out, ha]; rfl
          clear HA ha HIF
          go_wp2
          go_loopw [8] (fun iv wr => ∃ j : Nat, j ≤ l.length ∧ iv = .int .i64 j ∧ Hid ((l.take j).any (oneB c) = false) ∧ Grew w4 wr) (fun iv _ => l.length - (intOf iv).toNat)
          case atStart => exact ⟨0, Nat.zero_le _, rfl, by simp [Hid], Grew.refl _⟩
          case round =>
            obtain ⟨j, hj, rfl, HA, hg⟩ := hrel
            have x1 := (Blk.go HX4.out hg.below).cell (j := 1) rfl
            have HG : Hid (Grew w wr) := Grew.trans HG4.out hg
            by_cases hlt : j < l.length
            · have hjl : (j : Int) < (l.length : Int) := by omega
              obtain ⟨b, off, rfl, hbb, hcap, hcc, -⟩ := HL.out.open hlt
              obtain ⟨c0, c1, c2⟩ := hcc wr (Grew.below HG.out) j hlt
              have hok := (HR.out.each l[j] (List.getElem_mem hlt)).1
              unfold okE at hok
              obtain ⟨u, hu⟩ : ∃ u : Nat, l[j].1 = (u : Int) := ⟨l[j].1.toNat, by omega⟩
              obtain ⟨v, hv⟩ : ∃ v : Nat, l[j].2.1 = (v : Int) := ⟨l[j].2.1.toNat, by omega⟩
              have hln := HLN.out
              have huc : u < c.length := by omega
              have hvc : v < c.length := by omega
              obtain ⟨b2, off2, rfl, hbb2, hcap2, hc2⟩ := HI.out.open huc
              have d0 := hc2 wr (Grew.below HG.out) u huc
              have d1 := hc2 wr (Grew.below HG.out) v hvc
              have hone : oneB c l[j] = decide (c[u] = c[v]) := by
                unfold oneB
                simp only [hu, hv, Int.toNat_natCast, List.getD_eq_getElem?_getD, List.getElem?_eq_getElem huc, List.getElem?_eq_getElem hvc, Option.getD_some]
              have huI : (u : Int) < (c.length : Int) := by omega
              have hvI : (v : Int) < (c.length : Int) := by omega
              rw [hu] at c0
              rw [hv] at c1
              have HGR : Hid (Grew w4 wr) := hg
              clear hcc hc2 hok hln hu hv hg
              cases hb : oneB c l[j] with
              | true =>
                have HE : Hid (chkK n l c most = 13) := by rw [HIF2.out, any_at hlt hb]; rfl
                rw [hb] at hone
                have hxy : c[u] = c[v] := of_decide_eq_true hone.symm
                rw [hxy] at d0
                generalize c[v] = x at *
                clear hone hb HA HIF2
                go_wp2_with fail
                go_quiet (fail)
                go_wp2
                go_ret
                exact ⟨by rw [HE.out]; rfl, Grew.drewN HG.out nq⟩
              | false =>
                have HA2 : Hid ((l.take (j + 1)).any (oneB c) = false) := any_take hlt HA.out hb
                rw [hb] at hone
                have hxy : ¬ c[u] = c[v] := of_decide_eq_false hone.symm
                have hxy' : (c[u] == c[v]) = false := by simpa using hxy
                generalize c[v] = x at *
                generalize c[u] = y at *
                clear hone hb HA hxy
                go_wp2_with fail
                go_quiet (fail)
                go_wp2
                exact ⟨⟨j + 1, by omega, by go_num, HA2, Grew.drewN HGR.out nq⟩, by simp [intOf]; omega⟩
            · obtain rfl : j = l.length := by omega
              have hjl : ¬ (l.length : Int) < (l.length : Int) := by omega
              have ha : l.any (oneB c) = false := by have := HA.out; rwa [List.take_length] at this
              have HE : Hid (chkK n l c most = 0) := by rw [HIF2.out, ha]; rfl
              clear HA ha HIF2 hg
              go_wp2
              go_ret
              exact ⟨by rw [HE.out]; rfl, HG.out⟩
    · have hlen' : ((c.length : Int) == n) = false := by simpa using hlen
      have HE : Hid (chkK n l c most = 13) := by unfold Hid chkK; rw [if_pos hr, if_neg hlen]
      clear hr hR
      go_wp2
      go_ret
      exact ⟨by rw [HE.out]; rfl, HG4.out⟩
  · have HE : Hid (chkK n l c most = 1) := by unfold Hid chkK; rw [if_neg hr]
    have hr' : (rightK n l == 0) = false := by simpa using hr
    generalize rightK n l = kk at *
    clear hr
    go_wp2
    go_ret
    exact ⟨by rw [HE.out]; rfl, HG4.out⟩
end Go.Proofs.Yteekhofollaooaa
