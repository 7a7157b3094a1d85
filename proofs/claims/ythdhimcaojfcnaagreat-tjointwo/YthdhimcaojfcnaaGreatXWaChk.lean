/-
  What paths.Check looks at: isKept, endsAt, isRightAt.
-/
import Derived.Test.YthdhimcaojfcnaaGreatXWaAt
import Derived.Test.YthdhimcaojfcnaaGreatJB
namespace Go.Proofs.YthdhimcaojfcnaaGreat
open Go Go.Proofs Go.RowKit

/-- The cells of a slice of numbers, in every world that has grown since. -/
theorem Vals.openW {w : World} {sv : Value} {l : List Int} (h : Ints w.heap.size w sv l) : ∃ p c, sv = .slice p l.length c ∧ ∀ {j : Nat}, j < l.length → ∃ b off, p = some ⟨b, off, none⟩ ∧ b < w.heap.size ∧ ∀ W', Below w.heap.size w W' → ∀ i, i < l.length → W'.cell? ⟨b, off + i, none⟩ = some (.int .i64 (at' l i)) := by
  obtain ⟨p, c, rfl⟩ := h.len
  refine ⟨p, c, rfl, fun {j} hj => ?_⟩
  obtain ⟨b, off, h1, h2, _, h4⟩ := h.open hj
  exact ⟨b, off, h1, h2, fun W' hW i hi => by rw [at_get hi]; exact h4 W' hW i hi⟩
theorem at_mem {d : List Int} {v : Nat} (h : v < d.length) : at' d v ∈ d := by rw [at_get h]; exact List.getElem_mem h

/-- A truth value that tells just whether P. -/
def Tells (r : Ending) (P : Prop) : Prop := ∃ b, r = .returned (.bool b) ∧ (b = true ↔ P)
/-- Is there an edge at this place that ends at v? -/
def endsB (L : List Eg) (place : Int) (v : Nat) : Bool := decide (0 ≤ place) && (match L[place.toNat]? with
  | some e => decide (e.1 = v ∨ e.2.1 = v)
  | none => false)
theorem ends_iff {L : List Eg} {place : Int} {v : Nat} : endsB L place v = true ↔ ∃ i : Nat, place = i ∧ ∃ e, L[i]? = some e ∧ (e.1 = v ∨ e.2.1 = v) := by
  unfold endsB
  constructor
  · intro h
    rw [Bool.and_eq_true] at h
    refine ⟨place.toNat, by have := h.1; simp at this; omega, ?_⟩
    have h2 := h.2
    cases hL : L[place.toNat]? with
    | none => rw [hL] at h2; simp at h2
    | some e => rw [hL] at h2; exact ⟨e, rfl, by simpa using h2⟩
  · rintro ⟨i, rfl, e, he, hv⟩
    rw [Int.toNat_natCast, he]
    simpa using hv
set_option maxRecDepth 100000 in
set_option maxHeartbeats 2000000 in
theorem endsAt_any (n : Int) (L : List Eg) (place : Int) (v : Nat) (sv : Value) (w : World) (hl : Edges w.heap.size w sv (L.map edE)) :
    Calls Tryz.prog 74 #[.agg #[.int .i64 n, sv], .int .i64 place, .int .i64 (v : Int)] w fun r w' => r = .returned (.bool (endsB L place v)) ∧ Grew w w' := by
  obtain ⟨p, c, rfl⟩ := hl.lenG
  have hg : Grew w (w.alloc (.cells #[.int .i64 n, .slice p L.length c] 24)) := (Grew.refl w).alloc _
  by_cases h0 : 0 ≤ place
  · obtain ⟨i, rfl⟩ : ∃ i : Nat, place = i := ⟨place.toNat, by omega⟩
    by_cases h1 : i < L.length
    · obtain ⟨b, off, rfl, hbb, hcap, hc⟩ := hl.eg h1
      obtain ⟨c0, c1, c2⟩ := hc _ hg.below i h1
      have h1' : (i : Int) < (L.length : Int) := by omega
      have hE : endsB L (i : Int) v = (decide (L[i].1 = v ∨ L[i].2.1 = v)) := by
        unfold endsB
        rw [Int.toNat_natCast, List.getElem?_eq_getElem h1]
        simp
      rw [hE]
      clear hE hc hl
      generalize L[i].1 = x at *
      generalize L[i].2.1 = y at *
      have hE : ∃ r, Hid (decide (x = v ∨ y = v) = r) := ⟨_, show Hid _ from rfl⟩
      obtain ⟨r, HR⟩ := hE
      rw [HR.out]
      by_cases hx : x = v
      · have hR : r = true := by rw [← HR.out]; simp [hx]
        subst hR hx
        go_enter Tryz.func74, Tryz.ntmps74
        go_wp2
        go_ret
        exact ⟨rfl, hg⟩
      · have hx' : ¬ (x : Int) = (v : Int) := by omega
        by_cases hy : y = v
        · have hR : r = true := by rw [← HR.out]; simp [hy]
          subst hR hy
          go_enter Tryz.func74, Tryz.ntmps74
          go_wp2
          go_ret
          exact ⟨by simp, hg⟩
        · have hR : r = false := by rw [← HR.out]; simp [hx, hy]
          have hy' : ¬ (y : Int) = (v : Int) := by omega
          subst hR
          go_enter Tryz.func74, Tryz.ntmps74
          go_wp2
          go_ret
          exact ⟨by simp [hx', hy'], hg⟩
    · have hE : endsB L (i : Int) v = false := by
        unfold endsB
        rw [Int.toNat_natCast, List.getElem?_eq_none (by omega)]
        simp
      have h1' : ¬ (i : Int) < (L.length : Int) := by omega
      rw [hE]
      go_enter Tryz.func74, Tryz.ntmps74
      go_wp2
      go_ret
      exact ⟨by simp, hg⟩
  · have hE : endsB L place v = false := by unfold endsB; simp [h0]
    rw [hE]
    go_enter Tryz.func74, Tryz.ntmps74
    go_wp2
    go_ret
    exact ⟨by simp, hg⟩
/-- What is told of v is right. -/
def RA (L : List Eg) (D V : List Int) (v : Nat) : Prop := (at' D v = -1 ∧ at' V v = -1) ∨ (0 ≤ at' D v ∧ Last L D V v)
end Go.Proofs.YthdhimcaojfcnaaGreat
