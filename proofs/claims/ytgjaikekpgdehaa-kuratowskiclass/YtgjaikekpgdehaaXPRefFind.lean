/-
  The contract of the reference's Find.
-/
import Derived.Test.YtgjaikekpgdehaaQA
namespace Go.Proofs.Ytgjaikekpgdehaa
open Go Go.Proofs Go.RowKit

def endsB (u v : Int) (e : Ed) : Bool := (decide (e.1 = u) && decide (e.2.1 = v)) || (decide (e.1 = v) && decide (e.2.1 = u))
def findP (l : List Ed) (u v : Int) : Int := match l.findIdx? (endsB u v) with
  | some i => i
  | none => -1
theorem findP_at {l : List Ed} {u v : Int} {i : Nat} {x : Ed} (hx : l[i]? = some x) (h : endsB u v x = true) (hno : ∀ k y, k < i → l[k]? = some y → endsB u v y = false) : findP l u v = i := by
  unfold findP
  have : l.findIdx? (endsB u v) = some i := by
    rw [List.findIdx?_eq_some_iff_getElem]
    obtain ⟨h1, h2⟩ := List.getElem?_eq_some_iff.1 hx
    exact ⟨h1, by rw [h2]; exact h, fun j hj => by simpa using hno j _ hj (List.getElem?_eq_getElem (by omega))⟩
  rw [this]
theorem findP_no {l : List Ed} {u v : Int} (hno : ∀ y ∈ l, endsB u v y = false) : findP l u v = -1 := by
  unfold findP
  have : l.findIdx? (endsB u v) = none := by rw [List.findIdx?_eq_none_iff]; exact hno
  rw [this]
/-- None of the first j is between u and v. -/
def NoneYet (l : List Ed) (u v : Int) (j : Nat) : Prop := ∀ k y, k < j → l[k]? = some y → endsB u v y = false
theorem NoneYet.step {l : List Ed} {u v : Int} {j : Nat} (h : NoneYet l u v j) {y : Ed} (hy : l[j]? = some y) (hb : endsB u v y = false) : NoneYet l u v (j + 1) := fun k z hk hz => by
  by_cases he : k = j
  · subst he; rw [hy] at hz; cases hz; exact hb
  · exact h k z (by omega) hz
theorem NoneYet.none {l : List Ed} {u v : Int} (h : NoneYet l u v l.length) : findP l u v = -1 := findP_no fun y hy => by
  obtain ⟨k, hk, rfl⟩ := List.getElem_of_mem hy
  exact h k _ hk (List.getElem?_eq_getElem hk)

set_option maxRecDepth 100000 in
set_option maxHeartbeats 4000000 in
theorem refFind_any (n : Int) (l : List Ed) (hlen : l.length ≤ 4194304) (u v : Int) (sv : Value) (w : World) (hl : Edges w.heap.size w sv l) :
    Calls Try.prog 41 #[.agg #[.int .i64 n, sv], .int .i64 u, .int .i64 v] w fun r w' => r = .returned (.int .i64 (findP l u v)) ∧ Grew w w' := by
  obtain ⟨p, c, rfl⟩ := hl.len
  have hg1 : Grew w (w.alloc (.cells #[.int .i64 n, .slice p l.length c] 24)) := (Grew.refl w).alloc _
  go_enter Try.func41, Try.ntmps41
  go_wp2
  go_loopw [7] (fun i wr => ∃ j : Nat, j ≤ l.length ∧ i = .int .i64 j ∧ Hid (NoneYet l u v j) ∧ Grew (w.alloc (.cells #[.int .i64 n, .slice p l.length c] 24)) wr) (fun i _ => l.length - (intOf i).toNat)
  case atStart => exact ⟨0, Nat.zero_le _, rfl, fun k y hk => by omega, Grew.refl _⟩
  case round =>
    obtain ⟨j, hj, rfl, hr, hg⟩ := hrel
    have q1 : wr.cell? ⟨w.heap.size, 1, none⟩ = some (.slice p l.length c) := (box2 _ hg).2
    by_cases hlt : j < l.length
    · obtain ⟨b, off, rfl, hbb, hcap, hc, -⟩ := hl.open hlt
      obtain ⟨c0, c1, c2⟩ := hc wr (hg1.trans hg).below j hlt
      have hjl : (j : Int) < (l.length : Int) := by omega
      have HY : Hid (l[j]? = some l[j]) := List.getElem?_eq_getElem hlt
      have HI : Hid (∀ y, y = l[j] → l[j]? = some y) := fun y hy => by rw [hy]; exact HY.out
      have hX : Hid (l[j] = (l[j].1, l[j].2.1, l[j].2.2)) := rfl
      clear hc HY
      generalize l[j].1 = y1 at c0 hX
      generalize l[j].2.1 = y2 at c1 hX
      generalize l[j].2.2 = y3 at c2 hX
      have HZ : Hid (l[j]? = some (y1, y2, y3)) := HI.out _ hX.out.symm
      clear HI hX
      by_cases hb : endsB u v (y1, y2, y3) = true
      · have HF : Hid (findP l u v = j) := findP_at HZ.out hb hr.out
        have hb2 : (y1 = u ∧ y2 = v) ∨ (y1 = v ∧ y2 = u) := by simpa [endsB] using hb
        clear HZ hr hb
        by_cases h0 : y1 = u
        · have e0 : (y1 == u) = true := by simpa using h0
          by_cases h1 : y2 = v
          · have e1 : (y2 == v) = true := by simpa using h1
            clear h0 h1 hb2
            go_wp2
            go_ret
            exact ⟨by rw [HF.out]; rfl, hg1.trans hg⟩
          · have e1 : (y2 == v) = false := by simpa using h1
            have e2 : (y1 == v) = true := by simp; omega
            have e3 : (y2 == u) = true := by simp; omega
            clear h0 h1 hb2
            go_wp2
            go_ret
            exact ⟨by rw [HF.out]; rfl, hg1.trans hg⟩
        · have e0 : (y1 == u) = false := by simpa using h0
          have e2 : (y1 == v) = true := by simp; omega
          have e3 : (y2 == u) = true := by simp; omega
          clear h0 hb2
          go_wp2
          go_ret
          exact ⟨by rw [HF.out]; rfl, hg1.trans hg⟩
      · have HN : Hid (NoneYet l u v (j + 1)) := hr.out.step HZ.out (by simpa using hb)
        have hb2 : ¬ ((y1 = u ∧ y2 = v) ∨ (y1 = v ∧ y2 = u)) := by simpa [endsB] using hb
        clear HZ hr hb
        by_cases h0 : y1 = u
        · have e0 : (y1 == u) = true := by simpa using h0
          have e1 : (y2 == v) = false := by simp; omega
          by_cases h2 : y1 = v
          · have e2 : (y1 == v) = true := by simpa using h2
            have e3 : (y2 == u) = false := by simp; omega
            clear h0 h2 hb2
            go_wp2
            exact ⟨⟨j + 1, by omega, by go_num, HN, hg⟩, by simp [intOf]; omega⟩
          · have e2 : (y1 == v) = false := by simpa using h2
            clear h0 h2 hb2
            go_wp2
            exact ⟨⟨j + 1, by omega, by go_num, HN, hg⟩, by simp [intOf]; omega⟩
        · have e0 : (y1 == u) = false := by simpa using h0
          by_cases h2 : y1 = v
          · have e2 : (y1 == v) = true := by simpa using h2
            have e3 : (y2 == u) = false := by simp; omega
            clear h0 h2 hb2
            go_wp2
            exact ⟨⟨j + 1, by omega, by go_num, HN, hg⟩, by simp [intOf]; omega⟩
          · have e2 : (y1 == v) = false := by simpa using h2
            clear h0 h2 hb2
            go_wp2
            exact ⟨⟨j + 1, by omega, by go_num, HN, hg⟩, by simp [intOf]; omega⟩
    · obtain rfl : j = l.length := by omega
      have HF : Hid (findP l u v = -1) := hr.out.none
      clear hr
      go_wp2
      go_ret
      exact ⟨by rw [HF.out]; rfl, hg1.trans hg⟩

end Go.Proofs.Ytgjaikekpgdehaa
