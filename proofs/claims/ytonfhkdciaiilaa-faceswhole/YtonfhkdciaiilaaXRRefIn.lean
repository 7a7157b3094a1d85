/-
  The contract of the reference's in: is a dart among darts?
-/
import Derived.Test.YtonfhkdciaiilaaQI
import Derived.BigQuiet
namespace Go.Proofs.Ytonfhkdciaiilaa
open Go Go.Proofs Go.RowKit

set_option maxRecDepth 100000 in
set_option maxHeartbeats 2000000 in
theorem refIn_any (L : List Dt) (hL : L.length ≤ 9223372036854775807) (d : Dt) (sv : Value) (w : World) (h : Drts w.heap.size w sv L) :
    Calls Try.prog 29 #[sv, .agg #[.int .i64 d.1, .int .i64 d.2]] w fun e w' => e = .returned (.bool (L.contains d)) ∧ Below w.heap.size w w' := by
  obtain ⟨p, c, rfl⟩ := h.len
  obtain ⟨d1, d2⟩ := d
  have hb1 : Below w.heap.size w (w.alloc (.cells #[.int .i64 d1, .int .i64 d2] 61)) := (Below.refl _ _).alloc (Nat.le_refl _) _
  have hX : Blk 61 (w.alloc (.cells #[.int .i64 d1, .int .i64 d2] 61)) w.heap.size [.int .i64 d1, .int .i64 d2] := heap_alloc_new w _
  have HX : Hid (Blk 61 (w.alloc (.cells #[.int .i64 d1, .int .i64 d2] 61)) w.heap.size [.int .i64 d1, .int .i64 d2]) := hX
  have HB1 : Hid (Below w.heap.size w (w.alloc (.cells #[.int .i64 d1, .int .i64 d2] 61))) := hb1
  have HD : Hid (Drts (w.alloc (.cells #[.int .i64 d1, .int .i64 d2] 61)).heap.size (w.alloc (.cells #[.int .i64 d1, .int .i64 d2] 61)) (.slice p L.length c) L) := h.go hb1
  clear hX hb1 h
  go_enter Try.func29, Try.ntmps29
  go_wp2
  generalize w.alloc (.cells #[.int .i64 d1, .int .i64 d2] 61) = w1 at *
  go_loopw [5] (fun iv wr => ∃ j : Nat, j ≤ L.length ∧ iv = .int .i64 j ∧ Hid (∀ (i : Nat) (hi : i < L.length), i < j → L[i] ≠ (d1, d2)) ∧ Below w1.heap.size w1 wr) (fun i _ => L.length - (intOf i).toNat)
  case atStart => exact ⟨0, Nat.zero_le _, rfl, fun i _ h => by omega, Below.refl _ _⟩
  case round =>
    obtain ⟨j, hj, rfl, HS, hb⟩ := hrel
    have hXr := HX.out.go hb
    have q0 := hXr.cell (j := 0) rfl
    have q1 := hXr.cell (j := 1) rfl
    have HB : Hid (Below w1.heap.size w1 wr) := hb
    by_cases hlt : j < L.length
    · have hjl : (j : Int) < (L.length : Int) := by omega
      obtain ⟨b, off, rfl, hbb, hcap, c0, c1⟩ := (HD.out.go hb).cellAt hlt
      clear hb hXr
      by_cases he : L[j] = (d1, d2)
      · have HE : Hid (L.contains (d1, d2) = true) := by
          unfold Hid; rw [List.contains_iff_mem, ← he]; exact List.getElem_mem hlt
        rw [he] at c0 c1
        clear he HS
        go_wp2
        go_quiet (fail)
        have HB3 : Hid (Below w.heap.size w (wr.drewN nq)) := below_drewN (HB1.out.trans (HB.out.mono HB1.out.size)) nq
        generalize wr.drewN nq = w5 at HB3 ⊢
        go_wp2
        go_ret
        exact ⟨by rw [HE.out]; rfl, HB3.out⟩
      · have HS2 : Hid (∀ (i : Nat) (h1 : i < L.length), i < j + 1 → L[i] ≠ (d1, d2)) := fun i h1 h => by
          by_cases e : i = j
          · subst e; exact he
          · exact HS.out i h1 (by omega)
        have HLT : Hid (j < L.length) := hlt
        generalize hx : L[j] = x at *
        obtain ⟨x1, x2⟩ := x
        clear HS hx hlt
        by_cases e1 : x1 = d1
        · have e2 : (x2 == d2) = false := by
            rw [beq_eq_false_iff_ne]
            intro e2
            exact he (by rw [e1, e2])
          subst e1
          clear he
          go_wp2
          go_quiet (fail)
          have HB3 : Hid (Below w1.heap.size w1 (wr.drewN nq)) := below_drewN HB.out nq
          generalize wr.drewN nq = w5 at HB3 ⊢
          go_wp2
          exact ⟨⟨j + 1, HLT.out, by go_num, HS2.out, HB3.out⟩, by have := HLT.out; simp [intOf]; omega⟩
        · have e2 : (x1 == d1) = false := by rw [beq_eq_false_iff_ne]; exact e1
          clear he e1
          go_wp2
          go_quiet (fail)
          have HB3 : Hid (Below w1.heap.size w1 (wr.drewN nq)) := below_drewN HB.out nq
          generalize wr.drewN nq = w5 at HB3 ⊢
          go_wp2
          exact ⟨⟨j + 1, HLT.out, by go_num, HS2.out, HB3.out⟩, by have := HLT.out; simp [intOf]; omega⟩
    · obtain rfl : j = L.length := by omega
      have HE : Hid (L.contains (d1, d2) = false) := by
        unfold Hid
        rw [List.contains_eq_mem, decide_eq_false_iff_not]
        intro hm
        obtain ⟨i, hi, e⟩ := List.getElem_of_mem hm
        exact HS.out i hi hi e
      clear HS
      have HB3 : Hid (Below w.heap.size w wr) := HB1.out.trans (hb.mono HB1.out.size)
      go_wp2
      go_ret
      exact ⟨by rw [HE.out]; rfl, HB3.out⟩
end Go.Proofs.Ytonfhkdciaiilaa
