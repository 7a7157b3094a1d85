/-
  The contracts of the reference's Same, of slices.Equal at edges, and of graph.Same.
-/
import Derived.Laws.StructEq
import Derived.Test.YtonfhkdciaiilaaQA
namespace Go.Proofs.Ytonfhkdciaiilaa
open Go Go.Proofs Go.RowKit

def neE (x y : Ed) : Bool := decide (x ≠ y)
theorem neE_run (x y : Ed) (w : World) : (binOp .neq 44 (edV x) (edV y)).run Try.prog w = .ok (.bool (neE x y)) w := by
  have u3 := Try.underlying3
  have a3 := Try.isAgg3
  have z3 := Try.sizeOf3
  have u2 := Try.underlying2
  have a2 := Try.isAgg2
  have z2 := Try.sizeOf2
  have hS : Try.prog.underlying 44 = some (.struct (Try.prog.fieldsOf 44)) := by kernel_rfl
  have hp : Try.prog.stoodInHeld 44 = false := by kernel_rfl
  rw [run_neq_struct, show (10000 : Nat) = 9999 + 1 from rfl, run_equalIn_agg w 9999 44 _ _ hS hp]
  simp only [Program.fieldsOf, Try.underlying44]
  go_simp
  obtain ⟨x0, x1, x2⟩ := x
  obtain ⟨y0, y1, y2⟩ := y
  unfold neE
  by_cases h0 : x0 = y0 <;> by_cases h1 : x1 = y1 <;> by_cases h2 : x2 = y2 <;> simp [h0, h1, h2]

/-- Two lists are alike up to place j. -/
def Alike (l k : List Ed) (j : Nat) : Prop := l.take j = k.take j
theorem alike_step {l k : List Ed} {j : Nat} (h : Alike l k j) (h1 : j < l.length) (h2 : j < k.length) (he : l[j] = k[j]) : Alike l k (j + 1) := by
  unfold Alike at *
  rw [List.take_add_one, List.take_add_one, h, List.getElem?_eq_getElem h1, List.getElem?_eq_getElem h2, he]
theorem alike_no {l k : List Ed} {j : Nat} (h1 : j < l.length) (h2 : j < k.length) (he : l[j] ≠ k[j]) : l ≠ k := by
  intro h; subst h; exact he rfl

set_option maxRecDepth 100000 in
set_option maxHeartbeats 2000000 in
theorem refSame_any (n m : Int) (l k : List Ed) (hlen : l.length ≤ 4194304) (sl sk : Value) (w : World) (hl : Edges w.heap.size w sl l) (hk : Edges w.heap.size w sk k) :
    Calls Try.prog 13 #[.agg #[.int .i64 n, sl], .agg #[.int .i64 m, sk]] w fun r w' => r = .returned (.bool (decide (n = m ∧ l = k))) ∧ Grew w w' := by
  obtain ⟨p, c, rfl⟩ := hl.len
  obtain ⟨q, d, rfl⟩ := hk.len
  have hmix := mixed
  have hg1 : Grew w ((w.alloc (.cells #[.int .i64 n, .slice p l.length c] 24)).alloc (.cells #[.int .i64 m, .slice q k.length d] 24)) := ((Grew.refl w).alloc _).alloc _
  by_cases hnm : n = m
  · by_cases hlk : l.length = k.length
    · have hnm' : (n != m) = false := by simpa using hnm
      have hlk' : ((l.length : Int) != (k.length : Int)) = false := by simp; omega
      have HL : Hid (l.length = k.length) := hlk
      have HN : Hid (n = m) := hnm
      clear hnm hlk
      go_enter Try.func13, Try.ntmps13
      go_wp2
      go_loopw [5] (fun i wr => ∃ j : Nat, j ≤ l.length ∧ i = .int .i64 j ∧ Hid (Alike l k j) ∧ Grew ((w.alloc (.cells #[.int .i64 n, .slice p l.length c] 24)).alloc (.cells #[.int .i64 m, .slice q k.length d] 24)) wr) (fun i _ => l.length - (intOf i).toNat)
      case atStart => exact ⟨0, Nat.zero_le _, rfl, rfl, Grew.refl _⟩
      case round =>
        obtain ⟨j, hj, rfl, hr, hg⟩ := hrel
        have q0 : wr.cell? ⟨w.heap.size, 1, none⟩ = some (.slice p l.length c) := (box2 _ (((Grew.refl _).alloc _).trans hg)).2
        have q1 : wr.cell? ⟨w.heap.size + 1, 1, none⟩ = some (.slice q k.length d) := by have := (box2 _ hg).2; simpa using this
        by_cases hlt : j < l.length
        · have hlt2 : j < k.length := by have := HL.out; omega
          obtain ⟨b, off, rfl, hbb, hcap, hc, -⟩ := hl.open hlt
          obtain ⟨b2, off2, rfl, hbb2, hcap2, hc2, -⟩ := hk.open hlt2
          obtain ⟨c0, c1, c2⟩ := hc wr (hg1.trans hg).below j hlt
          obtain ⟨d0, d1, d2⟩ := hc2 wr (hg1.trans hg).below j hlt2
          have hjl : (j : Int) < (l.length : Int) := by omega
          have hjl2 : (j : Int) < (k.length : Int) := by omega
          have hne := neE_run l[j] k[j]
          clear hc hc2
          go_wp2
          go_quiet (fail)
          have hgq := hg.drewN nq
          generalize wr.drewN nq = w8 at hgq ⊢
          clear c0 c1 c2 d0 d1 d2 q0 q1 hg hne
          by_cases he : l[j] = k[j]
          · have hb : neE l[j] k[j] = false := by simp [neE, he]
            have HS : Hid (Alike l k (j + 1)) := alike_step hr.out hlt hlt2 he
            rw [hb]
            clear he hb hr
            go_wp2
            exact ⟨⟨j + 1, by omega, by go_num, HS, hgq⟩, by simp [intOf]; omega⟩
          · have hb : neE l[j] k[j] = true := by simp [neE, he]
            have HE : Hid (decide (n = m ∧ l = k) = false) := by
              have := alike_no hlt hlt2 he
              simp [Hid, this]
            rw [hb]
            clear he hb hr
            go_wp2
            go_ret
            exact ⟨by rw [HE.out]; rfl, hg1.trans hgq⟩
        · obtain rfl : j = l.length := by omega
          have HE : Hid (decide (n = m ∧ l = k) = true) := by
            have h1 := hr.out
            unfold Alike at h1
            have h2 := HL.out
            rw [List.take_length, h2, List.take_length] at h1
            exact decide_eq_true ⟨HN.out, h1⟩
          clear hr
          go_wp2
          go_ret
          exact ⟨by rw [HE.out]; rfl, hg1.trans hg⟩
    · have hnm' : (n != m) = false := by simpa using hnm
      have hlk' : ((l.length : Int) != (k.length : Int)) = true := by simp; omega
      have HE : Hid (decide (n = m ∧ l = k) = false) := decide_eq_false (fun h => hlk (by rw [h.2]))
      clear hnm hlk
      go_enter Try.func13, Try.ntmps13
      go_wp2
      go_ret
      exact ⟨by rw [HE.out]; rfl, hg1⟩
  · have hnm' : (n != m) = true := by simpa using hnm
    have HE : Hid (decide (n = m ∧ l = k) = false) := decide_eq_false (fun h => hnm h.1)
    clear hnm
    go_enter Try.func13, Try.ntmps13
    go_wp2
    go_ret
    exact ⟨by rw [HE.out]; rfl, hg1⟩

end Go.Proofs.Ytonfhkdciaiilaa
