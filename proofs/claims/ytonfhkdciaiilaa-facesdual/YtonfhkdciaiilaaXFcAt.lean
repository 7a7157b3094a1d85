/-
  The contract of the reference's at: the number of the face that has a dart.
-/
import Derived.Test.YtonfhkdciaiilaaXRSame
import Derived.BigQuiet
namespace Go.Proofs.Ytonfhkdciaiilaa
open Go Go.Proofs Go.RowKit

set_option maxRecDepth 100000 in
set_option maxHeartbeats 4000000 in
theorem refAt_any (L : List (List Dt)) (hL : L.length ≤ 16777216) (hin : ∀ x ∈ L, x.length ≤ 16777216) (d : Dt) (i : Nat) (hi : i < L.length) (hd : d ∈ L[i]) (hno : ∀ (k : Nat) (hk : k < L.length), k < i → d ∉ L[k]) (sv : Value) (w : World) (h : LDr w.heap.size w sv L) :
    Calls Try.prog 28 #[sv, .agg #[.int .i64 d.1, .int .i64 d.2]] w fun e w' => e = .returned (.int .i64 (i : Int)) ∧ Below w.heap.size w w' := by
  obtain ⟨p, c, rfl⟩ := h.len
  obtain ⟨d1, d2⟩ := d
  have hb1 : Below w.heap.size w (w.alloc (.cells #[.int .i64 d1, .int .i64 d2] 61)) := (Below.refl _ _).alloc (Nat.le_refl _) _
  have hX : Blk 61 (w.alloc (.cells #[.int .i64 d1, .int .i64 d2] 61)) w.heap.size [.int .i64 d1, .int .i64 d2] := heap_alloc_new w _
  have HX : Hid (Blk 61 (w.alloc (.cells #[.int .i64 d1, .int .i64 d2] 61)) w.heap.size [.int .i64 d1, .int .i64 d2]) := hX
  have HB1 : Hid (Below w.heap.size w (w.alloc (.cells #[.int .i64 d1, .int .i64 d2] 61))) := hb1
  have HA : Hid (LDr (w.alloc (.cells #[.int .i64 d1, .int .i64 d2] 61)).heap.size (w.alloc (.cells #[.int .i64 d1, .int .i64 d2] 61)) (.slice p L.length c) L) := h.go hb1
  have HIN : Hid (∀ x ∈ L, x.length ≤ 16777216) := hin
  have HD : Hid ((d1, d2) ∈ L[i]) := hd
  have HNO : Hid (∀ (k : Nat) (hk : k < L.length), k < i → (d1, d2) ∉ L[k]) := hno
  clear hX hb1 h hin hd hno
  go_enter Try.func28, Try.ntmps28
  go_wp2
  generalize w.alloc (.cells #[.int .i64 d1, .int .i64 d2] 61) = w1 at *
  go_loopw [5] (fun iv wr => ∃ j : Nat, j ≤ i ∧ iv = .int .i64 j ∧ Below w1.heap.size w1 wr) (fun v _ => L.length - (intOf v).toNat)
  case atStart => exact ⟨0, Nat.zero_le _, rfl, Below.refl _ _⟩
  case round =>
    obtain ⟨j, hj, rfl, hbr⟩ := hrel
    have hlt : j < L.length := by omega
    have hjl : (j : Int) < (L.length : Int) := by omega
    obtain ⟨b1, o1, rfl, hb1, hc1, p1, c1, hD1, x1⟩ := (HA.out.go hbr).cellAt hlt
    have hxl := HIN.out _ (List.getElem_mem hlt)
    have HJ : Hid ((∀ (k : Nat) (hk : k < L[j].length), L[j][k] = (d1, d2) → j = i) ∧ ((∀ (k : Nat) (hk : k < L[j].length), L[j][k] ≠ (d1, d2)) → j + 1 ≤ i)) := by
      refine ⟨fun k hk e => ?_, fun h => ?_⟩
      · by_cases hji : j = i
        · exact hji
        · exact absurd (e ▸ List.getElem_mem hk) (HNO.out j hlt (by omega))
      · by_cases hji : j = i
        · subst hji
          obtain ⟨k, hk, e⟩ := List.mem_iff_getElem.1 HD.out
          exact absurd e (h k hk)
        · omega
    have HBR : Hid (Below w1.heap.size w1 wr) := hbr
    have HD1 : Hid (Drts wr.heap.size wr (.slice p1 L[j].length c1) L[j]) := hD1
    have HXr : Hid (Blk 61 wr w.heap.size [.int .i64 d1, .int .i64 d2]) := HX.out.go hbr
    clear hbr hD1 HD HNO
    generalize L[j] = X at *
    generalize wr = w3 at *
    go_wp2
    go_loopw [6] (fun iv w4 => ∃ k : Nat, k ≤ X.length ∧ iv = .int .i64 k ∧ Hid (∀ (q : Nat) (hq : q < X.length), q < k → X[q] ≠ (d1, d2)) ∧ Below w3.heap.size w3 w4) (fun v _ => X.length - (intOf v).toNat)
    case atStart => exact ⟨0, Nat.zero_le _, rfl, fun q _ h => by omega, Below.refl _ _⟩
    case round =>
      obtain ⟨k, hk, rfl, HS, hb4⟩ := hrel
      rename World => w4
      have z1 := (hb4.cell (p := ⟨b1, o1 + j, none⟩) hb1).trans x1
      have hX4 := HXr.out.go hb4
      have q0 := hX4.cell (j := 0) rfl
      have q1 := hX4.cell (j := 1) rfl
      have HB4 : Hid (Below w3.heap.size w3 w4) := hb4
      by_cases hkl : k < X.length
      · have hkl' : (k : Int) < (X.length : Int) := by omega
        obtain ⟨g1, f1, rfl, hg1, hh1, s1, t1⟩ := (HD1.out.go hb4).cellAt hkl
        by_cases he : X[k] = (d1, d2)
        · have HE : Hid (j = i) := HJ.out.1 k hkl he
          rw [he] at s1 t1
          clear he HS HJ hb4 hX4 x1
          go_wp2
          go_quiet (fail)
          have HB5 : Hid (Below w.heap.size w (w4.drewN nq)) := below_drewN (HB1.out.trans ((HBR.out.trans (HB4.out.mono HBR.out.size)).mono HB1.out.size)) nq
          generalize w4.drewN nq = w5 at HB5 ⊢
          go_wp2
          go_ret
          exact ⟨by rw [HE.out]; rfl, HB5.out⟩
        · have HS2 : Hid (∀ (q : Nat) (hq : q < X.length), q < k + 1 → X[q] ≠ (d1, d2)) := fun q h1 h => by
            by_cases e : q = k
            · subst e; exact he
            · exact HS.out q h1 (by omega)
          have HKL : Hid (k < X.length) := hkl
          generalize hx : X[k] = x at *
          obtain ⟨y1, y2⟩ := x
          simp only at s1 t1
          clear HS hx hkl hb4 hX4 x1 HJ
          by_cases e1 : y1 = d1
          · have e2 : (y2 == d2) = false := by
              rw [beq_eq_false_iff_ne]
              intro e2
              exact he (by rw [e1, e2])
            subst e1
            clear he
            go_wp2
            go_quiet (fail)
            have HB5 : Hid (Below w3.heap.size w3 (w4.drewN nq)) := below_drewN HB4.out nq
            generalize w4.drewN nq = w5 at HB5 ⊢
            go_wp2
            exact ⟨⟨k + 1, HKL.out, by go_num, HS2.out, HB5.out⟩, by have := HKL.out; simp [intOf]; omega⟩
          · have e2 : (y1 == d1) = false := by rw [beq_eq_false_iff_ne]; exact e1
            clear he e1
            go_wp2
            go_quiet (fail)
            have HB5 : Hid (Below w3.heap.size w3 (w4.drewN nq)) := below_drewN HB4.out nq
            generalize w4.drewN nq = w5 at HB5 ⊢
            go_wp2
            exact ⟨⟨k + 1, HKL.out, by go_num, HS2.out, HB5.out⟩, by have := HKL.out; simp [intOf]; omega⟩
      · have hkn : ¬ (k : Int) < (X.length : Int) := by omega
        have HN : Hid (j + 1 ≤ i) := HJ.out.2 fun q hq => HS.out q hq (by omega)
        have HB5 : Hid (Below w1.heap.size w1 w4) := HBR.out.trans (HB4.out.mono HBR.out.size)
        clear hb4 hX4 hkl HS HJ
        go_wp2
        exact ⟨⟨j + 1, HN.out, by go_num, HB5.out⟩, by simp [intOf]; omega⟩
end Go.Proofs.Ytonfhkdciaiilaa
