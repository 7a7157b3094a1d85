/-
  The walk of filigreelaw03.FaultKinds.
-/
import Derived.Test.YteleldeeakklpaaDoorFTrailsLaw
namespace Go.Proofs.YteleldeeakklpaaDoor
open Go Go.Proofs Go.RowKit

/-- What wrapping OK comes to behind j steps. -/
def okV (j : Nat) : Value := if j = 0 then .iface 23 (.int .i64 0) else .nilIface

theorem wrap_okV (s : ByteArray) (a : Int) (j : Nat) (w : World) :
    Calls Tryd.prog 24 #[.string s, .int .i64 a, okV j] w fun e w' => e = .returned (okV (j + 1)) ∧ w' = w := by
  have e1 : okV (j + 1) = .nilIface := rfl
  rw [e1]
  by_cases h : j = 0
  · subst h; exact wrap_ok s a w
  · rw [show okV j = .nilIface from if_neg h]; exact wrap_nil s a w

set_option maxRecDepth 100000 in
set_option maxHeartbeats 1000000 in
/-- OK, wrapped by steps. -/
theorem wrapped_ok (l : List (ByteArray × Int)) (hl : InOkay l) (w : World) (sv : Value) (hS : Steps w.heap.size w sv l) :
    Calls Tryd.prog 10 #[sv, .int .i64 0] w fun e w' => e = .returned (okV l.length) ∧ Below w.heap.size w w' := by
  obtain ⟨hl1, hl2⟩ := hl
  obtain ⟨pa, ca, rfl⟩ : ∃ pa ca, sv = .slice pa l.length ca := by
    rcases hS with ⟨⟨p, c, rfl⟩, rfl⟩ | ⟨b, off, cap, rfl, _⟩ <;> exact ⟨_, _, rfl⟩
  go_enter Tryd.func10, Tryd.ntmps10
  go_wp2
  go_loopw [5, 6] (fun v i wr => ∃ j : Nat, j ≤ l.length ∧ i = .int .i64 j ∧ v = okV j ∧ Below w.heap.size w wr) (fun _ i _ => l.length - (intOf i).toNat)
  case atStart => exact ⟨0, Nat.zero_le _, rfl, rfl, Below.refl _ _⟩
  case round =>
    obtain ⟨j, hj, rfl, rfl, hb⟩ := hrel
    by_cases hlt : j < l.length
    · rcases hS with ⟨⟨p, c, h1⟩, rfl⟩ | ⟨b, off, cap, h1, hbb, hcap, hc⟩
      · simp at hlt
      · simp only [Value.slice.injEq] at h1
        obtain ⟨rfl, _, rfl⟩ := h1
        obtain ⟨c0, c1⟩ := hc j l[j] (List.getElem?_eq_getElem hlt)
        replace c0 := (hb.cell (p := ⟨b, off + j * 2, none⟩) hbb).trans c0
        replace c1 := (hb.cell (p := ⟨b, off + j * 2 + 1, none⟩) hbb).trans c1
        have hjl : (j : Int) < (l.length : Int) := by omega
        clear hc
        go_wp2
        go_quiet ((go_at_call 24; exact Calls.quiet_of_same (wrap_okV _ _ _ _)))
        go_wp2
        exact ⟨⟨j + 1, hlt, by go_num, rfl, below_drewN hb _⟩, by simp [intOf]; omega⟩
    · obtain rfl : j = l.length := by omega
      go_wp2
      go_ret
      exact ⟨rfl, hb⟩

set_option maxRecDepth 100000 in
set_option maxHeartbeats 2000000 in
theorem kinds_walk (l : List (ByteArray × Int)) (hl : InOkay l) (k : Int) (_hk : -9223372036854775808 ≤ k ∧ k ≤ 9223372036854775807) (o : Int) (_ho : -9223372036854775808 ≤ o ∧ o ≤ 9223372036854775807) (w : World) (sv : Value) (hS : Steps w.heap.size w sv l) (hE : Env w) :
    Calls Tryd.prog 4 #[sv, .int .i64 k, .int .i64 o] w fun e w' => e = .returned (.bool true) ∧ Below w.heap.size w w' := by
  cases hlit : litB l with
  | false =>
    go_enter Tryd.func4, Tryd.ntmps4
    go_wp2_with fail
    refine (light_any l hl w sv hS).mono ?_
    rintro e w1 ⟨rfl, hw1⟩
    rw [hlit, hw1]
    go_wp2_with fail
    refine (alive_any w hE).mono ?_
    rintro e w2 ⟨rfl, hb2⟩
    go_wp2
    go_ret
    exact ⟨rfl, hb2⟩
  | true =>
    obtain ⟨pa, ca, rfl⟩ : ∃ pa ca, sv = .slice pa l.length ca := by
      rcases hS with ⟨⟨p, c, rfl⟩, rfl⟩ | ⟨b, off, cap, rfl, _⟩ <;> exact ⟨_, _, rfl⟩
    by_cases hk : k = 0
    · subst hk
      by_cases hn : 0 < (l.length : Int)
      · have hv : okV l.length = .nilIface := if_neg (by omega)
        go_enter Tryd.func4, Tryd.ntmps4
        go_wp2_with fail
        refine (light_any l hl w _ hS).mono ?_
        rintro e w1 ⟨rfl, hw1⟩
        rw [hlit, hw1]
        go_wp2_with fail
        refine (wrapped_ok l hl w _ hS).mono ?_
        rintro e w2 ⟨rfl, hb2⟩
        rw [hv]
        have hE2 := hE.go hb2
        go_wp2_with fail
        refine (of_nil w2).mono ?_
        rintro e w3 ⟨rfl, hb3⟩
        have hE3 := hE2.go hb3
        have hbw3 := hb2.trans (hb3.mono hb2.size)
        go_wp2_with fail
        refine (alive_any w3 hE3).mono ?_
        rintro e w4 ⟨rfl, hb4⟩
        go_wp2
        go_ret
        exact ⟨rfl, hbw3.trans (hb4.mono hbw3.size)⟩
      · have hv : okV l.length = .iface 23 (.int .i64 0) := if_pos (by omega)
        go_enter Tryd.func4, Tryd.ntmps4
        go_wp2_with fail
        refine (light_any l hl w _ hS).mono ?_
        rintro e w1 ⟨rfl, hw1⟩
        rw [hlit, hw1]
        go_wp2_with fail
        refine (wrapped_ok l hl w _ hS).mono ?_
        rintro e w2 ⟨rfl, hb2⟩
        rw [hv]
        have hE2 := hE.go hb2
        go_wp2_with fail
        refine (of_kind (L := []) w2 hE2 rfl).mono ?_
        rintro e w3 ⟨rfl, hb3⟩
        have hE3 := hE2.go hb3
        have hbw3 := hb2.trans (hb3.mono hb2.size)
        go_wp2_with fail
        refine (alive_any w3 hE3).mono ?_
        rintro e w4 ⟨rfl, hb4⟩
        go_wp2
        go_ret
        exact ⟨rfl, hbw3.trans (hb4.mono hbw3.size)⟩
    · have hk' : (k == 0) = false := by simpa using hk
      go_enter Tryd.func4, Tryd.ntmps4
      go_wp2_with fail
      refine (light_any l hl w _ hS).mono ?_
      rintro e w1 ⟨rfl, hw1⟩
      rw [hlit, hw1]
      go_wp2_with fail
      refine (wrapped_any l hl k hk w _ hS).mono ?_
      rintro e w2 ⟨v, rfl, hC2, hb2⟩
      have hE2 := hE.go hb2
      obtain ⟨vt, vx, rfl⟩ : ∃ t x, v = .iface t x := (chain_wraps hk hC2).iface
      go_wp2_with fail
      refine (of_kind w2 hE2 hC2).mono ?_
      rintro e w3 ⟨rfl, hb3⟩
      have hC3 := hC2.go hb3
      have hE3 := hE2.go hb3
      have hbw3 := hb2.trans (hb3.mono hb2.size)
      clear hC2 hE2 hb2 hb3
      go_wp2_with fail
      refine (fis_kind hk w3 hC3).mono ?_
      rintro e w4 ⟨rfl, hb4⟩
      rw [show (k == k) = true by simp]
      have hC4 := hC3.go hb4
      have hE4 := hE3.go hb4
      have hbw4 := hbw3.trans (hb4.mono hbw3.size)
      clear hC3 hE3 hb4 hbw3
      go_wp2_with fail
      refine (isK_any (o := k) w4 hC4).mono ?_
      rintro e w5 ⟨rfl, hw5⟩
      rw [hw5, show (k == k) = true by simp]
      by_cases ho : o = 0
      · have hok : (o == k) = false := by simp; omega
        subst ho
        go_wp2_with fail
        refine (fis_ok_some vt vx w4).mono ?_
        rintro e w6 ⟨rfl, hb6⟩
        have hE6 := hE4.go hb6
        have hbw6 := hbw4.trans (hb6.mono hbw4.size)
        go_wp2_with fail
        refine (alive_any w6 hE6).mono ?_
        rintro e w7 ⟨rfl, hb7⟩
        go_wp2
        go_ret
        exact ⟨rfl, hbw6.trans (hb7.mono hbw6.size)⟩
      · go_wp2_with fail
        refine (fis_kind ho w4 hC4).mono ?_
        rintro e w6 ⟨rfl, hb6⟩
        have hE6 := hE4.go hb6
        have hbw6 := hbw4.trans (hb6.mono hbw4.size)
        rw [show (k == o) = (o == k) by rw [Bool.eq_iff_iff]; simp; exact eq_comm]
        cases hok : (o == k) with
        | true =>
          go_wp2_with fail
          refine (alive_any w6 hE6).mono ?_
          rintro e w7 ⟨rfl, hb7⟩
          go_wp2
          go_ret
          exact ⟨rfl, hbw6.trans (hb7.mono hbw6.size)⟩
        | false =>
          go_wp2_with fail
          refine (alive_any w6 hE6).mono ?_
          rintro e w7 ⟨rfl, hb7⟩
          go_wp2
          go_ret
          exact ⟨rfl, hbw6.trans (hb7.mono hbw6.size)⟩

end Go.Proofs.YteleldeeakklpaaDoor
