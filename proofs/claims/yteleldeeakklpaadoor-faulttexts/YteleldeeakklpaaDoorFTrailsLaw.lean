/-
  The walk of filigreelaw03.FaultTrails.
-/
import Derived.Test.YteleldeeakklpaaDoorFRefL
import Derived.Test.YteleldeeakklpaaDoorFAlive
namespace Go.Proofs.YteleldeeakklpaaDoor
open Go Go.Proofs Go.RowKit

theorem Steps.go {W W' : World} {sv : Value} {l : List (ByteArray × Int)} (h : Steps W.heap.size W sv l) (hb : Below W.heap.size W W') : Steps W'.heap.size W' sv l := by
  rcases h.below hb with h | ⟨b, off, cap, h1, h2, h3⟩
  · exact .inl h
  · exact .inr ⟨b, off, cap, h1, Nat.lt_of_lt_of_le h2 hb.size, h3⟩
theorem Chain.go {w w' : World} {ev v : Value} {L : List (ByteArray × Int)} (h : Chain w ev w.heap.size L v) (hb : Below w.heap.size w w') : Chain w' ev w'.heap.size L v := (h.below hb).mono hb.size

set_option maxRecDepth 100000 in
set_option maxHeartbeats 2000000 in
theorem trails_walk (l : List (ByteArray × Int)) (hl : InOkay l) (k : Int) (_hk : -9223372036854775808 ≤ k ∧ k ≤ 9223372036854775807) (q : ByteArray) (_hq : q.size ≤ 9223372036854775807) (w : World) (sv : Value) (hS : Steps w.heap.size w sv l) (hE : Env w) :
    Calls Tryd.prog 5 #[sv, .int .i64 k, .string q] w fun e w' => e = .returned (.bool true) ∧ Below w.heap.size w w' := by
  cases hlit : litB l with
  | false =>
    go_enter Tryd.func5, Tryd.ntmps5
    go_wp2_with fail
    refine (light_any l hl w sv hS).mono ?_
    rintro e w1 ⟨rfl, hw1⟩
    rw [hlit, hw1]
    go_wp2_with fail
    refine (alive_any w hE).mono ?_
    rintro e w2 ⟨rfl, hb2⟩
    go_wp2
    go_ret
    exact ⟨rfl, hb2⟩
  | true =>
    have hlt := litB_true hl hlit
    have hlen : l.reverse.length ≤ 1000 := by rw [List.length_reverse]; omega
    by_cases hk : k = 0
    · subst hk
      go_enter Tryd.func5, Tryd.ntmps5
      go_wp2_with fail
      refine (light_any l hl w sv hS).mono ?_
      rintro e w1 ⟨rfl, hw1⟩
      rw [hlit, hw1]
      go_wp2_with fail
      refine (alive_any w hE).mono ?_
      rintro e w2 ⟨rfl, hb2⟩
      go_wp2
      go_ret
      exact ⟨rfl, hb2⟩
    · have hk' : (k == 0) = false := by simpa using hk
      go_enter Tryd.func5, Tryd.ntmps5
      go_wp2_with fail
      refine (light_any l hl w sv hS).mono ?_
      rintro e w1 ⟨rfl, hw1⟩
      rw [hlit, hw1]
      go_wp2_with fail
      refine (wrapped_any l hl k hk w sv hS).mono ?_
      rintro e w2 ⟨v, rfl, hC2, hb2⟩
      have hS2 := hS.go hb2
      have hE2 := hE.go hb2
      go_wp2_with fail
      refine (trail_any hlen (.kind k) w2 hC2).mono ?_
      rintro e w3 ⟨s3, rfl, h3, hb3⟩
      have hS3 := hS2.go hb3
      have hC3 := hC2.go hb3
      have hE3 := hE2.go hb3
      have hbw3 := hb2.trans (hb3.mono hb2.size)
      go_wp2_with fail
      refine (refTrail_any l (by omega) w3 sv hS3).mono ?_
      rintro e w4 ⟨s4, rfl, h4, hb4⟩
      have hS4 := hS3.go hb4
      have hC4 := hC3.go hb4
      have hE4 := hE3.go hb4
      have hbw4 := hbw3.trans (hb4.mono hbw3.size)
      have h3' := h3.go hb4
      clear h3 hb2 hb3 hb4 hbw3 hS2 hS3 hC2 hC3 hE2 hE3
      go_wp2_with fail
      refine (texts_same _ (by rw [List.length_map]; omega) w4 s3 s4 h3' h4).mono ?_
      rintro e w5 ⟨rfl, hb5⟩
      have hS5 := hS4.go hb5
      have hC5 := hC4.go hb5
      have hE5 := hE4.go hb5
      have hbw5 := hbw4.trans (hb5.mono hbw4.size)
      clear h3' h4 hb5 hbw4 hS4 hC4 hE4
      go_wp2_with fail
      refine (place_any (q := q) (.kind k) w5 hC5).mono ?_
      rintro e w6 ⟨rfl, hb6⟩
      have hS6 := hS5.go hb6
      have hE6 := hE5.go hb6
      have hbw6 := hbw5.trans (hb6.mono hbw5.size)
      clear hb6 hbw5 hS5 hC5 hE5
      go_wp2_with fail
      refine (refPlace_any l hl q w6 sv hS6).mono ?_
      rintro e w7 ⟨rfl, hw7⟩
      rw [hw7]
      go_wp2_with fail
      refine (alive_any w6 hE6).mono ?_
      rintro e w8 ⟨rfl, hb8⟩
      go_wp2
      go_ret
      exact ⟨rfl, hbw6.trans (hb8.mono hbw6.size)⟩

end Go.Proofs.YteleldeeakklpaaDoor
