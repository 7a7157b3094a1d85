/-
  The reference's joined: how many ways go between two corners.
-/
import Derived.Test.YtgjaikekpgdehaaXKRefWays
import Derived.Test.YtgjaikekpgdehaaQE
namespace Go.Proofs.Ytgjaikekpgdehaa
open Go Go.Proofs Go.RowKit

def pairB (p q a b : Int) : Bool := (decide (p = a) && decide (q = b)) || (decide (p = b) && decide (q = a))
theorem joinN_snoc (ws : List (List Int)) (x : List Int) (a b : Int) : joinN (ws ++ [x]) a b = joinN ws a b + if pairB (endP x).1 (endP x).2 a b = true then 1 else 0 := by
  unfold joinN
  rw [List.countP_append, List.countP_singleton]
  rfl
theorem joinN_le (ws : List (List Int)) (a b : Int) : joinN ws a b ≤ ws.length := List.countP_le_length
set_option maxRecDepth 100000 in
set_option maxHeartbeats 4000000 in
theorem joined_any (ws : List (List Int)) (hm : ws.length ≤ 4194304) (hw : ∀ x ∈ ws, 1 ≤ x.length ∧ x.length ≤ 4194304) (a b : Int) (lv : Value) (w : World) (hl : Lsts w.heap.size w lv ws) :
    Calls Try.prog 30 #[lv, .int .i64 a, .int .i64 b] w fun r w' => r = .returned (.int .i64 (joinN ws a b : Int)) ∧ Grew w w' := by
  obtain ⟨p, c, rfl⟩ := hl.len
  have hmix := mixed
  have HW : Hid _ := hw
  clear hw
  go_enter Try.func30, Try.ntmps30
  go_wp2
  go_loopw [7, 8] (fun nv i wr => ∃ j : Nat, j ≤ ws.length ∧ i = .int .i64 j ∧ nv = .int .i64 (joinN (ws.take j) a b : Int) ∧ Grew w wr) (fun _ i _ => ws.length - (intOf i).toNat)
  case atStart => exact ⟨0, Nat.zero_le _, rfl, rfl, Grew.refl _⟩
  case round =>
    obtain ⟨j, hj, rfl, rfl, hg⟩ := hrel
    by_cases hlt : j < ws.length
    · have hjl : (j : Int) < (ws.length : Int) := by omega
      obtain ⟨bo, oo, rfl, hbo, hco, py, cy, hIy, hcy⟩ := (hl.go hg.below).cellAt hlt
      have hx := HW.out ws[j] (List.getElem_mem hlt)
      have HS : Hid (joinN (ws.take (j + 1)) a b = joinN (ws.take j) a b + if pairB (endP ws[j]).1 (endP ws[j]).2 a b = true then 1 else 0) := by unfold Hid; rw [take_snoc hlt, joinN_snoc]
      have HJL : Hid (joinN (ws.take j) a b ≤ ws.length) := Nat.le_trans (joinN_le _ _ _) (by simp; omega)
      obtain ⟨X, hX⟩ : ∃ X, ws[j] = X := ⟨_, rfl⟩
      rw [hX] at hx HS hIy hcy
      obtain ⟨bx, ox, rfl, hbx, hcx, hcI⟩ := hIy.open (j := 0) (by omega)
      have x0 : wr.cell? ⟨bx, ox, none⟩ = some (.int .i64 (endP X).1) := by
        have := hcI wr (Below.refl _ _) 0 (by omega)
        rw [Nat.add_zero] at this
        rw [this]
        unfold endP
        simp [show 0 < X.length by omega]
      have x1 : wr.cell? ⟨bx, ox + (X.length - 1), none⟩ = some (.int .i64 (endP X).2) := by
        have := hcI wr (Below.refl _ _) (X.length - 1) (by omega)
        rw [this]
        unfold endP
        simp [show X.length - 1 < X.length by omega]
      have hxl0 : (0 : Int) < (X.length : Int) := by omega
      have hxl0' : 0 < X.length := by omega
      have hwx : IntKind.i64.wrap ((X.length : Int) - 1) = ((X.length - 1 : Nat) : Int) := by rw [wrap_i _ (by omega) (by omega)]; omega
      have hxl1 : ((X.length - 1 : Nat) : Int) < (X.length : Int) := by omega
      have HJ : Hid (j < ws.length) := hlt
      clear hX hcI hIy hlt hj
      generalize (endP X).1 = e1 at *
      generalize (endP X).2 = e2 at *
      generalize hK : joinN (ws.take j) a b = kk at *
      clear hK
      have hkk : kk ≤ 4194304 := by have := HJL.out; omega
      go_wp2
      go_quiet (fail)
      have hgq := hg.drewN nq
      generalize wr.drewN nq = w8 at hgq ⊢
      clear hg x0 x1 hcy
      obtain ⟨b1, hb1⟩ : ∃ b1, (e1 == a) = b1 := ⟨_, rfl⟩
      obtain ⟨b2, hb2⟩ : ∃ b2, (e2 == b) = b2 := ⟨_, rfl⟩
      obtain ⟨b3, hb3⟩ : ∃ b3, (e1 == b) = b3 := ⟨_, rfl⟩
      obtain ⟨b4, hb4⟩ : ∃ b4, (e2 == a) = b4 := ⟨_, rfl⟩
      have HP : Hid (pairB e1 e2 a b = ((b1 && b2) || (b3 && b4))) := by
        unfold Hid pairB
        rw [← hb1, ← hb2, ← hb3, ← hb4]
        rfl
      cases b1 <;> cases b2 <;> cases b3 <;> cases b4
      all_goals go_wp2
      all_goals refine ⟨⟨j + 1, by have := HJ.out; omega, by go_num, ?_, hgq⟩, by have := HJ.out; simp [intOf]; omega⟩
      all_goals rw [HS.out, HP.out]
      all_goals (simp only [Bool.and_true, Bool.and_false, Bool.or_true, Bool.or_false, if_true, Bool.false_eq_true, if_false]; first | rfl | go_num)
    · obtain rfl : j = ws.length := by omega
      have hjl : ¬ (ws.length : Int) < (ws.length : Int) := by omega
      rw [List.take_length]
      go_wp2
      go_ret
      exact ⟨rfl, hg⟩
end Go.Proofs.Ytgjaikekpgdehaa
