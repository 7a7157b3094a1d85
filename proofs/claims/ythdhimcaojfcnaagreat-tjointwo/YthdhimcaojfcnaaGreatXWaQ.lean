/-
  A queue of stops: how it lies in memory, how its methods are reached through the interface, and the contracts of Len, Less, Swap.
-/
import Derived.Laws.OwnMore
import Derived.OwnWalk
import Derived.WalkSmall
import Derived.Lib.SmallJoins
import Derived.Stop.Asserts
import Derived.Test.YthdhimcaojfcnaaGreatXWaRight
import Derived.Test.YthdhimcaojfcnaaGreatJA
import Derived.Test.YthdhimcaojfcnaaGreatXGAppSrc
namespace Go.Proofs.YthdhimcaojfcnaaGreat
open Go Go.Proofs Go.RowKit

/-! ### Methods through the interface -/
set_option maxRecDepth 100000 in
theorem method_push (a : Addr) (w : World) : (method 294 120 (.pointer (some a)) "Push").run Tryz.prog w = .ok (161, .pointer (some a)) w := by kernel_rfl
set_option maxRecDepth 100000 in
theorem method_pop (a : Addr) (w : World) : (method 294 120 (.pointer (some a)) "Pop").run Tryz.prog w = .ok (160, .pointer (some a)) w := by kernel_rfl
theorem loadVar_q (a : Addr) (w : World) (v : Value) (h : w.cell? a = some v) : (loadVar 84 a).run Tryz.prog w = .ok v w := by
  go_simp
theorem recv_q (a : Addr) (w : World) (v : Value) (nm : String) (h : w.cell? a = some v) : (receiverAt 120 (.val (.pointer (some a))) false (some nm)).run Tryz.prog w = .ok v w := by
  have u := Tryz.underlying120
  have hl := loadVar_q a w v h
  have hn : (Builtin.ssaWrapNilChk_ #[120] 120 #[.pointer (some a), strVal "", strVal nm]).run Tryz.prog w = .ok (.pointer (some a)) w := by rfl
  simp [receiverAt, run_underlying u, Place.get, hn, Sem.run_bind, Result.andThen, asAddr, hl]
set_option maxRecDepth 100000 in
theorem method_at (a : Addr) (w : World) (v : Value) (nm : String) (f : Nat) (h : w.cell? a = some v) (hf : (Tryz.prog.info? 120).bind (fun i => (i.methods.find? (·.name == nm)).map fun m => (m.path.toList, m.func)) = some ([], some (f, false))) :
    (method 294 120 (.pointer (some a)) nm).run Tryz.prog w = .ok (f, v) w := by
  cases hi : Tryz.prog.info? 120 with
  | none => rw [hi] at hf; cases hf
  | some i =>
    rw [hi] at hf
    simp only [Option.bind_some] at hf
    cases hm : i.methods.find? (·.name == nm) with
    | none => rw [hm] at hf; cases hf
    | some m =>
      rw [hm] at hf
      simp only [Option.map_some, Option.some.injEq, Prod.mk.injEq] at hf
      obtain ⟨h1, h2⟩ := hf
      have h3 : m.path.isEmpty = true := by simpa using h1
      unfold method
      simp only [typeInfo, Sem.run_bind, run_program, Result.andThen_ok, hi]
      simp [hm, h1, h2, h3, follow, Result.andThen]
      rw [recv_q a w v _ h]
set_option maxRecDepth 100000 in
theorem method_len (a : Addr) (w : World) (v : Value) (h : w.cell? a = some v) : (method 294 120 (.pointer (some a)) "Len").run Tryz.prog w = .ok (54, v) w := method_at a w v "Len" _ h (by kernel_rfl)
set_option maxRecDepth 100000 in
theorem method_less (a : Addr) (w : World) (v : Value) (h : w.cell? a = some v) : (method 294 120 (.pointer (some a)) "Less").run Tryz.prog w = .ok (158, v) w := method_at a w v "Less" _ h (by kernel_rfl)
set_option maxRecDepth 100000 in
theorem method_swap (a : Addr) (w : World) (v : Value) (h : w.cell? a = some v) : (method 294 120 (.pointer (some a)) "Swap").run Tryz.prog w = .ok (159, v) w := method_at a w v "Swap" _ h (by kernel_rfl)

/-! ### Stops in memory -/
abbrev Stp := Nat × Nat
def encQ (x : Stp) : List Value := [.int .i64 (x.1 : Int), .int .i64 (x.2 : Int)]
def flatQ (L : List Stp) : List Value := L.flatMap encQ
theorem flatQ_cons (x : Stp) (L : List Stp) : flatQ (x :: L) = .int .i64 (x.1 : Int) :: .int .i64 (x.2 : Int) :: flatQ L := rfl
theorem flatQ_snoc (L : List Stp) (d : Stp) : flatQ (L ++ [d]) = flatQ L ++ encQ d := by simp [flatQ]
theorem flatQ_len : ∀ L : List Stp, (flatQ L).length = L.length * 2
  | [] => rfl
  | x :: L => by rw [flatQ_cons]; simp [flatQ_len L]; omega
theorem flatQ_at : ∀ {L : List Stp} {j : Nat} {x : Stp}, L[j]? = some x → (flatQ L)[j * 2]? = some (.int .i64 (x.1 : Int)) ∧ (flatQ L)[j * 2 + 1]? = some (.int .i64 (x.2 : Int))
  | [], j, x, h => by simp at h
  | y :: L, 0, x, h => by simp at h; subst h; rw [flatQ_cons]; simp
  | y :: L, j + 1, x, h => by
    rw [flatQ_cons, show (j + 1) * 2 = j * 2 + 1 + 1 by omega]
    simpa using flatQ_at (L := L) (j := j) (by simpa using h)
theorem flatQ_set : ∀ (L : List Stp) (j : Nat) (x : Stp), ((flatQ L).set (j * 2) (.int .i64 (x.1 : Int))).set (j * 2 + 1) (.int .i64 (x.2 : Int)) = flatQ (L.set j x)
  | [], j, x => by simp [flatQ]
  | y :: L, 0, x => by simp [flatQ_cons]
  | y :: L, j + 1, x => by
    rw [flatQ_cons, List.set_cons_succ, flatQ_cons, ← flatQ_set L j x, show (j + 1) * 2 = j * 2 + 1 + 1 by omega]
    simp
/-- A queue that the call owns. -/
abbrev QO (W : World) (base : Nat) (v : Value) (L : List Stp) : Prop := W.ownsRow base 90 2 v L.length (flatQ L)
theorem QO.cell {W : World} {base g cap : Nat} {L : List Stp} (h : QO W base (.slice (some ⟨g, 0, none⟩) L.length cap) L) {j : Nat} (hj : j < L.length) : W.cell? ⟨g, j * 2, none⟩ = some (.int .i64 (L[j].1 : Int)) ∧ W.cell? ⟨g, j * 2 + 1, none⟩ = some (.int .i64 (L[j].2 : Int)) := by
  obtain ⟨h1, h2⟩ := flatQ_at (List.getElem?_eq_getElem hj)
  exact ⟨(World.ownsRow.cellAt h (j * 2) (by omega)).trans h1, (World.ownsRow.cellAt h (j * 2 + 1) (by omega)).trans h2⟩
theorem QO.put {W : World} {base g cap : Nat} {L : List Stp} (h : QO W base (.slice (some ⟨g, 0, none⟩) L.length cap) L) (j : Nat) (x : Stp) :
    QO ((W.setCell ⟨g, j * 2, none⟩ (.int .i64 (x.1 : Int))).setCell ⟨g, j * 2 + 1, none⟩ (.int .i64 (x.2 : Int))) base (.slice (some ⟨g, 0, none⟩) L.length cap) (L.set j x) ∧ W.grownBy ((W.setCell ⟨g, j * 2, none⟩ (.int .i64 (x.1 : Int))).setCell ⟨g, j * 2 + 1, none⟩ (.int .i64 (x.2 : Int))) (some g) := by
  obtain ⟨a1, a2⟩ := World.ownsRow.stored h (j * 2) (.int .i64 (x.1 : Int))
  obtain ⟨b1, b2⟩ := World.ownsRow.stored a1 (j * 2 + 1) (.int .i64 (x.2 : Int))
  refine ⟨?_, ⟨b2.os.trans a2.os, b2.tape.trans a2.tape, b2.output.trans a2.output, Nat.le_trans a2.size b2.size, fun k hk hne => (b2.block k (Nat.lt_of_lt_of_le hk a2.size) hne).trans (a2.block k hk hne)⟩⟩
  unfold QO
  rw [List.length_set, ← flatQ_set]
  exact b1
theorem grown_trans {a b c : World} {r : Option Nat} (h : a.grownBy b r) (h' : b.grownBy c r) : a.grownBy c r :=
  ⟨h'.os.trans h.os, h'.tape.trans h.tape, h'.output.trans h.output, Nat.le_trans h.size h'.size, fun k hk hne => (h'.block k (Nat.lt_of_lt_of_le hk h.size) hne).trans (h.block k hk hne)⟩
theorem grown_refl (a : World) (r : Option Nat) : a.grownBy a r := ⟨rfl, rfl, rfl, Nat.le_refl _, fun _ _ _ => rfl⟩
theorem grown_drewN {a b : World} {r : Option Nat} (h : a.grownBy b r) (k : Nat) : a.grownBy (b.drewN k) r := ⟨h.os, h.tape, h.output, h.size, h.block⟩

set_option maxRecDepth 100000 in
theorem qlen_any (p : Option Addr) (n c : Nat) (w : World) : Calls Tryz.prog 54 #[.slice p n c] w fun e w' => e = .returned (.int .i64 (n : Int)) ∧ w' = w := by
  go_enter Tryz.func54, Tryz.ntmps54
  go_wp2
  go_ret
  exact ⟨rfl, rfl⟩
set_option maxRecDepth 100000 in
set_option maxHeartbeats 1000000 in
theorem qless_any (base g cap : Nat) (L : List Stp) (i j : Nat) (w : World) (h : QO w base (.slice (some ⟨g, 0, none⟩) L.length cap) L) (hi : i < L.length) (hj : j < L.length) :
    Calls Tryz.prog 158 #[.slice (some ⟨g, 0, none⟩) L.length cap, .int .i64 (i : Int), .int .i64 (j : Int)] w fun e w' => (∃ b, e = .returned (.bool b)) ∧ ∃ q, w' = w.drewN q := by
  obtain ⟨a0, a1⟩ := h.cell hi
  obtain ⟨b0, b1⟩ := h.cell hj
  have hi' : (i : Int) < (L.length : Int) := by omega
  have hj' : (j : Int) < (L.length : Int) := by omega
  clear h
  go_enter Tryz.func158, Tryz.ntmps158
  go_wp2
  go_quiet (fail)
  go_wp2
  go_ret
  exact ⟨⟨_, rfl⟩, _, rfl⟩
set_option maxRecDepth 100000 in
set_option maxHeartbeats 4000000 in
theorem qswap_any (base g cap : Nat) (L : List Stp) (i j : Nat) (w : World) (h : QO w base (.slice (some ⟨g, 0, none⟩) L.length cap) L) (hi : i < L.length) (hj : j < L.length) :
    Calls Tryz.prog 159 #[.slice (some ⟨g, 0, none⟩) L.length cap, .int .i64 (i : Int), .int .i64 (j : Int)] w fun e w' => e = .returned (.tuple #[]) ∧ w.grownBy w' (some g) ∧ QO w' base (.slice (some ⟨g, 0, none⟩) L.length cap) ((L.set i L[j]).set j L[i]) := by
  obtain ⟨a0, a1⟩ := h.cell hi
  obtain ⟨b0, b1⟩ := h.cell hj
  have hi' : (i : Int) < (L.length : Int) := by omega
  have hj' : (j : Int) < (L.length : Int) := by omega
  have hfz := fun k => World.ownsRow.frozenAt h k
  have hmix := mixed
  have HQ : Hid _ := h
  clear h
  obtain ⟨x0, X0⟩ : ∃ x : Int, Hid ((L[i].1 : Int) = x) := ⟨(L[i].1 : Int), show Hid _ from rfl⟩
  obtain ⟨x1, X1⟩ : ∃ x : Int, Hid ((L[i].2 : Int) = x) := ⟨(L[i].2 : Int), show Hid _ from rfl⟩
  obtain ⟨y0, Y0⟩ : ∃ x : Int, Hid ((L[j].1 : Int) = x) := ⟨(L[j].1 : Int), show Hid _ from rfl⟩
  obtain ⟨y1, Y1⟩ : ∃ x : Int, Hid ((L[j].2 : Int) = x) := ⟨(L[j].2 : Int), show Hid _ from rfl⟩
  rw [X0.out] at a0
  rw [X1.out] at a1
  rw [Y0.out] at b0
  rw [Y1.out] at b1
  by_cases hij : i = j
  · subst hij
    go_enter Tryz.func159, Tryz.ntmps159
    go_wp2
    go_big_region_o
    go_wp2
    have h1 := QO.put HQ.out i L[i]
    have h2 := QO.put (L := L.set i L[i]) (by rw [List.length_set]; exact h1.1) i L[i]
    rw [List.length_set, X0.out, X1.out] at h2
    rw [X0.out, X1.out] at h1
    exact bodyPost_end (results_none rfl _ _ _) rfl ⟨rfl, grown_drewN (grown_trans h1.2 h2.2) 1, h2.1⟩
  · have n0 : ¬ j * 2 = i * 2 := by omega
    have n1 : ¬ j * 2 = i * 2 + 1 := by omega
    have n2 : ¬ j * 2 + 1 = i * 2 := by omega
    have n3 : ¬ j * 2 + 1 = i * 2 + 1 := by omega
    have m0 : ¬ i * 2 = j * 2 := by omega
    have m1 : ¬ i * 2 = j * 2 + 1 := by omega
    have m2 : ¬ i * 2 + 1 = j * 2 := by omega
    have m3 : ¬ i * 2 + 1 = j * 2 + 1 := by omega
    go_enter Tryz.func159, Tryz.ntmps159
    go_wp2
    go_big_region_o
    go_wp2
    have h1 := QO.put HQ.out i L[j]
    have h2 := QO.put (L := L.set i L[j]) (by rw [List.length_set]; exact h1.1) j L[i]
    rw [List.length_set, X0.out, X1.out] at h2
    rw [Y0.out, Y1.out] at h1 h2
    exact bodyPost_end (results_none rfl _ _ _) rfl ⟨rfl, grown_drewN (grown_trans h1.2 h2.2) 1, h2.1⟩
theorem swap_perm {α : Type} {L : List α} {i j : Nat} (hi : i < L.length) (hj : j < L.length) : ((L.set i L[j]).set j L[i]).Perm L := List.set_set_perm hi hj
end Go.Proofs.YthdhimcaojfcnaaGreat
