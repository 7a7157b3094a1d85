/-
  The contracts of fault.Wrap, and of filigreelaw03.wrapped and light.
-/
import Derived.Deep.QuietTactic
import Derived.BigQuiet
import Derived.Deep.RegionWith
import Derived.Test.YteleldeeakklpaaDoorFText
namespace Go.Proofs.YteleldeeakklpaaDoor
open Go Go.Proofs Go.RowKit

theorem eqlK (a b : Int) (w : World) : (binOp .eql 27 (.iface 23 (.int .i64 a)) (.iface 23 (.int .i64 b))).run Tryd.prog w = .ok (.bool (a == b)) w := by kernel_rfl
theorem eqlFK (v : Value) (b : Int) (w : World) : (binOp .eql 27 (.iface 29 v) (.iface 23 (.int .i64 b))).run Tryd.prog w = .ok (.bool false) w := by kernel_rfl
theorem eqlEK (v : Value) (b : Int) (w : World) : (binOp .eql 27 (.iface 81 v) (.iface 23 (.int .i64 b))).run Tryd.prog w = .ok (.bool false) w := by kernel_rfl

theorem wrap_nil (s : ByteArray) (a : Int) (w : World) :
    Calls Tryd.prog 24 #[.string s, .int .i64 a, .nilIface] w fun e w' => e = .returned .nilIface ∧ w' = w := by
  go_enter Tryd.func24, Tryd.ntmps24
  go_wp2
  go_ret
  exact ⟨rfl, rfl⟩
theorem wrap_ok (s : ByteArray) (a : Int) (w : World) :
    Calls Tryd.prog 24 #[.string s, .int .i64 a, .iface 23 (.int .i64 0)] w fun e w' => e = .returned .nilIface ∧ w' = w := by
  have h := eqlK
  go_enter Tryd.func24, Tryd.ntmps24
  go_wp2
  go_ret
  exact ⟨rfl, rfl⟩
/-- What Wrap wraps. -/
def Wraps (v : Value) : Prop := (∃ k : Int, k ≠ 0 ∧ v = .iface 23 (.int .i64 k)) ∨ (∃ p : Addr, v = .iface 81 (.pointer (some p))) ∨ ∃ p : Option Addr, v = .iface 29 (.pointer p)
theorem Wraps.kind (k : Int) (h : k ≠ 0) : Wraps (.iface 23 (.int .i64 k)) := .inl ⟨k, h, rfl⟩
theorem Wraps.err (p : Addr) : Wraps (.iface 81 (.pointer (some p))) := .inr (.inl ⟨p, rfl⟩)
theorem Wraps.fault (p : Option Addr) : Wraps (.iface 29 (.pointer p)) := .inr (.inr ⟨p, rfl⟩)
theorem Wraps.iface {v : Value} (h : Wraps v) : ∃ t x, v = .iface t x := by
  rcases h with ⟨k, _, rfl⟩ | ⟨p, rfl⟩ | ⟨p, rfl⟩ <;> exact ⟨_, _, rfl⟩
theorem wrap_any (s : ByteArray) (a : Int) (v : Value) (hv : Wraps v) (w : World) :
    Calls Tryd.prog 24 #[.string s, .int .i64 a, v] w fun e w' => e = .returned (.iface 29 (.pointer (some ⟨w.heap.size, 0, none⟩))) ∧ w' = w.alloc (.cells #[.string s, .int .i64 a, v] 37) := by
  have h1 := eqlK
  have h2 := eqlFK
  have h3 := eqlEK
  rcases hv with ⟨k, h, rfl⟩ | ⟨p, rfl⟩ | ⟨p, rfl⟩
  · have hk : (k == 0) = false := by simpa using h
    go_enter Tryd.func24, Tryd.ntmps24
    go_wp2
    go_ret
    exact ⟨rfl, rfl⟩
  · go_enter Tryd.func24, Tryd.ntmps24
    go_wp2
    go_ret
    exact ⟨rfl, rfl⟩
  · go_enter Tryd.func24, Tryd.ntmps24
    go_wp2
    go_ret
    exact ⟨rfl, rfl⟩

/-- The slice value sv holds the steps l. -/
def Steps (n : Nat) (W : World) (sv : Value) (l : List (ByteArray × Int)) : Prop :=
  ((∃ p c, sv = .slice p 0 c) ∧ l = []) ∨ ∃ b off cap, sv = .slice (some ⟨b, off, none⟩) l.length cap ∧ b < n ∧ l.length ≤ cap ∧ ∀ j x, l[j]? = some x → W.cell? ⟨b, off + j * 2, none⟩ = some (.string x.1) ∧ W.cell? ⟨b, off + j * 2 + 1, none⟩ = some (.int .i64 x.2)
theorem Steps.below {n : Nat} {W W' : World} {sv : Value} {l : List (ByteArray × Int)} (h : Steps n W sv l) (hb : Below n W W') : Steps n W' sv l := by
  rcases h with h | ⟨b, off, cap, h1, h2, h3, h4⟩
  · exact .inl h
  · exact .inr ⟨b, off, cap, h1, h2, h3, fun j x hx => ⟨(hb.cell (p := ⟨b, _, none⟩) h2).trans (h4 j x hx).1, (hb.cell (p := ⟨b, _, none⟩) h2).trans (h4 j x hx).2⟩⟩
/-- Steps as they may come in. -/
def InOkay (l : List (ByteArray × Int)) : Prop := l.length ≤ 9223372036854775807 ∧ ∀ x ∈ l, x.1.size ≤ 140737488355328 ∧ -9223372036854775808 ≤ x.2 ∧ x.2 ≤ 9223372036854775807

/-- The sum of the lengths, as Go's int has it. -/
def lenW : List (ByteArray × Int) → Int
  | [] => 0
  | x :: l => wrap64 (lenW l + x.1.size)
def litB (l : List (ByteArray × Int)) : Bool := decide ((l.length : Int) ≤ 50) && decide (lenW l.reverse ≤ 5000)
theorem litB_far {l : List (ByteArray × Int)} (h : 50 < (l.length : Int)) : litB l = false := by simp [litB]; omega
theorem litB_near {l : List (ByteArray × Int)} (h : (l.length : Int) ≤ 50) : litB l = decide (lenW l.reverse ≤ 5000) := by simp [litB, h]
theorem lenW_sum : ∀ (l : List (ByteArray × Int)), l.length ≤ 50 → (∀ x ∈ l, x.1.size ≤ 140737488355328) → lenW l ≤ l.length * 140737488355328 ∧ 0 ≤ lenW l ∧ ∀ x ∈ l, (x.1.size : Int) ≤ lenW l
  | [], _, _ => by simp [lenW]
  | x :: l, h, hx => by
    simp only [List.length_cons] at h
    obtain ⟨h1, h2, h3⟩ := lenW_sum l (by omega) (fun y hy => hx y (by simp [hy]))
    have h4 := hx x (by simp)
    have e : lenW (x :: l) = lenW l + x.1.size := by
      show wrap64 (lenW l + x.1.size) = _
      have : (l.length : Int) * 140737488355328 ≤ 50 * 140737488355328 := Int.mul_le_mul_of_nonneg_right (by omega) (by omega)
      unfold wrap64; omega
    rw [e]
    refine ⟨?_, by omega, fun y hy => ?_⟩
    · simp only [List.length_cons]
      have : (((l.length + 1 : Nat) : Int)) * 140737488355328 = (l.length : Int) * 140737488355328 + 140737488355328 := by rw [Int.natCast_add, Int.add_mul]; simp
      omega
    · rcases List.mem_cons.1 hy with rfl | hy
      · omega
      · have := h3 y hy; omega
/-- What light tells. -/
theorem litB_true {l : List (ByteArray × Int)} (hl : InOkay l) (h : litB l = true) : l.length ≤ 50 ∧ ∀ x ∈ l, x.1.size ≤ 5000 ∧ -9223372036854775808 ≤ x.2 ∧ x.2 ≤ 9223372036854775807 := by
  simp only [litB, Bool.and_eq_true, decide_eq_true_eq] at h
  obtain ⟨_, _, h3⟩ := lenW_sum l.reverse (by simp; omega) (fun x hx => (hl.2 x (by simpa using hx)).1)
  refine ⟨by omega, fun x hx => ⟨?_, (hl.2 x hx).2⟩⟩
  have := h3 x (by simpa using hx)
  omega

set_option maxRecDepth 100000 in
set_option maxHeartbeats 1000000 in
theorem light_any (l : List (ByteArray × Int)) (hl : InOkay l) (w : World) (sv : Value) (hS : Steps w.heap.size w sv l) :
    Calls Tryd.prog 8 #[sv] w fun e w' => e = .returned (.bool (litB l)) ∧ w' = w := by
  obtain ⟨hl1, hl2⟩ := hl
  obtain ⟨pa, ca, rfl⟩ : ∃ pa ca, sv = .slice pa l.length ca := by
    rcases hS with ⟨⟨p, c, rfl⟩, rfl⟩ | ⟨b, off, cap, rfl, _⟩ <;> exact ⟨_, _, rfl⟩
  go_enter Tryd.func8, Tryd.ntmps8
  go_wp2
  go_loop [3, 4] (fun n i => ∃ k : Nat, k ≤ l.length ∧ i = .int .i64 k ∧ n = .int .i64 (lenW (l.take k).reverse)) (fun _ i => l.length - (intOf i).toNat)
  case atStart => exact ⟨0, Nat.zero_le _, rfl, rfl⟩
  case round =>
    obtain ⟨k, hk, rfl, rfl⟩ := hrel
    by_cases hlt : k < l.length
    · rcases hS with ⟨⟨p, c, h1⟩, rfl⟩ | ⟨b, off, cap, h1, hb, hcap, hc⟩
      · simp at hlt
      · simp only [Value.slice.injEq] at h1
        obtain ⟨rfl, _, rfl⟩ := h1
        obtain ⟨c0, c1⟩ := hc k l[k] (List.getElem?_eq_getElem hlt)
        have hstep : lenW (l.take (k + 1)).reverse = wrap64 (lenW (l.take k).reverse + l[k].1.size) := by
          rw [List.take_succ_eq_append_getElem hlt, List.reverse_append]; rfl
        have HS : Hid _ := hstep
        clear hstep hc
        go_wp2
        exact ⟨⟨k + 1, hlt, by go_num, by rw [HS.out]⟩, by simp [intOf]; omega⟩
    · obtain rfl : k = l.length := by omega
      rw [List.take_length]
      by_cases h50 : (l.length : Int) ≤ 50
      · have HL : Hid _ := litB_near h50
        go_wp2
        go_ret
        exact ⟨by rw [HL.out]; rfl, rfl⟩
      · have HL : Hid _ := litB_far (l := l) (by omega)
        go_wp2
        go_ret
        exact ⟨by rw [HL.out]; rfl, rfl⟩

theorem chain_new {w : World} {ev v : Value} {N : Nat} {L : List (ByteArray × Int)} (hN : N ≤ w.heap.size) (h : Chain w ev N L v) (x : ByteArray × Int) :
    Chain (w.alloc (.cells #[.string x.1, .int .i64 x.2, v] 37)) ev (w.heap.size + 1) (x :: L) (.iface 29 (.pointer (some ⟨w.heap.size, 0, none⟩))) :=
  ⟨w.heap.size, v, Nat.lt_succ_self _, rfl, (MapKept.heap_alloc w _).1, (h.mono hN).below ((Below.refl _ _).alloc (Nat.le_refl _) _)⟩
theorem chain_wraps {w : World} {k : Int} (hk : k ≠ 0) {N : Nat} {L : List (ByteArray × Int)} {v : Value} (h : Chain w (.iface 23 (.int .i64 k)) N L v) : Wraps v := by
  cases L with
  | nil => have h : v = _ := h; rw [h]; exact .kind k hk
  | cons x L => obtain ⟨b, v', _, rfl, _⟩ := h; exact .fault _

set_option maxRecDepth 100000 in
set_option maxHeartbeats 1000000 in
/-- A kind that is not OK, wrapped by steps. -/
theorem wrapped_any (l : List (ByteArray × Int)) (hl : InOkay l) (k : Int) (hk : k ≠ 0) (w : World) (sv : Value) (hS : Steps w.heap.size w sv l) :
    Calls Tryd.prog 10 #[sv, .int .i64 k] w fun e w' => ∃ v, e = .returned v ∧ Chain w' (.iface 23 (.int .i64 k)) w'.heap.size l.reverse v ∧ Below w.heap.size w w' := by
  obtain ⟨hl1, hl2⟩ := hl
  obtain ⟨pa, ca, rfl⟩ : ∃ pa ca, sv = .slice pa l.length ca := by
    rcases hS with ⟨⟨p, c, rfl⟩, rfl⟩ | ⟨b, off, cap, rfl, _⟩ <;> exact ⟨_, _, rfl⟩
  go_enter Tryd.func10, Tryd.ntmps10
  go_wp2
  go_loopw [5, 6] (fun v i wr => ∃ j : Nat, j ≤ l.length ∧ i = .int .i64 j ∧ Chain wr (.iface 23 (.int .i64 k)) wr.heap.size (l.take j).reverse v ∧ Below w.heap.size w wr) (fun _ i _ => l.length - (intOf i).toNat)
  case atStart => exact ⟨0, Nat.zero_le _, rfl, rfl, Below.refl _ _⟩
  case round =>
    obtain ⟨j, hj, rfl, hC, hb⟩ := hrel
    by_cases hlt : j < l.length
    · rcases hS with ⟨⟨p, c, h1⟩, rfl⟩ | ⟨b, off, cap, h1, hbb, hcap, hc⟩
      · simp at hlt
      · simp only [Value.slice.injEq] at h1
        obtain ⟨rfl, _, rfl⟩ := h1
        obtain ⟨c0, c1⟩ := hc j l[j] (List.getElem?_eq_getElem hlt)
        replace c0 := (hb.cell (p := ⟨b, off + j * 2, none⟩) hbb).trans c0
        replace c1 := (hb.cell (p := ⟨b, off + j * 2 + 1, none⟩) hbb).trans c1
        have hw := chain_wraps hk hC
        have hnew := chain_new (Nat.le_refl _) hC l[j]
        have hstep : (l.take (j + 1)).reverse = l[j] :: (l.take j).reverse := by
          rw [List.take_succ_eq_append_getElem hlt, List.reverse_append]; rfl
        have HS : Hid _ := hstep
        have HW : Hid _ := hw
        clear hstep hc hw
        have hbn : Below w.heap.size w (wr.alloc (.cells #[.string l[j].1, .int .i64 l[j].2, u5] 37)) := hb.alloc hb.size _
        go_wp2
        refine wp_cutN (fun a' w' => w' = (wr.alloc (.cells #[.string l[j].1, .int .i64 l[j].2, u5] 37)).drew ∧ ∃ v15 v16 v17 v18 v19 v20 v21 v22 v23 v24 v25 v26, a' = { tmps := #[.slice (some ⟨b, off, none⟩) l.length ca, .int .i64 k, undef, undef, .nilIface, .iface 29 (.pointer (some ⟨wr.heap.size, 0, none⟩)), .int .i64 j, .int .i64 k, .iface 23 (.int .i64 k), .int .i64 j, .slice (some ⟨b, off, none⟩) l.length ca, .int .i64 l.length, .bool true, u13, u14, v15, v16, v17, v18, v19, v20, v21, v22, v23, v24, v25, v26, undef], defers := [] }) ?_ ?_
        · go_region_with (go_at_call 24; refine (wrap_any _ _ _ HW.out _).mono ?_; rintro e w2 ⟨rfl, rfl⟩)
          all_goals exact ⟨rfl, _, _, _, _, _, _, _, _, _, _, _, _, rfl⟩
        · rintro a' w' ⟨rfl, v15, v16, v17, v18, v19, v20, v21, v22, v23, v24, v25, v26, rfl⟩
          have hnew2 := hnew.below (Below.drew (Below.refl _ _))
          have hbn2 := hbn.drew
          go_wp2
          have hnew3 : Chain (wr.alloc (.cells #[.string l[j].1, .int .i64 l[j].2, u5] 37)).drew (.iface 23 (.int .i64 k)) (wr.alloc (.cells #[.string l[j].1, .int .i64 l[j].2, u5] 37)).drew.heap.size (l.take (j + 1)).reverse (.iface 29 (.pointer (some ⟨wr.heap.size, 0, none⟩))) := by
            rw [HS.out]; exact hnew2.mono (by simp)
          refine ⟨⟨.iface 29 (.pointer (some ⟨wr.heap.size, 0, none⟩)), .int .i64 ((j : Int) + 1), _, _, _, _, _, _, _, _, _, _, _, _, _, _, _, _, _, _, ⟨j + 1, hlt, by go_num, hnew3, hbn2⟩, rfl⟩, ?_⟩
          simp [intOf]; omega
    · obtain rfl : j = l.length := by omega
      rw [List.take_length] at hC
      go_wp2
      go_ret
      exact ⟨_, rfl, hC, hb⟩

end Go.Proofs.YteleldeeakklpaaDoor
