/-
  Contracts of slices.Backward at a list of uint32 cells (the iterator that goes from the last element to the first), for the laws of package natural: each loop over it visits the indices len-1 .. 0 with the elements as they stand.
-/
import Derived.RangeFuncBox
import Derived.RangeFuncNested
import Derived.RangeFuncBound
import Derived.RangeFuncCalls
import Derived.RangeFuncLeaves
import Derived.Shelf.Abstract
import Derived.Shelf.RegionOpen
import Derived.WalkKit
import Derived.OwnWalkIn
import Derived.TacticsInMore
import Derived.LoopNIn
import Derived.LoopIn
import Derived.Test.YtkalknmindgljaaDoorProg
import Derived.Test.YtkalknmindgljaaDoorNums
namespace Go.Proofs.YtkalknmindgljaaDoor
open Go Go.Proofs Go.RowKit Go.Shelf

attribute [local go_sem] Oper.semAt_some

/-- What has come when k rounds are over: f 0, .., f (k - 1). -/
def upto {α : Type} (f : Nat → α) (k : Nat) : List α := (List.range k).map f
theorem upto_succ {α : Type} (f : Nat → α) (k : Nat) : upto f (k + 1) = upto f k ++ [f k] := by simp [upto, List.range_succ]
theorem upto_length {α : Type} (f : Nat → α) (k : Nat) : (upto f k).length = k := by simp [upto]

/-- The slice value sv holds the numbers zs of kind q, in a block below n₀; or there are none, and its address is whatever it is. -/
def Seg (q : IntKind) (n₀ : Nat) (W : World) (sv : Value) (zs : List Int) : Prop :=
  ((∃ p c, sv = .slice p 0 c) ∧ zs = []) ∨ ∃ b off cap, sv = .slice (some ⟨b, off, none⟩) zs.length cap ∧ b < n₀ ∧ zs.length ≤ cap ∧ ∀ j, j < zs.length → W.cell? ⟨b, off + j, none⟩ = some (.int q (nth zs j))
abbrev U32s := Seg .u32
theorem Seg.below {q : IntKind} {n₀ : Nat} {A B : World} (h : Below n₀ A B) {sv : Value} {zs : List Int} : Seg q n₀ A sv zs → Seg q n₀ B sv zs
  | .inl e => .inl e
  | .inr ⟨b, off, cap, e, hb, hl, hc⟩ => .inr ⟨b, off, cap, e, hb, hl, fun j hj => (h.cell (p := ⟨b, off + j, none⟩) hb).trans (hc j hj)⟩

/-- The index that the k-th round gets. -/
def down (len k : Nat) (h : 0 < len) : Fin len := ⟨len - 1 - k, by omega⟩

/-- Two blocks lie as they lay. -/
def Keep2 (b c : Nat) (W W' : World) : Prop := W'.heap[b]? = W.heap[b]? ∧ W'.heap[c]? = W.heap[c]?
theorem Keep2.refl (b c : Nat) (W : World) : Keep2 b c W W := ⟨rfl, rfl⟩
theorem Keep2.trans {b c : Nat} {A B C : World} (h : Keep2 b c A B) (k : Keep2 b c B C) : Keep2 b c A C := ⟨k.1.trans h.1, k.2.trans h.2⟩
theorem Keep2.cell1 {b c : Nat} {A B : World} (h : Keep2 b c A B) (o : Nat) : B.cell? ⟨b, o, none⟩ = A.cell? ⟨b, o, none⟩ := World.cell?_of_block (w := A) h.1
theorem Keep2.cell2 {b c : Nat} {A B : World} (h : Keep2 b c A B) (o : Nat) : B.cell? ⟨c, o, none⟩ = A.cell? ⟨c, o, none⟩ := World.cell?_of_block (w := A) h.2
theorem Keep2.below {b c n : Nat} {A B : World} (h : Below n A B) (hb : b < n) (hc : c < n) : Keep2 b c A B := ⟨h.block b hb, h.block c hc⟩
theorem Keep2.setCell {b c : Nat} {A B : World} (h : Keep2 b c A B) {p : Addr} (hb : b ≠ p.block) (hc : c ≠ p.block) (u : Value) : Keep2 b c A (B.setCell p u) :=
  h.trans ⟨Below.heap_setCell _ _ _ _ hb, Below.heap_setCell _ _ _ _ hc⟩
theorem keep2_b {b c : Nat} {w : World} (hb : b < w.heap.size) (hc : c < w.heap.size) (W : World) (l : Nat) (o o' : Obj) (hl : w.heap.size ≤ l) (h : W.heap[l]? = some o) (h1 : o.isCells = false) (h2 : o.isWalk = false) : Keep2 b c W (W.putObj l o') :=
  have hB := belowK_b (n₀ := w.heap.size) (Nat.le_refl _) W l o o' hl h h1 h2
  ⟨hB.block b hb, hB.block c hc⟩

set_option maxRecDepth 100000 in
set_option maxHeartbeats 2000000 in
/-- slices.Backward's closure: for every loop body that keeps the list's block and the closure's own. -/
theorem back1_in (F : Fence) (n : Nat) (hf : F.fn 58) (hro : F.round = none) (hn : 1 ≤ n) (l Bs b off len cap : Nat) (hlen : 0 < len) (zs : List Int) (hreach : len * 4 ≤ 140737488351232) (J Jx : List (Fin len) → World → Prop)
    (hY : ∀ pre x W, J pre W → pre.length < len → YieldAt F (n - 1) Tryd.prog l #[.int .i64 ((x : Fin len).1 : Int), .int .u32 (nth zs x.1)] W fun e W' =>
      (e = .returned (.bool true) ∧ J (pre ++ [x]) W' ∧ Keep2 b Bs W W') ∨ (e = .returned (.bool false) ∧ Jx (pre ++ [x]) W'))
    (W : World) (hBs : W.cell? ⟨Bs, 0, none⟩ = some (.slice (some ⟨b, off, none⟩) len cap)) (hc : ∀ j, j < len → W.cell? ⟨b, off + j, none⟩ = some (.int .u32 (nth zs j))) (h0 : J [] W) :
    CallsIn F n Tryd.prog 58 #[.func (.yield l) #[] #[], .pointer (some ⟨Bs, 0, none⟩)] W fun e W' => (∃ v, e = .returned v) ∧
      ((∃ ys, ys = upto (fun j => down len j hlen) len ∧ J ys W') ∨ (∃ pre, (∃ k, k ≤ len ∧ pre = upto (fun j => down len j hlen) k) ∧ Jx pre W')) := by
  refine callsIn_of_wp Tryd.func58 rfl hf ?_ hro
  simp only [Tryd.ntmps58, List.size_toArray, List.length_cons, List.length_nil, Nat.reduceAdd, Nat.reduceSub, Array.replicate_succ, Array.replicate_zero, List.push_toArray, List.append_toArray, List.nil_append, List.cons_append]
  gi_wp2
  gi_loopw [3] (fun i wr => ∃ k : Nat, k ≤ len ∧ i = .int .i64 ((len : Int) - 1 - k) ∧ J (upto (fun j => down len j hlen) k) wr ∧ Keep2 b Bs W wr)
    (fun i _ => (intOf i + 1).toNat)
  case atStart => exact ⟨0, Nat.zero_le _, by simp, h0, Keep2.refl _ _ _⟩
  case round =>
    obtain ⟨k, hk, rfl, hJs, hnx⟩ := hrel
    by_cases hlt : k < len
    · obtain ⟨fn, tmps, assign, body, hy, hR⟩ := hY _ (down len k hlen) wr hJs (by rw [upto_length]; exact hlt)
      obtain ⟨m, hm⟩ : ∃ m : Nat, m = len - 1 - k := ⟨_, rfl⟩
      have em : ((len : Int) - 1 - k) = (m : Int) := by omega
      have hcx : wr.cell? ⟨b, off + m, none⟩ = some (.int .u32 (nth zs m)) := (hnx.cell1 _).trans (hc m (by omega))
      have hbx := (hnx.cell2 0).trans hBs
      have ed : (down len k hlen).1 = m := by simp [down, hm]
      rw [ed] at hy
      rw [em]
      have HM : Hid (m = len - 1 - k) := hm
      have hml : m < len := by omega
      clear hm em ed
      gi_wp2
      refine hR.mono ?_
      rintro e W3 (⟨rfl, hJ3, hk3⟩ | ⟨rfl, hJx3⟩)
      · gi_wp2
        have := HM.out
        go_roundw
        case rel => exact ⟨k + 1, by omega, by go_num, by rw [upto_succ]; exact hJ3, hnx.trans hk3⟩
        case measure => simp [intOf]
      · gi_wp2
        refine bodyPost_ret (results_none rfl _ _ _) rfl ?_
        exact ⟨⟨_, rfl⟩, .inr ⟨_, ⟨k + 1, by omega, (upto_succ _ _).symm⟩, hJx3⟩⟩
    · obtain rfl : k = len := by omega
      have em : ((k : Int) - 1 - k) = -1 := by omega
      rw [em]
      gi_wp2
      go_end0
      exact ⟨⟨_, rfl⟩, .inl ⟨_, rfl, hJs⟩⟩

set_option maxRecDepth 100000 in
set_option maxHeartbeats 1000000 in
/-- .. at a list of no elements: no round. -/
theorem back1_nil_in (F : Fence) (n : Nat) (hf : F.fn 58) (hro : F.round = none) (l Bs : Nat) (a : Option Addr) (cap : Nat) {α : Type} (J : List α → World → Prop) (W : World) (hBs : W.cell? ⟨Bs, 0, none⟩ = some (.slice a 0 cap)) (h0 : J [] W) :
    CallsIn F n Tryd.prog 58 #[.func (.yield l) #[] #[], .pointer (some ⟨Bs, 0, none⟩)] W fun e W' => (∃ v, e = .returned v) ∧ J [] W' := by
  refine callsIn_of_wp Tryd.func58 rfl hf ?_ hro
  simp only [Tryd.ntmps58, List.size_toArray, List.length_cons, List.length_nil, Nat.reduceAdd, Nat.reduceSub, Array.replicate_succ, Array.replicate_zero, List.push_toArray, List.append_toArray, List.nil_append, List.cons_append]
  gi_wp2
  gi_loopw [3] (fun i wr => i = .int .i64 (-1) ∧ J [] wr) (fun _ _ => 0)
  case atStart => exact ⟨by simp, h0⟩
  case round =>
    obtain ⟨rfl, hJs⟩ := hrel
    gi_wp2
    go_end0
    exact ⟨⟨_, rfl⟩, hJs⟩

set_option maxHeartbeats 1000000 in
/-- slices.Backward(s): the slice value is boxed; the function value captures the box. -/
theorem back_in (F : Fence) (n : Nat) (hf : F.fn 34) (hro : F.round = none) (a : Option Addr) (len cap : Nat) (w : World) :
    CallsIn F n Tryd.prog 34 #[.slice a len cap] w fun e w' => e = .returned (.func (.func 58) #[] #[.pointer (some ⟨w.heap.size, 0, none⟩)]) ∧ w' = w.alloc (.cells #[.slice a len cap] 23) := by
  refine callsIn_of_wp Tryd.func34 rfl hf ?_ hro
  simp only [Tryd.ntmps34, List.size_toArray, List.length_cons, List.length_nil, Nat.reduceAdd, Nat.reduceSub, Array.replicate_succ, Array.replicate_zero, List.push_toArray, List.append_toArray, List.nil_append, List.cons_append]
  gi_wp2
  go_ret
  exact ⟨rfl, rfl⟩

/-- The indices from the last to the first. -/
def downs (len : Nat) : List (Fin len) := (List.finRange len).reverse
theorem upto_downs (len k : Nat) (h : 0 < len) (hk : k ≤ len) : upto (fun j => down len j h) k = (downs len).take k := by
  apply List.ext_getElem
  · simp [upto, downs, hk]
  · intro i h1 h2
    simp [upto, downs, down]

/-- A list value's block, and the closure's own, lie as they lay. -/
def KeepS (sv : Value) (c : Nat) (W W' : World) : Prop := (∀ a n k, sv = .slice (some a) (n + 1) k → W'.heap[a.block]? = W.heap[a.block]?) ∧ W'.heap[c]? = W.heap[c]?
theorem KeepS.refl (sv : Value) (c : Nat) (W : World) : KeepS sv c W W := ⟨fun _ _ _ _ => rfl, rfl⟩
theorem KeepS.trans {sv : Value} {c : Nat} {A B C : World} (h : KeepS sv c A B) (k : KeepS sv c B C) : KeepS sv c A C := ⟨fun a n m e => (k.1 a n m e).trans (h.1 a n m e), k.2.trans h.2⟩
theorem KeepS.below {sv : Value} {c n : Nat} {A B : World} (h : Below n A B) (hb : ∀ a m k, sv = .slice (some a) (m + 1) k → a.block < n) (hc : c < n) : KeepS sv c A B := ⟨fun a m k e => h.block _ (hb a m k e), h.block c hc⟩
theorem KeepS.setCell {sv : Value} {c : Nat} {A B : World} (h : KeepS sv c A B) {p : Addr} (hb : ∀ a m k, sv = .slice (some a) (m + 1) k → a.block ≠ p.block) (hc : c ≠ p.block) (u : Value) : KeepS sv c A (B.setCell p u) :=
  h.trans ⟨fun a m k e => Below.heap_setCell _ _ _ _ (hb a m k e), Below.heap_setCell _ _ _ _ hc⟩
theorem keepS_t {sv : Value} {c : Nat} {A B C : World} (h : KeepS sv c A B) (k : KeepS sv c B C) : KeepS sv c A C := h.trans k
theorem keepS_b {sv : Value} {c : Nat} {w : World} (hb : ∀ a m k, sv = .slice (some a) (m + 1) k → a.block < w.heap.size) (hc : c < w.heap.size) (W : World) (l : Nat) (o o' : Obj) (hl : w.heap.size ≤ l) (h : W.heap[l]? = some o) (h1 : o.isCells = false) (h2 : o.isWalk = false) : KeepS sv c W (W.putObj l o') :=
  KeepS.below (belowK_b (n₀ := w.heap.size) (Nat.le_refl _) W l o o' hl h h1 h2) hb hc
theorem Seg.block {q : IntKind} {n₀ : Nat} {W : World} {sv : Value} {zs : List Int} (h : Seg q n₀ W sv zs) : ∀ a m k, sv = .slice (some a) (m + 1) k → a.block < n₀ := by
  rcases h with ⟨⟨p, c, rfl⟩, _⟩ | ⟨b, off, cap, rfl, hb, _⟩
  · intro a m k e; cases e
  · intro a m k e; simp only [Value.slice.injEq, Option.some.injEq] at e; rw [← e.1]; exact hb

/-- slices.Backward(s) hands back an iterator over all indices from the last on, with their elements, or over some first of them. -/
theorem back_stops (F : Fence) (n : Nat) (hf : F.fn 58) (hro : F.round = none) (hn : 1 ≤ n) (Bs n₀ : Nat) (sv : Value) (zs : List Int) (hreach : zs.length * 4 ≤ 140737488351232) (w : World) (hBs : Bs < w.heap.size) (hn₀ : n₀ ≤ w.heap.size)
    (hc : w.cell? ⟨Bs, 0, none⟩ = some sv) (hI : U32s n₀ w sv zs) :
    SeqStopsK F n Tryd.prog 58 #[.pointer (some ⟨Bs, 0, none⟩)] (fun x : Fin zs.length => #[Value.int .i64 (x.1 : Int), Value.int .u32 (nth zs x.1)]) (KeepS sv Bs) (fun ys => ys = downs zs.length)
      (fun pre => pre <+: downs zs.length) zs.length w := fun l J Jx W hW _ _ hY h0 => by
  have hc' := (hW.cell (p := ⟨Bs, 0, none⟩) hBs).trans hc
  rcases Seg.below (hW.mono hn₀) hI with ⟨⟨p, c, rfl⟩, rfl⟩ | ⟨b, off, cap, rfl, hb, _, hcs⟩
  · exact (back1_nil_in F n hf hro l Bs p c J W hc' h0).mono fun e W' ⟨he, hj⟩ => ⟨he, .inl ⟨_, rfl, hj⟩⟩
  · by_cases hz : 0 < zs.length
    · refine (back1_in F n hf hro hn l Bs b off zs.length cap hz zs hreach J Jx (fun pre x W1 h1 h2 => (hY pre x W1 h1 h2).mono ?_) W hc' hcs h0).mono ?_
      · rintro e W' (⟨h1, h2, h3⟩ | h1)
        · exact .inl ⟨h1, h2, h3.1 ⟨b, off, none⟩ (zs.length - 1) cap (by rw [Nat.sub_add_cancel hz]), h3.2⟩
        · exact .inr h1
      · rintro e W' ⟨he, ⟨ys, rfl, hj⟩ | ⟨pre, ⟨k, hk, rfl⟩, hj⟩⟩
        · exact ⟨he, .inl ⟨_, by rw [upto_downs _ _ _ (Nat.le_refl _), List.take_of_length_le (by simp [downs])], hj⟩⟩
        · exact ⟨he, .inr ⟨_, by rw [upto_downs _ _ _ hk]; exact List.take_prefix _ _, hj⟩⟩
    · obtain rfl : zs = [] := List.eq_nil_of_length_eq_zero (by omega)
      exact (back1_nil_in F n hf hro l Bs _ cap J W hc' h0).mono fun e W' ⟨he, hj⟩ => ⟨he, .inl ⟨_, rfl, hj⟩⟩

end Go.Proofs.YtkalknmindgljaaDoor
