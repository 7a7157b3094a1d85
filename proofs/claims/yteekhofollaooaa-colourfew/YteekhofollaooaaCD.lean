/-
  The keys of a set, collected: maps.Keys's iterator, slices.AppendSeq.
-/
import Derived.RangeFuncBox
import Derived.RangeFuncNested
import Derived.RangeFuncBound
import Derived.RangeFuncCalls
import Derived.RangeFuncLeaves
import Derived.RangeFuncStops
import Derived.Shelf.Abstract
import Derived.Shelf.RegionOpen
import Derived.Lib.SlKeysI
import Derived.Sort.MapsRangeIn
import Derived.WalkKit
import Derived.OwnWalkIn
import Derived.TacticsInMore
import Derived.LoopNIn
import Derived.LoopIn
import Derived.RegionIn
import Derived.Test.YteekhofollaooaaCC
import Derived.Sort.OwnSortedInts
import Derived.Test.YteekhofollaooaaQK
import Derived.Deep.DeepCutAuto
import Derived.Deep.CutBlock
import Derived.Test.YteekhofollaooaaQH
namespace Go.Proofs.Yteekhofollaooaa
open Go Go.Proofs Go.RowKit Go.Maps Go.Shelf

attribute [local go_sem] Oper.semAt_some

/-- How a body may be left that never panics. -/
def bodyPostN (F : Fence) (n : Nat) (P : Program) (fn : Func) (R : Ending → World → Prop) : Exit → Act → World → Prop
  | .normal, a, w | .ret, a, w => LeavesInM F n P fn a.tmps R a.defers .returning w
  | _, _, _ => False
theorem callsIn_of_wp_N {F : Fence} {n : Nat} {P : Program} {f : FuncId} {fn : Func} {c : Code} {args : Array Value} {w : World} {R : Ending → World → Prop}
    (hf : P.funcs[f]? = some fn) (hb : fn.body = some c) (hF : F.fn f)
    (h : c.wpIn F n P (bodyPostN F n P fn R) { tmps := args ++ Array.replicate (fn.ntmps - args.size) undef, defers := [] } w) (hro : F.round = none := by rfl) : CallsIn F n P f args w R :=
  callsIn_of_wp_marks hf hb hF (wpIn_mono h fun e a w hq => by cases e <;> first | exact hq | exact hq.elim) hro

theorem perm_of_same {A B : List Int} (hA : A.Nodup) (hB : B.Nodup) (h : ∀ x, x ∈ A ↔ x ∈ B) : A.Perm B := (List.perm_ext_iff_of_nodup hA hB).2 h

set_option maxRecDepth 100000 in
set_option maxHeartbeats 2000000 in
theorem keys1_in (F : Fence) (n : Nat) (hf : F.fn 74) (hro : F.round = none) (hn : 1 ≤ n) (l Bm b : Nat) (S : List Int) (J Jx : List Int → World → Prop)
    (hY : ∀ pre x W, J pre W → pre.length < S.length → YieldAt F (n - 1) Try.prog l #[Value.int .i64 x] W fun e W' =>
      (e = .returned (.bool true) ∧ J (pre ++ [x]) W' ∧ KeepsWalks W W') ∨ (e = .returned (.bool false) ∧ Jx (pre ++ [x]) W'))
    (W : World) (hJ : AbidesFrom W.heap.size J) (hm : W.cell? ⟨Bm, 0, none⟩ = some (.map (some b))) (hM : SetM W b S) (h0 : J [] W) :
    CallsIn F n Try.prog 74 #[.func (.yield l) #[] #[], .pointer (some ⟨Bm, 0, none⟩)] W fun e W' => (∃ v, e = .returned v) ∧ ((∃ ss : List Int, ss.Perm S ∧ J ss W') ∨ (∃ pre : List Int, True ∧ Jx pre W')) := by
  obtain ⟨D0, hown, hSn, hSl, hSw, hSh⟩ := hM
  have HSL : Hid (Maps.size D0 = S.length) := hSl
  clear hSl hSw
  refine callsIn_of_wp Try.func74 rfl hf ?_ hro
  simp only [Try.ntmps74, List.size_toArray, List.length_cons, List.length_nil, Nat.reduceAdd, Nat.reduceSub, Array.replicate_succ, Array.replicate_zero, List.push_toArray, List.append_toArray, List.nil_append, List.cons_append]
  gi_wp2_with (first
    | (gi_at_range; refine wpListIn_range_own _ rfl _ 75 rfl 3 76 keyedI Try.underlying75 _ b _ _ rfl hown ?_; intro w0 hrg0 hg0 hs0)
    | gi_in)
  go_frame
  gi_loopw [3] (fun _ wr => ∃ (left : Lit → Bool) (cnt : Nat) (ss : List Int), wr.ranges Try.prog 3 unitElem b W.heap.size (Maps.size D0) D0 left cnt ∧ ss.length + cnt ≤ Maps.size D0 ∧ CollectedI D0 left ss ∧ J ss wr)
    (fun _ wr => wr.rangeLeft b W.heap.size)
  case atStart =>
    exact ⟨_, _, [], hrg0, by simp, CollectedI.start D0, hJ [] W w0 none h0 hg0 (fun r e => by cases e)⟩
  case round =>
    obtain ⟨left, cnt, ss, hrg, hcs, hC, hJs⟩ := hrel
    gi_wp2_with (first
      | (gi_at_next; refine wpListIn_next_ranges _ rfl _ rfl 3 keyedI unitElem (Value.int .i64) id (fun key kl hk => by obtain ⟨x, hx, _⟩ := Maps.keyOf_i64 Try.underlying3 hk; exact ⟨x, hx⟩) (fun v _ _ => ⟨v, rfl⟩) b W.heap.size _ _ _ _ rfl hrg ?_ ?_)
      | gi_in)
    · intro hc0 hl0
      gi_wp2
      go_end0
      refine ⟨⟨_, rfl⟩, .inl ⟨ss, perm_of_same hC.1 hSn (fun x => ?_), hJs⟩⟩
      rw [← hSh x, hC.2 x, hl0]
      simp
    · intro x c kl yd yp w2 cnt2 hkey hlk hv hat hrg2 hlt hg2 hs2 hen
      obtain ⟨x', ex, rfl, _⟩ := Maps.keyOf_i64 Try.underlying3 hkey
      obtain rfl : x = x' := by simpa using ex
      have hJ2 : J ss w2 := hJ ss wr w2 (some W.heap.size) hJs hg2 (fun r e => by cases e; exact ⟨Nat.le_refl _, hrg.iter_walk⟩)
      obtain ⟨fn, tmps, assign, body, hy, hR⟩ := hY ss x w2 hJ2 (by have := HSL.out; omega)
      clear hs2
      gi_wp2
      refine hR.mono ?_
      have hC2 := hC.step hlk hat
      rintro e W3 (⟨rfl, hJ3, hk3⟩ | ⟨rfl, hJx3⟩)
      · gi_wp2
        have hrg3 := hrg2.of_walks hk3
        go_roundw
        case rel => exact ⟨_, cnt2, ss ++ [x], hrg3, by simp; omega, hC2, hJ3⟩
        case measure => rw [hrg3.left_eq, hrg.left_eq]; exact hlt
      · gi_wp2
        refine bodyPost_ret (results_none rfl _ _ _) rfl ?_
        exact ⟨⟨_, rfl⟩, .inr ⟨_, trivial, hJx3⟩⟩

theorem keys_stops (F : Fence) (n : Nat) (hf : F.fn 74) (hro : F.round = none) (hn : 1 ≤ n) (Bm b : Nat) (S : List Int) (w : World) (hBm : Bm < w.heap.size) (hc : w.cell? ⟨Bm, 0, none⟩ = some (.map (some b))) (hM : SetM w b S) :
    SeqStopsK F n Try.prog 74 #[.pointer (some ⟨Bm, 0, none⟩)] (fun x : Int => #[Value.int .i64 x]) KeepsWalks (fun ss => ss.Perm S) (fun _ => True) S.length w := fun l J Jx W hW hJ _ hY h0 =>
  keys1_in F n hf hro hn l Bm b S J Jx hY W hJ ((hW.cell (p := ⟨Bm, 0, none⟩) hBm).trans hc) (hM.still (hW.block b hM.lt)) h0

set_option maxRecDepth 100000 in
set_option maxHeartbeats 2000000 in
theorem appSeq_any (n₀ Bm b : Nat) (S : List Int) (hS : S.length ≤ 1000000000) (v0 : Value) (w : World) (h0 : w.ownsRow n₀ 3 1 v0 0 []) (hn : n₀ ≤ w.heap.size) (hBm : Bm < w.heap.size) (hc : w.cell? ⟨Bm, 0, none⟩ = some (.map (some b))) (hM : SetM w b S) :
    Calls Try.prog 60 #[v0, .func (.func 74) #[] #[.pointer (some ⟨Bm, 0, none⟩)]] w fun e w' => ∃ (v : Value) (ss : List Int), e = .returned v ∧ ss.Perm S ∧ w'.ownsRow n₀ 3 1 v ss.length (ss.map (Value.int .i64)) ∧ Below n₀ w w' := by
  obtain ⟨p0, c0, rfl⟩ : ∃ p c, v0 = .slice p 0 c := by
    rcases h0.2 with ⟨h, _⟩ | ⟨g, cap, _, h, _⟩
    · exact ⟨_, _, h⟩
    · exact ⟨_, _, h⟩
  obtain ⟨i0, hi, hz0, hz1, hz2⟩ := info_parts infoI
  have hbA : Below w.heap.size w (w.alloc (.cells #[.slice p0 0 c0] 25)) := (Below.refl _ _).alloc (Nat.le_refl _) _
  have hne : 25 ≠ 3 := by decide
  refine (callsIn_wide (n := 4)).1 ?_
  refine callsIn_of_wp_N Try.func60 rfl trivial ?_ rfl
  simp only [Try.ntmps60, List.size_toArray, List.length_cons, List.length_nil, Nat.reduceAdd, Nat.reduceSub, Array.replicate_succ, Array.replicate_zero, List.push_toArray, List.append_toArray, List.nil_append, List.cons_append]
  gi_wp2
  refine wpIn_rangeFunc_ownG rfl (by omega) (gf := 74) (lb := #[.pointer (some ⟨Bm, 0, none⟩)]) rfl trivial (enters_of Try.func74 (by kernel_rfl) rfl)
    (keys_stops Fence.wide _ trivial rfl (by omega) Bm b S w hBm hc hM) walksK_t (fun W l o o' _ h _ hw => KeepsWalks.putObj _ h hw) hbA (fun _ => rfl)
    (fun ss W => (∃ v, Boxed W w.heap.size 25 v ∧ W.ownsRow n₀ 3 1 v ss.length (ss.map (Value.int .i64)) ∧ True) ∧ Below n₀ w W)
    (fun _ _ _ => False)
    (OwnFrom.and (Own.from (holdsRow_own n₀ w.heap.size 25 3 1 (fun ss : List Int => ss.length) (fun ss => ss.map (Value.int .i64)) (fun _ _ => True)) _) (ownFrom_below hn (by simp; omega)))
    (fun c s A B row h _ _ => h.elim)
    ⟨⟨_, Boxed.new w 25 (.slice p0 0 c0), World.ownsRow.alloc h0 _, trivial⟩, hbA.mono hn⟩
    (fun x => { tmps := #[.slice p0 0 c0, .func (.func 74) #[] #[.pointer (some ⟨Bm, 0, none⟩)], .pointer (some ⟨w.heap.size, 0, none⟩), undef, .slice none 0 0, .int .i64 x, .func (.func 74) #[] #[.pointer (some ⟨Bm, 0, none⟩)], .int .i64 x, undef, undef, undef, undef, undef], defers := [] }) ?assign ?body ?done ?stop
  case assign =>
    intro l z W K hK
    gi_wp2
    exact hK
  case body =>
    rintro l pre x W ⟨⟨v, hv, hrow, _⟩, hB2⟩ hpl
    have hnW : n₀ ≤ W.heap.size := Nat.le_trans hn hB2.size
    have hcv := hv.cell
    obtain ⟨pv, mv, cv, rfl⟩ := owns_slice hrow
    have hone : ∀ j u, [Value.int .i64 x][j]? = some u → (W.alloc (.cells #[.int .i64 x] 3)).cell? ((⟨W.heap.size, 0, none⟩ : Addr).add j) = some u := fun j u h => one_cellF W (.int .i64 x) 3 j u h
    gi_wp2_with (first
      | (gi_at_builtin; refine wpListIn_append_own _ rfl _ _ 25 rfl n₀ 3 i0 (.int .i64 0) 1 8 Try.underlying25 hi hz0 hz1 hz2 rfl (by decide) _ _ _ rfl (hrow.alloc _) ⟨W.heap.size, 0, none⟩ 1 1 [.int .i64 x] rfl rfl hone (by simp [Value.oneCell']) (by unfold maxLen; omega) (by omega) (by simp; omega) ?_; intro v' w3 hown' hg3 hnil3
         obtain ⟨hv3, hbx, hrx, hkx, hbb⟩ := Boxed.appended hv hne hrow hnW hn hown' hg3
         obtain ⟨g', cap', rfl⟩ := ownsRow_succ hown'
         have hc3 := hv3.cell
         have hf3 := hv3.frozen
         go_frame)
      | gi_in)
    exact ⟨hkx.from _, hkx.walks, ⟨⟨_, hbx, by rw [List.length_append, List.map_append]; exact hrx, trivial⟩, hB2.trans hbb⟩⟩
  case done =>
    rintro D ss W hD hss ⟨⟨v, hv, hrow, _⟩, hB2⟩ hK
    have hcv := hv.cell
    obtain ⟨pv, mv, cv, rfl⟩ := owns_slice hrow
    gi_wp2
    refine ⟨by simp, .inl ⟨_, _, rfl, run_takeDeferred hK, ?_⟩⟩
    have hDn : n₀ ≤ D := by simp at hD; omega
    refine ⟨.slice pv mv cv, by simp [results, Try.results60, go_sem], .slice pv mv cv, ss, rfl, hss, ownsRow_putObj hrow (.deferred none) hK rfl, hB2.grown (grownBy_putObj' W D (.deferred none)) (Nat.le_trans hn hB2.size) (fun k e => by cases e; exact hDn)⟩
  case stop =>
    rintro D c pre W hD hpre h hK
    exact h.elim
end Go.Proofs.Yteekhofollaooaa

namespace Go.Proofs.Yteekhofollaooaa
open Go Go.Proofs Go.RowKit Go.Maps Go.Sort

set_option maxRecDepth 100000 in
theorem keys_any (b : Nat) (w : World) :
    Calls Try.prog 61 #[.map (some b)] w fun e w' => e = .returned (.func (.func 74) #[] #[.pointer (some ⟨w.heap.size, 0, none⟩)]) ∧ w' = w.alloc (.cells #[.map (some b)] 75) := by
  go_enter Try.func61, Try.ntmps61
  go_wp2
  go_ret
  exact ⟨rfl, rfl⟩

set_option maxRecDepth 100000 in
set_option maxHeartbeats 8000000 in
theorem nbrs_any (h0 sb k : Nat) (N : List (Option (List Int))) (F : List (List Int)) (st : List StpM) (S : List Int) (hS : N[k]? = some (some S)) (hSl : S.length ≤ 1048576) (w : World) (hX : SX h0 sb N F st w) :
    Calls Try.prog 49 #[.pointer (some ⟨sb, 0, none⟩), .int .i64 (k : Int)] w fun e w' => ∃ (sv : Value) (L : List Int), e = .returned sv ∧ L.Perm S ∧ w'.ownsRow w.heap.size 3 1 sv L.length (L.map (Value.int .i64)) ∧ Below w.heap.size w w' := by
  obtain ⟨g, bs, fs, tv, tag, rfl, hM⟩ := hX
  obtain ⟨bk, _, hMk, hc, hkN⟩ := hM.nm.cell hS
  have hkI : (k : Int) < (N.length : Int) := by omega
  have c0 := hM.row
  have HMk : Hid (SetM w bk S) := hMk
  obtain ⟨i0, hi, hz0, hz1, hz2⟩ := info_parts infoI
  clear hM hMk hS
  have hbd : Below w.heap.size w w.drew := below_drewN (Below.refl _ _) 1
  have HST : Hid (∀ W : World, Below w.heap.size w W → W.cell? ⟨sb, 0, none⟩ = some (.slice (some ⟨g, 0, none⟩) N.length N.length) ∧ W.cell? ⟨g, k, none⟩ = some (.map (some bk)) ∧ SetM W bk S) := fun W hW => ⟨cell_keepK hW c0, cell_keepK hW hc, HMk.out.still (hW.block bk HMk.out.lt)⟩
  have HMK : Hid (∀ W : World, w.heap.size ≤ W.heap.size → ∃ W', (Instr.makeSlice 25 (.int .i64 0) (.int .i64 (S.length : Int))).run Try.prog W = .ok (.slice (some ⟨W.heap.size, 0, none⟩) 0 S.length) W' ∧ W'.ownsRow w.heap.size 3 1 (.slice (some ⟨W.heap.size, 0, none⟩) 0 S.length) 0 [] ∧ W.grownBy W' none) := fun W hW =>
    run_make_own (P := Try.prog) W w.heap.size 25 3 i0 (.int .i64 0) 1 Try.underlying25 hi hz0 hz1 .i64 .i64 S.length (by rw [hz2]; omega) (by unfold maxLen; omega) hW
  go_enter Try.func49, Try.ntmps49
  go_wp2_with fail
  refine wp_region_held_drew (S := (fun w' : World => w'.cell? ⟨sb, 0, none⟩ = some (.slice (some ⟨g, 0, none⟩) N.length N.length) ∧ w'.cell? ⟨g, k, none⟩ = some (.map (some bk)) ∧ SetM w' bk S)) (by kernel_rfl) ⟨c0, hc, HMk.out.still rfl⟩ (fun hHeld => ?_)
  refine wpAnyH_take (i := 0) (v := ?_) rfl (by kernel_rfl) (by kernel_rfl) (by kernel_rfl) (fun _ _ _ h => h) (Or.inl ⟨by rfl, ?_⟩) (by assumption) ?_
  rotate_left
  · intro w hSw; (try dsimp only at hSw); go_simp; (try with_reducible rfl)
  try simp only [Act.put, List.setIfInBounds_toArray]
  refine wpAnyH_take (i := 1) (v := ?_) rfl (by kernel_rfl) (by kernel_rfl) (by kernel_rfl) (fun _ _ _ h => h) (Or.inl ⟨by rfl, ?_⟩) (by assumption) ?_
  rotate_left
  · intro w hSw; (try dsimp only at hSw); go_simp; (try with_reducible rfl)
  try simp only [Act.put]
  refine wpAnyH_take (i := 2) (v := ?_) rfl (by kernel_rfl) (by kernel_rfl) (by kernel_rfl) (fun _ _ _ h => h) (Or.inl ⟨by rfl, ?_⟩) (by assumption) ?_
  rotate_left
  · intro w hSw; (try dsimp only at hSw); go_simp; (try with_reducible rfl)
  try simp only [Act.put]
  refine wpAnyH_take (i := 3) (v := ?_) rfl (by kernel_rfl) (by kernel_rfl) (by kernel_rfl) (fun _ _ _ h => h) (Or.inl ⟨by rfl, ?_⟩) (by assumption) ?_
  rotate_left
  · intro w hSw; (try dsimp only at hSw); go_simp; (try with_reducible rfl)
  try simp only [Act.put]
  refine wpAnyH_take (i := 4) (v := ?_) rfl (by kernel_rfl) (by kernel_rfl) (by kernel_rfl) (fun _ _ _ h => h) (Or.inl ⟨by rfl, ?_⟩) (by assumption) ?_
  rotate_left
  · intro w hSw; (try dsimp only at hSw); go_simp; (try with_reducible rfl)
  try simp only [Act.put]
  refine wpAnyH_take (i := 5) (v := ?_) rfl (by kernel_rfl) (by kernel_rfl) (by kernel_rfl) (fun _ _ _ h => h) (Or.inl ⟨by rfl, ?_⟩) (by assumption) ?_
  rotate_left
  · intro w hSw; (try dsimp only at hSw); go_simp; (try with_reducible rfl)
  try simp only [Act.put]
  refine wpAnyH_take (i := 6) (v := ?_) rfl (by kernel_rfl) (by kernel_rfl) (by kernel_rfl) (fun _ _ _ h => h) (Or.inl ⟨by rfl, ?_⟩) (by assumption) ?_
  rotate_left
  · intro w hSw; (try dsimp only at hSw); go_simp; (try with_reducible rfl)
  try simp only [Act.put]
  try simp only [List.getElem_toArray, List.getElem_cons_zero, List.getElem_cons_succ, List.setIfInBounds_toArray, List.set_cons_zero, List.set_cons_succ]
  refine wpAnyH_take (i := 7) (v := .int .i64 (S.length : Int)) rfl (by kernel_rfl) (by kernel_rfl) (by kernel_rfl) (fun _ _ _ h => h) (Or.inl ⟨by rfl, ?_⟩) (by assumption) ?_
  · intro w hSw
    have hrl := hSw.2.2.len 3
    go_simp
  try simp only [Act.put]
  try simp only [List.getElem_toArray, List.getElem_cons_zero, List.getElem_cons_succ, List.setIfInBounds_toArray, List.set_cons_zero, List.set_cons_succ]
  refine wpAnyH_take (i := 9) (v := ?_) rfl (by kernel_rfl) (by kernel_rfl) (by kernel_rfl) (fun _ _ _ h => h) (Or.inl ⟨by rfl, ?_⟩) (by assumption) ?_
  rotate_left
  · intro w hSw; (try dsimp only at hSw); go_simp; (try with_reducible rfl)
  try simp only [Act.put]
  refine wpAnyH_take (i := 10) (v := ?_) rfl (by kernel_rfl) (by kernel_rfl) (by kernel_rfl) (fun _ _ _ h => h) (Or.inl ⟨by rfl, ?_⟩) (by assumption) ?_
  rotate_left
  · intro w hSw; (try dsimp only at hSw); go_simp; (try with_reducible rfl)
  try simp only [Act.put]
  refine wpAnyH_take (i := 11) (v := ?_) rfl (by kernel_rfl) (by kernel_rfl) (by kernel_rfl) (fun _ _ _ h => h) (Or.inl ⟨by rfl, ?_⟩) (by assumption) ?_
  rotate_left
  · intro w hSw; (try dsimp only at hSw); go_simp; (try with_reducible rfl)
  try simp only [Act.put]
  refine wpAnyH_take (i := 12) (v := ?_) rfl (by kernel_rfl) (by kernel_rfl) (by kernel_rfl) (fun _ _ _ h => h) (Or.inl ⟨by rfl, ?_⟩) (by assumption) ?_
  rotate_left
  · intro w hSw; (try dsimp only at hSw); go_simp; (try with_reducible rfl)
  try simp only [Act.put]
  refine wpAnyH_take (i := 13) (v := ?_) rfl (by kernel_rfl) (by kernel_rfl) (by kernel_rfl) (fun _ _ _ h => h) (Or.inl ⟨by rfl, ?_⟩) (by assumption) ?_
  rotate_left
  · intro w hSw; (try dsimp only at hSw); go_simp; (try with_reducible rfl)
  try simp only [Act.put]
  refine wpAnyH_take (i := 14) (v := ?_) rfl (by kernel_rfl) (by kernel_rfl) (by kernel_rfl) (fun _ _ _ h => h) (Or.inl ⟨by rfl, ?_⟩) (by assumption) ?_
  rotate_left
  · intro w hSw; (try dsimp only at hSw); go_simp; (try with_reducible rfl)
  try simp only [Act.put]
  refine wpAnyH_take (i := 15) (v := ?_) rfl (by kernel_rfl) (by kernel_rfl) (by kernel_rfl) (fun _ _ _ h => h) (Or.inl ⟨by rfl, ?_⟩) (by assumption) ?_
  rotate_left
  · intro w hSw; (try dsimp only at hSw); go_simp; (try with_reducible rfl)
  try simp only [Act.put]
  try simp only [List.getElem_toArray, List.getElem_cons_zero, List.getElem_cons_succ, List.setIfInBounds_toArray, List.set_cons_zero, List.set_cons_succ]
  clear c0 hc
  refine wpAnyH_ready (rs := [8, 16]) (by kernel_rfl) (by simp) ?_
  refine AllReadyH.cons rfl (fun K hK => ?_) (AllReadyH.cons rfl (fun K hK => ?_) AllReadyH.nil)
  · obtain ⟨w1, hr1, ho1, hg1⟩ := HMK.out w.drew hbd.size
    have hb1 : Below w.heap.size w w1 := hbd.grown hg1 hbd.size (fun k e => by cases e)
    go_simp
    refine hK.out _ _ (HST.out _ hb1) (fun hHeld1 => ?_)
    clear hK K hr1 hg1
    try simp only [Act.put, List.setIfInBounds_toArray, List.set_cons_zero, List.set_cons_succ]
    have HB1 : Hid (Below w.heap.size w w1) := hb1
    have HO1 : Hid (w1.ownsRow w.heap.size 3 1 (.slice (some ⟨w.heap.size, 0, none⟩) 0 S.length) 0 []) := ho1
    have HBX : Hid (Boxed (w1.alloc (.cells #[.map (some bk)] 75)) w1.heap.size 75 (.map (some bk))) := Boxed.new w1 _ _
    clear hb1 ho1 hHeld hHeld1
    refine wpAnyH_ready (rs := [16]) (by kernel_rfl) (by simp) ?_
    refine AllReadyH.cons rfl (fun K hK => ?_) AllReadyH.nil
    go_simp
    refine (keys_any bk w1).mono ?_
    rintro e w2 ⟨rfl, rfl⟩
    refine hK.out _ _ (HST.out _ (HB1.out.alloc HB1.out.size _)) (fun hHeld2 => ?_)
    clear hK K
    try simp only [Act.put, List.setIfInBounds_toArray, List.set_cons_zero, List.set_cons_succ]
    have HS2 : Hid _ := hHeld2.2.2
    clear hHeld2
    refine wpAnyH_ready (rs := [17]) (by kernel_rfl) (by simp) ?_
    refine AllReadyH.cons rfl (fun K hK => ?_) AllReadyH.nil
    go_simp
    refine (appSeq_any w.heap.size w1.heap.size bk S (by omega) _ _ (World.ownsRow.alloc HO1.out _) (Below.size (HB1.out.alloc HB1.out.size (.cells #[.map (some bk)] 75))) (Boxed.lt HBX.out) (Boxed.cell HBX.out) HS2.out).mono ?_
    rintro e w3 ⟨v3, L3, rfl, hp3, ho3, hb3⟩
    have HB3 : Hid (Below w.heap.size w w3) := Below.trans (HB1.out.alloc HB1.out.size (.cells #[.map (some bk)] 75)) hb3
    have HO3 : Hid (w3.ownsRow w.heap.size 3 1 v3 L3.length (L3.map (Value.int .i64))) := ho3
    have HP3 : Hid (L3.Perm S) := hp3
    clear hb3 ho3 hp3
    refine hK.out _ _ (HST.out _ HB3.out) (fun hHeld3 => ?_)
    clear hK K
    try simp only [Act.put, List.setIfInBounds_toArray, List.set_cons_zero, List.set_cons_succ]
    refine wpAnyH_take (i := 18) (v := ?_) rfl (by kernel_rfl) (by kernel_rfl) (by kernel_rfl) (fun _ _ _ h => h) (Or.inl ⟨by rfl, ?_⟩) (by assumption) ?_
    rotate_left
    · intro w hSw; (try dsimp only at hSw); go_simp; (try with_reducible rfl)
    try simp only [Act.put]
    refine wpAnyH_done (by kernel_rfl) ?_ _
    clear hHeld3 HS2 HBX HST HMK hbd
    rcases HO3.out.2 with ⟨rfl, hz⟩ | ⟨g3, cap3, cur3, rfl, hbase, hblk, h1, h2, h3, h4⟩
    · have HE : Hid (L3.length = 0) := hz
      clear hz
      go_wp2_with fail
      refine (Try.slices_Sort_int_none none 0 w3).mono ?_
      rintro e w4 ⟨rfl, rfl⟩
      go_wp2
      go_ret
      exact ⟨_, L3, rfl, HP3.out, HO3.out, HB3.out⟩
    · have hgl := (Array.getElem?_eq_some_iff.1 hblk).1
      have hLb : L3.length ≤ 1048576 := by have := HP3.out.length_eq; omega
      have hso := Try.slices_Sort_int g3 0 cap3 L3 w3 (holds_of_blockI hblk (by simpa using h4)) hgl (by omega)
      have HRW : Hid (w.heap.size ≤ g3 ∧ w3.heap[g3]? = some (.cells cur3 3 (0, 0)) ∧ L3.length ≤ cap3 ∧ cap3 ≤ maxLen ∧ cur3.size = cap3 * 1) := ⟨hbase, hblk, h1, h2, h3⟩
      clear hbase hblk h1 h2 h3 h4 HO3
      go_wp2_with fail
      refine hso.mono ?_
      clear hso
      rintro e w4 ⟨rfl, nn, os, hw4⟩
      have HO4 : Hid (w4.ownsRow w.heap.size 3 1 (.slice (some ⟨g3, 0, none⟩) L3.length cap3) L3.length ((sortL L3).map (Value.int .i64))) := by
        rw [hw4]
        exact ownsRow_sortedI (ss := L3) (ts := sortL L3) (sortL_len L3) HRW.out.1 HRW.out.2.1 HRW.out.2.2.1 HRW.out.2.2.2.1 HRW.out.2.2.2.2
      have hg4 : w3.grownBy w4 (some g3) := by
        rw [hw4]
        exact grownBy_sortedI _
      have HB4 : Hid (Below w.heap.size w w4) := HB3.out.grown hg4 HB3.out.size (fun q e => by cases e; exact HRW.out.1)
      clear hw4 hg4
      go_wp2
      go_ret
      exact ⟨_, sortL L3, rfl, (sortL_perm L3).trans HP3.out, by rw [sortL_len]; exact HO4.out, HB4.out⟩
  · go_simp
    refine (keys_any bk w.drew).mono ?_
    rintro e w1 ⟨rfl, rfl⟩
    have HB1 : Hid (Below w.heap.size w (w.drew.alloc (.cells #[.map (some bk)] 75))) := hbd.alloc (Nat.le_refl _) _
    have HBX1 : Hid (Boxed (w.drew.alloc (.cells #[.map (some bk)] 75)) w.heap.size 75 (.map (some bk))) := Boxed.new w.drew _ _
    refine hK.out _ _ (HST.out _ HB1.out) (fun hHeld1 => ?_)
    clear hK K hHeld1 hHeld
    try simp only [Act.put, List.setIfInBounds_toArray, List.set_cons_zero, List.set_cons_succ]
    obtain ⟨w2, hr2, ho2, hg2⟩ := HMK.out (w.drew.alloc (.cells #[.map (some bk)] 75)) HB1.out.size
    have HB2 : Hid (Below w.heap.size w w2) := HB1.out.grown hg2 HB1.out.size (fun k e => by cases e)
    have HBX : Hid (Boxed w2 w.heap.size 75 (.map (some bk))) := Boxed.kept HBX1.out hg2 (by simp)
    have HO2 : Hid (w2.ownsRow w.heap.size 3 1 (.slice (some ⟨(w.drew.alloc (.cells #[.map (some bk)] 75)).heap.size, 0, none⟩) 0 S.length) 0 []) := ho2
    clear HBX1 ho2 hg2
    generalize (w.drew.alloc (.cells #[.map (some bk)] 75)) = w1 at *
    refine wpAnyH_ready (rs := [8]) (by kernel_rfl) (by simp) ?_
    refine AllReadyH.cons rfl (fun K hK => ?_) AllReadyH.nil
    go_simp
    refine hK.out _ _ (HST.out _ HB2.out) (fun hHeld2 => ?_)
    clear hK K hr2
    try simp only [Act.put, List.setIfInBounds_toArray, List.set_cons_zero, List.set_cons_succ]
    have HS2 : Hid _ := hHeld2.2.2
    clear hHeld2
    refine wpAnyH_ready (rs := [17]) (by kernel_rfl) (by simp) ?_
    refine AllReadyH.cons rfl (fun K hK => ?_) AllReadyH.nil
    go_simp
    refine (appSeq_any w.heap.size w.heap.size bk S (by omega) _ _ HO2.out (Below.size HB2.out) (Boxed.lt HBX.out) (Boxed.cell HBX.out) HS2.out).mono ?_
    rintro e w3 ⟨v3, L3, rfl, hp3, ho3, hb3⟩
    have HB3 : Hid (Below w.heap.size w w3) := Below.trans HB2.out hb3
    have HO3 : Hid (w3.ownsRow w.heap.size 3 1 v3 L3.length (L3.map (Value.int .i64))) := ho3
    have HP3 : Hid (L3.Perm S) := hp3
    clear hb3 ho3 hp3
    refine hK.out _ _ (HST.out _ HB3.out) (fun hHeld3 => ?_)
    clear hK K
    try simp only [Act.put, List.setIfInBounds_toArray, List.set_cons_zero, List.set_cons_succ]
    refine wpAnyH_take (i := 18) (v := ?_) rfl (by kernel_rfl) (by kernel_rfl) (by kernel_rfl) (fun _ _ _ h => h) (Or.inl ⟨by rfl, ?_⟩) (by assumption) ?_
    rotate_left
    · intro w hSw; (try dsimp only at hSw); go_simp; (try with_reducible rfl)
    try simp only [Act.put]
    refine wpAnyH_done (by kernel_rfl) ?_ _
    clear hHeld3 HS2 HBX HST HMK hbd
    rcases HO3.out.2 with ⟨rfl, hz⟩ | ⟨g3, cap3, cur3, rfl, hbase, hblk, h1, h2, h3, h4⟩
    · have HE : Hid (L3.length = 0) := hz
      clear hz
      go_wp2_with fail
      refine (Try.slices_Sort_int_none none 0 w3).mono ?_
      rintro e w4 ⟨rfl, rfl⟩
      go_wp2
      go_ret
      exact ⟨_, L3, rfl, HP3.out, HO3.out, HB3.out⟩
    · have hgl := (Array.getElem?_eq_some_iff.1 hblk).1
      have hLb : L3.length ≤ 1048576 := by have := HP3.out.length_eq; omega
      have hso := Try.slices_Sort_int g3 0 cap3 L3 w3 (holds_of_blockI hblk (by simpa using h4)) hgl (by omega)
      have HRW : Hid (w.heap.size ≤ g3 ∧ w3.heap[g3]? = some (.cells cur3 3 (0, 0)) ∧ L3.length ≤ cap3 ∧ cap3 ≤ maxLen ∧ cur3.size = cap3 * 1) := ⟨hbase, hblk, h1, h2, h3⟩
      clear hbase hblk h1 h2 h3 h4 HO3
      go_wp2_with fail
      refine hso.mono ?_
      clear hso
      rintro e w4 ⟨rfl, nn, os, hw4⟩
      have HO4 : Hid (w4.ownsRow w.heap.size 3 1 (.slice (some ⟨g3, 0, none⟩) L3.length cap3) L3.length ((sortL L3).map (Value.int .i64))) := by
        rw [hw4]
        exact ownsRow_sortedI (ss := L3) (ts := sortL L3) (sortL_len L3) HRW.out.1 HRW.out.2.1 HRW.out.2.2.1 HRW.out.2.2.2.1 HRW.out.2.2.2.2
      have hg4 : w3.grownBy w4 (some g3) := by
        rw [hw4]
        exact grownBy_sortedI _
      have HB4 : Hid (Below w.heap.size w w4) := HB3.out.grown hg4 HB3.out.size (fun q e => by cases e; exact HRW.out.1)
      clear hw4 hg4
      go_wp2
      go_ret
      exact ⟨_, sortL L3, rfl, (sortL_perm L3).trans HP3.out, by rw [sortL_len]; exact HO4.out, HB4.out⟩
end Go.Proofs.Yteekhofollaooaa

namespace Go.Proofs.Yteekhofollaooaa
open Go Go.Proofs Go.RowKit Go.Maps

theorem wf_nat {k : Nat} (h : k ≤ 1099511627776) : (Lit.int .i64 (k : Int)).wf = true := by
  have h1 : IntKind.i64.min = -9223372036854775808 := by decide
  have h2 : IntKind.i64.max = 9223372036854775807 := by decide
  simp only [Lit.wf, h1, h2, Bool.and_eq_true, decide_eq_true_eq]
  omega
theorem infoStp : (Try.prog.info? 78).map (fun i => (i.zero, i.size, i.bytes)) = some (some (.agg #[.int .i64 0, .slice none 0 0, .int .i64 0]), 3, 40) := by kernel_rfl

theorem owns_mono {W : World} {base base' : Nat} {e : TypeId} {size : Nat} {v : Value} {n : Nat} {xs : List Value} (h : W.ownsRow base e size v n xs) (hb : base' ≤ base) : W.ownsRow base' e size v n xs := by
  obtain ⟨h1, h2⟩ := h
  refine ⟨h1, ?_⟩
  rcases h2 with h2 | ⟨g, cap, cur, hv, hg, r⟩
  · exact .inl h2
  · exact .inr ⟨g, cap, cur, hv, Nat.le_trans hb hg, r⟩
theorem cells_three {W : World} {e : TypeId} {b : Nat} {x y z : Value} (h : Blk e W b [x, y, z]) : ∀ j u, [x, y, z][j]? = some u → W.cell? ((⟨b, 0, none⟩ : Addr).add j) = some u := by
  intro j u hu
  match j, hu with
  | 0, hu => exact h.cell (j := 0) hu
  | 1, hu => exact h.cell (j := 1) hu
  | 2, hu => exact h.cell (j := 2) hu
  | j + 3, hu => simp at hu
/-- A neighbour loses v, and is filed. -/
def drop1 (v : Int) (q : List (Option (List Int)) × List (List Int)) (u : Int) : List (Option (List Int)) × List (List Int) := (q.1.set u.toNat (some ((nbN q.1 u).erase v)), fileF q.2 ((nbN q.1 u).erase v).length u)
def dropQ (v : Int) (L : List Int) (N : List (Option (List Int))) (F : List (List Int)) : List (Option (List Int)) × List (List Int) := L.foldl (drop1 v) (N.set v.toNat none, F)
theorem drop1_len (v : Int) (q : List (Option (List Int)) × List (List Int)) (u : Int) : (drop1 v q u).1.length = q.1.length := by unfold drop1; simp
theorem dropF_len (v : Int) : ∀ (L : List Int) (q : List (Option (List Int)) × List (List Int)), (L.foldl (drop1 v) q).1.length = q.1.length
  | [], _ => rfl
  | u :: L, q => by rw [List.foldl_cons, dropF_len v L, drop1_len]
theorem drop1_some (v : Int) {q : List (Option (List Int)) × List (List Int)} {j : Nat} {T : List Int} (u : Int) (h : q.1[j]? = some (some T)) : ∃ T', (drop1 v q u).1[j]? = some (some T') := by
  unfold drop1
  by_cases e : u.toNat = j
  · have hj := (List.getElem?_eq_some_iff.1 h).1
    subst e
    exact ⟨_, List.getElem?_set_self hj⟩
  · exact ⟨T, by rw [List.getElem?_set_ne e]; exact h⟩
theorem dropF_some (v : Int) {j : Nat} : ∀ (L : List Int) (q : List (Option (List Int)) × List (List Int)) {T : List Int}, q.1[j]? = some (some T) → ∃ T', (L.foldl (drop1 v) q).1[j]? = some (some T')
  | [], _, T, h => ⟨T, h⟩
  | u :: L, q, T, h => by
    obtain ⟨T', h'⟩ := drop1_some v u h
    exact dropF_some v L _ h'
theorem dropF_take (v : Int) (L : List Int) (q : List (Option (List Int)) × List (List Int)) {i : Nat} (h : i < L.length) : (L.take (i + 1)).foldl (drop1 v) q = drop1 v ((L.take i).foldl (drop1 v) q) L[i] := by
  rw [List.take_add_one, List.getElem?_eq_getElem h, List.foldl_append]
  rfl
theorem dropF_fv (v : Int) {n : Nat} : ∀ (L : List Int) (q : List (Option (List Int)) × List (List Int)) {m : Nat}, (∀ u ∈ L, ∃ k : Nat, u = (k : Int) ∧ k < n) → FV n m q.2 → FV n (m + L.length) (L.foldl (drop1 v) q).2
  | [], _, _, _, h => h
  | u :: L, q, m, hu, h => by
    obtain ⟨k, rfl, hk⟩ := hu u List.mem_cons_self
    rw [List.foldl_cons, List.length_cons, Nat.add_comm L.length 1, ← Nat.add_assoc]
    exact dropF_fv v L _ (fun x hx => hu x (List.mem_cons_of_mem _ hx)) (h.file hk)

set_option maxRecDepth 100000 in
set_option maxHeartbeats 8000000 in
theorem drop_few (h0 sb k m : Nat) (hm : m + 10 ≤ 1000000000) (N : List (Option (List Int))) (hNl : N.length ≤ 1048576) (F : List (List Int)) (st : List StpM) (S : List Int) (hS : N[k]? = some (some S)) (h4 : S.length ≤ 4)
    (hnb : ∀ u ∈ S, ∃ j : Nat, u = (j : Int) ∧ j ≠ k ∧ ∃ T, N[j]? = some (some T)) (hst : st.length ≤ 1048576) (w : World) (hX : SX h0 sb N F st w) (hh : h0 ≤ w.heap.size) (hF : FV N.length m F) :
    Calls Try.prog 35 #[.pointer (some ⟨sb, 0, none⟩), .int .i64 (k : Int)] w fun e w' => e = .returned (.tuple #[]) ∧ ∃ (sv : Value) (L : List Int), L.Perm S ∧ SX h0 sb (dropQ (k : Int) L N F).1 (dropQ (k : Int) L N F).2 (st ++ [((k : Int), sv, L, -1)]) w' ∧ Below h0 w w' := by
  have hnr := nbrs_any h0 sb k N F st S hS (by omega) w hX
  obtain ⟨g, bs, fs, tv, tag, rfl, hM0⟩ := hX
  have hM := hM0.retag 10
  have hkN : k < N.length := (List.getElem?_eq_some_iff.1 hS).1
  have hkI : (k : Int) < (N.length : Int) := by omega
  have hkw : (Lit.int .i64 (k : Int)).wf = true := wf_nat (by omega)
  obtain ⟨i0, hi, hz0, hz1, hz2⟩ := info_parts infoStp
  have HM : Hid (SM h0 sb g bs N fs tv st (fun k => if k < w.heap.size then tag k else 10) w) := hM
  have HF : Hid (FV N.length m (fs.map Prod.snd)) := hF
  have HNB : Hid (∀ u ∈ S, ∃ j : Nat, u = (j : Int) ∧ j ≠ k ∧ ∃ T, N[j]? = some (some T)) := hnb
  clear hM0 hM hF hnb
  go_enter Try.func35, Try.ntmps35
  go_wp2_with fail
  refine hnr.mono ?_
  clear hnr
  rintro e w1 ⟨sv, L, rfl, hp, ho1, hb1⟩
  have hM1 := HM.out.go hb1
  have c0 := hM1.row
  have hcg : w1.cell? ⟨g, k, none⟩ ≠ none := by
    obtain ⟨bk, _, _, hc, _⟩ := hM1.nm.cell hS
    rw [hc]; simp
  obtain ⟨zc, hzc⟩ : ∃ z, w1.cell? ⟨g, k, none⟩ = some z := by
    cases h : w1.cell? ⟨g, k, none⟩ with
    | none => exact absurd h hcg
    | some z => exact ⟨z, rfl⟩
  have fg := hM1.nm.row.frozen k
  have hM2 := hM1.leave k
  have hgb : Below h0 w (w1.setCell ⟨g, k, none⟩ (.map none)) := (hb1.mono hh).setCell (p := ⟨g, k, none⟩) hM1.lg _
  have hsv2 : (w1.setCell ⟨g, k, none⟩ (.map none)).ownsRow h0 3 1 sv L.length (L.map (Value.int .i64)) := by
    refine owns_agree (owns_mono ho1 hh) (fun b hb => Below.heap_setCell _ _ _ _ (fun e => ?_))
    have h1 := (ho1.lt b hb).1
    have h2 := HM.out.nm.row.lt
    have e' : b = g := e
    omega
  have htg : ∀ b, sv.ownBlock = some b → (if b < w.heap.size then tag b else 10) = 10 := fun b hb => if_neg (by have := (ho1.lt b hb).1; omega)
  have hw2s : (w1.setCell ⟨g, k, none⟩ (.map none)).heap.size = w1.heap.size := by simp
  have HP : Hid (L.Perm S) := hp
  have HB2 : Hid (Below h0 w (w1.setCell ⟨g, k, none⟩ (.map none))) := hgb
  have HM2 : Hid (SM h0 sb g (bs.set k none) (N.set k none) fs tv st (fun k => if k < w.heap.size then tag k else 10) (w1.setCell ⟨g, k, none⟩ (.map none))) := hM2
  have HSV : Hid ((w1.setCell ⟨g, k, none⟩ (.map none)).ownsRow h0 3 1 sv L.length (L.map (Value.int .i64))) := hsv2
  have HTG : Hid (∀ b, sv.ownBlock = some b → (if b < w.heap.size then tag b else 10) = 10) := htg
  obtain ⟨ps, ms, cs, rfl⟩ := owns_slice ho1
  have hms : ms = L.length := by
    rcases ho1.2 with ⟨h, h'⟩ | ⟨_, _, _, h, _⟩ <;> simp at h <;> omega
  subst hms
  have c7 : (w1.setCell ⟨g, k, none⟩ (.map none)).cell? ⟨sb, 7, none⟩ = some tv := hM2.steps
  have f7 : (w1.setCell ⟨g, k, none⟩ (.map none)).frozen? ⟨sb, 7, none⟩ = false := hM2.var.frozen 7
  obtain ⟨pt, mt, ct, rfl⟩ := owns_slice hM2.stp
  have hmt : mt = st.length := by
    rcases hM2.stp.2 with ⟨h, h'⟩ | ⟨_, _, _, h, _⟩ <;> simp at h <;> omega
  subst hmt
  have hownA := World.ownsRow.alloc hM2.stp (.cells #[.int .i64 (k : Int), .slice ps L.length cs, .int .i64 (-1)] 78)
  have hmx : st.length + 1 ≤ maxLen := by unfold maxLen; omega
  have hby : (st.length + 1) * 40 ≤ 140737488355328 := by omega
  have hbs : h0 ≤ ((w1.setCell ⟨g, k, none⟩ (.map none)).alloc (.cells #[.int .i64 (k : Int), .slice ps L.length cs, .int .i64 (-1)] 78)).heap.size := by have := hb1.size; simp; omega
  have HBK : Hid (Blk 78 ((w1.setCell ⟨g, k, none⟩ (.map none)).alloc (.cells #[.int .i64 (k : Int), .slice ps L.length cs, .int .i64 (-1)] 78)) (w1.setCell ⟨g, k, none⟩ (.map none)).heap.size [.int .i64 (k : Int), .slice ps L.length cs, .int .i64 (-1)]) := heap_alloc_new _ _
  rw [hw2s] at HBK
  have HNEW : Hid (∀ j u, [Value.int .i64 (k : Int), .slice ps L.length cs, .int .i64 (-1)][j]? = some u → ((w1.setCell ⟨g, k, none⟩ (.map none)).alloc (.cells #[.int .i64 (k : Int), .slice ps L.length cs, .int .i64 (-1)] 78)).cell? ((⟨w1.heap.size, 0, none⟩ : Addr).add j) = some u) := cells_three HBK.out
  have HONE : Hid (∀ u ∈ [Value.int .i64 (k : Int), .slice ps L.length cs, .int .i64 (-1)], u.oneCell' = true) := by intro u hu; simp at hu; rcases hu with rfl | rfl | rfl <;> rfl
  have HOA : Hid _ := hownA
  have HSB : Hid (h0 ≤ sb) := hM2.lsb
  have HNE : Hid (∀ b, (Value.slice pt st.length ct).ownBlock = some b → b ≠ sb) := fun b hb e => by have h1 := hM2.tt b hb; have h2 := hM2.tsb; rw [e] at h1; omega
  clear hp hgb hM2 hsv2 htg ho1 hM1 hcg HM hb1 hownA HBK
  go_wp2_with (at_builtin; refine wpList_append_own_at _ rfl _ _ 71 rfl h0 78 i0 (.agg #[.int .i64 0, .slice none 0 0, .int .i64 0]) 3 40 Try.underlying71 hi hz0 hz1 hz2 (by simp [Value.cells]) (by decide) (.slice pt st.length ct) _ _ rfl HOA.out ⟨w1.heap.size, 0, none⟩ 1 1 [.int .i64 (k : Int), .slice ps L.length cs, .int .i64 (-1)] rfl rfl HNEW.out HONE.out hmx hby hbs ?_)
  intro v6 w6 ho6 hg6 hnil6 hat6
  obtain ⟨a6, m6, c6, rfl⟩ := owns_slice ho6
  generalize hw2 : w1.setCell ⟨g, k, none⟩ (.map none) = w2 at *
  have hbA : Below w2.heap.size w2 (w2.alloc (.cells #[.int .i64 (k : Int), .slice ps L.length cs, .int .i64 (-1)] 78)) := (Below.refl _ _).alloc (Nat.le_refl _) _
  obtain ⟨tag6, hM6⟩ := HM2.out.push (s := ((k : Int), .slice ps L.length cs, L, -1)) hbA ho6 hg6 (by rw [World.size_alloc, hw2s]; exact hat6) HSV.out HTG.out
  have c67 : w6.cell? ⟨sb, 7, none⟩ = some (.slice pt st.length ct) := hg6.cell (cell_keepK hbA c7) (fun e => HNE.out sb e.symm rfl)
  have f67 : w6.frozen? ⟨sb, 7, none⟩ = false := ((HM2.out.var.go hbA).grown hg6 (fun e => HNE.out sb e.symm rfl)).frozen 7
  have HB7 : Hid (Below h0 w (w6.setCell ⟨sb, 7, none⟩ (.slice a6 m6 c6))) := ((HB2.out.trans (hbA.mono (Nat.le_trans hh HB2.out.size))).grown hg6 hbs (fun q hq => (World.ownsRow.lt HOA.out q hq).1)).setCell (p := ⟨sb, 7, none⟩) HSB.out _
  have HX7 : Hid (SX h0 sb (N.set k none) (fs.map Prod.snd) (st ++ [((k : Int), .slice ps L.length cs, L, -1)]) (w6.setCell ⟨sb, 7, none⟩ (.slice a6 m6 c6))) := ⟨g, _, fs, _, tag6, rfl, hM6⟩
  have hLl : L.length ≤ 4 := by rw [HP.out.length_eq]; exact h4
  clear hw2 hbA ho6 hg6 hnil6 hat6 hM6 HM2 HSV HTG HNEW HONE HOA HNE hbs hmx hby c7 f7 c0 hzc fg hw2s
  go_wp2_with fail
  generalize w6.setCell ⟨sb, 7, none⟩ (.slice a6 m6 c6) = w7 at *
  clear c67 f67
  go_loopw [30] (fun iv wr => ∃ i : Nat, i ≤ L.length ∧ iv = .int .i64 i ∧ SX h0 sb ((L.take i).foldl (drop1 (k : Int)) (N.set k none, fs.map Prod.snd)).1 ((L.take i).foldl (drop1 (k : Int)) (N.set k none, fs.map Prod.snd)).2 (st ++ [((k : Int), .slice ps L.length cs, L, -1)]) wr ∧ Below h0 w wr) (fun iv _ => L.length - (intOf iv).toNat)
  case atStart => exact ⟨0, Nat.zero_le _, rfl, HX7.out, HB7.out⟩
  case round =>
    clear HX7 HB7
    obtain ⟨i, hi', rfl, hXr, hbr⟩ := hrel
    by_cases hlt : i < L.length
    · have hil : (i : Int) < (L.length : Int) := by omega
      obtain ⟨j, hj, hjk, T0, hT0⟩ := HNB.out L[i] (HP.out.mem_iff.1 (List.getElem_mem hlt))
      have hjN : j < N.length := (List.getElem?_eq_some_iff.1 hT0).1
      obtain ⟨T, hT⟩ := dropF_some (k : Int) (L.take i) (N.set k none, fs.map Prod.snd) (j := j) (T := T0) (by rw [List.getElem?_set_ne (Ne.symm hjk)]; exact hT0)
      have hFr := dropF_fv (k : Int) (n := N.length) (L.take i) (N.set k none, fs.map Prod.snd) (fun u hu => by
        obtain ⟨j', e, _, T', hT'⟩ := HNB.out u (HP.out.mem_iff.1 (List.mem_of_mem_take hu))
        exact ⟨j', e, (List.getElem?_eq_some_iff.1 hT').1⟩) HF.out
      have hlen := dropF_len (k : Int) (L.take i) (N.set k none, fs.map Prod.snd)
      have HQ : Hid ((L.take (i + 1)).foldl (drop1 (k : Int)) (N.set k none, fs.map Prod.snd) = drop1 (k : Int) ((L.take i).foldl (drop1 (k : Int)) (N.set k none, fs.map Prod.snd)) (j : Int)) := by unfold Hid; rw [dropF_take _ _ _ hlt, hj]
      have hsv := hXr.inn _ (List.mem_append_right _ (List.mem_singleton.2 rfl))
      dsimp only at hsv hlen hFr
      rw [List.length_set] at hlen
      generalize (L.take i).foldl (drop1 (k : Int)) (N.set k none, fs.map Prod.snd) = q at *
      obtain ⟨b, rfl⟩ : ∃ b, ps = some ⟨b, 0, none⟩ := by
        rcases hsv.2 with ⟨_, h⟩ | ⟨b, _, _, h, _⟩
        · omega
        · simp at h; exact ⟨b, h.1⟩
      have cu : wr.cell? ⟨b, i, none⟩ = some (.int .i64 (j : Int)) := by
        rw [hsv.cellAt i (by omega), List.getElem?_map, List.getElem?_eq_getElem hlt, hj]
        rfl
      obtain ⟨gr, bsr, fsr, tvr, tagr, hfr, hMr⟩ := hXr
      obtain ⟨bj, hbj, hMj, hcj, hjl⟩ := hMr.nm.cell hT
      have c0 := hMr.row
      have hjI : (j : Int) < (q.1.length : Int) := by omega
      obtain ⟨w8, hrd, hM8, ht8⟩ := hMj.drop hkw 0
      have hSM8 := hMr.turn hbj ht8 hM8
      have hX8 : SX h0 sb (q.1.set j (some (T.erase (k : Int)))) q.2 (st ++ [((k : Int), .slice (some ⟨b, 0, none⟩) L.length cs, L, -1)]) w8 := ⟨gr, bsr, fsr, tvr, tagr, hfr, hSM8⟩
      have hb8 : Below h0 w w8 := turned_below hbr ht8 (hMr.lm j bj hbj)
      have hfl := file_any h0 sb j (q.1.set j (some (T.erase (k : Int)))) q.2 _ (T.erase (k : Int)) (List.getElem?_set_self hjl) w8 hX8 (Nat.le_trans hh hb8.size) (fun L' hL' => by have := (hFr.2 L' hL').1; rw [List.length_take] at this; omega)
      have HD : Hid (drop1 (k : Int) q (j : Int) = (q.1.set j (some (T.erase (k : Int))), fileF q.2 (T.erase (k : Int)).length (j : Int))) := by
        unfold Hid drop1 nbN
        simp [hT]
      have HB8 : Hid (Below h0 w w8) := hb8
      clear hsv hMr hMj hM8 ht8 hSM8 hX8 hb8 hbr hfr hlen hFr hT hT0 hj
      go_wp2_with fail
      refine hfl.mono ?_
      clear hfl hrd
      rintro e w9 ⟨rfl, hX9, hb9⟩
      have HX9 : Hid (SX h0 sb ((L.take (i + 1)).foldl (drop1 (k : Int)) (N.set k none, fs.map Prod.snd)).1 ((L.take (i + 1)).foldl (drop1 (k : Int)) (N.set k none, fs.map Prod.snd)).2 (st ++ [((k : Int), .slice (some ⟨b, 0, none⟩) L.length cs, L, -1)]) w9) := by
        unfold Hid
        rw [HQ.out, HD.out]
        exact hX9
      have HB9 : Hid (Below h0 w w9) := HB8.out.trans hb9
      clear hX9 hb9 c0 cu hcj
      go_wp2
      exact ⟨⟨i + 1, hlt, by go_num, HX9.out, HB9.out⟩, by simp [intOf]; omega⟩
    · have hil : ¬ (i : Int) < (L.length : Int) := by omega
      have hi2 : i = L.length := by omega
      rw [hi2, List.take_length] at hXr
      have HX : Hid (SX h0 sb (dropQ (k : Int) L N (fs.map Prod.snd)).1 (dropQ (k : Int) L N (fs.map Prod.snd)).2 (st ++ [((k : Int), .slice ps L.length cs, L, -1)]) wr) := hXr
      have HB : Hid (Below h0 w wr) := hbr
      have h5 : ((L.length : Int) == 5) = false := by rw [beq_eq_false_iff_ne]; omega
      clear hXr hbr hi2
      go_wp2
      refine bodyPost_end (results_none rfl _ _ _) rfl ?_
      exact ⟨rfl, .slice ps L.length cs, L, HP.out, HX.out, HB.out⟩
end Go.Proofs.Yteekhofollaooaa

namespace Go.Proofs.Yteekhofollaooaa
open Go Go.Proofs Go.RowKit Go.Maps

/-- The sets when the first i vertices have theirs. -/
def newN (n : Nat) (l : List Ed) (i : Nat) : List (Option (List Int)) := (List.range n).map fun (v : Nat) => if v < i then some (nb l (v : Int)) else none
def newF (l : List Ed) : Nat → List (List Int)
  | 0 => List.replicate 6 []
  | i + 1 => fileF (newF l i) (nb l (i : Int)).length (i : Int)
theorem newN_len (n : Nat) (l : List Ed) (i : Nat) : (newN n l i).length = n := by simp [newN]
theorem newN_zero (n : Nat) (l : List Ed) : newN n l 0 = List.replicate n none := by
  apply List.ext_getElem
  · simp [newN]
  · intro i h1 h2
    simp [newN]
theorem newN_step {n : Nat} {l : List Ed} {i : Nat} (h : i < n) : (newN n l i).set i (some (nb l (i : Int))) = newN n l (i + 1) := by
  apply List.ext_getElem?
  intro j
  by_cases hj : j < n
  · by_cases e : i = j
    · subst e
      rw [List.getElem?_set_self (by rw [newN_len]; exact h)]
      simp [newN, h]
    · rw [List.getElem?_set_ne e]
      simp only [newN, List.getElem?_map, List.getElem?_range hj, Option.map_some]
      congr 1
      by_cases h2 : j < i
      · rw [if_pos h2, if_pos (by omega)]
      · rw [if_neg h2, if_neg (by omega)]
  · rw [List.getElem?_eq_none (by rw [List.length_set, newN_len]; omega), List.getElem?_eq_none (by rw [newN_len]; omega)]
theorem newN_all {n : Nat} {l : List Ed} {v : Nat} (h : v < n) : (newN n l n)[v]? = some (some (nb l (v : Int))) := by simp [newN, h]
theorem newF_fv {n : Nat} {l : List Ed} : ∀ {i : Nat}, i ≤ n → FV n i (newF l i)
  | 0, _ => ⟨rfl, fun L hL => by rw [List.eq_of_mem_replicate hL]; exact ⟨Nat.le_refl _, fun x hx => by cases hx⟩⟩
  | i + 1, h => (newF_fv (i := i) (by omega)).file (by omega)
/-- What a set holds when the first ones of a list have come. -/
theorem grow_set {L : List Int} (hn : L.Nodup) {i : Nat} (h : i < L.length) : (if L[i] ∈ L.take i then L.take i else L.take i ++ [L[i]]) = L.take (i + 1) := by
  have h1 : L[i] ∉ L.take i := by
    intro hm
    have h2 : L = L.take i ++ L[i] :: L.drop (i + 1) := by
      conv => lhs; rw [← List.take_append_drop i L]
      rw [List.drop_eq_getElem_cons h]
    have h3 := hn
    rw [h2, List.nodup_append] at h3
    exact h3.2.2 _ hm _ List.mem_cons_self rfl
  rw [if_neg h1, List.take_add_one, List.getElem?_eq_getElem h]
  rfl
theorem infoMp : (Try.prog.info? 75).map (fun i => (i.zero, i.size, i.bytes)) = some (some (.map none), 1, 8) := by kernel_rfl
theorem made_maps (n : Nat) : (madeCells (Value.map none).cells (n * 1)).toList = (List.replicate n (none : Option Nat)).map Value.map := by
  apply List.ext_getElem
  · simp [madeCells]
  · intro i h1 h2
    simp [madeCells, Value.cells, Nat.mod_one]
/-- Nothing has come yet. -/
theorem SM.start {W : World} {h0 sb gb tb n : Nat} (hsb : Blk 74 W sb [.slice (some ⟨gb, 0, none⟩) n n, .slice none 0 0, .slice none 0 0, .slice none 0 0, .slice none 0 0, .slice none 0 0, .slice none 0 0, .slice (some ⟨tb, 0, none⟩) 0 n])
    (hgb : Blk 75 W gb ((List.replicate n (none : Option Nat)).map Value.map)) (htb : W.ownsRow h0 78 3 (.slice (some ⟨tb, 0, none⟩) 0 n) 0 []) (h1 : h0 ≤ sb) (h2 : h0 ≤ gb) (hne : sb ≠ gb ∧ sb ≠ tb ∧ gb ≠ tb) :
    ∃ tag, SM h0 sb gb (List.replicate n none) (List.replicate n none) (List.replicate 6 (.slice none 0 0, [])) (.slice (some ⟨tb, 0, none⟩) 0 n) [] tag W := by
  have hno : ∀ {v b : Nat}, (List.replicate n (none : Option Nat))[v]? ≠ some (some b) := by
    intro v b h
    have := List.mem_of_getElem? h
    simp at this
  have hfs : ∀ x : Value × List Int, x ∈ List.replicate 6 ((Value.slice none 0 0 : Value), ([] : List Int)) → x = (.slice none 0 0, []) := fun x hx => List.eq_of_mem_replicate hx
  refine ⟨fun k => if k = sb then 0 else if k = gb then 1 else 9, ?_, ⟨hgb, by simp, fun v S h => ?_, fun v h => ?_, fun u v b h => absurd h hno, fun v b h => absurd h hno⟩, by simp, fun x hx => ?_, htb, fun s hs => by simp at hs, by simp, ?_, fun v b h => absurd h hno, fun i x hx b hb => ?_, fun b hb => ?_, fun s hs => by simp at hs, h1, h2, fun v b h => absurd h hno⟩
  · rw [List.length_replicate]
    exact hsb
  · have := List.mem_of_getElem? h
    simp at this
  · have hv := (List.getElem?_eq_some_iff.1 h).1
    rw [List.length_replicate] at hv
    rw [List.getElem?_replicate, if_pos hv]
  · rw [hfs x hx]
    exact World.ownsRow_nil _ _ _ _
  · show (if gb = sb then 0 else if gb = gb then 1 else 9) = 1
    rw [if_neg (Ne.symm hne.1), if_pos rfl]
  · rw [hfs x (List.mem_of_getElem? hx)] at hb
    cases hb
  · have e : b = tb := by simpa [Value.ownBlock] using hb.symm
    subst e
    show (if b = sb then 0 else if b = gb then 1 else 9) = 9
    rw [if_neg (Ne.symm hne.2.1), if_neg (Ne.symm hne.2.2)]

theorem run_makeHint (m : Nat) (W : World) : (Instr.makeMap 75 (some (.int .i64 (m : Int)))).run Try.prog W = .ok (.map (some W.heap.size)) (W.alloc (.map #[] 0)) := by
  simp [Instr.makeMap, go_sem]
/-- What stands between two vertices: the lists that Near told lie untouched. -/
def NewI (h0 sb gb n : Nat) (tv : Value) (N : List (Option (List Int))) (F : List (List Int)) (lo : Nat) (w w3 wr : World) : Prop :=
  ∃ bs fs tag, fs.map Prod.snd = F ∧ SM h0 sb gb bs N fs tv [] tag wr ∧ (∀ j, lo ≤ j → j < w3.heap.size → tag j = 11 ∧ wr.heap[j]? = w3.heap[j]?) ∧ w3.heap.size ≤ wr.heap.size ∧ N.length = n ∧ Below h0 w wr

set_option maxRecDepth 100000 in
set_option maxHeartbeats 8000000 in
theorem new_any (n : Nat) (hn : n ≤ 1048576) (l : List Ed) (hR : RightG (n : Int) l) (sv : Value) (w : World) (hl : Edges w.heap.size w sv l) :
    Calls Try.prog 33 #[.agg #[.int .i64 (n : Int), sv]] w fun e w' => ∃ sb, e = .returned (.pointer (some ⟨sb, 0, none⟩)) ∧ SX w.heap.size sb (newN n l n) (newF l n) [] w' ∧ Below w.heap.size w w' := by
  obtain ⟨pe, ce, rfl⟩ := hl.len
  obtain ⟨i0, hi, hz0, hz1, hz2⟩ := info_parts infoStp
  obtain ⟨j0, hj, hy0, hy1, hy2⟩ := info_parts infoMp
  have hbA : Below w.heap.size w (w.alloc (.cells #[.int .i64 (n : Int), .slice pe l.length ce] 24)) := (Below.refl _ _).alloc (Nat.le_refl _) _
  have hXA : Blk 24 (w.alloc (.cells #[.int .i64 (n : Int), .slice pe l.length ce] 24)) w.heap.size [.int .i64 (n : Int), .slice pe l.length ce] := heap_alloc_new w _
  have g0 := hXA.cell (j := 0) rfl
  have HXA : Hid _ := hXA
  have HBA : Hid (Below w.heap.size w (w.alloc (.cells #[.int .i64 (n : Int), .slice pe l.length ce] 24))) := hbA
  clear hXA
  go_enter Try.func33, Try.ntmps33
  go_wp2_with fail
  generalize hw1 : w.alloc (.cells #[.int .i64 (n : Int), .slice pe l.length ce] 24) = w1 at *
  have hs1 : w.heap.size < w1.heap.size := by rw [← hw1]; simp
  have HMT : Hid (∀ W : World, w.heap.size ≤ W.heap.size → ∃ W', (Instr.makeSlice 71 (.int .i64 0) (.int .i64 (n : Int))).run Try.prog W = .ok (.slice (some ⟨W.heap.size, 0, none⟩) 0 n) W' ∧ W'.ownsRow w.heap.size 78 3 (.slice (some ⟨W.heap.size, 0, none⟩) 0 n) 0 [] ∧ W.grownBy W' none) := fun W hW =>
    run_make_own (P := Try.prog) W w.heap.size 71 78 i0 _ 3 Try.underlying71 hi hz0 hz1 .i64 .i64 n (by rw [hz2]; omega) (by unfold maxLen; omega) hW
  have HMG : Hid (∀ W : World, w.heap.size ≤ W.heap.size → ∃ W', (Instr.makeSlice 70 (.int .i64 (n : Int)) (.int .i64 (n : Int))).run Try.prog W = .ok (.slice (some ⟨W.heap.size, 0, none⟩) n n) W' ∧ Blk 75 W' W.heap.size ((List.replicate n (none : Option Nat)).map Value.map) ∧ W.grownBy W' none) := fun W hW => by
    obtain ⟨W', h1, h2, h3⟩ := run_make_full (P := Try.prog) W w.heap.size 70 75 j0 (.map none) 1 Try.underlying70 hj hy0 hy1 .i64 .i64 n (by rw [hy2]; omega) (by unfold maxLen; omega) hW
    exact ⟨W', h1, by rw [← made_maps]; exact Blk.made h2, h3⟩
  clear hbA hw1
  go_cut [3] (fun t wx => ∃ sb gb tb tag, t = .pointer (some ⟨sb, 0, none⟩) ∧ SM w.heap.size sb gb (List.replicate n none) (List.replicate n none) (List.replicate 6 (.slice none 0 0, [])) (.slice (some ⟨tb, 0, none⟩) 0 n) [] tag wx ∧ Below w1.heap.size w1 wx)
  case first =>
    refine wp_region_held_drew (S := (fun w' : World => w'.cell? ⟨w.heap.size, 0, none⟩ = some (.int .i64 (n : Int)))) (by kernel_rfl) g0 (fun hHeld => ?_)
    refine wpAnyH_take (i := 0) (v := ?_) rfl (by kernel_rfl) (by kernel_rfl) (by kernel_rfl) (fun _ _ _ h => h) (Or.inl ⟨by rfl, ?_⟩) (by assumption) ?_
    rotate_left
    · intro w hSw; (try dsimp only at hSw); go_simp; (try with_reducible rfl)
    try simp only [Act.put, List.setIfInBounds_toArray]
    refine wpAnyH_take (i := 1) (v := ?_) rfl (by kernel_rfl) (by kernel_rfl) (by kernel_rfl) (fun _ _ _ h => h) (Or.inl ⟨by rfl, ?_⟩) (by assumption) ?_
    rotate_left
    · intro w hSw; (try dsimp only at hSw); go_simp; (try with_reducible rfl)
    try simp only [Act.put]
    refine wpAnyH_take (i := 3) (v := ?_) rfl (by kernel_rfl) (by kernel_rfl) (by kernel_rfl) (fun _ _ _ h => h) (Or.inl ⟨by rfl, ?_⟩) (by assumption) ?_
    rotate_left
    · intro w hSw; (try dsimp only at hSw); go_simp; (try with_reducible rfl)
    try simp only [Act.put]
    refine wpAnyH_take (i := 4) (v := ?_) rfl (by kernel_rfl) (by kernel_rfl) (by kernel_rfl) (fun _ _ _ h => h) (Or.inl ⟨by rfl, ?_⟩) (by assumption) ?_
    rotate_left
    · intro w hSw; (try dsimp only at hSw); go_simp; (try with_reducible rfl)
    try simp only [Act.put]
    try simp only [List.getElem_toArray, List.getElem_cons_zero, List.getElem_cons_succ, List.setIfInBounds_toArray, List.set_cons_zero, List.set_cons_succ]
    have hbd : Below w1.heap.size w1 w1.drew := below_drewN (Below.refl _ _) 1
    have hsd : w1.drew.heap.size = w1.heap.size := rfl
    refine wpAnyH_ready (rs := [2, 5]) (by kernel_rfl) (by simp) ?_
    refine AllReadyH.cons rfl (fun K hK => ?_) (AllReadyH.cons rfl (fun K hK => ?_) AllReadyH.nil)
    · obtain ⟨w2, hr2, hB2, hg2⟩ := HMG.out w1.drew (by rw [hsd]; omega)
      have hb2 : Below w1.heap.size w1 w2 := hbd.grown hg2 (Nat.le_refl _) (fun k e => by cases e)
      have hl2 := hB2.lt
      rw [hsd] at *
      go_simp
      refine hK.out _ _ (cell_keepK hb2 g0) (fun hHeld1 => ?_)
      clear hK K hr2 hg2
      try simp only [Act.put, List.setIfInBounds_toArray, List.set_cons_zero, List.set_cons_succ]
      obtain ⟨w3, hr3, hO3, hg3⟩ := HMT.out w2 (by omega)
      have hb3 : Below w1.heap.size w1 w3 := hb2.grown hg3 hb2.size (fun k e => by cases e)
      have hB3 := hB2.grown hg3 (by simp)
      have hl3 := (hO3.lt w2.heap.size rfl).2
      refine wpAnyH_ready (rs := [5]) (by kernel_rfl) (by simp) ?_
      refine AllReadyH.cons rfl (fun K hK => ?_) AllReadyH.nil
      go_simp
      refine hK.out _ _ (cell_keepK hb3 g0) (fun hHeld2 => ?_)
      clear hK K hr3 hg3
      try simp only [Act.put, List.setIfInBounds_toArray, List.set_cons_zero, List.set_cons_succ]
      refine wpAnyH_take (i := 6) (v := ?_) rfl (by kernel_rfl) (by kernel_rfl) (by kernel_rfl) (fun _ _ _ h => h) (Or.inl ⟨by rfl, ?_⟩) (by assumption) ?_
      rotate_left
      · intro w hSw; (try dsimp only at hSw); go_simp; (try with_reducible rfl)
      try simp only [Act.put]
      try simp only [List.getElem_toArray, List.getElem_cons_zero, List.getElem_cons_succ, List.setIfInBounds_toArray, List.set_cons_zero, List.set_cons_succ]
      have hSB : Blk 74 (w3.alloc (.cells #[.slice (some ⟨w1.heap.size, 0, none⟩) n n, .slice none 0 0, .slice none 0 0, .slice none 0 0, .slice none 0 0, .slice none 0 0, .slice none 0 0, .slice (some ⟨w2.heap.size, 0, none⟩) 0 n] 74)) w3.heap.size [.slice (some ⟨w1.heap.size, 0, none⟩) n n, .slice none 0 0, .slice none 0 0, .slice none 0 0, .slice none 0 0, .slice none 0 0, .slice none 0 0, .slice (some ⟨w2.heap.size, 0, none⟩) 0 n] := heap_alloc_new w3 _
      have hbS : Below w3.heap.size w3 (w3.alloc (.cells #[.slice (some ⟨w1.heap.size, 0, none⟩) n n, .slice none 0 0, .slice none 0 0, .slice none 0 0, .slice none 0 0, .slice none 0 0, .slice none 0 0, .slice (some ⟨w2.heap.size, 0, none⟩) 0 n] 74)) := (Below.refl _ _).alloc (Nat.le_refl _) _
      have hbw3 := hb3.size
      have hgl3 := hB3.lt
      obtain ⟨tagS, hSM⟩ := SM.start hSB (hB3.go hbS) (World.ownsRow.alloc hO3 _) (by omega) (by omega) ⟨by omega, by omega, by omega⟩
      have hbS1 := hb3.trans (hbS.mono hb3.size)
      refine wpAnyH_ready (rs := [7]) (by kernel_rfl) (by simp) ?_
      refine AllReadyH.cons rfl (fun K hK => ?_) AllReadyH.nil
      go_simp
      refine hK.out _ _ (cell_keepK hbS1 g0) (fun hHeld3 => ?_)
      clear hK K
      try simp only [Act.put, List.setIfInBounds_toArray, List.set_cons_zero, List.set_cons_succ]
      refine wpAnyH_take (i := 8) (v := ?_) rfl (by kernel_rfl) (by kernel_rfl) (by kernel_rfl) (fun _ _ _ h => h) (Or.inl ⟨by rfl, ?_⟩) (by assumption) ?_
      rotate_left
      · intro w hSw; (try dsimp only at hSw); go_simp; (try with_reducible rfl)
      try simp only [Act.put]
      refine wpAnyH_done (by kernel_rfl) ?_ _
      go_wp2
      go_meet
      exact ⟨w3.heap.size, _, _, tagS, rfl, hSM, hbS1⟩
    · obtain ⟨w2, hr2, hO2, hg2⟩ := HMT.out w1.drew (by rw [hsd]; omega)
      have hb2 : Below w1.heap.size w1 w2 := hbd.grown hg2 (Nat.le_refl _) (fun k e => by cases e)
      rw [hsd] at *
      have hl2 := (hO2.lt w1.heap.size rfl).2
      go_simp
      refine hK.out _ _ (cell_keepK hb2 g0) (fun hHeld1 => ?_)
      clear hK K hr2 hg2
      try simp only [Act.put, List.setIfInBounds_toArray, List.set_cons_zero, List.set_cons_succ]
      obtain ⟨w3, hr3, hB3, hg3⟩ := HMG.out w2 (by omega)
      have hb3 : Below w1.heap.size w1 w3 := hb2.grown hg3 hb2.size (fun k e => by cases e)
      have hO3 := hO2.kept hg3 (.inr (by simp [Value.ownBlock]))
      have hl3 := (hO3.lt w1.heap.size rfl).2
      refine wpAnyH_ready (rs := [2]) (by kernel_rfl) (by simp) ?_
      refine AllReadyH.cons rfl (fun K hK => ?_) AllReadyH.nil
      go_simp
      refine hK.out _ _ (cell_keepK hb3 g0) (fun hHeld2 => ?_)
      clear hK K hr3 hg3
      try simp only [Act.put, List.setIfInBounds_toArray, List.set_cons_zero, List.set_cons_succ]
      refine wpAnyH_take (i := 6) (v := ?_) rfl (by kernel_rfl) (by kernel_rfl) (by kernel_rfl) (fun _ _ _ h => h) (Or.inl ⟨by rfl, ?_⟩) (by assumption) ?_
      rotate_left
      · intro w hSw; (try dsimp only at hSw); go_simp; (try with_reducible rfl)
      try simp only [Act.put]
      try simp only [List.getElem_toArray, List.getElem_cons_zero, List.getElem_cons_succ, List.setIfInBounds_toArray, List.set_cons_zero, List.set_cons_succ]
      have hSB : Blk 74 (w3.alloc (.cells #[.slice (some ⟨w2.heap.size, 0, none⟩) n n, .slice none 0 0, .slice none 0 0, .slice none 0 0, .slice none 0 0, .slice none 0 0, .slice none 0 0, .slice (some ⟨w1.heap.size, 0, none⟩) 0 n] 74)) w3.heap.size [.slice (some ⟨w2.heap.size, 0, none⟩) n n, .slice none 0 0, .slice none 0 0, .slice none 0 0, .slice none 0 0, .slice none 0 0, .slice none 0 0, .slice (some ⟨w1.heap.size, 0, none⟩) 0 n] := heap_alloc_new w3 _
      have hbS : Below w3.heap.size w3 (w3.alloc (.cells #[.slice (some ⟨w2.heap.size, 0, none⟩) n n, .slice none 0 0, .slice none 0 0, .slice none 0 0, .slice none 0 0, .slice none 0 0, .slice none 0 0, .slice (some ⟨w1.heap.size, 0, none⟩) 0 n] 74)) := (Below.refl _ _).alloc (Nat.le_refl _) _
      have hbw3 := hb3.size
      have hgl3 := hB3.lt
      obtain ⟨tagS, hSM⟩ := SM.start hSB (hB3.go hbS) (World.ownsRow.alloc hO3 _) (by omega) (by omega) ⟨by omega, by omega, by omega⟩
      have hbS1 := hb3.trans (hbS.mono hb3.size)
      refine wpAnyH_ready (rs := [7]) (by kernel_rfl) (by simp) ?_
      refine AllReadyH.cons rfl (fun K hK => ?_) AllReadyH.nil
      go_simp
      refine hK.out _ _ (cell_keepK hbS1 g0) (fun hHeld3 => ?_)
      clear hK K
      try simp only [Act.put, List.setIfInBounds_toArray, List.set_cons_zero, List.set_cons_succ]
      refine wpAnyH_take (i := 8) (v := ?_) rfl (by kernel_rfl) (by kernel_rfl) (by kernel_rfl) (fun _ _ _ h => h) (Or.inl ⟨by rfl, ?_⟩) (by assumption) ?_
      rotate_left
      · intro w hSw; (try dsimp only at hSw); go_simp; (try with_reducible rfl)
      try simp only [Act.put]
      refine wpAnyH_done (by kernel_rfl) ?_ _
      go_wp2
      go_meet
      exact ⟨w3.heap.size, _, _, tagS, rfl, hSM, hbS1⟩
  case rest =>
    obtain ⟨sb, gb, tb, tag, rfl, hSM, hb⟩ := hcut
    have hbw : Below w.heap.size w wc := HBA.out.trans (hb.mono (by omega))
    have hXc : Blk 24 wc w.heap.size [.int .i64 (n : Int), .slice pe l.length ce] := Blk.go (vs := [.int .i64 (n : Int), .slice pe l.length ce]) HXA.out hb
    have e0 := hXc.cell (j := 0) rfl
    have e1 := hXc.cell (j := 1) rfl
    have hnr := near_at n l hR (.slice pe l.length ce) wc ((hl.below hbw).mono hbw.size)
    have HSM : Hid _ := hSM.retag 11
    have HBW : Hid (Below w.heap.size w wc) := hbw
    clear hSM hb hbw hXc HMT HMG g0 HXA HBA hs1
    go_wp2_with fail
    refine hnr.mono ?_
    clear hnr
    rintro e w3 ⟨gn, hn0, bsn, deg, rfl, hNI, hgn, hb3⟩
    have hstart : NewI w.heap.size sb gb n (.slice (some ⟨tb, 0, none⟩) 0 n) (newN n l 0) (newF l 0) wc.heap.size w w3 w3 := by
      refine ⟨_, _, _, ?_, by rw [newN_zero]; exact SM.go HSM.out hb3, fun j h1 _ => ⟨if_neg (by omega), rfl⟩, Nat.le_refl _, newN_len _ _ _, HBW.out.trans (hb3.mono HBW.out.size)⟩
      rw [List.map_replicate]
      rfl
    have HNI : Hid (NearI n gn hn0 bsn deg (fun v => nb l (v : Int)) w3) := hNI
    have HST : Hid (NewI w.heap.size sb gb n (.slice (some ⟨tb, 0, none⟩) 0 n) (newN n l 0) (newF l 0) wc.heap.size w w3 w3) := hstart
    clear hstart hNI HSM HBW hb3 e0 e1
    go_wp2
    go_loopw [19] (fun iv wr => ∃ i : Nat, i ≤ n ∧ iv = .int .i64 i ∧ NewI w.heap.size sb gb n (.slice (some ⟨tb, 0, none⟩) 0 n) (newN n l i) (newF l i) wc.heap.size w w3 wr) (fun iv _ => n - (intOf iv).toNat)
    case atStart => exact ⟨0, Nat.zero_le _, rfl, HST.out⟩
    case round =>
      clear HST
      obtain ⟨i, hi', rfl, hI⟩ := hrel
      by_cases hlt : i < n
      · have hil : (i : Int) < (n : Int) := by omega
        obtain ⟨bs, fs, tagi, hfs, hM, hk, hsz, hNl, hbi⟩ := hI
        have hgn3 := HNI.out.row.lt
        have c0 : wr.cell? ⟨gn, i, none⟩ = some (.slice (some ⟨bsn.getD i 0, 0, none⟩) (nb l (i : Int)).length (deg i)) := by
          rw [World.cell?_of_block (a := ⟨gn, i, none⟩) (hk gn hgn hgn3).2]
          exact HNI.out.row.cell (rowsV_at hlt)
        have c1 := hM.row
        rw [newN_len] at c1
        have hgbl := hM.nm.row.lt
        obtain ⟨zc, hzc⟩ : ∃ z, wr.cell? ⟨gb, i, none⟩ = some z := ⟨_, hM.nm.row.cell (List.getElem?_eq_getElem (by rw [List.length_map, hM.nm.len, newN_len]; exact hlt))⟩
        have fzc := hM.nm.row.frozen i
        obtain ⟨tagm, hMm, hkm⟩ := (hM.go (below_drewN (Below.refl _ _) 1 : Below wr.heap.size wr wr.drew)).enter (Nat.le_trans hbi.size (Nat.le_refl _)) (v := i) (by rw [newN_len]; exact hlt)
        have HMm : Hid (SM w.heap.size sb gb (bs.set i (some wr.heap.size)) ((newN n l i).set i (some [])) fs (.slice (some ⟨tb, 0, none⟩) 0 n) [] tagm ((wr.drew.alloc (.map #[] 0)).setCell ⟨gb, i, none⟩ (.map (some wr.heap.size)))) := hMm
        have HKm : Hid (∀ j, wc.heap.size ≤ j → j < w3.heap.size → tagm j = 11 ∧ ((wr.drew.alloc (.map #[] 0)).setCell ⟨gb, i, none⟩ (.map (some wr.heap.size))).heap[j]? = w3.heap[j]?) := fun j h1 h2 => ⟨(hkm j (by show j < wr.heap.size; omega) (hk j h1 h2).1).1, (hkm j (by show j < wr.heap.size; omega) (hk j h1 h2).1).2.trans (hk j h1 h2).2⟩
        have HBm : Hid (Below w.heap.size w ((wr.drew.alloc (.map #[] 0)).setCell ⟨gb, i, none⟩ (.map (some wr.heap.size)))) := ((below_drewN hbi 1).alloc hbi.size _).setCell (p := ⟨gb, i, none⟩) hM.lg _
        have HFS : Hid (fs.map Prod.snd = newF l i) := hfs
        have HSZ : Hid (w3.heap.size ≤ wr.heap.size) := hsz
        have HOW : Hid (w3.ownsRow hn0 3 1 (.slice (some ⟨bsn.getD i 0, 0, none⟩) (nb l (i : Int)).length (deg i)) (nb l (i : Int)).length ((nb l (i : Int)).map (Value.int .i64)) ∧ wc.heap.size ≤ bsn.getD i 0) := ⟨HNI.out.own i hlt, by have h1 := HNI.out.low i hlt; have h2 := HNI.out.out; omega⟩
        have HNS : Hid ((newN n l i).set i (some (nb l (i : Int))) = newN n l (i + 1)) := newN_step hlt
        have HNF : Hid (newF l (i + 1) = fileF (newF l i) (nb l (i : Int)).length (i : Int)) := rfl
        have HLN : Hid ((nb l (i : Int)).Nodup) := (nb_rise hR (i : Int)).imp (fun h => Int.ne_of_lt h)
        have HLW : Hid (∀ x ∈ nb l (i : Int), (Lit.int .i64 x).wf = true) := fun x hx => by
          obtain ⟨_, h1, h2, _⟩ := nb_mutual hR hx
          obtain ⟨k, rfl⟩ : ∃ k : Nat, x = (k : Int) := ⟨x.toNat, by omega⟩
          exact wf_nat (by omega)
        have hLl : (nb l (i : Int)).length ≤ 4194304 := Nat.le_trans (nb_len (i : Int) l) hR.m1
        have HF1 : Hid (FV n i (newF l i)) := newF_fv hi'
        clear hM hMm hkm hk hfs hbi hsz hNl
        generalize bsn.getD i 0 = bn at *
        generalize nb l (i : Int) = L at *
        generalize deg i = dg at *
        go_wp2_with fail
        refine wp_region_last (S := (fun w' : World => w'.cell? ⟨sb, 0, none⟩ = some (.slice (some ⟨gb, 0, none⟩) n n))) (by kernel_rfl) c1 (fun hHeld => ?_)
        refine wpAnyL_take (i := 0) (v := ?_) rfl (by kernel_rfl) (by kernel_rfl) (by kernel_rfl) (by kernel_rfl) (fun _ _ _ h => h) (Or.inl ⟨by rfl, ?_⟩) (by assumption) ?_
        rotate_left
        · intro w hSw; (try dsimp only at hSw); go_simp; (try with_reducible rfl)
        try simp only [Act.put, List.setIfInBounds_toArray]
        refine wpAnyL_take (i := 1) (v := ?_) rfl (by kernel_rfl) (by kernel_rfl) (by kernel_rfl) (by kernel_rfl) (fun _ _ _ h => h) (Or.inl ⟨by rfl, ?_⟩) (by assumption) ?_
        rotate_left
        · intro w hSw; (try dsimp only at hSw); go_simp; (try with_reducible rfl)
        try simp only [Act.put]
        refine wpAnyL_take (i := 2) (v := ?_) rfl (by kernel_rfl) (by kernel_rfl) (by kernel_rfl) (by kernel_rfl) (fun _ _ _ h => h) (Or.inl ⟨by rfl, ?_⟩) (by assumption) ?_
        rotate_left
        · intro w hSw; (try dsimp only at hSw); go_simp; (try with_reducible rfl)
        try simp only [Act.put]
        refine wpAnyL_take (i := 3) (v := ?_) rfl (by kernel_rfl) (by kernel_rfl) (by kernel_rfl) (by kernel_rfl) (fun _ _ _ h => h) (Or.inl ⟨by rfl, ?_⟩) (by assumption) ?_
        rotate_left
        · intro w hSw; (try dsimp only at hSw); go_simp; (try with_reducible rfl)
        try simp only [Act.put]
        refine wpAnyL_take (i := 4) (v := ?_) rfl (by kernel_rfl) (by kernel_rfl) (by kernel_rfl) (by kernel_rfl) (fun _ _ _ h => h) (Or.inl ⟨by rfl, ?_⟩) (by assumption) ?_
        rotate_left
        · intro w hSw; (try dsimp only at hSw); go_simp; (try with_reducible rfl)
        try simp only [Act.put]
        refine wpAnyL_take (i := 5) (v := ?_) rfl (by kernel_rfl) (by kernel_rfl) (by kernel_rfl) (by kernel_rfl) (fun _ _ _ h => h) (Or.inl ⟨by rfl, ?_⟩) (by assumption) ?_
        rotate_left
        · intro w hSw; (try dsimp only at hSw); go_simp; (try with_reducible rfl)
        try simp only [Act.put]
        refine wpAnyL_take (i := 6) (v := ?_) rfl (by kernel_rfl) (by kernel_rfl) (by kernel_rfl) (by kernel_rfl) (fun _ _ _ h => h) (Or.inl ⟨by rfl, ?_⟩) (by assumption) ?_
        rotate_left
        · intro w hSw; (try dsimp only at hSw); go_simp; (try with_reducible rfl)
        try simp only [Act.put]
        try simp only [List.getElem_toArray, List.getElem_cons_zero, List.getElem_cons_succ, List.setIfInBounds_toArray, List.set_cons_zero, List.set_cons_succ]
        have hbA : Below wr.heap.size wr (wr.drew.alloc (.map #[] 0)) := (below_drewN (Below.refl _ _) 1).alloc (Nat.le_refl _) _
        have hmk := run_makeHint L.length wr.drew
        have hsd : wr.drew.heap.size = wr.heap.size := rfl
        rw [hsd] at hmk
        have hzA := cell_keepK hbA hzc
        have hfA : (wr.drew.alloc (.map #[] 0)).frozen? ⟨gb, i, none⟩ = false := (hbA.frozen (p := ⟨gb, i, none⟩) hgbl).trans fzc
        have hc1A := cell_keepK hbA c1
        generalize wr.drew.alloc (.map #[] 0) = w5 at *
        refine wpAnyL_ready (rs := [7]) (by kernel_rfl) (by simp) ?_
        refine AllReadyL.cons rfl (fun K hK => ?_) AllReadyL.nil
        go_simp
        refine hK.out _ _ hc1A (fun hHeld1 => ?_)
        clear hK K hmk
        try simp only [Act.put, List.setIfInBounds_toArray, List.set_cons_zero, List.set_cons_succ]
        refine wpAnyL_take (i := 8) (v := ?_) rfl (by kernel_rfl) (by kernel_rfl) (by kernel_rfl) (by kernel_rfl) (fun _ _ _ h => h) (Or.inl ⟨by rfl, ?_⟩) (by assumption) ?_
        rotate_left
        · intro w hSw; (try dsimp only at hSw); go_simp; (try with_reducible rfl)
        try simp only [Act.put]
        refine wpAnyL_ready (rs := [9]) (by kernel_rfl) (by simp) ?_
        refine AllReadyL.last rfl (by kernel_rfl) (fun K hK => ?_)
        go_simp
        refine hK.out _ _ ?_
        clear hK K
        try simp only [Act.put, List.setIfInBounds_toArray, List.set_cons_zero, List.set_cons_succ]
        refine wpAnyL_done (by kernel_rfl) ?_ _
        have HZ6 : Hid (w3.heap.size ≤ (w5.setCell ⟨gb, i, none⟩ (.map (some wr.heap.size))).heap.size) := by
          have h1 := hbA.size
          have h2 := HSZ.out
          unfold Hid
          simp
          omega
        clear hHeld hHeld1 hc1A hzA hfA hbA hsd hzc fzc c0 c1 hgbl HSZ
        generalize hwz : wr.heap.size = bm at *
        generalize w5.setCell ⟨gb, i, none⟩ (.map (some bm)) = w6 at *
        clear hwz
        go_wp2
        go_loopw [35] (fun iv ws => ∃ j : Nat, j ≤ L.length ∧ iv = .int .i64 j ∧ SM w.heap.size sb gb (bs.set i (some bm)) ((newN n l i).set i (some (L.take j))) fs (.slice (some ⟨tb, 0, none⟩) 0 n) [] tagm ws ∧ (∀ k, wc.heap.size ≤ k → k < w3.heap.size → ws.heap[k]? = w3.heap[k]?) ∧ w3.heap.size ≤ ws.heap.size ∧ Below w.heap.size w ws) (fun iv _ => L.length - (intOf iv).toNat)
        case atStart => exact ⟨0, Nat.zero_le _, rfl, HMm.out, fun k h1 h2 => (HKm.out k h1 h2).2, HZ6.out, HBm.out⟩
        case round =>
          clear HMm HBm HZ6
          obtain ⟨j, hj', rfl, hMj, hkj, hzj, hbj⟩ := hrel
          by_cases hjt : j < L.length
          · have hjl : (j : Int) < (L.length : Int) := by omega
            have hbn3 := (World.ownsRow.lt HOW.out.1 bn rfl).2
            have cx : wr.cell? ⟨bn, j, none⟩ = some (.int .i64 L[j]) := by
              rw [World.cell?_of_block (a := ⟨bn, j, none⟩) (hkj bn HOW.out.2 hbn3), World.ownsRow.cellAt HOW.out.1 j (by omega), List.getElem?_map, List.getElem?_eq_getElem hjt]
              rfl
            have hib : i < bs.length := by have h1 := hMj.nm.len; rw [List.length_set, List.length_set, newN_len] at h1; omega
            have hat : (bs.set i (some bm))[i]? = some (some bm) := List.getElem?_set_self hib
            obtain ⟨S0, hS0, hSM0⟩ := hMj.nm.holds hat
            rw [List.getElem?_set_self (by rw [newN_len]; exact hlt)] at hS0
            simp only [Option.some.injEq] at hS0
            subst hS0
            obtain ⟨w7, hrs, hSM7, ht7⟩ := hSM0.store (by rw [List.length_take]; unfold maxLen; omega) (HLW.out L[j] (List.getElem_mem hjt))
            rw [grow_set HLN.out hjt] at hSM7
            have hM7 := hMj.turn hat ht7 hSM7
            rw [List.set_set] at hM7
            have ctab := hMj.row
            rw [List.length_set, newN_len] at ctab
            have ccell : wr.cell? ⟨gb, i, none⟩ = some (.map (some bm)) := hMj.nm.row.cell (by rw [List.getElem?_map, hat]; rfl)
            have HM7 : Hid (SM w.heap.size sb gb (bs.set i (some bm)) ((newN n l i).set i (some (L.take (j + 1)))) fs (.slice (some ⟨tb, 0, none⟩) 0 n) [] tagm w7) := hM7
            have HK7 : Hid ((∀ k, wc.heap.size ≤ k → k < w3.heap.size → w7.heap[k]? = w3.heap[k]?) ∧ w3.heap.size ≤ w7.heap.size ∧ Below w.heap.size w w7) := ⟨fun k h1 h2 => (turned_other ht7 (fun e => by have h3 := (HKm.out k h1 h2).1; have h4 := hMj.tm i bm hat; rw [e] at h3; omega)).trans (hkj k h1 h2), by rw [turned_size ht7]; exact hzj, turned_below hbj ht7 (hMj.lm i bm hat)⟩
            generalize L[j] = x at *
            clear hMj hkj hzj hbj hSM0 hSM7 ht7 hM7 hat
            go_wp2
            exact ⟨⟨j + 1, hjt, by go_num, HM7.out, HK7.out.1, HK7.out.2.1, HK7.out.2.2⟩, by simp [intOf]; omega⟩
          · have hjl : ¬ (j : Int) < (L.length : Int) := by omega
            have hj2 : j = L.length := by omega
            rw [hj2, List.take_length] at hMj
            have hfl := file_sm w.heap.size sb i gb _ _ fs _ [] tagm L (List.getElem?_set_self (by rw [newN_len]; exact hlt)) wr hMj (Nat.le_trans hbj.size (Nat.le_refl _)) (fun L' hL' => by rw [HFS.out] at hL'; have := (HF1.out.2 L' hL').1; omega)
            have HKJ : Hid ((∀ k, wc.heap.size ≤ k → k < w3.heap.size → wr.heap[k]? = w3.heap[k]?) ∧ w3.heap.size ≤ wr.heap.size ∧ Below w.heap.size w wr) := ⟨hkj, hzj, hbj⟩
            clear hMj hkj hzj hbj hj2
            go_wp2_with fail
            refine hfl.mono ?_
            clear hfl
            rintro e w8 ⟨rfl, ⟨fs8, tag8, hfs8, hM8, hk8⟩, hb8⟩
            have HFIN : Hid (NewI w.heap.size sb gb n (.slice (some ⟨tb, 0, none⟩) 0 n) (newN n l (i + 1)) (newF l (i + 1)) wc.heap.size w w3 w8) := by
              refine ⟨_, fs8, tag8, by rw [hfs8, HNF.out, HFS.out], by rw [← HNS.out]; exact hM8, fun k h1 h2 => ?_, Nat.le_trans HKJ.out.2.1 hb8.size, newN_len _ _ _, HKJ.out.2.2.trans hb8⟩
              have h3 := hk8 k (Nat.lt_of_lt_of_le h2 HKJ.out.2.1) (HKm.out k h1 h2).1
              exact ⟨h3.1, h3.2.trans (HKJ.out.1 k h1 h2)⟩
            clear hfs8 hM8 hk8 hb8
            go_wp2
            exact ⟨⟨i + 1, hlt, by go_num, HFIN.out⟩, by simp [intOf]; omega⟩
      · have hil : ¬ (i : Int) < (n : Int) := by omega
        obtain rfl : i = n := by omega
        obtain ⟨bs, fs, tagi, hfs, hM, hk, hsz, hNl, hbi⟩ := hI
        have HFIN : Hid (SX w.heap.size sb (newN i l i) (newF l i) [] wr ∧ Below w.heap.size w wr) := ⟨⟨gb, bs, fs, _, tagi, hfs, hM⟩, hbi⟩
        clear hfs hM hk hsz hNl hbi
        go_wp2
        go_ret
        exact ⟨sb, rfl, HFIN.out.1, HFIN.out.2⟩
end Go.Proofs.Yteekhofollaooaa
