import Derived.RangeFuncBox
import Derived.RangeFuncNested
import Derived.RangeFuncBound
import Derived.RangeFuncCalls
import Derived.RangeFuncLeaves
import Derived.RangeFuncStops
import Derived.Shelf.Abstract
import Derived.Shelf.RegionOpen
import Derived.Lib.SlKeysI
import Derived.Sort.MapsRangeIn
import Derived.WalkKit
import Derived.OwnWalkIn
import Derived.TacticsInMore
import Derived.LoopNIn
import Derived.LoopIn
import Derived.RegionIn
import Derived.Test.YtjpkojmjiaoifaaGreatZAV
import Derived.Sort.OwnSortedInts
import Derived.Test.YtjpkojmjiaoifaaGreatXCNext
import Derived.Test.YtjpkojmjiaoifaaGreatZAY
namespace Go.Proofs.YtjpkojmjiaoifaaGreat
open Go Go.Proofs Go.RowKit Go.Maps Go.Shelf
attribute [local go_sem] Oper.semAt_some
def bodyPostN (F : Fence) (n : Nat) (P : Program) (fn : Func) (R : Ending → World → Prop) : Exit → Act → World → Prop
  | .normal, a, w | .ret, a, w => LeavesInM F n P fn a.tmps R a.defers .returning w
  | _, _, _ => False
theorem callsIn_of_wp_N {F : Fence} {n : Nat} {P : Program} {f : FuncId} {fn : Func} {c : Code} {args : Array Value} {w : World} {R : Ending → World → Prop}
    (hf : P.funcs[f]? = some fn) (hb : fn.body = some c) (hF : F.fn f)
    (h : c.wpIn F n P (bodyPostN F n P fn R) { tmps := args ++ Array.replicate (fn.ntmps - args.size) undef, defers := [] } w) (hro : F.round = none := by rfl) : CallsIn F n P f args w R :=
  callsIn_of_wp_marks hf hb hF (wpIn_mono h fun e a w hq => by cases e <;> first | exact hq | exact hq.elim) hro
theorem perm_of_same {A B : List Int} (hA : A.Nodup) (hB : B.Nodup) (h : ∀ x, x ∈ A ↔ x ∈ B) : A.Perm B := (List.perm_ext_iff_of_nodup hA hB).2 h
set_option maxRecDepth 100000 in
set_option maxHeartbeats 2000000 in
theorem keys1_in (F : Fence) (n : Nat) (hf : F.fn 78) (hro : F.round = none) (hn : 1 ≤ n) (l Bm b : Nat) (S : List Int) (J Jx : List Int → World → Prop)
    (hY : ∀ pre x W, J pre W → pre.length < S.length → YieldAt F (n - 1) Tryz.prog l #[Value.int .i64 x] W fun e W' =>
      (e = .returned (.bool true) ∧ J (pre ++ [x]) W' ∧ KeepsWalks W W') ∨ (e = .returned (.bool false) ∧ Jx (pre ++ [x]) W'))
    (W : World) (hJ : AbidesFrom W.heap.size J) (hm : W.cell? ⟨Bm, 0, none⟩ = some (.map (some b))) (hM : SetM W b S) (h0 : J [] W) :
    CallsIn F n Tryz.prog 78 #[.func (.yield l) #[] #[], .pointer (some ⟨Bm, 0, none⟩)] W fun e W' => (∃ v, e = .returned v) ∧ ((∃ ss : List Int, ss.Perm S ∧ J ss W') ∨ (∃ pre : List Int, True ∧ Jx pre W')) := by
  obtain ⟨D0, hown, hSn, hSl, hSw, hSh⟩ := hM
  have HSL : Hid (Maps.size D0 = S.length) := hSl
  clear hSl hSw
  refine callsIn_of_wp Tryz.func78 rfl hf ?_ hro
  simp only [Tryz.ntmps78, List.size_toArray, List.length_cons, List.length_nil, Nat.reduceAdd, Nat.reduceSub, Array.replicate_succ, Array.replicate_zero, List.push_toArray, List.append_toArray, List.nil_append, List.cons_append]
  gi_wp2_with (first
    | (gi_at_range; refine wpListIn_range_own _ rfl _ 71 rfl 3 72 keyedI Tryz.underlying71 _ b _ _ rfl hown ?_; intro w0 hrg0 hg0 hs0)
    | gi_in)
  go_frame
  gi_loopw [3] (fun _ wr => ∃ (left : Lit → Bool) (cnt : Nat) (ss : List Int), wr.ranges Tryz.prog 3 unitElem b W.heap.size (Maps.size D0) D0 left cnt ∧ ss.length + cnt ≤ Maps.size D0 ∧ CollectedI D0 left ss ∧ J ss wr)
    (fun _ wr => wr.rangeLeft b W.heap.size)
  case atStart =>
    exact ⟨_, _, [], hrg0, by simp, CollectedI.start D0, hJ [] W w0 none h0 hg0 (fun r e => by cases e)⟩
  case round =>
    obtain ⟨left, cnt, ss, hrg, hcs, hC, hJs⟩ := hrel
    gi_wp2_with (first
      | (gi_at_next; refine wpListIn_next_ranges _ rfl _ rfl 3 keyedI unitElem (Value.int .i64) id (fun key kl hk => by obtain ⟨x, hx, _⟩ := Maps.keyOf_i64 Tryz.underlying3 hk; exact ⟨x, hx⟩) (fun v _ _ => ⟨v, rfl⟩) b W.heap.size _ _ _ _ rfl hrg ?_ ?_)
      | gi_in)
    · intro hc0 hl0
      gi_wp2
      go_end0
      refine ⟨⟨_, rfl⟩, .inl ⟨ss, perm_of_same hC.1 hSn (fun x => ?_), hJs⟩⟩
      rw [← hSh x, hC.2 x, hl0]
      simp
    · intro x c kl yd yp w2 cnt2 hkey hlk hv hat hrg2 hlt hg2 hs2 hen
      obtain ⟨x', ex, rfl, _⟩ := Maps.keyOf_i64 Tryz.underlying3 hkey
      obtain rfl : x = x' := by simpa using ex
      have hJ2 : J ss w2 := hJ ss wr w2 (some W.heap.size) hJs hg2 (fun r e => by cases e; exact ⟨Nat.le_refl _, hrg.iter_walk⟩)
      obtain ⟨fn, tmps, assign, body, hy, hR⟩ := hY ss x w2 hJ2 (by have := HSL.out; omega)
      clear hs2
      gi_wp2
      refine hR.mono ?_
      have hC2 := hC.step hlk hat
      rintro e W3 (⟨rfl, hJ3, hk3⟩ | ⟨rfl, hJx3⟩)
      · gi_wp2
        have hrg3 := hrg2.of_walks hk3
        go_roundw
        case rel => exact ⟨_, cnt2, ss ++ [x], hrg3, by simp; omega, hC2, hJ3⟩
        case measure => rw [hrg3.left_eq, hrg.left_eq]; exact hlt
      · gi_wp2
        refine bodyPost_ret (results_none rfl _ _ _) rfl ?_
        exact ⟨⟨_, rfl⟩, .inr ⟨_, trivial, hJx3⟩⟩
theorem keys_stops (F : Fence) (n : Nat) (hf : F.fn 78) (hro : F.round = none) (hn : 1 ≤ n) (Bm b : Nat) (S : List Int) (w : World) (hBm : Bm < w.heap.size) (hc : w.cell? ⟨Bm, 0, none⟩ = some (.map (some b))) (hM : SetM w b S) :
    SeqStopsK F n Tryz.prog 78 #[.pointer (some ⟨Bm, 0, none⟩)] (fun x : Int => #[Value.int .i64 x]) KeepsWalks (fun ss => ss.Perm S) (fun _ => True) S.length w := fun l J Jx W hW hJ _ hY h0 =>
  keys1_in F n hf hro hn l Bm b S J Jx hY W hJ ((hW.cell (p := ⟨Bm, 0, none⟩) hBm).trans hc) (hM.still (hW.block b hM.lt)) h0
set_option maxRecDepth 100000 in
set_option maxHeartbeats 2000000 in
theorem appSeq_any (n₀ Bm b : Nat) (S : List Int) (hS : S.length ≤ 1000000000) (v0 : Value) (w : World) (h0 : w.ownsRow n₀ 3 1 v0 0 []) (hn : n₀ ≤ w.heap.size) (hBm : Bm < w.heap.size) (hc : w.cell? ⟨Bm, 0, none⟩ = some (.map (some b))) (hM : SetM w b S) :
    Calls Tryz.prog 62 #[v0, .func (.func 78) #[] #[.pointer (some ⟨Bm, 0, none⟩)]] w fun e w' => ∃ (v : Value) (ss : List Int), e = .returned v ∧ ss.Perm S ∧ w'.ownsRow n₀ 3 1 v ss.length (ss.map (Value.int .i64)) ∧ Below n₀ w w' := by
  obtain ⟨p0, c0, rfl⟩ : ∃ p c, v0 = .slice p 0 c := by
    rcases h0.2 with ⟨h, _⟩ | ⟨g, cap, _, h, _⟩
    · exact ⟨_, _, h⟩
    · exact ⟨_, _, h⟩
  obtain ⟨i0, hi, hz0, hz1, hz2⟩ := info_parts infoI
  have hbA : Below w.heap.size w (w.alloc (.cells #[.slice p0 0 c0] 28)) := (Below.refl _ _).alloc (Nat.le_refl _) _
  have hne : 28 ≠ 3 := by decide
  refine (callsIn_wide (n := 4)).1 ?_
  refine callsIn_of_wp_N Tryz.func62 rfl trivial ?_ rfl
  simp only [Tryz.ntmps62, List.size_toArray, List.length_cons, List.length_nil, Nat.reduceAdd, Nat.reduceSub, Array.replicate_succ, Array.replicate_zero, List.push_toArray, List.append_toArray, List.nil_append, List.cons_append]
  gi_wp2
  refine wpIn_rangeFunc_ownG rfl (by omega) (gf := 78) (lb := #[.pointer (some ⟨Bm, 0, none⟩)]) rfl trivial (enters_of Tryz.func78 (by kernel_rfl) rfl)
    (keys_stops Fence.wide _ trivial rfl (by omega) Bm b S w hBm hc hM) walksK_t (fun W l o o' _ h _ hw => KeepsWalks.putObj _ h hw) hbA (fun _ => rfl)
    (fun ss W => (∃ v, Boxed W w.heap.size 28 v ∧ W.ownsRow n₀ 3 1 v ss.length (ss.map (Value.int .i64)) ∧ True) ∧ Below n₀ w W)
    (fun _ _ _ => False)
    (OwnFrom.and (Own.from (holdsRow_own n₀ w.heap.size 28 3 1 (fun ss : List Int => ss.length) (fun ss => ss.map (Value.int .i64)) (fun _ _ => True)) _) (ownFrom_below hn (by simp; omega)))
    (fun c s A B row h _ _ => h.elim)
    ⟨⟨_, Boxed.new w 28 (.slice p0 0 c0), World.ownsRow.alloc h0 _, trivial⟩, hbA.mono hn⟩
    (fun x => { tmps := #[.slice p0 0 c0, .func (.func 78) #[] #[.pointer (some ⟨Bm, 0, none⟩)], .pointer (some ⟨w.heap.size, 0, none⟩), undef, .slice none 0 0, .int .i64 x, .func (.func 78) #[] #[.pointer (some ⟨Bm, 0, none⟩)], .int .i64 x, undef, undef, undef, undef, undef], defers := [] }) ?assign ?body ?done ?stop
  case assign =>
    intro l z W K hK
    gi_wp2
    exact hK
  case body =>
    rintro l pre x W ⟨⟨v, hv, hrow, _⟩, hB2⟩ hpl
    have hnW : n₀ ≤ W.heap.size := Nat.le_trans hn hB2.size
    have hcv := hv.cell
    obtain ⟨pv, mv, cv, rfl⟩ := owns_slice hrow
    have hone : ∀ j u, [Value.int .i64 x][j]? = some u → (W.alloc (.cells #[.int .i64 x] 3)).cell? ((⟨W.heap.size, 0, none⟩ : Addr).add j) = some u := fun j u h => one_cellF W (.int .i64 x) 3 j u h
    gi_wp2_with (first
      | (gi_at_builtin; refine wpListIn_append_own _ rfl _ _ 28 rfl n₀ 3 i0 (.int .i64 0) 1 8 Tryz.underlying28 hi hz0 hz1 hz2 rfl (by decide) _ _ _ rfl (hrow.alloc _) ⟨W.heap.size, 0, none⟩ 1 1 [.int .i64 x] rfl rfl hone (by simp [Value.oneCell']) (by unfold maxLen; omega) (by omega) (by simp; omega) ?_; intro v' w3 hown' hg3 hnil3
         obtain ⟨hv3, hbx, hrx, hkx, hbb⟩ := Boxed.appended hv hne hrow hnW hn hown' hg3
         obtain ⟨g', cap', rfl⟩ := ownsRow_succ hown'
         have hc3 := hv3.cell
         have hf3 := hv3.frozen
         go_frame)
      | gi_in)
    exact ⟨hkx.from _, hkx.walks, ⟨⟨_, hbx, by rw [List.length_append, List.map_append]; exact hrx, trivial⟩, hB2.trans hbb⟩⟩
  case done =>
    rintro D ss W hD hss ⟨⟨v, hv, hrow, _⟩, hB2⟩ hK
    have hcv := hv.cell
    obtain ⟨pv, mv, cv, rfl⟩ := owns_slice hrow
    gi_wp2
    refine ⟨by simp, .inl ⟨_, _, rfl, run_takeDeferred hK, ?_⟩⟩
    have hDn : n₀ ≤ D := by simp at hD; omega
    refine ⟨.slice pv mv cv, by simp [results, Tryz.results62, go_sem], .slice pv mv cv, ss, rfl, hss, ownsRow_putObj hrow (.deferred none) hK rfl, hB2.grown (grownBy_putObj' W D (.deferred none)) (Nat.le_trans hn hB2.size) (fun k e => by cases e; exact hDn)⟩
  case stop =>
    rintro D c pre W hD hpre h hK
    exact h.elim
end Go.Proofs.YtjpkojmjiaoifaaGreat

namespace Go.Proofs.YtjpkojmjiaoifaaGreat
open Go Go.Proofs Go.RowKit Go.Maps Go.Sort
set_option maxRecDepth 100000 in
theorem keys_any (b : Nat) (w : World) :
  Calls Tryz.prog 63 #[.map (some b)] w fun e w' => e = .returned (.func (.func 78) #[] #[.pointer (some ⟨w.heap.size, 0, none⟩)]) ∧ w' = w.alloc (.cells #[.map (some b)] 71) := by
 go_enter Tryz.func63, Tryz.ntmps63
 go_wp2
 go_ret
 exact ⟨rfl, rfl⟩
set_option maxRecDepth 100000 in
set_option maxHeartbeats 8000000 in
theorem nbrs_any (h0 sb k : Nat) (N : List (Option (List Int))) (F : List (List Int)) (st : List StpM) (S : List Int) (hS : N[k]? = some (some S)) (hSl : S.length ≤ 1048576) (w : World) (hX : SX h0 sb N F st w) :
  Calls Tryz.prog 41 #[.pointer (some ⟨sb, 0, none⟩), .int .i64 (k : Int)] w fun e w' => ∃ (sv : Value) (L : List Int), e = .returned sv ∧ L.Perm S ∧ w'.ownsRow w.heap.size 3 1 sv L.length (L.map (Value.int .i64)) ∧ Below w.heap.size w w' := by
 obtain ⟨g, bs, fs, tv, tag, rfl, hM⟩ := hX
 obtain ⟨bk, _, hMk, hc, hkN⟩ := hM.nm.cell hS
 have hkI : (k : Int) < (N.length : Int) := by omega
 have c0 := hM.row
 have HMk : Hid (SetM w bk S) := hMk
 obtain ⟨i0, hi, hz0, hz1, hz2⟩ := info_parts infoI
 clear hM hMk hS
 have hbd : Below w.heap.size w w.drew := below_drewN (Below.refl _ _) 1
 have HST : Hid (∀ W : World, Below w.heap.size w W → W.cell? ⟨sb, 0, none⟩ = some (.slice (some ⟨g, 0, none⟩) N.length N.length) ∧ W.cell? ⟨g, k, none⟩ = some (.map (some bk)) ∧ SetM W bk S) := fun W hW => ⟨cell_keepK hW c0, cell_keepK hW hc, HMk.out.still (hW.block bk HMk.out.lt)⟩
 have HMK : Hid (∀ W : World, w.heap.size ≤ W.heap.size → ∃ W', (Instr.makeSlice 28 (.int .i64 0) (.int .i64 (S.length : Int))).run Tryz.prog W = .ok (.slice (some ⟨W.heap.size, 0, none⟩) 0 S.length) W' ∧ W'.ownsRow w.heap.size 3 1 (.slice (some ⟨W.heap.size, 0, none⟩) 0 S.length) 0 [] ∧ W.grownBy W' none) := fun W hW =>
  run_make_own (P := Tryz.prog) W w.heap.size 28 3 i0 (.int .i64 0) 1 Tryz.underlying28 hi hz0 hz1 .i64 .i64 S.length (by rw [hz2]; omega) (by unfold maxLen; omega) hW
 go_enter Tryz.func41, Tryz.ntmps41
 go_wp2_with fail
 refine wp_region_held_drew (S := (fun w' : World => w'.cell? ⟨sb, 0, none⟩ = some (.slice (some ⟨g, 0, none⟩) N.length N.length) ∧ w'.cell? ⟨g, k, none⟩ = some (.map (some bk)) ∧ SetM w' bk S)) (by kernel_rfl) ⟨c0, hc, HMk.out.still rfl⟩ (fun hHeld => ?_)
 refine wpAnyH_take (i := 0) (v := ?_) rfl (by kernel_rfl) (by kernel_rfl) (by kernel_rfl) (fun _ _ _ h => h) (Or.inl ⟨by rfl, ?_⟩) (by assumption) ?_
 rotate_left
 ·intro w hSw; (try dsimp only at hSw); go_simp; (try with_reducible rfl)
 try simp only [Act.put, List.setIfInBounds_toArray]
 refine wpAnyH_take (i := 1) (v := ?_) rfl (by kernel_rfl) (by kernel_rfl) (by kernel_rfl) (fun _ _ _ h => h) (Or.inl ⟨by rfl, ?_⟩) (by assumption) ?_
 rotate_left
 ·intro w hSw; (try dsimp only at hSw); go_simp; (try with_reducible rfl)
 try simp only [Act.put]
 refine wpAnyH_take (i := 2) (v := ?_) rfl (by kernel_rfl) (by kernel_rfl) (by kernel_rfl) (fun _ _ _ h => h) (Or.inl ⟨by rfl, ?_⟩) (by assumption) ?_
 rotate_left
 ·intro w hSw; (try dsimp only at hSw); go_simp; (try with_reducible rfl)
 try simp only [Act.put]
 refine wpAnyH_take (i := 3) (v := ?_) rfl (by kernel_rfl) (by kernel_rfl) (by kernel_rfl) (fun _ _ _ h => h) (Or.inl ⟨by rfl, ?_⟩) (by assumption) ?_
 rotate_left
 ·intro w hSw; (try dsimp only at hSw); go_simp; (try with_reducible rfl)
 try simp only [Act.put]
 refine wpAnyH_take (i := 4) (v := ?_) rfl (by kernel_rfl) (by kernel_rfl) (by kernel_rfl) (fun _ _ _ h => h) (Or.inl ⟨by rfl, ?_⟩) (by assumption) ?_
 rotate_left
 ·intro w hSw; (try dsimp only at hSw); go_simp; (try with_reducible rfl)
 try simp only [Act.put]
 refine wpAnyH_take (i := 5) (v := ?_) rfl (by kernel_rfl) (by kernel_rfl) (by kernel_rfl) (fun _ _ _ h => h) (Or.inl ⟨by rfl, ?_⟩) (by assumption) ?_
 rotate_left
 ·intro w hSw; (try dsimp only at hSw); go_simp; (try with_reducible rfl)
 try simp only [Act.put]
 refine wpAnyH_take (i := 6) (v := ?_) rfl (by kernel_rfl) (by kernel_rfl) (by kernel_rfl) (fun _ _ _ h => h) (Or.inl ⟨by rfl, ?_⟩) (by assumption) ?_
 rotate_left
 ·intro w hSw; (try dsimp only at hSw); go_simp; (try with_reducible rfl)
 try simp only [Act.put]
 try simp only [List.getElem_toArray, List.getElem_cons_zero, List.getElem_cons_succ, List.setIfInBounds_toArray, List.set_cons_zero, List.set_cons_succ]
 refine wpAnyH_take (i := 7) (v := .int .i64 (S.length : Int)) rfl (by kernel_rfl) (by kernel_rfl) (by kernel_rfl) (fun _ _ _ h => h) (Or.inl ⟨by rfl, ?_⟩) (by assumption) ?_
 ·intro w hSw
  have hrl := hSw.2.2.len 3
  go_simp
 try simp only [Act.put]
 try simp only [List.getElem_toArray, List.getElem_cons_zero, List.getElem_cons_succ, List.setIfInBounds_toArray, List.set_cons_zero, List.set_cons_succ]
 refine wpAnyH_take (i := 9) (v := ?_) rfl (by kernel_rfl) (by kernel_rfl) (by kernel_rfl) (fun _ _ _ h => h) (Or.inl ⟨by rfl, ?_⟩) (by assumption) ?_
 rotate_left
 ·intro w hSw; (try dsimp only at hSw); go_simp; (try with_reducible rfl)
 try simp only [Act.put]
 refine wpAnyH_take (i := 10) (v := ?_) rfl (by kernel_rfl) (by kernel_rfl) (by kernel_rfl) (fun _ _ _ h => h) (Or.inl ⟨by rfl, ?_⟩) (by assumption) ?_
 rotate_left
 ·intro w hSw; (try dsimp only at hSw); go_simp; (try with_reducible rfl)
 try simp only [Act.put]
 refine wpAnyH_take (i := 11) (v := ?_) rfl (by kernel_rfl) (by kernel_rfl) (by kernel_rfl) (fun _ _ _ h => h) (Or.inl ⟨by rfl, ?_⟩) (by assumption) ?_
 rotate_left
 ·intro w hSw; (try dsimp only at hSw); go_simp; (try with_reducible rfl)
 try simp only [Act.put]
 refine wpAnyH_take (i := 12) (v := ?_) rfl (by kernel_rfl) (by kernel_rfl) (by kernel_rfl) (fun _ _ _ h => h) (Or.inl ⟨by rfl, ?_⟩) (by assumption) ?_
 rotate_left
 ·intro w hSw; (try dsimp only at hSw); go_simp; (try with_reducible rfl)
 try simp only [Act.put]
 refine wpAnyH_take (i := 13) (v := ?_) rfl (by kernel_rfl) (by kernel_rfl) (by kernel_rfl) (fun _ _ _ h => h) (Or.inl ⟨by rfl, ?_⟩) (by assumption) ?_
 rotate_left
 ·intro w hSw; (try dsimp only at hSw); go_simp; (try with_reducible rfl)
 try simp only [Act.put]
 refine wpAnyH_take (i := 14) (v := ?_) rfl (by kernel_rfl) (by kernel_rfl) (by kernel_rfl) (fun _ _ _ h => h) (Or.inl ⟨by rfl, ?_⟩) (by assumption) ?_
 rotate_left
 ·intro w hSw; (try dsimp only at hSw); go_simp; (try with_reducible rfl)
 try simp only [Act.put]
 refine wpAnyH_take (i := 15) (v := ?_) rfl (by kernel_rfl) (by kernel_rfl) (by kernel_rfl) (fun _ _ _ h => h) (Or.inl ⟨by rfl, ?_⟩) (by assumption) ?_
 rotate_left
 ·intro w hSw; (try dsimp only at hSw); go_simp; (try with_reducible rfl)
 try simp only [Act.put]
 try simp only [List.getElem_toArray, List.getElem_cons_zero, List.getElem_cons_succ, List.setIfInBounds_toArray, List.set_cons_zero, List.set_cons_succ]
 clear c0 hc
 refine wpAnyH_ready (rs := [8, 16]) (by kernel_rfl) (by simp) ?_
 refine AllReadyH.cons rfl (fun K hK => ?_) (AllReadyH.cons rfl (fun K hK => ?_) AllReadyH.nil)
 ·obtain ⟨w1, hr1, ho1, hg1⟩ := HMK.out w.drew hbd.size
  have hb1 : Below w.heap.size w w1 := hbd.grown hg1 hbd.size (fun k e => by cases e)
  go_simp
  refine hK.out _ _ (HST.out _ hb1) (fun hHeld1 => ?_)
  clear hK K hr1 hg1
  try simp only [Act.put, List.setIfInBounds_toArray, List.set_cons_zero, List.set_cons_succ]
  have HB1 : Hid (Below w.heap.size w w1) := hb1
  have HO1 : Hid (w1.ownsRow w.heap.size 3 1 (.slice (some ⟨w.heap.size, 0, none⟩) 0 S.length) 0 []) := ho1
  have HBX : Hid (Boxed (w1.alloc (.cells #[.map (some bk)] 71)) w1.heap.size 71 (.map (some bk))) := Boxed.new w1 _ _
  clear hb1 ho1 hHeld hHeld1
  refine wpAnyH_ready (rs := [16]) (by kernel_rfl) (by simp) ?_
  refine AllReadyH.cons rfl (fun K hK => ?_) AllReadyH.nil
  go_simp
  refine (keys_any bk w1).mono ?_
  rintro e w2 ⟨rfl, rfl⟩
  refine hK.out _ _ (HST.out _ (HB1.out.alloc HB1.out.size _)) (fun hHeld2 => ?_)
  clear hK K
  try simp only [Act.put, List.setIfInBounds_toArray, List.set_cons_zero, List.set_cons_succ]
  have HS2 : Hid _ := hHeld2.2.2
  clear hHeld2
  refine wpAnyH_ready (rs := [17]) (by kernel_rfl) (by simp) ?_
  refine AllReadyH.cons rfl (fun K hK => ?_) AllReadyH.nil
  go_simp
  refine (appSeq_any w.heap.size w1.heap.size bk S (by omega) _ _ (World.ownsRow.alloc HO1.out _) (Below.size (HB1.out.alloc HB1.out.size (.cells #[.map (some bk)] 71))) (Boxed.lt HBX.out) (Boxed.cell HBX.out) HS2.out).mono ?_
  rintro e w3 ⟨v3, L3, rfl, hp3, ho3, hb3⟩
  have HB3 : Hid (Below w.heap.size w w3) := Below.trans (HB1.out.alloc HB1.out.size (.cells #[.map (some bk)] 71)) hb3
  have HO3 : Hid (w3.ownsRow w.heap.size 3 1 v3 L3.length (L3.map (Value.int .i64))) := ho3
  have HP3 : Hid (L3.Perm S) := hp3
  clear hb3 ho3 hp3
  refine hK.out _ _ (HST.out _ HB3.out) (fun hHeld3 => ?_)
  clear hK K
  try simp only [Act.put, List.setIfInBounds_toArray, List.set_cons_zero, List.set_cons_succ]
  refine wpAnyH_take (i := 18) (v := ?_) rfl (by kernel_rfl) (by kernel_rfl) (by kernel_rfl) (fun _ _ _ h => h) (Or.inl ⟨by rfl, ?_⟩) (by assumption) ?_
  rotate_left
  ·intro w hSw; (try dsimp only at hSw); go_simp; (try with_reducible rfl)
  try simp only [Act.put]
  refine wpAnyH_done (by kernel_rfl) ?_ _
  clear hHeld3 HS2 HBX HST HMK hbd
  rcases HO3.out.2 with ⟨rfl, hz⟩ | ⟨g3, cap3, cur3, rfl, hbase, hblk, h1, h2, h3, h4⟩
  ·have HE : Hid (L3.length = 0) := hz
   clear hz
   go_wp2_with fail
   refine (Tryz.slices_Sort_int_none none 0 w3).mono ?_
   rintro e w4 ⟨rfl, rfl⟩
   go_wp2
   go_ret
   exact ⟨_, L3, rfl, HP3.out, HO3.out, HB3.out⟩
  ·have hgl := (Array.getElem?_eq_some_iff.1 hblk).1
   have hLb : L3.length ≤ 1048576 := by have := HP3.out.length_eq; omega
   have hso := Tryz.slices_Sort_int g3 0 cap3 L3 w3 (holds_of_blockI hblk (by simpa using h4)) hgl (by omega)
   have HRW : Hid (w.heap.size ≤ g3 ∧ w3.heap[g3]? = some (.cells cur3 3 (0, 0)) ∧ L3.length ≤ cap3 ∧ cap3 ≤ maxLen ∧ cur3.size = cap3 * 1) := ⟨hbase, hblk, h1, h2, h3⟩
   clear hbase hblk h1 h2 h3 h4 HO3
   go_wp2_with fail
   refine hso.mono ?_
   clear hso
   rintro e w4 ⟨rfl, nn, os, hw4⟩
   have HO4 : Hid (w4.ownsRow w.heap.size 3 1 (.slice (some ⟨g3, 0, none⟩) L3.length cap3) L3.length ((sortL L3).map (Value.int .i64))) := by
    rw [hw4]
    exact ownsRow_sortedI (ss := L3) (ts := sortL L3) (sortL_len L3) HRW.out.1 HRW.out.2.1 HRW.out.2.2.1 HRW.out.2.2.2.1 HRW.out.2.2.2.2
   have hg4 : w3.grownBy w4 (some g3) := by
    rw [hw4]
    exact grownBy_sortedI _
   have HB4 : Hid (Below w.heap.size w w4) := HB3.out.grown hg4 HB3.out.size (fun q e => by cases e; exact HRW.out.1)
   clear hw4 hg4
   go_wp2
   go_ret
   exact ⟨_, sortL L3, rfl, (sortL_perm L3).trans HP3.out, by rw [sortL_len]; exact HO4.out, HB4.out⟩
 ·go_simp
  refine (keys_any bk w.drew).mono ?_
  rintro e w1 ⟨rfl, rfl⟩
  have HB1 : Hid (Below w.heap.size w (w.drew.alloc (.cells #[.map (some bk)] 71))) := hbd.alloc (Nat.le_refl _) _
  have HBX1 : Hid (Boxed (w.drew.alloc (.cells #[.map (some bk)] 71)) w.heap.size 71 (.map (some bk))) := Boxed.new w.drew _ _
  refine hK.out _ _ (HST.out _ HB1.out) (fun hHeld1 => ?_)
  clear hK K hHeld1 hHeld
  try simp only [Act.put, List.setIfInBounds_toArray, List.set_cons_zero, List.set_cons_succ]
  obtain ⟨w2, hr2, ho2, hg2⟩ := HMK.out (w.drew.alloc (.cells #[.map (some bk)] 71)) HB1.out.size
  have HB2 : Hid (Below w.heap.size w w2) := HB1.out.grown hg2 HB1.out.size (fun k e => by cases e)
  have HBX : Hid (Boxed w2 w.heap.size 71 (.map (some bk))) := Boxed.kept HBX1.out hg2 (by simp)
  have HO2 : Hid (w2.ownsRow w.heap.size 3 1 (.slice (some ⟨(w.drew.alloc (.cells #[.map (some bk)] 71)).heap.size, 0, none⟩) 0 S.length) 0 []) := ho2
  clear HBX1 ho2 hg2
  generalize (w.drew.alloc (.cells #[.map (some bk)] 71)) = w1 at *
  refine wpAnyH_ready (rs := [8]) (by kernel_rfl) (by simp) ?_
  refine AllReadyH.cons rfl (fun K hK => ?_) AllReadyH.nil
  go_simp
  refine hK.out _ _ (HST.out _ HB2.out) (fun hHeld2 => ?_)
  clear hK K hr2
  try simp only [Act.put, List.setIfInBounds_toArray, List.set_cons_zero, List.set_cons_succ]
  have HS2 : Hid _ := hHeld2.2.2
  clear hHeld2
  refine wpAnyH_ready (rs := [17]) (by kernel_rfl) (by simp) ?_
  refine AllReadyH.cons rfl (fun K hK => ?_) AllReadyH.nil
  go_simp
  refine (appSeq_any w.heap.size w.heap.size bk S (by omega) _ _ HO2.out (Below.size HB2.out) (Boxed.lt HBX.out) (Boxed.cell HBX.out) HS2.out).mono ?_
  rintro e w3 ⟨v3, L3, rfl, hp3, ho3, hb3⟩
  have HB3 : Hid (Below w.heap.size w w3) := Below.trans HB2.out hb3
  have HO3 : Hid (w3.ownsRow w.heap.size 3 1 v3 L3.length (L3.map (Value.int .i64))) := ho3
  have HP3 : Hid (L3.Perm S) := hp3
  clear hb3 ho3 hp3
  refine hK.out _ _ (HST.out _ HB3.out) (fun hHeld3 => ?_)
  clear hK K
  try simp only [Act.put, List.setIfInBounds_toArray, List.set_cons_zero, List.set_cons_succ]
  refine wpAnyH_take (i := 18) (v := ?_) rfl (by kernel_rfl) (by kernel_rfl) (by kernel_rfl) (fun _ _ _ h => h) (Or.inl ⟨by rfl, ?_⟩) (by assumption) ?_
  rotate_left
  ·intro w hSw; (try dsimp only at hSw); go_simp; (try with_reducible rfl)
  try simp only [Act.put]
  refine wpAnyH_done (by kernel_rfl) ?_ _
  clear hHeld3 HS2 HBX HST HMK hbd
  rcases HO3.out.2 with ⟨rfl, hz⟩ | ⟨g3, cap3, cur3, rfl, hbase, hblk, h1, h2, h3, h4⟩
  ·have HE : Hid (L3.length = 0) := hz
   clear hz
   go_wp2_with fail
   refine (Tryz.slices_Sort_int_none none 0 w3).mono ?_
   rintro e w4 ⟨rfl, rfl⟩
   go_wp2
   go_ret
   exact ⟨_, L3, rfl, HP3.out, HO3.out, HB3.out⟩
  ·have hgl := (Array.getElem?_eq_some_iff.1 hblk).1
   have hLb : L3.length ≤ 1048576 := by have := HP3.out.length_eq; omega
   have hso := Tryz.slices_Sort_int g3 0 cap3 L3 w3 (holds_of_blockI hblk (by simpa using h4)) hgl (by omega)
   have HRW : Hid (w.heap.size ≤ g3 ∧ w3.heap[g3]? = some (.cells cur3 3 (0, 0)) ∧ L3.length ≤ cap3 ∧ cap3 ≤ maxLen ∧ cur3.size = cap3 * 1) := ⟨hbase, hblk, h1, h2, h3⟩
   clear hbase hblk h1 h2 h3 h4 HO3
   go_wp2_with fail
   refine hso.mono ?_
   clear hso
   rintro e w4 ⟨rfl, nn, os, hw4⟩
   have HO4 : Hid (w4.ownsRow w.heap.size 3 1 (.slice (some ⟨g3, 0, none⟩) L3.length cap3) L3.length ((sortL L3).map (Value.int .i64))) := by
    rw [hw4]
    exact ownsRow_sortedI (ss := L3) (ts := sortL L3) (sortL_len L3) HRW.out.1 HRW.out.2.1 HRW.out.2.2.1 HRW.out.2.2.2.1 HRW.out.2.2.2.2
   have hg4 : w3.grownBy w4 (some g3) := by
    rw [hw4]
    exact grownBy_sortedI _
   have HB4 : Hid (Below w.heap.size w w4) := HB3.out.grown hg4 HB3.out.size (fun q e => by cases e; exact HRW.out.1)
   clear hw4 hg4
   go_wp2
   go_ret
   exact ⟨_, sortL L3, rfl, (sortL_perm L3).trans HP3.out, by rw [sortL_len]; exact HO4.out, HB4.out⟩
end Go.Proofs.YtjpkojmjiaoifaaGreat

namespace Go.Proofs.YtjpkojmjiaoifaaGreat
open Go Go.Proofs Go.RowKit Go.Maps
theorem wf_nat {k : Nat} (h : k ≤ 1099511627776) : (Lit.int .i64 (k : Int)).wf = true := by
 have h1 : IntKind.i64.min = -9223372036854775808 := by decide
 have h2 : IntKind.i64.max = 9223372036854775807 := by decide
 simp only [Lit.wf, h1, h2, Bool.and_eq_true, decide_eq_true_eq]
 omega
theorem infoStp : (Tryz.prog.info? 74).map (fun i => (i.zero, i.size, i.bytes)) = some (some (.agg #[.int .i64 0, .slice none 0 0, .int .i64 0]), 3, 40) := by kernel_rfl
theorem owns_mono {W : World} {base base' : Nat} {e : TypeId} {size : Nat} {v : Value} {n : Nat} {xs : List Value} (h : W.ownsRow base e size v n xs) (hb : base' ≤ base) : W.ownsRow base' e size v n xs := by
 obtain ⟨h1, h2⟩ := h
 refine ⟨h1, ?_⟩
 rcases h2 with h2 | ⟨g, cap, cur, hv, hg, r⟩
 ·exact .inl h2
 ·exact .inr ⟨g, cap, cur, hv, Nat.le_trans hb hg, r⟩
theorem cells_three {W : World} {e : TypeId} {b : Nat} {x y z : Value} (h : Blk e W b [x, y, z]) : ∀ j u, [x, y, z][j]? = some u → W.cell? ((⟨b, 0, none⟩ : Addr).add j) = some u := by
 intro j u hu
 match j, hu with
 | 0, hu => exact h.cell (j := 0) hu
 | 1, hu => exact h.cell (j := 1) hu
 | 2, hu => exact h.cell (j := 2) hu
 | j + 3, hu => simp at hu
def drop1 (v : Int) (q : List (Option (List Int)) × List (List Int)) (u : Int) : List (Option (List Int)) × List (List Int) := (q.1.set u.toNat (some ((nbN q.1 u).erase v)), fileF q.2 ((nbN q.1 u).erase v).length u)
def dropQ (v : Int) (L : List Int) (N : List (Option (List Int))) (F : List (List Int)) : List (Option (List Int)) × List (List Int) := L.foldl (drop1 v) (N.set v.toNat none, F)
theorem drop1_len (v : Int) (q : List (Option (List Int)) × List (List Int)) (u : Int) : (drop1 v q u).1.length = q.1.length := by unfold drop1; simp
theorem dropF_len (v : Int) : ∀ (L : List Int) (q : List (Option (List Int)) × List (List Int)), (L.foldl (drop1 v) q).1.length = q.1.length
 | [], _ => rfl
 | u :: L, q => by rw [List.foldl_cons, dropF_len v L, drop1_len]
theorem drop1_some (v : Int) {q : List (Option (List Int)) × List (List Int)} {j : Nat} {T : List Int} (u : Int) (h : q.1[j]? = some (some T)) : ∃ T', (drop1 v q u).1[j]? = some (some T') := by
 unfold drop1
 by_cases e : u.toNat = j
 ·have hj := (List.getElem?_eq_some_iff.1 h).1
  subst e
  exact ⟨_, List.getElem?_set_self hj⟩
 ·exact ⟨T, by rw [List.getElem?_set_ne e]; exact h⟩
theorem dropF_some (v : Int) {j : Nat} : ∀ (L : List Int) (q : List (Option (List Int)) × List (List Int)) {T : List Int}, q.1[j]? = some (some T) → ∃ T', (L.foldl (drop1 v) q).1[j]? = some (some T')
 | [], _, T, h => ⟨T, h⟩
 | u :: L, q, T, h => by
  obtain ⟨T', h'⟩ := drop1_some v u h
  exact dropF_some v L _ h'
theorem dropF_take (v : Int) (L : List Int) (q : List (Option (List Int)) × List (List Int)) {i : Nat} (h : i < L.length) : (L.take (i + 1)).foldl (drop1 v) q = drop1 v ((L.take i).foldl (drop1 v) q) L[i] := by
 rw [List.take_add_one, List.getElem?_eq_getElem h, List.foldl_append]
 rfl
theorem dropF_fv (v : Int) {n : Nat} : ∀ (L : List Int) (q : List (Option (List Int)) × List (List Int)) {m : Nat}, (∀ u ∈ L, ∃ k : Nat, u = (k : Int) ∧ k < n) → FV n m q.2 → FV n (m + L.length) (L.foldl (drop1 v) q).2
 | [], _, _, _, h => h
 | u :: L, q, m, hu, h => by
  obtain ⟨k, rfl, hk⟩ := hu u List.mem_cons_self
  rw [List.foldl_cons, List.length_cons, Nat.add_comm L.length 1, ← Nat.add_assoc]
  exact dropF_fv v L _ (fun x hx => hu x (List.mem_cons_of_mem _ hx)) (h.file hk)
end Go.Proofs.YtjpkojmjiaoifaaGreat
