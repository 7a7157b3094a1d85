/-
  The contract of slices.Backward at a list of uint32 cells that the loop's body writes: each loop over it visits the indices len-1 .. 0, with whatever stands there.
-/
import Derived.Test.YtkalknmindgljaaDoorRangeLib
namespace Go.Proofs.YtkalknmindgljaaDoor
open Go Go.Proofs Go.RowKit Go.Shelf

attribute [local go_sem] Oper.semAt_some

/-- The closure's own block lies as it lay; block b is a row of len numbers still. -/
def KeepW (t : TypeId) (len b c : Nat) (W W' : World) : Prop := W'.heap[c]? = W.heap[c]? ∧ ((∃ zs : List Int, Row .u32 t W b zs ∧ zs.length = len) → ∃ zs : List Int, Row .u32 t W' b zs ∧ zs.length = len)
theorem KeepW.refl (t : TypeId) (len b c : Nat) (W : World) : KeepW t len b c W W := ⟨rfl, id⟩
theorem KeepW.trans {t : TypeId} {len b c : Nat} {A B C : World} (h : KeepW t len b c A B) (k : KeepW t len b c B C) : KeepW t len b c A C := ⟨k.1.trans h.1, fun hz => k.2 (h.2 hz)⟩
theorem keepW_t {t : TypeId} {len b c : Nat} {A B C : World} (h : KeepW t len b c A B) (k : KeepW t len b c B C) : KeepW t len b c A C := h.trans k
theorem keepW_b {t : TypeId} {len b c : Nat} {w : World} (hb : b < w.heap.size) (hc : c < w.heap.size) (W : World) (l : Nat) (o o' : Obj) (hl : w.heap.size ≤ l) (h : W.heap[l]? = some o) (h1 : o.isCells = false) (h2 : o.isWalk = false) : KeepW t len b c W (W.putObj l o') :=
  have hB := belowK_b (n₀ := w.heap.size) (Nat.le_refl _) W l o o' hl h h1 h2
  ⟨hB.block c hc, fun ⟨zs, hz, hl⟩ => ⟨zs, (hB.block b hb).trans hz, hl⟩⟩
theorem KeepW.cell2 {t : TypeId} {len b c : Nat} {A B : World} (h : KeepW t len b c A B) (o : Nat) : B.cell? ⟨c, o, none⟩ = A.cell? ⟨c, o, none⟩ := World.cell?_of_block (w := A) h.1

set_option maxRecDepth 100000 in
set_option maxHeartbeats 2000000 in
theorem back1w_in (F : Fence) (n : Nat) (hf : F.fn 58) (hro : F.round = none) (hn : 1 ≤ n) (l Bs b len cap : Nat) (hlen : 0 < len) (hreach : len * 4 ≤ 140737488351232) (J Jx : List (Fin len × Int) → World → Prop)
    (hY : ∀ pre x W, J pre W → pre.length < len → YieldAt F (n - 1) Tryd.prog l #[.int .i64 ((x : Fin len × Int).1.1 : Int), .int .u32 x.2] W fun e W' =>
      (e = .returned (.bool true) ∧ J (pre ++ [x]) W' ∧ KeepW 42 len b Bs W W') ∨ (e = .returned (.bool false) ∧ Jx (pre ++ [x]) W'))
    (W : World) (hBs : W.cell? ⟨Bs, 0, none⟩ = some (.slice (some ⟨b, 0, none⟩) len cap)) (hc : ∃ zs, Row .u32 42 W b zs ∧ zs.length = len) (h0 : J [] W) :
    CallsIn F n Tryd.prog 58 #[.func (.yield l) #[] #[], .pointer (some ⟨Bs, 0, none⟩)] W fun e W' => (∃ v, e = .returned v) ∧
      ((∃ ys : List (Fin len × Int), ys.map Prod.fst = upto (fun j => down len j hlen) len ∧ J ys W') ∨ (∃ pre : List (Fin len × Int), (∃ k, k ≤ len ∧ pre.map Prod.fst = upto (fun j => down len j hlen) k) ∧ Jx pre W')) := by
  refine callsIn_of_wp Tryd.func58 rfl hf ?_ hro
  simp only [Tryd.ntmps58, List.size_toArray, List.length_cons, List.length_nil, Nat.reduceAdd, Nat.reduceSub, Array.replicate_succ, Array.replicate_zero, List.push_toArray, List.append_toArray, List.nil_append, List.cons_append]
  gi_wp2
  gi_loopw [3] (fun i wr => ∃ (k : Nat) (ys : List (Fin len × Int)), k ≤ len ∧ i = .int .i64 ((len : Int) - 1 - k) ∧ ys.map Prod.fst = upto (fun j => down len j hlen) k ∧ J ys wr ∧ KeepW 42 len b Bs W wr)
    (fun i _ => (intOf i + 1).toNat)
  case atStart => exact ⟨0, [], Nat.zero_le _, by simp, rfl, h0, KeepW.refl _ _ _ _ _⟩
  case round =>
    obtain ⟨k, ys, hk, rfl, hys, hJs, hnx⟩ := hrel
    have hyl : ys.length = k := by have := congrArg List.length hys; rwa [List.length_map, upto_length] at this
    by_cases hlt : k < len
    · obtain ⟨z1, hz1, hzl1⟩ := hnx.2 hc
      obtain ⟨m, hm⟩ : ∃ m : Nat, m = len - 1 - k := ⟨_, rfl⟩
      have em : ((len : Int) - 1 - k) = (m : Int) := by omega
      obtain ⟨fn, tmps, assign, body, hy, hR⟩ := hY _ (down len k hlen, nth z1 m) wr hJs (by rw [hyl]; exact hlt)
      have hcx : wr.cell? ⟨b, m, none⟩ = some (.int .u32 (nth z1 m)) := hz1.cell (by omega)
      have hbx := (hnx.cell2 0).trans hBs
      have ed : (down len k hlen).1 = m := by simp [down, hm]
      dsimp only at hy
      rw [ed] at hy
      rw [em]
      have HM : Hid (m = len - 1 - k) := hm
      have HY : Hid (ys.map Prod.fst = upto (fun j => down len j hlen) k) := hys
      have hml : m < len := by omega
      clear hm em ed hys hyl hzl1 hz1 hc
      gi_wp2
      refine hR.mono ?_
      rintro e W3 (⟨rfl, hJ3, hk3⟩ | ⟨rfl, hJx3⟩)
      · gi_wp2
        have := HM.out
        go_roundw
        case rel => exact ⟨k + 1, _, by omega, by go_num, by rw [upto_succ, List.map_append, HY.out]; rfl, hJ3, hnx.trans hk3⟩
        case measure => simp [intOf]
      · gi_wp2
        refine bodyPost_ret (results_none rfl _ _ _) rfl ?_
        exact ⟨⟨_, rfl⟩, .inr ⟨_, ⟨k + 1, by omega, by rw [upto_succ, List.map_append, HY.out]; rfl⟩, hJx3⟩⟩
    · obtain rfl : k = len := by omega
      have em : ((k : Int) - 1 - k) = -1 := by omega
      rw [em]
      have HY : Hid (ys.map Prod.fst = upto (fun j => down k j hlen) k) := hys
      clear hys
      gi_wp2
      go_end0
      exact ⟨⟨_, rfl⟩, .inl ⟨_, HY.out, hJs⟩⟩

/-- slices.Backward(s) hands back an iterator over all indices from the last on, or over some first of them. -/
theorem backw_stops (F : Fence) (n : Nat) (hf : F.fn 58) (hro : F.round = none) (hn : 1 ≤ n) (Bs b len cap : Nat) (hlen : 0 < len) (hreach : len * 4 ≤ 140737488351232) (w : World) (hBs : Bs < w.heap.size) (hb : b < w.heap.size)
    (hc : w.cell? ⟨Bs, 0, none⟩ = some (.slice (some ⟨b, 0, none⟩) len cap)) (hI : ∃ zs, Row .u32 42 w b zs ∧ zs.length = len) :
    SeqStopsK F n Tryd.prog 58 #[.pointer (some ⟨Bs, 0, none⟩)] (fun x : Fin len × Int => #[Value.int .i64 (x.1.1 : Int), Value.int .u32 x.2]) (KeepW 42 len b Bs) (fun ys => ys.map Prod.fst = downs len)
      (fun pre => pre.map Prod.fst <+: downs len) len w := fun l J Jx W hW _ _ hY h0 => by
  have hc' := (hW.cell (p := ⟨Bs, 0, none⟩) hBs).trans hc
  obtain ⟨zs, hr, hl⟩ := hI
  refine (back1w_in F n hf hro hn l Bs b len cap hlen hreach J Jx hY W hc' ⟨zs, hr.below hW hb, hl⟩ h0).mono ?_
  rintro e W' ⟨he, ⟨ys, hys, hj⟩ | ⟨pre, ⟨k, hk, hp⟩, hj⟩⟩
  · exact ⟨he, .inl ⟨ys, by show ys.map Prod.fst = _; rw [hys, upto_downs _ _ _ (Nat.le_refl _), List.take_of_length_le (by simp [downs])], hj⟩⟩
  · exact ⟨he, .inr ⟨pre, by show pre.map Prod.fst <+: _; rw [hp, upto_downs _ _ _ hk]; exact List.take_prefix _ _, hj⟩⟩

end Go.Proofs.YtkalknmindgljaaDoor
