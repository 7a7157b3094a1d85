import Derived.Test.YtalflecmadacaaaGreatZAS
import Derived.Test.YtalflecmadacaaaGreatZAV
set_option maxRecDepth 100000
set_option maxHeartbeats 8000000
namespace Go.Proofs.YtalflecmadacaaaGreat
open Go Go.Proofs Go.RowKit
theorem after_any (L : List Int) (k : Nat) (hk : k < L.length) (hL : L.length ≤ 4194304) (sv : Value) (m : Nat) (w : World) (h : Ints m w sv L) :
  Calls Tryz.prog 154 #[sv, .int .i64 (k : Int)] w fun r w' => r = .returned (.int .i64 (aft L k)) ∧ w' = w := by
 obtain ⟨p, c, rfl⟩ := h.len
 obtain ⟨b, off, rfl, hbb, hcap, hc⟩ := h.open hk
 by_cases he : k + 1 = L.length
 ·have c0 := hc w (Below.refl _ _) 0 (by omega)
  rw [Nat.add_zero] at c0
  have hE : aft L k = L[0]'(by omega) := by
   unfold aft
   rw [if_pos he, List.getD_eq_getElem?_getD, List.getElem?_eq_getElem (by omega)]
   rfl
  have he' : ((k : Int) == (L.length : Int) - 1) = true := by
   rw [beq_iff_eq]; omega
  have h0 : (0 : Int) < (L.length : Int) := by omega
  rw [hE]
  generalize L[0] = x at *
  clear hE he hc
  go_enter Tryz.func154, Tryz.ntmps154
  go_wp2
  go_ret
  exact ⟨rfl, rfl⟩
 ·have c0 := hc w (Below.refl _ _) (k + 1) (by omega)
  have hE : aft L k = L[k + 1]'(by omega) := by
   unfold aft
   rw [if_neg he, List.getD_eq_getElem?_getD, List.getElem?_eq_getElem (by omega)]
   rfl
  have he' : ((k : Int) == (L.length : Int) - 1) = false := by
   rw [beq_eq_false_iff_ne]; omega
  have h0 : (k : Int) + 1 < (L.length : Int) := by omega
  rw [hE]
  generalize L[k + 1] = x at *
  clear hE he hc
  go_enter Tryz.func154, Tryz.ntmps154
  go_wp2
  go_ret
  exact ⟨rfl, rfl⟩
def rowE (L : List Int) (v : Int) (k : Nat) : List (Dt × Dt) := (List.range k).map fun i => ((L.getD i 0, v), (v, aft L i))
theorem rowE_succ (L : List Int) (v : Int) (k : Nat) : rowE L v (k + 1) = rowE L v k ++ [((L.getD k 0, v), (v, aft L k))] := by
 unfold rowE
 rw [List.range_succ, List.map_append]
 rfl
def behL (r : List (List Int)) (j : Nat) : List (Dt × Dt) := (List.range j).flatMap fun (v : Nat) => rowE (r.getD v []) (v : Int) (r.getD v []).length
theorem behL_succ (r : List (List Int)) (j : Nat) : behL r (j + 1) = behL r j ++ rowE (r.getD j []) (j : Int) (r.getD j []).length := by
 unfold behL
 rw [List.range_succ, List.flatMap_append]
 simp
theorem beh_new {r : List (List Int)} {j k : Nat} (hn : (r.getD j []).Nodup) (hk : k < (r.getD j []).length) : ∀ p ∈ behL r j ++ rowE (r.getD j []) (j : Int) k, p.1 ≠ ((r.getD j []).getD k 0, (j : Int)) := by
 intro p hp e
 rcases List.mem_append.1 hp with h | h
 ·unfold behL at h
  obtain ⟨v, hv, h⟩ := List.mem_flatMap.1 h
  unfold rowE at h
  obtain ⟨i, _, rfl⟩ := List.mem_map.1 h
  have := congrArg Prod.snd e
  simp only at this
  have := List.mem_range.1 hv
  omega
 ·unfold rowE at h
  obtain ⟨i, hi, rfl⟩ := List.mem_map.1 h
  have hi' := List.mem_range.1 hi
  have e1 := congrArg Prod.fst e
  simp only at e1
  clear h hp e
  generalize r.getD j [] = X at *
  have g1 : X.getD i 0 = X[i]'(by omega) := by rw [List.getD_eq_getElem?_getD, List.getElem?_eq_getElem (by omega)]; rfl
  have g2 : X.getD k 0 = X[k] := by rw [List.getD_eq_getElem?_getD, List.getElem?_eq_getElem hk]; rfl
  rw [g1, g2] at e1
  have := (List.getElem_inj hn).1 e1
  omega
theorem wpList_putD (w : World) {ops : Array Oper} {rest : List Oper} {o : Oper} {a : Act} {Q : Exit → Act → World → Prop}
  (hg : o.guard = none) (m x v : Operand) (hop : o.op = Op.mapUpdate 148 m x v) (M : Nat) (L : List (Dt × Dt)) (d e : Dt)
  (hm : a.eval m = .map (some M)) (h : MapD w M L) (hd : ∀ p ∈ L, p.1 ≠ d) (hx : a.eval x = encD d) (hv : a.eval v = encD e)
  (hK : ∀ w', MapD w' M (L ++ [(d, e)]) → w.grownBy w' (some M) → wpList Tryz.prog ops Q rest (a.put o.dst undef) w') :
  wpList Tryz.prog ops Q (o :: rest) a w := by
 refine wpList_plain hg fun K' hK' => ?_
 obtain ⟨w', hrun, r1, r2⟩ := h.update hd e
 unfold Oper.wp
 simp [execOp, hop, hm, hx, hv, hrun, Result.andThen]
 exact hK' _ _ (hK w' r1 r2)
theorem behindEach_any (r : List (List Int)) (hr : r.length ≤ 4194304) (hin : ∀ x ∈ r, x.length ≤ 4194304 ∧ x.Nodup) (sz : Nat) (sv : Value) (w : World) (h : Lsts w.heap.size w sv r) :
  Calls Tryz.prog 124 #[sv, .int .i64 (sz : Int)] w fun e w' => e = .returned (.map (some w.heap.size)) ∧ MapD w' w.heap.size (behL r r.length) ∧ Below w.heap.size w w' := by
 obtain ⟨p, c, rfl⟩ := h.len
 have hmm : (Instr.makeMap 148 (some (.int .i64 (sz : Int)))).run Tryz.prog w = .ok (.map (some w.heap.size)) (w.alloc (.map #[] 0)) := by
  simp [Instr.makeMap, run_underlying Tryz.underlying148, asInt]
  rfl
 have hM0 := MapD.start w
 have hbA : Below w.heap.size w (w.alloc (.map #[] 0)) := (Below.refl _ _).alloc (Nat.le_refl _) _
 go_enter Tryz.func124, Tryz.ntmps124
 go_wp2
 obtain ⟨m, hm⟩ : ∃ m, m = w.heap.size := ⟨_, rfl⟩
 rw [← hm] at hM0 hbA ⊢
 have HM : Hid (m = w.heap.size) := hm
 have hR0 : Lsts m w (.slice p r.length c) r := by rw [hm]; exact h
 clear hm h
 generalize w.alloc (.map #[] 0) = w1 at *
 go_loopw [14] (fun iv wr => ∃ j : Nat, j ≤ r.length ∧ iv = .int .i64 j ∧ Hid (MapD wr m (behL r j)) ∧ Below m w wr) (fun i _ => r.length - (intOf i).toNat)
 case atStart => exact ⟨0, Nat.zero_le _, rfl, hM0, hbA⟩
 case round =>
  obtain ⟨j, hj, rfl, HMj, hb⟩ := hrel
  by_cases hlt : j < r.length
  ·have hjl : (j : Int) < (r.length : Int) := by omega
   have hRj := hR0.below hb
   obtain ⟨b, off, rfl, hbb, hcap, px, cx, hIx, c0⟩ := hRj.cellAt hlt
   obtain ⟨hxl, hxn⟩ := hin r[j] (List.getElem_mem hlt)
   have hg : r.getD j [] = r[j] := by rw [List.getD_eq_getElem?_getD, List.getElem?_eq_getElem hlt]; rfl
   have HNX : Hid (behL r (j + 1) = behL r j ++ rowE r[j] (j : Int) r[j].length) := by rw [Hid, behL_succ, hg]
   have HNW : Hid (∀ k, k < r[j].length → ∀ q ∈ behL r j ++ rowE r[j] (j : Int) k, q.1 ≠ (r[j].getD k 0, (j : Int))) := fun k hk => by
    have := beh_new (r := r) (j := j) (k := k) (by rw [hg]; exact hxn) (by rw [hg]; exact hk)
    rw [hg] at this
    exact this
   clear hg
   generalize r[j] = X at *
   generalize wr = w4 at *
   go_wp2
   go_loopw [21] (fun iv wx => ∃ k : Nat, k ≤ X.length ∧ iv = .int .i64 k ∧ Hid (MapD wx m (behL r j ++ rowE X (j : Int) k)) ∧ Below m w4 wx) (fun i _ => X.length - (intOf i).toNat)
   case atStart => exact ⟨0, Nat.zero_le _, rfl, by unfold Hid rowE; simpa using HMj.out, Below.refl _ _⟩
   case round =>
    obtain ⟨k, hk, rfl, HMk, hbk⟩ := hrel
    by_cases hkl : k < X.length
    ·have hkl' : (k : Int) < (X.length : Int) := by omega
     have hIk := hIx.below hbk
     obtain ⟨b2, off2, hpx, hbb2, hcap2, hc2⟩ := hIk.open hkl
     have c2 := hc2 wr (Below.refl _ _) k hkl
     have hxe : X[k] = X.getD k 0 := by rw [List.getD_eq_getElem?_getD, List.getElem?_eq_getElem hkl]; rfl
     have haf := after_any X k hkl hxl _ _ _ hIk
     have HRS : Hid (rowE X (j : Int) (k + 1) = rowE X (j : Int) k ++ [((X[k], (j : Int)), ((j : Int), aft X k))]) := by rw [Hid, rowE_succ, hxe]
     have hnw := HNW.out k hkl
     rw [← hxe] at hnw
     have HNK : Hid _ := hnw
     subst hpx
     clear hxe hnw hc2 hIk
     generalize X[k] = x at *
     generalize aft X k = y at *
     go_wp2_with fail
     refine haf.mono ?_
     clear haf
     rintro e w9 ⟨rfl, rfl⟩
     have hMk := HMk.out
     have hnk := HNK.out
     go_wp2_with (at_mapUpdate; refine wpList_putD _ rfl _ _ _ rfl m (behL r j ++ rowE X (j : Int) k) (x, (j : Int)) ((j : Int), y) rfl hMk hnk rfl rfl ?_; intro w5 hM5 hg5)
     have HM5 : Hid (MapD w5 m (behL r j ++ rowE X (j : Int) (k + 1))) := by rw [Hid, HRS.out, ← List.append_assoc]; exact hM5
     have hb5 : Below m w4 w5 := hbk.grown hg5 (by have := hbk.size; have := hMk.lt; omega) (fun q e => by cases e; exact Nat.le_refl _)
     clear hM5 hg5 hMk hnk HMk HNK
     go_wp2
     exact ⟨⟨k + 1, by omega, by go_num, HM5, hb5⟩, by simp [intOf]; omega⟩
    ·obtain rfl : k = X.length := by omega
     have hkl' : ¬ (X.length : Int) < (X.length : Int) := by omega
     go_wp2
     exact ⟨⟨j + 1, by omega, by go_num, by rw [HNX.out]; exact HMk.out, hb.trans hbk⟩, by simp [intOf]; omega⟩
  ·obtain rfl : j = r.length := by omega
   have hjl : ¬ (r.length : Int) < (r.length : Int) := by omega
   go_wp2
   go_ret
   exact ⟨by rw [HM.out]; rfl, by rw [← HM.out]; exact HMj.out, by rw [← HM.out]; exact hb⟩
end Go.Proofs.YtalflecmadacaaaGreat
