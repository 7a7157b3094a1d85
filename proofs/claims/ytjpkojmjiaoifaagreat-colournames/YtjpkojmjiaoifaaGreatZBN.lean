import Derived.Laws.StructEq
import Derived.Maps.OwnSet
import Derived.Test.YtjpkojmjiaoifaaGreatZAY
import Derived.Test.YtjpkojmjiaoifaaGreatZAB
import Derived.Test.YtjpkojmjiaoifaaGreatZAG
import Derived.Test.YtjpkojmjiaoifaaGreatZAV
import Derived.Test.YtjpkojmjiaoifaaGreatXRNear
namespace Go.Proofs.YtjpkojmjiaoifaaGreat
open Go Go.Proofs Go.RowKit
def encD (d : Dt) : Value := .agg #[.int .i64 d.1, .int .i64 d.2]
theorem eqD_run (a b : Dt) (w : World) : (Op.equal 84 (encD a) (encD b)).run Tryz.prog w = .ok (decide (a = b)) w := by
 have u3 := Tryz.underlying3
 have a3 := Tryz.isAgg3
 have z3 := Tryz.sizeOf3
 have hS : Tryz.prog.underlying 84 = some (.struct (Tryz.prog.fieldsOf 84)) := by kernel_rfl
 have hp : Tryz.prog.stoodInHeld 84 = false := by kernel_rfl
 show (Op.equalIn (9999 + 1) 84 (.agg #[.int .i64 a.1, .int .i64 a.2]) (.agg #[.int .i64 b.1, .int .i64 b.2])).run Tryz.prog w = _
 rw [run_equalIn_struct w 9999 84 _ _ hS hp]
 simp only [Program.fieldsOf, Tryz.underlying84]
 go_simp
 obtain ⟨x0, x1⟩ := a
 obtain ⟨y0, y1⟩ := b
 by_cases h0 : x0 = y0 <;> by_cases h1 : x1 = y1 <;> simp [h0, h1]
theorem checkD (w : World) (em : Bool) (d : Dt) : (Instr.checkKey em 10000 84 (encD d)).run Tryz.prog w = .ok () w := by
 have u3 := Tryz.underlying3
 have a3 := Tryz.isAgg3
 have z3 := Tryz.sizeOf3
 have hd : ∀ k : Nat, (Instr.checkKey em (k + 1 + 1) 84 (encD d)).run Tryz.prog w = .ok () w := fun k => by
  simp [Instr.checkKey, encD, run_underlying Tryz.underlying84, run_underlying Tryz.underlying3]
  go_simp
 exact hd 9998
theorem askD {d : Dt} {w : World} : ∀ (es : List MapEntry) (L : List (Dt × Dt)) (i : Nat), es.map (fun e => (e.key, e.val)) = L.map (fun p => (encD p.1, encD p.2)) →
  (Instr.findAsking 84 (encD d) es i).run Tryz.prog w = .ok ((L.findIdx? fun p => decide (d = p.1)).map fun k => (i + k, encD (L.getD k ((0, 0), (0, 0))).2)) w
 | [], [], i, _ => by simp [Instr.findAsking]
 | [], p :: L, i, h => by simp at h
 | e :: es, [], i, h => by simp at h
 | e :: es, p :: L, i, h => by
  rw [List.map_cons, List.map_cons, List.cons.injEq, Prod.mk.injEq] at h
  obtain ⟨⟨h1, h2⟩, h3⟩ := h
  have ih := askD (d := d) (w := w) es L (i + 1) h3
  unfold Instr.findAsking
  rw [h1, List.findIdx?_cons]
  by_cases hd : d = p.1
  ·simp [eqD_run, hd, h2]
  ·simp only [Sem.run_bind, eqD_run, decide_eq_false hd, Result.andThen_ok, Bool.false_eq_true, if_false, ih]
   congr 1
   cases L.findIdx? fun p => decide (d = p.1) with
   | none => rfl
   | some k =>
    simp only [Option.map_some, Option.some.injEq, Prod.mk.injEq, List.getD_cons_succ, and_true]
    omega
theorem findD {d : Dt} {w : World} {es : List MapEntry} {L : List (Dt × Dt)} (h : es.map (fun e => (e.key, e.val)) = L.map (fun p => (encD p.1, encD p.2))) :
  (Instr.findKey 84 (encD d) es).run Tryz.prog w = .ok ((L.findIdx? fun p => decide (d = p.1)).map fun k => (k, encD (L.getD k ((0, 0), (0, 0))).2)) w := by
 have ha := askD (d := d) (w := w) es L 0 h
 simp only [Nat.zero_add] at ha
 cases es with
 | nil =>
  cases L with
  | nil => simp [Instr.findKey, run_underlying Tryz.underlying84, Instr.findNow]
  | cons p L => simp at h
 | cons e es =>
  cases L with
  | nil => simp at h
  | cons p L =>
   rw [List.map_cons, List.map_cons, List.cons.injEq, Prod.mk.injEq] at h
   simp [Instr.findKey, run_underlying Tryz.underlying84, Instr.findNow, Instr.sameNow, encD, h.1.1]
   exact ha
theorem map_er {α β : Type} (f : α → β) : ∀ (l : List α) (k : Nat), (l.eraseIdx k).map f = (l.map f).eraseIdx k
 | [], _ => by simp
 | x :: l, 0 => by simp
 | x :: l, k + 1 => by simp [map_er f l k]
def MapD (w : World) (m : Nat) (L : List (Dt × Dt)) : Prop := ∃ es ck, w.heap[m]? = some (.map es ck) ∧ es.toList.map (fun e => (e.key, e.val)) = L.map (fun p => (encD p.1, encD p.2))
theorem MapD.lt {w : World} {m : Nat} {L : List (Dt × Dt)} (h : MapD w m L) : m < w.heap.size := by
 obtain ⟨es, ck, h1, _⟩ := h
 exact (Array.getElem?_eq_some_iff.1 h1).1
theorem MapD.keep {w w' : World} {m : Nat} {L : List (Dt × Dt)} (h : MapD w m L) (hb : w'.heap[m]? = w.heap[m]?) : MapD w' m L := by
 obtain ⟨es, ck, h1, h2⟩ := h
 exact ⟨es, ck, hb.trans h1, h2⟩
theorem MapD.start (w : World) : MapD (w.alloc (.map #[] 0)) w.heap.size [] := ⟨#[], 0, (MapKept.heap_alloc w _).1, rfl⟩
def lkD (L : List (Dt × Dt)) (d : Dt) : Option Dt := (L.find? fun p => decide (d = p.1)).map (·.2)
theorem MapD.lookup {w : World} {m : Nat} {L : List (Dt × Dt)} (h : MapD w m L) (d : Dt) :
  (Instr.lookup 118 (.map (some m)) (encD d) true).run Tryz.prog w = .ok (.tuple #[encD ((lkD L d).getD (0, 0)), .bool (lkD L d).isSome]) w := by
 obtain ⟨es, ck, h1, h2⟩ := h
 have hf := findD (d := d) (w := w) h2
 have e1 : (L.findIdx? fun p => decide (d = p.1)).isSome = (lkD L d).isSome := by
  unfold lkD
  rw [Option.isSome_map, List.findIdx?_isSome, Bool.eq_iff_iff, List.find?_isSome, List.any_eq_true]
 have e2 : ∀ k, (L.findIdx? fun p => decide (d = p.1)) = some k → lkD L d = some (L.getD k ((0, 0), (0, 0))).2 := fun k hk => by
  obtain ⟨hlt, hp, hno⟩ := List.findIdx?_eq_some_iff_getElem.1 hk
  unfold lkD
  have e : (L.find? fun p => decide (d = p.1)) = some L[k] := List.find?_eq_some_iff_getElem.2 ⟨hp, k, hlt, rfl, fun j hj => by simpa using hno j hj⟩
  rw [e]
  simp [hlt]
 cases hk : L.findIdx? fun p => decide (d = p.1) with
 | none =>
  rw [hk] at hf e1
  have e3 : lkD L d = none := by
   cases hl : lkD L d with
   | none => rfl
   | some x => rw [hl] at e1; cases e1
  simp [Instr.lookup, run_underlying Tryz.underlying118, MapKept.run_getObj_map h1, checkD, hf, e3]
  rfl
 | some k =>
  rw [hk] at hf
  have e3 := e2 k hk
  simp [Instr.lookup, run_underlying Tryz.underlying118, MapKept.run_getObj_map h1, checkD, hf, e3]
theorem MapD.update {w : World} {m : Nat} {L : List (Dt × Dt)} (h : MapD w m L) {d : Dt} (hd : ∀ p ∈ L, p.1 ≠ d) (e : Dt) :
  ∃ w', (Instr.mapUpdate 118 (.map (some m)) (encD d) (encD e)).run Tryz.prog w = .ok () w' ∧ MapD w' m (L ++ [(d, e)]) ∧ w.grownBy w' (some m) := by
 obtain ⟨es, ck, h1, h2⟩ := h
 have hf := findD (d := d) (w := w) h2
 have hno : (L.findIdx? fun p => decide (d = p.1)) = none := by
  rw [List.findIdx?_eq_none_iff]
  intro p hp
  have := hd p hp
  simp
  exact fun e => this e.symm
 rw [hno] at hf
 have hlt := (Array.getElem?_eq_some_iff.1 h1).1
 refine ⟨{ w with heap := w.heap.setIfInBounds m (.map (es.push { key := encD d, val := encD e, born := ck }) (ck + 1)) }, ?_, ⟨es.push { key := encD d, val := encD e, born := ck }, ck + 1, by simp [hlt], ?_⟩, ⟨rfl, rfl, rfl, by simp, fun i _ hi => ?_⟩⟩
 ·simp [Instr.mapUpdate, run_underlying Tryz.underlying118, MapKept.run_getObj_map h1, checkD, hf, MapKept.run_setObj_map _ h1]
 ·rw [Array.toList_push, List.map_append, h2, List.map_append]
  rfl
 ·have : m ≠ i := fun e => hi (by rw [e])
  simp [this]
theorem MapD.delete {w : World} {m : Nat} {L : List (Dt × Dt)} (h : MapD w m L) (d : Dt) (ty : TypeId) :
  ∃ w', (Builtin.delete_ #[118, 84] ty #[.map (some m), encD d]).run Tryz.prog w = .ok (.tuple #[]) w' ∧ MapD w' m (L.eraseP fun p => decide (d = p.1)) ∧ w.grownBy w' (some m) := by
 obtain ⟨es, ck, h1, h2⟩ := h
 have hf := findD (d := d) (w := w) h2
 have hlt := (Array.getElem?_eq_some_iff.1 h1).1
 rw [List.eraseP_eq_eraseIdx]
 cases hk : L.findIdx? fun p => decide (d = p.1) with
 | none =>
  rw [hk] at hf
  refine ⟨{ w with heap := w.heap.setIfInBounds m (.map es ck) }, ?_, ⟨es, ck, by simp [hlt], h2⟩, ⟨rfl, rfl, rfl, by simp, fun i _ hi => ?_⟩⟩
  ·simp [Builtin.delete_, run_underlying Tryz.underlying118, MapKept.run_getObj_map h1, checkD, hf, MapKept.run_setObj_map _ h1]
  ·have : m ≠ i := fun e => hi (by rw [e])
   simp [this]
 | some k =>
  rw [hk] at hf
  refine ⟨{ w with heap := w.heap.setIfInBounds m (.map (es.eraseIdxIfInBounds k) ck) }, ?_, ⟨es.eraseIdxIfInBounds k, ck, by simp [hlt], ?_⟩, ⟨rfl, rfl, rfl, by simp, fun i _ hi => ?_⟩⟩
  ·simp [Builtin.delete_, run_underlying Tryz.underlying118, MapKept.run_getObj_map h1, checkD, hf, MapKept.run_setObj_map _ h1]
  ·rw [Array.toList_eraseIdxIfInBounds, map_er, h2, map_er]
  ·have : m ≠ i := fun e => hi (by rw [e])
   simp [this]
end Go.Proofs.YtjpkojmjiaoifaaGreat

namespace Go.Proofs.YtjpkojmjiaoifaaGreat
open Go Go.Proofs Go.RowKit
set_option maxRecDepth 100000 in
set_option maxHeartbeats 2000000 in
theorem after_any (L : List Int) (k : Nat) (hk : k < L.length) (hL : L.length ≤ 4194304) (sv : Value) (m : Nat) (w : World) (h : Ints m w sv L) :
  Calls Tryz.prog 89 #[sv, .int .i64 (k : Int)] w fun r w' => r = .returned (.int .i64 (aft L k)) ∧ w' = w := by
 obtain ⟨p, c, rfl⟩ := h.len
 obtain ⟨b, off, rfl, hbb, hcap, hc⟩ := h.open hk
 by_cases he : k + 1 = L.length
 ·have c0 := hc w (Below.refl _ _) 0 (by omega)
  rw [Nat.add_zero] at c0
  have hE : aft L k = L[0]'(by omega) := by
   unfold aft
   rw [if_pos he, List.getD_eq_getElem?_getD, List.getElem?_eq_getElem (by omega)]
   rfl
  have he' : ((k : Int) == (L.length : Int) - 1) = true := by
   rw [beq_iff_eq]; omega
  have h0 : (0 : Int) < (L.length : Int) := by omega
  rw [hE]
  generalize L[0] = x at *
  clear hE he hc
  go_enter Tryz.func89, Tryz.ntmps89
  go_wp2
  go_ret
  exact ⟨rfl, rfl⟩
 ·have c0 := hc w (Below.refl _ _) (k + 1) (by omega)
  have hE : aft L k = L[k + 1]'(by omega) := by
   unfold aft
   rw [if_neg he, List.getD_eq_getElem?_getD, List.getElem?_eq_getElem (by omega)]
   rfl
  have he' : ((k : Int) == (L.length : Int) - 1) = false := by
   rw [beq_eq_false_iff_ne]; omega
  have h0 : (k : Int) + 1 < (L.length : Int) := by omega
  rw [hE]
  generalize L[k + 1] = x at *
  clear hE he hc
  go_enter Tryz.func89, Tryz.ntmps89
  go_wp2
  go_ret
  exact ⟨rfl, rfl⟩
def rowE (L : List Int) (v : Int) (k : Nat) : List (Dt × Dt) := (List.range k).map fun i => ((L.getD i 0, v), (v, aft L i))
theorem rowE_succ (L : List Int) (v : Int) (k : Nat) : rowE L v (k + 1) = rowE L v k ++ [((L.getD k 0, v), (v, aft L k))] := by
 unfold rowE
 rw [List.range_succ, List.map_append]
 rfl
def behL (r : List (List Int)) (j : Nat) : List (Dt × Dt) := (List.range j).flatMap fun (v : Nat) => rowE (r.getD v []) (v : Int) (r.getD v []).length
theorem behL_succ (r : List (List Int)) (j : Nat) : behL r (j + 1) = behL r j ++ rowE (r.getD j []) (j : Int) (r.getD j []).length := by
 unfold behL
 rw [List.range_succ, List.flatMap_append]
 simp
theorem beh_new {r : List (List Int)} {j k : Nat} (hn : (r.getD j []).Nodup) (hk : k < (r.getD j []).length) : ∀ p ∈ behL r j ++ rowE (r.getD j []) (j : Int) k, p.1 ≠ ((r.getD j []).getD k 0, (j : Int)) := by
 intro p hp e
 rcases List.mem_append.1 hp with h | h
 ·unfold behL at h
  obtain ⟨v, hv, h⟩ := List.mem_flatMap.1 h
  unfold rowE at h
  obtain ⟨i, _, rfl⟩ := List.mem_map.1 h
  have := congrArg Prod.snd e
  simp only at this
  have := List.mem_range.1 hv
  omega
 ·unfold rowE at h
  obtain ⟨i, hi, rfl⟩ := List.mem_map.1 h
  have hi' := List.mem_range.1 hi
  have e1 := congrArg Prod.fst e
  simp only at e1
  clear h hp e
  generalize r.getD j [] = X at *
  have g1 : X.getD i 0 = X[i]'(by omega) := by rw [List.getD_eq_getElem?_getD, List.getElem?_eq_getElem (by omega)]; rfl
  have g2 : X.getD k 0 = X[k] := by rw [List.getD_eq_getElem?_getD, List.getElem?_eq_getElem hk]; rfl
  rw [g1, g2] at e1
  have := (List.getElem_inj hn).1 e1
  omega
theorem wpList_putD (w : World) {ops : Array Oper} {rest : List Oper} {o : Oper} {a : Act} {Q : Exit → Act → World → Prop}
  (hg : o.guard = none) (m x v : Operand) (hop : o.op = Op.mapUpdate 118 m x v) (M : Nat) (L : List (Dt × Dt)) (d e : Dt)
  (hm : a.eval m = .map (some M)) (h : MapD w M L) (hd : ∀ p ∈ L, p.1 ≠ d) (hx : a.eval x = encD d) (hv : a.eval v = encD e)
  (hK : ∀ w', MapD w' M (L ++ [(d, e)]) → w.grownBy w' (some M) → wpList Tryz.prog ops Q rest (a.put o.dst undef) w') :
  wpList Tryz.prog ops Q (o :: rest) a w := by
 refine wpList_plain hg fun K' hK' => ?_
 obtain ⟨w', hrun, r1, r2⟩ := h.update hd e
 unfold Oper.wp
 simp [execOp, hop, hm, hx, hv, hrun, Result.andThen]
 exact hK' _ _ (hK w' r1 r2)
set_option maxRecDepth 100000 in
set_option maxHeartbeats 4000000 in
theorem behindEach_any (r : List (List Int)) (hr : r.length ≤ 4194304) (hin : ∀ x ∈ r, x.length ≤ 4194304 ∧ x.Nodup) (sz : Nat) (sv : Value) (w : World) (h : Lsts w.heap.size w sv r) :
  Calls Tryz.prog 76 #[sv, .int .i64 (sz : Int)] w fun e w' => e = .returned (.map (some w.heap.size)) ∧ MapD w' w.heap.size (behL r r.length) ∧ Below w.heap.size w w' := by
 obtain ⟨p, c, rfl⟩ := h.len
 have hmm : (Instr.makeMap 118 (some (.int .i64 (sz : Int)))).run Tryz.prog w = .ok (.map (some w.heap.size)) (w.alloc (.map #[] 0)) := by
  simp [Instr.makeMap, run_underlying Tryz.underlying118, asInt]
  rfl
 have hM0 := MapD.start w
 have hbA : Below w.heap.size w (w.alloc (.map #[] 0)) := (Below.refl _ _).alloc (Nat.le_refl _) _
 go_enter Tryz.func76, Tryz.ntmps76
 go_wp2
 obtain ⟨m, hm⟩ : ∃ m, m = w.heap.size := ⟨_, rfl⟩
 rw [← hm] at hM0 hbA ⊢
 have HM : Hid (m = w.heap.size) := hm
 have hR0 : Lsts m w (.slice p r.length c) r := by rw [hm]; exact h
 clear hm h
 generalize w.alloc (.map #[] 0) = w1 at *
 go_loopw [14] (fun iv wr => ∃ j : Nat, j ≤ r.length ∧ iv = .int .i64 j ∧ Hid (MapD wr m (behL r j)) ∧ Below m w wr) (fun i _ => r.length - (intOf i).toNat)
 case atStart => exact ⟨0, Nat.zero_le _, rfl, hM0, hbA⟩
 case round =>
  obtain ⟨j, hj, rfl, HMj, hb⟩ := hrel
  by_cases hlt : j < r.length
  ·have hjl : (j : Int) < (r.length : Int) := by omega
   have hRj := hR0.below hb
   obtain ⟨b, off, rfl, hbb, hcap, px, cx, hIx, c0⟩ := hRj.cellAt hlt
   obtain ⟨hxl, hxn⟩ := hin r[j] (List.getElem_mem hlt)
   have hg : r.getD j [] = r[j] := by rw [List.getD_eq_getElem?_getD, List.getElem?_eq_getElem hlt]; rfl
   have HNX : Hid (behL r (j + 1) = behL r j ++ rowE r[j] (j : Int) r[j].length) := by rw [Hid, behL_succ, hg]
   have HNW : Hid (∀ k, k < r[j].length → ∀ q ∈ behL r j ++ rowE r[j] (j : Int) k, q.1 ≠ (r[j].getD k 0, (j : Int))) := fun k hk => by
    have := beh_new (r := r) (j := j) (k := k) (by rw [hg]; exact hxn) (by rw [hg]; exact hk)
    rw [hg] at this
    exact this
   clear hg
   generalize r[j] = X at *
   generalize wr = w4 at *
   go_wp2
   go_loopw [21] (fun iv wx => ∃ k : Nat, k ≤ X.length ∧ iv = .int .i64 k ∧ Hid (MapD wx m (behL r j ++ rowE X (j : Int) k)) ∧ Below m w4 wx) (fun i _ => X.length - (intOf i).toNat)
   case atStart => exact ⟨0, Nat.zero_le _, rfl, by unfold Hid rowE; simpa using HMj.out, Below.refl _ _⟩
   case round =>
    obtain ⟨k, hk, rfl, HMk, hbk⟩ := hrel
    by_cases hkl : k < X.length
    ·have hkl' : (k : Int) < (X.length : Int) := by omega
     have hIk := hIx.below hbk
     obtain ⟨b2, off2, hpx, hbb2, hcap2, hc2⟩ := hIk.open hkl
     have c2 := hc2 wr (Below.refl _ _) k hkl
     have hxe : X[k] = X.getD k 0 := by rw [List.getD_eq_getElem?_getD, List.getElem?_eq_getElem hkl]; rfl
     have haf := after_any X k hkl hxl _ _ _ hIk
     have HRS : Hid (rowE X (j : Int) (k + 1) = rowE X (j : Int) k ++ [((X[k], (j : Int)), ((j : Int), aft X k))]) := by rw [Hid, rowE_succ, hxe]
     have hnw := HNW.out k hkl
     rw [← hxe] at hnw
     have HNK : Hid _ := hnw
     subst hpx
     clear hxe hnw hc2 hIk
     generalize X[k] = x at *
     generalize aft X k = y at *
     go_wp2_with fail
     refine haf.mono ?_
     clear haf
     rintro e w9 ⟨rfl, rfl⟩
     have hMk := HMk.out
     have hnk := HNK.out
     go_wp2_with (at_mapUpdate; refine wpList_putD _ rfl _ _ _ rfl m (behL r j ++ rowE X (j : Int) k) (x, (j : Int)) ((j : Int), y) rfl hMk hnk rfl rfl ?_; intro w5 hM5 hg5)
     have HM5 : Hid (MapD w5 m (behL r j ++ rowE X (j : Int) (k + 1))) := by rw [Hid, HRS.out, ← List.append_assoc]; exact hM5
     have hb5 : Below m w4 w5 := hbk.grown hg5 (by have := hbk.size; have := hMk.lt; omega) (fun q e => by cases e; exact Nat.le_refl _)
     clear hM5 hg5 hMk hnk HMk HNK
     go_wp2
     exact ⟨⟨k + 1, by omega, by go_num, HM5, hb5⟩, by simp [intOf]; omega⟩
    ·obtain rfl : k = X.length := by omega
     have hkl' : ¬ (X.length : Int) < (X.length : Int) := by omega
     go_wp2
     exact ⟨⟨j + 1, by omega, by go_num, by rw [HNX.out]; exact HMk.out, hb.trans hbk⟩, by simp [intOf]; omega⟩
  ·obtain rfl : j = r.length := by omega
   have hjl : ¬ (r.length : Int) < (r.length : Int) := by omega
   go_wp2
   go_ret
   exact ⟨by rw [HM.out]; rfl, by rw [← HM.out]; exact HMj.out, by rw [← HM.out]; exact hb⟩
end Go.Proofs.YtjpkojmjiaoifaaGreat

namespace Go.Proofs.YtjpkojmjiaoifaaGreat
open Go Go.Proofs Go.RowKit
theorem infoDt : (Tryz.prog.info? 84).map (fun i => (i.zero, i.size, i.bytes)) = some (some (.agg #[.int .i64 0, .int .i64 0]), 2, 16) := by kernel_rfl
def encDc (d : Dt) : List Value := [.int .i64 d.1, .int .i64 d.2]
def flatD (L : List Dt) : List Value := L.flatMap encDc
theorem flatD_snoc (L : List Dt) (d : Dt) : flatD (L ++ [d]) = flatD L ++ encDc d := by simp [flatD]
theorem flatD_at : ∀ {L : List Dt} {j : Nat} {x : Dt}, L[j]? = some x → (flatD L)[j * 2]? = some (.int .i64 x.1) ∧ (flatD L)[j * 2 + 1]? = some (.int .i64 x.2)
 | [], j, x, h => by simp at h
 | y :: L, 0, x, h => by
  have : y = x := by simpa using h
  subst this
  exact ⟨rfl, rfl⟩
 | y :: L, j + 1, x, h => by
  have h' : L[j]? = some x := by simpa using h
  obtain ⟨h1, h2⟩ := flatD_at h'
  have e : flatD (y :: L) = [.int .i64 y.1, .int .i64 y.2] ++ flatD L := rfl
  rw [e, List.getElem?_append_right (by simp; omega), List.getElem?_append_right (by simp; omega)]
  have e1 : (j + 1) * 2 - [Value.int .i64 y.1, Value.int .i64 y.2].length = j * 2 := by simp; omega
  have e2 : (j + 1) * 2 + 1 - [Value.int .i64 y.1, Value.int .i64 y.2].length = j * 2 + 1 := by simp; omega
  rw [e1, e2]
  exact ⟨h1, h2⟩
def Drts (n : Nat) (W : World) (sv : Value) (L : List Dt) : Prop :=
 ((∃ p c, sv = .slice p 0 c) ∧ L = []) ∨ ∃ b off cap, sv = .slice (some ⟨b, off, none⟩) L.length cap ∧ b < n ∧ L.length ≤ cap ∧ ∀ j x, L[j]? = some x → W.cell? ⟨b, off + j * 2, none⟩ = some (.int .i64 x.1) ∧ W.cell? ⟨b, off + j * 2 + 1, none⟩ = some (.int .i64 x.2)
theorem Drts.below {n : Nat} {W W' : World} {sv : Value} {L : List Dt} (h : Drts n W sv L) (hb : Below n W W') : Drts n W' sv L := by
 rcases h with h | ⟨b, off, cap, h1, h2, h3, h4⟩
 ·exact .inl h
 ·exact .inr ⟨b, off, cap, h1, h2, h3, fun j x hx => ⟨(hb.cell (p := ⟨b, _, none⟩) h2).trans (h4 j x hx).1, (hb.cell (p := ⟨b, _, none⟩) h2).trans (h4 j x hx).2⟩⟩
theorem Drts.mono {n m : Nat} {W : World} {sv : Value} {L : List Dt} (h : Drts n W sv L) (hb : n ≤ m) : Drts m W sv L := by
 rcases h with h | ⟨b, off, cap, h1, h2, h3, h4⟩
 ·exact .inl h
 ·exact .inr ⟨b, off, cap, h1, Nat.lt_of_lt_of_le h2 hb, h3, h4⟩
theorem Drts.go {W W' : World} {sv : Value} {L : List Dt} (h : Drts W.heap.size W sv L) (hb : Below W.heap.size W W') : Drts W'.heap.size W' sv L := (h.below hb).mono hb.size
theorem Drts.len {n : Nat} {W : World} {sv : Value} {L : List Dt} (h : Drts n W sv L) : ∃ p c, sv = .slice p L.length c := by
 rcases h with ⟨⟨p, c, rfl⟩, rfl⟩ | ⟨b, off, cap, rfl, _⟩ <;> exact ⟨_, _, rfl⟩
theorem Drts.cellAt {n : Nat} {w : World} {p : Option Addr} {c : Nat} {L : List Dt} (h : Drts n w (.slice p L.length c) L) {j : Nat} (hj : j < L.length) :
  ∃ b off, p = some ⟨b, off, none⟩ ∧ b < n ∧ L.length ≤ c ∧ w.cell? ⟨b, off + j * 2, none⟩ = some (.int .i64 L[j].1) ∧ w.cell? ⟨b, off + j * 2 + 1, none⟩ = some (.int .i64 L[j].2) := by
 rcases h with ⟨_, h0⟩ | ⟨b, off, cap, h1, h2, h3, h4⟩
 ·subst h0; simp at hj
 ·simp only [Value.slice.injEq] at h1
  obtain ⟨rfl, _, rfl⟩ := h1
  obtain ⟨h5, h6⟩ := h4 j _ (List.getElem?_eq_getElem hj)
  exact ⟨b, off, rfl, h2, h3, h5, h6⟩
theorem Drts.of_owns {W : World} {base : Nat} {e : TypeId} {v : Value} {L : List Dt} (h : W.ownsRow base e 2 v L.length (flatD L)) : Drts W.heap.size W v L := by
 rcases h.2 with ⟨rfl, h0⟩ | ⟨g, cap, cur, rfl, hb, hg, hn, hc⟩
 ·exact .inl ⟨⟨_, _, rfl⟩, List.eq_nil_of_length_eq_zero h0⟩
 ·refine .inr ⟨g, 0, cap, rfl, (Array.getElem?_eq_some_iff.1 hg).1, hn, fun j x hx => ?_⟩
  obtain ⟨k0, k1⟩ := flatD_at hx
  have c0 := h.cells (g := g) rfl (j * 2) _ k0
  have c1 := h.cells (g := g) rfl (j * 2 + 1) _ k1
  rw [Go.WideShapes.add_plain] at c0 c1
  exact ⟨c0, c1⟩
theorem newsD {w : World} {t : TypeId} (d : Dt) : ∀ (i : Nat) (u : Value), (encDc d)[i]? = some u → (w.alloc (.cells #[.int .i64 d.1, .int .i64 d.2] t)).cell? ((⟨w.heap.size, 0, none⟩ : Addr).add i) = some u := by
 intro i u h
 match i, h with
 | 0, h =>
  have : u = .int .i64 d.1 := by simpa [encDc] using h.symm
  subst this
  simp [Addr.add]
 | 1, h =>
  have : u = .int .i64 d.2 := by simpa [encDc] using h.symm
  subst this
  simp [Addr.add]
 | i + 2, h => simp [encDc] at h
theorem oneD (d : Dt) : ∀ u ∈ encDc d, u.oneCell' = true := by
 intro u hu
 simp only [encDc, List.mem_cons, List.not_mem_nil, or_false] at hu
 rcases hu with rfl | rfl <;> rfl
theorem dartsL_succ (l : List Ed) (j : Nat) : dartsL (j + 1) l = dartsL j l ++ (nb l (j : Int)).map fun v => ((j : Int), v) := by
 unfold dartsL
 rw [List.range_succ, List.flatMap_append]
 simp
theorem dartsL_few {l : List Ed} (hm : l.length ≤ 4194304) : ∀ j, (dartsL j l).length ≤ j * 4194304
 | 0 => by simp [dartsL]
 | j + 1 => by
  have := dartsL_few hm j
  have := nb_len (j : Int) l
  rw [dartsL_succ, List.length_append, List.length_map]
  omega
theorem NearI.grown {N g h0 : Nat} {bs : List Nat} {deg : Nat → Nat} {pre : Nat → List Int} {A B : World} {q : Option Nat} (h : NearI N g h0 bs deg pre A) (hg : A.grownBy B q) (h1 : some g ≠ q) (h2 : ∀ v, v < N → some (bs.getD v 0) ≠ q) : NearI N g h0 bs deg pre B :=
 ⟨h.len, h.inj, h.low, h.out, h.row.grown hg h1, fun v hv => owns_keep (h.own v hv) hg (.inr (h2 v hv))⟩
def preD (l : List Ed) (j k : Nat) : List Dt := dartsL j l ++ ((nb l (j : Int)).take k).map fun v => ((j : Int), v)
theorem preD_zero (l : List Ed) (j : Nat) : preD l j 0 = dartsL j l := by simp [preD]
theorem preD_full (l : List Ed) (j : Nat) : preD l j (nb l (j : Int)).length = dartsL (j + 1) l := by unfold preD; rw [List.take_length, dartsL_succ]
theorem preD_step {l : List Ed} {j k : Nat} (h : k < (nb l (j : Int)).length) : preD l j (k + 1) = preD l j k ++ [((j : Int), (nb l (j : Int))[k])] := by
 unfold preD
 rw [List.take_add_one, List.getElem?_eq_getElem h, List.map_append, List.append_assoc]
 rfl
theorem preD_few {l : List Ed} (hm : l.length ≤ 4194304) (j k : Nat) : (preD l j k).length ≤ (j + 1) * 4194304 := by
 unfold preD
 have := dartsL_few hm j
 have := nb_len (j : Int) l
 rw [List.length_append, List.length_map, List.length_take]
 omega
set_option maxRecDepth 100000 in
set_option maxHeartbeats 4000000 in
theorem darts_any (N : Nat) (l : List Ed) (hR : RightG (N : Int) l) (sv : Value) (w : World) (hl : Edges w.heap.size w sv l) :
  Calls Tryz.prog 77 #[.agg #[.int .i64 (N : Int), sv]] w fun r w' => ∃ dv, r = .returned dv ∧ w'.ownsRow w.heap.size 84 2 dv (dartsL N l).length (flatD (dartsL N l)) ∧ Below w.heap.size w w' := by
 obtain ⟨p, c, rfl⟩ := hl.len
 have hg1 : Grew w (w.alloc (.cells #[.int .i64 (N : Int), .slice p l.length c] 24)) := (Grew.refl w).alloc _
 have hX1 : Blk 24 (w.alloc (.cells #[.int .i64 (N : Int), .slice p l.length c] 24)) w.heap.size [.int .i64 (N : Int), .slice p l.length c] := heap_alloc_new w _
 obtain ⟨i0, hi, hz0, hz1, hz2⟩ := info_parts infoDt
 have hn1 := hR.n1
 have hm1 := hR.m1
 have q0 := hX1.cell (j := 0) rfl
 have q1 := hX1.cell (j := 1) rfl
 have hs1 : (w.alloc (.cells #[.int .i64 (N : Int), .slice p l.length c] 24)).heap.size = w.heap.size + 1 := by simp
 go_enter Tryz.func77, Tryz.ntmps77
 go_wp2_with (at_make; refine wpList_make_own _ rfl _ _ 85 rfl w.heap.size 84 i0 (.agg #[.int .i64 0, .int .i64 0]) 2 Tryz.underlying85 hi hz0 hz1 .i64 .i64 _ (2 * l.length) rfl rfl (by go_num) (by rw [hz2]; omega) (by unfold maxLen; omega) (by rw [hs1]; omega) ?_; intro w3 hown hgrow; have hb3 : Below (w.heap.size + 1) (w.alloc (.cells #[.int .i64 (N : Int), .slice p l.length c] 24)) w3 := (Below.refl _ _).grown hgrow (by rw [hs1]; exact Nat.le_refl _) (fun k e => by cases e); have x0 := (hb3.cell (p := ⟨w.heap.size, 0, none⟩) (by simp only; omega)).trans q0; have x1 := (hb3.cell (p := ⟨w.heap.size, 1, none⟩) (by simp only; omega)).trans q1; have hbw3 : Below w.heap.size w w3 := hg1.below.trans (hb3.mono (by omega)); have hnr := near_at N l hR _ _ (hl.go hbw3); rw [hs1] at hown; have hsz3 : w.heap.size + 1 < w3.heap.size := (hown.lt _ rfl).2)
 clear hgrow hb3 hX1 hg1 hs1 q0 q1
 go_wp2_with fail
 refine hnr.mono ?_
 clear hnr
 rintro e w4 ⟨gn, hn0, bsn, degn, rfl, hN4, hgn, hb4⟩
 have hbw4 := hbw3.trans (hb4.mono hbw3.size)
 have hown4 := owns_below hown hb4
 have hn40 := hb4.size
 have hb30 := hbw3.size
 clear hown hb4 x0 x1 hbw3
 go_wp2
 go_loopw [3, 16] (fun ov iv wr => ∃ j : Nat, j ≤ N ∧ iv = .int .i64 j ∧ wr.ownsRow w.heap.size 84 2 ov (dartsL j l).length (flatD (dartsL j l)) ∧ NearI N gn hn0 bsn degn (fun v => nb l (v : Int)) wr ∧ (ov.ownBlock = some (w.heap.size + 1) ∨ ∃ q, ov.ownBlock = some q ∧ w4.heap.size ≤ q) ∧ Below w.heap.size w wr ∧ w4.heap.size ≤ wr.heap.size) (fun _ iv _ => N - (intOf iv).toNat)
 case atStart => exact ⟨0, Nat.zero_le _, rfl, hown4, hN4, .inl rfl, hbw4, Nat.le_refl _⟩
 case round =>
  obtain ⟨j, hj, rfl, hown, hNr, hob, hb, hsr⟩ := hrel
  have hfew := dartsL_few hm1 j
  obtain ⟨ax, cx, rfl⟩ := owns_formP hown
  by_cases hlt : j < N
  ·have hjl : (j : Int) < (N : Int) := by omega
   have c0 := hNr.row.cell (rowsV_at hlt)
   obtain ⟨bj, HBJ⟩ : ∃ bj, Hid (bsn.getD j 0 = bj) := ⟨_, rfl⟩
   rw [HBJ.out] at c0
   have hgn4 := hN4.row.lt
   have HBS4 : Hid (∀ v, v < N → bsn.getD v 0 < w4.heap.size) := fun v hv => ((hN4.own v hv).lt _ rfl).2
   have HBSL : Hid (∀ v, v < N → hn0 ≤ bsn.getD v 0) := hN4.low
   have hno := hN4.out
   rw [← preD_zero] at hown hob ⊢
   have HFL : Hid _ := preD_full l j
   have hnl := nb_len (j : Int) l
   generalize wr = w5 at *
   go_wp2
   go_loopw [3, 23] (fun ov iv wr => ∃ k : Nat, k ≤ (nb l (j : Int)).length ∧ iv = .int .i64 k ∧ wr.ownsRow w.heap.size 84 2 ov (preD l j k).length (flatD (preD l j k)) ∧ NearI N gn hn0 bsn degn (fun v => nb l (v : Int)) wr ∧ (ov.ownBlock = some (w.heap.size + 1) ∨ ∃ q, ov.ownBlock = some q ∧ w4.heap.size ≤ q) ∧ Below w.heap.size w wr ∧ w4.heap.size ≤ wr.heap.size) (fun _ iv _ => (nb l (j : Int)).length - (intOf iv).toNat)
   case atStart => exact ⟨0, Nat.zero_le _, rfl, hown, hNr, hob, hb, hsr⟩
   case round =>
    obtain ⟨k, hk, rfl, hownk, hNk, hobk, hbk, hsk⟩ := hrel
    have hfk := preD_few hm1 j k
    obtain ⟨ay, cy, rfl⟩ := owns_formP hownk
    by_cases hkl : k < (nb l (j : Int)).length
    ·have hkl' : (k : Int) < ((nb l (j : Int)).length : Int) := by omega
     obtain ⟨rest, hBk, hnk, hck, hmk, hbk2⟩ := owns_ints (hNk.own j hlt)
     rw [HBJ.out] at hBk
     have c1 : wr.cell? ⟨bj, k, none⟩ = some (.int .i64 (nb l (j : Int))[k]) := hBk.cell (by rw [List.getElem?_append_left (by simpa using hkl), List.getElem?_map, List.getElem?_eq_getElem hkl]; rfl)
     have HST : Hid _ := preD_step hkl
     generalize (nb l (j : Int))[k] = x at *
     generalize preD l j k = R at *
     have hbA : wr.grownBy (wr.alloc (.cells #[.int .i64 (j : Int), .int .i64 x] 84)) none := World.grownBy_alloc _ _ _
     have hownA := hownk.alloc (.cells #[.int .i64 (j : Int), .int .i64 x] 84)
     have hnews := newsD (w := wr) (t := 84) ((j : Int), x)
     have hone := oneD ((j : Int), x)
     have hmx : R.length + 1 ≤ maxLen := by unfold maxLen; omega
     have hby : (R.length + 1) * 16 ≤ 140737488355328 := by omega
     have hbs : w.heap.size ≤ (wr.alloc (.cells #[.int .i64 (j : Int), .int .i64 x] 84)).heap.size := by have := hbk.size; simp; omega
     have hlow : ∀ q, (Value.slice ay R.length cy).ownBlock = some q → w.heap.size ≤ q := fun q hq => (hownk.lt q hq).1
     go_wp2_with (at_builtin; refine wpList_append_own_at _ rfl _ _ 85 rfl w.heap.size 84 i0 (.agg #[.int .i64 0, .int .i64 0]) 2 16 Tryz.underlying85 hi hz0 hz1 hz2 rfl (by decide) (.slice ay R.length cy) _ _ rfl hownA ⟨wr.heap.size, 0, none⟩ 1 1 (encDc ((j : Int), x)) rfl rfl hnews hone hmx hby hbs ?_)
     intro v7 w7 hown7 hg7 hnil7 hat7
     obtain ⟨a7, m7, k7, rfl⟩ := owns_slice hown7
     have hb7 : Below w.heap.size w w7 := (hbk.alloc hbk.size _).grown hg7 hbs hlow
     have hown7' : w7.ownsRow w.heap.size 84 2 (.slice a7 m7 k7) (R ++ [((j : Int), x)]).length (flatD (R ++ [((j : Int), x)])) := by
      rw [List.length_append, flatD_snoc]; exact hown7
     have hg17 : wr.grownBy w7 (Value.slice ay R.length cy).ownBlock := ⟨hg7.os, hg7.tape, hg7.output, Nat.le_trans hbA.size hg7.size, fun q hq hne => (hg7.block q (Nat.lt_of_lt_of_le hq hbA.size) hne).trans (hbA.block q hq (by simp))⟩
     have hNx : NearI N gn hn0 bsn degn (fun v => nb l (v : Int)) w7 := by
      refine hNk.grown hg17 ?_ ?_
      ·rcases hobk with h1 | ⟨q, h1, h2⟩
       ·rw [h1]; simp; omega
       ·rw [h1]; simp; omega
      ·intro v hv
       have g1 := HBS4.out v hv
       have g2 := HBSL.out v hv
       rcases hobk with h1 | ⟨q, h1, h2⟩
       ·rw [h1]; intro e; have := Option.some.inj e; omega
       ·rw [h1]; intro e; have := Option.some.inj e; omega
     have hob7 : (Value.slice a7 m7 k7).ownBlock = some (w.heap.size + 1) ∨ ∃ q, (Value.slice a7 m7 k7).ownBlock = some q ∧ w4.heap.size ≤ q := by
      rcases hat7 with h1 | h1
      ·rw [h1]; exact hobk
      ·right
       refine ⟨_, h1, ?_⟩
       omega
     have hs7 : w4.heap.size ≤ w7.heap.size := Nat.le_trans hsk hg17.size
     clear hown7 hg7 hnil7 hat7 hownA hnews hone hg17 hbA
     go_wp2
     exact ⟨⟨k + 1, by omega, by go_num, by rw [HST.out]; exact hown7', hNx, hob7, hb7, hs7⟩, by simp [intOf]; omega⟩
    ·obtain rfl : k = (nb l (j : Int)).length := by omega
     have hkl' : ¬ ((nb l (j : Int)).length : Int) < ((nb l (j : Int)).length : Int) := by omega
     rw [HFL.out] at hownk hobk ⊢
     go_wp2
     exact ⟨⟨j + 1, by omega, by go_num, hownk, hNk, hobk, hbk, hsk⟩, by simp [intOf]; omega⟩
  ·obtain rfl : j = N := by omega
   have hjl : ¬ (j : Int) < (j : Int) := by omega
   obtain ⟨m, HM⟩ : ∃ m, Hid ((dartsL j l).length = m) := ⟨_, rfl⟩
   rw [HM.out] at hown ⊢
   go_wp2
   go_ret
   exact ⟨.slice ax m cx, rfl, by rw [HM.out]; exact hown, hb⟩
end Go.Proofs.YtjpkojmjiaoifaaGreat
