import Derived.Test.YtalflecmadacaaaGreatZAS
import Derived.Test.YtalflecmadacaaaGreatZAZ
import Derived.Test.YtalflecmadacaaaGreatZAA
import Derived.Sort.OwnSortedInts
import Derived.Test.YtalflecmadacaaaGreatShelfS
import Derived.Test.YtalflecmadacaaaGreatXRNear
import Derived.Test.YtalflecmadacaaaGreatZAR
set_option maxRecDepth 100000
set_option maxHeartbeats 8000000
namespace Go.Proofs.YtalflecmadacaaaGreat
open Go Go.Proofs Go.RowKit
theorem askN {d : Dt} {w : World} : ∀ (es : List MapEntry) (L : List (Dt × Int)) (i : Nat), es.map (fun e => (e.key, e.val)) = L.map (fun p => (encD p.1, .int .i64 p.2)) →
  (Instr.findAsking 91 (encD d) es i).run Tryz.prog w = .ok ((L.findIdx? fun p => decide (d = p.1)).map fun k => (i + k, Value.int .i64 (L.getD k ((0, 0), 0)).2)) w
 | [], [], i, _ => by simp [Instr.findAsking]
 | [], p :: L, i, h => by simp at h
 | e :: es, [], i, h => by simp at h
 | e :: es, p :: L, i, h => by
  rw [List.map_cons, List.map_cons, List.cons.injEq, Prod.mk.injEq] at h
  obtain ⟨⟨h1, h2⟩, h3⟩ := h
  have ih := askN (d := d) (w := w) es L (i + 1) h3
  unfold Instr.findAsking
  rw [h1, List.findIdx?_cons]
  by_cases hd : d = p.1
  ·simp [eqD_run, hd, h2]
  ·simp only [Sem.run_bind, eqD_run, decide_eq_false hd, Result.andThen_ok, Bool.false_eq_true, if_false, ih]
   congr 1
   cases L.findIdx? fun p => decide (d = p.1) with
   | none => rfl
   | some k =>
    simp only [Option.map_some, Option.some.injEq, Prod.mk.injEq, List.getD_cons_succ, and_true]
    omega
theorem findN {d : Dt} {w : World} {es : List MapEntry} {L : List (Dt × Int)} (h : es.map (fun e => (e.key, e.val)) = L.map (fun p => (encD p.1, .int .i64 p.2))) :
  (Instr.findKey 91 (encD d) es).run Tryz.prog w = .ok ((L.findIdx? fun p => decide (d = p.1)).map fun k => (k, Value.int .i64 (L.getD k ((0, 0), 0)).2)) w := by
 have ha := askN (d := d) (w := w) es L 0 h
 simp only [Nat.zero_add] at ha
 cases es with
 | nil =>
  cases L with
  | nil => simp [Instr.findKey, run_underlying Tryz.underlying91, Instr.findNow]
  | cons p L => simp at h
 | cons e es =>
  cases L with
  | nil => simp at h
  | cons p L =>
   rw [List.map_cons, List.map_cons, List.cons.injEq, Prod.mk.injEq] at h
   simp [Instr.findKey, run_underlying Tryz.underlying91, Instr.findNow, Instr.sameNow, encD, h.1.1]
   exact ha
def MapN (w : World) (m : Nat) (L : List (Dt × Int)) : Prop := ∃ es ck, w.heap[m]? = some (.map es ck) ∧ es.toList.map (fun e => (e.key, e.val)) = L.map (fun p => (encD p.1, .int .i64 p.2))
theorem MapN.lt {w : World} {m : Nat} {L : List (Dt × Int)} (h : MapN w m L) : m < w.heap.size := by
 obtain ⟨es, ck, h1, _⟩ := h
 exact (Array.getElem?_eq_some_iff.1 h1).1
theorem MapN.keep {w w' : World} {m : Nat} {L : List (Dt × Int)} (h : MapN w m L) (hb : w'.heap[m]? = w.heap[m]?) : MapN w' m L := by
 obtain ⟨es, ck, h1, h2⟩ := h
 exact ⟨es, ck, hb.trans h1, h2⟩
theorem MapN.start (w : World) : MapN (w.alloc (.map #[] 0)) w.heap.size [] := ⟨#[], 0, (MapKept.heap_alloc w _).1, rfl⟩
def lkN (L : List (Dt × Int)) (d : Dt) : Option Int := (L.find? fun p => decide (d = p.1)).map (·.2)
theorem MapN.lookup {w : World} {m : Nat} {L : List (Dt × Int)} (h : MapN w m L) (d : Dt) :
  (Instr.lookup 106 (.map (some m)) (encD d) false).run Tryz.prog w = .ok (.int .i64 ((lkN L d).getD 0)) w := by
 obtain ⟨es, ck, h1, h2⟩ := h
 have hf := findN (d := d) (w := w) h2
 have e1 : (L.findIdx? fun p => decide (d = p.1)).isSome = (lkN L d).isSome := by
  unfold lkN
  rw [Option.isSome_map, List.findIdx?_isSome, Bool.eq_iff_iff, List.find?_isSome, List.any_eq_true]
 have e2 : ∀ k, (L.findIdx? fun p => decide (d = p.1)) = some k → lkN L d = some (L.getD k ((0, 0), 0)).2 := fun k hk => by
  obtain ⟨hlt, hp, hno⟩ := List.findIdx?_eq_some_iff_getElem.1 hk
  unfold lkN
  have e : (L.find? fun p => decide (d = p.1)) = some L[k] := List.find?_eq_some_iff_getElem.2 ⟨hp, k, hlt, rfl, fun j hj => by simpa using hno j hj⟩
  rw [e]
  simp [hlt]
 cases hk : L.findIdx? fun p => decide (d = p.1) with
 | none =>
  rw [hk] at hf e1
  have e3 : lkN L d = none := by
   cases hl : lkN L d with
   | none => rfl
   | some x => rw [hl] at e1; cases e1
  simp [Instr.lookup, run_underlying Tryz.underlying106, MapKept.run_getObj_map h1, checkD, hf, e3]
 | some k =>
  rw [hk] at hf
  have e3 := e2 k hk
  simp [Instr.lookup, run_underlying Tryz.underlying106, MapKept.run_getObj_map h1, checkD, hf, e3]
theorem MapN.update {w : World} {m : Nat} {L : List (Dt × Int)} (h : MapN w m L) {d : Dt} (hd : ∀ p ∈ L, p.1 ≠ d) (e : Int) :
  ∃ w', (Instr.mapUpdate 106 (.map (some m)) (encD d) (.int .i64 e)).run Tryz.prog w = .ok () w' ∧ MapN w' m (L ++ [(d, e)]) ∧ w.grownBy w' (some m) := by
 obtain ⟨es, ck, h1, h2⟩ := h
 have hf := findN (d := d) (w := w) h2
 have hno : (L.findIdx? fun p => decide (d = p.1)) = none := by
  rw [List.findIdx?_eq_none_iff]
  intro p hp
  have := hd p hp
  simp
  exact fun e => this e.symm
 rw [hno] at hf
 have hlt := (Array.getElem?_eq_some_iff.1 h1).1
 refine ⟨{ w with heap := w.heap.setIfInBounds m (.map (es.push { key := encD d, val := .int .i64 e, born := ck }) (ck + 1)) }, ?_, ⟨es.push { key := encD d, val := .int .i64 e, born := ck }, ck + 1, by simp [hlt], ?_⟩, ⟨rfl, rfl, rfl, by simp, fun i _ hi => ?_⟩⟩
 ·simp [Instr.mapUpdate, run_underlying Tryz.underlying106, MapKept.run_getObj_map h1, checkD, hf, MapKept.run_setObj_map _ h1]
 ·rw [Array.toList_push, List.map_append, h2, List.map_append]
  rfl
 ·have : m ≠ i := fun e => hi (by rw [e])
  simp [this]
theorem wpList_putN (w : World) {ops : Array Oper} {rest : List Oper} {o : Oper} {a : Act} {Q : Exit → Act → World → Prop}
  (hg : o.guard = none) (m x v : Operand) (hop : o.op = Op.mapUpdate 106 m x v) (M : Nat) (L : List (Dt × Int)) (d : Dt) (e : Int)
  (hm : a.eval m = .map (some M)) (h : MapN w M L) (hd : ∀ p ∈ L, p.1 ≠ d) (hx : a.eval x = encD d) (hv : a.eval v = .int .i64 e)
  (hK : ∀ w', MapN w' M (L ++ [(d, e)]) → w.grownBy w' (some M) → wpList Tryz.prog ops Q rest (a.put o.dst undef) w') :
  wpList Tryz.prog ops Q (o :: rest) a w := by
 refine wpList_plain hg fun K' hK' => ?_
 obtain ⟨w', hrun, r1, r2⟩ := h.update hd e
 unfold Oper.wp
 simp [execOp, hop, hm, hx, hv, hrun, Result.andThen]
 exact hK' _ _ (hK w' r1 r2)
def entL (fs : List (List Dt)) (j : Nat) : List (Dt × Int) := (List.range j).flatMap fun (v : Nat) => (fs.getD v []).map fun d => (d, (v : Int))
theorem entL_succ (fs : List (List Dt)) (j : Nat) : entL fs (j + 1) = entL fs j ++ (fs.getD j []).map fun d => (d, (j : Int)) := by
 unfold entL
 rw [List.range_succ, List.flatMap_append]
 simp
theorem entL_keys (fs : List (List Dt)) : ∀ j, (entL fs j).map Prod.fst = (fs.take j).flatten
 | 0 => rfl
 | j + 1 => by
  rw [entL_succ, List.map_append, entL_keys fs j, List.take_add_one, List.flatten_append, List.map_map, List.getD_eq_getElem?_getD]
  congr 1
  cases fs[j]? <;> simp [Function.comp_def]
theorem ent_new {fs : List (List Dt)} (hn : fs.flatten.Nodup) {j k : Nat} (hj : j < fs.length) (hk : k < fs[j].length) : ∀ p ∈ entL fs j ++ (fs[j].take k).map fun d => (d, (j : Int)), p.1 ≠ fs[j][k] := by
 intro p hp e
 have e1 : fs.flatten = (fs.take j).flatten ++ (fs[j] ++ (fs.drop (j + 1)).flatten) := by
  conv => lhs; rw [← List.take_append_drop j fs, List.drop_eq_getElem_cons hj]
  rw [List.flatten_append, List.flatten_cons]
 rw [e1] at hn
 obtain ⟨_, h2, h3⟩ := List.nodup_append.1 hn
 rcases List.mem_append.1 hp with h | h
 ·have h4 : p.1 ∈ (fs.take j).flatten := by
   rw [← entL_keys]
   exact List.mem_map_of_mem h
  exact h3 _ h4 _ (List.mem_append_left _ (List.getElem_mem hk)) e
 ·obtain ⟨d, hd, rfl⟩ := List.mem_map.1 h
  obtain ⟨i, hi, hid⟩ := List.mem_take_iff_getElem.1 hd
  have h5 := (List.nodup_append.1 h2).1
  simp only at e
  rw [← hid] at e
  have := (List.getElem_inj h5).1 e
  omega
def faceOf (fs : List (List Dt)) (d : Dt) : Int := (lkN (entL fs fs.length) d).getD 0
def sidesL (fs : List (List Dt)) (l : List Ed) : List Dt := l.map fun e => (faceOf fs (e.1, e.2.1), faceOf fs (e.2.1, e.1))
theorem pairs_made (n : Nat) : (madeCells (Value.agg #[.int .i64 0, .int .i64 0]).cells (n * 2)).toList = flatD (List.replicate n (0, 0)) := by
 apply List.ext_getElem
 ·rw [flatD_len]
  simp [madeCells]
 ·intro i h1 h2
  rw [flatD_len, List.length_replicate] at h2
  obtain ⟨k0, k1⟩ := flatD_at (L := List.replicate n ((0, 0) : Dt)) (j := i / 2) (x := (0, 0)) (by rw [List.getElem?_replicate, if_pos (by omega)])
  have hz : (Value.agg #[.int .i64 0, .int .i64 0]).cells = #[.int .i64 0, .int .i64 0] := by kernel_rfl
  rcases Nat.mod_two_eq_zero_or_one i with h0 | h0
  ·rw [show i / 2 * 2 = i by omega] at k0
   rw [List.getElem?_eq_getElem (by rw [flatD_len, List.length_replicate]; exact h2)] at k0
   rw [Option.some.inj k0]
   simp [madeCells, hz, h0]
  ·rw [show i / 2 * 2 + 1 = i by omega] at k1
   rw [List.getElem?_eq_getElem (by rw [flatD_len, List.length_replicate]; exact h2)] at k1
   rw [Option.some.inj k1]
   simp [madeCells, hz, h0]
theorem flatD_set : ∀ (L : List Dt) (j : Nat) (a b : Int), j < L.length → ((flatD L).set (j * 2) (.int .i64 a)).set (j * 2 + 1) (.int .i64 b) = flatD (L.set j (a, b))
 | [], j, a, b, h => by simp at h
 | d :: L, 0, a, b, h => rfl
 | d :: L, j + 1, a, b, h => by
  have h' : j < L.length := by simpa using h
  have ih := flatD_set L j a b h'
  have e : flatD (d :: L) = .int .i64 d.1 :: .int .i64 d.2 :: flatD L := rfl
  have e2 : ∀ (x y a b : Value) (F : List Value), ((x :: y :: F).set (j * 2 + 1 + 1) a).set (j * 2 + 1 + 1 + 1) b = x :: y :: ((F.set (j * 2) a).set (j * 2 + 1) b) := fun _ _ _ _ _ => rfl
  rw [e, show (j + 1) * 2 = j * 2 + 1 + 1 by omega, e2, ih]
  rfl
def sideH (fs : List (List Dt)) (l : List Ed) (j : Nat) : List Dt := (sidesL fs (l.take j)) ++ List.replicate (l.length - j) (0, 0)
theorem sideH_zero (fs : List (List Dt)) (l : List Ed) : sideH fs l 0 = List.replicate l.length (0, 0) := by simp [sideH, sidesL]
theorem sideH_full (fs : List (List Dt)) (l : List Ed) : sideH fs l l.length = sidesL fs l := by simp [sideH]
theorem sideH_len (fs : List (List Dt)) (l : List Ed) {j : Nat} (h : j ≤ l.length) : (sideH fs l j).length = l.length := by
 simp [sideH, sidesL]
 omega
theorem sideH_step (fs : List (List Dt)) (l : List Ed) {j : Nat} (h : j < l.length) : (sideH fs l j).set j (faceOf fs (l[j].1, l[j].2.1), faceOf fs (l[j].2.1, l[j].1)) = sideH fs l (j + 1) := by
 unfold sideH sidesL
 have e : l.length - j = (l.length - (j + 1)) + 1 := by omega
 have h1 : ((l.take j).map fun e : Ed => (faceOf fs (e.1, e.2.1), faceOf fs (e.2.1, e.1))).length = j := by simp; omega
 rw [List.set_append, h1, if_neg (Nat.lt_irrefl j), Nat.sub_self, e, List.replicate_succ, List.set_cons_zero, List.take_add_one, List.getElem?_eq_getElem h, List.map_append, List.append_assoc]
 rfl
theorem infoPr : (Tryz.prog.info? 80).map (fun i => (i.zero, i.size, i.bytes)) = some (some (.agg #[.int .i64 0, .int .i64 0]), 2, 16) := by kernel_rfl
theorem sides_any (n : Int) (l : List Ed) (hm : l.length ≤ 4194304) (fs : List (List Dt)) (hf : fs.length ≤ 16777216) (hin : ∀ x ∈ fs, x.length ≤ 16777216) (hnd : fs.flatten.Nodup) (sv lv : Value) (w : World) (hl : Edges w.heap.size w sv l) (hg : LDr w.heap.size w lv fs) :
  Calls Tryz.prog 58 #[.agg #[.int .i64 n, sv], lv] w fun e w' => ∃ g, e = .returned (.slice (some ⟨g, 0, none⟩) l.length l.length) ∧ w.heap.size ≤ g ∧ Blk 80 w' g (flatD (sidesL fs l)) ∧ Below w.heap.size w w' := by
 obtain ⟨p, c, rfl⟩ := hl.len
 obtain ⟨pg, cg, rfl⟩ := hg.len
 obtain ⟨i0, hi, hz0, hz1, hz2⟩ := info_parts infoPr
 have hbA : Below w.heap.size w (w.alloc (.cells #[.int .i64 n, .slice p l.length c] 24)) := (Below.refl _ _).alloc (Nat.le_refl _) _
 have hX : Blk 24 (w.alloc (.cells #[.int .i64 n, .slice p l.length c] 24)) w.heap.size [.int .i64 n, .slice p l.length c] := heap_alloc_new w _
 have q1 := hX.cell (j := 1) rfl
 have hs1 : (w.alloc (.cells #[.int .i64 n, .slice p l.length c] 24)).heap.size = w.heap.size + 1 := by simp
 have HL : Hid (Edges w.heap.size w (.slice p l.length c) l) := hl
 have HG : Hid (LDr w.heap.size w (.slice pg fs.length cg) fs) := hg
 have HND : Hid fs.flatten.Nodup := hnd
 have HIN : Hid (∀ x ∈ fs, x.length ≤ 16777216) := hin
 clear hl hg hnd hin
 go_enter Tryz.func58, Tryz.ntmps58
 generalize hw1 : w.alloc (.cells #[.int .i64 n, .slice p l.length c] 24) = w1 at *
 have hwp : IntKind.i64.wrap (2 * (l.length : Int)) = 2 * (l.length : Int) := wrap_i _ (by omega) (by omega)
 have hmm : (Instr.makeMap 106 (some (.int .i64 (2 * (l.length : Int))))).run Tryz.prog w1 = .ok (.map (some w1.heap.size)) (w1.alloc (.map #[] 0)) := by
  simp [Instr.makeMap, run_underlying Tryz.underlying106, asInt]
  rfl
 have hM0 : MapN (w1.alloc (.map #[] 0)) (w.heap.size + 1) [] := by rw [← hs1]; exact MapN.start w1
 have hbB : Below (w.heap.size + 1) w1 (w1.alloc (.map #[] 0)) := (Below.refl _ _).alloc (by omega) _
 go_wp2
 generalize hwm : w.heap.size + 1 = m at *
 generalize w1.alloc (.map #[] 0) = w2 at *
 clear hwp hmm hX
 go_loopw [20] (fun iv wr => ∃ j : Nat, j ≤ fs.length ∧ iv = .int .i64 j ∧ Hid (MapN wr m (entL fs j)) ∧ Below m w1 wr) (fun i _ => fs.length - (intOf i).toNat)
 case atStart => exact ⟨0, Nat.zero_le _, rfl, hM0, hbB⟩
 case round =>
  obtain ⟨j, hj, rfl, HMj, hb⟩ := hrel
  have hbw : Below w.heap.size w wr := hbA.trans (hb.mono (by omega))
  by_cases hlt : j < fs.length
  ·have hjl : (j : Int) < (fs.length : Int) := by omega
   obtain ⟨b, off, rfl, hbb, hcap, px, cx, hIx, c0⟩ := (HG.out.below hbw).cellAt hlt
   have hxl := HIN.out fs[j] (List.getElem_mem hlt)
   have hg : fs.getD j [] = fs[j] := by rw [List.getD_eq_getElem?_getD, List.getElem?_eq_getElem hlt]; rfl
   have HNX : Hid (entL fs (j + 1) = entL fs j ++ (fs[j].take fs[j].length).map fun d => (d, (j : Int))) := by rw [Hid, entL_succ, hg, List.take_length]
   have HNW : Hid (∀ k (hk : k < fs[j].length), ∀ q ∈ entL fs j ++ (fs[j].take k).map fun d => (d, (j : Int)), q.1 ≠ fs[j][k]) := fun k hk => ent_new HND.out hlt hk
   have HBW : Hid (Below w.heap.size w wr) := hbw
   have HIX : Hid (Drts w.heap.size wr (.slice px fs[j].length cx) fs[j]) := hIx
   clear hg hIx hbw
   generalize fs[j] = X at *
   generalize wr = w4 at *
   go_wp2
   go_loopw [27] (fun iv wx => ∃ k : Nat, k ≤ X.length ∧ iv = .int .i64 k ∧ Hid (MapN wx m (entL fs j ++ (X.take k).map fun d => (d, (j : Int)))) ∧ Below m w4 wx) (fun i _ => X.length - (intOf i).toNat)
   case atStart => exact ⟨0, Nat.zero_le _, rfl, by unfold Hid; simpa using HMj.out, Below.refl _ _⟩
   case round =>
    obtain ⟨k, hk, rfl, HMk, hbk⟩ := hrel
    by_cases hkl : k < X.length
    ·have hkl' : (k : Int) < (X.length : Int) := by omega
     obtain ⟨b2, off2, hpx, hbb2, hcap2, c2, c3⟩ := (HIX.out.below (hbk.mono (by omega))).cellAt hkl
     have HNK : Hid _ := HNW.out k hkl
     have HRS : Hid ((X.take (k + 1)).map (fun d => (d, (j : Int))) = (X.take k).map (fun d => (d, (j : Int))) ++ [(X[k], (j : Int))]) := by
      unfold Hid
      rw [List.take_add_one, List.getElem?_eq_getElem hkl, List.map_append]
      rfl
     subst hpx
     have hms : m < wr.heap.size := HMk.out.lt
     generalize X[k] = x at *
     obtain ⟨xa, xb⟩ := x
     simp only at c2 c3
     have HBK : Hid (Below m w4 wr) := hbk
     have hbN : Below wr.heap.size wr (wr.alloc (.cells #[.int .i64 xa, .int .i64 xb] 91)) := (Below.refl _ _).alloc (Nat.le_refl _) _
     have HMN : Hid (MapN (wr.alloc (.cells #[.int .i64 xa, .int .i64 xb] 91)) m (entL fs j ++ (X.take k).map fun d => (d, (j : Int)))) := HMk.out.keep (hbN.block m hms)
     clear hbk HMk hbN
     go_wp2_with (at_mapUpdate; refine wpList_putN _ rfl _ _ _ rfl m (entL fs j ++ (X.take k).map fun d => (d, (j : Int))) (xa, xb) (j : Int) rfl HMN.out HNK.out rfl rfl ?_; intro w5 hM5 hg5)
     have HM5 : Hid (MapN w5 m (entL fs j ++ (X.take (k + 1)).map fun d => (d, (j : Int)))) := by rw [Hid, HRS.out, ← List.append_assoc]; exact hM5
     have hb5 : Below m w4 w5 := (HBK.out.alloc (by omega) _).grown hg5 (by simp; omega) (fun q e => by cases e; exact Nat.le_refl _)
     exact ⟨⟨k + 1, by omega, by go_num, HM5, hb5⟩, by simp [intOf]; omega⟩
    ·obtain rfl : k = X.length := by omega
     have hkl' : ¬ (X.length : Int) < (X.length : Int) := by omega
     go_wp2
     exact ⟨⟨j + 1, by omega, by go_num, by rw [HNX.out]; exact HMk.out, hb.trans hbk⟩, by simp [intOf]; omega⟩
  ·obtain rfl : j = fs.length := by omega
   have hjl : ¬ (fs.length : Int) < (fs.length : Int) := by omega
   have y1 := (hb.cell (p := ⟨w.heap.size, 1, none⟩) (by simp only; omega)).trans q1
   have hms : m < wr.heap.size := HMj.out.lt
   clear q1 hM0 hbB HG HIN HND hj hlt
   go_wp2_with (at_make; refine wpList_make_full _ rfl _ _ 78 rfl m 80 i0 (.agg #[.int .i64 0, .int .i64 0]) 2 Tryz.underlying78 hi hz0 hz1 .i64 .i64 _ _ l.length rfl rfl rfl rfl (by rw [hz2]; omega) (by unfold maxLen; omega) (Nat.le_of_lt hms) ?_; intro w3 hown hgrow; have hb3 : Below wr.heap.size wr w3 := (Below.refl _ _).grown hgrow (Nat.le_refl _) (fun k e => by cases e); have x1 := (hb3.cell (p := ⟨w.heap.size, 1, none⟩) (by simp only; omega)).trans y1)
   have hrow := Blk.made hown
   rw [pairs_made, ← sideH_zero fs l] at hrow
   have HM3 : Hid (MapN w3 m (entL fs fs.length)) := HMj.out.keep (hb3.block m hms)
   have HB3 : Hid (Below w.heap.size w w3) := hbw.trans (hb3.mono hbw.size)
   clear hown hgrow hi hz0 hz1 hz2 hb3 y1 hbw hb
   generalize hge : wr.heap.size = g at *
   go_loopw [43] (fun i wy => ∃ j : Nat, j ≤ l.length ∧ i = .int .i64 j ∧ Blk 80 wy g (flatD (sideH fs l j)) ∧ Below g w3 wy) (fun i _ => l.length - (intOf i).toNat)
   case atStart => exact ⟨0, Nat.zero_le _, rfl, hrow, Below.refl _ _⟩
   case round =>
    obtain ⟨j, hj, rfl, hB, hb⟩ := hrel
    rename World => w5
    by_cases hlt : j < l.length
    ·obtain ⟨b, off, rfl, hbb, hcap, hc, -⟩ := HL.out.open hlt
     obtain ⟨c0, c1, c2⟩ := hc w5 (HB3.out.trans (hb.mono (by omega))) j hlt
     have hjl : (j : Int) < (l.length : Int) := by omega
     have HS : Hid _ := sideH_step fs l hlt
     have hgl := hB.lt
     have hM5 : MapN w5 m (entL fs fs.length) := HM3.out.keep (hb.block m hms)
     have HLN : Hid (j < (sideH fs l j).length) := by rw [Hid, sideH_len fs l hj]; exact hlt
     clear hc
     generalize l[j].1 = u at *
     generalize l[j].2.1 = v at *
     generalize l[j].2.2 = wt at *
     have hbN : Below w5.heap.size w5 (w5.alloc (.cells #[.int .i64 u, .int .i64 v, .int .i64 wt] 50)) := (Below.refl _ _).alloc (Nat.le_refl _) _
     have hE : Blk 50 (w5.alloc (.cells #[.int .i64 u, .int .i64 v, .int .i64 wt] 50)) w5.heap.size [.int .i64 u, .int .i64 v, .int .i64 wt] := heap_alloc_new w5 _
     have e0 := hE.cell (j := 0) rfl
     have e1 := hE.cell (j := 1) rfl
     have hMN : MapN (w5.alloc (.cells #[.int .i64 u, .int .i64 v, .int .i64 wt] 50)) m (entL fs fs.length) := hM5.keep (hbN.block m (by omega))
     have hBN := hB.go hbN
     have HBN : Hid (Below g w3 (w5.alloc (.cells #[.int .i64 u, .int .i64 v, .int .i64 wt] 50))) := hb.alloc (by omega) _
     have hne : w5.heap.size ≠ g := by omega
     clear hbN hE hM5 hB
     go_wp2_with fail
     generalize w5.alloc (.cells #[.int .i64 u, .int .i64 v, .int .i64 wt] 50) = w6 at *
     have l0 := hMN.lookup (u, v)
     have l1 := hMN.lookup (v, u)
     have e2 : ∀ d, (lkN (entL fs fs.length) d).getD 0 = faceOf fs d := fun _ => rfl
     rw [e2] at l0 l1
     have k0 : (Instr.lookup 106 (.map (some m)) (.agg #[.int .i64 u, .int .i64 v]) false).run Tryz.prog w6.drew = .ok (.int .i64 (faceOf fs (u, v))) w6.drew := (hMN.keep (w' := w6.drew) rfl).lookup (u, v)
     have k1 : (Instr.lookup 106 (.map (some m)) (.agg #[.int .i64 v, .int .i64 u]) false).run Tryz.prog w6.drew = .ok (.int .i64 (faceOf fs (v, u))) w6.drew := (hMN.keep (w' := w6.drew) rfl).lookup (v, u)
     have hBn := (hBN.set (j * 2) (.int .i64 (faceOf fs (u, v)))).set (j * 2 + 1) (.int .i64 (faceOf fs (v, u)))
     rw [flatD_set _ j _ _ HLN.out, HS.out] at hBn
     have HBn : Hid _ := hBn
     have f0 := hBN.frozen (j * 2)
     have f1 := hBN.frozen (j * 2 + 1)
     have z0 := hBN.cell (flatD_at (List.getElem?_eq_getElem HLN.out)).1
     have z1 := hBN.cell (flatD_at (List.getElem?_eq_getElem HLN.out)).2
     clear l0 l1 e2 hBn hBN hMN c0 c1 c2
     generalize faceOf fs (u, v) = x at *
     generalize faceOf fs (v, u) = y at *
     refine wp_region_last (S := (fun w' : World => w'.cell? ⟨w5.heap.size, 0, none⟩ = some (.int .i64 u) ∧ w'.cell? ⟨w5.heap.size, 1, none⟩ = some (.int .i64 v) ∧ (Instr.lookup 106 (.map (some m)) (.agg #[.int .i64 u, .int .i64 v]) false).run Tryz.prog w' = .ok (.int .i64 x) w' ∧ (Instr.lookup 106 (.map (some m)) (.agg #[.int .i64 v, .int .i64 u]) false).run Tryz.prog w' = .ok (.int .i64 y) w')) (by kernel_rfl) ⟨e0, e1, k0, k1⟩ (fun hHeld => ?_)
     refine tkL 0 ?_ rfl (by kernel_rfl) rfl (.inl ⟨by rfl, ?_⟩) (by assumption) ?_
     rotate_left
     ·intro w h; (try dsimp only at h); go_simp; (try rfl)
     try simp only [Act.put, z4]
     refine tkL 1 ?_ rfl (by kernel_rfl) rfl (.inl ⟨by rfl, ?_⟩) (by assumption) ?_
     rotate_left
     ·intro w h; (try dsimp only at h); go_simp; (try rfl)
     try simp only [Act.put]
     refine tkL 2 ?_ rfl (by kernel_rfl) rfl (.inl ⟨by rfl, ?_⟩) (by assumption) ?_
     rotate_left
     ·intro w h; (try dsimp only at h); go_simp; (try rfl)
     try simp only [Act.put]
     refine tkL 3 ?_ rfl (by kernel_rfl) rfl (.inl ⟨by rfl, ?_⟩) (by assumption) ?_
     rotate_left
     ·intro w h; (try dsimp only at h); go_simp; (try rfl)
     try simp only [Act.put]
     refine tkL 4 ?_ rfl (by kernel_rfl) rfl (.inl ⟨by rfl, ?_⟩) (by assumption) ?_
     rotate_left
     ·intro w h; (try dsimp only at h); go_simp; (try rfl)
     try simp only [Act.put]
     refine tkL 5 ?_ rfl (by kernel_rfl) rfl (.inl ⟨by rfl, ?_⟩) (by assumption) ?_
     rotate_left
     ·intro w h; (try dsimp only at h); go_simp; (try rfl)
     try simp only [Act.put]
     refine tkL 6 ?_ rfl (by kernel_rfl) rfl (.inl ⟨by rfl, ?_⟩) (by assumption) ?_
     rotate_left
     ·intro w h; (try dsimp only at h); go_simp; (try rfl)
     try simp only [Act.put]
     refine tkL 7 ?_ rfl (by kernel_rfl) rfl (.inl ⟨by rfl, ?_⟩) (by assumption) ?_
     rotate_left
     ·intro w h; (try dsimp only at h); go_simp; (try rfl)
     try simp only [Act.put]
     refine tkL 8 ?_ rfl (by kernel_rfl) rfl (.inl ⟨by rfl, ?_⟩) (by assumption) ?_
     rotate_left
     ·intro w h; (try dsimp only at h); go_simp; (try rfl)
     try simp only [Act.put]
     refine tkL 9 ?_ rfl (by kernel_rfl) rfl (.inl ⟨by rfl, ?_⟩) (by assumption) ?_
     rotate_left
     ·intro w h; (try dsimp only at h); go_simp; (try rfl)
     try simp only [Act.put]
     refine tkL 10 ?_ rfl (by kernel_rfl) rfl (.inl ⟨by rfl, ?_⟩) (by assumption) ?_
     rotate_left
     ·intro w h; (try dsimp only at h); go_simp; (try rfl)
     try simp only [Act.put]
     refine tkL 11 ?_ rfl (by kernel_rfl) rfl (.inl ⟨by rfl, ?_⟩) (by assumption) ?_
     rotate_left
     ·intro w h; (try dsimp only at h); go_simp; (try rfl)
     try simp only [Act.put]
     refine tkL 12 ?_ rfl (by kernel_rfl) rfl (.inl ⟨by rfl, ?_⟩) (by assumption) ?_
     rotate_left
     ·intro w h; (try dsimp only at h); go_simp; (try rfl)
     try simp only [Act.put]
     refine tkL 13 ?_ rfl (by kernel_rfl) rfl (.inl ⟨by rfl, ?_⟩) (by assumption) ?_
     rotate_left
     ·intro w h; (try dsimp only at h); go_simp; (try rfl)
     try simp only [Act.put]
     refine tkL 14 ?_ rfl (by kernel_rfl) rfl (.inl ⟨by rfl, ?_⟩) (by assumption) ?_
     rotate_left
     ·intro w h; (try dsimp only at h); go_simp; (try rfl)
     try simp only [Act.put]
     refine tkL 15 ?_ rfl (by kernel_rfl) rfl (.inl ⟨by rfl, ?_⟩) (by assumption) ?_
     rotate_left
     ·intro w h; (try dsimp only at h); go_simp; (try rfl)
     try simp only [Act.put]
     refine tkL 16 ?_ rfl (by kernel_rfl) rfl (.inl ⟨by rfl, ?_⟩) (by assumption) ?_
     rotate_left
     ·intro w h; (try dsimp only at h); go_simp; (try rfl)
     try simp only [Act.put]
     refine tkL 17 ?_ rfl (by kernel_rfl) rfl (.inl ⟨by rfl, ?_⟩) (by assumption) ?_
     rotate_left
     ·intro w h; (try dsimp only at h); go_simp; (try rfl)
     try simp only [Act.put]
     clear e0 e1 k0 k1 hHeld
     have f0' : w6.drew.frozen? ⟨g, j * 2, none⟩ = false := f0
     have f1' : w6.drew.frozen? ⟨g, j * 2 + 1, none⟩ = false := f1
     refine wpAnyL_ready (rs := [18]) (by kernel_rfl) (by simp) ?_
     refine AllReadyL.last rfl (by kernel_rfl) (fun K hK => ?_)
     go_simp
     refine hK.out _ _ ?_
     clear hK K
     try simp only [Act.put, z4, z5, z6]
     refine wpAnyL_done (by kernel_rfl) ?_ _
     have hBq : Blk 80 ((w6.setCell ⟨g, j * 2, none⟩ (.int .i64 x)).setCell ⟨g, j * 2 + 1, none⟩ (.int .i64 y)).drew g (flatD (sideH fs l (j + 1))) := HBn.out
     have hbq : Below g w3 ((w6.setCell ⟨g, j * 2, none⟩ (.int .i64 x)).setCell ⟨g, j * 2 + 1, none⟩ (.int .i64 y)).drew := below_drewN ((HBN.out.setCell (p := ⟨g, j * 2, none⟩) (Nat.le_refl _) _).setCell (p := ⟨g, j * 2 + 1, none⟩) (Nat.le_refl _) _) 1
     clear HBn HBN f0 f1 f0' f1' z0 z1 HS
     go_wp2
     exact ⟨⟨j + 1, by omega, by go_num, hBq, hbq⟩, by simp [intOf]; omega⟩
    ·obtain rfl : j = l.length := by omega
     have hjl : ¬ (l.length : Int) < (l.length : Int) := by omega
     rw [sideH_full] at hB
     have HB : Hid _ := hB
     have HBW : Hid (Below w.heap.size w w5) := HB3.out.trans (hb.mono (by omega))
     clear hB hb
     go_wp2
     go_ret
     exact ⟨g, rfl, by omega, HB.out, HBW.out⟩
def sortL (L : List Int) : List Int := L.mergeSort fun x y => decide (x ≤ y)
theorem sortL_len (L : List Int) : (sortL L).length = L.length := by unfold sortL; simp
theorem sortL_perm (L : List Int) : (sortL L).Perm L := List.mergeSort_perm _ _
theorem sortL_iff {L K : List Int} (hK : K.Pairwise (· < ·)) : sortL L = K ↔ L.Perm K := by
 constructor
 ·intro h
  rw [← h]
  exact (sortL_perm L).symm
 ·intro h
  have h1 : (sortL L).Pairwise (fun x y => decide (x ≤ y) = true) := List.pairwise_mergeSort (fun a b c h1 h2 => by simp at *; omega) (fun a b => by simp; omega) L
  refine List.Perm.eq_of_pairwise (le := fun x y => decide (x ≤ y) = true) (fun a b _ _ h1 h2 => by simp at *; omega) h1 (hK.imp fun {a b} hab => by simp; omega) ((sortL_perm L).trans h)
theorem ints_cells {n : Nat} {w : World} {b off c : Nat} {L : List Int} (h : Ints n w (.slice (some ⟨b, off, none⟩) L.length c) L) : ∀ j, j < L.length → w.cell? ⟨b, off + j, none⟩ = some (.int .i64 (L.getD j 0)) := fun j hj => by
 obtain ⟨b', off', e, _, _, hc⟩ := h.open hj
 simp only [Option.some.injEq, Addr.mk.injEq, and_true] at e
 obtain ⟨rfl, rfl⟩ := e
 rw [hc w (Below.refl _ _) j hj, List.getD_eq_getElem?_getD, List.getElem?_eq_getElem hj]
 rfl
theorem isOrder_any (L K : List Int) (hK : K.length ≤ 4194304) (sl sk : Value) (w : World) (hl : Ints w.heap.size w sl L) (hk : Ints w.heap.size w sk K) :
  Calls Tryz.prog 121 #[sl, sk] w fun e w' => e = .returned (.bool (decide (sortL L = K))) ∧ Below w.heap.size w w' := by
 obtain ⟨p, c, rfl⟩ := hl.len
 obtain ⟨pk, ck, rfl⟩ := hk.len
 by_cases hlen : L.length = K.length
 ·have hL : L.length ≤ 4194304 := by omega
  have hlen' : ((L.length : Int) != (K.length : Int)) = false := by rw [hlen]; simp
  by_cases hz : L.length = 0
  ·have hL0 : L = [] := List.eq_nil_of_length_eq_zero hz
   have hK0 : K = [] := List.eq_nil_of_length_eq_zero (by omega)
   subst hL0
   subst hK0
   have hE : decide (sortL [] = []) = true := by simp [sortL]
   rw [hE]
   have hcl : Calls Tryz.prog 152 #[.slice p 0 c] w fun e w' => ∃ q k, e = .returned (.slice q 0 k) ∧ Below w.heap.size w w' := by
    cases p with
    | none => exact (Tryz.slices_Clone_int_nil 0 c w).mono fun e w' ⟨h1, h2⟩ => ⟨none, 0, h1, by rw [h2]; exact Below.refl _ _⟩
    | some a =>
     refine (Tryz.slices_Clone_int_zero a c w).mono ?_
     rintro e w' ⟨v', h1, h2, _, h3⟩
     obtain ⟨q, k, rfl⟩ := owns_formP h2
     exact ⟨q, k, h1, h3⟩
   clear hE hlen hz
   go_enter Tryz.func121, Tryz.ntmps121
   go_wp2_with fail
   refine hcl.mono ?_
   rintro e w2 ⟨q, k, rfl, hb2⟩
   go_wp2_with fail
   refine (Tryz.slices_Sort_int_none q k w2).mono ?_
   rintro e w3 ⟨rfl, rfl⟩
   go_wp2_with fail
   refine (Tryz.slices_Equal_int_empty q pk k 0 ck w3 (by omega)).mono ?_
   rintro e w4 ⟨rfl, rfl⟩
   go_wp2
   go_ret
   exact ⟨rfl, hb2⟩
  ·obtain ⟨b, off, rfl, hbb, hcap, _⟩ := hl.open (show 0 < L.length by omega)
   obtain ⟨bk, offk, rfl, hbk, hcapk, _⟩ := hk.open (show 0 < K.length by omega)
   have hcl := Tryz.slices_Clone_int b off L.length c L w (Nat.le_refl _) (by omega) (ints_cells hl)
   rw [List.take_length] at hcl
   have HLEN : Hid _ := hlen
   have hpos : 0 < L.length := by omega
   clear hlen hz
   go_enter Tryz.func121, Tryz.ntmps121
   go_wp2_with fail
   refine hcl.mono ?_
   clear hcl
   rintro e w2 ⟨v2, rfl, hO2, hn2, hb2⟩
   rcases hO2.2 with ⟨h0, _⟩ | ⟨g2, cap2, cur2, rfl, hbase, hblk, h1, h2, h3, h4⟩
   ·exact absurd h0 hn2
   have hgl := (Array.getElem?_eq_some_iff.1 hblk).1
   have hso := Tryz.slices_Sort_int g2 0 cap2 L w2 (holds_of_blockI hblk (by simpa using h4)) hgl (by omega)
   go_wp2_with fail
   refine hso.mono ?_
   clear hso
   rintro e w3 ⟨rfl, nn, os, hw3⟩
   have hO3 : w3.ownsRow w.heap.size 3 1 (.slice (some ⟨g2, 0, none⟩) L.length cap2) L.length ((sortL L).map (Value.int .i64)) := by
    rw [hw3]
    exact ownsRow_sortedI (ss := L) (ts := sortL L) (sortL_len L) hbase hblk h1 h2 h3
   have hg3 : w2.grownBy w3 (some g2) := by
    rw [hw3]
    exact grownBy_sortedI _
   have hb3 : Below w.heap.size w w3 := hb2.grown hg3 hb2.size (fun q e => by cases e; exact hbase)
   have hI3 : Ints w3.heap.size w3 (.slice (some ⟨g2, 0, none⟩) (sortL L).length cap2) (sortL L) := by
    refine owns_intsP (base := w.heap.size) ?_
    rw [sortL_len]
    exact hO3
   have hk3 := hk.go hb3
   have heq := Tryz.slices_Equal_int g2 0 L.length cap2 bk offk K.length ck (sortL L) K _ (by rw [sortL_len]; exact Nat.le_refl _) (Nat.le_refl _) (by omega) (by omega) (ints_cells hI3) (ints_cells hk3)
   have e1 : (sortL L).take L.length = sortL L := List.take_of_length_le (by rw [sortL_len]; exact Nat.le_refl _)
   rw [e1, List.take_length] at heq
   have hbe : (sortL L == K) = decide (sortL L = K) := by
    by_cases h : sortL L = K
    ·rw [decide_eq_true h, beq_iff_eq]; exact h
    ·rw [decide_eq_false h, beq_eq_false_iff_ne]; exact h
   rw [hbe] at heq
   clear e1 hbe hI3 hk3 hO3 hg3 hO2 hblk h1 h2 h3 h4 hw3
   have HB3 : Hid _ := hb3
   clear hb3
   obtain ⟨res, HRES⟩ : ∃ res, Hid (decide (sortL L = K) = res) := ⟨_, rfl⟩
   rw [HRES.out] at heq
   go_wp2_with fail
   refine heq.mono ?_
   rintro e w4 ⟨rfl, q, rfl⟩
   go_wp2
   go_ret
   exact ⟨by rw [HRES.out]; rfl, below_drewN HB3.out q⟩
 ·have hlen' : ((L.length : Int) != (K.length : Int)) = true := by
   rw [bne_iff_ne]; omega
  have hE : decide (sortL L = K) = false := decide_eq_false fun e => hlen (by rw [← e, sortL_len])
  rw [hE]
  clear hE hlen
  go_enter Tryz.func121, Tryz.ntmps121
  go_wp2
  go_ret
  exact ⟨rfl, Below.refl _ _⟩
end Go.Proofs.YtalflecmadacaaaGreat
