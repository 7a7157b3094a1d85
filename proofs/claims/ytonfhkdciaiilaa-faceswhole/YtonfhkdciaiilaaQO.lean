/-
  A map from darts to numbers, in memory: look-up, a new entry.
-/
import Derived.Test.YtonfhkdciaiilaaQI
import Derived.Test.YtonfhkdciaiilaaXRSame
import Derived.Test.YtonfhkdciaiilaaQD
import Derived.Test.YtonfhkdciaiilaaQL
import Derived.Test.YtonfhkdciaiilaaXRBad
import Derived.Test.YtonfhkdciaiilaaXRFaceM
import Derived.Test.YtonfhkdciaiilaaXRFacesLaw
namespace Go.Proofs.Ytonfhkdciaiilaa
open Go Go.Proofs Go.RowKit

theorem askN {d : Dt} {w : World} : ∀ (es : List MapEntry) (L : List (Dt × Int)) (i : Nat), es.map (fun e => (e.key, e.val)) = L.map (fun p => (encD p.1, .int .i64 p.2)) →
    (Instr.findAsking 61 (encD d) es i).run Try.prog w = .ok ((L.findIdx? fun p => decide (d = p.1)).map fun k => (i + k, Value.int .i64 (L.getD k ((0, 0), 0)).2)) w
  | [], [], i, _ => by simp [Instr.findAsking]
  | [], p :: L, i, h => by simp at h
  | e :: es, [], i, h => by simp at h
  | e :: es, p :: L, i, h => by
    rw [List.map_cons, List.map_cons, List.cons.injEq, Prod.mk.injEq] at h
    obtain ⟨⟨h1, h2⟩, h3⟩ := h
    have ih := askN (d := d) (w := w) es L (i + 1) h3
    unfold Instr.findAsking
    rw [h1, List.findIdx?_cons]
    by_cases hd : d = p.1
    · simp [eqD_run, hd, h2]
    · simp only [Sem.run_bind, eqD_run, decide_eq_false hd, Result.andThen_ok, Bool.false_eq_true, if_false, ih]
      congr 1
      cases L.findIdx? fun p => decide (d = p.1) with
      | none => rfl
      | some k =>
        simp only [Option.map_some, Option.some.injEq, Prod.mk.injEq, List.getD_cons_succ, and_true]
        omega
theorem findN {d : Dt} {w : World} {es : List MapEntry} {L : List (Dt × Int)} (h : es.map (fun e => (e.key, e.val)) = L.map (fun p => (encD p.1, .int .i64 p.2))) :
    (Instr.findKey 61 (encD d) es).run Try.prog w = .ok ((L.findIdx? fun p => decide (d = p.1)).map fun k => (k, Value.int .i64 (L.getD k ((0, 0), 0)).2)) w := by
  have ha := askN (d := d) (w := w) es L 0 h
  simp only [Nat.zero_add] at ha
  cases es with
  | nil =>
    cases L with
    | nil => simp [Instr.findKey, run_underlying Try.underlying61, Instr.findNow]
    | cons p L => simp at h
  | cons e es =>
    cases L with
    | nil => simp at h
    | cons p L =>
      rw [List.map_cons, List.map_cons, List.cons.injEq, Prod.mk.injEq] at h
      simp [Instr.findKey, run_underlying Try.underlying61, Instr.findNow, Instr.sameNow, encD, h.1.1]
      exact ha
/-- The block m is a map with these entries. -/
def MapN (w : World) (m : Nat) (L : List (Dt × Int)) : Prop := ∃ es ck, w.heap[m]? = some (.map es ck) ∧ es.toList.map (fun e => (e.key, e.val)) = L.map (fun p => (encD p.1, .int .i64 p.2))
theorem MapN.lt {w : World} {m : Nat} {L : List (Dt × Int)} (h : MapN w m L) : m < w.heap.size := by
  obtain ⟨es, ck, h1, _⟩ := h
  exact (Array.getElem?_eq_some_iff.1 h1).1
theorem MapN.keep {w w' : World} {m : Nat} {L : List (Dt × Int)} (h : MapN w m L) (hb : w'.heap[m]? = w.heap[m]?) : MapN w' m L := by
  obtain ⟨es, ck, h1, h2⟩ := h
  exact ⟨es, ck, hb.trans h1, h2⟩
theorem MapN.start (w : World) : MapN (w.alloc (.map #[] 0)) w.heap.size [] := ⟨#[], 0, (MapKept.heap_alloc w _).1, rfl⟩
def lkN (L : List (Dt × Int)) (d : Dt) : Option Int := (L.find? fun p => decide (d = p.1)).map (·.2)
theorem MapN.lookup {w : World} {m : Nat} {L : List (Dt × Int)} (h : MapN w m L) (d : Dt) :
    (Instr.lookup 70 (.map (some m)) (encD d) false).run Try.prog w = .ok (.int .i64 ((lkN L d).getD 0)) w := by
  obtain ⟨es, ck, h1, h2⟩ := h
  have hf := findN (d := d) (w := w) h2
  have e1 : (L.findIdx? fun p => decide (d = p.1)).isSome = (lkN L d).isSome := by
    unfold lkN
    rw [Option.isSome_map, List.findIdx?_isSome, Bool.eq_iff_iff, List.find?_isSome, List.any_eq_true]
  have e2 : ∀ k, (L.findIdx? fun p => decide (d = p.1)) = some k → lkN L d = some (L.getD k ((0, 0), 0)).2 := fun k hk => by
    obtain ⟨hlt, hp, hno⟩ := List.findIdx?_eq_some_iff_getElem.1 hk
    unfold lkN
    have e : (L.find? fun p => decide (d = p.1)) = some L[k] := List.find?_eq_some_iff_getElem.2 ⟨hp, k, hlt, rfl, fun j hj => by simpa using hno j hj⟩
    rw [e]
    simp [hlt]
  cases hk : L.findIdx? fun p => decide (d = p.1) with
  | none =>
    rw [hk] at hf e1
    have e3 : lkN L d = none := by
      cases hl : lkN L d with
      | none => rfl
      | some x => rw [hl] at e1; cases e1
    simp [Instr.lookup, run_underlying Try.underlying70, MapKept.run_getObj_map h1, checkD, hf, e3]
  | some k =>
    rw [hk] at hf
    have e3 := e2 k hk
    simp [Instr.lookup, run_underlying Try.underlying70, MapKept.run_getObj_map h1, checkD, hf, e3]
theorem MapN.update {w : World} {m : Nat} {L : List (Dt × Int)} (h : MapN w m L) {d : Dt} (hd : ∀ p ∈ L, p.1 ≠ d) (e : Int) :
    ∃ w', (Instr.mapUpdate 70 (.map (some m)) (encD d) (.int .i64 e)).run Try.prog w = .ok () w' ∧ MapN w' m (L ++ [(d, e)]) ∧ w.grownBy w' (some m) := by
  obtain ⟨es, ck, h1, h2⟩ := h
  have hf := findN (d := d) (w := w) h2
  have hno : (L.findIdx? fun p => decide (d = p.1)) = none := by
    rw [List.findIdx?_eq_none_iff]
    intro p hp
    have := hd p hp
    simp
    exact fun e => this e.symm
  rw [hno] at hf
  have hlt := (Array.getElem?_eq_some_iff.1 h1).1
  refine ⟨{ w with heap := w.heap.setIfInBounds m (.map (es.push { key := encD d, val := .int .i64 e, born := ck }) (ck + 1)) }, ?_, ⟨es.push { key := encD d, val := .int .i64 e, born := ck }, ck + 1, by simp [hlt], ?_⟩, ⟨rfl, rfl, rfl, by simp, fun i _ hi => ?_⟩⟩
  · simp [Instr.mapUpdate, run_underlying Try.underlying70, MapKept.run_getObj_map h1, checkD, hf, MapKept.run_setObj_map _ h1]
  · rw [Array.toList_push, List.map_append, h2, List.map_append]
    rfl
  · have : m ≠ i := fun e => hi (by rw [e])
    simp [this]
/-- 'm[k] = v' at the operation. -/
theorem wpList_putN (w : World) {ops : Array Oper} {rest : List Oper} {o : Oper} {a : Act} {Q : Exit → Act → World → Prop}
    (hg : o.guard = none) (m x v : Operand) (hop : o.op = Op.mapUpdate 70 m x v) (M : Nat) (L : List (Dt × Int)) (d : Dt) (e : Int)
    (hm : a.eval m = .map (some M)) (h : MapN w M L) (hd : ∀ p ∈ L, p.1 ≠ d) (hx : a.eval x = encD d) (hv : a.eval v = .int .i64 e)
    (hK : ∀ w', MapN w' M (L ++ [(d, e)]) → w.grownBy w' (some M) → wpList Try.prog ops Q rest (a.put o.dst undef) w') :
    wpList Try.prog ops Q (o :: rest) a w := by
  refine wpList_plain hg fun K' hK' => ?_
  obtain ⟨w', hrun, r1, r2⟩ := h.update hd e
  unfold Oper.wp
  simp [execOp, hop, hm, hx, hv, hrun, Result.andThen]
  exact hK' _ _ (hK w' r1 r2)
end Go.Proofs.Ytonfhkdciaiilaa

namespace Go.Proofs.Ytonfhkdciaiilaa
open Go Go.Proofs Go.RowKit

/-- The darts of the first j faces, each with its face's number. -/
def entL (fs : List (List Dt)) (j : Nat) : List (Dt × Int) := (List.range j).flatMap fun (v : Nat) => (fs.getD v []).map fun d => (d, (v : Int))
theorem entL_succ (fs : List (List Dt)) (j : Nat) : entL fs (j + 1) = entL fs j ++ (fs.getD j []).map fun d => (d, (j : Int)) := by
  unfold entL
  rw [List.range_succ, List.flatMap_append]
  simp
theorem entL_keys (fs : List (List Dt)) : ∀ j, (entL fs j).map Prod.fst = (fs.take j).flatten
  | 0 => rfl
  | j + 1 => by
    rw [entL_succ, List.map_append, entL_keys fs j, List.take_add_one, List.flatten_append, List.map_map, List.getD_eq_getElem?_getD]
    congr 1
    cases fs[j]? <;> simp [Function.comp_def]
theorem ent_new {fs : List (List Dt)} (hn : fs.flatten.Nodup) {j k : Nat} (hj : j < fs.length) (hk : k < fs[j].length) : ∀ p ∈ entL fs j ++ (fs[j].take k).map fun d => (d, (j : Int)), p.1 ≠ fs[j][k] := by
  intro p hp e
  have e1 : fs.flatten = (fs.take j).flatten ++ (fs[j] ++ (fs.drop (j + 1)).flatten) := by
    conv => lhs; rw [← List.take_append_drop j fs, List.drop_eq_getElem_cons hj]
    rw [List.flatten_append, List.flatten_cons]
  rw [e1] at hn
  obtain ⟨_, h2, h3⟩ := List.nodup_append.1 hn
  rcases List.mem_append.1 hp with h | h
  · have h4 : p.1 ∈ (fs.take j).flatten := by
      rw [← entL_keys]
      exact List.mem_map_of_mem h
    exact h3 _ h4 _ (List.mem_append_left _ (List.getElem_mem hk)) e
  · obtain ⟨d, hd, rfl⟩ := List.mem_map.1 h
    obtain ⟨i, hi, hid⟩ := List.mem_take_iff_getElem.1 hd
    have h5 := (List.nodup_append.1 h2).1
    simp only at e
    rw [← hid] at e
    have := (List.getElem_inj h5).1 e
    omega
/-- The number of a dart's face. -/
def faceOf (fs : List (List Dt)) (d : Dt) : Int := (lkN (entL fs fs.length) d).getD 0
def sidesL (fs : List (List Dt)) (l : List Ed) : List Dt := l.map fun e => (faceOf fs (e.1, e.2.1), faceOf fs (e.2.1, e.1))
theorem sidesL_len (fs : List (List Dt)) (l : List Ed) : (sidesL fs l).length = l.length := List.length_map ..
/-- The face of a dart of the face i is i. -/
theorem faceOf_at {fs : List (List Dt)} (hn : fs.flatten.Nodup) {i : Nat} (hi : i < fs.length) {d : Dt} (hd : d ∈ fs[i]) : faceOf fs d = (i : Int) := by
  have hm : (d, (i : Int)) ∈ entL fs fs.length := by
    unfold entL
    refine List.mem_flatMap.2 ⟨i, List.mem_range.2 hi, ?_⟩
    rw [List.getD_eq_getElem?_getD, List.getElem?_eq_getElem hi]
    exact List.mem_map_of_mem hd
  have hk : ((entL fs fs.length).map Prod.fst).Nodup := by rw [entL_keys, List.take_length]; exact hn
  unfold faceOf lkN
  cases hf : (entL fs fs.length).find? fun p => decide (d = p.1) with
  | none =>
    have := List.find?_eq_none.1 hf _ hm
    simp at this
  | some q =>
    have h1 := List.find?_some hf
    have h2 := List.mem_of_find?_eq_some hf
    obtain ⟨a, ha, ea⟩ := List.mem_iff_getElem.1 hm
    obtain ⟨b, hb, eb⟩ := List.mem_iff_getElem.1 h2
    have e3 : ((entL fs fs.length).map Prod.fst)[a]'(by simpa using ha) = ((entL fs fs.length).map Prod.fst)[b]'(by simpa using hb) := by
      simp only [List.getElem_map, ea, eb]
      simpa using h1
    have e4 := (List.getElem_inj hk).1 e3
    subst e4
    rw [ea] at eb
    rw [← eb]
    rfl
theorem pairs_made (n : Nat) : (madeCells (Value.agg #[.int .i64 0, .int .i64 0]).cells (n * 2)).toList = flatD (List.replicate n (0, 0)) := by
  apply List.ext_getElem
  · rw [flatD_len]
    simp [madeCells]
  · intro i h1 h2
    rw [flatD_len, List.length_replicate] at h2
    obtain ⟨k0, k1⟩ := flatD_at (L := List.replicate n ((0, 0) : Dt)) (j := i / 2) (x := (0, 0)) (by rw [List.getElem?_replicate, if_pos (by omega)])
    have hz : (Value.agg #[.int .i64 0, .int .i64 0]).cells = #[.int .i64 0, .int .i64 0] := by kernel_rfl
    rcases Nat.mod_two_eq_zero_or_one i with h0 | h0
    · rw [show i / 2 * 2 = i by omega] at k0
      rw [List.getElem?_eq_getElem (by rw [flatD_len, List.length_replicate]; exact h2)] at k0
      rw [Option.some.inj k0]
      simp [madeCells, hz, h0]
    · rw [show i / 2 * 2 + 1 = i by omega] at k1
      rw [List.getElem?_eq_getElem (by rw [flatD_len, List.length_replicate]; exact h2)] at k1
      rw [Option.some.inj k1]
      simp [madeCells, hz, h0]
theorem flatD_set : ∀ (L : List Dt) (j : Nat) (a b : Int), j < L.length → ((flatD L).set (j * 2) (.int .i64 a)).set (j * 2 + 1) (.int .i64 b) = flatD (L.set j (a, b))
  | [], j, a, b, h => by simp at h
  | d :: L, 0, a, b, h => rfl
  | d :: L, j + 1, a, b, h => by
    have h' : j < L.length := by simpa using h
    have ih := flatD_set L j a b h'
    have e : flatD (d :: L) = .int .i64 d.1 :: .int .i64 d.2 :: flatD L := rfl
    have e2 : ∀ (x y a b : Value) (F : List Value), ((x :: y :: F).set (j * 2 + 1 + 1) a).set (j * 2 + 1 + 1 + 1) b = x :: y :: ((F.set (j * 2) a).set (j * 2 + 1) b) := fun _ _ _ _ _ => rfl
    rw [e, show (j + 1) * 2 = j * 2 + 1 + 1 by omega, e2, ih]
    rfl
/-- The pairs as far as the first j edges tell. -/
def sideH (fs : List (List Dt)) (l : List Ed) (j : Nat) : List Dt := (sidesL fs (l.take j)) ++ List.replicate (l.length - j) (0, 0)
theorem sideH_zero (fs : List (List Dt)) (l : List Ed) : sideH fs l 0 = List.replicate l.length (0, 0) := by simp [sideH, sidesL]
theorem sideH_full (fs : List (List Dt)) (l : List Ed) : sideH fs l l.length = sidesL fs l := by simp [sideH]
theorem sideH_len (fs : List (List Dt)) (l : List Ed) {j : Nat} (h : j ≤ l.length) : (sideH fs l j).length = l.length := by
  simp [sideH, sidesL]
  omega
theorem sideH_step (fs : List (List Dt)) (l : List Ed) {j : Nat} (h : j < l.length) : (sideH fs l j).set j (faceOf fs (l[j].1, l[j].2.1), faceOf fs (l[j].2.1, l[j].1)) = sideH fs l (j + 1) := by
  unfold sideH sidesL
  have e : l.length - j = (l.length - (j + 1)) + 1 := by omega
  have h1 : ((l.take j).map fun e : Ed => (faceOf fs (e.1, e.2.1), faceOf fs (e.2.1, e.1))).length = j := by simp; omega
  rw [List.set_append, h1, if_neg (Nat.lt_irrefl j), Nat.sub_self, e, List.replicate_succ, List.set_cons_zero, List.take_add_one, List.getElem?_eq_getElem h, List.map_append, List.append_assoc]
  rfl
end Go.Proofs.Ytonfhkdciaiilaa

namespace Go.Proofs.Ytonfhkdciaiilaa
open Go Go.Proofs Go.RowKit

theorem infoPr : (Try.prog.info? 42).map (fun i => (i.zero, i.size, i.bytes)) = some (some (.agg #[.int .i64 0, .int .i64 0]), 2, 16) := by kernel_rfl

set_option maxRecDepth 100000 in
set_option maxHeartbeats 4000000 in
theorem sides_any (n : Int) (l : List Ed) (hm : l.length ≤ 4194304) (fs : List (List Dt)) (hf : fs.length ≤ 16777216) (hin : ∀ x ∈ fs, x.length ≤ 16777216) (hnd : fs.flatten.Nodup) (sv lv : Value) (w : World) (hl : Edges w.heap.size w sv l) (hg : LDr w.heap.size w lv fs) :
    Calls Try.prog 25 #[.agg #[.int .i64 n, sv], lv] w fun e w' => ∃ g, e = .returned (.slice (some ⟨g, 0, none⟩) l.length l.length) ∧ w.heap.size ≤ g ∧ Blk 42 w' g (flatD (sidesL fs l)) ∧ Below w.heap.size w w' := by
  obtain ⟨p, c, rfl⟩ := hl.len
  obtain ⟨pg, cg, rfl⟩ := hg.len
  obtain ⟨i0, hi, hz0, hz1, hz2⟩ := info_parts infoPr
  have hbA : Below w.heap.size w (w.alloc (.cells #[.int .i64 n, .slice p l.length c] 24)) := (Below.refl _ _).alloc (Nat.le_refl _) _
  have hX : Blk 24 (w.alloc (.cells #[.int .i64 n, .slice p l.length c] 24)) w.heap.size [.int .i64 n, .slice p l.length c] := heap_alloc_new w _
  have q1 := hX.cell (j := 1) rfl
  have hs1 : (w.alloc (.cells #[.int .i64 n, .slice p l.length c] 24)).heap.size = w.heap.size + 1 := by simp
  have HL : Hid (Edges w.heap.size w (.slice p l.length c) l) := hl
  have HG : Hid (LDr w.heap.size w (.slice pg fs.length cg) fs) := hg
  have HND : Hid fs.flatten.Nodup := hnd
  have HIN : Hid (∀ x ∈ fs, x.length ≤ 16777216) := hin
  clear hl hg hnd hin
  go_enter Try.func25, Try.ntmps25
  generalize hw1 : w.alloc (.cells #[.int .i64 n, .slice p l.length c] 24) = w1 at *
  have hwp : IntKind.i64.wrap (2 * (l.length : Int)) = 2 * (l.length : Int) := wrap_i _ (by omega) (by omega)
  have hmm : (Instr.makeMap 70 (some (.int .i64 (2 * (l.length : Int))))).run Try.prog w1 = .ok (.map (some w1.heap.size)) (w1.alloc (.map #[] 0)) := by
    simp [Instr.makeMap, run_underlying Try.underlying70, asInt]
    rfl
  have hM0 : MapN (w1.alloc (.map #[] 0)) (w.heap.size + 1) [] := by rw [← hs1]; exact MapN.start w1
  have hbB : Below (w.heap.size + 1) w1 (w1.alloc (.map #[] 0)) := (Below.refl _ _).alloc (by omega) _
  go_wp2
  generalize hwm : w.heap.size + 1 = m at *
  generalize w1.alloc (.map #[] 0) = w2 at *
  clear hwp hmm hX
  go_loopw [20] (fun iv wr => ∃ j : Nat, j ≤ fs.length ∧ iv = .int .i64 j ∧ Hid (MapN wr m (entL fs j)) ∧ Below m w1 wr) (fun i _ => fs.length - (intOf i).toNat)
  case atStart => exact ⟨0, Nat.zero_le _, rfl, hM0, hbB⟩
  case round =>
    obtain ⟨j, hj, rfl, HMj, hb⟩ := hrel
    have hbw : Below w.heap.size w wr := hbA.trans (hb.mono (by omega))
    by_cases hlt : j < fs.length
    · have hjl : (j : Int) < (fs.length : Int) := by omega
      obtain ⟨b, off, rfl, hbb, hcap, px, cx, hIx, c0⟩ := (HG.out.below hbw).cellAt hlt
      have hxl := HIN.out fs[j] (List.getElem_mem hlt)
      have hg : fs.getD j [] = fs[j] := by rw [List.getD_eq_getElem?_getD, List.getElem?_eq_getElem hlt]; rfl
      have HNX : Hid (entL fs (j + 1) = entL fs j ++ (fs[j].take fs[j].length).map fun d => (d, (j : Int))) := by rw [Hid, entL_succ, hg, List.take_length]
      have HNW : Hid (∀ k (hk : k < fs[j].length), ∀ q ∈ entL fs j ++ (fs[j].take k).map fun d => (d, (j : Int)), q.1 ≠ fs[j][k]) := fun k hk => ent_new HND.out hlt hk
      have HBW : Hid (Below w.heap.size w wr) := hbw
      have HIX : Hid (Drts w.heap.size wr (.slice px fs[j].length cx) fs[j]) := hIx
      clear hg hIx hbw
      generalize fs[j] = X at *
      generalize wr = w4 at *
      go_wp2
      go_loopw [27] (fun iv wx => ∃ k : Nat, k ≤ X.length ∧ iv = .int .i64 k ∧ Hid (MapN wx m (entL fs j ++ (X.take k).map fun d => (d, (j : Int)))) ∧ Below m w4 wx) (fun i _ => X.length - (intOf i).toNat)
      case atStart => exact ⟨0, Nat.zero_le _, rfl, by unfold Hid; simpa using HMj.out, Below.refl _ _⟩
      case round =>
        obtain ⟨k, hk, rfl, HMk, hbk⟩ := hrel
        by_cases hkl : k < X.length
        · have hkl' : (k : Int) < (X.length : Int) := by omega
          obtain ⟨b2, off2, hpx, hbb2, hcap2, c2, c3⟩ := (HIX.out.below (hbk.mono (by omega))).cellAt hkl
          have HNK : Hid _ := HNW.out k hkl
          have HRS : Hid ((X.take (k + 1)).map (fun d => (d, (j : Int))) = (X.take k).map (fun d => (d, (j : Int))) ++ [(X[k], (j : Int))]) := by
            unfold Hid
            rw [List.take_add_one, List.getElem?_eq_getElem hkl, List.map_append]
            rfl
          subst hpx
          have hms : m < wr.heap.size := HMk.out.lt
          generalize X[k] = x at *
          obtain ⟨xa, xb⟩ := x
          simp only at c2 c3
          have HBK : Hid (Below m w4 wr) := hbk
          have hbN : Below wr.heap.size wr (wr.alloc (.cells #[.int .i64 xa, .int .i64 xb] 61)) := (Below.refl _ _).alloc (Nat.le_refl _) _
          have HMN : Hid (MapN (wr.alloc (.cells #[.int .i64 xa, .int .i64 xb] 61)) m (entL fs j ++ (X.take k).map fun d => (d, (j : Int)))) := HMk.out.keep (hbN.block m hms)
          clear hbk HMk hbN
          go_wp2_with (at_mapUpdate; refine wpList_putN _ rfl _ _ _ rfl m (entL fs j ++ (X.take k).map fun d => (d, (j : Int))) (xa, xb) (j : Int) rfl HMN.out HNK.out rfl rfl ?_; intro w5 hM5 hg5)
          have HM5 : Hid (MapN w5 m (entL fs j ++ (X.take (k + 1)).map fun d => (d, (j : Int)))) := by rw [Hid, HRS.out, ← List.append_assoc]; exact hM5
          have hb5 : Below m w4 w5 := (HBK.out.alloc (by omega) _).grown hg5 (by simp; omega) (fun q e => by cases e; exact Nat.le_refl _)
          exact ⟨⟨k + 1, by omega, by go_num, HM5, hb5⟩, by simp [intOf]; omega⟩
        · obtain rfl : k = X.length := by omega
          have hkl' : ¬ (X.length : Int) < (X.length : Int) := by omega
          go_wp2
          exact ⟨⟨j + 1, by omega, by go_num, by rw [HNX.out]; exact HMk.out, hb.trans hbk⟩, by simp [intOf]; omega⟩
    · obtain rfl : j = fs.length := by omega
      have hjl : ¬ (fs.length : Int) < (fs.length : Int) := by omega
      have y1 := (hb.cell (p := ⟨w.heap.size, 1, none⟩) (by simp only; omega)).trans q1
      have hms : m < wr.heap.size := HMj.out.lt
      clear q1 hM0 hbB HG HIN HND hj hlt
      go_wp2_with (at_make; refine wpList_make_full _ rfl _ _ 28 rfl m 42 i0 (.agg #[.int .i64 0, .int .i64 0]) 2 Try.underlying28 hi hz0 hz1 .i64 .i64 _ _ l.length rfl rfl rfl rfl (by rw [hz2]; omega) (by unfold maxLen; omega) (Nat.le_of_lt hms) ?_; intro w3 hown hgrow; have hb3 : Below wr.heap.size wr w3 := (Below.refl _ _).grown hgrow (Nat.le_refl _) (fun k e => by cases e); have x1 := (hb3.cell (p := ⟨w.heap.size, 1, none⟩) (by simp only; omega)).trans y1)
      have hrow := Blk.made hown
      rw [pairs_made, ← sideH_zero fs l] at hrow
      have HM3 : Hid (MapN w3 m (entL fs fs.length)) := HMj.out.keep (hb3.block m hms)
      have HB3 : Hid (Below w.heap.size w w3) := hbw.trans (hb3.mono hbw.size)
      clear hown hgrow hi hz0 hz1 hz2 hb3 y1 hbw hb
      generalize hge : wr.heap.size = g at *
      go_loopw [43] (fun i wy => ∃ j : Nat, j ≤ l.length ∧ i = .int .i64 j ∧ Blk 42 wy g (flatD (sideH fs l j)) ∧ Below g w3 wy) (fun i _ => l.length - (intOf i).toNat)
      case atStart => exact ⟨0, Nat.zero_le _, rfl, hrow, Below.refl _ _⟩
      case round =>
        obtain ⟨j, hj, rfl, hB, hb⟩ := hrel
        rename World => w5
        by_cases hlt : j < l.length
        · obtain ⟨b, off, rfl, hbb, hcap, hc, -⟩ := HL.out.open hlt
          obtain ⟨c0, c1, c2⟩ := hc w5 (HB3.out.trans (hb.mono (by omega))) j hlt
          have hjl : (j : Int) < (l.length : Int) := by omega
          have HS : Hid _ := sideH_step fs l hlt
          have hgl := hB.lt
          have hM5 : MapN w5 m (entL fs fs.length) := HM3.out.keep (hb.block m hms)
          have HLN : Hid (j < (sideH fs l j).length) := by rw [Hid, sideH_len fs l hj]; exact hlt
          clear hc
          generalize l[j].1 = u at *
          generalize l[j].2.1 = v at *
          generalize l[j].2.2 = wt at *
          have hbN : Below w5.heap.size w5 (w5.alloc (.cells #[.int .i64 u, .int .i64 v, .int .i64 wt] 44)) := (Below.refl _ _).alloc (Nat.le_refl _) _
          have hE : Blk 44 (w5.alloc (.cells #[.int .i64 u, .int .i64 v, .int .i64 wt] 44)) w5.heap.size [.int .i64 u, .int .i64 v, .int .i64 wt] := heap_alloc_new w5 _
          have e0 := hE.cell (j := 0) rfl
          have e1 := hE.cell (j := 1) rfl
          have hMN : MapN (w5.alloc (.cells #[.int .i64 u, .int .i64 v, .int .i64 wt] 44)) m (entL fs fs.length) := hM5.keep (hbN.block m (by omega))
          have hBN := hB.go hbN
          have HBN : Hid (Below g w3 (w5.alloc (.cells #[.int .i64 u, .int .i64 v, .int .i64 wt] 44))) := hb.alloc (by omega) _
          have hne : w5.heap.size ≠ g := by omega
          clear hbN hE hM5 hB
          go_wp2_with fail
          generalize w5.alloc (.cells #[.int .i64 u, .int .i64 v, .int .i64 wt] 44) = w6 at *
          have l0 := hMN.lookup (u, v)
          have l1 := hMN.lookup (v, u)
          have e2 : ∀ d, (lkN (entL fs fs.length) d).getD 0 = faceOf fs d := fun _ => rfl
          rw [e2] at l0 l1
          have k0 : (Instr.lookup 70 (.map (some m)) (.agg #[.int .i64 u, .int .i64 v]) false).run Try.prog w6.drew = .ok (.int .i64 (faceOf fs (u, v))) w6.drew := (hMN.keep (w' := w6.drew) rfl).lookup (u, v)
          have k1 : (Instr.lookup 70 (.map (some m)) (.agg #[.int .i64 v, .int .i64 u]) false).run Try.prog w6.drew = .ok (.int .i64 (faceOf fs (v, u))) w6.drew := (hMN.keep (w' := w6.drew) rfl).lookup (v, u)
          have hBn := (hBN.set (j * 2) (.int .i64 (faceOf fs (u, v)))).set (j * 2 + 1) (.int .i64 (faceOf fs (v, u)))
          rw [flatD_set _ j _ _ HLN.out, HS.out] at hBn
          have HBn : Hid _ := hBn
          have f0 := hBN.frozen (j * 2)
          have f1 := hBN.frozen (j * 2 + 1)
          have z0 := hBN.cell (flatD_at (List.getElem?_eq_getElem HLN.out)).1
          have z1 := hBN.cell (flatD_at (List.getElem?_eq_getElem HLN.out)).2
          clear l0 l1 e2 hBn hBN hMN c0 c1 c2
          generalize faceOf fs (u, v) = x at *
          generalize faceOf fs (v, u) = y at *
          refine wp_region_last (S := (fun w' : World => w'.cell? ⟨w5.heap.size, 0, none⟩ = some (.int .i64 u) ∧ w'.cell? ⟨w5.heap.size, 1, none⟩ = some (.int .i64 v) ∧ (Instr.lookup 70 (.map (some m)) (.agg #[.int .i64 u, .int .i64 v]) false).run Try.prog w' = .ok (.int .i64 x) w' ∧ (Instr.lookup 70 (.map (some m)) (.agg #[.int .i64 v, .int .i64 u]) false).run Try.prog w' = .ok (.int .i64 y) w')) (by kernel_rfl) ⟨e0, e1, k0, k1⟩ (fun hHeld => ?_)
          refine wpAnyL_take (i := 0) (v := ?_) rfl (by kernel_rfl) (by kernel_rfl) (by kernel_rfl) (by kernel_rfl) (fun _ _ _ h => h) (Or.inl ⟨by rfl, ?_⟩) (by assumption) ?_
          rotate_left
          · intro w hSw; (try dsimp only at hSw); go_simp; (try with_reducible rfl)
          try simp only [Act.put, List.setIfInBounds_toArray]
          refine wpAnyL_take (i := 1) (v := ?_) rfl (by kernel_rfl) (by kernel_rfl) (by kernel_rfl) (by kernel_rfl) (fun _ _ _ h => h) (Or.inl ⟨by rfl, ?_⟩) (by assumption) ?_
          rotate_left
          · intro w hSw; (try dsimp only at hSw); go_simp; (try with_reducible rfl)
          try simp only [Act.put]
          refine wpAnyL_take (i := 2) (v := ?_) rfl (by kernel_rfl) (by kernel_rfl) (by kernel_rfl) (by kernel_rfl) (fun _ _ _ h => h) (Or.inl ⟨by rfl, ?_⟩) (by assumption) ?_
          rotate_left
          · intro w hSw; (try dsimp only at hSw); go_simp; (try with_reducible rfl)
          try simp only [Act.put]
          refine wpAnyL_take (i := 3) (v := ?_) rfl (by kernel_rfl) (by kernel_rfl) (by kernel_rfl) (by kernel_rfl) (fun _ _ _ h => h) (Or.inl ⟨by rfl, ?_⟩) (by assumption) ?_
          rotate_left
          · intro w hSw; (try dsimp only at hSw); go_simp; (try with_reducible rfl)
          try simp only [Act.put]
          refine wpAnyL_take (i := 4) (v := ?_) rfl (by kernel_rfl) (by kernel_rfl) (by kernel_rfl) (by kernel_rfl) (fun _ _ _ h => h) (Or.inl ⟨by rfl, ?_⟩) (by assumption) ?_
          rotate_left
          · intro w hSw; (try dsimp only at hSw); go_simp; (try with_reducible rfl)
          try simp only [Act.put]
          refine wpAnyL_take (i := 5) (v := ?_) rfl (by kernel_rfl) (by kernel_rfl) (by kernel_rfl) (by kernel_rfl) (fun _ _ _ h => h) (Or.inl ⟨by rfl, ?_⟩) (by assumption) ?_
          rotate_left
          · intro w hSw; (try dsimp only at hSw); go_simp; (try with_reducible rfl)
          try simp only [Act.put]
          refine wpAnyL_take (i := 6) (v := ?_) rfl (by kernel_rfl) (by kernel_rfl) (by kernel_rfl) (by kernel_rfl) (fun _ _ _ h => h) (Or.inl ⟨by rfl, ?_⟩) (by assumption) ?_
          rotate_left
          · intro w hSw; (try dsimp only at hSw); go_simp; (try with_reducible rfl)
          try simp only [Act.put]
          refine wpAnyL_take (i := 7) (v := ?_) rfl (by kernel_rfl) (by kernel_rfl) (by kernel_rfl) (by kernel_rfl) (fun _ _ _ h => h) (Or.inl ⟨by rfl, ?_⟩) (by assumption) ?_
          rotate_left
          · intro w hSw; (try dsimp only at hSw); go_simp; (try with_reducible rfl)
          try simp only [Act.put]
          refine wpAnyL_take (i := 8) (v := ?_) rfl (by kernel_rfl) (by kernel_rfl) (by kernel_rfl) (by kernel_rfl) (fun _ _ _ h => h) (Or.inl ⟨by rfl, ?_⟩) (by assumption) ?_
          rotate_left
          · intro w hSw; (try dsimp only at hSw); go_simp; (try with_reducible rfl)
          try simp only [Act.put]
          refine wpAnyL_take (i := 9) (v := ?_) rfl (by kernel_rfl) (by kernel_rfl) (by kernel_rfl) (by kernel_rfl) (fun _ _ _ h => h) (Or.inl ⟨by rfl, ?_⟩) (by assumption) ?_
          rotate_left
          · intro w hSw; (try dsimp only at hSw); go_simp; (try with_reducible rfl)
          try simp only [Act.put]
          refine wpAnyL_take (i := 10) (v := ?_) rfl (by kernel_rfl) (by kernel_rfl) (by kernel_rfl) (by kernel_rfl) (fun _ _ _ h => h) (Or.inl ⟨by rfl, ?_⟩) (by assumption) ?_
          rotate_left
          · intro w hSw; (try dsimp only at hSw); go_simp; (try with_reducible rfl)
          try simp only [Act.put]
          refine wpAnyL_take (i := 11) (v := ?_) rfl (by kernel_rfl) (by kernel_rfl) (by kernel_rfl) (by kernel_rfl) (fun _ _ _ h => h) (Or.inl ⟨by rfl, ?_⟩) (by assumption) ?_
          rotate_left
          · intro w hSw; (try dsimp only at hSw); go_simp; (try with_reducible rfl)
          try simp only [Act.put]
          refine wpAnyL_take (i := 12) (v := ?_) rfl (by kernel_rfl) (by kernel_rfl) (by kernel_rfl) (by kernel_rfl) (fun _ _ _ h => h) (Or.inl ⟨by rfl, ?_⟩) (by assumption) ?_
          rotate_left
          · intro w hSw; (try dsimp only at hSw); go_simp; (try with_reducible rfl)
          try simp only [Act.put]
          refine wpAnyL_take (i := 13) (v := ?_) rfl (by kernel_rfl) (by kernel_rfl) (by kernel_rfl) (by kernel_rfl) (fun _ _ _ h => h) (Or.inl ⟨by rfl, ?_⟩) (by assumption) ?_
          rotate_left
          · intro w hSw; (try dsimp only at hSw); go_simp; (try with_reducible rfl)
          try simp only [Act.put]
          refine wpAnyL_take (i := 14) (v := ?_) rfl (by kernel_rfl) (by kernel_rfl) (by kernel_rfl) (by kernel_rfl) (fun _ _ _ h => h) (Or.inl ⟨by rfl, ?_⟩) (by assumption) ?_
          rotate_left
          · intro w hSw; (try dsimp only at hSw); go_simp; (try with_reducible rfl)
          try simp only [Act.put]
          refine wpAnyL_take (i := 15) (v := ?_) rfl (by kernel_rfl) (by kernel_rfl) (by kernel_rfl) (by kernel_rfl) (fun _ _ _ h => h) (Or.inl ⟨by rfl, ?_⟩) (by assumption) ?_
          rotate_left
          · intro w hSw; (try dsimp only at hSw); go_simp; (try with_reducible rfl)
          try simp only [Act.put]
          refine wpAnyL_take (i := 16) (v := ?_) rfl (by kernel_rfl) (by kernel_rfl) (by kernel_rfl) (by kernel_rfl) (fun _ _ _ h => h) (Or.inl ⟨by rfl, ?_⟩) (by assumption) ?_
          rotate_left
          · intro w hSw; (try dsimp only at hSw); go_simp; (try with_reducible rfl)
          try simp only [Act.put]
          refine wpAnyL_take (i := 17) (v := ?_) rfl (by kernel_rfl) (by kernel_rfl) (by kernel_rfl) (by kernel_rfl) (fun _ _ _ h => h) (Or.inl ⟨by rfl, ?_⟩) (by assumption) ?_
          rotate_left
          · intro w hSw; (try dsimp only at hSw); go_simp; (try with_reducible rfl)
          try simp only [Act.put]
          clear e0 e1 k0 k1 hHeld
          have f0' : w6.drew.frozen? ⟨g, j * 2, none⟩ = false := f0
          have f1' : w6.drew.frozen? ⟨g, j * 2 + 1, none⟩ = false := f1
          refine wpAnyL_ready (rs := [18]) (by kernel_rfl) (by simp) ?_
          refine AllReadyL.last rfl (by kernel_rfl) (fun K hK => ?_)
          go_simp
          refine hK.out _ _ ?_
          clear hK K
          try simp only [Act.put, List.setIfInBounds_toArray, List.set_cons_zero, List.set_cons_succ]
          refine wpAnyL_done (by kernel_rfl) ?_ _
          have hBq : Blk 42 ((w6.setCell ⟨g, j * 2, none⟩ (.int .i64 x)).setCell ⟨g, j * 2 + 1, none⟩ (.int .i64 y)).drew g (flatD (sideH fs l (j + 1))) := HBn.out
          have hbq : Below g w3 ((w6.setCell ⟨g, j * 2, none⟩ (.int .i64 x)).setCell ⟨g, j * 2 + 1, none⟩ (.int .i64 y)).drew := below_drewN ((HBN.out.setCell (p := ⟨g, j * 2, none⟩) (Nat.le_refl _) _).setCell (p := ⟨g, j * 2 + 1, none⟩) (Nat.le_refl _) _) 1
          clear HBn HBN f0 f1 f0' f1' z0 z1 HS
          go_wp2
          exact ⟨⟨j + 1, by omega, by go_num, hBq, hbq⟩, by simp [intOf]; omega⟩
        · obtain rfl : j = l.length := by omega
          have hjl : ¬ (l.length : Int) < (l.length : Int) := by omega
          rw [sideH_full] at hB
          have HB : Hid _ := hB
          have HBW : Hid (Below w.heap.size w w5) := HB3.out.trans (hb.mono (by omega))
          clear hB hb
          go_wp2
          go_ret
          exact ⟨g, rfl, by omega, HB.out, HBW.out⟩
end Go.Proofs.Ytonfhkdciaiilaa

namespace Go.Proofs.Ytonfhkdciaiilaa
open Go Go.Proofs Go.RowKit

set_option maxRecDepth 100000 in
set_option maxHeartbeats 2000000 in
theorem inPlane_any (N : Nat) (l : List Ed) (hR : RightG (N : Int) l) (r : List (List Int)) (hS : SysR N l r) (hP : planeK (numsL N l r) = 0) (sv rv : Value) (w : World) (hl : Edges w.heap.size w sv l) (hr : Lsts w.heap.size w rv r) :
    Calls Try.prog 24 #[.agg #[.int .i64 (N : Int), sv], rv] w fun e w' => ∃ lv svs, e = .returned (.tuple #[lv, .int .i64 0]) ∧ GrpD w.heap.size lv svs (facesL N l r) w' ∧ Below w.heap.size w w' := by
  have hbA : Below w.heap.size w (w.alloc (.cells #[.int .i64 (N : Int), sv] 24)) := (Below.refl _ _).alloc (Nat.le_refl _) _
  have hX : Blk 24 (w.alloc (.cells #[.int .i64 (N : Int), sv] 24)) w.heap.size [.int .i64 (N : Int), sv] := heap_alloc_new w _
  have q0 := hX.cell (j := 0) rfl
  have q1 := hX.cell (j := 1) rfl
  have hrc := plane_any N l hR r hS sv rv _ (hl.go hbA) (hr.go hbA)
  rw [hP] at hrc
  have HX : Hid (Blk 24 (w.alloc (.cells #[.int .i64 (N : Int), sv] 24)) w.heap.size [.int .i64 (N : Int), sv]) := hX
  have HN : Hid (∀ W, Below w.heap.size w W → Calls Try.prog 39 #[.agg #[.int .i64 (N : Int), sv], rv] W fun e w' => ∃ lv svs, e = .returned (.tuple #[lv, .int .i64 0]) ∧ GrpD W.heap.size lv svs (facesL N l r) w' ∧ Below W.heap.size W w') := fun W h => faces_any N l hR r hS sv rv W (hl.go h) (hr.go h)
  have HBA : Hid _ := hbA
  clear hX hl hr hbA hR hS
  go_enter Try.func24, Try.ntmps24
  go_wp2_with fail
  generalize w.alloc (.cells #[.int .i64 (N : Int), sv] 24) = w1 at *
  refine hrc.mono ?_
  clear hrc
  rintro e w2 ⟨rfl, hb2⟩
  have hX2 := HX.out.go hb2
  have hB2 : Below w.heap.size w w2 := HBA.out.trans (hb2.mono HBA.out.size)
  have y0 := hX2.cell (j := 0) rfl
  have y1 := hX2.cell (j := 1) rfl
  have hn := HN.out w2 hB2
  have HB2 : Hid (Below w.heap.size w w2) := hB2
  clear hX2 HX HN q0 q1 hb2 hB2
  go_wp2_with fail
  refine hn.mono ?_
  clear hn
  rintro e w3 ⟨lv, svs, rfl, hG, hb3⟩
  have HB3 : Hid (Below w.heap.size w w3) := HB2.out.trans (hb3.mono HB2.out.size)
  have HG : Hid (GrpD w.heap.size lv svs (facesL N l r) w3) := hG.base HB2.out.size
  clear hb3 y0 y1 hG
  go_wp2
  refine bodyPost_ret (results_tmp2 rfl _ _ _) rfl ?_
  exact ⟨lv, svs, rfl, HG.out, HB3.out⟩

set_option maxRecDepth 100000 in
set_option maxHeartbeats 2000000 in
theorem inPlane_no (n : Int) (k : Int) (hk : k ≠ 0) (sv rv : Value) (w : World)
    (hP : ∀ W, Below w.heap.size w W → Calls Try.prog 32 #[.agg #[.int .i64 n, sv], rv] W fun e w' => e = .returned (.int .i64 k) ∧ Below W.heap.size W w') :
    Calls Try.prog 24 #[.agg #[.int .i64 n, sv], rv] w fun e w' => e = .returned (.tuple #[.slice none 0 0, .int .i64 k]) ∧ Below w.heap.size w w' := by
  have hbA : Below w.heap.size w (w.alloc (.cells #[.int .i64 n, sv] 24)) := (Below.refl _ _).alloc (Nat.le_refl _) _
  have hX : Blk 24 (w.alloc (.cells #[.int .i64 n, sv] 24)) w.heap.size [.int .i64 n, sv] := heap_alloc_new w _
  have q0 := hX.cell (j := 0) rfl
  have q1 := hX.cell (j := 1) rfl
  have hrc := hP _ hbA
  have HBA : Hid _ := hbA
  clear hX hbA hP
  go_enter Try.func24, Try.ntmps24
  go_wp2_with fail
  generalize w.alloc (.cells #[.int .i64 n, sv] 24) = w1 at *
  refine hrc.mono ?_
  clear hrc
  rintro e w2 ⟨rfl, hb2⟩
  have HB2 : Hid (Below w.heap.size w w2) := HBA.out.trans (hb2.mono HBA.out.size)
  clear hb2 q0 q1
  go_wp2
  refine bodyPost_ret (results_tmp2 rfl _ _ _) rfl ?_
  exact ⟨rfl, HB2.out⟩
end Go.Proofs.Ytonfhkdciaiilaa

namespace Go.Proofs.Ytonfhkdciaiilaa
open Go Go.Proofs Go.RowKit

/-- The dual's edges. -/
def dualL (fs : List (List Dt)) (l : List Ed) : List Ed := l.map fun e => (faceOf fs (e.1, e.2.1), faceOf fs (e.2.1, e.1), e.2.2)
theorem dualL_len (fs : List (List Dt)) (l : List Ed) : (dualL fs l).length = l.length := List.length_map ..
def dualH (fs : List (List Dt)) (l : List Ed) (j : Nat) : List Ed := dualL fs (l.take j) ++ List.replicate (l.length - j) (0, 0, 0)
theorem dualH_zero (fs : List (List Dt)) (l : List Ed) : dualH fs l 0 = List.replicate l.length (0, 0, 0) := by simp [dualH, dualL]
theorem dualH_full (fs : List (List Dt)) (l : List Ed) : dualH fs l l.length = dualL fs l := by simp [dualH]
theorem dualH_len (fs : List (List Dt)) (l : List Ed) {j : Nat} (h : j ≤ l.length) : (dualH fs l j).length = l.length := by
  simp [dualH, dualL]
  omega
theorem dualH_step (fs : List (List Dt)) (l : List Ed) {j : Nat} (h : j < l.length) : (dualH fs l j).set j (faceOf fs (l[j].1, l[j].2.1), faceOf fs (l[j].2.1, l[j].1), l[j].2.2) = dualH fs l (j + 1) := by
  unfold dualH dualL
  have e : l.length - j = (l.length - (j + 1)) + 1 := by omega
  have h1 : ((l.take j).map fun e : Ed => (faceOf fs (e.1, e.2.1), faceOf fs (e.2.1, e.1), e.2.2)).length = j := by simp; omega
  rw [List.set_append, h1, if_neg (Nat.lt_irrefl j), Nat.sub_self, e, List.replicate_succ, List.set_cons_zero, List.take_add_one, List.getElem?_eq_getElem h, List.map_append, List.append_assoc]
  rfl
theorem ret_graph2 {fn : Func} {p u : Tmp} (h : fn.results = #[.cell p 24, .tmp u]) {tmps : Array Value} {w : World} {b : Nat} {x y : Value} (hp : tmps.getD p undef = .pointer (some ⟨b, 0, none⟩)) (h0 : w.cell? ⟨b, 0, none⟩ = some x) (h1 : w.cell? ⟨b, 1, none⟩ = some y) :
    (results fn tmps).run Try.prog w = .ok (.tuple #[.agg #[x, y], tmps.getD u undef]) w := by
  rw [results_cell_tmp h, hp]
  have a1 := Try.isAgg24
  have a2 := Try.sizeOf24
  go_simp

set_option maxRecDepth 100000 in
set_option maxHeartbeats 4000000 in
theorem dual_any (n : Int) (l : List Ed) (hm : l.length ≤ 4194304) (F : List (List Dt)) (hf : F.length ≤ 16777216) (hin : ∀ x ∈ F, x.length ≤ 16777216) (hnd : F.flatten.Nodup) (sv rv : Value) (w : World) (hl : Edges w.heap.size w sv l)
    (hP : ∀ W, Below w.heap.size w W → Calls Try.prog 24 #[.agg #[.int .i64 n, sv], rv] W fun e w' => ∃ lv svs, e = .returned (.tuple #[lv, .int .i64 0]) ∧ GrpD W.heap.size lv svs F w' ∧ Below W.heap.size W w') :
    Calls Try.prog 11 #[.agg #[.int .i64 n, sv], rv] w fun e w' => ∃ gv, e = .returned (.tuple #[.agg #[.int .i64 (F.length : Int), gv], .int .i64 0]) ∧ Edges w'.heap.size w' gv (dualL F l) ∧ Below w.heap.size w w' := by
  obtain ⟨p, c, rfl⟩ := hl.len
  obtain ⟨i0, hi, hz0, hz1, hz2⟩ := info_parts infoE
  have hbA : Below w.heap.size w (w.alloc (.cells #[.int .i64 n, .slice p l.length c] 24)) := (Below.refl _ _).alloc (Nat.le_refl _) _
  have hX : Blk 24 (w.alloc (.cells #[.int .i64 n, .slice p l.length c] 24)) w.heap.size [.int .i64 n, .slice p l.length c] := heap_alloc_new w _
  have hs1 : (w.alloc (.cells #[.int .i64 n, .slice p l.length c] 24)).heap.size = w.heap.size + 1 := by simp
  generalize hw1 : w.alloc (.cells #[.int .i64 n, .slice p l.length c] 24) = w1 at *
  have hbB : Below w1.heap.size w1 (w1.alloc (.cells #[.int .i64 0, .slice none 0 0] 24)) := (Below.refl _ _).alloc (Nat.le_refl _) _
  have hY : Blk 24 (w1.alloc (.cells #[.int .i64 0, .slice none 0 0] 24)) w1.heap.size [.int .i64 0, .slice none 0 0] := heap_alloc_new w1 _
  have hX1 := hX.go hbB
  rw [hs1] at hY
  have q0 := hX1.cell (j := 0) rfl
  have q1 := hX1.cell (j := 1) rfl
  have hbw2 : Below w.heap.size w (w1.alloc (.cells #[.int .i64 0, .slice none 0 0] 24)) := hbA.trans (hbB.mono hbA.size)
  have hip := hP _ hbw2
  have HL : Hid (Edges w.heap.size w (.slice p l.length c) l) := hl
  have HIN : Hid ((∀ x ∈ F, x.length ≤ 16777216) ∧ F.flatten.Nodup) := ⟨hin, hnd⟩
  have HX : Hid (Blk 24 (w1.alloc (.cells #[.int .i64 0, .slice none 0 0] 24)) w.heap.size [.int .i64 n, .slice p l.length c]) := hX1
  have HY : Hid (Blk 24 (w1.alloc (.cells #[.int .i64 0, .slice none 0 0] 24)) (w.heap.size + 1) [.int .i64 0, .slice none 0 0]) := hY
  have HB2 : Hid (Below w.heap.size w (w1.alloc (.cells #[.int .i64 0, .slice none 0 0] 24))) := hbw2
  clear hl hin hnd hP hX hX1 hY hbA hbB hbw2
  go_enter Try.func11, Try.ntmps11
  go_wp2_with fail
  generalize w1.alloc (.cells #[.int .i64 0, .slice none 0 0] 24) = w2 at *
  refine hip.mono ?_
  clear hip
  rintro e w3 ⟨lv, svs, rfl, hG, hb3⟩
  have hlen := hG.len
  obtain ⟨pl, cl, rfl⟩ := owns_form hG.own
  rw [hlen] at hG
  have HG : Hid (LDr w3.heap.size w3 (.slice pl F.length cl) F) := by have := hG.ldr; exact this
  have HX3 : Hid (Blk 24 w3 w.heap.size [.int .i64 n, .slice p l.length c]) := HX.out.go hb3
  have HY3 : Hid (Blk 24 w3 (w.heap.size + 1) [.int .i64 0, .slice none 0 0]) := HY.out.go hb3
  have HB3 : Hid (Below w.heap.size w w3) := HB2.out.trans (hb3.mono HB2.out.size)
  clear hG hb3 HX HY HB2 q0 q1
  have hly := HY3.out.lt
  have q1 := HX3.out.cell (j := 1) rfl
  rw [hlen]
  go_wp2_with (at_make; refine wpList_make_full _ rfl _ _ 22 rfl w3.heap.size 44 i0 (.agg #[.int .i64 0, .int .i64 0, .int .i64 0]) 3 Try.underlying22 hi hz0 hz1 .i64 .i64 _ _ l.length rfl rfl rfl rfl (by rw [hz2]; omega) (by unfold maxLen; omega) (Nat.le_refl _) ?_; intro w4 hown hgrow; have hb4 : Below w3.heap.size w3 w4 := (Below.refl _ _).grown hgrow (Nat.le_refl _) (fun k e => by cases e); have x0 := (HX3.out.go hb4).cell (j := 0) rfl; have x1 := (HX3.out.go hb4).cell (j := 1) rfl)
  have hsd := sides_any n l hm F hf HIN.out.1 HIN.out.2 (.slice p l.length c) (.slice pl F.length cl) w4 (HL.out.go (HB3.out.trans (hb4.mono HB3.out.size))) (HG.out.go hb4)
  have hrow := Blk.made hown
  rw [flat_made, ← dualH_zero F l] at hrow
  have HR4 : Hid (Blk 44 w4 w3.heap.size (flat (dualH F l 0))) := hrow
  have HX4 : Hid (Blk 24 w4 w.heap.size [.int .i64 n, .slice p l.length c]) := HX3.out.go hb4
  have HY4 : Hid (Blk 24 w4 (w.heap.size + 1) [.int .i64 0, .slice none 0 0]) := HY3.out.go hb4
  have HB4 : Hid (Below w.heap.size w w4) := HB3.out.trans (hb4.mono HB3.out.size)
  clear hown hgrow hb4 hrow HX3 HY3 HB3 q1 x0 x1 HG HIN hi hz0 hz1 hz2
  generalize hge : w3.heap.size = g at *
  refine hsd.mono ?_
  clear hsd
  rintro e w5 ⟨gs, rfl, hgs, hB5, hb5⟩
  have hgl := HR4.out.lt
  have hB0 := HR4.out.go hb5
  have HX5 : Hid (Blk 24 w5 w.heap.size [.int .i64 n, .slice p l.length c]) := HX4.out.go hb5
  have HY5 : Hid (Blk 24 w5 (w.heap.size + 1) [.int .i64 0, .slice none 0 0]) := HY4.out.go hb5
  have HB5 : Hid (Below w.heap.size w w5) := HB4.out.trans (hb5.mono HB4.out.size)
  clear hb5 HX4 HY4 HB4 HR4
  have hgg : g < gs := by omega
  go_wp2
  go_loopw [29] (fun i wr => ∃ j : Nat, j ≤ l.length ∧ i = .int .i64 j ∧ Blk 44 wr g (flat (dualH F l j)) ∧ Blk 42 wr gs (flatD (sidesL F l)) ∧ Below g w5 wr) (fun i _ => l.length - (intOf i).toNat)
  case atStart => exact ⟨0, Nat.zero_le _, rfl, hB0, hB5, Below.refl _ _⟩
  case round =>
    clear hB0 hB5
    obtain ⟨j, hj, rfl, hB, hS, hb⟩ := hrel
    rename World => w6
    have hbX := HX5.out
    have x1 := (hb.cell (p := ⟨w.heap.size, 1, none⟩) (by simp only; omega)).trans (HX5.out.cell (j := 1) rfl)
    by_cases hlt : j < l.length
    · obtain ⟨b, off, rfl, hbb, hcap, hc, -⟩ := HL.out.open hlt
      obtain ⟨-, -, c2⟩ := hc w6 (HB5.out.trans (hb.mono (by omega))) j hlt
      have hjl : (j : Int) < (l.length : Int) := by omega
      have HS : Hid _ := dualH_step F l hlt
      have hsl := hS.lt
      obtain ⟨d0, d1⟩ := flatD_at (L := sidesL F l) (j := j) (x := (faceOf F (l[j].1, l[j].2.1), faceOf F (l[j].2.1, l[j].1))) (by unfold sidesL; rw [List.getElem?_map, List.getElem?_eq_getElem hlt]; rfl)
      have s0 := hS.cell d0
      have s1 := hS.cell d1
      have hln : j < (dualH F l j).length := by rw [dualH_len F l hj]; exact hlt
      clear hc d0 d1
      generalize l[j].2.2 = wt at *
      generalize faceOf F (l[j].1, l[j].2.1) = x at *
      generalize faceOf F (l[j].2.1, l[j].1) = y at *
      simp only at s0 s1
      have hbN : Below w6.heap.size w6 (w6.alloc (.cells #[.int .i64 x, .int .i64 y] 42)) := (Below.refl _ _).alloc (Nat.le_refl _) _
      have hE : Blk 42 (w6.alloc (.cells #[.int .i64 x, .int .i64 y] 42)) w6.heap.size [.int .i64 x, .int .i64 y] := heap_alloc_new w6 _
      have e0 := hE.cell (j := 0) rfl
      have e1 := hE.cell (j := 1) rfl
      have hBN := hB.go hbN
      have hSN := hS.go hbN
      have y1 := (hbN.cell (p := ⟨w.heap.size, 1, none⟩) (by simp only; have := hb.size; omega)).trans x1
      have y2 := (hbN.cell (p := ⟨b, off + j * 3 + 2, none⟩) (by simp only; have := hb.size; omega)).trans c2
      have HBN : Hid (Below g w5 (w6.alloc (.cells #[.int .i64 x, .int .i64 y] 42))) := hb.alloc (by omega) _
      clear hbN hE hB hS hbX
      go_wp2_with fail
      generalize w6.alloc (.cells #[.int .i64 x, .int .i64 y] 42) = w7 at *
      have hBn := ((hBN.set (j * 3) (.int .i64 x)).set (j * 3 + 1) (.int .i64 y)).set (j * 3 + 2) (.int .i64 wt)
      have efs := flat_set (dualH F l j) j (x, y, wt)
      simp only at efs
      rw [efs, HS.out] at hBn
      have HBn : Hid _ := hBn
      have f0 : w7.drew.frozen? ⟨g, j * 3, none⟩ = false := hBN.frozen (j * 3)
      have f1 : w7.drew.frozen? ⟨g, j * 3 + 1, none⟩ = false := hBN.frozen (j * 3 + 1)
      have f2 : w7.drew.frozen? ⟨g, j * 3 + 2, none⟩ = false := hBN.frozen (j * 3 + 2)
      have f3 : w7.frozen? ⟨g, j * 3 + 1, none⟩ = false := hBN.frozen (j * 3 + 1)
      have f4 : w7.frozen? ⟨g, j * 3 + 2, none⟩ = false := hBN.frozen (j * 3 + 2)
      have HSN : Hid (Blk 42 w7 gs (flatD (sidesL F l))) := hSN
      have HBO : Hid (Blk 44 w7 g (flat (dualH F l j))) := hBN
      clear hBn hBN hSN s0 s1 x1 c2 efs
      obtain ⟨⟨o0, g0⟩, ⟨o1, g1⟩, ⟨o2, g2⟩⟩ : (∃ o, w7.cell? ⟨g, j * 3, none⟩ = some o) ∧ (∃ o, w7.cell? ⟨g, j * 3 + 1, none⟩ = some o) ∧ (∃ o, w7.cell? ⟨g, j * 3 + 2, none⟩ = some o) := by
        obtain ⟨d0, d1, d2⟩ := flat_at (List.getElem?_eq_getElem hln)
        exact ⟨⟨_, HBO.out.cell d0⟩, ⟨_, HBO.out.cell d1⟩, ⟨_, HBO.out.cell d2⟩⟩
      have HGG : Hid (g < gs) := hgg
      clear hln hgg
      refine wp_region_last (S := (fun w' : World => w'.cell? ⟨w6.heap.size, 0, none⟩ = some (.int .i64 x) ∧ w'.cell? ⟨w6.heap.size, 1, none⟩ = some (.int .i64 y) ∧ w'.cell? ⟨w.heap.size, 1, none⟩ = some (.slice (some ⟨b, off, none⟩) l.length c) ∧ w'.cell? ⟨b, off + j * 3 + 2, none⟩ = some (.int .i64 wt))) (by kernel_rfl) ⟨e0, e1, y1, y2⟩ (fun hHeld => ?_)
      refine wpAnyL_take (i := 0) (v := ?_) rfl (by kernel_rfl) (by kernel_rfl) (by kernel_rfl) (by kernel_rfl) (fun _ _ _ h => h) (Or.inl ⟨by rfl, ?_⟩) (by assumption) ?_
      rotate_left
      · intro w hSw; (try dsimp only at hSw); go_simp; (try with_reducible rfl)
      try simp only [Act.put, List.setIfInBounds_toArray]
      refine wpAnyL_take (i := 1) (v := ?_) rfl (by kernel_rfl) (by kernel_rfl) (by kernel_rfl) (by kernel_rfl) (fun _ _ _ h => h) (Or.inl ⟨by rfl, ?_⟩) (by assumption) ?_
      rotate_left
      · intro w hSw; (try dsimp only at hSw); go_simp; (try with_reducible rfl)
      try simp only [Act.put]
      refine wpAnyL_take (i := 2) (v := ?_) rfl (by kernel_rfl) (by kernel_rfl) (by kernel_rfl) (by kernel_rfl) (fun _ _ _ h => h) (Or.inl ⟨by rfl, ?_⟩) (by assumption) ?_
      rotate_left
      · intro w hSw; (try dsimp only at hSw); go_simp; (try with_reducible rfl)
      try simp only [Act.put]
      refine wpAnyL_take (i := 3) (v := ?_) rfl (by kernel_rfl) (by kernel_rfl) (by kernel_rfl) (by kernel_rfl) (fun _ _ _ h => h) (Or.inl ⟨by rfl, ?_⟩) (by assumption) ?_
      rotate_left
      · intro w hSw; (try dsimp only at hSw); go_simp; (try with_reducible rfl)
      try simp only [Act.put]
      refine wpAnyL_take (i := 4) (v := ?_) rfl (by kernel_rfl) (by kernel_rfl) (by kernel_rfl) (by kernel_rfl) (fun _ _ _ h => h) (Or.inl ⟨by rfl, ?_⟩) (by assumption) ?_
      rotate_left
      · intro w hSw; (try dsimp only at hSw); go_simp; (try with_reducible rfl)
      try simp only [Act.put]
      refine wpAnyL_take (i := 5) (v := ?_) rfl (by kernel_rfl) (by kernel_rfl) (by kernel_rfl) (by kernel_rfl) (fun _ _ _ h => h) (Or.inl ⟨by rfl, ?_⟩) (by assumption) ?_
      rotate_left
      · intro w hSw; (try dsimp only at hSw); go_simp; (try with_reducible rfl)
      try simp only [Act.put]
      refine wpAnyL_take (i := 6) (v := ?_) rfl (by kernel_rfl) (by kernel_rfl) (by kernel_rfl) (by kernel_rfl) (fun _ _ _ h => h) (Or.inl ⟨by rfl, ?_⟩) (by assumption) ?_
      rotate_left
      · intro w hSw; (try dsimp only at hSw); go_simp; (try with_reducible rfl)
      try simp only [Act.put]
      refine wpAnyL_take (i := 7) (v := ?_) rfl (by kernel_rfl) (by kernel_rfl) (by kernel_rfl) (by kernel_rfl) (fun _ _ _ h => h) (Or.inl ⟨by rfl, ?_⟩) (by assumption) ?_
      rotate_left
      · intro w hSw; (try dsimp only at hSw); go_simp; (try with_reducible rfl)
      try simp only [Act.put]
      refine wpAnyL_take (i := 8) (v := ?_) rfl (by kernel_rfl) (by kernel_rfl) (by kernel_rfl) (by kernel_rfl) (fun _ _ _ h => h) (Or.inl ⟨by rfl, ?_⟩) (by assumption) ?_
      rotate_left
      · intro w hSw; (try dsimp only at hSw); go_simp; (try with_reducible rfl)
      try simp only [Act.put]
      refine wpAnyL_take (i := 9) (v := ?_) rfl (by kernel_rfl) (by kernel_rfl) (by kernel_rfl) (by kernel_rfl) (fun _ _ _ h => h) (Or.inl ⟨by rfl, ?_⟩) (by assumption) ?_
      rotate_left
      · intro w hSw; (try dsimp only at hSw); go_simp; (try with_reducible rfl)
      try simp only [Act.put]
      refine wpAnyL_take (i := 10) (v := ?_) rfl (by kernel_rfl) (by kernel_rfl) (by kernel_rfl) (by kernel_rfl) (fun _ _ _ h => h) (Or.inl ⟨by rfl, ?_⟩) (by assumption) ?_
      rotate_left
      · intro w hSw; (try dsimp only at hSw); go_simp; (try with_reducible rfl)
      try simp only [Act.put]
      refine wpAnyL_take (i := 11) (v := ?_) rfl (by kernel_rfl) (by kernel_rfl) (by kernel_rfl) (by kernel_rfl) (fun _ _ _ h => h) (Or.inl ⟨by rfl, ?_⟩) (by assumption) ?_
      rotate_left
      · intro w hSw; (try dsimp only at hSw); go_simp; (try with_reducible rfl)
      try simp only [Act.put]
      refine wpAnyL_take (i := 12) (v := ?_) rfl (by kernel_rfl) (by kernel_rfl) (by kernel_rfl) (by kernel_rfl) (fun _ _ _ h => h) (Or.inl ⟨by rfl, ?_⟩) (by assumption) ?_
      rotate_left
      · intro w hSw; (try dsimp only at hSw); go_simp; (try with_reducible rfl)
      try simp only [Act.put]
      refine wpAnyL_take (i := 13) (v := ?_) rfl (by kernel_rfl) (by kernel_rfl) (by kernel_rfl) (by kernel_rfl) (fun _ _ _ h => h) (Or.inl ⟨by rfl, ?_⟩) (by assumption) ?_
      rotate_left
      · intro w hSw; (try dsimp only at hSw); go_simp; (try with_reducible rfl)
      try simp only [Act.put]
      clear e0 e1 y1 y2 hHeld
      refine wpAnyL_ready (rs := [14]) (by kernel_rfl) (by simp) ?_
      refine AllReadyL.last rfl (by kernel_rfl) (fun K hK => ?_)
      go_simp
      refine hK.out _ _ ?_
      clear hK K
      try simp only [Act.put, List.setIfInBounds_toArray, List.set_cons_zero, List.set_cons_succ]
      refine wpAnyL_done (by kernel_rfl) ?_ _
      have hBq : Blk 44 (((w7.setCell ⟨g, j * 3, none⟩ (.int .i64 x)).setCell ⟨g, j * 3 + 1, none⟩ (.int .i64 y)).setCell ⟨g, j * 3 + 2, none⟩ (.int .i64 wt)).drew g (flat (dualH F l (j + 1))) := HBn.out
      have hSq : Blk 42 (((w7.setCell ⟨g, j * 3, none⟩ (.int .i64 x)).setCell ⟨g, j * 3 + 1, none⟩ (.int .i64 y)).setCell ⟨g, j * 3 + 2, none⟩ (.int .i64 wt)).drew gs (flatD (sidesL F l)) := by
        have hgg := HGG.out
        have h1 := Below.heap_setCell w7 ⟨g, j * 3, none⟩ (.int .i64 x) gs (by simp only; omega)
        have h2 := Below.heap_setCell (w7.setCell ⟨g, j * 3, none⟩ (.int .i64 x)) ⟨g, j * 3 + 1, none⟩ (.int .i64 y) gs (by simp only; omega)
        have h3 := Below.heap_setCell ((w7.setCell ⟨g, j * 3, none⟩ (.int .i64 x)).setCell ⟨g, j * 3 + 1, none⟩ (.int .i64 y)) ⟨g, j * 3 + 2, none⟩ (.int .i64 wt) gs (by simp only; omega)
        exact (h3.trans (h2.trans h1)).trans HSN.out
      have hbq : Below g w5 (((w7.setCell ⟨g, j * 3, none⟩ (.int .i64 x)).setCell ⟨g, j * 3 + 1, none⟩ (.int .i64 y)).setCell ⟨g, j * 3 + 2, none⟩ (.int .i64 wt)).drew := below_drewN (((HBN.out.setCell (p := ⟨g, j * 3, none⟩) (Nat.le_refl _) _).setCell (p := ⟨g, j * 3 + 1, none⟩) (Nat.le_refl _) _).setCell (p := ⟨g, j * 3 + 2, none⟩) (Nat.le_refl _) _) 1
      clear HBn HBN f0 f1 f2 f3 f4 g0 g1 g2 HS HSN HBO
      go_wp2
      exact ⟨⟨j + 1, by omega, by go_num, hBq, hSq, hbq⟩, by simp [intOf]; omega⟩
    · obtain rfl : j = l.length := by omega
      have hjl : ¬ (l.length : Int) < (l.length : Int) := by omega
      rw [dualH_full] at hB
      have hY6 : Blk 24 w6 (w.heap.size + 1) [.int .i64 0, .slice none 0 0] := (hb.block _ (by omega)).trans HY5.out
      have y0 := hY6.cell (j := 0) rfl
      have y1 := hY6.cell (j := 1) rfl
      have f0 := hY6.frozen 0
      have f1 := hY6.frozen 1
      have hY7 := (hY6.set 0 (.int .i64 (F.length : Int))).set 1 (.slice (some ⟨g, 0, none⟩) l.length l.length)
      have z0 := hY7.cell (j := 0) rfl
      have z1 := hY7.cell (j := 1) rfl
      have hBW : Below w.heap.size w w6 := HB5.out.trans (hb.mono (by omega))
      have HBF : Hid (Below w.heap.size w ((w6.setCell ⟨w.heap.size + 1, 0, none⟩ (.int .i64 (F.length : Int))).setCell ⟨w.heap.size + 1, 1, none⟩ (.slice (some ⟨g, 0, none⟩) l.length l.length))) := (hBW.setCell (p := ⟨w.heap.size + 1, 0, none⟩) (by simp) _).setCell (p := ⟨w.heap.size + 1, 1, none⟩) (by simp) _
      have HBG : Hid (Blk 44 ((w6.setCell ⟨w.heap.size + 1, 0, none⟩ (.int .i64 (F.length : Int))).setCell ⟨w.heap.size + 1, 1, none⟩ (.slice (some ⟨g, 0, none⟩) l.length l.length)) g (flat (dualL F l))) := by
        have h1 := Below.heap_setCell w6 ⟨w.heap.size + 1, 0, none⟩ (.int .i64 (F.length : Int)) g (by simp only; omega)
        have h2 := Below.heap_setCell (w6.setCell ⟨w.heap.size + 1, 0, none⟩ (.int .i64 (F.length : Int))) ⟨w.heap.size + 1, 1, none⟩ (.slice (some ⟨g, 0, none⟩) l.length l.length) g (by simp only; omega)
        exact (h2.trans h1).trans hB
      have HLN : Hid (l.length = (dualL F l).length) := (dualL_len F l).symm
      clear hB hS hb hY6 hY7 hBW hbX x1 HX5 HY5 HL
      go_wp2
      refine bodyPost_ret (ret_graph2 rfl rfl z0 z1) rfl ?_
      refine ⟨_, rfl, ?_, HBF.out⟩
      have := HBG.out.edges
      rw [dualL_len] at this
      exact this
end Go.Proofs.Ytonfhkdciaiilaa

namespace Go.Proofs.Ytonfhkdciaiilaa
open Go Go.Proofs Go.RowKit

theorem dual_plane (N : Nat) (l : List Ed) (hR : RightG (N : Int) l) (r : List (List Int)) (hS : SysR N l r) (hP : planeK (numsL N l r) = 0) (sv rv : Value) (w : World) (hl : Edges w.heap.size w sv l) (hr : Lsts w.heap.size w rv r) :
    Calls Try.prog 11 #[.agg #[.int .i64 (N : Int), sv], rv] w fun e w' => ∃ gv, e = .returned (.tuple #[.agg #[.int .i64 ((facesL N l r).length : Int), gv], .int .i64 0]) ∧ Edges w'.heap.size w' gv (dualL (facesL N l r) l) ∧ Below w.heap.size w w' := by
  have hm := hR.m1
  have h1 := facesL_few hR r
  refine dual_any (N : Int) l (by omega) (facesL N l r) (by omega) (fun f hf => ?_) (faces_dec hR hS).nodup sv rv w hl (fun W h => inPlane_any N l hR r hS hP sv rv W (hl.go h) (hr.go h))
  have := facesL_each N l r f hf
  omega
end Go.Proofs.Ytonfhkdciaiilaa
