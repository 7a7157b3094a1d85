/-
  A map from darts to numbers, in memory: look-up, a new entry.
-/
import Derived.Test.YtonfhkdciaiilaaQI
namespace Go.Proofs.Ytonfhkdciaiilaa
open Go Go.Proofs Go.RowKit

theorem askN {d : Dt} {w : World} : ∀ (es : List MapEntry) (L : List (Dt × Int)) (i : Nat), es.map (fun e => (e.key, e.val)) = L.map (fun p => (encD p.1, .int .i64 p.2)) →
    (Instr.findAsking 61 (encD d) es i).run Try.prog w = .ok ((L.findIdx? fun p => decide (d = p.1)).map fun k => (i + k, Value.int .i64 (L.getD k ((0, 0), 0)).2)) w
  | [], [], i, _ => by simp [Instr.findAsking]
  | [], p :: L, i, h => by simp at h
  | e :: es, [], i, h => by simp at h
  | e :: es, p :: L, i, h => by
    rw [List.map_cons, List.map_cons, List.cons.injEq, Prod.mk.injEq] at h
    obtain ⟨⟨h1, h2⟩, h3⟩ := h
    have ih := askN (d := d) (w := w) es L (i + 1) h3
    unfold Instr.findAsking
    rw [h1, List.findIdx?_cons]
    by_cases hd : d = p.1
    · simp [eqD_run, hd, h2]
    · simp only [Sem.run_bind, eqD_run, decide_eq_false hd, Result.andThen_ok, Bool.false_eq_true, if_false, ih]
      congr 1
      cases L.findIdx? fun p => decide (d = p.1) with
      | none => rfl
      | some k =>
        simp only [Option.map_some, Option.some.injEq, Prod.mk.injEq, List.getD_cons_succ, and_true]
        omega
theorem findN {d : Dt} {w : World} {es : List MapEntry} {L : List (Dt × Int)} (h : es.map (fun e => (e.key, e.val)) = L.map (fun p => (encD p.1, .int .i64 p.2))) :
    (Instr.findKey 61 (encD d) es).run Try.prog w = .ok ((L.findIdx? fun p => decide (d = p.1)).map fun k => (k, Value.int .i64 (L.getD k ((0, 0), 0)).2)) w := by
  have ha := askN (d := d) (w := w) es L 0 h
  simp only [Nat.zero_add] at ha
  cases es with
  | nil =>
    cases L with
    | nil => simp [Instr.findKey, run_underlying Try.underlying61, Instr.findNow]
    | cons p L => simp at h
  | cons e es =>
    cases L with
    | nil => simp at h
    | cons p L =>
      rw [List.map_cons, List.map_cons, List.cons.injEq, Prod.mk.injEq] at h
      simp [Instr.findKey, run_underlying Try.underlying61, Instr.findNow, Instr.sameNow, encD, h.1.1]
      exact ha
/-- The block m is a map with these entries. -/
def MapN (w : World) (m : Nat) (L : List (Dt × Int)) : Prop := ∃ es ck, w.heap[m]? = some (.map es ck) ∧ es.toList.map (fun e => (e.key, e.val)) = L.map (fun p => (encD p.1, .int .i64 p.2))
theorem MapN.lt {w : World} {m : Nat} {L : List (Dt × Int)} (h : MapN w m L) : m < w.heap.size := by
  obtain ⟨es, ck, h1, _⟩ := h
  exact (Array.getElem?_eq_some_iff.1 h1).1
theorem MapN.keep {w w' : World} {m : Nat} {L : List (Dt × Int)} (h : MapN w m L) (hb : w'.heap[m]? = w.heap[m]?) : MapN w' m L := by
  obtain ⟨es, ck, h1, h2⟩ := h
  exact ⟨es, ck, hb.trans h1, h2⟩
theorem MapN.start (w : World) : MapN (w.alloc (.map #[] 0)) w.heap.size [] := ⟨#[], 0, (MapKept.heap_alloc w _).1, rfl⟩
def lkN (L : List (Dt × Int)) (d : Dt) : Option Int := (L.find? fun p => decide (d = p.1)).map (·.2)
theorem MapN.lookup {w : World} {m : Nat} {L : List (Dt × Int)} (h : MapN w m L) (d : Dt) :
    (Instr.lookup 70 (.map (some m)) (encD d) false).run Try.prog w = .ok (.int .i64 ((lkN L d).getD 0)) w := by
  obtain ⟨es, ck, h1, h2⟩ := h
  have hf := findN (d := d) (w := w) h2
  have e1 : (L.findIdx? fun p => decide (d = p.1)).isSome = (lkN L d).isSome := by
    unfold lkN
    rw [Option.isSome_map, List.findIdx?_isSome, Bool.eq_iff_iff, List.find?_isSome, List.any_eq_true]
  have e2 : ∀ k, (L.findIdx? fun p => decide (d = p.1)) = some k → lkN L d = some (L.getD k ((0, 0), 0)).2 := fun k hk => by
    obtain ⟨hlt, hp, hno⟩ := List.findIdx?_eq_some_iff_getElem.1 hk
    unfold lkN
    have e : (L.find? fun p => decide (d = p.1)) = some L[k] := List.find?_eq_some_iff_getElem.2 ⟨hp, k, hlt, rfl, fun j hj => by simpa using hno j hj⟩
    rw [e]
    simp [hlt]
  cases hk : L.findIdx? fun p => decide (d = p.1) with
  | none =>
    rw [hk] at hf e1
    have e3 : lkN L d = none := by
      cases hl : lkN L d with
      | none => rfl
      | some x => rw [hl] at e1; cases e1
    simp [Instr.lookup, run_underlying Try.underlying70, MapKept.run_getObj_map h1, checkD, hf, e3]
  | some k =>
    rw [hk] at hf
    have e3 := e2 k hk
    simp [Instr.lookup, run_underlying Try.underlying70, MapKept.run_getObj_map h1, checkD, hf, e3]
theorem MapN.update {w : World} {m : Nat} {L : List (Dt × Int)} (h : MapN w m L) {d : Dt} (hd : ∀ p ∈ L, p.1 ≠ d) (e : Int) :
    ∃ w', (Instr.mapUpdate 70 (.map (some m)) (encD d) (.int .i64 e)).run Try.prog w = .ok () w' ∧ MapN w' m (L ++ [(d, e)]) ∧ w.grownBy w' (some m) := by
  obtain ⟨es, ck, h1, h2⟩ := h
  have hf := findN (d := d) (w := w) h2
  have hno : (L.findIdx? fun p => decide (d = p.1)) = none := by
    rw [List.findIdx?_eq_none_iff]
    intro p hp
    have := hd p hp
    simp
    exact fun e => this e.symm
  rw [hno] at hf
  have hlt := (Array.getElem?_eq_some_iff.1 h1).1
  refine ⟨{ w with heap := w.heap.setIfInBounds m (.map (es.push { key := encD d, val := .int .i64 e, born := ck }) (ck + 1)) }, ?_, ⟨es.push { key := encD d, val := .int .i64 e, born := ck }, ck + 1, by simp [hlt], ?_⟩, ⟨rfl, rfl, rfl, by simp, fun i _ hi => ?_⟩⟩
  · simp [Instr.mapUpdate, run_underlying Try.underlying70, MapKept.run_getObj_map h1, checkD, hf, MapKept.run_setObj_map _ h1]
  · rw [Array.toList_push, List.map_append, h2, List.map_append]
    rfl
  · have : m ≠ i := fun e => hi (by rw [e])
    simp [this]
/-- 'm[k] = v' at the operation. -/
theorem wpList_putN (w : World) {ops : Array Oper} {rest : List Oper} {o : Oper} {a : Act} {Q : Exit → Act → World → Prop}
    (hg : o.guard = none) (m x v : Operand) (hop : o.op = Op.mapUpdate 70 m x v) (M : Nat) (L : List (Dt × Int)) (d : Dt) (e : Int)
    (hm : a.eval m = .map (some M)) (h : MapN w M L) (hd : ∀ p ∈ L, p.1 ≠ d) (hx : a.eval x = encD d) (hv : a.eval v = .int .i64 e)
    (hK : ∀ w', MapN w' M (L ++ [(d, e)]) → w.grownBy w' (some M) → wpList Try.prog ops Q rest (a.put o.dst undef) w') :
    wpList Try.prog ops Q (o :: rest) a w := by
  refine wpList_plain hg fun K' hK' => ?_
  obtain ⟨w', hrun, r1, r2⟩ := h.update hd e
  unfold Oper.wp
  simp [execOp, hop, hm, hx, hv, hrun, Result.andThen]
  exact hK' _ _ (hK w' r1 r2)
end Go.Proofs.Ytonfhkdciaiilaa
