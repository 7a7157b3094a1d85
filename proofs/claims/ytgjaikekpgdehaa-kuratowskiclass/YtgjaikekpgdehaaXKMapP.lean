/-
  A map from pairs of numbers to numbers, in memory: look-up, and an entry that is set anew.
-/
import Derived.ChangeKeysEq
import Derived.WideKeyEntry
import Derived.Test.YtgjaikekpgdehaaXKWaysA
namespace Go.Proofs.Ytgjaikekpgdehaa
open Go Go.Proofs Go.RowKit

def encP (d : Int × Int) : Value := .agg #[.int .i64 d.1, .int .i64 d.2]
theorem eqP_run (a b : Int × Int) (w : World) : (Op.equal 83 (encP a) (encP b)).run Try.prog w = .ok (decide (a = b)) w := by
  have u3 := Try.underlying3
  have a3 := Try.isAgg3
  have z3 := Try.sizeOf3
  have c3 : Try.prog.cellsOf 3 = 1 := by kernel_rfl
  obtain ⟨i, hi⟩ : ∃ i, Try.prog.info? 3 = some i := by
    cases h : Try.prog.info? 3 with
    | none => have h1 : (Try.prog.info? 3).isSome = true := by kernel_rfl
              rw [h] at h1; cases h1
    | some i => exact ⟨i, rfl⟩
  show (Op.equalIn (9999 + 1) 83 (.agg #[.int .i64 a.1, .int .i64 a.2]) (.agg #[.int .i64 b.1, .int .i64 b.2])).run Try.prog w = _
  rw [run_equalIn_array w 9999 _ _ Try.underlying83 hi, c3]
  have e2 : List.range 2 = [0, 1] := rfl
  rw [e2]
  simp only [Op.eqItems]
  go_simp
  obtain ⟨x0, x1⟩ := a
  obtain ⟨y0, y1⟩ := b
  by_cases h0 : x0 = y0 <;> by_cases h1 : x1 = y1 <;> simp [h0, h1]
theorem checkP (w : World) (em : Bool) (d : Int × Int) : (Instr.checkKey em 10000 83 (encP d)).run Try.prog w = .ok () w := by
  have u3 := Try.underlying3
  have a3 := Try.isAgg3
  have z3 := Try.sizeOf3
  have hd : ∀ k : Nat, (Instr.checkKey em (k + 1 + 1) 83 (encP d)).run Try.prog w = .ok () w := fun k => by
    have e2 : List.range' 0 2 = [0, 1] := rfl
    simp [Instr.checkKey, encP, run_underlying Try.underlying83, run_underlying Try.underlying3, e2]
    go_simp
  exact hd 9998
theorem askP {d : Int × Int} {w : World} : ∀ (es : List MapEntry) (L : List ((Int × Int) × Int)) (i : Nat), es.map (fun e => (e.key, e.val)) = L.map (fun p => (encP p.1, .int .i64 p.2)) →
    (Instr.findAsking 83 (encP d) es i).run Try.prog w = .ok ((L.findIdx? fun p => decide (d = p.1)).map fun k => (i + k, Value.int .i64 (L.getD k ((0, 0), 0)).2)) w
  | [], [], i, _ => by simp [Instr.findAsking]
  | [], p :: L, i, h => by simp at h
  | e :: es, [], i, h => by simp at h
  | e :: es, p :: L, i, h => by
    rw [List.map_cons, List.map_cons, List.cons.injEq, Prod.mk.injEq] at h
    obtain ⟨⟨h1, h2⟩, h3⟩ := h
    have ih := askP (d := d) (w := w) es L (i + 1) h3
    unfold Instr.findAsking
    rw [h1, List.findIdx?_cons]
    by_cases hd : d = p.1
    · simp [eqP_run, hd, h2]
    · simp only [Sem.run_bind, eqP_run, decide_eq_false hd, Result.andThen_ok, Bool.false_eq_true, if_false, ih]
      congr 1
      cases L.findIdx? fun p => decide (d = p.1) with
      | none => rfl
      | some k =>
        simp only [Option.map_some, Option.some.injEq, Prod.mk.injEq, List.getD_cons_succ, and_true]
        omega
theorem findP' {d : Int × Int} {w : World} {es : List MapEntry} {L : List ((Int × Int) × Int)} (h : es.map (fun e => (e.key, e.val)) = L.map (fun p => (encP p.1, .int .i64 p.2))) :
    (Instr.findKey 83 (encP d) es).run Try.prog w = .ok ((L.findIdx? fun p => decide (d = p.1)).map fun k => (k, Value.int .i64 (L.getD k ((0, 0), 0)).2)) w := by
  have ha := askP (d := d) (w := w) es L 0 h
  simp only [Nat.zero_add] at ha
  cases es with
  | nil =>
    cases L with
    | nil => simp [Instr.findKey, run_underlying Try.underlying83, Instr.findNow]
    | cons p L => simp at h
  | cons e es =>
    cases L with
    | nil => simp at h
    | cons p L =>
      rw [List.map_cons, List.map_cons, List.cons.injEq, Prod.mk.injEq] at h
      simp [Instr.findKey, run_underlying Try.underlying83, Instr.findNow, Instr.sameNow, encP, h.1.1]
      exact ha
/-- The block m is a map with these entries. -/
def MapP (w : World) (m : Nat) (L : List ((Int × Int) × Int)) : Prop := ∃ es ck, w.heap[m]? = some (.map es ck) ∧ es.toList.map (fun e => (e.key, e.val)) = L.map (fun p => (encP p.1, .int .i64 p.2)) ∧ (∀ x ∈ es.toList, x.born < ck) ∧ (es.toList.map (·.born)).Nodup
theorem MapP.lt {w : World} {m : Nat} {L : List ((Int × Int) × Int)} (h : MapP w m L) : m < w.heap.size := by
  obtain ⟨es, ck, h1, _⟩ := h
  exact (Array.getElem?_eq_some_iff.1 h1).1
theorem MapP.keep {w w' : World} {m : Nat} {L : List ((Int × Int) × Int)} (h : MapP w m L) (hb : w'.heap[m]? = w.heap[m]?) : MapP w' m L := by
  obtain ⟨es, ck, h1, h2⟩ := h
  exact ⟨es, ck, hb.trans h1, h2⟩
def lkP (L : List ((Int × Int) × Int)) (d : Int × Int) : Option Int := (L.find? fun p => decide (d = p.1)).map (·.2)
theorem lkP_at {L : List ((Int × Int) × Int)} {d : Int × Int} {k : Nat} (hk : (L.findIdx? fun p => decide (d = p.1)) = some k) : lkP L d = some (L.getD k ((0, 0), 0)).2 := by
  obtain ⟨hlt, hp, hno⟩ := List.findIdx?_eq_some_iff_getElem.1 hk
  unfold lkP
  have e : (L.find? fun p => decide (d = p.1)) = some L[k] := List.find?_eq_some_iff_getElem.2 ⟨hp, k, hlt, rfl, fun j hj => by simpa using hno j hj⟩
  rw [e]
  simp [hlt]
theorem lkP_no {L : List ((Int × Int) × Int)} {d : Int × Int} (hk : (L.findIdx? fun p => decide (d = p.1)) = none) : lkP L d = none := by
  unfold lkP
  rw [List.findIdx?_eq_none_iff] at hk
  have : (L.find? fun p => decide (d = p.1)) = none := List.find?_eq_none.2 fun x hx => by rw [hk x hx]; simp
  rw [this]; rfl
theorem MapP.lookup {w : World} {m : Nat} {L : List ((Int × Int) × Int)} (h : MapP w m L) (d : Int × Int) :
    (Instr.lookup 86 (.map (some m)) (encP d) false).run Try.prog w = .ok (.int .i64 ((lkP L d).getD 0)) w := by
  obtain ⟨es, ck, h1, h2, _⟩ := h
  have hf := findP' (d := d) (w := w) h2
  cases hk : L.findIdx? fun p => decide (d = p.1) with
  | none =>
    rw [hk] at hf
    simp [Instr.lookup, run_underlying Try.underlying86, MapKept.run_getObj_map h1, checkP, hf, lkP_no hk]
  | some k =>
    rw [hk] at hf
    simp [Instr.lookup, run_underlying Try.underlying86, MapKept.run_getObj_map h1, checkP, hf, lkP_at hk]
/-- The entries with one set anew. -/
def putP (L : List ((Int × Int) × Int)) (d : Int × Int) (x : Int) : List ((Int × Int) × Int) := match L.findIdx? fun p => decide (d = p.1) with
  | none => L ++ [(d, x)]
  | some k => L.set k (d, x)
theorem lkP_cons (p : (Int × Int) × Int) (L : List ((Int × Int) × Int)) (d : Int × Int) : lkP (p :: L) d = if d = p.1 then some p.2 else lkP L d := by
  unfold lkP
  rw [List.find?_cons]
  by_cases h : d = p.1
  · simp [h]
  · rw [if_neg h, decide_eq_false h]
theorem lkP_put (L : List ((Int × Int) × Int)) (d : Int × Int) (x : Int) (d' : Int × Int) : lkP (putP L d x) d' = if d' = d then some x else lkP L d' := by
  induction L with
  | nil =>
    show lkP [(d, x)] d' = _
    rw [lkP_cons]
  | cons p L ih =>
    unfold putP at ih ⊢
    rw [List.findIdx?_cons]
    by_cases h : d = p.1
    · simp only [decide_eq_true h, if_true, List.set_cons_zero]
      rw [lkP_cons, lkP_cons]
      subst h
      by_cases h2 : d' = p.1 <;> simp [h2]
    · simp only [decide_eq_false h, Bool.false_eq_true, if_false]
      cases hk : L.findIdx? fun p => decide (d = p.1) with
      | none =>
        rw [hk] at ih
        simp only [Option.map_none, List.cons_append] at ih ⊢
        rw [lkP_cons, ih, lkP_cons]
        by_cases h2 : d' = p.1
        · rw [if_pos h2, if_pos h2, if_neg (fun e => h (by rw [← e, h2]))]
        · rw [if_neg h2, if_neg h2]
      | some k =>
        rw [hk] at ih
        simp only [Option.map_some, List.set_cons_succ] at ih ⊢
        rw [lkP_cons, ih, lkP_cons]
        by_cases h2 : d' = p.1
        · rw [if_pos h2, if_pos h2, if_neg (fun e => h (by rw [← e, h2]))]
        · rw [if_neg h2, if_neg h2]
theorem MapP.start (w : World) : MapP (w.alloc (.map #[] 0)) w.heap.size [] := ⟨#[], 0, (MapKept.heap_alloc w _).1, rfl, by simp, by simp⟩

/-- 'm[k] op= v': the entry, then its store. -/
theorem MapP.entry {w : World} {m : Nat} {L : List ((Int × Int) × Int)} (h : MapP w m L) (d : Int × Int) :
    ∃ (v0 : Value) (st : Int) (w1 : World), (Instr.mapEntry 86 (.map (some m)) (encP d)).run Try.prog w = .ok (.tuple #[v0, .int .i64 st]) w1 ∧ w.grownBy w1 (some m) ∧ (∃ L1, MapP w1 m L1 ∧ (lkP L1 d).getD 0 = (lkP L d).getD 0) ∧
      ∀ (w2 : World), w2.heap[m]? = w1.heap[m]? → ∀ x : Int, ∃ w3, (Instr.entryStore 86 (.map (some m)) (.int .i64 st) (.int .i64 x)).run Try.prog w2 = .ok () w3 ∧ MapP w3 m (putP L d x) ∧ w2.grownBy w3 (some m) := by
  obtain ⟨es, ck, h1, h2, h3, h4⟩ := h
  have hf := findP' (d := d) (w := w) h2
  have hlt := (Array.getElem?_eq_some_iff.1 h1).1
  have hz : ∀ u : World, (zeroValue 3).run Try.prog u = .ok (.int .i64 0) u := fun u => by
    have hi : (Try.prog.info? 3).bind (fun i => i.zero) = some (.int .i64 0) := by kernel_rfl
    cases h : Try.prog.info? 3 with
    | none => rw [h] at hi; cases hi
    | some i =>
      rw [h] at hi
      simp [zeroValue, typeInfo, h, show i.zero = some (.int .i64 0) from hi]
  have hgr : ∀ (u : World) (o : Obj), u.grownBy { u with heap := u.heap.setIfInBounds m o } (some m) := fun u o => ⟨rfl, rfl, rfl, by simp, fun i _ hi => by
    have : m ≠ i := fun e => hi (by rw [e])
    simp [this]⟩
  unfold putP
  cases hk : L.findIdx? fun p => decide (d = p.1) with
  | none =>
    rw [hk] at hf
    have hput : putP L d 0 = L ++ [(d, 0)] := by unfold putP; rw [hk]
    refine ⟨.int .i64 0, ck, { w with heap := w.heap.setIfInBounds m (.map (es.push { key := encP d, val := .int .i64 0, born := ck }) (ck + 1)) }, ?_, hgr w _, ⟨putP L d 0, ⟨_, _, by simp [hlt]; exact ⟨rfl, rfl⟩, ?_, fun y hy => ?_, ?_⟩, by rw [lkP_put, if_pos rfl, lkP_no hk]; rfl⟩, fun w2 hw2 x => ?_⟩
    · simp [Instr.mapEntry, run_underlying Try.underlying86, MapKept.run_getObj_map h1, checkP, hf, hz, MapKept.run_setObj_map _ h1, Result.andThen, goInt]
    · rw [hput, Array.toList_push, List.map_append, h2, List.map_append]
      rfl
    · rw [Array.toList_push] at hy
      rcases List.mem_append.1 hy with hy | hy
      · have := h3 y hy; omega
      · rw [List.mem_singleton.1 hy]; simp
    · rw [Array.toList_push, List.map_append]
      refine List.nodup_append.2 ⟨h4, by simp, fun a ha c hc e1 => ?_⟩
      simp only [List.map_cons, List.map_nil, List.mem_singleton] at hc
      obtain ⟨y, hy, rfl⟩ := List.mem_map.1 ha
      have := h3 y hy
      omega
    · have hw : w2.heap[m]? = some (.map (es.push { key := encP d, val := .int .i64 0, born := ck }) (ck + 1)) := by rw [hw2]; simp [hlt]
      have hlt2 := (Array.getElem?_eq_some_iff.1 hw).1
      have hidx : (es.push { key := encP d, val := .int .i64 0, born := ck }).findIdx? (fun e => ((e.born : Nat) : Int) == ((ck : Nat) : Int)) = some es.size := by
        rw [Go.WideElems.findIdx_arr]
        have := Go.WideElems.findIdx_born (l := (es.push { key := encP d, val := .int .i64 0, born := ck }).toList) (j := es.size) (e0 := { key := encP d, val := .int .i64 0, born := ck }) (by
          simp only [Array.toList_push, List.map_append, List.map_cons, List.map_nil]
          refine List.nodup_append.2 ⟨h4, by simp, fun a ha c hc e1 => ?_⟩
          simp only [List.mem_singleton] at hc
          obtain ⟨x, hx, rfl⟩ := List.mem_map.1 ha
          have := h3 x hx
          omega) (by simp)
        exact this
      have hmod : (es.push { key := encP d, val := .int .i64 0, born := ck }).modify es.size (fun e => { e with val := .int .i64 x }) = es.push { key := encP d, val := .int .i64 x, born := ck } := by
        apply Array.ext'
        rw [Array.toList_modify, Array.toList_push, Array.toList_push, ← Array.length_toList, Go.WideElems.modify_last]
      refine ⟨{ w2 with heap := w2.heap.setIfInBounds m (.map (es.push { key := encP d, val := .int .i64 x, born := ck }) (ck + 1)) }, ?_, ⟨_, _, by simp [hlt2]; exact ⟨rfl, rfl⟩, ?_, fun y hy => ?_, ?_⟩, hgr w2 _⟩
      · simp [Instr.entryStore, MapKept.run_getObj_map hw, asInt, asIntOf, hidx, hmod, MapKept.run_setObj_map _ hw, Result.andThen]
      · rw [Array.toList_push, List.map_append, h2, List.map_append]
        rfl
      · rw [Array.toList_push] at hy
        rcases List.mem_append.1 hy with hy | hy
        · have := h3 y hy; omega
        · rw [List.mem_singleton.1 hy]; simp
      · rw [Array.toList_push, List.map_append]
        refine List.nodup_append.2 ⟨h4, by simp, fun a ha c hc e1 => ?_⟩
        simp only [List.map_cons, List.map_nil, List.mem_singleton] at hc
        obtain ⟨y, hy, rfl⟩ := List.mem_map.1 ha
        have := h3 y hy
        omega
  | some k =>
    rw [hk] at hf
    obtain ⟨hkl, hp, hno⟩ := List.findIdx?_eq_some_iff_getElem.1 hk
    have hlen : es.toList.length = L.length := by
      have := congrArg List.length h2
      simpa using this
    have hke : k < es.toList.length := by omega
    obtain ⟨e0, he0⟩ : ∃ e0, es.toList[k]? = some e0 := ⟨_, List.getElem?_eq_getElem hke⟩
    have hj : es[k]? = some e0 := by simpa using he0
    have hkey : e0.key = encP d := by
      have h5 : (es.toList.map fun e => (e.key, e.val))[k]? = (L.map fun p => (encP p.1, Value.int .i64 p.2))[k]? := by rw [h2]
      rw [List.getElem?_map, List.getElem?_map, he0, List.getElem?_eq_getElem hkl] at h5
      simp only [Option.map_some, Option.some.injEq, Prod.mk.injEq] at h5
      rw [h5.1, ← of_decide_eq_true hp]
    have hst : ∀ (v : Value) (u : World), v = encP d → (Instr.keyThatStays v (encP d)).run Try.prog u = .ok (encP d) u := fun v u e => by
      subst e
      have hs : Instr.sameBits (9999 + 1) (encP d) (encP d) = true := by
        simp [encP, Instr.sameBits]
      have hs : Instr.sameBits 10000 (encP d) (encP d) = true := hs
      simp [Instr.keyThatStays, hs]
    have hsame : es.modify k (fun e => { e with key := encP d }) = es := by
      apply Array.ext'
      rw [Array.toList_modify, Go.ChangeMaps.modify_eq_set _ _ _ _ he0]
      have : ({ e0 with key := encP d } : MapEntry) = e0 := by rw [← hkey]
      rw [this]
      exact Go.WideElems.set_self _ _ _ he0
    refine ⟨.int .i64 (L.getD k ((0, 0), 0)).2, e0.born, { w with heap := w.heap.setIfInBounds m (.map es ck) }, ?_, hgr w _, ⟨L, ⟨es, ck, by simp [hlt], h2, h3, h4⟩, rfl⟩, fun w2 hw2 x => ?_⟩
    · simp [Instr.mapEntry, run_underlying Try.underlying86, MapKept.run_getObj_map h1, checkP, hf, hj, hkey, hst, hsame, MapKept.run_setObj_map _ h1, Result.andThen, goInt]
    · have hw : w2.heap[m]? = some (.map es ck) := by rw [hw2]; simp [hlt]
      have hlt2 := (Array.getElem?_eq_some_iff.1 hw).1
      have hidx : es.findIdx? (fun e => ((e.born : Nat) : Int) == ((e0.born : Nat) : Int)) = some k := by
        rw [Go.WideElems.findIdx_arr]
        exact Go.WideElems.findIdx_born h4 he0
      have hml : (es.modify k (fun e => { e with val := .int .i64 x })).toList = es.toList.set k { e0 with val := .int .i64 x } := by
        rw [Array.toList_modify, Go.ChangeMaps.modify_eq_set _ _ _ _ he0]
      refine ⟨{ w2 with heap := w2.heap.setIfInBounds m (.map (es.modify k (fun e => { e with val := .int .i64 x })) ck) }, ?_, ⟨_, _, by simp [hlt2]; exact ⟨rfl, rfl⟩, ?_, fun y hy => ?_, ?_⟩, hgr w2 _⟩
      · simp [Instr.entryStore, MapKept.run_getObj_map hw, asInt, asIntOf, hidx, MapKept.run_setObj_map _ hw, Result.andThen]
      · rw [hml, List.map_set, List.map_set, h2]
        simp [hkey]
      · rw [hml] at hy
        rcases List.mem_or_eq_of_mem_set hy with hy | rfl
        · exact h3 y hy
        · exact h3 e0 (List.mem_of_getElem? he0)
      · rw [hml, List.map_set]
        have : (es.toList.map (·.born)).set k e0.born = es.toList.map (·.born) := Go.WideElems.set_self _ _ _ (by rw [List.getElem?_map, he0]; rfl)
        simpa [this] using h4
end Go.Proofs.Ytgjaikekpgdehaa
