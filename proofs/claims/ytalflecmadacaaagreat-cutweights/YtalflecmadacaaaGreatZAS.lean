import Derived.Laws.StructEq
import Derived.Maps.OwnSet
import Derived.Test.YtalflecmadacaaaGreatZAR
import Derived.Test.YtalflecmadacaaaGreatZAA
import Derived.Deep.QuietTactic
import Derived.Deep.RegionWith
import Derived.Deep.RegionHeld3
import Derived.Test.YtalflecmadacaaaGreatZAM
set_option maxRecDepth 100000
set_option maxHeartbeats 8000000
namespace Go.Proofs.YtalflecmadacaaaGreat
open Go Go.Proofs Go.RowKit
def encD (d : Dt) : Value := .agg #[.int .i64 d.1, .int .i64 d.2]
theorem eqD_run (a b : Dt) (w : World) : (Op.equal 91 (encD a) (encD b)).run Tryz.prog w = .ok (decide (a = b)) w := by
 have u3 := Tryz.underlying3
 have a3 := Tryz.isAgg3
 have z3 := Tryz.sizeOf3
 have hS : Tryz.prog.underlying 91 = some (.struct (Tryz.prog.fieldsOf 91)) := by kernel_rfl
 have hp : Tryz.prog.stoodInHeld 91 = false := by kernel_rfl
 show (Op.equalIn (9999 + 1) 91 (.agg #[.int .i64 a.1, .int .i64 a.2]) (.agg #[.int .i64 b.1, .int .i64 b.2])).run Tryz.prog w = _
 rw [run_equalIn_struct w 9999 91 _ _ hS hp]
 simp only [Program.fieldsOf, Tryz.underlying91]
 go_simp
 obtain ⟨x0, x1⟩ := a
 obtain ⟨y0, y1⟩ := b
 by_cases h0 : x0 = y0 <;> by_cases h1 : x1 = y1 <;> simp [h0, h1]
theorem checkD (w : World) (em : Bool) (d : Dt) : (Instr.checkKey em 10000 91 (encD d)).run Tryz.prog w = .ok () w := by
 have u3 := Tryz.underlying3
 have a3 := Tryz.isAgg3
 have z3 := Tryz.sizeOf3
 have hd : ∀ k : Nat, (Instr.checkKey em (k + 1 + 1) 91 (encD d)).run Tryz.prog w = .ok () w := fun k => by
  simp [Instr.checkKey, encD, run_underlying Tryz.underlying91, run_underlying Tryz.underlying3]
  go_simp
 exact hd 9998
theorem askD {d : Dt} {w : World} : ∀ (es : List MapEntry) (L : List (Dt × Dt)) (i : Nat), es.map (fun e => (e.key, e.val)) = L.map (fun p => (encD p.1, encD p.2)) →
  (Instr.findAsking 91 (encD d) es i).run Tryz.prog w = .ok ((L.findIdx? fun p => decide (d = p.1)).map fun k => (i + k, encD (L.getD k ((0, 0), (0, 0))).2)) w
 | [], [], i, _ => by simp [Instr.findAsking]
 | [], p :: L, i, h => by simp at h
 | e :: es, [], i, h => by simp at h
 | e :: es, p :: L, i, h => by
  rw [List.map_cons, List.map_cons, List.cons.injEq, Prod.mk.injEq] at h
  obtain ⟨⟨h1, h2⟩, h3⟩ := h
  have ih := askD (d := d) (w := w) es L (i + 1) h3
  unfold Instr.findAsking
  rw [h1, List.findIdx?_cons]
  by_cases hd : d = p.1
  ·simp [eqD_run, hd, h2]
  ·simp only [Sem.run_bind, eqD_run, decide_eq_false hd, Result.andThen_ok, Bool.false_eq_true, if_false, ih]
   congr 1
   cases L.findIdx? fun p => decide (d = p.1) with
   | none => rfl
   | some k =>
    simp only [Option.map_some, Option.some.injEq, Prod.mk.injEq, List.getD_cons_succ, and_true]
    omega
theorem findD {d : Dt} {w : World} {es : List MapEntry} {L : List (Dt × Dt)} (h : es.map (fun e => (e.key, e.val)) = L.map (fun p => (encD p.1, encD p.2))) :
  (Instr.findKey 91 (encD d) es).run Tryz.prog w = .ok ((L.findIdx? fun p => decide (d = p.1)).map fun k => (k, encD (L.getD k ((0, 0), (0, 0))).2)) w := by
 have ha := askD (d := d) (w := w) es L 0 h
 simp only [Nat.zero_add] at ha
 cases es with
 | nil =>
  cases L with
  | nil => simp [Instr.findKey, run_underlying Tryz.underlying91, Instr.findNow]
  | cons p L => simp at h
 | cons e es =>
  cases L with
  | nil => simp at h
  | cons p L =>
   rw [List.map_cons, List.map_cons, List.cons.injEq, Prod.mk.injEq] at h
   simp [Instr.findKey, run_underlying Tryz.underlying91, Instr.findNow, Instr.sameNow, encD, h.1.1]
   exact ha
theorem map_er {α β : Type} (f : α → β) : ∀ (l : List α) (k : Nat), (l.eraseIdx k).map f = (l.map f).eraseIdx k
 | [], _ => by simp
 | x :: l, 0 => by simp
 | x :: l, k + 1 => by simp [map_er f l k]
def MapD (w : World) (m : Nat) (L : List (Dt × Dt)) : Prop := ∃ es ck, w.heap[m]? = some (.map es ck) ∧ es.toList.map (fun e => (e.key, e.val)) = L.map (fun p => (encD p.1, encD p.2))
theorem MapD.lt {w : World} {m : Nat} {L : List (Dt × Dt)} (h : MapD w m L) : m < w.heap.size := by
 obtain ⟨es, ck, h1, _⟩ := h
 exact (Array.getElem?_eq_some_iff.1 h1).1
theorem MapD.keep {w w' : World} {m : Nat} {L : List (Dt × Dt)} (h : MapD w m L) (hb : w'.heap[m]? = w.heap[m]?) : MapD w' m L := by
 obtain ⟨es, ck, h1, h2⟩ := h
 exact ⟨es, ck, hb.trans h1, h2⟩
theorem MapD.start (w : World) : MapD (w.alloc (.map #[] 0)) w.heap.size [] := ⟨#[], 0, (MapKept.heap_alloc w _).1, rfl⟩
def lkD (L : List (Dt × Dt)) (d : Dt) : Option Dt := (L.find? fun p => decide (d = p.1)).map (·.2)
theorem MapD.lookup {w : World} {m : Nat} {L : List (Dt × Dt)} (h : MapD w m L) (d : Dt) :
  (Instr.lookup 148 (.map (some m)) (encD d) true).run Tryz.prog w = .ok (.tuple #[encD ((lkD L d).getD (0, 0)), .bool (lkD L d).isSome]) w := by
 obtain ⟨es, ck, h1, h2⟩ := h
 have hf := findD (d := d) (w := w) h2
 have e1 : (L.findIdx? fun p => decide (d = p.1)).isSome = (lkD L d).isSome := by
  unfold lkD
  rw [Option.isSome_map, List.findIdx?_isSome, Bool.eq_iff_iff, List.find?_isSome, List.any_eq_true]
 have e2 : ∀ k, (L.findIdx? fun p => decide (d = p.1)) = some k → lkD L d = some (L.getD k ((0, 0), (0, 0))).2 := fun k hk => by
  obtain ⟨hlt, hp, hno⟩ := List.findIdx?_eq_some_iff_getElem.1 hk
  unfold lkD
  have e : (L.find? fun p => decide (d = p.1)) = some L[k] := List.find?_eq_some_iff_getElem.2 ⟨hp, k, hlt, rfl, fun j hj => by simpa using hno j hj⟩
  rw [e]
  simp [hlt]
 cases hk : L.findIdx? fun p => decide (d = p.1) with
 | none =>
  rw [hk] at hf e1
  have e3 : lkD L d = none := by
   cases hl : lkD L d with
   | none => rfl
   | some x => rw [hl] at e1; cases e1
  simp [Instr.lookup, run_underlying Tryz.underlying148, MapKept.run_getObj_map h1, checkD, hf, e3]
  rfl
 | some k =>
  rw [hk] at hf
  have e3 := e2 k hk
  simp [Instr.lookup, run_underlying Tryz.underlying148, MapKept.run_getObj_map h1, checkD, hf, e3]
theorem MapD.update {w : World} {m : Nat} {L : List (Dt × Dt)} (h : MapD w m L) {d : Dt} (hd : ∀ p ∈ L, p.1 ≠ d) (e : Dt) :
  ∃ w', (Instr.mapUpdate 148 (.map (some m)) (encD d) (encD e)).run Tryz.prog w = .ok () w' ∧ MapD w' m (L ++ [(d, e)]) ∧ w.grownBy w' (some m) := by
 obtain ⟨es, ck, h1, h2⟩ := h
 have hf := findD (d := d) (w := w) h2
 have hno : (L.findIdx? fun p => decide (d = p.1)) = none := by
  rw [List.findIdx?_eq_none_iff]
  intro p hp
  have := hd p hp
  simp
  exact fun e => this e.symm
 rw [hno] at hf
 have hlt := (Array.getElem?_eq_some_iff.1 h1).1
 refine ⟨{ w with heap := w.heap.setIfInBounds m (.map (es.push { key := encD d, val := encD e, born := ck }) (ck + 1)) }, ?_, ⟨es.push { key := encD d, val := encD e, born := ck }, ck + 1, by simp [hlt], ?_⟩, ⟨rfl, rfl, rfl, by simp, fun i _ hi => ?_⟩⟩
 ·simp [Instr.mapUpdate, run_underlying Tryz.underlying148, MapKept.run_getObj_map h1, checkD, hf, MapKept.run_setObj_map _ h1]
 ·rw [Array.toList_push, List.map_append, h2, List.map_append]
  rfl
 ·have : m ≠ i := fun e => hi (by rw [e])
  simp [this]
theorem MapD.delete {w : World} {m : Nat} {L : List (Dt × Dt)} (h : MapD w m L) (d : Dt) (ty : TypeId) :
  ∃ w', (Builtin.delete_ #[148, 91] ty #[.map (some m), encD d]).run Tryz.prog w = .ok (.tuple #[]) w' ∧ MapD w' m (L.eraseP fun p => decide (d = p.1)) ∧ w.grownBy w' (some m) := by
 obtain ⟨es, ck, h1, h2⟩ := h
 have hf := findD (d := d) (w := w) h2
 have hlt := (Array.getElem?_eq_some_iff.1 h1).1
 rw [List.eraseP_eq_eraseIdx]
 cases hk : L.findIdx? fun p => decide (d = p.1) with
 | none =>
  rw [hk] at hf
  refine ⟨{ w with heap := w.heap.setIfInBounds m (.map es ck) }, ?_, ⟨es, ck, by simp [hlt], h2⟩, ⟨rfl, rfl, rfl, by simp, fun i _ hi => ?_⟩⟩
  ·simp [Builtin.delete_, run_underlying Tryz.underlying148, MapKept.run_getObj_map h1, checkD, hf, MapKept.run_setObj_map _ h1]
  ·have : m ≠ i := fun e => hi (by rw [e])
   simp [this]
 | some k =>
  rw [hk] at hf
  refine ⟨{ w with heap := w.heap.setIfInBounds m (.map (es.eraseIdxIfInBounds k) ck) }, ?_, ⟨es.eraseIdxIfInBounds k, ck, by simp [hlt], ?_⟩, ⟨rfl, rfl, rfl, by simp, fun i _ hi => ?_⟩⟩
  ·simp [Builtin.delete_, run_underlying Tryz.underlying148, MapKept.run_getObj_map h1, checkD, hf, MapKept.run_setObj_map _ h1]
  ·rw [Array.toList_eraseIdxIfInBounds, map_er, h2, map_er]
  ·have : m ≠ i := fun e => hi (by rw [e])
   simp [this]
def Lsts (n : Nat) (W : World) (sv : Value) (LL : List (List Int)) : Prop :=
 ((∃ p c, sv = .slice p 0 c) ∧ LL = []) ∨ ∃ b off cap, sv = .slice (some ⟨b, off, none⟩) LL.length cap ∧ b < n ∧ LL.length ≤ cap ∧ ∀ (j : Nat) (x : List Int), LL[j]? = some x → ∃ sx, W.cell? ⟨b, off + j, none⟩ = some sx ∧ Ints n W sx x
theorem Lsts.below {n : Nat} {W W' : World} {sv : Value} {LL : List (List Int)} (h : Lsts n W sv LL) (hb : Below n W W') : Lsts n W' sv LL := by
 rcases h with h | ⟨b, off, cap, h1, h2, h3, h4⟩
 ·exact .inl h
 ·exact .inr ⟨b, off, cap, h1, h2, h3, fun j x hx => by
   obtain ⟨sx, h5, h6⟩ := h4 j x hx
   exact ⟨sx, (hb.cell (p := ⟨b, _, none⟩) h2).trans h5, h6.below hb⟩⟩
theorem Lsts.mono {n m : Nat} {W : World} {sv : Value} {LL : List (List Int)} (h : Lsts n W sv LL) (hb : n ≤ m) : Lsts m W sv LL := by
 rcases h with h | ⟨b, off, cap, h1, h2, h3, h4⟩
 ·exact .inl h
 ·exact .inr ⟨b, off, cap, h1, Nat.lt_of_lt_of_le h2 hb, h3, fun j x hx => by
   obtain ⟨sx, h5, h6⟩ := h4 j x hx
   exact ⟨sx, h5, h6.mono hb⟩⟩
theorem Lsts.go {W W' : World} {sv : Value} {LL : List (List Int)} (h : Lsts W.heap.size W sv LL) (hb : Below W.heap.size W W') : Lsts W'.heap.size W' sv LL := (h.below hb).mono hb.size
theorem Lsts.len {n : Nat} {W : World} {sv : Value} {LL : List (List Int)} (h : Lsts n W sv LL) : ∃ p c, sv = .slice p LL.length c := by
 rcases h with ⟨⟨p, c, rfl⟩, rfl⟩ | ⟨b, off, cap, rfl, _⟩ <;> exact ⟨_, _, rfl⟩
theorem Lsts.cellAt {n : Nat} {w : World} {p : Option Addr} {c : Nat} {L : List (List Int)} (h : Lsts n w (.slice p L.length c) L) {j : Nat} (hj : j < L.length) :
  ∃ b off, p = some ⟨b, off, none⟩ ∧ b < n ∧ L.length ≤ c ∧ ∃ px cx, Ints n w (.slice px L[j].length cx) L[j] ∧ w.cell? ⟨b, off + j, none⟩ = some (.slice px L[j].length cx) := by
 rcases h with ⟨_, h0⟩ | ⟨b, off, cap, h1, h2, h3, h4⟩
 ·subst h0; simp at hj
 ·simp only [Value.slice.injEq] at h1
  obtain ⟨rfl, _, rfl⟩ := h1
  obtain ⟨sx, h5, h6⟩ := h4 j _ (List.getElem?_eq_getElem hj)
  obtain ⟨px, cx, rfl⟩ := h6.len
  exact ⟨b, off, rfl, h2, h3, px, cx, h6, h5⟩
theorem ints_owned {W : World} {base : Nat} {e : TypeId} {v : Value} {l : List Int} (h : W.ownsRow base e 1 v l.length (l.map (Value.int .i64))) : Ints W.heap.size W v l := by
 rcases h.2 with ⟨rfl, h0⟩ | ⟨g, cap, cur, rfl, hb, hg, hn, hc⟩
 ·have : l = [] := List.eq_nil_of_length_eq_zero h0
  subst this
  exact .inl ⟨⟨_, _, rfl⟩, rfl⟩
 ·refine .inr ⟨g, 0, cap, rfl, (Array.getElem?_eq_some_iff.1 hg).1, hn, fun j x hx => ?_⟩
  have := h.cells (g := g) rfl j (.int .i64 x) (by rw [List.getElem?_map, hx]; rfl)
  rwa [Go.WideShapes.add_plain] at this
theorem Grp.lsts {h0 : Nat} {lv : Value} {svs : List Value} {pre : List (List Int)} {W : World} (h : Grp h0 lv svs pre W) : Lsts W.heap.size W lv pre := by
 have hlen := h.len
 rcases h.own.2 with ⟨rfl, h1⟩ | ⟨g, cap, cur, rfl, hb, hg, hn, hc⟩
 ·exact .inl ⟨⟨_, _, rfl⟩, List.eq_nil_of_length_eq_zero (by omega)⟩
 ·refine .inr ⟨g, 0, cap, by rw [hlen], (Array.getElem?_eq_some_iff.1 hg).1, by omega, fun j x hx => ?_⟩
  have hj := (List.getElem?_eq_some_iff.1 hx).1
  obtain ⟨sx, hs⟩ : ∃ sx, svs[j]? = some sx := ⟨_, List.getElem?_eq_getElem (by omega)⟩
  refine ⟨sx, ?_, ints_owned (h.inn j sx x hs hx)⟩
  have := h.own.cells (g := g) rfl j sx hs
  rwa [Go.WideShapes.add_plain] at this
end Go.Proofs.YtalflecmadacaaaGreat
