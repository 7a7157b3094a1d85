/-
  Errors that are wrapped, as chains in memory; the contract of fault.walk.
-/
import Derived.WalkKit
import Derived.LaidEql
import Derived.Stop.Asserts
import Derived.RowKitTokens
import Derived.Maps.OwnSet
import Derived.Test.YthlkknfhganecaaGreatDoorProg
namespace Go.Proofs.YthlkknfhganecaaGreatDoor
open Go Go.Proofs Go.RowKit


abbrev TF : TypeId := 83
abbrev PF : TypeId := 81
abbrev TK : TypeId := 22
abbrev PE : TypeId := 169
abbrev TM : TypeId := 121

/-- An error that is no *Fault: what a chain ends with. -/
def EndV (v : Value) : Prop := v = .nilIface ∨ (∃ k, v = .iface 22 (.int .i64 k)) ∨ ∃ p, v = .iface 169 (.pointer (some p))
theorem EndV.none : EndV .nilIface := .inl rfl
theorem EndV.kind (k : Int) : EndV (.iface 22 (.int .i64 k)) := .inr (.inl ⟨k, rfl⟩)
theorem EndV.err (p : Addr) : EndV (.iface 169 (.pointer (some p))) := .inr (.inr ⟨p, rfl⟩)

/-- Block b holds a Fault. -/
def FB (w : World) (b : Nat) (s : ByteArray) (a : Int) (v : Value) : Prop := w.heap[b]? = some (.cells #[.string s, .int .i64 a, v] 83 (0, 0))
theorem FB.c0 {w : World} {b : Nat} {s : ByteArray} {a : Int} {v : Value} (h : FB w b s a v) : w.cell? ⟨b, 0, none⟩ = some (.string s) := by simp [World.cell?, show w.heap[b]? = _ from h]
theorem FB.c1 {w : World} {b : Nat} {s : ByteArray} {a : Int} {v : Value} (h : FB w b s a v) : w.cell? ⟨b, 1, none⟩ = some (.int .i64 a) := by simp [World.cell?, show w.heap[b]? = _ from h]
theorem FB.c2 {w : World} {b : Nat} {s : ByteArray} {a : Int} {v : Value} (h : FB w b s a v) : w.cell? ⟨b, 2, none⟩ = some v := by simp [World.cell?, show w.heap[b]? = _ from h]
theorem FB.lt {w : World} {b : Nat} {s : ByteArray} {a : Int} {v : Value} (h : FB w b s a v) : b < w.heap.size := (Array.getElem?_eq_some_iff.1 (show w.heap[b]? = _ from h)).1

/-- A chain below block n: its places, the outermost first; ev: what it ends with. -/
def Chain (w : World) (ev : Value) : Nat → List (ByteArray × Int) → Value → Prop
  | _, [], v => v = ev
  | n, x :: L, v => ∃ b v', b < n ∧ v = .iface 81 (.pointer (some ⟨b, 0, none⟩)) ∧ FB w b x.1 x.2 v' ∧ Chain w ev b L v'
theorem Chain.below {w w' : World} {ev : Value} : ∀ {n : Nat} {L : List (ByteArray × Int)} {v : Value}, Below n w w' → Chain w ev n L v → Chain w' ev n L v
  | _, [], _, _, h => h
  | _, _ :: _, _, hb, ⟨b, v', h1, h2, h3, h4⟩ => ⟨b, v', h1, h2, (hb.block b h1).trans h3, Chain.below (hb.mono (Nat.le_of_lt h1)) h4⟩
theorem Chain.mono {w : World} {ev : Value} : ∀ {n m : Nat} {L : List (ByteArray × Int)} {v : Value}, n ≤ m → Chain w ev n L v → Chain w ev m L v
  | _, _, [], _, _, h => h
  | _, _, _ :: _, _, hm, ⟨b, v', h1, h2⟩ => ⟨b, v', Nat.lt_of_lt_of_le h1 hm, h2⟩
/-- How far a chain can go: its first block. -/
def rank : Value → Nat
  | .iface 81 (.pointer (some a)) => a.block + 1
  | _ => 0

/-- Block m is a set of pointers to blocks from n on. -/
def Pass (w : World) (m n N : Nat) : Prop :=
  ∃ es ck, w.heap[m]? = some (.map es ck) ∧ ∀ e ∈ es.toList, ∃ b c t, e.key = .pointer (some ⟨b, 0, none⟩) ∧ n ≤ b ∧ b < N ∧ w.heap[b]? = some (.cells c t (0, 0))
theorem Pass.start (w : World) (n N : Nat) : Pass (w.alloc (.map #[] 0)) w.heap.size n N := ⟨#[], 0, (MapKept.heap_alloc w _).1, by simp⟩
theorem Pass.lt {w : World} {m n N : Nat} (h : Pass w m n N) : m < w.heap.size := by
  obtain ⟨es, ck, h1, _⟩ := h
  exact (Array.getElem?_eq_some_iff.1 h1).1

theorem ptr_info : (Tryz.prog.info? 83).map (·.size) = some 3 := by kernel_rfl
theorem equal_ptr {w : World} {a b : Nat} {ca cb : Array Value} {ta tb : TypeId} (hne : a ≠ b) (ha : w.heap[a]? = some (.cells ca ta (0, 0))) (hb : w.heap[b]? = some (.cells cb tb (0, 0))) :
    (Op.equal 81 (.pointer (some ⟨a, 0, none⟩)) (.pointer (some ⟨b, 0, none⟩))).run Tryz.prog w = .ok false w := by
  obtain ⟨j, hj, hjs⟩ := Option.map_eq_some_iff.1 ptr_info
  have h := run_sameAddr_other (P := Tryz.prog) w (a := ⟨a, 0, none⟩) (b := ⟨b, 0, none⟩) (fun e => hne (congrArg Addr.block e)) ha hb
  have hd : ∀ d : Nat, (Op.equalIn (d + 1) 81 (.pointer (some ⟨a, 0, none⟩)) (.pointer (some ⟨b, 0, none⟩))).run Tryz.prog w = .ok false w := fun d => by
    simp [Op.equalIn, run_underlying Tryz.underlying81, sizeOf, typeInfo, hj, hjs, h]
  exact hd 9999
theorem checkKey_ptr (w : World) (em : Bool) (p : Option Addr) : (Instr.checkKey em 10000 81 (.pointer p)).run Tryz.prog w = .ok () w := by
  have hd : ∀ d : Nat, (Instr.checkKey em (d + 1) 81 (.pointer p)).run Tryz.prog w = .ok () w := fun d => by
    simp [Instr.checkKey, run_underlying Tryz.underlying81]
  exact hd 9999
theorem asking_none {w : World} {b n N : Nat} {c : Array Value} {t : TypeId} (hb : b < n) (hF : w.heap[b]? = some (.cells c t (0, 0))) : ∀ (es : List MapEntry) (i : Nat),
    (∀ e ∈ es, ∃ b c t, e.key = .pointer (some ⟨b, 0, none⟩) ∧ n ≤ b ∧ b < N ∧ w.heap[b]? = some (.cells c t (0, 0))) → (Instr.findAsking 81 (.pointer (some ⟨b, 0, none⟩)) es i).run Tryz.prog w = .ok none w
  | [], _, _ => by simp [Instr.findAsking]
  | e :: es, i, h => by
    obtain ⟨b', c', t', hk, hn, _, hc⟩ := h e (by simp)
    have := equal_ptr (w := w) (a := b) (b := b') (by omega) hF hc
    simp [Instr.findAsking, hk, this, asking_none hb hF es (i + 1) (fun e he => h e (by simp [he]))]
theorem findKey_none {w : World} {b n N : Nat} {c : Array Value} {t : TypeId} (hb : b < n) (hF : w.heap[b]? = some (.cells c t (0, 0))) (es : List MapEntry)
    (h : ∀ e ∈ es, ∃ b c t, e.key = .pointer (some ⟨b, 0, none⟩) ∧ n ≤ b ∧ b < N ∧ w.heap[b]? = some (.cells c t (0, 0))) : (Instr.findKey 81 (.pointer (some ⟨b, 0, none⟩)) es).run Tryz.prog w = .ok none w := by
  cases es with
  | nil => simp [Instr.findKey, run_underlying Tryz.underlying81, Instr.findNow]
  | cons e es =>
    have := asking_none hb hF (e :: es) 0 h
    simp [Instr.findKey, run_underlying Tryz.underlying81, Instr.findNow, Instr.sameNow, this]
theorem Pass.lookup {w : World} {m n N b : Nat} {c : Array Value} {t : TypeId} (h : Pass w m n N) (hb : b < n) (hF : w.heap[b]? = some (.cells c t (0, 0))) :
    (Instr.lookup 121 (.map (some m)) (.pointer (some ⟨b, 0, none⟩)) true).run Tryz.prog w = .ok (.tuple #[.agg #[], .bool false]) w := by
  obtain ⟨es, ck, h1, h2⟩ := h
  have hk := findKey_none hb hF es.toList h2
  simp [Instr.lookup, run_underlying Tryz.underlying121, MapKept.run_getObj_map h1, checkKey_ptr, hk]
theorem Pass.lookup_nil {w : World} {m : Nat} (h : w.heap[m]? = some (.map #[] 0)) :
    (Instr.lookup 121 (.map (some m)) (.pointer none) true).run Tryz.prog w = .ok (.tuple #[.agg #[], .bool false]) w := by
  simp [Instr.lookup, run_underlying Tryz.underlying121, MapKept.run_getObj_map h, checkKey_ptr, run_underlying Tryz.underlying81, Instr.findKey, Instr.findNow]
theorem Pass.update {w : World} {m n N b : Nat} {c : Array Value} {t : TypeId} (h : Pass w m n N) (hb : b < n) (hbN : b < N) (hF : w.heap[b]? = some (.cells c t (0, 0))) (u : Value) :
    ∃ w', (Instr.mapUpdate 121 (.map (some m)) (.pointer (some ⟨b, 0, none⟩)) u).run Tryz.prog w = .ok () w' ∧ Pass w' m b N ∧ w.grownBy w' (some m) := by
  obtain ⟨es, ck, h1, h2⟩ := h
  have hk := findKey_none hb hF es.toList h2
  have hlt := (Array.getElem?_eq_some_iff.1 h1).1
  have hoth : ∀ (o : Obj) k, k ≠ m → ({ w with heap := w.heap.setIfInBounds m o } : World).heap[k]? = w.heap[k]? := fun o k hk => by simp [Ne.symm hk]
  have hbm : ∀ k c' t', w.heap[k]? = some (.cells c' t' (0, 0)) → k ≠ m := fun k c' t' hk' e => by subst e; rw [h1] at hk'; cases hk'
  refine ⟨{ w with heap := w.heap.setIfInBounds m (.map (es.push { key := .pointer (some ⟨b, 0, none⟩), val := u, born := ck }) (ck + 1)) }, ?_, ⟨es.push { key := .pointer (some ⟨b, 0, none⟩), val := u, born := ck }, ck + 1, by simp [hlt], ?_⟩, ⟨rfl, rfl, rfl, by simp, fun i _ hi => hoth _ i (fun e => hi (by rw [e]))⟩⟩
  · simp [Instr.mapUpdate, run_underlying Tryz.underlying121, MapKept.run_getObj_map h1, checkKey_ptr, hk, MapKept.run_setObj_map _ h1]
  · intro e he
    simp only [Array.toList_push, List.mem_append, List.mem_singleton] at he
    rcases he with he | rfl
    · obtain ⟨b', c', t', e1, e2, e4, e3⟩ := h2 e he
      exact ⟨b', c', t', e1, by omega, e4, (hoth _ _ (hbm _ _ _ e3)).trans e3⟩
    · exact ⟨b, c, t, rfl, Nat.le_refl _, hbN, (hoth _ _ (hbm _ _ _ hF)).trans hF⟩
/-- The set stays what it is while new blocks are made, and others written, that are not its own and not those of its pointers. -/
theorem Pass.kept {w w' : World} {m n N : Nat} (h : Pass w m n N) (hb : Below N w w') (hm : w'.heap[m]? = w.heap[m]?) : Pass w' m n N := by
  obtain ⟨es, ck, h1, h2⟩ := h
  refine ⟨es, ck, hm.trans h1, fun e he => ?_⟩
  obtain ⟨b, c, t, e1, e2, e4, e3⟩ := h2 e he
  exact ⟨b, c, t, e1, e2, e4, (hb.block b e4).trans e3⟩

/-! Assertions to *Fault. -/
theorem assertF (p : Option Addr) (x : TypeId) (w : World) : (Instr.typeAssert (.iface 81 (.pointer p)) x 81 true).run Tryz.prog w = .ok (.tuple #[.pointer p, .bool true]) w := by kernel_rfl
theorem assertNil (x : TypeId) (w : World) : (Instr.typeAssert .nilIface x 81 true).run Tryz.prog w = .ok (.tuple #[.pointer none, .bool false]) w := by kernel_rfl
theorem assertK (k : Int) (x : TypeId) (w : World) : (Instr.typeAssert (.iface 22 (.int .i64 k)) x 81 true).run Tryz.prog w = .ok (.tuple #[.pointer none, .bool false]) w := by kernel_rfl
theorem assertE (p : Addr) (x : TypeId) (w : World) : (Instr.typeAssert (.iface 169 (.pointer (some p))) x 81 true).run Tryz.prog w = .ok (.tuple #[.pointer none, .bool false]) w := by kernel_rfl
theorem assertEnd {ev : Value} (h : EndV ev) (x : TypeId) (w : World) : (Instr.typeAssert ev x 81 true).run Tryz.prog w = .ok (.tuple #[.pointer none, .bool false]) w := by
  rcases h with rfl | ⟨k, rfl⟩ | ⟨p, rfl⟩
  · exact assertNil x w
  · exact assertK k x w
  · exact assertE p x w

/-- 'm[k] = struct{}{}' at the operation. -/
theorem wpList_pass (w : World) {ops : Array Oper} {rest : List Oper} {o : Oper} {a : Act} {Q : Exit → Act → World → Prop}
    (hg : o.guard = none) (m x v : Operand) (hop : o.op = Op.mapUpdate 121 m x v) (M n N b : Nat) {c : Array Value} {t : TypeId}
    (hm : a.eval m = .map (some M)) (h : Pass w M n N) (hb : b < n) (hbN : b < N) (hF : w.heap[b]? = some (.cells c t (0, 0))) (hx : a.eval x = .pointer (some ⟨b, 0, none⟩))
    (hK : ∀ w', Pass w' M b N → w.grownBy w' (some M) → wpList Tryz.prog ops Q rest (a.put o.dst undef) w') :
    wpList Tryz.prog ops Q (o :: rest) a w := by
  refine wpList_plain hg fun K' hK' => ?_
  obtain ⟨w', hrun, r1, r2⟩ := h.update hb hbN hF (a.eval v)
  unfold Oper.wp
  simp [execOp, hop, hm, hx, hrun, Result.andThen]
  exact hK' _ _ (hK w' r1 r2)



/-- Block M is a map. -/
def IsMapAt (W : World) (M : Nat) : Prop := ∃ es ck, W.heap[M]? = some (.map es ck)
theorem Pass.isMap {w : World} {m n N : Nat} (h : Pass w m n N) : IsMapAt w m := let ⟨es, ck, h1, _⟩ := h; ⟨es, ck, h1⟩
/-- What a call of visit must do at the j-th link, in block b. -/
def Visits (fn : Nat) (caps : Array Value) (N M : Nat) (L : List (ByteArray × Int)) (I : Nat → World → Prop) : Prop :=
  ∀ (j b : Nat) (x : ByteArray × Int) (v' : Value) (W : World), L[j]? = some x → b < N → FB W b x.1 x.2 v' → IsMapAt W M → I j W →
    Calls Tryz.prog fn (#[.pointer (some ⟨b, 0, none⟩)] ++ caps) W fun e W' => e = .returned (.tuple #[]) ∧ I (j + 1) W' ∧ Below N W W' ∧ W'.heap[M]? = W.heap[M]?
/-- What a link's visit leaves bears the set's own steps. -/
def Bears (M : Nat) (I : Nat → World → Prop) : Prop := ∀ j W W', IsMapAt W M → I j W → W.grownBy W' (some M) → I j W'

theorem rank_lt {w : World} {ev v : Value} {n : Nat} {L : List (ByteArray × Int)} (hev : EndV ev) (hc : Chain w ev n L v) : rank v < rank (.iface 81 (.pointer (some ⟨n, 0, none⟩))) := by
  cases L with
  | nil =>
    have hc : v = ev := hc
    subst hc
    rcases hev with rfl | ⟨k, rfl⟩ | ⟨p, rfl⟩ <;> simp [rank]
  | cons x L =>
    obtain ⟨b, v', h1, rfl, _⟩ := hc
    simp [rank]
    omega

set_option maxRecDepth 100000 in
set_option maxHeartbeats 2000000 in
theorem walk_any (fn : Nat) (caps : Array Value) (L : List (ByteArray × Int)) (I : Nat → World → Prop) (N : Nat) (ev v : Value) (hev : EndV ev) (w : World) (hN : N ≤ w.heap.size) (hC : Chain w ev N L v)
    (hfn : ∀ args W, (callFunc fn args).run Tryz.prog W = .ok (.enter fn args) W) (hV : Visits fn caps N w.heap.size L I) (hB : Bears w.heap.size I) (h0 : I 0 (w.alloc (.map #[] 0))) :
    Calls Tryz.prog 42 #[v, .func (.func fn) #[] caps] w fun e w' => e = .returned ev ∧ I L.length w' ∧ Below N w w' := by
  have hmm := @run_makeMap Tryz.prog
  go_enter Tryz.func42, Tryz.ntmps42
  go_wp2
  go_loopw [0] (fun x wr => ∃ (j n : Nat), j ≤ L.length ∧ n ≤ N ∧ Chain wr ev n (L.drop j) x ∧ I j wr ∧ Pass wr w.heap.size n N ∧ Below N w wr) (fun x _ => rank x)
  case atStart => exact ⟨0, N, Nat.zero_le _, Nat.le_refl _, (by simpa using hC.below ((Below.refl N w).alloc hN _)), h0, Pass.start w N N, (Below.refl N w).alloc hN _⟩
  case round =>
    obtain ⟨j, n, hj, hn, hc, hI, hP, hb⟩ := hrel
    by_cases hlt : j < L.length
    · rw [List.drop_eq_getElem_cons hlt] at hc
      obtain ⟨b, v', hbn, rfl, hF, hc'⟩ := hc
      have hlk := hP.lookup hbn hF
      have haF := assertF
      have hNr : N ≤ wr.heap.size := Nat.le_trans hN hb.size
      have hbN : b < N := Nat.lt_of_lt_of_le hbn hn
      have hMr := hP.lt
      have hal : Below N wr (wr.alloc (.cells #[] 123)) := (Below.refl N wr).alloc hNr _
      have hP1 := hP.kept hal (Below.heap_alloc wr _ _ hMr)
      have hF1 : FB (wr.alloc (.cells #[] 123)) b L[j].1 L[j].2 v' := (hal.block b hbN).trans hF
      go_wp2_with (at_mapUpdate; refine wpList_pass _ rfl _ _ _ rfl w.heap.size n N b rfl hP1 hbn hbN hF1 rfl ?_; intro w2 hP2 hg2)
      have hF2 : FB w2 b L[j].1 L[j].2 v' := (hg2.block b hF1.lt (fun e => absurd (Option.some.inj e) (by omega))).trans hF1
      have hs2 := hg2.size
      have hI2 : I j w2 := hB j _ _ hP1.isMap (hB j _ _ hP.isMap hI (World.grownBy_alloc wr _ _)) hg2
      refine (hV j b L[j] v' w2 (List.getElem?_eq_getElem hlt) hbN hF2 hP2.isMap hI2).mono ?_
      rintro e w3 ⟨rfl, hI3, hb3, hM3⟩
      have hF3 : FB w3 b L[j].1 L[j].2 v' := (hb3.block b hbN).trans hF2
      have c2 := hF3.c2
      go_wp2
      have hb2 : Below N wr w2 := hal.grown hg2 (by simp; omega) (fun k e => by cases e; exact hN)
      have hbw := (hb.trans hb2).trans hb3
      have hc3 := hc'.below ((hb2.trans hb3).mono (Nat.le_of_lt hbN))
      exact ⟨⟨j + 1, b, hlt, Nat.le_of_lt hbN, hc3, hI3, hP2.kept hb3 hM3, hbw⟩, rank_lt hev hc3⟩
    · obtain rfl : j = L.length := by omega
      rw [List.drop_length] at hc
      have hc : _ = ev := hc
      subst hc
      have haE := assertEnd hev
      go_wp2
      go_ret
      exact ⟨rfl, hI, hb⟩

set_option maxRecDepth 100000 in
set_option maxHeartbeats 1000000 in
/-- walk at a *Fault that is nil: nothing is visited, and the answer is nil. -/
theorem walk_nilF (g : Value) (w : World) :
    Calls Tryz.prog 42 #[.iface 81 (.pointer none), g] w fun e w' => e = .returned .nilIface ∧ w' = (w.alloc (.map #[] 0)).alloc (.cells #[] 123) := by
  have hmm := @run_makeMap Tryz.prog
  have haF := assertF
  have hlk := Pass.lookup_nil (w := w.alloc (.map #[] 0)) (m := w.heap.size) (MapKept.heap_alloc w _).1
  go_enter Tryz.func42, Tryz.ntmps42
  go_wp2
  refine wp_loop_rounds 1 ?_
  rw [rounds_succ]
  go_wp2
  go_ret
  exact ⟨rfl, rfl⟩

end Go.Proofs.YthlkknfhganecaaGreatDoor
