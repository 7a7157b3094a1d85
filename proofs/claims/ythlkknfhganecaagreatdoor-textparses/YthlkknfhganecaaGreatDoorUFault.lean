/-
  The contracts of fault.Wrap and fault.Of.
-/
import Derived.Defers
import Derived.Recover
import Derived.Lib.ItoaMem
import Derived.Lib.ItoaLen
import Derived.Deep.RegionWith
import Derived.Deep.QuietTactic
import Derived.BigQuiet
import Derived.Deep.AppendLies
import Derived.Test.YthlkknfhganecaaGreatDoorUAs
import Derived.Test.YthlkknfhganecaaGreatDoorGBase
namespace Go.Proofs.YthlkknfhganecaaGreatDoor
open Go Go.Proofs Go.RowKit

abbrev Tab (w : World) : Prop := Lib.TabIs Tryz.prog w "internal/strconv.uint64pow10" .u64 Lib.pow10Tab
theorem grow_below (w : World) (os : Array Obj) : Below w.heap.size w (Go.Sort.grow w os) := ⟨rfl, rfl, rfl, by simp [Go.Sort.grow], fun k hk => by simp [Go.Sort.grow, Array.getElem?_append_left hk]⟩
theorem hmf : ∀ (fn : Fn) (first cap : Array Value) (w : World), (Instr.makeFunc fn first cap).run Tryz.prog w = .ok (.func fn first cap) w := fun _ _ _ _ => rfl

/-- A statement that ends by itself alone. -/
def onlyN (R : Act → World → Prop) : Exit → Act → World → Prop
  | .normal, a, w => R a w
  | _, _, _ => False
theorem wp_cutN {P : Program} {s : Code} {Q : Exit → Act → World → Prop} {a : Act} {w : World} (R : Act → World → Prop) (first : s.wp P (onlyN R) a w) (rest : ∀ a' w', R a' w' → Q .normal a' w') : s.wp P Q a w := by
  refine wp_mono first ?_
  intro e a' w' hq
  cases e with
  | normal => exact rest _ _ hq
  | _ => exact hq.elim

theorem tab_at : Tryz.prog.globalNamed "internal/strconv.uint64pow10" = some 3 := by kernel_rfl
theorem tab_lt {A : World} (h : Tab A) : 3 < A.heap.size := by
  unfold Tab Lib.TabIs World.var? at h
  rw [tab_at] at h
  simp only [Option.bind_some] at h
  rcases Nat.lt_or_ge 3 A.heap.size with h1 | h1
  · exact h1
  · simp [Array.getElem?_eq_none h1] at h
theorem tab_below {n : Nat} {A B : World} (h : Tab A) (hn : 9 ≤ n) (hb : Below n A B) : Tab B := by
  unfold Tab Lib.TabIs World.var? at *
  rw [tab_at] at h ⊢
  simp only [Option.bind_some] at h ⊢
  rw [hb.block 3 (by omega)]
  exact h

theorem kept_below {W W' : World} (hb : Below W.heap.size W W') (k : Nat) (c : Array Value) (t : TypeId) (h : W.heap[k]? = some (.cells c t (0, 0))) : W'.heap[k]? = some (.cells c t (0, 0)) :=
  (hb.block k (Array.getElem?_eq_some_iff.1 h).1).trans h
theorem kept_map {W W' : World} {M : Nat} (hM : IsMapAt W M) (hg : W.grownBy W' (some M)) (k : Nat) (c : Array Value) (t : TypeId) (h : W.heap[k]? = some (.cells c t (0, 0))) : W'.heap[k]? = some (.cells c t (0, 0)) := by
  refine (hg.block k (Array.getElem?_eq_some_iff.1 h).1 (fun e => ?_)).trans h
  obtain ⟨es, ck, hm⟩ := hM
  rw [Option.some.inj e, hm] at h
  cases h
theorem map_below {W W' : World} {M : Nat} (hM : IsMapAt W M) (hb : Below W.heap.size W W') : W'.heap[M]? = W.heap[M]? := by
  obtain ⟨es, ck, hm⟩ := hM
  exact hb.block M (Array.getElem?_eq_some_iff.1 hm).1
theorem IsMapAt.of {W W' : World} {M : Nat} (hM : IsMapAt W M) (h : W'.heap[M]? = W.heap[M]?) : IsMapAt W' M := by
  obtain ⟨es, ck, hm⟩ := hM
  exact ⟨es, ck, h.trans hm⟩

/-- The variables that the library reads. -/
structure Env (W : World) : Prop where
  tab : Tab W
  et : ErrType W
  syn : ∃ p, W.var? Tryz.prog "strconv.ErrSyntax" = some #[.iface 169 p]
  rng : ∃ p, W.var? Tryz.prog "strconv.ErrRange" = some #[.iface 169 p]
  max : ∃ m, W.cell? ⟨6, 0, none⟩ = some (.int .i64 m)
  all : 9 ≤ W.heap.size
theorem syn_at : Tryz.prog.globalNamed "strconv.ErrSyntax" = some 1 := by kernel_rfl
theorem rng_at : Tryz.prog.globalNamed "strconv.ErrRange" = some 2 := by kernel_rfl
theorem var_below {n g : Nat} {nm : String} {A B : World} {x : Array Value} (hg : Tryz.prog.globalNamed nm = some g) (hn : g < n) (hb : Below n A B) (h : A.var? Tryz.prog nm = some x) : B.var? Tryz.prog nm = some x := by
  unfold World.var? at *
  rw [hg] at h ⊢
  simp only [Option.bind_some] at h ⊢
  rw [hb.block g hn]
  exact h
theorem Env.below {n : Nat} {A B : World} (h : Env A) (hn : 9 ≤ n) (hb : Below n A B) : Env B :=
  ⟨tab_below h.tab hn hb, h.et.below (by omega) hb, h.syn.imp fun _ hp => var_below syn_at (by omega) hb hp, h.rng.imp fun _ hp => var_below rng_at (by omega) hb hp, h.max.imp fun _ hm => (hb.cell (p := ⟨6, 0, none⟩) (by simp only; omega)).trans hm, Nat.le_trans h.all hb.size⟩
theorem Env.go {A B : World} (h : Env A) (hb : Below A.heap.size A B) : Env B := h.below h.all hb

theorem enters47 (args : Array Value) (W : World) : (callFunc 70 args).run Tryz.prog W = .ok (.enter 70 args) W := by kernel_rfl
theorem end1_any (x : Value) (w : World) : Calls Tryz.prog 70 #[x] w fun e w' => e = .returned (.tuple #[]) ∧ w' = w := by
  go_enter Tryz.func70, Tryz.ntmps70
  go_wp2
  go_end0
  exact ⟨rfl, rfl⟩

set_option maxRecDepth 100000 in
set_option maxHeartbeats 1000000 in
theorem end_any {L : List (ByteArray × Int)} {N : Nat} {ev v : Value} (hev : EndV ev) (w : World) (hN : N ≤ w.heap.size) (hC : Chain w ev N L v) :
    Calls Tryz.prog 41 #[v] w fun e w' => e = .returned ev ∧ Below N w w' := by
  have hV : Visits 70 #[] N w.heap.size L (fun _ _ => True) := fun j b x v' W _ _ _ _ _ => (end1_any _ W).mono (by rintro e W' ⟨rfl, rfl⟩; exact ⟨rfl, trivial, Below.refl _ _, rfl⟩)
  have hB : Bears w.heap.size (fun _ _ => True) := fun _ _ _ _ _ _ => trivial
  go_enter Tryz.func41, Tryz.ntmps41
  go_wp2_with fail
  refine (walk_any 70 #[] L (fun _ _ => True) N ev v hev w hN hC enters47 hV hB trivial).mono ?_
  rintro e w' ⟨rfl, _, hb⟩
  go_wp2
  go_ret
  exact ⟨rfl, hb⟩

theorem eqlK (a b : Int) (w : World) : (binOp .eql 32 (.iface 22 (.int .i64 a)) (.iface 22 (.int .i64 b))).run Tryz.prog w = .ok (.bool (a == b)) w := by kernel_rfl
theorem eqlFK (v : Value) (b : Int) (w : World) : (binOp .eql 32 (.iface 81 v) (.iface 22 (.int .i64 b))).run Tryz.prog w = .ok (.bool false) w := by kernel_rfl
theorem eqlEK (v : Value) (b : Int) (w : World) : (binOp .eql 32 (.iface 169 v) (.iface 22 (.int .i64 b))).run Tryz.prog w = .ok (.bool false) w := by kernel_rfl

theorem wrap_nil (s : ByteArray) (a : Int) (w : World) :
    Calls Tryz.prog 22 #[.string s, .int .i64 a, .nilIface] w fun e w' => e = .returned .nilIface ∧ w' = w := by
  go_enter Tryz.func22, Tryz.ntmps22
  go_wp2
  go_ret
  exact ⟨rfl, rfl⟩
theorem wrap_ok (s : ByteArray) (a : Int) (w : World) :
    Calls Tryz.prog 22 #[.string s, .int .i64 a, .iface 22 (.int .i64 0)] w fun e w' => e = .returned .nilIface ∧ w' = w := by
  have h := eqlK
  go_enter Tryz.func22, Tryz.ntmps22
  go_wp2
  go_ret
  exact ⟨rfl, rfl⟩
/-- What Wrap wraps. -/
def Wraps (v : Value) : Prop := (∃ k : Int, k ≠ 0 ∧ v = .iface 22 (.int .i64 k)) ∨ (∃ p : Addr, v = .iface 169 (.pointer (some p))) ∨ ∃ p : Option Addr, v = .iface 81 (.pointer p)
theorem Wraps.kind (k : Int) (h : k ≠ 0) : Wraps (.iface 22 (.int .i64 k)) := .inl ⟨k, h, rfl⟩
theorem Wraps.err (p : Addr) : Wraps (.iface 169 (.pointer (some p))) := .inr (.inl ⟨p, rfl⟩)
theorem Wraps.fault (p : Option Addr) : Wraps (.iface 81 (.pointer p)) := .inr (.inr ⟨p, rfl⟩)
theorem Wraps.iface {v : Value} (h : Wraps v) : ∃ t x, v = .iface t x := by
  rcases h with ⟨k, _, rfl⟩ | ⟨p, rfl⟩ | ⟨p, rfl⟩ <;> exact ⟨_, _, rfl⟩
theorem wrap_any (s : ByteArray) (a : Int) (v : Value) (hv : Wraps v) (w : World) :
    Calls Tryz.prog 22 #[.string s, .int .i64 a, v] w fun e w' => e = .returned (.iface 81 (.pointer (some ⟨w.heap.size, 0, none⟩))) ∧ w' = w.alloc (.cells #[.string s, .int .i64 a, v] 83) := by
  have h1 := eqlK
  have h2 := eqlFK
  have h3 := eqlEK
  rcases hv with ⟨k, h, rfl⟩ | ⟨p, rfl⟩ | ⟨p, rfl⟩
  · have hk : (k == 0) = false := by simpa using h
    go_enter Tryz.func22, Tryz.ntmps22
    go_wp2
    go_ret
    exact ⟨rfl, rfl⟩
  · go_enter Tryz.func22, Tryz.ntmps22
    go_wp2
    go_ret
    exact ⟨rfl, rfl⟩
  · go_enter Tryz.func22, Tryz.ntmps22
    go_wp2
    go_ret
    exact ⟨rfl, rfl⟩

theorem chain_new {w : World} {ev v : Value} {N : Nat} {L : List (ByteArray × Int)} (hN : N ≤ w.heap.size) (h : Chain w ev N L v) (x : ByteArray × Int) :
    Chain (w.alloc (.cells #[.string x.1, .int .i64 x.2, v] 83)) ev (w.heap.size + 1) (x :: L) (.iface 81 (.pointer (some ⟨w.heap.size, 0, none⟩))) :=
  ⟨w.heap.size, v, Nat.lt_succ_self _, rfl, (MapKept.heap_alloc w _).1, (h.mono hN).below ((Below.refl _ _).alloc (Nat.le_refl _) _)⟩
theorem chain_wraps {w : World} {k : Int} (hk : k ≠ 0) {N : Nat} {L : List (ByteArray × Int)} {v : Value} (h : Chain w (.iface 22 (.int .i64 k)) N L v) : Wraps v := by
  cases L with
  | nil => have h : v = _ := h; rw [h]; exact .kind k hk
  | cons x L => obtain ⟨b, v', _, rfl, _⟩ := h; exact .fault _

theorem grown_set {a w : World} {b : Nat} (h : a.grownBy w (some b)) (o : Nat) (v : Value) : a.grownBy (w.setCell ⟨b, o, none⟩ v) (some b) :=
  ⟨h.os, h.tape, h.output, by simpa using h.size, fun k hk hne => (Below.heap_setCell _ _ _ _ (fun e => hne (by rw [e]))).trans (h.block k hk hne)⟩
theorem grown_all {a b : World} {r : Option Nat} (h : a.grownBy b r) (o : Obj) : a.grownBy (b.alloc o) r :=
  ⟨h.os, h.tape, h.output, by have := h.size; simp; omega, fun k hk hne => (Below.heap_alloc _ _ _ (by have := h.size; omega)).trans (h.block k hk hne)⟩

theorem cell_set_same {w : World} {a : Addr} {old : Value} (h : w.cell? a = some old) (v : Value) : (w.setCell a v).cell? a = some v := World.cell?_setCell_same' w a v (by simp [h])
theorem asK_any (e : Int) (b : Nat) (old : Value) (w : World) (hg : ErrType w) (ht0 : w.cell? ⟨b, 0, none⟩ = some old) (hf0 : w.frozen? ⟨b, 0, none⟩ = false) :
    Calls Tryz.prog 40 #[.iface 22 (.int .i64 e), .iface 79 (.pointer (some ⟨b, 0, none⟩))] w fun ev w' => ev = .returned (.bool true) ∧ w.grownBy w' (some b) ∧ w'.cell? ⟨b, 0, none⟩ = some (.int .i64 e) ∧ w'.frozen? ⟨b, 0, none⟩ = false := by
  have hlt : b < w.heap.size := by
    rcases Nat.lt_or_ge b w.heap.size with h | h
    · exact h
    · simp [World.cell?, Array.getElem?_eq_none h] at ht0
  refine (as_hitK e ⟨b, 0, none⟩ old w hg ht0 hf0).mono ?_
  rintro ev w' ⟨rfl, rfl⟩
  refine ⟨rfl, grown_set (grown_all (grown_all (grown_all (grown_all (World.grownBy.refl w _) _) _) _) _) 0 _, ?_, ?_⟩
  · refine cell_set_same (old := old) ?_ _
    rw [World.cell?_alloc_lt _ _ ⟨b, 0, none⟩ (by simp; omega), World.cell?_alloc_lt _ _ ⟨b, 0, none⟩ (by simp; omega), World.cell?_alloc_lt _ _ ⟨b, 0, none⟩ (by simp; omega), World.cell?_alloc_lt _ _ ⟨b, 0, none⟩ hlt]; exact ht0
  · rw [World.frozen?_setCell]
    rw [World.frozen?_alloc_old _ _ ⟨b, 0, none⟩ (by simp; omega), World.frozen?_alloc_old _ _ ⟨b, 0, none⟩ (by simp; omega), World.frozen?_alloc_old _ _ ⟨b, 0, none⟩ (by simp; omega), World.frozen?_alloc_old _ _ ⟨b, 0, none⟩ (Nat.ne_of_lt hlt)]; exact hf0

theorem idle35 (p : Addr) (w : World) :
    CallsD Tryz.prog 39 #[.pointer (some p)] .returning w fun e u' w' => e = .returned (.tuple #[]) ∧ u' = .returning ∧ w' = w := by
  refine callsD_of_wpS Tryz.func39 rfl fun c₀ cs hu => ?_
  apply wpS_seq
  apply wpS_region
  simp [wpOpsS, go_sem, recoverD, hu, Tryz.ntmps39, Exit.thenS]
  refine wpS_cond (t := false) (by simp [Act.eval, Array.replicate]) ?_
  simp only [Bool.false_eq_true, if_false]
  refine wpS_of_wp (wp_skip ?_)
  cases c₀
  simp_all [bodyPostS, results, Tryz.results39]
set_option maxRecDepth 100000 in
set_option maxHeartbeats 1000000 in
theorem of_nil (w : World) : Calls Tryz.prog 20 #[.nilIface] w fun e w' => e = .returned (.int .i64 0) ∧ Below w.heap.size w w' := by
  go_enter_defers Tryz.func20, Tryz.ntmps20
  go_wp2
  simp [bodyPostD, Leaves, results, Tryz.results20, go_sem]
  exact (Below.refl _ _).alloc (Nat.le_refl _) _

set_option maxRecDepth 100000 in
set_option maxHeartbeats 1000000 in
theorem of_kind {L : List (ByteArray × Int)} {k : Int} {v : Value} (w : World) (hE : Env w) (hC : Chain w (.iface 22 (.int .i64 k)) w.heap.size L v) :
    Calls Tryz.prog 20 #[v] w fun e w' => e = .returned (.int .i64 k) ∧ Below w.heap.size w w' := by
  have hm := hmf
  have hb1 : Below w.heap.size w (w.alloc (.cells #[.int .i64 0] 22)) := (Below.refl _ _).alloc (Nat.le_refl _) _
  have hb2 : Below w.heap.size w ((w.alloc (.cells #[.int .i64 0] 22)).alloc (.cells #[.int .i64 0] 22)) := hb1.alloc (by simp) _
  have hend := end_any (EndV.kind k) ((w.alloc (.cells #[.int .i64 0] 22)).alloc (.cells #[.int .i64 0] 22)) (Nat.le_refl _) ((hC.below hb2).mono (by simp; omega))
  obtain ⟨t, x, rfl⟩ : ∃ t x, v = .iface t x := by
    cases L with
    | nil => have hC : v = _ := hC; exact ⟨_, _, hC⟩
    | cons y L => obtain ⟨b, v', _, rfl, _⟩ := hC; exact ⟨_, _, rfl⟩
  go_enter_defers Tryz.func20, Tryz.ntmps20
  go_wp2_with fail
  refine hend.mono ?_
  clear hend
  rintro e w2 ⟨rfl, hb3⟩
  have cr := (hb3.cell (p := ⟨w.heap.size, 0, none⟩) (by simp; omega)).trans (show _ = some (.int .i64 0) by simp)
  have fr := (hb3.frozen (p := ⟨w.heap.size, 0, none⟩) (by simp; omega)).trans (show _ = false by simp)
  have cf := (hb3.cell (p := ⟨w.heap.size + 1, 0, none⟩) (by simp)).trans (show _ = some (.int .i64 0) by simp)
  have ff := (hb3.frozen (p := ⟨w.heap.size + 1, 0, none⟩) (by simp)).trans (show _ = false by simp)
  have hE2 := (hE.go hb2).go hb3
  have hz := hb3.size
  simp only [World.size_alloc] at hz
  go_wp2_with fail
  refine (asK_any k (w.heap.size + 1) _ w2 hE2.et cf ff).mono ?_
  rintro e w3 ⟨rfl, hg3, cf3, ff3⟩
  have hz3 := hg3.size
  have cr3 : w3.cell? ⟨w.heap.size, 0, none⟩ = some (.int .i64 0) := hg3.cell cr (by simp)
  have fr3 : w3.frozen? ⟨w.heap.size, 0, none⟩ = false := (hg3.frozen_far ⟨w.heap.size, 0, none⟩ (by simp; omega) (by simp)).trans fr
  have hbw : Below w.heap.size w (w3.setCell ⟨w.heap.size, 0, none⟩ (.int .i64 k)) := ((hb2.trans (hb3.mono (by simp; omega))).grown hg3 (by omega) (fun j e => by cases e; omega)).setCell (p := ⟨w.heap.size, 0, none⟩) (Nat.le_refl _) _
  go_wp2
  refine leaves_cons (f := 39) (args := #[.pointer (some ⟨w.heap.size, 0, none⟩)]) (by simp) (by simp [go_sem]) ?_
  refine (idle35 ⟨w.heap.size, 0, none⟩ _).mono ?_
  rintro e u' w'' ⟨rfl, rfl, rfl⟩
  simp [Leaves, settle, results, Tryz.results20, go_sem, cr3]
  exact hbw

end Go.Proofs.YthlkknfhganecaaGreatDoor
