/-
  The contracts of fault.text: what a link itself adds to the text of its chain.
-/
import Derived.Defers
import Derived.Recover
import Derived.Lib.ItoaMem
import Derived.Lib.ItoaLen
import Derived.Deep.RegionWith
import Derived.Test.YteleldeeakklpaaDoorFWalk
import Derived.Test.YteleldeeakklpaaDoorShelf
namespace Go.Proofs.YteleldeeakklpaaDoor
open Go Go.Proofs Go.RowKit

abbrev Tab (w : World) : Prop := Lib.TabIs Tryd.prog w "internal/strconv.uint64pow10" .u64 Lib.pow10Tab
theorem grow_below (w : World) (os : Array Obj) : Below w.heap.size w (Go.Sort.grow w os) := ⟨rfl, rfl, rfl, by simp [Go.Sort.grow], fun k hk => by simp [Go.Sort.grow, Array.getElem?_append_left hk]⟩
theorem below_drewN {B : Nat} {a w : World} (h : Below B a w) (k : Nat) : Below B a (w.drewN k) := ⟨h.os, h.tape, h.output, h.size, h.block⟩
theorem itoa_any (n : Int) (h0 : -9223372036854775808 ≤ n) (h1 : n ≤ 9223372036854775807) (w : World) (htab : Tab w) :
    Calls Tryd.prog 46 #[.int .i64 n] w fun e w' => e = .returned (.string ⟨(Lib.itoa n).toArray⟩) ∧ Below w.heap.size w w' := by
  refine (Tryd.strconv_Itoa n h0 h1 w htab).mono ?_
  rintro e w' ⟨rfl, k, os, rfl⟩
  exact ⟨rfl, (below_drewN (Below.refl w.heap.size w) k).trans (grow_below (w.drewN k) os)⟩
theorem hmf : ∀ (fn : Fn) (first cap : Array Value) (w : World), (Instr.makeFunc fn first cap).run Tryd.prog w = .ok (.func fn first cap) w := fun _ _ _ _ => rfl

theorem idle45 (p : Addr) (w : World) :
    CallsD Tryd.prog 45 #[.pointer (some p)] .returning w fun e u' w' => e = .returned (.tuple #[]) ∧ u' = .returning ∧ w' = w := by
  refine callsD_of_wpS Tryd.func45 rfl fun c₀ cs hu => ?_
  apply wpS_seq
  apply wpS_region
  simp [wpOpsS, go_sem, recoverD, hu, Tryd.ntmps45, Exit.thenS]
  refine wpS_cond (t := false) (by simp [Act.eval, Array.replicate]) ?_
  simp only [Bool.false_eq_true, if_false]
  refine wpS_of_wp (wp_skip ?_)
  cases c₀
  simp_all [bodyPostS, results, Tryd.results45]

set_option maxRecDepth 100000 in
set_option maxHeartbeats 1000000 in
theorem text_nil (w : World) :
    Calls Tryd.prog 33 #[.nilIface] w fun e w' => e = .returned (.string ⟨#[]⟩) ∧ Below w.heap.size w w' := by
  have hm := hmf
  go_enter_defers Tryd.func33, Tryd.ntmps33
  go_wp2
  refine leaves_cons (f := 45) (args := #[.pointer (some ⟨w.heap.size, 0, none⟩)]) (by simp) (by simp [go_sem]) ?_
  refine (idle45 ⟨w.heap.size, 0, none⟩ _).mono ?_
  rintro e u' w'' ⟨rfl, rfl, rfl⟩
  simp [Leaves, settle, results, Tryd.results33, go_sem]
  exact (Below.refl _ _).alloc (Nat.le_refl _) _

/-- A statement that ends by itself alone. -/
def onlyN (R : Act → World → Prop) : Exit → Act → World → Prop
  | .normal, a, w => R a w
  | _, _, _ => False
theorem wp_cutF {P : Program} {s : Code} {K : Act → World → Prop} {Q' : Exit → Act → World → Prop} {a : Act} {w : World} (R : Act → World → Prop) (first : s.wp P (onlyN R) a w) (rest : ∀ a' w', R a' w' → K a' w') :
    s.wp P (Exit.then K Q') a w := by
  refine wp_mono first ?_
  intro e a' w' hq
  cases e with
  | normal => exact rest _ _ hq
  | _ => exact hq.elim

theorem wp_cutN {P : Program} {s : Code} {Q : Exit → Act → World → Prop} {a : Act} {w : World} (R : Act → World → Prop) (first : s.wp P (onlyN R) a w) (rest : ∀ a' w', R a' w' → Q .normal a' w') : s.wp P Q a w := by
  refine wp_mono first ?_
  intro e a' w' hq
  cases e with
  | normal => exact rest _ _ hq
  | _ => exact hq.elim

/-- What a link adds. -/
def linkB (s : ByteArray) (a : Int) : ByteArray := s ++ ⟨#[32]⟩ ++ ⟨(Lib.itoa a).toArray⟩ ++ ⟨#[58, 32]⟩

set_option maxRecDepth 100000 in
set_option maxHeartbeats 1000000 in
theorem text_fault (b : Nat) (s : ByteArray) (a : Int) (v' : Value) (w : World) (hF : FB w b s a v') (hs : s.size ≤ 100000) (ha0 : -9223372036854775808 ≤ a) (ha1 : a ≤ 9223372036854775807) (htab : Tab w) :
    Calls Tryd.prog 33 #[.iface 29 (.pointer (some ⟨b, 0, none⟩))] w fun e w' => e = .returned (.string (linkB s a)) ∧ Below w.heap.size w w' := by
  have hm := hmf
  have haF := assertF
  have hb1 : Below w.heap.size w (w.alloc (.cells #[.string ⟨#[]⟩] 9)) := (Below.refl _ _).alloc (Nat.le_refl _) _
  have hF1 : FB (w.alloc (.cells #[.string ⟨#[]⟩] 9)) b s a v' := (hb1.block b hF.lt).trans hF
  have c0 := hF1.c0
  have c1 := hF1.c1
  have hbl := hF.lt
  have htab1 := Lib.tabIs_alloc htab (.cells #[.string ⟨#[]⟩] 9)
  have cr : (w.alloc (.cells #[.string ⟨#[]⟩] 9)).cell? ⟨w.heap.size, 0, none⟩ = some (.string ⟨#[]⟩) := by simp
  have fr : (w.alloc (.cells #[.string ⟨#[]⟩] 9)).frozen? ⟨w.heap.size, 0, none⟩ = false := by simp
  have hil : (Lib.itoa a).length ≤ 21 := Lib.itoa_length_le a ha0 ha1
  have hn1 : ¬ 9223372036854775807 < s.size + 1 := by omega
  have hn2 : ¬ 9223372036854775807 < s.size + 1 + (Lib.itoa a).length := by omega
  have hn3 : ¬ 9223372036854775807 < s.size + 1 + (Lib.itoa a).length + 2 := by omega
  go_enter_defers Tryd.func33, Tryd.ntmps33
  go_wp2
  refine wp_cutF (fun a' w' => ∃ w2, Below (w.alloc (.cells #[.string ⟨#[]⟩] 9)).heap.size (w.alloc (.cells #[.string ⟨#[]⟩] 9)) w2 ∧ w' = w2.setCell ⟨w.heap.size, 0, none⟩ (.string (linkB s a)) ∧
    a' = { tmps := #[.iface 29 (.pointer (some ⟨b, 0, none⟩)), undef, .pointer (some ⟨w.heap.size, 0, none⟩), undef, .pointer (some ⟨b, 0, none⟩), undef, .func (.func 45) #[] #[.pointer (some ⟨w.heap.size, 0, none⟩)], .iface 29 (.pointer (some ⟨b, 0, none⟩)), undef, undef, .bool false, .tuple #[.pointer (some ⟨b, 0, none⟩), .bool true], .bool true, .pointer (some ⟨b, 0, none⟩), .pointer (some ⟨b, 0, none⟩), .pointer (some ⟨b, 0, none⟩), .pointer (some ⟨b, 0, none⟩), .string s, .string (s ++ ⟨#[32]⟩), .pointer (some ⟨b, 0, none⟩), .pointer (some ⟨b, 0, none⟩), .pointer (some ⟨b, 1, none⟩), .int .i64 a, .string ⟨(Lib.itoa a).toArray⟩, .string (s ++ ⟨#[32]⟩ ++ ⟨(Lib.itoa a).toArray⟩), .string (s ++ ⟨#[32]⟩ ++ ⟨(Lib.itoa a).toArray⟩ ++ ⟨#[58, 32]⟩)], defers := [{ target := .fn (.func 45) #[.pointer (some ⟨w.heap.size, 0, none⟩)], args := #[] }] }) ?_ ?_
  · go_region_with (go_at_call 46; refine (itoa_any a ha0 ha1 _ ?_).mono ?_; exact htab1; rintro e w2 ⟨rfl, hb2⟩; have d0 := (hb2.cell (p := ⟨b, 0, none⟩) (by simp; omega)).trans c0; have d1 := (hb2.cell (p := ⟨b, 1, none⟩) (by simp; omega)).trans c1; have dr := (hb2.cell (p := ⟨w.heap.size, 0, none⟩) (by simp)).trans cr; have df := (hb2.frozen (p := ⟨w.heap.size, 0, none⟩) (by simp)).trans fr)
    all_goals exact ⟨w2, (Below.drew (Below.refl _ _)).trans hb2, rfl, rfl⟩
  · rintro a' w' ⟨w2, hb2, rfl, rfl⟩
    have dr := (hb2.cell (p := ⟨w.heap.size, 0, none⟩) (by simp)).trans cr
    have hbw := (hb1.trans (hb2.mono (by simp))).setCell (p := ⟨w.heap.size, 0, none⟩) (Nat.le_refl _) (.string (linkB s a))
    have hz : w.heap.size < w2.heap.size := by have := hb2.size; simp at this; omega
    go_wp2
    refine leaves_cons (f := 45) (args := #[.pointer (some ⟨w.heap.size, 0, none⟩)]) (by simp) (by simp [go_sem]) ?_
    refine (idle45 ⟨w.heap.size, 0, none⟩ _).mono ?_
    rintro e u' w'' ⟨rfl, rfl, rfl⟩
    simp [Leaves, settle, results, Tryd.results33, go_sem, dr]
    exact hbw

end Go.Proofs.YteleldeeakklpaaDoor
