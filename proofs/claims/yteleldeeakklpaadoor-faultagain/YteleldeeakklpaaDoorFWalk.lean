/-
  The contract of fault.walk: each link of a chain is handed to visit, the outermost first; the answer is what the chain ends with.
-/
import Derived.Test.YteleldeeakklpaaDoorFChain
namespace Go.Proofs.YteleldeeakklpaaDoor
open Go Go.Proofs Go.RowKit

/-- Block M is a map. -/
def IsMapAt (W : World) (M : Nat) : Prop := ∃ es ck, W.heap[M]? = some (.map es ck)
theorem Pass.isMap {w : World} {m n N : Nat} (h : Pass w m n N) : IsMapAt w m := let ⟨es, ck, h1, _⟩ := h; ⟨es, ck, h1⟩
/-- What a call of visit must do at the j-th link, in block b. -/
def Visits (fn : Nat) (caps : Array Value) (N M : Nat) (L : List (ByteArray × Int)) (I : Nat → World → Prop) : Prop :=
  ∀ (j b : Nat) (x : ByteArray × Int) (v' : Value) (W : World), L[j]? = some x → b < N → FB W b x.1 x.2 v' → IsMapAt W M → I j W →
    Calls Tryd.prog fn (#[.pointer (some ⟨b, 0, none⟩)] ++ caps) W fun e W' => e = .returned (.tuple #[]) ∧ I (j + 1) W' ∧ Below N W W' ∧ W'.heap[M]? = W.heap[M]?
/-- What a link's visit leaves bears the set's own steps. -/
def Bears (M : Nat) (I : Nat → World → Prop) : Prop := ∀ j W W', IsMapAt W M → I j W → W.grownBy W' (some M) → I j W'

theorem rank_lt {w : World} {ev v : Value} {n : Nat} {L : List (ByteArray × Int)} (hev : EndV ev) (hc : Chain w ev n L v) : rank v < rank (.iface 29 (.pointer (some ⟨n, 0, none⟩))) := by
  cases L with
  | nil =>
    have hc : v = ev := hc
    subst hc
    rcases hev with rfl | ⟨k, rfl⟩ | ⟨p, rfl⟩ <;> simp [rank]
  | cons x L =>
    obtain ⟨b, v', h1, rfl, _⟩ := hc
    simp [rank]
    omega

set_option maxRecDepth 100000 in
set_option maxHeartbeats 2000000 in
theorem walk_any (fn : Nat) (caps : Array Value) (L : List (ByteArray × Int)) (I : Nat → World → Prop) (N : Nat) (ev v : Value) (hev : EndV ev) (w : World) (hN : N ≤ w.heap.size) (hC : Chain w ev N L v)
    (hfn : ∀ args W, (callFunc fn args).run Tryd.prog W = .ok (.enter fn args) W) (hV : Visits fn caps N w.heap.size L I) (hB : Bears w.heap.size I) (h0 : I 0 (w.alloc (.map #[] 0))) :
    Calls Tryd.prog 30 #[v, .func (.func fn) #[] caps] w fun e w' => e = .returned ev ∧ I L.length w' ∧ Below N w w' := by
  have hmm := @run_makeMap Tryd.prog
  go_enter Tryd.func30, Tryd.ntmps30
  go_wp2
  go_loopw [0] (fun x wr => ∃ (j n : Nat), j ≤ L.length ∧ n ≤ N ∧ Chain wr ev n (L.drop j) x ∧ I j wr ∧ Pass wr w.heap.size n N ∧ Below N w wr) (fun x _ => rank x)
  case atStart => exact ⟨0, N, Nat.zero_le _, Nat.le_refl _, (by simpa using hC.below ((Below.refl N w).alloc hN _)), h0, Pass.start w N N, (Below.refl N w).alloc hN _⟩
  case round =>
    obtain ⟨j, n, hj, hn, hc, hI, hP, hb⟩ := hrel
    by_cases hlt : j < L.length
    · rw [List.drop_eq_getElem_cons hlt] at hc
      obtain ⟨b, v', hbn, rfl, hF, hc'⟩ := hc
      have hlk := hP.lookup hbn hF
      have haF := assertF
      have hNr : N ≤ wr.heap.size := Nat.le_trans hN hb.size
      have hbN : b < N := Nat.lt_of_lt_of_le hbn hn
      have hMr := hP.lt
      have hal : Below N wr (wr.alloc (.cells #[] 98)) := (Below.refl N wr).alloc hNr _
      have hP1 := hP.kept hal (Below.heap_alloc wr _ _ hMr)
      have hF1 : FB (wr.alloc (.cells #[] 98)) b L[j].1 L[j].2 v' := (hal.block b hbN).trans hF
      go_wp2_with (at_mapUpdate; refine wpList_pass _ rfl _ _ _ rfl w.heap.size n N b rfl hP1 hbn hbN hF1 rfl ?_; intro w2 hP2 hg2)
      have hF2 : FB w2 b L[j].1 L[j].2 v' := (hg2.block b hF1.lt (fun e => absurd (Option.some.inj e) (by omega))).trans hF1
      have hs2 := hg2.size
      have hI2 : I j w2 := hB j _ _ hP1.isMap (hB j _ _ hP.isMap hI (World.grownBy_alloc wr _ _)) hg2
      refine (hV j b L[j] v' w2 (List.getElem?_eq_getElem hlt) hbN hF2 hP2.isMap hI2).mono ?_
      rintro e w3 ⟨rfl, hI3, hb3, hM3⟩
      have hF3 : FB w3 b L[j].1 L[j].2 v' := (hb3.block b hbN).trans hF2
      have c2 := hF3.c2
      go_wp2
      have hb2 : Below N wr w2 := hal.grown hg2 (by simp; omega) (fun k e => by cases e; exact hN)
      have hbw := (hb.trans hb2).trans hb3
      have hc3 := hc'.below ((hb2.trans hb3).mono (Nat.le_of_lt hbN))
      exact ⟨⟨j + 1, b, hlt, Nat.le_of_lt hbN, hc3, hI3, hP2.kept hb3 hM3, hbw⟩, rank_lt hev hc3⟩
    · obtain rfl : j = L.length := by omega
      rw [List.drop_length] at hc
      have hc : _ = ev := hc
      subst hc
      have haE := assertEnd hev
      go_wp2
      go_ret
      exact ⟨rfl, hI, hb⟩

set_option maxRecDepth 100000 in
set_option maxHeartbeats 1000000 in
/-- walk at a *Fault that is nil: nothing is visited, and the answer is nil. -/
theorem walk_nilF (g : Value) (w : World) :
    Calls Tryd.prog 30 #[.iface 29 (.pointer none), g] w fun e w' => e = .returned .nilIface ∧ w' = (w.alloc (.map #[] 0)).alloc (.cells #[] 98) := by
  have hmm := @run_makeMap Tryd.prog
  have haF := assertF
  have hlk := Pass.lookup_nil (w := w.alloc (.map #[] 0)) (m := w.heap.size) (MapKept.heap_alloc w _).1
  go_enter Tryd.func30, Tryd.ntmps30
  go_wp2
  refine wp_loop_rounds 1 ?_
  rw [rounds_succ]
  go_wp2
  go_ret
  exact ⟨rfl, rfl⟩

end Go.Proofs.YteleldeeakklpaaDoor
