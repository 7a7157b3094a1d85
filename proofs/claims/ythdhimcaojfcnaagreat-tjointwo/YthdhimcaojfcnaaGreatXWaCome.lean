/-
  The contracts of the search's come and nearest.
-/
import Derived.Test.YthdhimcaojfcnaaGreatXWaMem
namespace Go.Proofs.YthdhimcaojfcnaaGreat
open Go Go.Proofs Go.RowKit

set_option maxRecDepth 100000 in
set_option maxHeartbeats 2000000 in
theorem come_old (S : SL) (D V : List Int) (qv : Value) (Q : List Stp) (v c : Nat) (i x : Int) (w : World) (h : SM S D V qv Q w) (hv : v < S.N) (hx : D[v]? = some x) (h0 : 0 ≤ x) (h1 : x ≤ (c : Int)) :
    Calls Tryz.prog 53 #[.pointer (some ⟨S.sb, 0, none⟩), .int .i64 (v : Int), .int .i64 (c : Int), .int .i64 i] w fun e w' => e = .returned (.tuple #[]) ∧ w' = w := by
  have c3 := h.cells.2.2.2.1
  have d0 : w.cell? ⟨S.bD, v, none⟩ = some (.int .i64 x) := h.dist.cell (by rw [List.getElem?_map, hx]; rfl)
  have hvl : (v : Int) < (S.N : Int) := by omega
  have hne : ¬ x = -1 := by omega
  clear h hx
  go_enter Tryz.func53, Tryz.ntmps53
  go_wp2
  exact bodyPost_ret (v := .tuple #[]) (results_none rfl _ _ _) rfl ⟨rfl, rfl⟩
set_option maxRecDepth 100000 in
set_option maxHeartbeats 2000000 in
theorem come_new (S : SL) (ok : SLok S) (D V : List Int) (qv : Value) (Q : List Stp) (v c : Nat) (i x : Int) (w : World) (h : SM S D V qv Q w) (hv : v < S.N) (hx : D[v]? = some x) (hV : V.length = S.N) (h1 : x = -1 ∨ (c : Int) < x) (hQ : Q.length ≤ 8796093022207) :
    Calls Tryz.prog 53 #[.pointer (some ⟨S.sb, 0, none⟩), .int .i64 (v : Int), .int .i64 (c : Int), .int .i64 i] w fun e w' => e = .returned (.tuple #[]) ∧ ∃ qv' Q', Q'.Perm (Q ++ [(c, v)]) ∧ SM S (D.set v (c : Int)) (V.set v i) qv' Q' w' ∧ Fr S w w' ∧ NewQ w qv qv' ∧ ∀ k, k < w.heap.size → S.h1 ≤ k → some k ≠ qv.ownBlock → w'.heap[k]? = w.heap[k]? := by
  have c3 := h.cells.2.2.2.1
  have c4 := h.cells.2.2.2.2.1
  obtain ⟨y, hy⟩ : ∃ y, V[v]? = some y := ⟨_, List.getElem?_eq_getElem (by omega)⟩
  have d0 : w.cell? ⟨S.bD, v, none⟩ = some (.int .i64 x) := h.dist.cell (by rw [List.getElem?_map, hx]; rfl)
  have v0 : w.cell? ⟨S.bV, v, none⟩ = some (.int .i64 y) := h.via.cell (by rw [List.getElem?_map, hy]; rfl)
  have fd : w.frozen? ⟨S.bD, v, none⟩ = false := h.dist.frozen v
  have fv : w.frozen? ⟨S.bV, v, none⟩ = false := h.via.frozen v
  have hvl : (v : Int) < (S.N : Int) := by omega
  have n1 : S.sb ≠ S.bD := ok.s.2.2.1
  have n2 : S.sb ≠ S.bV := ok.s.2.2.2
  have n3 : S.bV ≠ S.bD := Ne.symm ok.d.2.2
  have hput := SM.put h ok v (c : Int) i
  have hp1 := hput.1.drewN 1
  have hf1 := hput.2.drewN 1
  have hpush := hpush_any S.sb S.h1 S.X S.X_len qv Q (c, v) _ (hp1.qs ok) hQ hp1.size
  have hmix := mixed
  have HKp : Hid (∀ k, S.h1 ≤ k → (((w.setCell ⟨S.bD, v, none⟩ (.int .i64 (c : Int))).setCell ⟨S.bV, v, none⟩ (.int .i64 i)).drewN 1).heap[k]? = w.heap[k]?) := fun k hk => by
    have h2 := ok.d.1
    have h3 := ok.v.1
    show ((w.setCell ⟨S.bD, v, none⟩ (.int .i64 (c : Int))).setCell ⟨S.bV, v, none⟩ (.int .i64 i)).heap[k]? = w.heap[k]?
    rw [heap_setCell_other _ ⟨S.bV, v, none⟩ k _ (by show k ≠ S.bV; omega), heap_setCell_other _ ⟨S.bD, v, none⟩ k _ (by show k ≠ S.bD; omega)]
  have HP1 : Hid _ := hp1
  have HF1 : Hid _ := hf1
  clear h hx hy hput hp1 hf1
  rcases h1 with h1 | h1
  · subst h1
    go_enter Tryz.func53, Tryz.ntmps53
    go_wp2
    go_big_region_o
    go_wp2_with fail
    refine hpush.mono ?_
    rintro e w2 ⟨rfl, qv2, Q2, hp2, hq2, hn2, hm2⟩
    go_wp2
    exact bodyPost_end (results_none rfl _ _ _) rfl ⟨rfl, qv2, Q2, hp2, SM.act HP1.out ok hm2 hq2, HF1.out.trans (SM.fr HP1.out hm2), hn2.elim .inl (fun ⟨k, e, hk⟩ => .inr ⟨k, e, by simpa using hk⟩), fun k hk h1 h2 => (hm2.2.2.2.2 k (by simpa using hk) (by have := ok.s.1; omega) h2).trans (HKp.out k h1)⟩
  · have hn : ¬ x = -1 := by omega
    have hle : ¬ x ≤ (c : Int) := by omega
    go_enter Tryz.func53, Tryz.ntmps53
    go_wp2
    go_big_region_o
    go_wp2_with fail
    refine hpush.mono ?_
    rintro e w2 ⟨rfl, qv2, Q2, hp2, hq2, hn2, hm2⟩
    go_wp2
    exact bodyPost_end (results_none rfl _ _ _) rfl ⟨rfl, qv2, Q2, hp2, SM.act HP1.out ok hm2 hq2, HF1.out.trans (SM.fr HP1.out hm2), hn2.elim .inl (fun ⟨k, e, hk⟩ => .inr ⟨k, e, by simpa using hk⟩), fun k hk h1 h2 => (hm2.2.2.2.2 k (by simpa using hk) (by have := ok.s.1; omega) h2).trans (HKp.out k h1)⟩
set_option maxRecDepth 100000 in
set_option maxHeartbeats 2000000 in
theorem nearest_any (S : SL) (ok : SLok S) (D V : List Int) (qv : Value) (Q : List Stp) (w : World) (h : SM S D V qv Q w) (h0 : 0 < Q.length) (hQ : Q.length ≤ 8796093022208) :
    Calls Tryz.prog 56 #[.pointer (some ⟨S.sb, 0, none⟩)] w fun e w' => ∃ (x : Stp) (qv' : Value) (Q' : List Stp), e = .returned (.agg #[.int .i64 (x.1 : Int), .int .i64 (x.2 : Int)]) ∧ (x :: Q').Perm Q ∧ SM S D V qv' Q' w' ∧ Fr S w w' := by
  have hal : Below w.heap.size w (w.alloc (.cells #[.int .i64 0, .int .i64 0] 90)) := (Below.refl _ _).alloc (Nat.le_refl _) _
  have hA := h.go ok hal
  have hpop := hpop_any S.sb S.h1 S.X S.X_len qv Q _ (hA.qs ok) h0 hQ
  have hwl : w.heap.size < (w.alloc (.cells #[.int .i64 0, .int .i64 0] 90)).heap.size := by simp
  have hXw : Blk 90 (w.alloc (.cells #[.int .i64 0, .int .i64 0] 90)) w.heap.size [.int .i64 0, .int .i64 0] := heap_alloc_new w _
  have HFr : Hid (Fr S w (w.alloc (.cells #[.int .i64 0, .int .i64 0] 90))) := Fr.of_below h.size hal
  have hmix := mixed
  have hta := fun w a b => assert_stop a b w
  have hsize := h.size
  have hqb : ∀ k, qv.ownBlock = some k → k < w.heap.size := fun k hk => (h.own.lt k hk).2
  have HA : Hid _ := hA
  clear h hA hal
  go_enter Tryz.func56, Tryz.ntmps56
  go_wp2_with fail
  refine hpop.mono ?_
  rintro e w2 ⟨x, qv2, Q2, rfl, hp2, hq2, hn2, hm2⟩
  have hX2 : Blk 90 w2 w.heap.size [.int .i64 0, .int .i64 0] := by
    refine (hm2.2.2.2.2 w.heap.size hwl (fun e => ?_) (fun e => ?_)).trans hXw
    · have := ok.s.1; omega
    · have := hqb _ e.symm; omega
  have x0 := hX2.cell (j := 0) rfl
  have x1 := hX2.cell (j := 1) rfl
  have f0 := hX2.frozen 0
  have f1 := hX2.frozen 1
  have hn : qv2.ownBlock ≠ some w.heap.size := by
    rcases hn2 with e | ⟨k, e, hk⟩
    · rw [e]; intro e'; have := hqb _ e'; omega
    · rw [e]; intro e'; have := Option.some.inj e'; omega
  have hS2 := SM.act HA.out ok hm2 hq2
  have hF2 := HFr.out.trans (SM.fr HA.out hm2)
  have hS3 := (hS2.high ok (k := w.heap.size) hsize hn 0 (.int .i64 (x.1 : Int))).high ok (k := w.heap.size) hsize hn 1 (.int .i64 (x.2 : Int))
  have hF3 := (hF2.high (k := w.heap.size) hsize 0 (.int .i64 (x.1 : Int))).high (k := w.heap.size) hsize 1 (.int .i64 (x.2 : Int))
  clear hS2 hF2 hX2 HA HFr hq2 hn2 hm2
  go_wp2
  exact bodyPost_ret (v := .agg #[.int .i64 (x.1 : Int), .int .i64 (x.2 : Int)]) (by simp [results, Tryz.results56, go_sem, x0, x1]) rfl ⟨x, qv2, Q2, rfl, hp2, hS3, hF3⟩
end Go.Proofs.YthdhimcaojfcnaaGreat
