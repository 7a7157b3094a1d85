/-
  What is known of the ways from a vertex, in memory.
-/
import Derived.Test.YthdhimcaojfcnaaGreatXWaAt
import Derived.Test.YthdhimcaojfcnaaGreatJK
import Derived.Test.YthdhimcaojfcnaaGreatJB
namespace Go.Proofs.YthdhimcaojfcnaaGreat
open Go Go.Proofs Go.RowKit

/-- Lists of places, one of each vertex, in blocks from lo to below hi. -/
def ATI (lo hi hA N : Nat) (pl : Nat → List Nat) (W : World) : Prop :=
  lo ≤ hA ∧ hA < hi ∧ ∀ v, v < N → ∃ p c, W.cell? ⟨hA, v, none⟩ = some (.slice p (pl v).length c) ∧ ∀ (i : Nat) (h : i < (pl v).length), ∃ b off, p = some ⟨b, off, none⟩ ∧ lo ≤ b ∧ b < hi ∧ W.cell? ⟨b, off + i, none⟩ = some (.int .i64 ((pl v)[i] : Int))
theorem ATI.keep {lo hi hA N : Nat} {pl : Nat → List Nat} {W W' : World} (h : ATI lo hi hA N pl W) (hk : ∀ k, lo ≤ k → k < hi → W'.heap[k]? = W.heap[k]?) : ATI lo hi hA N pl W' := by
  obtain ⟨h1, h2, h3⟩ := h
  refine ⟨h1, h2, fun v hv => ?_⟩
  obtain ⟨p, c, h4, h5⟩ := h3 v hv
  refine ⟨p, c, (World.cell?_of_block (a := ⟨hA, v, none⟩) (hk hA h1 h2)).trans h4, fun i hi => ?_⟩
  obtain ⟨b, off, h6, h7, h8, h9⟩ := h5 i hi
  exact ⟨b, off, h6, h7, h8, (World.cell?_of_block (a := ⟨b, off + i, none⟩) (hk b h7 h8)).trans h9⟩
theorem ATI.of_grp {h0 N : Nat} {L : List Eg} {svs : List Value} {W : World} (h : Grp h0 (.slice (some ⟨h0, 0, none⟩) N N) svs (atW N L L.length) W) : ATI h0 W.heap.size h0 N (plW L L.length) W := by
  have hlt := (h.own.lt h0 rfl).2
  have hsv : svs.length = N := h.len.trans (atW_len _ _ _)
  refine ⟨Nat.le_refl _, hlt, fun v hv => ?_⟩
  obtain ⟨sv, hs⟩ : ∃ sv, svs[v]? = some sv := ⟨_, List.getElem?_eq_getElem (by omega)⟩
  have hi := h.inn v sv _ hs (atW_at hv)
  obtain ⟨p, c, rfl⟩ := owns_formP hi
  rw [List.length_map] at hi hs
  have hr := h.own
  rw [hsv] at hr
  refine ⟨p, c, (hr.cellAt v (by omega)).trans hs, fun i hi' => ?_⟩
  obtain ⟨g, cap, e⟩ := owns_pos hi (by omega)
  simp only [Value.slice.injEq] at e
  obtain ⟨rfl, _, rfl⟩ := e
  have hb := hi.lt g rfl
  refine ⟨g, 0, rfl, hb.1, hb.2, ?_⟩
  rw [Nat.zero_add, hi.cellAt i (by omega)]
  simp [hi']

/-- Where all of it lies. -/
structure SL where
  N : Nat
  L : List Eg
  p : Option Addr
  c : Nat
  h1 : Nat
  lo : Nat
  hi : Nat
  hA : Nat
  sb : Nat
  bD : Nat
  bV : Nat
def SL.X (S : SL) : List Value := [.int .i64 (S.N : Int), .slice S.p S.L.length S.c, .slice (some ⟨S.hA, 0, none⟩) S.N S.N, .slice (some ⟨S.bD, 0, none⟩) S.N S.N, .slice (some ⟨S.bV, 0, none⟩) S.N S.N]
structure SLok (S : SL) : Prop where
  n : S.N ≤ 1048576
  m : S.L.length ≤ 4194304
  ends : ∀ e ∈ S.L, e.1 < S.N ∧ e.2.1 < S.N
  few : ∀ e ∈ S.L, e.2.2 ≤ 2147483647
  hi : S.hi ≤ S.h1
  s : S.sb < S.h1 ∧ ¬ (S.lo ≤ S.sb ∧ S.sb < S.hi) ∧ S.sb ≠ S.bD ∧ S.sb ≠ S.bV
  d : S.bD < S.h1 ∧ ¬ (S.lo ≤ S.bD ∧ S.bD < S.hi) ∧ S.bD ≠ S.bV
  v : S.bV < S.h1 ∧ ¬ (S.lo ≤ S.bV ∧ S.bV < S.hi)
/-- The search: distances D, last edges V, what waits Q (its slice qv). -/
structure SM (S : SL) (D V : List Int) (qv : Value) (Q : List Stp) (W : World) : Prop where
  blk : SB W S.sb S.X qv
  dist : Blk 2 W S.bD (D.map (Value.int .i64))
  via : Blk 3 W S.bV (V.map (Value.int .i64))
  at' : ATI S.lo S.hi S.hA S.N (plW S.L S.L.length) W
  own : QO W S.h1 qv Q
  size : S.h1 ≤ W.heap.size
/-- All below h1 stands but the search's block, the distances and the last edges. -/
structure Fr (S : SL) (w w' : World) : Prop where
  os : w'.os = w.os
  tape : w'.tape = w.tape
  output : w'.output = w.output
  size : w.heap.size ≤ w'.heap.size
  block : ∀ k, k < S.h1 → k ≠ S.sb → k ≠ S.bD → k ≠ S.bV → w'.heap[k]? = w.heap[k]?
theorem Fr.refl (S : SL) (w : World) : Fr S w w := ⟨rfl, rfl, rfl, Nat.le_refl _, fun _ _ _ _ _ => rfl⟩
theorem Fr.trans {S : SL} {a b c : World} (h : Fr S a b) (h' : Fr S b c) : Fr S a c :=
  ⟨h'.os.trans h.os, h'.tape.trans h.tape, h'.output.trans h.output, Nat.le_trans h.size h'.size, fun k a b c d => (h'.block k a b c d).trans (h.block k a b c d)⟩
theorem Fr.below {S : SL} {w0 a b : World} (hb : Below w0.heap.size w0 a) (h : Fr S a b) (h1 : w0.heap.size ≤ S.h1) (hs : w0.heap.size ≤ S.sb) (hd : w0.heap.size ≤ S.bD) (hv : w0.heap.size ≤ S.bV) : Below w0.heap.size w0 b :=
  ⟨h.os.trans hb.os, h.tape.trans hb.tape, h.output.trans hb.output, Nat.le_trans hb.size h.size, fun k hk => (h.block k (by omega) (by omega) (by omega) (by omega)).trans (hb.block k hk)⟩
theorem SM.ne {S : SL} {D V : List Int} {qv : Value} {Q : List Stp} {W : World} (h : SM S D V qv Q W) {k : Nat} (hk : k < S.h1) : some k ≠ qv.ownBlock := fun e => by
  have := (h.own.lt k e.symm).1
  omega
theorem SM.qs {S : SL} {D V : List Int} {qv : Value} {Q : List Stp} {W : World} (h : SM S D V qv Q W) (ok : SLok S) : QS W S.sb S.h1 S.X qv Q := ⟨h.blk, h.own, h.ne ok.s.1⟩
theorem SM.fr {S : SL} {D V : List Int} {qv : Value} {Q : List Stp} {W W' : World} (h : SM S D V qv Q W) (hm : QM S.sb qv W W') : Fr S W W' :=
  ⟨hm.1, hm.2.1, hm.2.2.1, hm.2.2.2.1, fun k hk h1 _ _ => hm.2.2.2.2 k (Nat.lt_of_lt_of_le hk h.size) h1 (h.ne hk)⟩
/-- What the heap's acts leave. -/
theorem SM.act {S : SL} {D V : List Int} {qv qv' : Value} {Q Q' : List Stp} {W W' : World} (h : SM S D V qv Q W) (ok : SLok S) (hm : QM S.sb qv W W') (hq : QS W' S.sb S.h1 S.X qv' Q') : SM S D V qv' Q' W' := by
  have hk : ∀ k, k < S.h1 → k ≠ S.sb → W'.heap[k]? = W.heap[k]? := fun k hk h1 => hm.2.2.2.2 k (Nat.lt_of_lt_of_le hk h.size) h1 (h.ne hk)
  refine ⟨hq.blk, (hk _ ok.d.1 (Ne.symm ok.s.2.2.1)).trans h.dist, (hk _ ok.v.1 (Ne.symm ok.s.2.2.2)).trans h.via, h.at'.keep fun k h1 h2 => hk k (Nat.lt_of_lt_of_le h2 ok.hi) (fun e => ok.s.2.1 (e ▸ ⟨h1, h2⟩)), hq.own, Nat.le_trans h.size hm.2.2.2.1⟩
theorem SL.X_len (S : SL) : S.X.length = 5 := rfl
theorem SM.cells {S : SL} {D V : List Int} {qv : Value} {Q : List Stp} {W : World} (h : SM S D V qv Q W) :
    W.cell? ⟨S.sb, 0, none⟩ = some (.int .i64 (S.N : Int)) ∧ W.cell? ⟨S.sb, 1, none⟩ = some (.slice S.p S.L.length S.c) ∧ W.cell? ⟨S.sb, 2, none⟩ = some (.slice (some ⟨S.hA, 0, none⟩) S.N S.N) ∧ W.cell? ⟨S.sb, 3, none⟩ = some (.slice (some ⟨S.bD, 0, none⟩) S.N S.N) ∧ W.cell? ⟨S.sb, 4, none⟩ = some (.slice (some ⟨S.bV, 0, none⟩) S.N S.N) ∧ W.cell? ⟨S.sb, 5, none⟩ = some qv :=
  ⟨h.blk.cell (j := 0) rfl, h.blk.cell (j := 1) rfl, h.blk.cell (j := 2) rfl, h.blk.cell (j := 3) rfl, h.blk.cell (j := 4) rfl, h.blk.cell (j := 5) rfl⟩
/-- A vertex's distance and last edge are set. -/
theorem SM.put {S : SL} {D V : List Int} {qv : Value} {Q : List Stp} {W : World} (h : SM S D V qv Q W) (ok : SLok S) (v : Nat) (x y : Int) :
    SM S (D.set v x) (V.set v y) qv Q ((W.setCell ⟨S.bD, v, none⟩ (.int .i64 x)).setCell ⟨S.bV, v, none⟩ (.int .i64 y)) ∧ Fr S W ((W.setCell ⟨S.bD, v, none⟩ (.int .i64 x)).setCell ⟨S.bV, v, none⟩ (.int .i64 y)) := by
  have hk : ∀ k, k ≠ S.bD → k ≠ S.bV → ((W.setCell ⟨S.bD, v, none⟩ (.int .i64 x)).setCell ⟨S.bV, v, none⟩ (.int .i64 y)).heap[k]? = W.heap[k]? := fun k h1 h2 => by
    rw [heap_setCell_other _ ⟨S.bV, v, none⟩ k _ h2, heap_setCell_other _ ⟨S.bD, v, none⟩ k _ h1]
  refine ⟨⟨(hk _ ok.s.2.2.1 ok.s.2.2.2).trans h.blk, ?_, ?_, h.at'.keep fun k h1 h2 => hk k (fun e => ok.d.2.1 (e ▸ ⟨h1, h2⟩)) (fun e => ok.v.2 (e ▸ ⟨h1, h2⟩)), ?_, by simpa using h.size⟩, ⟨rfl, rfl, rfl, by simp, fun k _ _ h1 h2 => hk k h1 h2⟩⟩
  · rw [List.map_set]
    exact (h.dist.set v (.int .i64 x)).other (p := ⟨S.bV, v, none⟩) ok.d.2.2 _
  · rw [List.map_set]
    exact (h.via.other (p := ⟨S.bD, v, none⟩) (Ne.symm ok.d.2.2) _).set v (.int .i64 y)
  · exact ownsRow_setCell_other (ownsRow_setCell_other h.own (a := ⟨S.bD, v, none⟩) (Ne.symm (h.ne ok.d.1)) _) (a := ⟨S.bV, v, none⟩) (Ne.symm (h.ne ok.v.1)) _
theorem SM.drewN {S : SL} {D V : List Int} {qv : Value} {Q : List Stp} {W : World} (h : SM S D V qv Q W) (k : Nat) : SM S D V qv Q (W.drewN k) := ⟨h.blk, h.dist, h.via, h.at', h.own, h.size⟩
theorem Fr.drewN {S : SL} {a b : World} (h : Fr S a b) (k : Nat) : Fr S a (b.drewN k) := ⟨h.os, h.tape, h.output, h.size, h.block⟩
theorem SM.go {S : SL} {D V : List Int} {qv : Value} {Q : List Stp} {W W' : World} (h : SM S D V qv Q W) (ok : SLok S) (hb : Below W.heap.size W W') : SM S D V qv Q W' :=
  ⟨h.blk.go hb, h.dist.go hb, h.via.go hb, h.at'.keep fun k _ h2 => hb.block k (Nat.lt_of_lt_of_le (Nat.lt_of_lt_of_le h2 ok.hi) h.size), owns_below h.own hb, Nat.le_trans h.size hb.size⟩
theorem Fr.of_below {S : SL} {a b : World} (h : S.h1 ≤ a.heap.size) (hb : Below a.heap.size a b) : Fr S a b := ⟨hb.os, hb.tape, hb.output, hb.size, fun k hk _ _ _ => hb.block k (by omega)⟩
theorem SM.high {S : SL} {D V : List Int} {qv : Value} {Q : List Stp} {W : World} (h : SM S D V qv Q W) (ok : SLok S) {k : Nat} (hk : S.h1 ≤ k) (hne : qv.ownBlock ≠ some k) (j : Nat) (u : Value) : SM S D V qv Q (W.setCell ⟨k, j, none⟩ u) := by
  have hb : ∀ m, m < S.h1 → (W.setCell ⟨k, j, none⟩ u).heap[m]? = W.heap[m]? := fun m hm => heap_setCell_other _ ⟨k, j, none⟩ m _ (by show m ≠ k; omega)
  exact ⟨(hb _ ok.s.1).trans h.blk, (hb _ ok.d.1).trans h.dist, (hb _ ok.v.1).trans h.via, h.at'.keep fun m _ hm => hb m (Nat.lt_of_lt_of_le hm ok.hi), ownsRow_setCell_other h.own (a := ⟨k, j, none⟩) hne u, by simpa using h.size⟩
theorem Fr.high {S : SL} {a b : World} (h : Fr S a b) {k : Nat} (hk : S.h1 ≤ k) (j : Nat) (u : Value) : Fr S a (b.setCell ⟨k, j, none⟩ u) :=
  ⟨h.os, h.tape, h.output, by simpa using h.size, fun m h1 h2 h3 h4 => (heap_setCell_other _ ⟨k, j, none⟩ m _ (by show m ≠ k; omega)).trans (h.block m h1 h2 h3 h4)⟩
end Go.Proofs.YthdhimcaojfcnaaGreat
