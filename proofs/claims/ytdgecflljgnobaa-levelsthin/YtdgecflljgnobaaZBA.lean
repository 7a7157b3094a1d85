/-
  The walk in memory: the step on top changed, an edge opened.
-/
import Derived.Test.YtdgecflljgnobaaZAZ
import Derived.Deep.RegionHeld3
import Derived.Deep.DrawnRows
import Derived.Maps.AppendAt
import Derived.Test.YtdgecflljgnobaaXGBase
namespace Go.Proofs.Ytdgecflljgnobaa
open Go Go.Proofs Go.RowKit

theorem flatP_low (init : List Stp) (top : Stp) (x : Int) : (flatP (init ++ [top])).set (init.length * 5 + 3) (.int .i64 x) = flatP (init ++ [{ top with low := x }]) := by
  rw [flatP_app, flatP_app, List.set_append_right _ _ (by rw [flatP_len]; omega), flatP_len, Nat.add_sub_cancel_left]
  rfl
theorem flatP_next (init : List Stp) (top : Stp) (x : Nat) : (flatP (init ++ [top])).set (init.length * 5 + 2) (.int .i64 (x : Int)) = flatP (init ++ [{ top with next := x }]) := by
  rw [flatP_app, flatP_app, List.set_append_right _ _ (by rw [flatP_len]; omega), flatP_len, Nat.add_sub_cancel_left]
  rfl
/-- The two stacks lie apart. -/
def Apart2 (pv ov : Value) : Prop := (pv.ownBlock = none ∨ pv.ownBlock ≠ ov.ownBlock) ∧ (ov.ownBlock = none ∨ ov.ownBlock ≠ pv.ownBlock)
theorem WB.setWay {a : Lay} {lv ov : Value} {s : WS} {W : World} {pb cap : Nat} (h : WB a lv (.slice (some ⟨pb, 0, none⟩) s.path.length cap) ov s W) (hL : LayOK a) (hA : Apart2 (.slice (some ⟨pb, 0, none⟩) s.path.length cap) ov) {j : Nat} {u : Value} {P : List Stp} (hP : (flatP s.path).set j u = flatP P) (hl : P.length = s.path.length) : WB a lv (.slice (some ⟨pb, 0, none⟩) P.length cap) ov { s with path := P } (W.setCell ⟨pb, j, none⟩ u) := by
  obtain ⟨h1, h2⟩ := h.way.stored j u
  have hb := h.way.lt pb rfl
  rw [hP] at h1
  have hlo : ∀ {t : TypeId} {b : Nat} {vs : List Value}, Blk t W b vs → b < a.h0 → Blk t (W.setCell ⟨pb, j, none⟩ u) b vs := fun hB hlt => hB.other (by simp only; omega) _
  refine ⟨hlo h.blk hL.w0 |> fun x => ?_, hlo h.root hL.r0, hlo h.frm hL.f0, hlo h.dep hL.d0, hlo h.bls hL.k0, by rw [hl]; exact h1, owns_keep h.opn h2 hA.2⟩
  rw [hl]
  exact x
theorem WB.setOpn {a : Lay} {lv pv ov ov' : Value} {s : WS} {A B : World} {P : List Int} (h : WB a lv pv ov s A) (hL : LayOK a) (hA : Apart2 pv ov) (hg : A.grownBy B ov.ownBlock) (hlow : ∀ k, ov.ownBlock = some k → a.h0 ≤ k) (hB : B.ownsRow a.h0 3 1 ov' P.length (P.map (Value.int .i64))) : WB a lv pv ov' { s with opn := P } (B.setCell ⟨a.wb, 6, none⟩ ov') := by
  have hb : ∀ {t : TypeId} {b : Nat} {vs : List Value}, Blk t A b vs → b < a.h0 → Blk t B b vs := fun {t b vs} hB hlt => (hg.block b hB.lt (fun e => by have := hlow b e.symm; omega)).trans hB
  have hbl := (hb h.blk hL.w0).set 6 ov'
  exact ⟨hbl, (hb h.root hL.r0).other (Ne.symm hL.wr) _, (hb h.frm hL.f0).other (Ne.symm hL.wf) _, (hb h.dep hL.d0).other (Ne.symm hL.wd) _, (hb h.bls hL.k0).other (Ne.symm hL.wk) _, owns_lowset (owns_keep h.way hg hA.1) hL.w0 _, owns_lowset hB hL.w0 _⟩
end Go.Proofs.Ytdgecflljgnobaa

namespace Go.Proofs.Ytdgecflljgnobaa
open Go Go.Proofs Go.RowKit

def Lay.five (a : Lay) (k : Nat) : Prop := k = a.wb ∨ k = a.rb ∨ k = a.fb ∨ k = a.db ∨ k = a.kb
structure Wk (a : Lay) (A B : World) : Prop where
  os : B.os = A.os
  tape : B.tape = A.tape
  output : B.output = A.output
  size : A.heap.size ≤ B.heap.size
  block : ∀ k, k < a.h0 → ¬ a.five k → B.heap[k]? = A.heap[k]?
theorem Wk.refl (a : Lay) (A : World) : Wk a A A := ⟨rfl, rfl, rfl, Nat.le_refl _, fun _ _ _ => rfl⟩
theorem Wk.trans {a : Lay} {A B C : World} (h : Wk a A B) (k : Wk a B C) : Wk a A C :=
  ⟨k.os.trans h.os, k.tape.trans h.tape, k.output.trans h.output, Nat.le_trans h.size k.size, fun i hi hn => (k.block i hi hn).trans (h.block i hi hn)⟩
theorem Wk.of_below {a : Lay} {n : Nat} {A B : World} (h : Below n A B) (hn : a.h0 ≤ n) : Wk a A B := ⟨h.os, h.tape, h.output, h.size, fun k hk _ => h.block k (by omega)⟩
theorem Wk.grown {a : Lay} {A B : World} {row : Option Nat} (h : A.grownBy B row) (hs : a.h0 ≤ A.heap.size) (hr : ∀ k, row = some k → a.h0 ≤ k) : Wk a A B :=
  ⟨h.os, h.tape, h.output, h.size, fun k hk _ => h.block k (by omega) (fun e => by have := hr k e.symm; omega)⟩
theorem Wk.set {a : Lay} {A B : World} (h : Wk a A B) {p : Addr} (hp : a.five p.block ∨ a.h0 ≤ p.block) (u : Value) : Wk a A (B.setCell p u) :=
  h.trans ⟨rfl, rfl, rfl, by simp, fun k hk hn => Below.heap_setCell _ _ _ _ (fun e => by
    rcases hp with h1 | h1
    · exact hn (e ▸ h1)
    · omega)⟩
theorem Wk.below {a : Lay} {n : Nat} {A B : World} (h : Wk a A B) (hn : n ≤ a.h0) (h5 : ∀ k, k < n → ¬ a.five k) : Below n A B := ⟨h.os, h.tape, h.output, h.size, fun k hk => h.block k (by omega) (h5 k hk)⟩
theorem Wk.blk {a : Lay} {A B : World} {t : TypeId} {g : Nat} {vs : List Value} (h : Wk a A B) (hB : Blk t A g vs) (hg : g < a.h0) (hn : ¬ a.five g) : Blk t B g vs := (h.block g hg hn).trans hB
/-- The links in memory: a list of lists, all cut of one. -/
structure LK (a : Lay) (lv : Value) (lk : List (List (Int × Int))) (W : World) : Prop where
  ex : ∃ (lb sb : Nat) (svs cs : List Value), lv = .slice (some ⟨lb, 0, none⟩) a.N a.N ∧ lb < a.h0 ∧ ¬ a.five lb ∧ sb < a.h0 ∧ ¬ a.five sb ∧ lk.length = a.N ∧ Blk 73 W lb svs ∧ Blk 75 W sb cs ∧
    ∀ (v : Nat) (xs : List (Int × Int)), lk[v]? = some xs → ∃ off c, svs[v]? = some (.slice (some ⟨sb, off, none⟩) xs.length c) ∧ ∀ (j : Nat) (x : Int × Int), xs[j]? = some x → cs[off + j * 2]? = some (.int .i64 x.1) ∧ cs[off + j * 2 + 1]? = some (.int .i64 x.2)
theorem LK.go {a : Lay} {lv : Value} {lk : List (List (Int × Int))} {A B : World} (h : LK a lv lk A) (k : Wk a A B) : LK a lv lk B := by
  obtain ⟨lb, sb, svs, cs, h1, h2, h3, h4, h5, h6, h7, h8, h9⟩ := h.ex
  exact ⟨lb, sb, svs, cs, h1, h2, h3, h4, h5, h6, k.blk h7 h2 h3, k.blk h8 h4 h5, h9⟩
end Go.Proofs.Ytdgecflljgnobaa

namespace Go.Proofs.Ytdgecflljgnobaa
open Go Go.Proofs Go.RowKit

/-- What a slice brings to an append. -/
def Src (W : World) (xv : Value) (m size : Nat) (news : List Value) : Prop :=
  ((∃ c, xv = .slice none 0 c) ∧ m = 0 ∧ news = []) ∨ ∃ ad c, xv = .slice (some ad) m c ∧ news.length = m * size ∧ (∀ j u, news[j]? = some u → W.cell? (ad.add j) = some u) ∧ ∀ u ∈ news, u.oneCell' = true
theorem run_append_src {P : Program} (w : World) (base : Nat) (t ty e : TypeId) (i : TypeInfo) (z : Value) (size bytes : Nat) (ht : P.underlying t = some (.slice e)) (hi : P.info? e = some i) (hz : i.zero = some z)
    (hsize : i.size = size) (hby : i.bytes = bytes) (hzs : z.cells.size = size) (hsz : 0 < size)
    (v : Value) (n : Nat) (xs : List Value) (hown : w.ownsRow base e size v n xs) (xv : Value) (m : Nat) (news : List Value) (hsrc : Src w xv m size news)
    (h63 : n + m ≤ maxLen) (hbytes : (n + m) * bytes ≤ 140737488355328) (hbase : base ≤ w.heap.size) :
    ∃ v' w', (Builtin.append_ #[t, t] ty #[v, xv]).run P w = .ok v' w' ∧ w'.ownsRow base e size v' (n + m) (xs ++ news) ∧ w.grownBy w' v.ownBlock ∧ (v'.ownBlock = v.ownBlock ∨ v'.ownBlock = some w.heap.size) := by
  rcases hsrc with ⟨⟨c, rfl⟩, rfl, rfl⟩ | ⟨ad, c, rfl, hl, hnews, h1⟩
  · refine ⟨v, w, ?_, by simpa using hown, ⟨rfl, rfl, rfl, Nat.le_refl _, fun _ _ _ => rfl⟩, .inl rfl⟩
    rcases hown.2 with ⟨rfl, rfl⟩ | ⟨g, cap, cur, rfl, hbg, hg, hnc, _⟩
    · simp [Builtin.append_, run_underlying ht, sizeOf, typeInfo, hi, Builtin.lenOf, Builtin.firstCells]
    · have hnc' : n ≤ cap := hnc
      simp [Builtin.append_, run_underlying ht, sizeOf, typeInfo, hi, Builtin.lenOf, Builtin.firstCells, hnc', storeCells]
  · obtain ⟨v', w', h2, h3, h4, _, h5⟩ := run_append_own_at (P := P) w base t ty e i z size bytes ht hi hz hsize hby hzs hsz v n xs hown ad m c news hl hnews h1 h63 hbytes hbase
    exact ⟨v', w', h2, h3, h4, h5⟩
/-- append, as one step of a region that draws its order. -/
theorem step_append_src {P : Program} {ops : Array Oper} {o : Oper} {a : Act} {w : World} {K : Act → World → Prop} {Q : Exit → Act → World → Prop} {E : Prop}
    (hgd : o.guard = none) (s x : Operand) (t : TypeId) (ho : o.op = .call { callee := .builtin .append, args := #[s, x], argTypes := #[t, t] })
    (base : Nat) (e : TypeId) (i : TypeInfo) (z : Value) (size bytes : Nat) (ht : P.underlying t = some (.slice e)) (hi : P.info? e = some i) (hz : i.zero = some z)
    (hsize : i.size = size) (hby : i.bytes = bytes) (hzs : z.cells.size = size) (hsz : 0 < size)
    (v : Value) (n : Nat) (xs : List Value) (hs : a.eval s = v) (hown : w.ownsRow base e size v n xs)
    (xv : Value) (m : Nat) (news : List Value) (hx : a.eval x = xv) (hsrc : Src w xv m size news)
    (h63 : n + m ≤ maxLen) (hbytes : (n + m) * bytes ≤ 140737488355328) (hbase : base ≤ w.heap.size)
    (h : ∀ v' w', w'.ownsRow base e size v' (n + m) (xs ++ news) → w.grownBy w' v.ownBlock → (v'.ownBlock = v.ownBlock ∨ v'.ownBlock = some w.heap.size) → K (a.put o.dst v') w') :
    if Region.wanted o (yielded ops a.tmps) = true then Oper.wp P o a w K Q else E := by
  have hw : Region.wanted o (yielded ops a.tmps) = true := by simp [Region.wanted, hgd]
  rw [if_pos hw]
  obtain ⟨v', w', hr, h2, h3, h5⟩ := run_append_src (P := P) w base t o.type e i z size bytes ht hi hz hsize hby hzs hsz v n xs hown xv m news hsrc h63 hbytes hbase
  unfold Oper.wp
  simp [execOp, ho, resolve, invoke, builtin, hs, hx, hr, Result.andThen]
  exact h v' w' h2 h3 h5

end Go.Proofs.Ytdgecflljgnobaa
