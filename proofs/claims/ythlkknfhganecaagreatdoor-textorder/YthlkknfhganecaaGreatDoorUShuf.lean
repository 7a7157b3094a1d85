/-
  Edges in another order, with their ends in another order; rows of edges that are owned.
-/
import Derived.Test.YthlkknfhganecaaGreatDoorGMake
import Derived.Test.YthlkknfhganecaaGreatDoorGVals
import Derived.Test.YthlkknfhganecaaGreatDoorGAppSrc
import Derived.Test.YthlkknfhganecaaGreatDoorUSays
namespace Go.Proofs.YthlkknfhganecaaGreatDoor
open Go Go.Proofs Go.RowKit

theorem one3 (e : Ed) : ∀ u ∈ encE e, u.oneCell' = true := by
  intro u hu
  simp [encE] at hu
  rcases hu with rfl | rfl | rfl <;> rfl
/-! ### Edges in another order, with their ends in another order -/
def flip (e : Ed) : Ed := (e.2.1, e.1, e.2.2)
theorem norm_flip (e : Ed) : norm (flip e) = norm e := by
  simp only [norm, flip, Int.min_comm, Int.max_comm]
structure Shuf (n : Int) (l l' : List Ed) : Prop where
  len : l'.length = l.length
  perm : (l'.map norm).Perm (l.map norm)
  ok : ∀ e ∈ l', okE n e
theorem Shuf.start {n : Int} {l : List Ed} (h : RightG n l) : Shuf n l l := ⟨rfl, .refl _, fun e he => (h.each e he).1⟩
theorem swap_perm {α : Type} {l : List α} {x y : Nat} (hx : x < l.length) (hy : y < l.length) : ((l.set x l[y]).set y l[x]).Perm l := by
  have h := Array.swap_perm (xs := l.toArray) (i := x) (j := y) (by simpa using hx) (by simpa using hy)
  have h2 : (l.toArray.swap x y (by simpa using hx) (by simpa using hy)).toList = (l.set x l[y]).set y l[x] := by simp [Array.swap]
  rw [← h2]
  simpa using h.toList
/-- Two places exchanged, then the ends at the first one. -/
def turn (l : List Ed) (x y : Nat) : List Ed := ((l.set x (l[y]?.getD (0, 0, 0))).set y (l[x]?.getD (0, 0, 0))).set x (flip (((l.set x (l[y]?.getD (0, 0, 0))).set y (l[x]?.getD (0, 0, 0)))[x]?.getD (0, 0, 0)))
theorem flip_ok {n : Int} {e : Ed} (h : okE n e) : okE n (flip e) := by unfold okE flip at *; simp only; omega
theorem Shuf.turn {n : Int} {l l' : List Ed} (h : Shuf n l l') {x y : Nat} (hx : x < l'.length) (hy : y < l'.length) : Shuf n l (turn l' x y) := by
  have e1 : l'[y]?.getD (0, 0, 0) = l'[y] := by simp [hy]
  have e2 : l'[x]?.getD (0, 0, 0) = l'[x] := by simp [hx]
  unfold Go.Proofs.YthlkknfhganecaaGreatDoor.turn
  rw [e1, e2]
  have hp := swap_perm hx hy
  generalize hm : (l'.set x l'[y]).set y l'[x] = m at hp
  have hml : m.length = l'.length := hp.length_eq
  have hxm : x < m.length := by omega
  have e3 : m[x]?.getD (0, 0, 0) = m[x] := by simp [hxm]
  rw [e3]
  refine ⟨by rw [List.length_set, hml, h.len], ?_, ?_⟩
  · rw [List.map_set, norm_flip]
    have : (m.map norm).set x (norm m[x]) = m.map norm := by
      apply List.ext_getElem
      · simp
      · intro i h1 h2
        rw [List.getElem_set]
        split
        · rename_i he; subst he; simp
        · rfl
    rw [this]
    exact (hp.map norm).trans h.perm
  · intro e he
    rcases List.mem_or_eq_of_mem_set he with he | he
    · exact h.ok e (hp.mem_iff.1 he)
    · rw [he]; exact flip_ok (h.ok _ (hp.mem_iff.1 (List.getElem_mem hxm)))
theorem Shuf.made {n : Int} {l l' : List Ed} (hR : RightG n l) (h : Shuf n l l') : makeK n l' = 0 ∧ makeN n l' = n ∧ makeL n l' = l := by
  have hid : l.map norm = l := by
    conv => rhs; rw [← List.map_id l]
    exact List.map_congr_left fun e he => norm_id (hR.each e he).2
  obtain ⟨h1, h2⟩ := make_again hR (by rw [← hid]; exact h.perm) h.ok
  exact ⟨h1, by unfold makeN; rw [if_pos h1], by unfold makeL; rw [if_pos h1, h2]⟩

/-! ### Cells -/
theorem Edges.news {n : Nat} {W : World} {b off c len : Nat} {l : List Ed} (h : Edges n W (.slice (some ⟨b, off, none⟩) len c) l) (hn : 0 < l.length) : ∀ (i : Nat) (u : Value), (flat l)[i]? = some u → W.cell? ((⟨b, off, none⟩ : Addr).add i) = some u := by
  rcases h with ⟨_, rfl⟩ | ⟨b', off', cap, h1, h2, h3, h4⟩
  · simp at hn
  · simp only [Value.slice.injEq, Option.some.injEq, Addr.mk.injEq] at h1
    obtain ⟨⟨rfl, rfl, _⟩, _, _⟩ := h1
    intro i u hu
    rw [Go.WideShapes.add_plain]
    have hi := (List.getElem?_eq_some_iff.1 hu).1
    rw [flat_len] at hi
    have hq : i / 3 < l.length := by omega
    have hat := flat_at (List.getElem?_eq_getElem hq)
    obtain ⟨c0, c1, c2⟩ := h4 (i / 3) _ (List.getElem?_eq_getElem hq)
    have hm : i % 3 < 3 := Nat.mod_lt _ (by omega)
    have hi3 : i = i / 3 * 3 + i % 3 := by omega
    generalize i / 3 = q at *
    generalize i % 3 = r at *
    subst hi3
    match r, hm with
    | 0, _ => rw [Nat.add_zero, hat.1] at hu; cases hu; exact c0
    | 1, _ => rw [hat.2.1] at hu; cases hu; exact c1
    | 2, _ => rw [hat.2.2] at hu; cases hu; exact c2
theorem flat_one (l : List Ed) : ∀ u ∈ flat l, u.oneCell' = true := by
  intro u hu
  obtain ⟨e, _, he⟩ := List.mem_flatMap.1 hu
  exact one3 e u he
theorem owns_empty {w : World} {base : Nat} {e : TypeId} {k : Nat} (h : w.heap[k]? = some (.cells #[] e (0, 0))) (hb : base ≤ k) : w.ownsRow base e 3 (.slice (some ⟨k, 0, none⟩) 0 0) 0 (flat []) :=
  ⟨rfl, .inr ⟨k, 0, #[], rfl, hb, h, Nat.le_refl _, Nat.zero_le _, rfl, rfl⟩⟩
/-- An owned row of edges, as a block: its edges, then what room there is. -/
theorem owns_blk {w : World} {base : Nat} {e : TypeId} {v : Value} {l : List Ed} (h : w.ownsRow base e 3 v l.length (flat l)) (hn : 0 < l.length) :
    ∃ g cap rest, v = .slice (some ⟨g, 0, none⟩) l.length cap ∧ base ≤ g ∧ l.length ≤ cap ∧ Blk e w g (flat l ++ rest) := by
  rcases h.2 with ⟨_, h0⟩ | ⟨g, cap, cur, hv, hb, hg, hn', hc, hsz, ht⟩
  · omega
  · refine ⟨g, cap, cur.toList.drop (l.length * 3), hv, hb, hn', ?_⟩
    unfold Blk
    rw [hg, ← ht, List.take_append_drop]
theorem set_room {l : List Ed} {rest : List Value} {j : Nat} (hj : j < l.length) (x : Ed) : ((((flat l ++ rest).set (j * 3) (.int .i64 x.1)).set (j * 3 + 1) (.int .i64 x.2.1)).set (j * 3 + 2) (.int .i64 x.2.2)) = flat (l.set j x) ++ rest := by
  have hf := flat_len l
  rw [List.set_append_left _ _ (by rw [hf]; omega), List.set_append_left _ _ (by rw [List.length_set, hf]; omega), List.set_append_left _ _ (by rw [List.length_set, List.length_set, hf]; omega), flat_set]
theorem flat_room {l : List Ed} {rest : List Value} {j : Nat} {x : Ed} (h : l[j]? = some x) : (flat l ++ rest)[j * 3]? = some (.int .i64 x.1) ∧ (flat l ++ rest)[j * 3 + 1]? = some (.int .i64 x.2.1) ∧ (flat l ++ rest)[j * 3 + 2]? = some (.int .i64 x.2.2) := by
  have hj := (List.getElem?_eq_some_iff.1 h).1
  have hf := flat_len l
  obtain ⟨h0, h1, h2⟩ := flat_at h
  exact ⟨by rw [List.getElem?_append_left (by omega)]; exact h0, by rw [List.getElem?_append_left (by omega)]; exact h1, by rw [List.getElem?_append_left (by omega)]; exact h2⟩
theorem Blk.drew {t : TypeId} {W : World} {g : Nat} {vs : List Value} (h : Blk t W g vs) : Blk t W.drew g vs := h
theorem Below.drew' {n : Nat} {A W : World} (h : Below n A W) : Below n A W.drew := below_drewN h 1
theorem Blk.edges_room {W : World} {g cap : Nat} {l : List Ed} {rest : List Value} {t : TypeId} (h : Blk t W g (flat l ++ rest)) (hc : l.length ≤ cap) : Edges W.heap.size W (.slice (some ⟨g, 0, none⟩) l.length cap) l :=
  .inr ⟨g, 0, cap, rfl, h.lt, hc, fun j x hx => by
    simp only [Nat.zero_add]
    exact ⟨h.cell (flat_room hx).1, h.cell (flat_room hx).2.1, h.cell (flat_room hx).2.2⟩⟩


theorem Edges.src {n : Nat} {W : World} {sv : Value} {l : List Ed} (h : Edges n W sv l) : Src W sv l.length 3 (flat l) := by
  by_cases h0 : 0 < l.length
  · have h1 := h
    rcases h1 with ⟨_, rfl⟩ | ⟨b, off, cap, rfl, _⟩
    · simp at h0
    · exact .inr ⟨⟨b, off, none⟩, cap, rfl, flat_len l, h.news h0, flat_one l⟩
  · obtain rfl : l = [] := List.eq_nil_of_length_eq_zero (by omega)
    obtain ⟨p, c, rfl⟩ := h.len
    cases p with
    | none => exact .inl ⟨⟨c, rfl⟩, rfl, rfl⟩
    | some ad => exact .inr ⟨ad, c, rfl, rfl, fun j u hu => by simp [flat] at hu, fun u hu => by simp [flat] at hu⟩
theorem form_of {W : World} {base : Nat} {e : TypeId} {size : Nat} {v : Value} {n : Nat} {xs : List Value} (h : W.ownsRow base e size v n xs) : ∃ p c, v = .slice p n c := by
  rcases h.2 with ⟨rfl, rfl⟩ | ⟨g, cap, cur, rfl, _⟩ <;> exact ⟨_, _, rfl⟩
theorem blk_grown {t : TypeId} {A B : World} {g : Nat} {vs : List Value} {row : Option Nat} (h : Blk t A g vs) (hg : A.grownBy B row) (hne : some g ≠ row) : Blk t B g vs := (hg.block g h.lt hne).trans h
theorem flat_app (xs ys : List Ed) : flat (xs ++ ys) = flat xs ++ flat ys := by simp [flat]
theorem below_allocK {A w : World} (h : Below w.heap.size w A) (o : Obj) : Below w.heap.size w (A.alloc o) := h.alloc h.size o
theorem keepS {wr W : World} {a0 a1 : Addr} {v0 v1 : Value} (d0 : wr.cell? a0 = some v0) (d1 : wr.cell? a1 = some v1) (h : Below wr.heap.size wr W) : W.cell? a0 = some v0 ∧ W.cell? a1 = some v1 ∧ Below wr.heap.size wr W := ⟨cell_keep h d0, cell_keep h d1, h⟩
section
variable {ops : Array Oper} {o : Oper} {a : Act} {w : World} {K : Act → World → Prop} {Q : Exit → Act → World → Prop} {E : Prop}
/-- append of edges, upon a row that the call owns, as one step of a region that draws its order. -/
theorem step_append_edges (hgd : o.guard = none) (s x : Operand) (ho : o.op = .call { callee := .builtin .append, args := #[s, x], argTypes := #[28, 28] })
    (w7 : World) (hS : Below w7.heap.size w7 w) (xs : List Ed) (v : Value) (hs : a.eval s = v) (hown : w.ownsRow w7.heap.size 50 3 v xs.length (flat xs))
    (ys : List Ed) (yv : Value) (hx : a.eval x = yv) (hy : Edges w7.heap.size w7 yv ys) (zs : List Ed) (hz : xs ++ ys = zs) (hlen : xs.length + ys.length ≤ 1000000)
    (h : ∀ p c w', w'.ownsRow w7.heap.size 50 3 (.slice p zs.length c) zs.length (flat zs) → Below w7.heap.size w7 w' → (∀ t k vs, Blk t w k vs → v.ownBlock ≠ some k → Blk t w' k vs ∧ (Value.slice p zs.length c).ownBlock ≠ some k) → K (a.put o.dst (.slice p zs.length c)) w') :
    if Region.wanted o (yielded ops a.tmps) = true then Oper.wp Tryz.prog o a w K Q else E := by
  subst hz
  obtain ⟨i0, hi, hz0, hz1, hz2⟩ := info_parts infoE
  refine step_append_src hgd s x 28 ho w7.heap.size 50 i0 (.agg #[.int .i64 0, .int .i64 0, .int .i64 0]) 3 24 Tryz.underlying28 hi hz0 hz1 hz2 (by simp [Value.cells]) (by decide) v xs.length (flat xs) hs hown yv ys.length (flat ys) hx (hy.go hS).src (by unfold maxLen; omega) (by omega) hS.size ?_
  intro v' w' h1 h2 h3
  rw [← flat_app, ← List.length_append] at h1
  obtain ⟨p, c, rfl⟩ := form_of h1
  refine h p c w' h1 (hS.grown h2 hS.size (fun k e => (hown.lt k e).1)) (fun t k vs hB hne => ⟨blk_grown hB h2 (Ne.symm hne), fun e => ?_⟩)
  rcases h3 with h3 | h3
  · exact hne (h3 ▸ e)
  · rw [h3] at e
    have := hB.lt
    simp only [Option.some.injEq] at e
    omega
end
end Go.Proofs.YthlkknfhganecaaGreatDoor
