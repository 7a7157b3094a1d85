/-
  Appending lists; cuts. For the walk of filigreelaw04.GraphSplit.
-/
import Derived.Deep.RegionHeld3
import Derived.Deep.DrawnRows
import Derived.Test.YtkniphmjiepkaabGSplMath
namespace Go.Proofs.Ytkniphmjiepkaab
open Go Go.Proofs Go.RowKit

theorem infoN : (Try.prog.info? 3).map (fun i => (i.zero, i.size, i.bytes)) = some (some (.int .i64 0), 1, 8) := by kernel_rfl
theorem Ints.of_owns {W : World} {base : Nat} {e : TypeId} {v : Value} {l : List Int} (h : W.ownsRow base e 1 v l.length (l.map (Value.int .i64))) : Ints W.heap.size W v l := by
  rcases h.2 with ⟨rfl, h0⟩ | ⟨g, cap, cur, rfl, hb, hg, hn, hc⟩
  · exact .inl ⟨⟨_, _, rfl⟩, List.eq_nil_of_length_eq_zero h0⟩
  · refine .inr ⟨g, 0, cap, rfl, (Array.getElem?_eq_some_iff.1 hg).1, hn, fun j x hx => ?_⟩
    have c0 := h.cells (g := g) rfl j (.int .i64 x) (by rw [List.getElem?_map, hx]; rfl)
    rw [Go.WideShapes.add_plain] at c0
    exact c0
def Apart (s t : Value) : Prop := ∀ k, s.ownBlock = some k → t.ownBlock ≠ some k
theorem Apart.symm {s t : Value} (h : Apart s t) : Apart t s := fun k h1 h2 => h k h2 h1
theorem Apart.none (t : Value) : Apart (.slice none 0 0) t := fun k h => by simp [Value.ownBlock] at h
/-- Behind an append upon one of two rows that the call owns. -/
theorem Apart.step {W : World} {base : Nat} {e : TypeId} {size n : Nat} {xs : List Value} {s s' t : Value} (h : Apart s t) (ht : W.ownsRow base e size t n xs) (hat : s'.ownBlock = s.ownBlock ∨ s'.ownBlock = some W.heap.size) : Apart s' t := by
  intro k hk e
  rcases hat with h1 | h1
  · exact h k (h1 ▸ hk) e
  · rw [h1] at hk
    have := (ht.lt k e).2
    cases hk
    omega
theorem Apart.kept {W W' : World} {base : Nat} {e : TypeId} {size n : Nat} {xs : List Value} {s t : Value} (h : Apart s t) (ht : W.ownsRow base e size t n xs) (hg : W.grownBy W' s.ownBlock) : W'.ownsRow base e size t n xs := by
  refine ht.kept (row := s.ownBlock) hg ?_
  cases h1 : t.ownBlock with
  | none => exact .inl rfl
  | some k => exact .inr fun e => h k e.symm h1
theorem owns_noneI (w : World) (base : Nat) (e : TypeId) : w.ownsRow base e 1 (.slice none 0 0) 0 ([].map (Value.int .i64)) := World.ownsRow_nil w base e 1
theorem newsI {w : World} {t : TypeId} (x : Value) : ∀ (i : Nat) (u : Value), [x][i]? = some u → (w.alloc (.cells #[x] t)).cell? ((⟨w.heap.size, 0, none⟩ : Addr).add i) = some u := by
  intro i u hu
  rw [Go.WideShapes.add_plain, Nat.zero_add]
  match i with
  | 0 => simp at hu; subst hu; simp
  | i + 1 => simp at hu

/-! ### append of a list that came from anywhere -/
/-- What a slice brings to an append. -/
def Src (W : World) (xv : Value) (m size : Nat) (news : List Value) : Prop :=
  ((∃ c, xv = .slice none 0 c) ∧ m = 0 ∧ news = []) ∨ ∃ ad c, xv = .slice (some ad) m c ∧ news.length = m * size ∧ (∀ j u, news[j]? = some u → W.cell? (ad.add j) = some u) ∧ ∀ u ∈ news, u.oneCell' = true
theorem Edges.src {n : Nat} {W : World} {sv : Value} {l : List Ed} (h : Edges n W sv l) : Src W sv l.length 3 (flat l) := by
  by_cases h0 : 0 < l.length
  · have h1 := h
    rcases h1 with ⟨_, rfl⟩ | ⟨b, off, cap, rfl, _⟩
    · simp at h0
    · exact .inr ⟨⟨b, off, none⟩, cap, rfl, flat_len l, h.news h0, flat_one l⟩
  · obtain rfl : l = [] := List.eq_nil_of_length_eq_zero (by omega)
    obtain ⟨p, c, rfl⟩ := h.len
    cases p with
    | none => exact .inl ⟨⟨c, rfl⟩, rfl, rfl⟩
    | some ad => exact .inr ⟨ad, c, rfl, rfl, fun j u hu => by simp [flat] at hu, fun u hu => by simp [flat] at hu⟩
theorem Ints.src {n : Nat} {W : World} {sv : Value} {l : List Int} (h : Ints n W sv l) : Src W sv l.length 1 (l.map (Value.int .i64)) := by
  rcases h with ⟨⟨p, c, rfl⟩, rfl⟩ | ⟨b, off, cap, rfl, _, _, hc⟩
  · cases p with
    | none => exact .inl ⟨⟨c, rfl⟩, rfl, rfl⟩
    | some ad => exact .inr ⟨ad, c, rfl, rfl, fun j u hu => by simp at hu, fun u hu => by simp at hu⟩
  · refine .inr ⟨⟨b, off, none⟩, cap, rfl, by simp, fun j u hu => ?_, fun u hu => ?_⟩
    · rw [List.getElem?_map] at hu
      obtain ⟨x, hx, rfl⟩ := Option.map_eq_some_iff.1 hu
      rw [Go.WideShapes.add_plain]
      exact hc j x hx
    · obtain ⟨x, _, rfl⟩ := List.mem_map.1 hu; rfl
theorem run_append_src {P : Program} (w : World) (base : Nat) (t ty e : TypeId) (i : TypeInfo) (z : Value) (size bytes : Nat) (ht : P.underlying t = some (.slice e)) (hi : P.info? e = some i) (hz : i.zero = some z)
    (hsize : i.size = size) (hby : i.bytes = bytes) (hzs : z.cells.size = size) (hsz : 0 < size)
    (v : Value) (n : Nat) (xs : List Value) (hown : w.ownsRow base e size v n xs) (xv : Value) (m : Nat) (news : List Value) (hsrc : Src w xv m size news)
    (h63 : n + m ≤ maxLen) (hbytes : (n + m) * bytes ≤ 140737488355328) (hbase : base ≤ w.heap.size) :
    ∃ v' w', (Builtin.append_ #[t, t] ty #[v, xv]).run P w = .ok v' w' ∧ w'.ownsRow base e size v' (n + m) (xs ++ news) ∧ w.grownBy w' v.ownBlock ∧ (v'.ownBlock = v.ownBlock ∨ v'.ownBlock = some w.heap.size) := by
  rcases hsrc with ⟨⟨c, rfl⟩, rfl, rfl⟩ | ⟨ad, c, rfl, hl, hnews, h1⟩
  · refine ⟨v, w, ?_, by simpa using hown, ⟨rfl, rfl, rfl, Nat.le_refl _, fun _ _ _ => rfl⟩, .inl rfl⟩
    rcases hown.2 with ⟨rfl, rfl⟩ | ⟨g, cap, cur, rfl, hbg, hg, hnc, _⟩
    · simp [Builtin.append_, run_underlying ht, sizeOf, typeInfo, hi, Builtin.lenOf, Builtin.firstCells]
    · have hnc' : n ≤ cap := hnc
      simp [Builtin.append_, run_underlying ht, sizeOf, typeInfo, hi, Builtin.lenOf, Builtin.firstCells, hnc', storeCells]
  · obtain ⟨v', w', h2, h3, h4, _, h5⟩ := run_append_own_at (P := P) w base t ty e i z size bytes ht hi hz hsize hby hzs hsz v n xs hown ad m c news hl hnews h1 h63 hbytes hbase
    exact ⟨v', w', h2, h3, h4, h5⟩
/-- append, as one step of a region that draws its order. -/
theorem step_append_src {P : Program} {ops : Array Oper} {o : Oper} {a : Act} {w : World} {K : Act → World → Prop} {Q : Exit → Act → World → Prop} {E : Prop}
    (hgd : o.guard = none) (s x : Operand) (t : TypeId) (ho : o.op = .call { callee := .builtin .append, args := #[s, x], argTypes := #[t, t] })
    (base : Nat) (e : TypeId) (i : TypeInfo) (z : Value) (size bytes : Nat) (ht : P.underlying t = some (.slice e)) (hi : P.info? e = some i) (hz : i.zero = some z)
    (hsize : i.size = size) (hby : i.bytes = bytes) (hzs : z.cells.size = size) (hsz : 0 < size)
    (v : Value) (n : Nat) (xs : List Value) (hs : a.eval s = v) (hown : w.ownsRow base e size v n xs)
    (xv : Value) (m : Nat) (news : List Value) (hx : a.eval x = xv) (hsrc : Src w xv m size news)
    (h63 : n + m ≤ maxLen) (hbytes : (n + m) * bytes ≤ 140737488355328) (hbase : base ≤ w.heap.size)
    (h : ∀ v' w', w'.ownsRow base e size v' (n + m) (xs ++ news) → w.grownBy w' v.ownBlock → (v'.ownBlock = v.ownBlock ∨ v'.ownBlock = some w.heap.size) → K (a.put o.dst v') w') :
    if Region.wanted o (yielded ops a.tmps) = true then Oper.wp P o a w K Q else E := by
  have hw : Region.wanted o (yielded ops a.tmps) = true := by simp [Region.wanted, hgd]
  rw [if_pos hw]
  obtain ⟨v', w', hr, h2, h3, h5⟩ := run_append_src (P := P) w base t o.type e i z size bytes ht hi hz hsize hby hzs hsz v n xs hown xv m news hsrc h63 hbytes hbase
  unfold Oper.wp
  simp [execOp, ho, resolve, invoke, builtin, hs, hx, hr, Result.andThen]
  exact h v' w' h2 h3 h5
def onlyN (R : Act → World → Prop) : Exit → Act → World → Prop
  | .normal, a, w => R a w
  | _, _, _ => False
theorem wp_cutN {P : Program} {s : Code} {Q : Exit → Act → World → Prop} {a : Act} {w : World} (R : Act → Act → World → Prop) (first : s.wp P (onlyN (R a)) a w) (rest : ∀ a' w', R a a' w' → Q .normal a' w') : s.wp P Q a w := by
  refine wp_mono first ?_
  intro e a' w' hq
  cases e with
  | normal => exact rest _ _ hq
  | _ => exact hq.elim

/-! ### What is kept in a region -/
theorem below_allocK {A w : World} (h : Below w.heap.size w A) (o : Obj) : Below w.heap.size w (A.alloc o) := h.alloc h.size o
theorem keepS {wr W : World} {a0 a1 : Addr} {v0 v1 : Value} (d0 : wr.cell? a0 = some v0) (d1 : wr.cell? a1 = some v1) (h : Below wr.heap.size wr W) : W.cell? a0 = some v0 ∧ W.cell? a1 = some v1 ∧ Below wr.heap.size wr W := ⟨cell_keep h d0, cell_keep h d1, h⟩
theorem Edges.put2 {n m k : Nat} {W : World} {sv : Value} {l : List Ed} (h : Edges n W sv l) (ha : Above m sv) (hk : k < m ∨ n ≤ k) (a b : Value) : Edges n ((W.setCell ⟨k, 0, none⟩ a).setCell ⟨k, 1, none⟩ b) sv l := by
  rcases h with h | ⟨g, off, cap, h1, h2, h3, h4⟩
  · exact .inl h
  · refine .inr ⟨g, off, cap, h1, h2, h3, fun j x hx => ?_⟩
    have hj := (List.getElem?_eq_some_iff.1 hx).1
    have hb := ha _ _ _ h1 (by omega)
    simp only at hb
    obtain ⟨k0, k1, k2⟩ := h4 j x hx
    have hne : ∀ o i, (⟨k, i, none⟩ : Addr) ≠ ⟨g, o, none⟩ := fun o i e => by have he : k = g := congrArg Addr.block e; omega
    have hw : ∀ o, ((W.setCell ⟨k, 0, none⟩ a).setCell ⟨k, 1, none⟩ b).cell? ⟨g, o, none⟩ = W.cell? ⟨g, o, none⟩ := fun o => (World.cell?_setCell_other _ _ _ _ (hne o 1)).trans (World.cell?_setCell_other _ _ _ _ (hne o 0))
    exact ⟨(hw _).trans k0, (hw _).trans k1, (hw _).trans k2⟩
theorem Edges.allocK {n : Nat} {W : World} {sv : Value} {l : List Ed} (h : Edges n W sv l) (hn : n ≤ W.heap.size) (o : Obj) : Edges n (W.alloc o) sv l := h.below ((Below.refl _ _).alloc hn o)
theorem Edges.belowK {n : Nat} {W W' : World} {sv : Value} {l : List Ed} (h : Edges n W sv l) (hb : Below W.heap.size W W') (hn : n ≤ W.heap.size) : Edges n W' sv l := h.below (hb.mono hn)

theorem blk_new (W : World) (v0 v1 : Value) (t : TypeId) : Blk t (W.alloc (.cells #[v0, v1] t)) W.heap.size [v0, v1] := heap_alloc_new W _
theorem blk_old {W : World} {t : TypeId} {k : Nat} {vs : List Value} (h : Blk t W k vs) (o : Obj) : Blk t (W.alloc o) k vs := h.go ((Below.refl _ _).alloc (Nat.le_refl _) o)
/-- What stands behind the region that takes the edges away. -/
def R10 (wr : World) (X Y : List Ed) (F : Nat → Nat → Value → Value → Value → Value → Value → Value → Act) (a' : Act) (w' : World) : Prop := ∃ k8 k9 xv yv z52 z53 z54 z55 z56 z57, a' = F k8 k9 z52 z53 z54 z55 z56 z57 ∧ w'.cell? ⟨k8, 1, none⟩ = some xv ∧ w'.cell? ⟨k9, 1, none⟩ = some yv ∧ Edges w'.heap.size w' xv X ∧ Edges w'.heap.size w' yv Y ∧ Below wr.heap.size wr w'
theorem form_of {W : World} {base : Nat} {e : TypeId} {size : Nat} {v : Value} {n : Nat} {xs : List Value} (h : W.ownsRow base e size v n xs) : ∃ p c, v = .slice p n c := by
  rcases h.2 with ⟨rfl, rfl⟩ | ⟨g, cap, cur, rfl, _⟩ <;> exact ⟨_, _, rfl⟩
theorem blk_grown {t : TypeId} {A B : World} {g : Nat} {vs : List Value} {row : Option Nat} (h : Blk t A g vs) (hg : A.grownBy B row) (hne : some g ≠ row) : Blk t B g vs := (hg.block g h.lt hne).trans h
theorem flat_app (xs ys : List Ed) : flat (xs ++ ys) = flat xs ++ flat ys := by simp [flat]
section
variable {ops : Array Oper} {o : Oper} {a : Act} {w : World} {K : Act → World → Prop} {Q : Exit → Act → World → Prop} {E : Prop}
/-- append of edges, upon a row that the call owns, as one step of a region that draws its order. -/
theorem step_append_edges (hgd : o.guard = none) (s x : Operand) (ho : o.op = .call { callee := .builtin .append, args := #[s, x], argTypes := #[22, 22] })
    (w7 : World) (hS : Below w7.heap.size w7 w) (xs : List Ed) (v : Value) (hs : a.eval s = v) (hown : w.ownsRow w7.heap.size 33 3 v xs.length (flat xs))
    (ys : List Ed) (yv : Value) (hx : a.eval x = yv) (hy : Edges w7.heap.size w7 yv ys) (zs : List Ed) (hz : xs ++ ys = zs) (hlen : xs.length + ys.length ≤ 1000000)
    (h : ∀ p c w', w'.ownsRow w7.heap.size 33 3 (.slice p zs.length c) zs.length (flat zs) → Below w7.heap.size w7 w' → (∀ t k vs, Blk t w k vs → v.ownBlock ≠ some k → Blk t w' k vs ∧ (Value.slice p zs.length c).ownBlock ≠ some k) → K (a.put o.dst (.slice p zs.length c)) w') :
    if Region.wanted o (yielded ops a.tmps) = true then Oper.wp Try.prog o a w K Q else E := by
  subst hz
  obtain ⟨i0, hi, hz0, hz1, hz2⟩ := info_parts infoE
  refine step_append_src hgd s x 22 ho w7.heap.size 33 i0 (.agg #[.int .i64 0, .int .i64 0, .int .i64 0]) 3 24 Try.underlying22 hi hz0 hz1 hz2 (by simp [Value.cells]) (by decide) v xs.length (flat xs) hs hown yv ys.length (flat ys) hx (hy.go hS).src (by unfold maxLen; omega) (by omega) hS.size ?_
  intro v' w' h1 h2 h3
  rw [← flat_app, ← List.length_append] at h1
  obtain ⟨p, c, rfl⟩ := form_of h1
  refine h p c w' h1 (hS.grown h2 hS.size (fun k e => (hown.lt k e).1)) (fun t k vs hB hne => ⟨blk_grown hB h2 (Ne.symm hne), fun e => ?_⟩)
  rcases h3 with h3 | h3
  · exact hne (h3 ▸ e)
  · rw [h3] at e
    have := hB.lt
    simp only [Option.some.injEq] at e
    omega
theorem step_append_ints (hgd : o.guard = none) (s x : Operand) (ho : o.op = .call { callee := .builtin .append, args := #[s, x], argTypes := #[25, 25] })
    (w7 : World) (hS : Below w7.heap.size w7 w) (xs : List Int) (v : Value) (hs : a.eval s = v) (hown : w.ownsRow w7.heap.size 3 1 v xs.length (xs.map (Value.int .i64)))
    (ys : List Int) (yv : Value) (hx : a.eval x = yv) (hy : Ints w7.heap.size w7 yv ys) (zs : List Int) (hz : xs ++ ys = zs) (hlen : xs.length + ys.length ≤ 1000000)
    (h : ∀ p c w', w'.ownsRow w7.heap.size 3 1 (.slice p zs.length c) zs.length (zs.map (Value.int .i64)) → Below w7.heap.size w7 w' → K (a.put o.dst (.slice p zs.length c)) w') :
    if Region.wanted o (yielded ops a.tmps) = true then Oper.wp Try.prog o a w K Q else E := by
  subst hz
  obtain ⟨i0, hi, hz0, hz1, hz2⟩ := info_parts infoN
  refine step_append_src hgd s x 25 ho w7.heap.size 3 i0 (.int .i64 0) 1 8 Try.underlying25 hi hz0 hz1 hz2 (by simp [Value.cells]) (by decide) v xs.length (xs.map (Value.int .i64)) hs hown yv ys.length (ys.map (Value.int .i64)) hx (Ints.src (Vals.go hy hS)) (by unfold maxLen; omega) (by omega) hS.size ?_
  intro v' w' h1 h2 h3
  rw [← List.map_append, ← List.length_append] at h1
  obtain ⟨p, c, rfl⟩ := form_of h1
  exact h p c w' h1 (hS.grown h2 hS.size (fun k e => (hown.lt k e).1))
end
theorem own0 (W : World) : (W.alloc (.cells #[] 33)).drew.ownsRow W.heap.size 33 3 (.slice (some ⟨W.heap.size, 0, none⟩) 0 0) ([] : List Ed).length (flat []) := owns_empty (w := (W.alloc (.cells #[] 33)).drew) (heap_alloc_new W _) (Nat.le_refl _)
theorem own0a (W : World) (o : Obj) : ((W.alloc (.cells #[] 33)).alloc o).drew.ownsRow W.heap.size 33 3 (.slice (some ⟨W.heap.size, 0, none⟩) 0 0) ([] : List Ed).length (flat []) := (owns_empty (w := W.alloc (.cells #[] 33)) (heap_alloc_new W _) (Nat.le_refl _)).alloc o
theorem own1 (W : World) (o : Obj) : ((W.alloc o).alloc (.cells #[] 33)).drew.ownsRow W.heap.size 33 3 (.slice (some ⟨W.heap.size + 1, 0, none⟩) 0 0) ([] : List Ed).length (flat []) := by
  have e : (W.alloc o).heap.size = W.heap.size + 1 := by simp
  rw [← e]
  exact owns_empty (w := ((W.alloc o).alloc (.cells #[] 33)).drew) (heap_alloc_new (W.alloc o) _) (by simp)
theorem own0I (W : World) : (W.alloc (.cells #[] 3)).drew.ownsRow W.heap.size 3 1 (.slice (some ⟨W.heap.size, 0, none⟩) 0 0) ([] : List Int).length (([] : List Int).map (Value.int .i64)) := ⟨rfl, .inr ⟨W.heap.size, 0, #[], rfl, Nat.le_refl _, heap_alloc_new W _, Nat.le_refl _, Nat.zero_le _, rfl, rfl⟩⟩
theorem own0X {W W7 : World} (h : W.ownsRow W7.heap.size 33 3 (.slice (some ⟨W7.heap.size, 0, none⟩) 0 0) ([] : List Ed).length (flat [])) (o : Obj) : (W.alloc o).ownsRow W7.heap.size 33 3 (.slice (some ⟨W7.heap.size, 0, none⟩) 0 0) ([] : List Ed).length (flat []) := h.alloc o
theorem keepS3 {wr W : World} {a0 a1 a2 : Addr} {v0 v1 v2 : Value} (d0 : wr.cell? a0 = some v0) (d1 : wr.cell? a1 = some v1) (d2 : wr.cell? a2 = some v2) (h : Below wr.heap.size wr W) : W.cell? a0 = some v0 ∧ W.cell? a1 = some v1 ∧ W.cell? a2 = some v2 ∧ Below wr.heap.size wr W := ⟨cell_keep h d0, cell_keep h d1, cell_keep h d2, h⟩
/-- What stands behind the region that makes the graph again. -/
def R11 (w7 : World) (n : Int) (l : List Ed) (F : Nat → Value → Value → Value → Value → Value → Value → Value → Value → Value → Value → Value → Value → Value → Act) (a' : Act) (w' : World) : Prop := ∃ k10 gv z58 z59 z60 z61 z62 z63 z64 z65 z66 z67 z68 z69 z70, a' = F k10 z58 z59 z60 z61 z62 z63 z64 z65 z66 z67 z68 z69 z70 ∧ w'.cell? ⟨k10, 0, none⟩ = some (.int .i64 n) ∧ w'.cell? ⟨k10, 1, none⟩ = some gv ∧ Edges w'.heap.size w' gv l ∧ Below w7.heap.size w7 w'
theorem wgtV_bound {n : Int} {l : List Ed} (hR : RightG n l) (a : List Int) : -2147483648 * (a.length : Int) ≤ wgtV n l a ∧ wgtV n l a ≤ 2147483648 * (a.length : Int) := by
  have h := sumW_bound hR a a.length (Nat.le_refl _)
  unfold wgtV wV
  split
  · split
    · exact h
    · omega
  · omega

end Go.Proofs.Ytkniphmjiepkaab
