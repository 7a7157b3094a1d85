/-
  Appends of numbers, in a region that draws: parts of a list that came in.
-/
import Derived.Test.YtgjaikekpgdehaaQD
import Derived.Test.YtgjaikekpgdehaaXGAppSrc
namespace Go.Proofs.Ytgjaikekpgdehaa
open Go Go.Proofs Go.RowKit

theorem infoNK : (Try.prog.info? 3).map (fun i => (i.zero, i.size, i.bytes)) = some (some (.int .i64 0), 1, 8) := by kernel_rfl
theorem Src.intsK {n : Nat} {W : World} {p : Option Addr} {c : Nat} {L : List Int} (h : Ints n W (.slice p L.length c) L) : Src W (.slice p L.length c) L.length 1 (L.map (Value.int .i64)) := by
  by_cases hL : L.length = 0
  · have e : L = [] := List.eq_nil_of_length_eq_zero hL
    subst e
    cases p with
    | none => exact .inl ⟨⟨c, rfl⟩, rfl, rfl⟩
    | some ad => exact .inr ⟨ad, c, rfl, by simp, fun j u hu => by simp at hu, fun u hu => by simp at hu⟩
  · obtain ⟨b, off, rfl, hbb, hcap, hc⟩ := h.open (show 0 < L.length by omega)
    refine .inr ⟨⟨b, off, none⟩, c, rfl, by simp, fun j u hu => ?_, fun u hu => ?_⟩
    · have hj : j < L.length := by simpa using (List.getElem?_eq_some_iff.1 hu).1
      rw [List.getElem?_map, List.getElem?_eq_getElem hj] at hu
      rw [Go.WideShapes.add_plain, hc W (Below.refl _ _) j hj]
      exact hu
    · obtain ⟨x, _, rfl⟩ := List.mem_map.1 hu
      rfl
theorem Src.intsM {n : Nat} {W : World} {p : Option Addr} {c m : Nat} {L : List Int} (hm : L.length = m) (h : Ints n W (.slice p m c) L) : Src W (.slice p m c) L.length 1 (L.map (Value.int .i64)) := by
  subst hm; exact Src.intsK h
/-- The first of a list. -/
theorem slice_to (b off n c k : Nat) (hk : k ≤ n) (hn : n ≤ c) (hc : n ≤ 4194304) (W : World) : (Instr.sliceAt 25 (.slice (some ⟨b, off, none⟩) n c) none (some (.int .i64 (k : Int))) none).run Try.prog W = .ok (.slice (some ⟨b, off, none⟩) k c) W := by
  have ht := Try.underlying25
  have z3 := Try.sizeOf3
  have h1 : (k : Int) ≤ (c : Int) := by omega
  have h2 : k ≤ c := by omega
  by_cases h0 : c = 0
  · subst h0
    obtain rfl : k = 0 := by omega
    go_simp
  · go_simp
theorem ints_take {n : Nat} {W : World} {b off c : Nat} {L : List Int} (h : Ints n W (.slice (some ⟨b, off, none⟩) L.length c) L) {k : Nat} (hk : k ≤ L.length) : Ints n W (.slice (some ⟨b, off, none⟩) (L.take k).length c) (L.take k) := by
  by_cases h0 : k = 0
  · subst h0; exact .inl ⟨⟨_, _, rfl⟩, rfl⟩
  · obtain ⟨b', off', e, hbb, hcap, hc⟩ := h.open (show 0 < L.length by omega)
    simp only [Option.some.injEq, Addr.mk.injEq, and_true] at e
    obtain ⟨rfl, rfl⟩ := e
    refine .inr ⟨b, off, c, rfl, hbb, by simp; omega, fun j x hx => ?_⟩
    rw [List.getElem?_take] at hx
    split at hx
    · obtain ⟨hj, rfl⟩ := List.getElem?_eq_some_iff.1 hx
      exact hc W (Below.refl _ _) j hj
    · cases hx
theorem ints_drop {n : Nat} {W : World} {b off c : Nat} {L : List Int} (h : Ints n W (.slice (some ⟨b, off, none⟩) L.length c) L) {k : Nat} {q : Option Addr} (hq : k < L.length → q = some ⟨b, off + k, none⟩) (hk : k ≤ L.length) : Ints n W (.slice q (L.drop k).length (c - k)) (L.drop k) := by
  by_cases h0 : k = L.length
  · have e : L.drop k = [] := List.drop_eq_nil_of_le (by omega)
    rw [e]
    exact .inl ⟨⟨_, _, rfl⟩, rfl⟩
  · obtain ⟨b', off', e, hbb, hcap, hc⟩ := h.open (show 0 < L.length by omega)
    simp only [Option.some.injEq, Addr.mk.injEq, and_true] at e
    obtain ⟨rfl, rfl⟩ := e
    rw [hq (by omega)]
    refine .inr ⟨b, off + k, c - k, rfl, hbb, by simp; omega, fun j x hx => ?_⟩
    rw [List.getElem?_drop] at hx
    obtain ⟨hj, rfl⟩ := List.getElem?_eq_some_iff.1 hx
    have := hc W (Below.refl _ _) (k + j) hj
    rw [Nat.add_assoc]
    exact this
theorem one_srcK (W : World) (x : Int) : Src (W.alloc (.cells #[.int .i64 x] 3)) (.slice (some ⟨W.heap.size, 0, none⟩) 1 1) [x].length 1 ([x].map (Value.int .i64)) := .inr ⟨⟨W.heap.size, 0, none⟩, 1, rfl, rfl, one_cellK W (.int .i64 x) 3, fun z hz => by rw [List.mem_singleton.1 hz]; rfl⟩
theorem blk_news (W : World) (vs : List Value) (t : TypeId) : ∀ (j : Nat) (u : Value), vs[j]? = some u → (W.alloc (.cells vs.toArray t)).cell? ((⟨W.heap.size, 0, none⟩ : Addr).add j) = some u := by
  intro j u hu
  rw [Go.WideShapes.add_plain, Nat.zero_add]
  have h : Blk t (W.alloc (.cells vs.toArray t)) W.heap.size vs := heap_alloc_new W _
  exact h.cell hu
theorem own0K (W : World) : (W.alloc (.cells #[] 3)).ownsRow W.heap.size 3 1 (.slice (some ⟨W.heap.size, 0, none⟩) 0 0) ([] : List Int).length (([] : List Int).map (Value.int .i64)) := ⟨rfl, .inr ⟨W.heap.size, 0, #[], rfl, Nat.le_refl _, heap_alloc_new W _, Nat.le_refl _, Nat.zero_le _, rfl, rfl⟩⟩
theorem own1K (W : World) (o : Obj) : ((W.alloc o).alloc (.cells #[] 3)).ownsRow W.heap.size 3 1 (.slice (some ⟨W.heap.size + 1, 0, none⟩) 0 0) ([] : List Int).length (([] : List Int).map (Value.int .i64)) := by
  have h := heap_alloc_new (W.alloc o) (.cells #[] 3)
  rw [World.size_alloc] at h
  exact ⟨rfl, .inr ⟨W.heap.size + 1, 0, #[], rfl, by omega, h, Nat.le_refl _, Nat.zero_le _, rfl, rfl⟩⟩
theorem src_alloc {W : World} {b m c size : Nat} {news : List Value} (h : Src W (.slice (some ⟨b, 0, none⟩) m c) m size news) (o : Obj) : Src (W.alloc o) (.slice (some ⟨b, 0, none⟩) m c) m size news := by
  rcases h with ⟨⟨c', e⟩, _⟩ | ⟨ad, c', e, h1, h2, h3⟩
  · cases e
  · refine .inr ⟨ad, c', e, h1, fun j u hu => ?_, h3⟩
    exact cell_keep ((Below.refl _ _).alloc (Nat.le_refl _) o) (h2 j u hu)
theorem src_grown {A B : World} {r : Option Nat} {b m c size : Nat} {news : List Value} (h : Src A (.slice (some ⟨b, 0, none⟩) m c) m size news) (hg : A.grownBy B r) (hne : some b ≠ r) : Src B (.slice (some ⟨b, 0, none⟩) m c) m size news := by
  rcases h with ⟨⟨c', e⟩, _⟩ | ⟨ad, c', e, h1, h2, h3⟩
  · cases e
  · refine .inr ⟨ad, c', e, h1, fun j u hu => ?_, h3⟩
    have hc := h2 j u hu
    simp only [Value.slice.injEq, Option.some.injEq] at e
    obtain ⟨rfl, _, _⟩ := e
    rw [Go.WideShapes.add_plain] at hc ⊢
    have hlt := World.block_lt_of_cell? A _ hc
    have hb := hg.block b hlt hne
    unfold World.cell? at *
    simp only at *
    rw [hb]
    exact hc
section
variable {ops : Array Oper} {o : Oper} {a : Act} {w : World} {K : Act → World → Prop} {Q : Exit → Act → World → Prop} {E : Prop}
/-- append of numbers upon a row that the call owns, as one step of a region that draws its order. -/
theorem step_appK (hgd : o.guard = none) (s x : Operand) (ho : o.op = .call { callee := .builtin .append, args := #[s, x], argTypes := #[25, 25] })
    (w7 : World) (hS : Below w7.heap.size w7 w) (xs : List Int) (v : Value) (hs : a.eval s = v) (hown : w.ownsRow w7.heap.size 3 1 v xs.length (xs.map (Value.int .i64)))
    (ys : List Int) (yv : Value) (hx : a.eval x = yv) (hy : Src w yv ys.length 1 (ys.map (Value.int .i64))) (zs : List Int) (hz : xs ++ ys = zs) (hlen : xs.length + ys.length ≤ 1000000)
    (h : ∀ p c w', w'.ownsRow w7.heap.size 3 1 (.slice p zs.length c) zs.length (zs.map (Value.int .i64)) → Below w7.heap.size w7 w' → w.grownBy w' v.ownBlock → K (a.put o.dst (.slice p zs.length c)) w') :
    if Region.wanted o (yielded ops a.tmps) = true then Oper.wp Try.prog o a w K Q else E := by
  subst hz
  obtain ⟨i0, hi, hz0, hz1, hz2⟩ := info_parts infoNK
  refine step_append_src hgd s x 25 ho w7.heap.size 3 i0 (.int .i64 0) 1 8 Try.underlying25 hi hz0 hz1 hz2 (by simp [Value.cells]) (by decide) v xs.length (xs.map (Value.int .i64)) hs hown yv ys.length (ys.map (Value.int .i64)) hx hy (by unfold maxLen; omega) (by omega) hS.size ?_
  intro v' w' h1 h2 h3
  rw [← List.map_append, ← List.length_append] at h1
  obtain ⟨p, c, rfl⟩ := owns_form h1
  exact h p c w' h1 (hS.grown h2 hS.size (fun k e => (hown.lt k e).1)) h2
end
end Go.Proofs.Ytgjaikekpgdehaa
