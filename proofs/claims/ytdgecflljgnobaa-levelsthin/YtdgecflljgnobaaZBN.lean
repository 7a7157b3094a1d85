/-
  The contracts of parts.Components, Blocks, Cuts, Bridges, as the walk's model tells them.
-/
import Derived.Test.YtdgecflljgnobaaXPWalked
import Derived.Test.YtdgecflljgnobaaXPOkM
import Derived.Deep.AppendLies
import Derived.OwnWalk
import Derived.Maps.AppendAt
import Derived.Test.YtdgecflljgnobaaXPLsts
namespace Go.Proofs.Ytdgecflljgnobaa
open Go Go.Proofs Go.RowKit

theorem owns_intsP {W : World} {base : Nat} {v : Value} {xs : List Int} (h : W.ownsRow base 3 1 v xs.length (xs.map (Value.int .i64))) : Ints W.heap.size W v xs := by
  rcases h.2 with ⟨h1, h2⟩ | ⟨g, cap, cur, h1, h2, h3, h4, h5, h6, h7⟩
  · exact .inl ⟨⟨_, _, h1⟩, List.length_eq_zero_iff.1 h2⟩
  · subst h1
    refine .inr ⟨g, 0, cap, rfl, (Array.getElem?_eq_some_iff.1 h3).1, h4, fun j x hx => ?_⟩
    have hj := (List.getElem?_eq_some_iff.1 hx).1
    rw [Nat.zero_add, h.cellAt j (by omega), List.getElem?_map, hx]
    rfl

set_option maxRecDepth 100000 in
set_option maxHeartbeats 4000000 in
theorem components_at (N : Nat) (l : List Ed) (hR : RightG (N : Int) l) (hLb : Labels (walkW N l).root) (hln : (walkW N l).root.length = N) (sv : Value) (w : World) (hl : Edges w.heap.size w sv l) :
    Calls Try.prog 28 #[.agg #[.int .i64 (N : Int), sv]] w fun r w' => ∃ lv svs h0, r = .returned lv ∧ Grp h0 lv svs (gath (walkW N l).root (walkW N l).root.length).2 w' ∧ Below w.heap.size w w' ∧ w.heap.size ≤ h0 := by
  have hg1 : Grew w (w.alloc (.cells #[.int .i64 (N : Int), sv] 24)) := (Grew.refl w).alloc _
  have hl1 := hl.go hg1.below
  obtain ⟨p, c, rfl⟩ := hl.len
  have hrc := fun W h => right_any (N : Int) l (.slice p l.length c) W h
  rw [right_iff.2 hR] at hrc
  have hn1 := hR.n1
  have hm1 := hR.m1
  go_enter Try.func28, Try.ntmps28
  go_wp2_with fail
  refine (hrc _ hl1).mono ?_
  rintro e w2 ⟨rfl, hg2⟩
  have q0 := (box2 _ hg2).1
  have q1 := (box2 _ hg2).2
  have hbox := box2_lt hg2
  have hbw := (hg1.trans hg2).below
  clear hrc hl1
  go_wp2_with fail
  refine (walked_any N l hR _ _ (hl.go hbw)).mono ?_
  rintro e w3 ⟨a, lv, pv, ov, rfl, aN, aM, hLay, hW, hLK, hF, hh, hb3⟩
  have b := hW.blk.cell (j := 1) rfl
  have hI := hW.root.ints
  rw [hln] at hI
  rw [aN] at b
  have hga := fun W (hb : Below w3.heap.size w3 W) => gathered_at (walkW N l).root hLb (by rw [hln]; omega) _ W (hI.go hb)
  have hbw3 := hbw.trans (hb3.mono hbw.size)
  clear hW hLK hF hI
  go_wp2_with fail
  refine (hga _ (Below.refl _ _)).mono ?_
  rintro e w4 ⟨lv4, svs, h0, rfl, hG, hb4, hh4⟩
  have HG : Hid _ := hG
  have HB : Hid _ := hbw3.trans (hb4.mono hbw3.size)
  have HH : Hid (w.heap.size ≤ h0) := Nat.le_trans hbw3.size hh4
  clear hG hb4 hga hh4
  go_wp2
  go_ret
  exact ⟨lv4, svs, h0, rfl, HG.out, HB.out, HH.out⟩

theorem components_any (N : Nat) (l : List Ed) (hR : RightG (N : Int) l) (hLb : Labels (walkW N l).root) (hln : (walkW N l).root.length = N) (sv : Value) (w : World) (hl : Edges w.heap.size w sv l) :
    Calls Try.prog 28 #[.agg #[.int .i64 (N : Int), sv]] w fun r w' => ∃ lv svs h0, r = .returned lv ∧ Grp h0 lv svs (gath (walkW N l).root (walkW N l).root.length).2 w' ∧ Below w.heap.size w w' :=
  (components_at N l hR hLb hln sv w hl).mono fun _ _ ⟨a, b, c, h1, h2, h3, _⟩ => ⟨a, b, c, h1, h2, h3⟩

set_option maxRecDepth 100000 in
set_option maxHeartbeats 2000000 in
theorem components_bad (n : Int) (l : List Ed) (hR : rightK n l ≠ 0) (sv : Value) (w : World) (hl : Edges w.heap.size w sv l) :
    Calls Try.prog 28 #[.agg #[.int .i64 n, sv]] w fun r w' => r = .returned (.slice none 0 0) ∧ Below w.heap.size w w' := by
  have hg1 : Grew w (w.alloc (.cells #[.int .i64 n, sv] 24)) := (Grew.refl w).alloc _
  have hl1 := hl.go hg1.below
  obtain ⟨p, c, rfl⟩ := hl.len
  have hrc := fun W h => right_any n l (.slice p l.length c) W h
  go_enter Try.func28, Try.ntmps28
  go_wp2_with fail
  refine (hrc _ hl1).mono ?_
  rintro e w2 ⟨rfl, hg2⟩
  have hbw := (hg1.trans hg2).below
  clear hrc hl1
  generalize rightK n l = k at *
  go_wp2
  go_ret
  exact ⟨rfl, hbw⟩

end Go.Proofs.Ytdgecflljgnobaa

namespace Go.Proofs.Ytdgecflljgnobaa
open Go Go.Proofs Go.RowKit

theorem infoE : (Try.prog.info? 47).map (fun i => (i.zero, i.size, i.bytes)) = some (some (.agg #[.int .i64 0, .int .i64 0, .int .i64 0]), 3, 24) := by kernel_rfl


theorem owns_below {w w' : World} {base : Nat} {e : TypeId} {size : Nat} {v : Value} {n : Nat} {xs : List Value} (h : w.ownsRow base e size v n xs) (hb : Below w.heap.size w w') : w'.ownsRow base e size v n xs := by
  refine h.kept (row := none) (⟨hb.os, hb.tape, hb.output, hb.size, fun k hk _ => hb.block k hk⟩ : w.grownBy w' none) ?_
  cases v.ownBlock with
  | none => exact .inl rfl
  | some k => exact .inr (by simp)
theorem Edges.of_owns {W : World} {base : Nat} {e : TypeId} {v : Value} {l : List Ed} (h : W.ownsRow base e 3 v l.length (flat l)) : Edges W.heap.size W v l := by
  rcases h.2 with ⟨rfl, h0⟩ | ⟨g, cap, cur, rfl, hb, hg, hn, hc⟩
  · exact .inl ⟨⟨_, _, rfl⟩, List.eq_nil_of_length_eq_zero h0⟩
  · refine .inr ⟨g, 0, cap, rfl, (Array.getElem?_eq_some_iff.1 hg).1, hn, fun j x hx => ?_⟩
    obtain ⟨k0, k1, k2⟩ := flat_at hx
    have c0 := h.cells (g := g) rfl (j * 3) _ k0
    have c1 := h.cells (g := g) rfl (j * 3 + 1) _ k1
    have c2 := h.cells (g := g) rfl (j * 3 + 2) _ k2
    rw [Go.WideShapes.add_plain] at c0 c1 c2
    exact ⟨c0, c1, c2⟩
/-- A slice's block is none of those below n. -/
def Above (n : Nat) (sv : Value) : Prop := ∀ a len c, sv = .slice (some a) len c → 0 < len → n ≤ a.block
theorem Above.of_owns {W : World} {base : Nat} {e : TypeId} {size : Nat} {v : Value} {n : Nat} {xs : List Value} (h : W.ownsRow base e size v n xs) : Above base v := by
  intro a len c hv _
  rcases h.2 with ⟨h1, _⟩ | ⟨g, cap, cur, h1, hb, _⟩
  · rw [h1] at hv; cases hv
  · rw [h1] at hv
    simp only [Value.slice.injEq, Option.some.injEq] at hv
    rw [← hv.1]; exact hb
theorem Edges.setLow {W : World} {n : Nat} {sv : Value} {l : List Ed} (h : Edges W.heap.size W sv l) (ha : Above n sv) {p : Addr} (hp : p.block < n) (v : Value) : Edges (W.setCell p v).heap.size (W.setCell p v) sv l := by
  rcases h with h | ⟨b, off, cap, h1, h2, h3, h4⟩
  · exact .inl h
  · refine .inr ⟨b, off, cap, h1, by simpa using h2, h3, fun j x hx => ?_⟩
    have hj := (List.getElem?_eq_some_iff.1 hx).1
    have hb := ha _ _ _ h1 (by omega)
    simp only at hb
    obtain ⟨k0, k1, k2⟩ := h4 j x hx
    have hne : ∀ o, p ≠ ⟨b, o, none⟩ := fun o e => by rw [e] at hp; simp at hp; omega
    exact ⟨(World.cell?_setCell_other _ _ _ _ (hne _)).trans k0, (World.cell?_setCell_other _ _ _ _ (hne _)).trans k1, (World.cell?_setCell_other _ _ _ _ (hne _)).trans k2⟩
theorem news3 {w : World} {t : TypeId} (e : Ed) : ∀ (i : Nat) (u : Value), (encE e)[i]? = some u → (w.alloc (.cells #[.int .i64 e.1, .int .i64 e.2.1, .int .i64 e.2.2] t)).cell? ((⟨w.heap.size, 0, none⟩ : Addr).add i) = some u := by
  intro i u hu
  rw [Go.WideShapes.add_plain, Nat.zero_add]
  match i with
  | 0 => simp [encE] at hu; subst hu; simp
  | 1 => simp [encE] at hu; subst hu; simp
  | 2 => simp [encE] at hu; subst hu; simp
  | i + 3 => simp [encE] at hu
theorem one3 (e : Ed) : ∀ u ∈ encE e, u.oneCell' = true := by
  intro u hu
  simp [encE] at hu
  rcases hu with rfl | rfl | rfl <;> rfl
theorem flat_snoc (l : List Ed) (e : Ed) : flat (l ++ [e]) = flat l ++ encE e := by simp [flat]
theorem owns_none (w : World) (base : Nat) (e : TypeId) : w.ownsRow base e 3 (.slice none 0 0) 0 (flat []) := World.ownsRow_nil w base e 3
theorem ret_graph1 {fn : Func} {p : Tmp} (h : fn.results = #[.cell p 24]) {tmps : Array Value} {w : World} {b : Nat} {x y : Value} (hp : tmps.getD p undef = .pointer (some ⟨b, 0, none⟩)) (h0 : w.cell? ⟨b, 0, none⟩ = some x) (h1 : w.cell? ⟨b, 1, none⟩ = some y) :
    (results fn tmps).run Try.prog w = .ok (.agg #[x, y]) w := by
  have a1 := Try.isAgg24
  have a2 := Try.sizeOf24
  rw [Array.getD_eq_getD_getElem?] at hp
  simp only [results, h]
  simp [Sem.run_bind, Result.andThen, hp]
  go_simp

theorem owns_form {W : World} {base : Nat} {e : TypeId} {size : Nat} {v : Value} {n : Nat} {xs : List Value} (h : W.ownsRow base e size v n xs) : ∃ p c, v = .slice p n c := by
  rcases h.2 with ⟨rfl, rfl⟩ | ⟨g, cap, cur, rfl, _⟩ <;> exact ⟨_, _, rfl⟩
theorem Blk.grown {t : TypeId} {A B : World} {g : Nat} {vs : List Value} {row : Option Nat} (h : Blk t A g vs) (hg : A.grownBy B row) (hne : some g ≠ row) : Blk t B g vs := (hg.block g h.lt hne).trans h
theorem owns_set {W : World} {base : Nat} {e : TypeId} {size : Nat} {v : Value} {n : Nat} {xs : List Value} (h : W.ownsRow base e size v n xs) {p : Addr} (hp : p.block < base) (u : Value) : (W.setCell p u).ownsRow base e size v n xs := by
  obtain ⟨h1, h2⟩ := h
  refine ⟨h1, ?_⟩
  rcases h2 with h2 | ⟨g, cap, cur, hv, hb, hg, r⟩
  · exact .inl h2
  · exact .inr ⟨g, cap, cur, hv, hb, (Below.heap_setCell _ _ _ _ (by omega)).trans hg, r⟩
end Go.Proofs.Ytdgecflljgnobaa
