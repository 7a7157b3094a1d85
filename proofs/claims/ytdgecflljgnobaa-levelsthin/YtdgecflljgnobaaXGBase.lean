/-
  Edges in memory, and the contracts of the small functions: cmp.Compare, cmp.Or, graph.byEnds, graph.sized, graph.fits, graph.rises, and the reference's many, edge, below.
-/
import Derived.WalkKit
import Derived.Deep.QuietTactic
import Derived.BigQuiet
import Derived.BigRegion
import Derived.Deep.RegionWith
import Derived.Deep.RegionHeld3
import Derived.Shelf.SlSortCmp.QuietGrown
import Derived.Test.YtdgecflljgnobaaProg
import Derived.Test.YtdgecflljgnobaaXGMath
namespace Go.Proofs.Ytdgecflljgnobaa
open Go Go.Proofs Go.RowKit

def Hid (p : Prop) : Prop := p
theorem Hid.out {p : Prop} (h : Hid p) : p := h

/-- Some draws, some new blocks, and nothing else. -/
def Grew (w w' : World) : Prop := ∃ q os, w' = Go.Sort.grow (w.drewN q) os
theorem Grew.refl (w : World) : Grew w w := ⟨0, #[], by rw [Go.Sort.grow_empty]; rfl⟩
theorem Grew.trans {a b c : World} (h : Grew a b) (h' : Grew b c) : Grew a c := by
  obtain ⟨q, os, rfl⟩ := h
  obtain ⟨q', os', rfl⟩ := h'
  exact ⟨q + q', os ++ os', by show Go.Sort.grow (Go.Sort.grow ((a.drewN q).drewN q') os) os' = _; rw [Go.Sort.grow_grow, World.drewN_drewN]⟩
theorem Grew.alloc {a b : World} (h : Grew a b) (o : Obj) : Grew a (b.alloc o) := h.trans ⟨0, #[o], by rw [Go.Sort.alloc_eq_grow]; rfl⟩
theorem Grew.drewN {a b : World} (h : Grew a b) (k : Nat) : Grew a (b.drewN k) := h.trans ⟨k, #[], by rw [Go.Sort.grow_empty]⟩
theorem Grew.below {w w' : World} (h : Grew w w') : Below w.heap.size w w' := by
  obtain ⟨q, os, rfl⟩ := h
  exact ⟨rfl, rfl, rfl, by simp [Go.Sort.grow, World.drewN], fun k hk => by simp [Go.Sort.grow, World.drewN, Array.getElem?_append_left hk]⟩
theorem below_drewN {B : Nat} {a w : World} (h : Below B a w) (k : Nat) : Below B a (w.drewN k) := ⟨h.os, h.tape, h.output, h.size, h.block⟩

abbrev edV (e : Ed) : Value := .agg #[.int .i64 e.1, .int .i64 e.2.1, .int .i64 e.2.2]
def encE (e : Ed) : List Value := [.int .i64 e.1, .int .i64 e.2.1, .int .i64 e.2.2]

/-- A slice of edges that lies below block n, as a list. -/
def Edges (n : Nat) (W : World) (sv : Value) (l : List Ed) : Prop :=
  ((∃ p c, sv = .slice p 0 c) ∧ l = []) ∨ ∃ b off cap, sv = .slice (some ⟨b, off, none⟩) l.length cap ∧ b < n ∧ l.length ≤ cap ∧
    ∀ j x, l[j]? = some x → W.cell? ⟨b, off + j * 3, none⟩ = some (.int .i64 x.1) ∧ W.cell? ⟨b, off + j * 3 + 1, none⟩ = some (.int .i64 x.2.1) ∧ W.cell? ⟨b, off + j * 3 + 2, none⟩ = some (.int .i64 x.2.2)
theorem Edges.below {n : Nat} {W W' : World} {sv : Value} {l : List Ed} (h : Edges n W sv l) (hb : Below n W W') : Edges n W' sv l := by
  rcases h with h | ⟨b, off, cap, h1, h2, h3, h4⟩
  · exact .inl h
  · exact .inr ⟨b, off, cap, h1, h2, h3, fun j x hx => ⟨(hb.cell (p := ⟨b, _, none⟩) h2).trans (h4 j x hx).1, (hb.cell (p := ⟨b, _, none⟩) h2).trans (h4 j x hx).2.1, (hb.cell (p := ⟨b, _, none⟩) h2).trans (h4 j x hx).2.2⟩⟩
theorem Edges.mono {n m : Nat} {W : World} {sv : Value} {l : List Ed} (h : Edges n W sv l) (hb : n ≤ m) : Edges m W sv l := by
  rcases h with h | ⟨b, off, cap, h1, h2, h3, h4⟩
  · exact .inl h
  · exact .inr ⟨b, off, cap, h1, Nat.lt_of_lt_of_le h2 hb, h3, h4⟩
theorem Edges.go {W W' : World} {sv : Value} {l : List Ed} (h : Edges W.heap.size W sv l) (hb : Below W.heap.size W W') : Edges W'.heap.size W' sv l := (h.below hb).mono hb.size
theorem Edges.len {n : Nat} {W : World} {sv : Value} {l : List Ed} (h : Edges n W sv l) : ∃ p c, sv = .slice p l.length c := by
  rcases h with ⟨⟨p, c, rfl⟩, rfl⟩ | ⟨b, off, cap, rfl, _⟩ <;> exact ⟨_, _, rfl⟩
theorem Edges.nil (n : Nat) (W : World) (p : Option Addr) (c : Nat) : Edges n W (.slice p 0 c) [] := .inl ⟨⟨_, _, rfl⟩, rfl⟩

theorem new_cell {w : World} {cs : Array Value} {t : TypeId} {k i : Nat} {v : Value} (hk : k = w.heap.size) (hv : cs[i]? = some v) : (w.alloc (.cells cs t)).cell? ⟨k, i, none⟩ = some v := by
  rw [World.cell?_alloc_at _ _ _ _ hk, hv]

def cmpI (a b : Int) : Int := Lib.compareInt a b
set_option maxRecDepth 100000 in
theorem compare_any (a b : Int) (w : World) : Calls Try.prog 49 #[.int .i64 a, .int .i64 b] w fun e w' => e = .returned (.int .i64 (cmpI a b)) ∧ w' = w := by
  unfold cmpI Lib.compareInt
  have h60 : ∀ (x : Int) W, Calls Try.prog 52 #[.int .i64 x] W fun e w' => e = .returned (.bool false) ∧ w' = W := by
    intro x W
    go_enter Try.func52, Try.ntmps52
    go_wp2
    go_ret
    exact ⟨by simp, rfl⟩
  by_cases h1 : a < b
  · rw [if_pos h1]
    go_enter Try.func49, Try.ntmps49
    go_wp2_with (go_at_call 52; refine (h60 _ _).mono ?_; rintro e w' ⟨rfl, rfl⟩)
    go_ret
    exact ⟨rfl, rfl⟩
  · by_cases h2 : b < a
    · rw [if_neg h1, if_pos h2]
      go_enter Try.func49, Try.ntmps49
      go_wp2_with (go_at_call 52; refine (h60 _ _).mono ?_; rintro e w' ⟨rfl, rfl⟩)
      go_ret
      exact ⟨rfl, rfl⟩
    · rw [if_neg h1, if_neg h2]
      go_enter Try.func49, Try.ntmps49
      go_wp2_with (go_at_call 52; refine (h60 _ _).mono ?_; rintro e w' ⟨rfl, rfl⟩)
      go_ret
      exact ⟨rfl, rfl⟩

def orI (x y : Int) : Int := if x = 0 then y else x
set_option maxRecDepth 100000 in
theorem or_any (x y : Int) (b : Nat) (w : World) (h0 : w.cell? ⟨b, 0, none⟩ = some (.int .i64 x)) (h1 : w.cell? ⟨b, 1, none⟩ = some (.int .i64 y)) :
    Calls Try.prog 48 #[.slice (some ⟨b, 0, none⟩) 2 2] w fun e w' => e = .returned (.int .i64 (orI x y)) ∧ w' = w := by
  go_enter Try.func48, Try.ntmps48
  go_wp2
  go_loop [8] (fun i => i = .int .i64 0 ∨ (i = .int .i64 1 ∧ x = 0) ∨ (i = .int .i64 2 ∧ x = 0 ∧ y = 0)) (fun i => 2 - (intOf i).toNat)
  case atStart => exact .inl rfl
  case round =>
    rcases hrel with rfl | ⟨rfl, hx⟩ | ⟨rfl, hx, hy⟩
    · by_cases hx : x = 0
      · have hd : decide (x = 0) = true := by simpa using hx
        go_wp2
        exact ⟨.inr (.inl ⟨by go_num, hx⟩), by simp [intOf]⟩
      · have HE : Hid (orI x y = x) := if_neg hx
        go_wp2
        go_ret
        exact ⟨by rw [HE.out]; rfl, rfl⟩
    · have HX : Hid (x = 0) := hx
      clear hx
      by_cases hy : y = 0
      · go_wp2
        exact ⟨.inr (.inr ⟨by go_num, HX.out, hy⟩), by simp [intOf]⟩
      · have HE : Hid (orI x y = y) := if_pos HX.out
        go_wp2
        go_ret
        exact ⟨by rw [HE.out]; rfl, rfl⟩
    · have HE : Hid (orI x y = 0) := by unfold Hid orI; rw [if_pos hx, hy]
      clear hx hy
      go_wp2
      go_ret
      exact ⟨by rw [HE.out]; rfl, rfl⟩

theorem cfE_or (a b : Ed) : cfE a b = orI (cmpI a.1 b.1) (cmpI a.2.1 b.2.1) := rfl

set_option maxRecDepth 100000 in
set_option maxHeartbeats 1000000 in
theorem byEnds_any (a b : Ed) (w : World) : Calls Try.prog 42 #[edV a, edV b] w fun e w' => e = .returned (.int .i64 (cfE a b)) ∧ Grew w w' := by
  rw [cfE_or]
  unfold edV
  obtain ⟨a0, a1, a2⟩ := a
  obtain ⟨b0, b1, b2⟩ := b
  simp only
  go_enter Try.func42, Try.ntmps42
  go_wp2
  go_region_held3 (fun w' => w'.cell? ⟨w.heap.size, 0, none⟩ = some (.int .i64 a0) ∧ w'.cell? ⟨w.heap.size, 1, none⟩ = some (.int .i64 a1) ∧ w'.cell? ⟨w.heap.size + 1, 0, none⟩ = some (.int .i64 b0) ∧ w'.cell? ⟨w.heap.size + 1, 1, none⟩ = some (.int .i64 b1)) (go_keep) (first | (go_at_call 49; refine (compare_any _ _ _).mono ?_; rintro e w' ⟨rfl, rfl⟩) | (go_at_call 48; refine (or_any (cmpI a0 b0) (cmpI a1 b1) _ _ (by simp only [World.cell?_drew]; exact new_cell (by simp) rfl) (by simp only [World.cell?_drew]; exact new_cell (by simp) rfl)).mono ?_; rintro e w' ⟨rfl, rfl⟩))
  go_wp2
  go_ret
  exact ⟨rfl, ((((Grew.refl w).alloc _).alloc _).alloc _).drewN 1⟩

set_option maxRecDepth 100000 in
theorem sized_any (n m : Int) (w : World) : Calls Try.prog 32 #[.int .i64 n, .int .i64 m] w fun e w' => e = .returned (.int .i64 (manyK n m)) ∧ w' = w := by
  unfold manyK
  go_enter Try.func32, Try.ntmps32
  go_wp2
  all_goals go_ret
  all_goals refine ⟨?_, rfl⟩
  all_goals simp

set_option maxRecDepth 100000 in
theorem fits_any (n : Int) (e : Ed) (w : World) : Calls Try.prog 33 #[.int .i64 n, edV e] w fun r w' => r = .returned (.int .i64 (edgeK n e)) ∧ Grew w w' := by
  unfold edgeK edV
  go_enter Try.func33, Try.ntmps33
  go_wp2
  all_goals go_ret
  all_goals refine ⟨?_, (Grew.refl w).alloc _⟩
  all_goals simp
  all_goals (simp_all <;> omega)

set_option maxRecDepth 100000 in
theorem refEdge_any (n : Int) (e : Ed) (w : World) : Calls Try.prog 22 #[.int .i64 n, edV e] w fun r w' => r = .returned (.int .i64 (edgeK n e)) ∧ Grew w w' := by
  unfold edgeK edV
  go_enter Try.func22, Try.ntmps22
  go_wp2
  all_goals go_ret
  all_goals refine ⟨?_, (Grew.refl w).alloc _⟩
  all_goals simp
  all_goals (simp_all <;> omega)

set_option maxRecDepth 100000 in
theorem refMany_any (n m : Int) (w : World) : Calls Try.prog 21 #[.int .i64 n, .int .i64 m] w fun e w' => e = .returned (.int .i64 (manyK n m)) ∧ w' = w := by
  unfold manyK
  go_enter Try.func21, Try.ntmps21
  go_wp2
  all_goals go_ret
  all_goals refine ⟨?_, rfl⟩
  all_goals simp

set_option maxRecDepth 100000 in
theorem refBelow_any (a b : Ed) (w : World) : Calls Try.prog 23 #[edV a, edV b] w fun r w' => r = .returned (.bool (lo a b)) ∧ Grew w w' := by
  unfold lo edV
  go_enter Try.func23, Try.ntmps23
  go_wp2
  all_goals go_ret
  all_goals refine ⟨?_, ((Grew.refl w).alloc _).alloc _⟩
  all_goals simp
  all_goals (simp_all <;> omega)

set_option maxRecDepth 100000 in
theorem rises_any (a b : Ed) (w : World) : Calls Try.prog 34 #[edV a, edV b] w fun r w' => r = .returned (.int .i64 (riseK a b)) ∧ Grew w w' := by
  have hE : (cfE a b = -1 ∧ riseK a b = 0) ∨ (cfE a b = 0 ∧ riseK a b = 7) ∨ (cfE a b = 1 ∧ riseK a b = 1) := by
    unfold riseK
    rcases cfE_cases a b with ⟨h, h'⟩ | ⟨h, h'⟩ | ⟨h, h'⟩
    · exact .inl ⟨h, by simp [h']⟩
    · have h1 : lo a b = false := lo_not.2 (by omega)
      have h2 : lo b a = false := lo_not.2 (by omega)
      exact .inr (.inl ⟨h, by simp [h1, h2]⟩)
    · have h1 : lo a b = false := lo_not.2 (by have := lo_iff.1 h'; omega)
      exact .inr (.inr ⟨h, by simp [h1, h']⟩)
  have hc := fun W => byEnds_any a b W
  generalize cfE a b = c at hc hE
  generalize riseK a b = r at hE ⊢
  have hB : ∀ W, Calls Try.prog 42 #[.agg #[.int .i64 a.1, .int .i64 a.2.1, .int .i64 a.2.2], .agg #[.int .i64 b.1, .int .i64 b.2.1, .int .i64 b.2.2]] W fun e w' => e = .returned (.int .i64 c) ∧ Grew W w' := hc
  clear hc
  unfold edV
  rcases hE with ⟨rfl, rfl⟩ | ⟨rfl, rfl⟩ | ⟨rfl, rfl⟩
  all_goals
    go_enter Try.func34, Try.ntmps34
    go_wp2_with (go_at_call 42; refine (hB _).mono ?_; rintro e w' ⟨rfl, hg⟩)
    go_ret
    exact ⟨rfl, ((((Grew.refl w).alloc _).alloc _)).trans hg⟩

end Go.Proofs.Ytdgecflljgnobaa
