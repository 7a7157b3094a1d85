import Derived.WalkKit
import Derived.Deep.QuietTactic
import Derived.BigQuiet
import Derived.BigRegion
import Derived.Deep.RegionWith
import Derived.Deep.RegionHeld3
import Derived.Shelf.SlSortCmp.QuietGrown
import Derived.Test.YtjpkojmjiaoifaaGreatProg
import Derived.Test.YtjpkojmjiaoifaaGreatZAA
namespace Go.Proofs.YtjpkojmjiaoifaaGreat
open Go Go.Proofs Go.RowKit
def Hid (p : Prop) : Prop := p
theorem Hid.out {p : Prop} (h : Hid p) : p := h
def Grew (w w' : World) : Prop := ∃ q os, w' = Go.Sort.grow (w.drewN q) os
theorem Grew.refl (w : World) : Grew w w := ⟨0, #[], by rw [Go.Sort.grow_empty]; rfl⟩
theorem Grew.trans {a b c : World} (h : Grew a b) (h' : Grew b c) : Grew a c := by
 obtain ⟨q, os, rfl⟩ := h
 obtain ⟨q', os', rfl⟩ := h'
 exact ⟨q + q', os ++ os', by show Go.Sort.grow (Go.Sort.grow ((a.drewN q).drewN q') os) os' = _; rw [Go.Sort.grow_grow, World.drewN_drewN]⟩
theorem Grew.alloc {a b : World} (h : Grew a b) (o : Obj) : Grew a (b.alloc o) := h.trans ⟨0, #[o], by rw [Go.Sort.alloc_eq_grow]; rfl⟩
theorem Grew.drewN {a b : World} (h : Grew a b) (k : Nat) : Grew a (b.drewN k) := h.trans ⟨k, #[], by rw [Go.Sort.grow_empty]⟩
theorem Grew.below {w w' : World} (h : Grew w w') : Below w.heap.size w w' := by
 obtain ⟨q, os, rfl⟩ := h
 exact ⟨rfl, rfl, rfl, by simp [Go.Sort.grow, World.drewN], fun k hk => by simp [Go.Sort.grow, World.drewN, Array.getElem?_append_left hk]⟩
theorem below_drewN {B : Nat} {a w : World} (h : Below B a w) (k : Nat) : Below B a (w.drewN k) := ⟨h.os, h.tape, h.output, h.size, h.block⟩
abbrev edV (e : Ed) : Value := .agg #[.int .i64 e.1, .int .i64 e.2.1, .int .i64 e.2.2]
def encE (e : Ed) : List Value := [.int .i64 e.1, .int .i64 e.2.1, .int .i64 e.2.2]
def Edges (n : Nat) (W : World) (sv : Value) (l : List Ed) : Prop :=
 ((∃ p c, sv = .slice p 0 c) ∧ l = []) ∨ ∃ b off cap, sv = .slice (some ⟨b, off, none⟩) l.length cap ∧ b < n ∧ l.length ≤ cap ∧
  ∀ j x, l[j]? = some x → W.cell? ⟨b, off + j * 3, none⟩ = some (.int .i64 x.1) ∧ W.cell? ⟨b, off + j * 3 + 1, none⟩ = some (.int .i64 x.2.1) ∧ W.cell? ⟨b, off + j * 3 + 2, none⟩ = some (.int .i64 x.2.2)
theorem Edges.below {n : Nat} {W W' : World} {sv : Value} {l : List Ed} (h : Edges n W sv l) (hb : Below n W W') : Edges n W' sv l := by
 rcases h with h | ⟨b, off, cap, h1, h2, h3, h4⟩
 ·exact .inl h
 ·exact .inr ⟨b, off, cap, h1, h2, h3, fun j x hx => ⟨(hb.cell (p := ⟨b, _, none⟩) h2).trans (h4 j x hx).1, (hb.cell (p := ⟨b, _, none⟩) h2).trans (h4 j x hx).2.1, (hb.cell (p := ⟨b, _, none⟩) h2).trans (h4 j x hx).2.2⟩⟩
theorem Edges.mono {n m : Nat} {W : World} {sv : Value} {l : List Ed} (h : Edges n W sv l) (hb : n ≤ m) : Edges m W sv l := by
 rcases h with h | ⟨b, off, cap, h1, h2, h3, h4⟩
 ·exact .inl h
 ·exact .inr ⟨b, off, cap, h1, Nat.lt_of_lt_of_le h2 hb, h3, h4⟩
theorem Edges.go {W W' : World} {sv : Value} {l : List Ed} (h : Edges W.heap.size W sv l) (hb : Below W.heap.size W W') : Edges W'.heap.size W' sv l := (h.below hb).mono hb.size
theorem Edges.len {n : Nat} {W : World} {sv : Value} {l : List Ed} (h : Edges n W sv l) : ∃ p c, sv = .slice p l.length c := by
 rcases h with ⟨⟨p, c, rfl⟩, rfl⟩ | ⟨b, off, cap, rfl, _⟩ <;> exact ⟨_, _, rfl⟩
theorem Edges.nil (n : Nat) (W : World) (p : Option Addr) (c : Nat) : Edges n W (.slice p 0 c) [] := .inl ⟨⟨_, _, rfl⟩, rfl⟩
theorem new_cell {w : World} {cs : Array Value} {t : TypeId} {k i : Nat} {v : Value} (hk : k = w.heap.size) (hv : cs[i]? = some v) : (w.alloc (.cells cs t)).cell? ⟨k, i, none⟩ = some v := by
 rw [World.cell?_alloc_at _ _ _ _ hk, hv]
def cmpI (a b : Int) : Int := Lib.compareInt a b
set_option maxRecDepth 100000 in
theorem compare_any (a b : Int) (w : World) : Calls Tryz.prog 82 #[.int .i64 a, .int .i64 b] w fun e w' => e = .returned (.int .i64 (cmpI a b)) ∧ w' = w := by
 unfold cmpI Lib.compareInt
 have h60 : ∀ (x : Int) W, Calls Tryz.prog 101 #[.int .i64 x] W fun e w' => e = .returned (.bool false) ∧ w' = W := by
  intro x W
  go_enter Tryz.func101, Tryz.ntmps101
  go_wp2
  go_ret
  exact ⟨by simp, rfl⟩
 by_cases h1 : a < b
 ·rw [if_pos h1]
  go_enter Tryz.func82, Tryz.ntmps82
  go_wp2_with (go_at_call 101; refine (h60 _ _).mono ?_; rintro e w' ⟨rfl, rfl⟩)
  go_ret
  exact ⟨rfl, rfl⟩
 ·by_cases h2 : b < a
  ·rw [if_neg h1, if_pos h2]
   go_enter Tryz.func82, Tryz.ntmps82
   go_wp2_with (go_at_call 101; refine (h60 _ _).mono ?_; rintro e w' ⟨rfl, rfl⟩)
   go_ret
   exact ⟨rfl, rfl⟩
  ·rw [if_neg h1, if_neg h2]
   go_enter Tryz.func82, Tryz.ntmps82
   go_wp2_with (go_at_call 101; refine (h60 _ _).mono ?_; rintro e w' ⟨rfl, rfl⟩)
   go_ret
   exact ⟨rfl, rfl⟩
def orI (x y : Int) : Int := if x = 0 then y else x
set_option maxRecDepth 100000 in
theorem or_any (x y : Int) (b : Nat) (w : World) (h0 : w.cell? ⟨b, 0, none⟩ = some (.int .i64 x)) (h1 : w.cell? ⟨b, 1, none⟩ = some (.int .i64 y)) :
  Calls Tryz.prog 81 #[.slice (some ⟨b, 0, none⟩) 2 2] w fun e w' => e = .returned (.int .i64 (orI x y)) ∧ w' = w := by
 go_enter Tryz.func81, Tryz.ntmps81
 go_wp2
 go_loop [8] (fun i => i = .int .i64 0 ∨ (i = .int .i64 1 ∧ x = 0) ∨ (i = .int .i64 2 ∧ x = 0 ∧ y = 0)) (fun i => 2 - (intOf i).toNat)
 case atStart => exact .inl rfl
 case round =>
  rcases hrel with rfl | ⟨rfl, hx⟩ | ⟨rfl, hx, hy⟩
  ·by_cases hx : x = 0
   ·have hd : decide (x = 0) = true := by simpa using hx
    go_wp2
    exact ⟨.inr (.inl ⟨by go_num, hx⟩), by simp [intOf]⟩
   ·have HE : Hid (orI x y = x) := if_neg hx
    go_wp2
    go_ret
    exact ⟨by rw [HE.out]; rfl, rfl⟩
  ·have HX : Hid (x = 0) := hx
   clear hx
   by_cases hy : y = 0
   ·go_wp2
    exact ⟨.inr (.inr ⟨by go_num, HX.out, hy⟩), by simp [intOf]⟩
   ·have HE : Hid (orI x y = y) := if_pos HX.out
    go_wp2
    go_ret
    exact ⟨by rw [HE.out]; rfl, rfl⟩
  ·have HE : Hid (orI x y = 0) := by unfold Hid orI; rw [if_pos hx, hy]
   clear hx hy
   go_wp2
   go_ret
   exact ⟨by rw [HE.out]; rfl, rfl⟩
theorem cfE_or (a b : Ed) : cfE a b = orI (cmpI a.1 b.1) (cmpI a.2.1 b.2.1) := rfl
set_option maxRecDepth 100000 in
set_option maxHeartbeats 1000000 in
theorem byEnds_any (a b : Ed) (w : World) : Calls Tryz.prog 70 #[edV a, edV b] w fun e w' => e = .returned (.int .i64 (cfE a b)) ∧ Grew w w' := by
 rw [cfE_or]
 unfold edV
 obtain ⟨a0, a1, a2⟩ := a
 obtain ⟨b0, b1, b2⟩ := b
 simp only
 go_enter Tryz.func70, Tryz.ntmps70
 go_wp2
 go_region_held3 (fun w' => w'.cell? ⟨w.heap.size, 0, none⟩ = some (.int .i64 a0) ∧ w'.cell? ⟨w.heap.size, 1, none⟩ = some (.int .i64 a1) ∧ w'.cell? ⟨w.heap.size + 1, 0, none⟩ = some (.int .i64 b0) ∧ w'.cell? ⟨w.heap.size + 1, 1, none⟩ = some (.int .i64 b1)) (go_keep) (first | (go_at_call 82; refine (compare_any _ _ _).mono ?_; rintro e w' ⟨rfl, rfl⟩) | (go_at_call 81; refine (or_any (cmpI a0 b0) (cmpI a1 b1) _ _ (by simp only [World.cell?_drew]; exact new_cell (by simp) rfl) (by simp only [World.cell?_drew]; exact new_cell (by simp) rfl)).mono ?_; rintro e w' ⟨rfl, rfl⟩))
 go_wp2
 go_ret
 exact ⟨rfl, ((((Grew.refl w).alloc _).alloc _).alloc _).drewN 1⟩
set_option maxRecDepth 100000 in
theorem sized_any (n m : Int) (w : World) : Calls Tryz.prog 49 #[.int .i64 n, .int .i64 m] w fun e w' => e = .returned (.int .i64 (manyK n m)) ∧ w' = w := by
 unfold manyK
 go_enter Tryz.func49, Tryz.ntmps49
 go_wp2
 all_goals go_ret
 all_goals refine ⟨?_, rfl⟩
 all_goals simp
set_option maxRecDepth 100000 in
theorem fits_any (n : Int) (e : Ed) (w : World) : Calls Tryz.prog 50 #[.int .i64 n, edV e] w fun r w' => r = .returned (.int .i64 (edgeK n e)) ∧ Grew w w' := by
 unfold edgeK edV
 go_enter Tryz.func50, Tryz.ntmps50
 go_wp2
 all_goals go_ret
 all_goals refine ⟨?_, (Grew.refl w).alloc _⟩
 all_goals simp
 all_goals (simp_all <;> omega)
set_option maxRecDepth 100000 in
theorem refEdge_any (n : Int) (e : Ed) (w : World) : Calls Tryz.prog 26 #[.int .i64 n, edV e] w fun r w' => r = .returned (.int .i64 (edgeK n e)) ∧ Grew w w' := by
 unfold edgeK edV
 go_enter Tryz.func26, Tryz.ntmps26
 go_wp2
 all_goals go_ret
 all_goals refine ⟨?_, (Grew.refl w).alloc _⟩
 all_goals simp
 all_goals (simp_all <;> omega)
set_option maxRecDepth 100000 in
theorem refMany_any (n m : Int) (w : World) : Calls Tryz.prog 25 #[.int .i64 n, .int .i64 m] w fun e w' => e = .returned (.int .i64 (manyK n m)) ∧ w' = w := by
 unfold manyK
 go_enter Tryz.func25, Tryz.ntmps25
 go_wp2
 all_goals go_ret
 all_goals refine ⟨?_, rfl⟩
 all_goals simp
set_option maxRecDepth 100000 in
theorem refBelow_any (a b : Ed) (w : World) : Calls Tryz.prog 27 #[edV a, edV b] w fun r w' => r = .returned (.bool (lo a b)) ∧ Grew w w' := by
 unfold lo edV
 go_enter Tryz.func27, Tryz.ntmps27
 go_wp2
 all_goals go_ret
 all_goals refine ⟨?_, ((Grew.refl w).alloc _).alloc _⟩
 all_goals simp
 all_goals (simp_all <;> omega)
set_option maxRecDepth 100000 in
theorem rises_any (a b : Ed) (w : World) : Calls Tryz.prog 51 #[edV a, edV b] w fun r w' => r = .returned (.int .i64 (riseK a b)) ∧ Grew w w' := by
 have hE : (cfE a b = -1 ∧ riseK a b = 0) ∨ (cfE a b = 0 ∧ riseK a b = 7) ∨ (cfE a b = 1 ∧ riseK a b = 1) := by
  unfold riseK
  rcases cfE_cases a b with ⟨h, h'⟩ | ⟨h, h'⟩ | ⟨h, h'⟩
  ·exact .inl ⟨h, by simp [h']⟩
  ·have h1 : lo a b = false := lo_not.2 (by omega)
   have h2 : lo b a = false := lo_not.2 (by omega)
   exact .inr (.inl ⟨h, by simp [h1, h2]⟩)
  ·have h1 : lo a b = false := lo_not.2 (by have := lo_iff.1 h'; omega)
   exact .inr (.inr ⟨h, by simp [h1, h']⟩)
 have hc := fun W => byEnds_any a b W
 generalize cfE a b = c at hc hE
 generalize riseK a b = r at hE ⊢
 have hB : ∀ W, Calls Tryz.prog 70 #[.agg #[.int .i64 a.1, .int .i64 a.2.1, .int .i64 a.2.2], .agg #[.int .i64 b.1, .int .i64 b.2.1, .int .i64 b.2.2]] W fun e w' => e = .returned (.int .i64 c) ∧ Grew W w' := hc
 clear hc
 unfold edV
 rcases hE with ⟨rfl, rfl⟩ | ⟨rfl, rfl⟩ | ⟨rfl, rfl⟩
 all_goals
  go_enter Tryz.func51, Tryz.ntmps51
  go_wp2_with (go_at_call 70; refine (hB _).mono ?_; rintro e w' ⟨rfl, hg⟩)
  go_ret
  exact ⟨rfl, ((((Grew.refl w).alloc _).alloc _)).trans hg⟩
end Go.Proofs.YtjpkojmjiaoifaaGreat

namespace Go.Proofs.YtjpkojmjiaoifaaGreat
open Go Go.Proofs Go.RowKit
theorem Edges.at {n : Nat} {W : World} {p : Option Addr} {c : Nat} {l : List Ed} (h : Edges n W (.slice p l.length c) l) {j : Nat} (hj : j < l.length) :
  ∃ b off, p = some ⟨b, off, none⟩ ∧ b < n ∧ l.length ≤ c ∧ ∀ i x, l[i]? = some x → W.cell? ⟨b, off + i * 3, none⟩ = some (.int .i64 x.1) ∧ W.cell? ⟨b, off + i * 3 + 1, none⟩ = some (.int .i64 x.2.1) ∧ W.cell? ⟨b, off + i * 3 + 2, none⟩ = some (.int .i64 x.2.2) := by
 rcases h with ⟨⟨p, c, h1⟩, rfl⟩ | ⟨b, off, cap, h1, h2, h3, h4⟩
 ·simp at hj
 ·simp only [Value.slice.injEq] at h1
  obtain ⟨rfl, _, rfl⟩ := h1
  exact ⟨b, off, rfl, h2, h3, h4⟩
theorem Edges.open {w : World} {p : Option Addr} {c : Nat} {l : List Ed} (h : Edges w.heap.size w (.slice p l.length c) l) {j : Nat} (hj : j < l.length) :
  ∃ b off, p = some ⟨b, off, none⟩ ∧ b < w.heap.size ∧ l.length ≤ c ∧
   (∀ W', Below w.heap.size w W' → ∀ i (hi : i < l.length), W'.cell? ⟨b, off + i * 3, none⟩ = some (.int .i64 l[i].1) ∧ W'.cell? ⟨b, off + i * 3 + 1, none⟩ = some (.int .i64 l[i].2.1) ∧ W'.cell? ⟨b, off + i * 3 + 2, none⟩ = some (.int .i64 l[i].2.2)) ∧
   (∀ W', Below w.heap.size w W' → ∀ i (hi : i < l.length), (∀ n os, (Go.Sort.grow (W'.drewN n) os).cell? ⟨b, off + i * 3, none⟩ = some (.int .i64 l[i].1)) ∧ (∀ n os, (Go.Sort.grow (W'.drewN n) os).cell? ⟨b, off + i * 3 + 1, none⟩ = some (.int .i64 l[i].2.1)) ∧ (∀ n os, (Go.Sort.grow (W'.drewN n) os).cell? ⟨b, off + i * 3 + 2, none⟩ = some (.int .i64 l[i].2.2))) := by
 obtain ⟨b, off, rfl, hb, hc, h4⟩ := h.at hj
 have hp : ∀ W', Below w.heap.size w W' → ∀ i (hi : i < l.length), W'.cell? ⟨b, off + i * 3, none⟩ = some (.int .i64 l[i].1) ∧ W'.cell? ⟨b, off + i * 3 + 1, none⟩ = some (.int .i64 l[i].2.1) ∧ W'.cell? ⟨b, off + i * 3 + 2, none⟩ = some (.int .i64 l[i].2.2) := by
  intro W' hW i hi
  obtain ⟨c0, c1, c2⟩ := h4 i l[i] (List.getElem?_eq_getElem hi)
  exact ⟨(hW.cell (p := ⟨b, _, none⟩) hb).trans c0, (hW.cell (p := ⟨b, _, none⟩) hb).trans c1, (hW.cell (p := ⟨b, _, none⟩) hb).trans c2⟩
 refine ⟨b, off, rfl, hb, hc, hp, ?_⟩
 intro W' hW i hi
 obtain ⟨c0, c1, c2⟩ := hp W' hW i hi
 have hbW : b < W'.heap.size := Nat.lt_of_lt_of_le hb hW.size
 exact ⟨cell_grown (a := ⟨b, _, none⟩) hbW c0, cell_grown (a := ⟨b, _, none⟩) hbW c1, cell_grown (a := ⟨b, _, none⟩) hbW c2⟩
theorem box2 {w : World} {x y : Value} {t : TypeId} : ∀ W', Grew (w.alloc (.cells #[x, y] t)) W' → W'.cell? ⟨w.heap.size, 0, none⟩ = some x ∧ W'.cell? ⟨w.heap.size, 1, none⟩ = some y := fun W' h =>
 ⟨(h.below.cell (p := ⟨w.heap.size, 0, none⟩) (by simp)).trans (by simp), (h.below.cell (p := ⟨w.heap.size, 1, none⟩) (by simp)).trans (by simp)⟩
theorem box2g {w : World} {x y : Value} {t : TypeId} : ∀ W', Grew (w.alloc (.cells #[x, y] t)) W' → (∀ n os, (Go.Sort.grow (W'.drewN n) os).cell? ⟨w.heap.size, 0, none⟩ = some x) ∧ ∀ n os, (Go.Sort.grow (W'.drewN n) os).cell? ⟨w.heap.size, 1, none⟩ = some y := fun W' h =>
 have hlt : w.heap.size < W'.heap.size := by have := h.below.size; simp only [World.size_alloc] at this; omega
 ⟨cell_grown (a := ⟨w.heap.size, 0, none⟩) hlt (box2 W' h).1, cell_grown (a := ⟨w.heap.size, 1, none⟩) hlt (box2 W' h).2⟩
theorem box2_lt {w : World} {x y : Value} {t : TypeId} {W' : World} (h : Grew (w.alloc (.cells #[x, y] t)) W') : w.heap.size < W'.heap.size := by have := h.below.size; simp only [World.size_alloc] at this; omega
theorem wrap_i (x : Int) (h0 : -9223372036854775808 ≤ x) (h1 : x ≤ 9223372036854775807) : IntKind.i64.wrap x = x := by
 simp [IntKind.wrap, IntKind.bits, IntKind.signed]; omega
theorem mixed : Tryz.prog.follows .mixedOrders = true := by kernel_rfl
set_option maxRecDepth 100000 in
set_option maxHeartbeats 2000000 in
theorem right_any (n : Int) (l : List Ed) (sv : Value) (w : World) (hl : Edges w.heap.size w sv l) :
  Calls Tryz.prog 28 #[.agg #[.int .i64 n, sv]] w fun r w' => r = .returned (.int .i64 (rightK n l)) ∧ Grew w w' := by
 obtain ⟨p, c, rfl⟩ := hl.len
 by_cases hm : manyK n l.length = 0
 ·have hR : Hid (rightK n l = listK n none l) := if_pos hm
  obtain ⟨hn0, hn1, hlen⟩ := many_ok hm
  have hS := fun W => sized_any n l.length W
  rw [hm] at hS
  have hg1 : Grew w (w.alloc (.cells #[.int .i64 n, .slice p l.length c] 24)) := (Grew.refl w).alloc _
  go_enter Tryz.func28, Tryz.ntmps28
  go_wp2_with fail
  refine (hS _).mono ?_
  rintro e w1 ⟨rfl, rfl⟩
  clear hS hm
  go_wp2
  go_loopw [20] (fun i wr => ∃ j : Nat, j ≤ l.length ∧ i = .int .i64 j ∧ Hid (listK n (prevA l j) (l.drop j) = listK n none l) ∧ Grew (w.alloc (.cells #[.int .i64 n, .slice p l.length c] 24)) wr) (fun i _ => l.length - (intOf i).toNat)
  case atStart => exact ⟨0, Nat.zero_le _, rfl, rfl, Grew.refl _⟩
  case round =>
   obtain ⟨j, hj, rfl, hr, hg⟩ := hrel
   by_cases hlt : j < l.length
   ·obtain ⟨b, off, rfl, hbb, hcap, hc⟩ := hl.at hlt
    have hb0 := (hg1.trans hg).below
    have q0 := (hg.below.cell (p := ⟨w.heap.size, 0, none⟩) (by simp)).trans (by simp : _ = some (Value.int .i64 n))
    have q1 := (hg.below.cell (p := ⟨w.heap.size, 1, none⟩) (by simp)).trans (by simp : _ = some (Value.slice (some ⟨b, off, none⟩) l.length c))
    obtain ⟨c0, c1, c2⟩ := hc j l[j] (List.getElem?_eq_getElem hlt)
    replace c0 := (hb0.cell (p := ⟨b, off + j * 3, none⟩) hbb).trans c0
    replace c1 := (hb0.cell (p := ⟨b, off + j * 3 + 1, none⟩) hbb).trans c1
    replace c2 := (hb0.cell (p := ⟨b, off + j * 3 + 2, none⟩) hbb).trans c2
    have hjl : (j : Int) < (l.length : Int) := by omega
    have hst := hr
    unfold Hid at hst
    rw [listK_step hlt] at hst
    have HC : Hid _ := hc
    have HST : Hid _ := hst
    clear hc hst
    have hsz : w.heap.size < wr.heap.size := by have := hg.below.size; simp at this; omega
    have hbr : b < wr.heap.size := by omega
    go_wp2_with fail
    refine (fits_any n l[j] _).mono ?_
    rintro e w7 ⟨rfl, hg7⟩
    have hb7 := hg7.below
    simp only [World.size_alloc] at hb7
    have e0 : w7.cell? ⟨wr.heap.size, 0, none⟩ = some (.int .i64 l[j].1) := (hb7.cell (p := ⟨wr.heap.size, 0, none⟩) (by simp)).trans (by simp)
    have e1 : w7.cell? ⟨wr.heap.size, 1, none⟩ = some (.int .i64 l[j].2.1) := (hb7.cell (p := ⟨wr.heap.size, 1, none⟩) (by simp)).trans (by simp)
    have e2 : w7.cell? ⟨wr.heap.size, 2, none⟩ = some (.int .i64 l[j].2.2) := (hb7.cell (p := ⟨wr.heap.size, 2, none⟩) (by simp)).trans (by simp)
    have q1' : w7.cell? ⟨w.heap.size, 1, none⟩ = some (Value.slice (some ⟨b, off, none⟩) l.length c) := (hb7.cell (p := ⟨w.heap.size, 1, none⟩) (by show w.heap.size < _; omega)).trans ((World.cell?_alloc_past _ _ _ hsz).trans q1)
    have hg8 : Grew w w7 := (hg1.trans hg).trans (((Grew.refl wr).alloc _).trans hg7)
    have hg9 : Grew (w.alloc (.cells #[.int .i64 n, .slice (some ⟨b, off, none⟩) l.length c] 24)) w7 := hg.trans (((Grew.refl wr).alloc _).trans hg7)
    have hz7 : wr.heap.size < w7.heap.size := by have := hb7.size; simp only [World.size_alloc] at this; omega
    clear q0 q1 c0 c1 c2 hb0 hg hg7 hb7 hg1
    by_cases hk : edgeK n l[j] = 0
    ·rw [hk]
     by_cases huv : l[j].2.1 < l[j].1
     ·have HE : Hid (rightK n l = 1) := by
       have h1 : oneK n (prevA l j) l[j] = 1 := by unfold oneK; rw [if_pos hk, if_pos huv]
       have h2 := HST.out
       rw [h1] at h2
       unfold Hid; rw [hR.out, ← h2]; rfl
      clear hr HST HC hk
      go_wp2
      go_ret
      exact ⟨by rw [HE.out]; rfl, hg8⟩
     ·have h1 : oneK n (prevA l j) l[j] = riseO (prevA l j) l[j] := by unfold oneK; rw [if_pos hk, if_neg huv]
      cases j with
      | zero =>
       have HS : Hid (listK n (prevA l 1) (l.drop 1) = listK n none l) := by
        have h2 := HST.out
        rw [h1, show riseO (prevA l 0) l[0] = 0 from rfl, if_pos rfl] at h2
        exact h2
       clear hr HST HC hk h1
       go_wp2
       exact ⟨⟨1, by omega, by go_num, HS, hg9⟩, by simp [intOf]; omega⟩
      | succ i =>
       have hil : i < l.length := by omega
       have h2 : riseO (prevA l (i + 1)) l[i + 1] = riseK l[i] l[i + 1] := by rw [show prevA l (i + 1) = some l[i] from List.getElem?_eq_getElem hil]; rfl
       rw [h2] at h1
       obtain ⟨c0, c1, c2⟩ := HC.out i l[i] (List.getElem?_eq_getElem hil)
       replace c0 := cell_grown (a := ⟨b, off + i * 3, none⟩) (by show b < _; omega) ((hg8.below.cell (p := ⟨b, off + i * 3, none⟩) hbb).trans c0)
       replace c1 := cell_grown (a := ⟨b, off + i * 3 + 1, none⟩) (by show b < _; omega) ((hg8.below.cell (p := ⟨b, off + i * 3 + 1, none⟩) hbb).trans c1)
       replace c2 := cell_grown (a := ⟨b, off + i * 3 + 2, none⟩) (by show b < _; omega) ((hg8.below.cell (p := ⟨b, off + i * 3 + 2, none⟩) hbb).trans c2)
       replace q1' := cell_grown (a := ⟨w.heap.size, 1, none⟩) (by show w.heap.size < _; omega) q1'
       have e0' := cell_grown (a := ⟨wr.heap.size, 0, none⟩) hz7 e0
       have e1' := cell_grown (a := ⟨wr.heap.size, 1, none⟩) hz7 e1
       have e2' := cell_grown (a := ⟨wr.heap.size, 2, none⟩) hz7 e2
       have hii : (i : Int) < (l.length : Int) := by omega
       have HK : Hid _ := h1
       have HG8 : Hid _ := hg8
       clear hr HC hk h1 h2 hg8
       go_wp2
       have hmix := mixed
       have hwi := wrap_i i (by omega) (by omega)
       go_quiet_grown (first | (go_at_call 51; refine Calls.grown_of (rises_any l[i] l[i + 1] _)))
       by_cases hz : riseK l[i] l[i + 1] = 0
       ·have HS : Hid (listK n (prevA l (i + 1 + 1)) (l.drop (i + 1 + 1)) = listK n none l) := by
         have h2 := HST.out
         rw [HK.out, hz, if_pos rfl] at h2
         exact h2
        have hgf := hg9.trans ⟨nq, osq, rfl⟩
        rw [hz]
        clear HST HK HG8 hz e0 e1 e2 c0 c1 c2 e0' e1' e2' q1'
        go_wp2
        exact ⟨⟨i + 1 + 1, by omega, by go_num, HS, hgf⟩, by simp [intOf]; omega⟩
       ·have HE : Hid (rightK n l = riseK l[i] l[i + 1]) := by
         have h2 := HST.out
         rw [HK.out, if_neg hz] at h2
         unfold Hid; rw [hR.out, ← h2]
        have hgf : Grew w _ := (show Grew w w7 from HG8.out).trans ⟨nq, osq, rfl⟩
        generalize riseK l[i] l[i + 1] = k at HE hz
        have hz' : (k == 0) = false := by simpa using hz
        clear HST HK HG8 hz e0 e1 e2 c0 c1 c2 e0' e1' e2' q1'
        go_wp2
        go_ret
        exact ⟨by rw [HE.out]; rfl, hgf⟩
    ·have HE : Hid (rightK n l = edgeK n l[j]) := by
      have h1 : oneK n (prevA l j) l[j] = edgeK n l[j] := by unfold oneK; rw [if_neg hk]
      have h2 := HST.out
      rw [h1, if_neg hk] at h2
      unfold Hid; rw [hR.out, ← h2]
     generalize edgeK n l[j] = k at HE hk
     have hk' : (k == 0) = false := by simpa using hk
     clear hr HST HC hk
     go_wp2
     go_ret
     exact ⟨by rw [HE.out]; rfl, hg8⟩
   ·obtain rfl : j = l.length := by omega
    have HE : Hid (rightK n l = 0) := by
     unfold Hid; rw [hR.out, ← hr.out, listK_end]
    clear hr
    go_wp2
    go_ret
    exact ⟨by rw [HE.out]; rfl, hg1.trans hg⟩
 ·have HE : Hid (rightK n l = manyK n l.length) := if_neg hm
  have hS := fun W => sized_any n l.length W
  generalize manyK n l.length = k at hS HE hm
  have hk : (k == 0) = false := by simpa using hm
  clear hm
  go_enter Tryz.func28, Tryz.ntmps28
  go_wp2_with fail
  refine (hS _).mono ?_
  rintro e w1 ⟨rfl, rfl⟩
  clear hS
  go_wp2
  go_ret
  exact ⟨by rw [HE.out]; rfl, (Grew.refl w).alloc _⟩
set_option maxRecDepth 100000 in
set_option maxHeartbeats 1000000 in
theorem refRight_any (n : Int) (l : List Ed) (sv : Value) (w : World) (hl : Edges w.heap.size w sv l) :
  Calls Tryz.prog 24 #[.agg #[.int .i64 n, sv]] w fun r w' => r = .returned (.int .i64 (rightK n l)) ∧ Grew w w' := by
 obtain ⟨p, c, rfl⟩ := hl.len
 have hmix := mixed
 by_cases hm : manyK n l.length = 0
 ·have hR : Hid (rightK n l = listK n none l) := if_pos hm
  obtain ⟨hn0, hn1, hlen⟩ := many_ok hm
  have hS := fun W => refMany_any n l.length W
  rw [hm] at hS
  have hg1 : Grew w (w.alloc (.cells #[.int .i64 n, .slice p l.length c] 24)) := (Grew.refl w).alloc _
  go_enter Tryz.func24, Tryz.ntmps24
  go_wp2_with fail
  refine (hS _).mono ?_
  rintro e w1 ⟨rfl, rfl⟩
  clear hS hm
  go_wp2
  go_loopw [4] (fun i wr => ∃ j : Nat, j ≤ l.length ∧ i = .int .i64 j ∧ Hid (listK n (prevA l j) (l.drop j) = listK n none l) ∧ Grew (w.alloc (.cells #[.int .i64 n, .slice p l.length c] 24)) wr) (fun i _ => l.length - (intOf i).toNat)
  case atStart => exact ⟨0, Nat.zero_le _, rfl, rfl, Grew.refl _⟩
  case round =>
   obtain ⟨j, hj, rfl, hr, hg⟩ := hrel
   have q0 := (box2 _ hg).1
   have q1 := (box2 _ hg).2
   by_cases hlt : j < l.length
   ·obtain ⟨b, off, rfl, hbb, hcap, hc, hcg⟩ := hl.open hlt
    have hst := hr
    unfold Hid at hst
    rw [listK_step hlt] at hst
    have HST : Hid _ := hst
    have HC : Hid _ := hc
    have HCG : Hid _ := hcg
    clear hc hcg hst
    have hjl : (j : Int) < (l.length : Int) := by omega
    have q0g := (box2g _ hg).1
    have q1g := (box2g _ hg).2
    obtain ⟨c0, c1, c2⟩ := HCG.out wr (hg1.trans hg).below j hlt
    go_wp2
    go_quiet_grown (first | (go_at_call 26; refine Calls.grown_of (refEdge_any n l[j] _)))
    have hg2 := hg.trans ⟨nq, osq, rfl⟩
    generalize Go.Sort.grow (wr.drewN nq) osq = w2 at hg2 ⊢
    clear q0 q1 q0g q1g c0 c1 c2 hg nq osq
    by_cases hk : edgeK n l[j] = 0
    ·rw [hk]
     have q1 := (box2 _ hg2).2
     obtain ⟨c0, c1, c2⟩ := HC.out w2 (hg1.trans hg2).below j hlt
     go_wp2
     go_quiet (fail)
     have hg3 := hg2.drewN nq
     generalize w2.drewN nq = w3 at hg3 ⊢
     clear q1 c0 c1 c2 hg2
     by_cases huv : l[j].2.1 < l[j].1
     ·have HE : Hid (rightK n l = 1) := by
       have h1 : oneK n (prevA l j) l[j] = 1 := by unfold oneK; rw [if_pos hk, if_pos huv]
       have h2 := HST.out
       rw [h1] at h2
       unfold Hid; rw [hR.out, ← h2]; rfl
      clear hr HST HC HCG hk
      go_wp2
      go_ret
      exact ⟨by rw [HE.out]; rfl, hg1.trans hg3⟩
     ·have h1 : oneK n (prevA l j) l[j] = riseO (prevA l j) l[j] := by unfold oneK; rw [if_pos hk, if_neg huv]
      by_cases hj0 : j = 0
      ·have HS : Hid (listK n (prevA l (j + 1)) (l.drop (j + 1)) = listK n none l) := by
        have h2 := HST.out
        rw [h1] at h2
        subst hj0
        rw [show riseO (prevA l 0) l[0] = 0 from rfl, if_pos rfl] at h2
        exact h2
       have hneg : decide (0 < j) = false := by simp; omega
       clear hr HST HC HCG hk h1 hj0
       go_wp2
       go_big_region_o
       have hg4 := hg3.drewN 1
       go_wp2
       exact ⟨⟨j + 1, by omega, by go_num, HS, hg4⟩, by simp [intOf]; omega⟩
      ·obtain ⟨i, rfl⟩ : ∃ i, j = i + 1 := ⟨j - 1, by omega⟩
       have hil : i < l.length := by omega
       have h2 : riseO (prevA l (i + 1)) l[i + 1] = riseK l[i] l[i + 1] := by rw [show prevA l (i + 1) = some l[i] from List.getElem?_eq_getElem hil]; rfl
       rw [h2] at h1
       have HK : Hid _ := h1
       clear h1 h2 hk
       have hwi := wrap_i i (by omega) (by omega)
       have hii : (i : Int) < (l.length : Int) := by omega
       have q1g := (box2g _ hg3).2
       obtain ⟨c0, c1, c2⟩ := HCG.out w3 (hg1.trans hg3).below (i + 1) hlt
       obtain ⟨d0, d1, d2⟩ := HCG.out w3 (hg1.trans hg3).below i hil
       have hjl' : (i : Int) + 1 < (l.length : Int) := by omega
       have hjl'' : (0 : Int) ≤ (i : Int) + 1 := by omega
       have hpos : decide ((0 : Int) < ((i + 1 : Nat) : Int)) = true := by simp
       go_wp2
       go_quiet_grown (first | (go_at_call 27; refine Calls.grown_of (refBelow_any l[i] l[i + 1] _)))
       have hg4 := hg3.trans ⟨nq, osq, rfl⟩
       generalize Go.Sort.grow (w3.drewN nq) osq = w4 at hg4 ⊢
       clear q1g c0 c1 c2 d0 d1 d2 hg3 nq osq
       cases hlo : lo l[i] l[i + 1] with
       | true =>
        have HS : Hid (listK n (prevA l (i + 1 + 1)) (l.drop (i + 1 + 1)) = listK n none l) := by
         have h2 := HST.out
         rw [HK.out, show riseK l[i] l[i + 1] = 0 by unfold riseK; rw [if_pos hlo], if_pos rfl] at h2
         exact h2
        clear hr HST HC HCG HK hlo
        go_wp2
        exact ⟨⟨i + 1 + 1, by omega, by go_num, HS, hg4⟩, by simp [intOf]; omega⟩
       | false =>
        have q1g := (box2g _ hg4).2
        obtain ⟨c0, c1, c2⟩ := HCG.out w4 (hg1.trans hg4).below (i + 1) hlt
        obtain ⟨d0, d1, d2⟩ := HCG.out w4 (hg1.trans hg4).below i hil
        have HL : Hid _ := hlo
        clear hlo
        go_wp2
        go_quiet_grown (first | (go_at_call 27; refine Calls.grown_of (refBelow_any l[i + 1] l[i] _)))
        have hg5 := hg4.trans ⟨nq, osq, rfl⟩
        generalize Go.Sort.grow (w4.drewN nq) osq = w5 at hg5 ⊢
        clear q1g c0 c1 c2 d0 d1 d2 hg4 nq osq
        cases hlo2 : lo l[i + 1] l[i] with
        | true =>
         have HE : Hid (rightK n l = 1) := by
          have h3 : riseK l[i] l[i + 1] = 1 := by unfold riseK; rw [HL.out, hlo2]; rfl
          have h2 := HST.out
          rw [HK.out, h3] at h2
          unfold Hid; rw [hR.out, ← h2]; rfl
         clear hr HST HC HCG HK hlo2 HL
         go_wp2
         go_ret
         exact ⟨by rw [HE.out]; rfl, hg1.trans hg5⟩
        | false =>
         have HE : Hid (rightK n l = 7) := by
          have h3 : riseK l[i] l[i + 1] = 7 := by unfold riseK; rw [HL.out, hlo2]; rfl
          have h2 := HST.out
          rw [HK.out, h3] at h2
          unfold Hid; rw [hR.out, ← h2]; rfl
         clear hr HST HC HCG HK hlo2 HL
         go_wp2
         go_ret
         exact ⟨by rw [HE.out]; rfl, hg1.trans hg5⟩
    ·have HE : Hid (rightK n l = edgeK n l[j]) := by
      have h1 : oneK n (prevA l j) l[j] = edgeK n l[j] := by unfold oneK; rw [if_neg hk]
      have h2 := HST.out
      rw [h1, if_neg hk] at h2
      unfold Hid; rw [hR.out, ← h2]
     generalize edgeK n l[j] = k at HE hk
     have hk' : (k == 0) = false := by simpa using hk
     clear hr HST HC HCG hk
     go_wp2
     go_ret
     exact ⟨by rw [HE.out]; rfl, hg1.trans hg2⟩
   ·obtain rfl : j = l.length := by omega
    have HE : Hid (rightK n l = 0) := by
     unfold Hid; rw [hR.out, ← hr.out, listK_end]
    clear hr
    go_wp2
    go_ret
    exact ⟨by rw [HE.out]; rfl, hg1.trans hg⟩
 ·have HE : Hid (rightK n l = manyK n l.length) := if_neg hm
  have hS := fun W => refMany_any n l.length W
  generalize manyK n l.length = k at hS HE hm
  have hk : (k == 0) = false := by simpa using hm
  clear hm
  go_enter Tryz.func24, Tryz.ntmps24
  go_wp2_with fail
  refine (hS _).mono ?_
  rintro e w1 ⟨rfl, rfl⟩
  clear hS
  go_wp2
  go_ret
  exact ⟨by rw [HE.out]; rfl, (Grew.refl w).alloc _⟩
end Go.Proofs.YtjpkojmjiaoifaaGreat
