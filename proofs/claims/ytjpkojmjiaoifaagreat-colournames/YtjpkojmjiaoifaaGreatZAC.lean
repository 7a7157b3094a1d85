import Derived.Test.YtjpkojmjiaoifaaGreatZAB
import Derived.Deep.Slices
import Derived.Lib.SmallJoins
import Derived.SizedLaws
import Derived.MakeChecks
import Derived.ProofKit
import Derived.OpenShut
import Derived.ChangeOld
import Derived.ChangeMaps5
import Derived.Test.YtjpkojmjiaoifaaGreatRows
import Derived.Test.YtjpkojmjiaoifaaGreatZAA
import Derived.OwnWalk
namespace Go.Proofs.YtjpkojmjiaoifaaGreat
open Go Go.Proofs Go.RowKit
def Vals {α : Type} (enc : α → Value) (n : Nat) (W : World) (sv : Value) (l : List α) : Prop :=
 ((∃ p c, sv = .slice p 0 c) ∧ l = []) ∨ ∃ b off cap, sv = .slice (some ⟨b, off, none⟩) l.length cap ∧ b < n ∧ l.length ≤ cap ∧ ∀ j x, l[j]? = some x → W.cell? ⟨b, off + j, none⟩ = some (enc x)
abbrev Ints (n : Nat) (W : World) (sv : Value) (l : List Int) : Prop := Vals (Value.int .i64) n W sv l
section
variable {α : Type} {enc : α → Value}
theorem Vals.below {n : Nat} {W W' : World} {sv : Value} {l : List α} (h : Vals enc n W sv l) (hb : Below n W W') : Vals enc n W' sv l := by
 rcases h with h | ⟨b, off, cap, h1, h2, h3, h4⟩
 ·exact .inl h
 ·exact .inr ⟨b, off, cap, h1, h2, h3, fun j x hx => (hb.cell (p := ⟨b, _, none⟩) h2).trans (h4 j x hx)⟩
theorem Vals.mono {n m : Nat} {W : World} {sv : Value} {l : List α} (h : Vals enc n W sv l) (hb : n ≤ m) : Vals enc m W sv l := by
 rcases h with h | ⟨b, off, cap, h1, h2, h3, h4⟩
 ·exact .inl h
 ·exact .inr ⟨b, off, cap, h1, Nat.lt_of_lt_of_le h2 hb, h3, h4⟩
theorem Vals.go {W W' : World} {sv : Value} {l : List α} (h : Vals enc W.heap.size W sv l) (hb : Below W.heap.size W W') : Vals enc W'.heap.size W' sv l := (h.below hb).mono hb.size
theorem Vals.len {n : Nat} {W : World} {sv : Value} {l : List α} (h : Vals enc n W sv l) : ∃ p c, sv = .slice p l.length c := by
 rcases h with ⟨⟨p, c, rfl⟩, rfl⟩ | ⟨b, off, cap, rfl, _⟩ <;> exact ⟨_, _, rfl⟩
theorem Vals.nil (n : Nat) (W : World) (p : Option Addr) (c : Nat) : Vals enc n W (.slice p 0 c) [] := .inl ⟨⟨_, _, rfl⟩, rfl⟩
theorem Vals.open {w : World} {p : Option Addr} {c : Nat} {l : List α} {n : Nat} (h : Vals enc n w (.slice p l.length c) l) {j : Nat} (hj : j < l.length) :
  ∃ b off, p = some ⟨b, off, none⟩ ∧ b < n ∧ l.length ≤ c ∧ ∀ W', Below n w W' → ∀ i (hi : i < l.length), W'.cell? ⟨b, off + i, none⟩ = some (enc l[i]) := by
 rcases h with ⟨⟨p, c, h1⟩, rfl⟩ | ⟨b, off, cap, h1, h2, h3, h4⟩
 ·simp at hj
 ·simp only [Value.slice.injEq] at h1
  obtain ⟨rfl, _, rfl⟩ := h1
  exact ⟨b, off, rfl, h2, h3, fun W' hW i hi => (hW.cell (p := ⟨b, _, none⟩) h2).trans (h4 i l[i] (List.getElem?_eq_getElem hi))⟩
end
end Go.Proofs.YtjpkojmjiaoifaaGreat

namespace Go.Proofs.YtjpkojmjiaoifaaGreat
open Go Go.ChangeShapes Go.WideShapes Go.ChangeAt Go.RowKit Go.Joins
theorem own : ownKnob Tryz.prog.godebug = none := by kernel_rfl
theorem laidOut : laidOutB Tryz.prog = true := by kernel_rfl
set_option maxRecDepth 100000 in
theorem edges_in {W : World} {sv : Value} {H : Type} {x : DataW H × List MemPlace} {enc : TypeId × Value → H} {fuel : Nat}
  (hf : DataW.trod enc Tryz.prog W 0 (fun _ => true) true fuel 22 [sv] = some x) : ∃ l : List Ed, Edges W.heap.size W sv l := by
 rcases Deep.open_slice Tryz.underlying22 hf with ⟨hcs, _⟩ | ⟨ad, len, cap, m, n, D, Pl, hcs, _, hl, hm, hmm, hx, hc⟩
 ·simp only [List.cons.injEq, and_true] at hcs
  subst hcs
  exact ⟨[], Edges.nil _ _ _ _⟩
 ·simp only [List.cons.injEq, and_true] at hcs
  subst hcs
  simp at hmm
  subst hmm
  have ce : Tryz.prog.cellsOf 37 = 3 := by kernel_rfl
  have each : ∀ i, i < len → ∃ e : Ed, W.cell? (ad.add (i * 3)) = some (.int .i64 e.1) ∧ W.cell? (ad.add (i * 3 + 1)) = some (.int .i64 e.2.1) ∧ W.cell? (ad.add (i * 3 + 2)) = some (.int .i64 e.2.2) := fun i hi => by
   obtain ⟨cs', h1, h2⟩ := hc i (by omega)
   rw [ce] at h1
   obtain ⟨_, hlen, hcell⟩ := World.cells?_some h1
   obtain ⟨y0, y1, y2, k, _, _, g0, g1, g2⟩ := Deep.trod_struct3 Tryz.underlying37 h2
   match cs', hlen with
   | [v0, v1, v2], _ =>
    have e0 := hcell 0 (by omega)
    have e1 := hcell 1 (by omega)
    have e2 := hcell 2 (by omega)
    rw [Deep.add_add] at e0 e1 e2
    have k0 : DataW.trod enc Tryz.prog W 0 (fun _ => true) true k 3 [v0] = some y0 := g0
    have k1 : DataW.trod enc Tryz.prog W 0 (fun _ => true) true k 3 [v1] = some y1 := g1
    have k2 : DataW.trod enc Tryz.prog W 0 (fun _ => true) true k 2 [v2] = some y2 := g2
    obtain ⟨z0, a0, _, _⟩ := DataW.trod_int Tryz.underlying3 k0
    obtain ⟨z1, a1, _, _⟩ := DataW.trod_int Tryz.underlying3 k1
    obtain ⟨z2, a2, _, _⟩ := DataW.trod_int Tryz.underlying2 k2
    simp only [List.cons.injEq, and_true] at a0 a1 a2
    subst a0; subst a1; subst a2
    exact ⟨(z0, z1, z2), by simpa using e0, by simpa using e1, by simpa using e2⟩
  obtain ⟨g, hg⟩ := Deep.choose_lt each
  refine ⟨(List.range len).map g, ?_⟩
  by_cases h0 : len = 0
  ·subst h0
   exact .inl ⟨⟨_, _, rfl⟩, by simp⟩
  ·obtain ⟨b, off, spot⟩ := ad
   have hc0 := (hg 0 (by omega)).1
   have hspot : spot = none := by simpa [Addr.add] using World.cell?_spot hc0
   subst hspot
   rw [Go.WideShapes.add_plain] at hc0
   have hlt : b < W.heap.size := World.block_lt_of_cell? W ⟨b, _, none⟩ hc0
   refine .inr ⟨b, off, m, by simp, hlt, by simp; omega, fun j y hy => ?_⟩
   have hj : j < len := by simpa using (List.getElem?_eq_some_iff.1 hy).1
   have hyj : y = g j := by simpa [hj] using hy.symm
   subst hyj
   obtain ⟨h1, h2, h3⟩ := hg j hj
   rw [Go.WideShapes.add_plain] at h1 h2 h3
   exact ⟨h1, h2, h3⟩
set_option maxRecDepth 100000 in
theorem graph_in {W : World} {v : Value} {H : Type} {d : DataW H} {p : List MemPlace} {enc : TypeId × Value → H} {base : Nat} {r : Reach}
  (hv : Value.okWide Tryz.prog W r base 24 v) (h : DataW.Trod enc Tryz.prog W 0 (fun _ => true) true 24 v d p) :
  ∃ (n : Int) (sv : Value) (l : List Ed), v = .agg #[.int .i64 n, sv] ∧ Edges W.heap.size W sv l := by
 obtain ⟨v0, v1, y0, y1, k, rfl, _, _, h0, h1⟩ := open_agg2 Tryz.underlying24 (by kernel_rfl) (by kernel_rfl) hv h
 have k0 : DataW.trod enc Tryz.prog W 0 (fun _ => true) true k 3 [v0] = some y0 := h0
 have k1 : DataW.trod enc Tryz.prog W 0 (fun _ => true) true k 22 [v1] = some y1 := h1
 obtain ⟨z, a, _, _⟩ := DataW.trod_int Tryz.underlying3 k0
 simp only [List.cons.injEq, and_true] at a
 subst a
 obtain ⟨l, hl⟩ := edges_in k1
 exact ⟨z, v1, l, rfl, hl⟩
end Go.Proofs.YtjpkojmjiaoifaaGreat

namespace Go.Proofs.YtjpkojmjiaoifaaGreat
open Go Go.ChangeShapes Go.WideShapes Go.ChangeAt Go.RowKit Go.Joins
theorem vals_in {α : Type} {en : α → Value} {W : World} {a : Option Addr} {len cap : Nat} {H : Type} {x : DataW H × List MemPlace} {enc : TypeId × Value → H} {fuel : Nat} {t e : TypeId}
  (ht : Tryz.prog.underlying t = some (.slice e)) (hc1 : Tryz.prog.cellsOf e = 1) (hone : ∀ n v y, DataW.trod enc Tryz.prog W 0 (fun _ => true) true n e [v] = some y → ∃ z : α, v = en z)
  (hf : DataW.trod enc Tryz.prog W 0 (fun _ => true) true fuel t [.slice a len cap] = some x) : ∃ l : List α, Vals en W.heap.size W (.slice a len cap) l := by
 rcases Deep.open_slice1 ht hc1 hf with ⟨hcs, _⟩ | ⟨ad, ln, cp, m, n, V, D, Pl, hcs, _, hl, hm, hmm, hx, hc⟩
 ·simp only [List.cons.injEq, and_true, Value.slice.injEq] at hcs
  obtain ⟨rfl, rfl, rfl⟩ := hcs
  exact ⟨[], Vals.nil _ _ _ _⟩
 ·simp only [List.cons.injEq, and_true, Value.slice.injEq] at hcs
  obtain ⟨rfl, rfl, rfl⟩ := hcs
  simp at hmm
  subst hmm
  have each : ∀ i, i < len → ∃ z : α, W.cell? (ad.add i) = some (en z) := fun i hi => by
   obtain ⟨h1, h2⟩ := hc i (by omega)
   obtain ⟨z, hz⟩ := hone _ _ _ h2
   exact ⟨z, by rw [h1, hz]⟩
  by_cases h0 : len = 0
  ·subst h0
   exact ⟨[], Vals.nil _ _ _ _⟩
  ·obtain ⟨z0, hz0⟩ := each 0 (by omega)
   have : Inhabited α := ⟨z0⟩
   obtain ⟨g, hg⟩ := Deep.choose_lt each
   refine ⟨(List.range len).map g, ?_⟩
   obtain ⟨b, off, spot⟩ := ad
   have hc0 := hg 0 (by omega)
   have hspot : spot = none := by simpa [Addr.add] using World.cell?_spot hc0
   subst hspot
   rw [Go.WideShapes.add_plain] at hc0
   have hlt : b < W.heap.size := World.block_lt_of_cell? W ⟨b, _, none⟩ hc0
   refine .inr ⟨b, off, m, by simp, hlt, by simp; omega, fun j y hy => ?_⟩
   have hj : j < len := by simpa using (List.getElem?_eq_some_iff.1 hy).1
   have hyj : y = g j := by simpa [hj] using hy.symm
   subst hyj
   have h1 := hg j hj
   rw [Go.WideShapes.add_plain] at h1
   exact h1
set_option maxRecDepth 100000 in
theorem ints_in {W : World} {v : Value} {H : Type} {d : DataW H} {p : List MemPlace} {enc : TypeId × Value → H} {base : Nat} {r : Reach}
  (hv : Value.okWide Tryz.prog W r base 28 v) (h : DataW.Trod enc Tryz.prog W 0 (fun _ => true) true 28 v d p) : ∃ l : List Int, Ints W.heap.size W v l := by
 obtain ⟨a, len, cap, rfl⟩ := okWide_slice Tryz.underlying28 hv
 obtain ⟨fuel, hf⟩ := h
 refine vals_in Tryz.underlying28 (by kernel_rfl) (fun n v y hy => ?_) (by simpa [Value.cells] using hf)
 obtain ⟨z, e1, _⟩ := DataW.trod_int Tryz.underlying3 hy
 exact ⟨z, by simpa using e1⟩
end Go.Proofs.YtjpkojmjiaoifaaGreat

namespace Go.Proofs.YtjpkojmjiaoifaaGreat
open Go Go.Proofs
def nbOf (e : Ed) (x : Int) : List Int := if e.1 = x then [e.2.1] else if e.2.1 = x then [e.1] else []
def nb (l : List Ed) (x : Int) : List Int := l.flatMap fun e => nbOf e x
theorem nb_snoc {l : List Ed} {j : Nat} (h : j < l.length) (x : Int) : nb (l.take (j + 1)) x = nb (l.take j) x ++ nbOf l[j] x := by
 unfold nb
 rw [List.take_add_one, List.getElem?_eq_getElem h, List.flatMap_append]
 simp
theorem nb_le (l : List Ed) (x : Int) (j : Nat) : (nb (l.take j) x).length ≤ (nb l x).length := by
 have h : nb l x = nb (l.take j) x ++ nb (l.drop j) x := by unfold nb; rw [← List.flatMap_append, List.take_append_drop]
 rw [h, List.length_append]; omega
theorem nbOf_len (e : Ed) (x : Int) : (nbOf e x).length ≤ 1 := by unfold nbOf; split <;> (try split) <;> simp
theorem nb_len (x : Int) : ∀ l : List Ed, (nb l x).length ≤ l.length
 | [] => Nat.le_refl _
 | e :: l => by
  have := nb_len x l; have := nbOf_len e x
  unfold nb at *
  rw [List.flatMap_cons, List.length_append, List.length_cons]; omega
theorem mem_nb {l : List Ed} {x y : Int} : y ∈ nb l x ↔ ∃ e ∈ l, (e.1 = x ∧ e.2.1 = y) ∨ (e.1 ≠ x ∧ e.2.1 = x ∧ e.1 = y) := by
 unfold nb
 rw [List.mem_flatMap]
 constructor
 ·rintro ⟨e, he, hy⟩
  refine ⟨e, he, ?_⟩
  unfold nbOf at hy
  split at hy
  ·left; exact ⟨by assumption, (List.mem_singleton.1 hy).symm⟩
  ·split at hy
   ·right; exact ⟨by assumption, by assumption, (List.mem_singleton.1 hy).symm⟩
   ·cases hy
 ·rintro ⟨e, he, h | h⟩
  ·exact ⟨e, he, by unfold nbOf; rw [if_pos h.1, h.2]; exact List.mem_singleton.2 rfl⟩
  ·exact ⟨e, he, by unfold nbOf; rw [if_neg h.1, if_pos h.2.1, h.2.2]; exact List.mem_singleton.2 rfl⟩
theorem nb_mutual {n : Int} {l : List Ed} (hR : RightG n l) {x y : Int} (h : y ∈ nb l x) : x ∈ nb l y ∧ 0 ≤ y ∧ y < n ∧ y ≠ x := by
 obtain ⟨e, he, hc⟩ := mem_nb.1 h
 have hok := hR.each e he
 unfold okE at hok
 refine ⟨mem_nb.2 ⟨e, he, ?_⟩, ?_⟩
 ·omega
 ·omega
theorem nb_rise {n : Int} {l : List Ed} (hR : RightG n l) (x : Int) : (nb l x).Pairwise (· < ·) := by
 unfold nb
 rw [List.pairwise_flatMap]
 refine ⟨fun e _ => ?_, ?_⟩
 ·unfold nbOf
  split
  ·exact List.pairwise_singleton _ _
  ·split
   ·exact List.pairwise_singleton _ _
   ·exact List.Pairwise.nil
 ·refine hR.rise.imp_of_mem fun {a b} ha hb hlo y hy z hz => ?_
  have h1 := (hR.each a ha).2
  have h2 := (hR.each b hb).2
  rw [lo_iff] at hlo
  unfold nbOf at hy hz
  split at hy
  ·have := List.mem_singleton.1 hy
   split at hz
   ·have := List.mem_singleton.1 hz; omega
   ·split at hz
    ·have := List.mem_singleton.1 hz; omega
    ·cases hz
  ·split at hy
   ·have := List.mem_singleton.1 hy
    split at hz
    ·have := List.mem_singleton.1 hz; omega
    ·split at hz
     ·have := List.mem_singleton.1 hz; omega
     ·cases hz
   ·cases hy
def degS (l : List Ed) : Nat → Nat
 | 0 => 0
 | v + 1 => degS l v + (nb l (v : Int)).length
theorem degS_nil : ∀ v, degS [] v = 0
 | 0 => rfl
 | v + 1 => by rw [degS, degS_nil v]; rfl
def endsLow (e : Ed) (v : Nat) : Nat := (if e.1 < (v : Int) then 1 else 0) + (if e.2.1 < (v : Int) then 1 else 0)
theorem degS_cons {e : Ed} {l : List Ed} (h0 : 0 ≤ e.1) (h1 : 0 ≤ e.2.1) (hne : e.1 ≠ e.2.1) : ∀ v, degS (e :: l) v = endsLow e v + degS l v
 | 0 => by
  unfold endsLow
  rw [if_neg (by omega), if_neg (by omega)]
  rfl
 | v + 1 => by
  rw [degS, degS, degS_cons h0 h1 hne v]
  have hl : (nb (e :: l) (v : Int)).length = (nbOf e (v : Int)).length + (nb l (v : Int)).length := by unfold nb; rw [List.flatMap_cons, List.length_append]
  rw [hl]
  have : endsLow e (v + 1) = endsLow e v + (nbOf e (v : Int)).length := by
   unfold endsLow nbOf
   by_cases a : e.1 = (v : Int)
   ·rw [if_pos a]
    simp only [List.length_singleton]
    split <;> split <;> split <;> split <;> omega
   ·rw [if_neg a]
    by_cases b : e.2.1 = (v : Int)
    ·rw [if_pos b]
     simp only [List.length_singleton]
     split <;> split <;> split <;> split <;> omega
    ·rw [if_neg b]
     simp only [List.length_nil]
     split <;> split <;> split <;> split <;> omega
  omega
theorem degS_all {n : Nat} : ∀ {l : List Ed}, (∀ e ∈ l, okE (n : Int) e) → degS l n = 2 * l.length
 | [], _ => degS_nil n
 | e :: l, h => by
  have he := h e (List.mem_cons_self ..)
  unfold okE at he
  rw [degS_cons (by omega) (by omega) (by omega), degS_all fun x hx => h x (List.mem_cons_of_mem _ hx), List.length_cons]
  unfold endsLow
  rw [if_pos (by omega), if_pos (by omega)]
  omega
theorem degS_le {l : List Ed} {v n : Nat} (h : v ≤ n) : degS l v ≤ degS l n := by
 induction h with
 | refl => exact Nat.le_refl _
 | step _ ih => rw [degS]; omega
end Go.Proofs.YtjpkojmjiaoifaaGreat

namespace Go.Proofs.YtjpkojmjiaoifaaGreat
open Go Go.Proofs Go.RowKit
def Blk (t : TypeId) (W : World) (g : Nat) (vs : List Value) : Prop := W.heap[g]? = some (.cells vs.toArray t (0, 0))
theorem Blk.lt {t : TypeId} {W : World} {g : Nat} {vs : List Value} (h : Blk t W g vs) : g < W.heap.size := (Array.getElem?_eq_some_iff.1 h).1
theorem Blk.cell {t : TypeId} {W : World} {g : Nat} {vs : List Value} (h : Blk t W g vs) {j : Nat} {v : Value} (hj : vs[j]? = some v) : W.cell? ⟨g, j, none⟩ = some v := by
 unfold Blk at h
 simp only [World.cell?, h]
 simpa using hj
theorem Blk.frozen {t : TypeId} {W : World} {g : Nat} {vs : List Value} (h : Blk t W g vs) (j : Nat) : W.frozen? ⟨g, j, none⟩ = false := by
 unfold Blk at h
 simp [World.frozen?, h]
theorem Blk.below {t : TypeId} {A B : World} {g n : Nat} {vs : List Value} (h : Blk t A g vs) (hb : Below n A B) (hg : g < n) : Blk t B g vs := (hb.block g hg).trans h
theorem Blk.go {t : TypeId} {A B : World} {g : Nat} {vs : List Value} (h : Blk t A g vs) (hb : Below A.heap.size A B) : Blk t B g vs := h.below hb h.lt
theorem Blk.set {t : TypeId} {W : World} {g : Nat} {vs : List Value} (h : Blk t W g vs) (j : Nat) (v : Value) : Blk t (W.setCell ⟨g, j, none⟩ v) g (vs.set j v) := by
 obtain ⟨hlt, hk⟩ := Array.getElem?_eq_some_iff.1 h
 show (W.heap.modify g _)[g]? = _
 rw [Array.getElem?_eq_getElem (by rw [Array.size_modify]; exact hlt), Array.getElem_modify_self, hk]
 simp
theorem Blk.other {t : TypeId} {W : World} {g : Nat} {vs : List Value} (h : Blk t W g vs) {p : Addr} (hp : g ≠ p.block) (v : Value) : Blk t (W.setCell p v) g vs := (Below.heap_setCell _ _ _ _ hp).trans h
theorem Blk.made {t : TypeId} {W : World} {g n k base : Nat} {z : Value} (h : W.ownsRow base t k (.slice (some ⟨g, 0, none⟩) n n) n (madeCells z.cells (n * k)).toList) : Blk t W g (madeCells z.cells (n * k)).toList := by
 obtain ⟨h1, h2⟩ := h
 rcases h2 with ⟨h2, _⟩ | ⟨g', cap, cur, e, _, hb, _, _, hsz, ht⟩
 ·cases h2
 ·simp only [Value.slice.injEq, Option.some.injEq, Addr.mk.injEq] at e
  obtain ⟨⟨rfl, _, _⟩, _, rfl⟩ := e
  unfold Blk
  rw [hb]
  congr 2
  apply Array.toList_inj.1
  rw [List.take_of_length_le (by simp [hsz])] at ht
  rw [ht]
def flat (l : List Ed) : List Value := l.flatMap encE
theorem flat_cons (e : Ed) (l : List Ed) : flat (e :: l) = .int .i64 e.1 :: .int .i64 e.2.1 :: .int .i64 e.2.2 :: flat l := rfl
theorem flat_len : ∀ l : List Ed, (flat l).length = l.length * 3
 | [] => rfl
 | e :: l => by rw [flat_cons]; simp [flat_len l]; omega
theorem flat_at : ∀ {l : List Ed} {j : Nat} {x : Ed}, l[j]? = some x → (flat l)[j * 3]? = some (.int .i64 x.1) ∧ (flat l)[j * 3 + 1]? = some (.int .i64 x.2.1) ∧ (flat l)[j * 3 + 2]? = some (.int .i64 x.2.2)
 | [], j, x, h => by simp at h
 | e :: l, 0, x, h => by simp at h; subst h; rw [flat_cons]; simp
 | e :: l, j + 1, x, h => by
  rw [flat_cons, show (j + 1) * 3 = j * 3 + 1 + 1 + 1 by omega]
  simpa using flat_at (l := l) (j := j) (by simpa using h)
theorem Blk.edges {W : World} {g : Nat} {l : List Ed} {t : TypeId} (h : Blk t W g (flat l)) : Edges W.heap.size W (.slice (some ⟨g, 0, none⟩) l.length l.length) l :=
 .inr ⟨g, 0, l.length, rfl, h.lt, Nat.le_refl _, fun j x hx => by
  simp only [Nat.zero_add]
  exact ⟨h.cell (flat_at hx).1, h.cell (flat_at hx).2.1, h.cell (flat_at hx).2.2⟩⟩
end Go.Proofs.YtjpkojmjiaoifaaGreat

namespace Go.Proofs.YtjpkojmjiaoifaaGreat
open Go Go.Proofs Go.RowKit
theorem infoI : (Tryz.prog.info? 3).map (fun i => (i.zero, i.size, i.bytes)) = some (some (.int .i64 0), 1, 8) := by kernel_rfl
theorem ints_made (n : Nat) : (madeCells (Value.int .i64 0).cells (n * 1)).toList = (List.replicate n (0 : Int)).map (Value.int .i64) := by
 apply List.ext_getElem
 ·simp [madeCells]
 ·intro i h1 h2
  simp [madeCells, Value.cells, Nat.mod_one]
theorem Blk.ints {W : World} {g : Nat} {l : List Int} {t : TypeId} (h : Blk t W g (l.map (Value.int .i64))) : Ints W.heap.size W (.slice (some ⟨g, 0, none⟩) l.length l.length) l :=
 .inr ⟨g, 0, l.length, rfl, h.lt, Nat.le_refl _, fun j x hx => by rw [Nat.zero_add]; exact h.cell (by rw [List.getElem?_map, hx]; rfl)⟩
def degL (N : Nat) (l : List Ed) (j : Nat) : List Int := (List.range N).map fun (v : Nat) => ((nb (l.take j) (v : Int)).length : Int)
theorem degL_len (N : Nat) (l : List Ed) (j : Nat) : (degL N l j).length = N := by simp [degL]
theorem degL_at {N : Nat} {l : List Ed} {j v : Nat} (h : v < N) : (degL N l j)[v]? = some ((nb (l.take j) (v : Int)).length : Int) := by simp [degL, h]
theorem degL_zero (N : Nat) (l : List Ed) : degL N l 0 = List.replicate N 0 := by
 apply List.ext_getElem <;> simp [degL, nb]
theorem degL_step {N : Nat} {l : List Ed} {j u v : Nat} (h : j < l.length) (hu : l[j].1 = (u : Int)) (hv : l[j].2.1 = (v : Int)) (hne : u ≠ v) (huN : u < N) (hvN : v < N) :
  ((degL N l j).set u ((nb (l.take j) (u : Int)).length + 1)).set v ((nb (l.take j) (v : Int)).length + 1) = degL N l (j + 1) := by
 apply List.ext_getElem?
 intro i
 by_cases hi : i < N
 ·rw [degL_at hi, List.getElem?_set, List.getElem?_set, degL_at hi, nb_snoc h, List.length_append]
  simp only [List.length_set, degL_len]
  unfold nbOf
  rw [hu, hv]
  by_cases h1 : v = i
  ·subst h1
   rw [if_pos rfl, if_pos hvN, if_neg (by omega), if_pos rfl]; simp
  ·rw [if_neg h1]
   by_cases h2 : u = i
   ·subst h2
    rw [if_pos rfl, if_pos huN, if_pos rfl]; simp
   ·rw [if_neg h2, if_neg (by omega), if_neg (by omega)]; simp
 ·rw [List.getElem?_eq_none (by simp [degL_len]; omega), List.getElem?_eq_none (by rw [degL_len]; omega)]
set_option maxRecDepth 100000 in
set_option maxHeartbeats 2000000 in
theorem degrees_any (N : Nat) (l : List Ed) (hR : RightG (N : Int) l) (sv : Value) (w : World) (hl : Edges w.heap.size w sv l) :
  Calls Tryz.prog 52 #[.agg #[.int .i64 (N : Int), sv]] w fun r w' => ∃ dv, r = .returned dv ∧ Ints w'.heap.size w' dv (degL N l l.length) ∧ (∃ g, dv = .slice (some ⟨g, 0, none⟩) N N ∧ w.heap.size < g) ∧ Below w.heap.size w w' := by
 have hg1 : Grew w (w.alloc (.cells #[.int .i64 (N : Int), sv] 24)) := (Grew.refl w).alloc _
 have hl1 := hl.go hg1.below
 obtain ⟨p, c, rfl⟩ := hl.len
 obtain ⟨i0, hi, hz0, hz1, hz2⟩ := info_parts infoI
 have hrc := fun W h => right_any (N : Int) l (.slice p l.length c) W h
 rw [right_iff.2 hR] at hrc
 have hn1 := hR.n1
 have hm1 := hR.m1
 go_enter Tryz.func52, Tryz.ntmps52
 go_wp2_with fail
 refine (hrc _ hl1).mono ?_
 rintro e w2 ⟨rfl, hg2⟩
 have q0 := (box2 _ hg2).1
 have q1 := (box2 _ hg2).2
 have hbox := box2_lt hg2
 have hbw := (hg1.trans hg2).below
 clear hrc hl1
 go_wp2_with (at_make; refine wpList_make_full _ rfl _ _ 28 rfl w2.heap.size 3 i0 (.int .i64 0) 1 Tryz.underlying28 hi hz0 hz1 .i64 .i64 _ _ N rfl rfl rfl rfl (by rw [hz2]; omega) (by unfold maxLen; omega) (Nat.le_refl _) ?_; intro w3 hown hgrow; have hb3 : Below w2.heap.size w2 w3 := (Below.refl _ _).grown hgrow (Nat.le_refl _) (fun k e => by cases e); have x1 := (hb3.cell (p := ⟨w.heap.size, 1, none⟩) hbox).trans q1)
 have hrow := Blk.made hown
 rw [ints_made, ← degL_zero N l] at hrow
 have hbw3 := hbw.trans (hb3.mono hbw.size)
 clear hown hgrow hi hz0 hz1 hz2 hb3 q0 q1 hg2 hg1 hbw
 generalize w2.heap.size = g at hrow hbox
 go_loopw [15] (fun i wr => ∃ j : Nat, j ≤ l.length ∧ i = .int .i64 j ∧ Blk 3 wr g ((degL N l j).map (Value.int .i64)) ∧ Below g w3 wr) (fun i _ => l.length - (intOf i).toNat)
 case atStart => exact ⟨0, Nat.zero_le _, rfl, hrow, Below.refl _ _⟩
 case round =>
  obtain ⟨j, hj, rfl, hB, hb⟩ := hrel
  have hbwr := hbw3.trans (hb.mono (by omega))
  have hgl := hB.lt
  by_cases hlt : j < l.length
  ·obtain ⟨b, off, rfl, hbb, hcap, hc, -⟩ := hl.open hlt
   obtain ⟨c0, c1, c2⟩ := hc wr hbwr j hlt
   have hjl : (j : Int) < (l.length : Int) := by omega
   have hok := hR.each l[j] (List.getElem_mem hlt)
   unfold okE at hok
   obtain ⟨u, hu⟩ : ∃ u : Nat, l[j].1 = (u : Int) := ⟨l[j].1.toNat, by omega⟩
   obtain ⟨v, hv⟩ : ∃ v : Nat, l[j].2.1 = (v : Int) := ⟨l[j].2.1.toNat, by omega⟩
   have huN : u < N := by omega
   have hvN : v < N := by omega
   have hne : u ≠ v := by omega
   have HS : Hid _ := degL_step (N := N) hlt hu hv hne huN hvN
   rw [hu] at c0
   rw [hv] at c1
   have hul := nb_le l (u : Int) j
   have hvl := nb_le l (v : Int) j
   have hul2 := nb_len (u : Int) l
   have hvl2 := nb_len (v : Int) l
   have huN' : (u : Int) < (N : Int) := by omega
   have hvN' : (v : Int) < (N : Int) := by omega
   have t0 : wr.cell? ⟨g, u, none⟩ = some (.int .i64 ((nb (l.take j) (u : Int)).length : Int)) := hB.cell (by rw [List.getElem?_map, degL_at huN]; rfl)
   have t1 : wr.cell? ⟨g, v, none⟩ = some (.int .i64 ((nb (l.take j) (v : Int)).length : Int)) := hB.cell (by rw [List.getElem?_map, degL_at hvN]; rfl)
   have f0 := hB.frozen u
   have f1 := hB.frozen v
   have hBn := (hB.set u (.int .i64 ((nb (l.take j) (u : Int)).length + 1))).set v (.int .i64 ((nb (l.take j) (v : Int)).length + 1))
   rw [← List.map_set, ← List.map_set, HS.out] at hBn
   generalize (nb (l.take j) (u : Int)).length = du at *
   generalize (nb (l.take j) (v : Int)).length = dv at *
   generalize l[j].2.2 = wv at c2
   have hbg : b ≠ g := by omega
   clear hc hok hu hv
   go_wp2
   exact ⟨⟨j + 1, by omega, by go_num, hBn.go ((Below.refl _ _).alloc (Nat.le_refl _) _), ((hb.setCell (p := ⟨g, u, none⟩) (Nat.le_refl _) _).setCell (p := ⟨g, v, none⟩) (Nat.le_refl _) _).alloc (by simp; omega) _⟩, by simp [intOf]; omega⟩
  ·obtain rfl : j = l.length := by omega
   have hI := hB.ints
   rw [degL_len] at hI
   go_wp2
   go_ret
   exact ⟨_, rfl, hI, ⟨g, rfl, hbox⟩, hbwr⟩
end Go.Proofs.YtjpkojmjiaoifaaGreat

namespace Go.Proofs.YtjpkojmjiaoifaaGreat
open Go Go.Proofs Go.RowKit
def cntL (N : Nat) (l : List Int) (j : Nat) : List Int := (List.range N).map fun (v : Nat) => (((l.take j).count (v : Int) : Nat) : Int)
theorem cntL_len (N : Nat) (l : List Int) (j : Nat) : (cntL N l j).length = N := by simp [cntL]
theorem cntL_at {N : Nat} {l : List Int} {j v : Nat} (h : v < N) : (cntL N l j)[v]? = some (((l.take j).count (v : Int) : Nat) : Int) := by simp [cntL, h]
theorem cntL_zero (N : Nat) (l : List Int) : cntL N l 0 = List.replicate N 0 := by
 apply List.ext_getElem <;> simp [cntL]
theorem count_next {l : List Int} {j : Nat} (h : j < l.length) (x : Int) : (l.take (j + 1)).count x = (l.take j).count x + (if l[j] = x then 1 else 0) := by
 rw [List.take_add_one, List.getElem?_eq_getElem h, List.count_append]
 congr 1
 show List.count x [l[j]] = _
 rw [List.count_singleton]
 by_cases hx : l[j] = x
 ·rw [if_pos hx, if_pos (by simpa using hx)]
 ·rw [if_neg hx, if_neg (by simpa using hx)]
theorem cntL_step {N : Nat} {l : List Int} {j u : Nat} (h : j < l.length) (hu : l[j] = (u : Int)) (huN : u < N) :
  (cntL N l j).set u (((l.take j).count (u : Int) : Nat) + 1) = cntL N l (j + 1) := by
 apply List.ext_getElem?
 intro i
 by_cases hi : i < N
 ·rw [cntL_at hi, List.getElem?_set, cntL_at hi, count_next h, cntL_len, hu]
  by_cases h1 : u = i
  ·subst h1
   rw [if_pos rfl, if_pos huN, if_pos rfl]
   simp
  ·rw [if_neg h1, if_neg (by omega)]
   simp
 ·rw [List.getElem?_eq_none (by simp [cntL_len]; omega), List.getElem?_eq_none (by rw [cntL_len]; omega)]
def Labels (l : List Int) : Prop := ∀ x ∈ l, 0 ≤ x ∧ x < (l.length : Int)
set_option maxRecDepth 100000 in
set_option maxHeartbeats 2000000 in
theorem counted_any (l : List Int) (hL : Labels l) (hl : l.length ≤ 4194304) (sv : Value) (w : World) (hA : Ints w.heap.size w sv l) :
  Calls Tryz.prog 85 #[sv] w fun r w' => ∃ g, r = .returned (.slice (some ⟨g, 0, none⟩) l.length l.length) ∧ Blk 3 w' g ((cntL l.length l l.length).map (Value.int .i64)) ∧ w.heap.size ≤ g ∧ Below w.heap.size w w' := by
 obtain ⟨p, c, rfl⟩ := hA.len
 obtain ⟨i0, hi, hz0, hz1, hz2⟩ := info_parts infoI
 go_enter Tryz.func85, Tryz.ntmps85
 go_wp2_with (at_make; refine wpList_make_full _ rfl _ _ 28 rfl w.heap.size 3 i0 (.int .i64 0) 1 Tryz.underlying28 hi hz0 hz1 .i64 .i64 _ _ l.length rfl rfl rfl rfl (by rw [hz2]; omega) (by unfold maxLen; omega) (Nat.le_refl _) ?_; intro w3 hown hgrow; have hb3 : Below w.heap.size w w3 := (Below.refl _ _).grown hgrow (Nat.le_refl _) (fun k e => by cases e))
 have hrow := Blk.made hown
 rw [ints_made, ← cntL_zero l.length l] at hrow
 clear hown hgrow hi hz0 hz1 hz2
 have hwg : w.heap.size ≤ w.heap.size := Nat.le_refl _
 obtain ⟨g, hg⟩ : ∃ g, g = w.heap.size := ⟨_, rfl⟩
 rw [← hg] at hrow ⊢
 go_loopw [11] (fun i wr => ∃ j : Nat, j ≤ l.length ∧ i = .int .i64 j ∧ Blk 3 wr g ((cntL l.length l j).map (Value.int .i64)) ∧ Below g w3 wr) (fun i _ => l.length - (intOf i).toNat)
 case atStart => exact ⟨0, Nat.zero_le _, rfl, hrow, Below.refl _ _⟩
 case round =>
  obtain ⟨j, hj, rfl, hB, hb⟩ := hrel
  have hbwr : Below w.heap.size w wr := hb3.trans (hb.mono (by omega))
  have hgl := hB.lt
  by_cases hlt : j < l.length
  ·obtain ⟨b, off, rfl, hbb, hcap, hc⟩ := hA.open hlt
   have c0 := hc wr hbwr j hlt
   have hjl : (j : Int) < (l.length : Int) := by omega
   have hok := hL l[j] (List.getElem_mem hlt)
   obtain ⟨u, hu⟩ : ∃ u : Nat, l[j] = (u : Int) := ⟨l[j].toNat, by omega⟩
   have huN : u < l.length := by omega
   have HS : Hid _ := cntL_step (N := l.length) hlt hu huN
   rw [hu] at c0
   have hul : (l.take j).count (u : Int) ≤ l.length := Nat.le_trans List.count_le_length (by rw [List.length_take]; omega)
   have huN' : (u : Int) < (l.length : Int) := by omega
   have t0 : wr.cell? ⟨g, u, none⟩ = some (.int .i64 (((l.take j).count (u : Int) : Nat) : Int)) := hB.cell (by rw [List.getElem?_map, cntL_at huN]; rfl)
   have f0 := hB.frozen u
   have hBn := hB.set u (.int .i64 (((l.take j).count (u : Int) : Nat) + 1))
   rw [← List.map_set, HS.out] at hBn
   generalize (l.take j).count (u : Int) = du at *
   have hbg : b ≠ g := by omega
   clear hc hok hu hg
   go_wp2
   exact ⟨⟨j + 1, by omega, by go_num, hBn, hb.setCell (p := ⟨g, u, none⟩) (Nat.le_refl _) _⟩, by simp [intOf]; omega⟩
  ·obtain rfl : j = l.length := by omega
   go_wp2
   go_ret
   exact ⟨g, rfl, hB, by omega, hbwr⟩
end Go.Proofs.YtjpkojmjiaoifaaGreat
