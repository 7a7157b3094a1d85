import Derived.Deep.QuietTactic
import Derived.Deep.RegionWith
import Derived.Deep.RegionHeld3
import Derived.Test.YtjpkojmjiaoifaaGreatZAF
import Derived.Test.YtjpkojmjiaoifaaGreatZAC
import Derived.Maps.OwnSet
import Derived.WalkMore
import Derived.Shelf.Bits.Mul64
import Derived.Ground.Names2Prog
import Derived.Test.YtjpkojmjiaoifaaGreatProg
namespace Go.Proofs.YtjpkojmjiaoifaaGreat
open Go Go.Proofs Go.RowKit
def Lsts (n : Nat) (W : World) (sv : Value) (LL : List (List Int)) : Prop :=
 ((∃ p c, sv = .slice p 0 c) ∧ LL = []) ∨ ∃ b off cap, sv = .slice (some ⟨b, off, none⟩) LL.length cap ∧ b < n ∧ LL.length ≤ cap ∧ ∀ (j : Nat) (x : List Int), LL[j]? = some x → ∃ sx, W.cell? ⟨b, off + j, none⟩ = some sx ∧ Ints n W sx x
theorem Lsts.below {n : Nat} {W W' : World} {sv : Value} {LL : List (List Int)} (h : Lsts n W sv LL) (hb : Below n W W') : Lsts n W' sv LL := by
 rcases h with h | ⟨b, off, cap, h1, h2, h3, h4⟩
 ·exact .inl h
 ·exact .inr ⟨b, off, cap, h1, h2, h3, fun j x hx => by
   obtain ⟨sx, h5, h6⟩ := h4 j x hx
   exact ⟨sx, (hb.cell (p := ⟨b, _, none⟩) h2).trans h5, h6.below hb⟩⟩
theorem Lsts.mono {n m : Nat} {W : World} {sv : Value} {LL : List (List Int)} (h : Lsts n W sv LL) (hb : n ≤ m) : Lsts m W sv LL := by
 rcases h with h | ⟨b, off, cap, h1, h2, h3, h4⟩
 ·exact .inl h
 ·exact .inr ⟨b, off, cap, h1, Nat.lt_of_lt_of_le h2 hb, h3, fun j x hx => by
   obtain ⟨sx, h5, h6⟩ := h4 j x hx
   exact ⟨sx, h5, h6.mono hb⟩⟩
theorem Lsts.go {W W' : World} {sv : Value} {LL : List (List Int)} (h : Lsts W.heap.size W sv LL) (hb : Below W.heap.size W W') : Lsts W'.heap.size W' sv LL := (h.below hb).mono hb.size
theorem Lsts.len {n : Nat} {W : World} {sv : Value} {LL : List (List Int)} (h : Lsts n W sv LL) : ∃ p c, sv = .slice p LL.length c := by
 rcases h with ⟨⟨p, c, rfl⟩, rfl⟩ | ⟨b, off, cap, rfl, _⟩ <;> exact ⟨_, _, rfl⟩
theorem Lsts.cellAt {n : Nat} {w : World} {p : Option Addr} {c : Nat} {L : List (List Int)} (h : Lsts n w (.slice p L.length c) L) {j : Nat} (hj : j < L.length) :
  ∃ b off, p = some ⟨b, off, none⟩ ∧ b < n ∧ L.length ≤ c ∧ ∃ px cx, Ints n w (.slice px L[j].length cx) L[j] ∧ w.cell? ⟨b, off + j, none⟩ = some (.slice px L[j].length cx) := by
 rcases h with ⟨_, h0⟩ | ⟨b, off, cap, h1, h2, h3, h4⟩
 ·subst h0; simp at hj
 ·simp only [Value.slice.injEq] at h1
  obtain ⟨rfl, _, rfl⟩ := h1
  obtain ⟨sx, h5, h6⟩ := h4 j _ (List.getElem?_eq_getElem hj)
  obtain ⟨px, cx, rfl⟩ := h6.len
  exact ⟨b, off, rfl, h2, h3, px, cx, h6, h5⟩
set_option maxRecDepth 100000 in
set_option maxHeartbeats 2000000 in
theorem refInts_any (a b : List Int) (hlen : a.length ≤ 4194304) (sa sb : Value) (w : World) (ha : Ints w.heap.size w sa a) (hb : Ints w.heap.size w sb b) :
  Calls Tryz.prog 15 #[sa, sb] w fun r w' => r = .returned (.bool (decide (a = b))) ∧ Grew w w' := by
 obtain ⟨p, c, rfl⟩ := ha.len
 obtain ⟨q, d, rfl⟩ := hb.len
 have hmix := mixed
 by_cases hlk : a.length = b.length
 ·have hlk' : ((a.length : Int) != (b.length : Int)) = false := by simp; omega
  have HL : Hid (a.length = b.length) := hlk
  clear hlk
  go_enter Tryz.func15, Tryz.ntmps15
  go_wp2
  go_loopw [5] (fun i wr => ∃ j : Nat, j ≤ a.length ∧ i = .int .i64 j ∧ Hid (a.take j = b.take j) ∧ Grew w wr) (fun i _ => a.length - (intOf i).toNat)
  case atStart => exact ⟨0, Nat.zero_le _, rfl, rfl, Grew.refl _⟩
  case round =>
   obtain ⟨j, hj, rfl, hr, hg⟩ := hrel
   by_cases hlt : j < a.length
   ·have hlt2 : j < b.length := by have := HL.out; omega
    obtain ⟨b1, off, rfl, hbb, hcap, hc⟩ := ha.open hlt
    obtain ⟨b2, off2, rfl, hbb2, hcap2, hc2⟩ := hb.open hlt2
    have c0 := hc wr hg.below j hlt
    have d0 := hc2 wr hg.below j hlt2
    have hjl : (j : Int) < (a.length : Int) := by omega
    have hjl2 : (j : Int) < (b.length : Int) := by omega
    have HS : Hid (a[j] = b[j] → a.take (j + 1) = b.take (j + 1)) := fun h => by
     rw [List.take_add_one, List.take_add_one, hr.out, List.getElem?_eq_getElem hlt, List.getElem?_eq_getElem hlt2, h]
    have HN : Hid (a[j] ≠ b[j] → a ≠ b) := fun h e => by subst e; exact h rfl
    clear hc hc2 hr
    generalize a[j] = x at c0 HS HN
    generalize b[j] = y at d0 HS HN
    by_cases he : x = y
    ·have hb' : (x != y) = false := by simpa using he
     have HT : Hid _ := HS.out he
     clear HS HN he
     go_wp2
     go_quiet (fail)
     have hgq := hg.drewN nq
     generalize wr.drewN nq = w8 at hgq ⊢
     go_wp2
     exact ⟨⟨j + 1, by omega, by go_num, HT, hgq⟩, by simp [intOf]; omega⟩
    ·have hb' : (x != y) = true := by simpa using he
     have HE : Hid (decide (a = b) = false) := decide_eq_false (HN.out he)
     clear HS HN he
     go_wp2
     go_quiet (fail)
     have hgq := hg.drewN nq
     generalize wr.drewN nq = w8 at hgq ⊢
     go_wp2
     go_ret
     exact ⟨by rw [HE.out]; rfl, hgq⟩
   ·obtain rfl : j = a.length := by omega
    have HE : Hid (decide (a = b) = true) := by
     have h1 := hr.out
     have h2 := HL.out
     rw [List.take_length, h2, List.take_length] at h1
     exact decide_eq_true h1
    clear hr
    go_wp2
    go_ret
    exact ⟨by rw [HE.out]; rfl, hg⟩
 ·have hlk' : ((a.length : Int) != (b.length : Int)) = true := by simp; omega
  have HE : Hid (decide (a = b) = false) := decide_eq_false (fun h => hlk (by rw [h]))
  clear hlk
  go_enter Tryz.func15, Tryz.ntmps15
  go_wp2
  go_ret
  exact ⟨by rw [HE.out]; rfl, Grew.refl w⟩
theorem ints_owned {W : World} {base : Nat} {e : TypeId} {v : Value} {l : List Int} (h : W.ownsRow base e 1 v l.length (l.map (Value.int .i64))) : Ints W.heap.size W v l := by
 rcases h.2 with ⟨rfl, h0⟩ | ⟨g, cap, cur, rfl, hb, hg, hn, hc⟩
 ·have : l = [] := List.eq_nil_of_length_eq_zero h0
  subst this
  exact .inl ⟨⟨_, _, rfl⟩, rfl⟩
 ·refine .inr ⟨g, 0, cap, rfl, (Array.getElem?_eq_some_iff.1 hg).1, hn, fun j x hx => ?_⟩
  have := h.cells (g := g) rfl j (.int .i64 x) (by rw [List.getElem?_map, hx]; rfl)
  rwa [Go.WideShapes.add_plain] at this
theorem Grp.lsts {h0 : Nat} {lv : Value} {svs : List Value} {pre : List (List Int)} {W : World} (h : Grp h0 lv svs pre W) : Lsts W.heap.size W lv pre := by
 have hlen := h.len
 rcases h.own.2 with ⟨rfl, h1⟩ | ⟨g, cap, cur, rfl, hb, hg, hn, hc⟩
 ·exact .inl ⟨⟨_, _, rfl⟩, List.eq_nil_of_length_eq_zero (by omega)⟩
 ·refine .inr ⟨g, 0, cap, by rw [hlen], (Array.getElem?_eq_some_iff.1 hg).1, by omega, fun j x hx => ?_⟩
  have hj := (List.getElem?_eq_some_iff.1 hx).1
  obtain ⟨sx, hs⟩ : ∃ sx, svs[j]? = some sx := ⟨_, List.getElem?_eq_getElem (by omega)⟩
  refine ⟨sx, ?_, ints_owned (h.inn j sx x hs hx)⟩
  have := h.own.cells (g := g) rfl j sx hs
  rwa [Go.WideShapes.add_plain] at this
end Go.Proofs.YtjpkojmjiaoifaaGreat

namespace Go.Proofs.YtjpkojmjiaoifaaGreat
open Go Go.ChangeShapes Go.WideShapes Go.ChangeAt Go.RowKit Go.Joins
set_option maxRecDepth 100000 in
theorem ints_trod {W : World} {v : Value} {H : Type} {x : DataW H × List MemPlace} {enc : TypeId × Value → H} {fuel : Nat}
  (hf : DataW.trod enc Tryz.prog W 0 (fun _ => true) true fuel 28 [v] = some x) : ∃ l : List Int, Ints W.heap.size W v l ∧ l.length ≤ 9223372036854775807 := by
 rcases Deep.open_slice1 Tryz.underlying28 (by kernel_rfl) hf with ⟨hcs, _⟩ | ⟨ad, len, cp, m, n, V, D, Pl, hcs, _, hl, hm, hmm, hx, hc⟩
 ·simp only [List.cons.injEq, and_true] at hcs
  subst hcs
  exact ⟨[], Vals.nil _ _ _ _, by decide⟩
 ·simp only [List.cons.injEq, and_true] at hcs
  subst hcs
  simp at hmm
  subst hmm
  unfold maxLen at hm
  have each : ∀ i, i < len → ∃ z : Int, W.cell? (ad.add i) = some (.int .i64 z) := fun i hi => by
   obtain ⟨h1, h2⟩ := hc i (by omega)
   obtain ⟨z, e1, _⟩ := DataW.trod_int Tryz.underlying3 h2
   exact ⟨z, by rw [h1]; simpa using e1⟩
  by_cases h0 : len = 0
  ·subst h0
   exact ⟨[], Vals.nil _ _ _ _, by decide⟩
  ·obtain ⟨g, hg⟩ := Deep.choose_lt each
   refine ⟨(List.range len).map g, ?_, by simp; omega⟩
   obtain ⟨b, off, spot⟩ := ad
   have hc0 := hg 0 (by omega)
   have hspot : spot = none := by simpa [Addr.add] using World.cell?_spot hc0
   subst hspot
   rw [Go.WideShapes.add_plain] at hc0
   have hlt : b < W.heap.size := World.block_lt_of_cell? W ⟨b, _, none⟩ hc0
   refine .inr ⟨b, off, m, by simp, hlt, by simp; omega, fun j y hy => ?_⟩
   have hj : j < len := by simpa using (List.getElem?_eq_some_iff.1 hy).1
   have hyj : y = g j := by simpa [hj] using hy.symm
   subst hyj
   have h1 := hg j hj
   rw [Go.WideShapes.add_plain] at h1
   exact h1
set_option maxRecDepth 100000 in
theorem lsts_in {W : World} {v : Value} {H : Type} {d : DataW H} {p : List MemPlace} {enc : TypeId × Value → H} {base : Nat} {r : Reach}
  (_hv : Value.okWide Tryz.prog W r base 25 v) (h : DataW.Trod enc Tryz.prog W 0 (fun _ => true) true 25 v d p) :
  ∃ L : List (List Int), Lsts W.heap.size W v L ∧ L.length ≤ 9223372036854775807 ∧ ∀ x ∈ L, x.length ≤ 9223372036854775807 := by
 obtain ⟨a, len0, cap, rfl⟩ := okWide_slice Tryz.underlying25 _hv
 obtain ⟨fuel, hf0⟩ := h
 have hf : DataW.trod enc Tryz.prog W 0 (fun _ => true) true fuel 25 [.slice a len0 cap] = some (d, p) := by simpa [Value.cells] using hf0
 rcases Deep.open_slice1 Tryz.underlying25 (by kernel_rfl) hf with ⟨hcs, _⟩ | ⟨ad, len, cp, m, n, V, D, Pl, hcs, _, hl, hm, hmm, hx, hc⟩
 ·rw [List.cons.injEq] at hcs
  rw [hcs.1]
  exact ⟨[], .inl ⟨⟨_, _, rfl⟩, rfl⟩, by decide, fun x hx => by simp at hx⟩
 ·rw [List.cons.injEq] at hcs
  rw [hcs.1]
  clear hcs hf hf0
  simp at hmm
  subst hmm
  unfold maxLen at hm
  have each : ∀ i, i < len → ∃ z : List Int, ∃ sx, W.cell? (ad.add i) = some sx ∧ Ints W.heap.size W sx z ∧ z.length ≤ 9223372036854775807 := fun i hi => by
   obtain ⟨h1, h2⟩ := hc i (by omega)
   obtain ⟨z, hz, hzl⟩ := ints_trod h2
   exact ⟨z, V i, h1, hz, hzl⟩
  by_cases h0 : len = 0
  ·subst h0
   exact ⟨[], .inl ⟨⟨_, _, rfl⟩, rfl⟩, by decide, fun x hx => by simp at hx⟩
  ·obtain ⟨g, hg⟩ := Deep.choose_lt each
   refine ⟨(List.range len).map g, ?_, by simp; omega, fun x hx => by
    obtain ⟨i, hi, rfl⟩ := List.mem_map.1 hx
    obtain ⟨_, _, _, h3⟩ := hg i (List.mem_range.1 hi)
    exact h3⟩
   obtain ⟨b, off, spot⟩ := ad
   obtain ⟨s0, hc0, _⟩ := hg 0 (by omega)
   have hspot : spot = none := by simpa [Addr.add] using World.cell?_spot hc0
   subst hspot
   rw [Go.WideShapes.add_plain] at hc0
   have hlt : b < W.heap.size := World.block_lt_of_cell? W ⟨b, _, none⟩ hc0
   refine .inr ⟨b, off, m, by simp, hlt, by simp; omega, fun j y hy => ?_⟩
   have hj : j < len := by simpa using (List.getElem?_eq_some_iff.1 hy).1
   have hyj : y = g j := by simpa [hj] using hy.symm
   subst hyj
   obtain ⟨sx, h1, h2, _⟩ := hg j hj
   rw [Go.WideShapes.add_plain] at h1
   exact ⟨sx, h1, h2⟩
end Go.Proofs.YtjpkojmjiaoifaaGreat

namespace Go.Proofs.YtjpkojmjiaoifaaGreat
open Go Go.Proofs Go.RowKit Go.Maps
theorem map_tight {P : Program} {k : TypeId} {R : Value → Option (DataW Unit × List MemPlace)} {w : World} {b n : Nat} {D : DataW Unit} (h : w.ownsMap P k R b n D) : w.ownsMap P k R b (Maps.size D) D := by
 obtain ⟨es, clock, hb, F, _, rfl⟩ := h
 exact ⟨es, clock, hb, F, by rw [Maps.size_eq, length_read]; exact Nat.le_refl _, rfl⟩
theorem keyedI : Keyed Tryz.prog 3 := int_keyed Tryz.underlying3
def SetD (D : DataW Unit) (S : List Int) : Prop := S.Nodup ∧ Maps.size D = S.length ∧ (∀ x ∈ S, (Lit.int .i64 x).wf = true) ∧ ∀ x : Int, (Maps.has D (.int .i64 x) = true ↔ x ∈ S)
def SetM (W : World) (b : Nat) (S : List Int) : Prop := ∃ D : DataW Unit, W.ownsMap Tryz.prog 3 unitElem b (Maps.size D) D ∧ SetD D S
theorem SetD.del {D : DataW Unit} {S : List Int} (hD : Tidy D) (h : SetD D S) (x : Int) : SetD (D.del (.int .i64 x)) (S.erase x) := by
 obtain ⟨h1, h2, h3, h4⟩ := h
 refine ⟨h1.erase x, ?_, fun y hy => h3 y (List.mem_of_mem_erase hy), fun y => ?_⟩
 ·have e := size_del (k := .int .i64 x) hD
  rw [List.length_erase]
  by_cases hx : x ∈ S
  ·rw [if_pos ((h4 x).2 hx)] at e
   rw [if_pos (by simpa using hx)]
   omega
  ·rw [if_neg (fun hh => hx ((h4 x).1 hh))] at e
   rw [if_neg (by simpa using hx)]
   omega
 ·rw [h1.mem_erase_iff]
  by_cases hy : y = x
  ·subst hy
   rw [has_del_same]
   simp
  ·rw [has_del_other (by simpa using hy), h4 y]
   simp [hy]
theorem SetD.put {D : DataW Unit} {S : List Int} (hD : Tidy D) (h : SetD D S) {x : Int} (hx : (Lit.int .i64 x).wf = true) (d : DataW Unit) : SetD (D.put (.int .i64 x) d) (if x ∈ S then S else S ++ [x]) := by
 obtain ⟨h1, h2, h3, h4⟩ := h
 have e := size_put (k := .int .i64 x) hD d
 have hh : ∀ y : Int, Maps.has (D.put (.int .i64 x) d) (.int .i64 y) = true ↔ y ∈ S ∨ y = x := by
  intro y
  by_cases hy : y = x
  ·subst hy
   rw [has_put_same hD.isMap (by simp [WideAt.IsKeyLit])]
   simp
  ·rw [has_put_other (by simpa using hy), h4 y]
   simp [hy]
 by_cases hm : x ∈ S
 ·rw [if_pos ((h4 x).2 hm)] at e
  rw [if_pos hm]
  refine ⟨h1, e.trans h2, h3, fun y => (hh y).trans ⟨fun q => q.elim id (fun q => q ▸ hm), Or.inl⟩⟩
 ·rw [if_neg (fun q => hm ((h4 x).1 q))] at e
  rw [if_neg hm]
  refine ⟨?_, by rw [e, h2]; simp, ?_, fun y => (hh y).trans (by simp)⟩
  ·rw [List.nodup_append]
   exact ⟨h1, by simp, fun a ha b hb => by simp at hb; subst hb; exact fun q => hm (q ▸ ha)⟩
  ·intro y hy
   rcases List.mem_append.1 hy with hy | hy
   ·exact h3 y hy
   ·simp at hy
    subst hy
    exact hx
theorem SetM.len {W : World} {b : Nat} {S : List Int} (h : SetM W b S) (ty : TypeId) : (Builtin.len_ #[71] ty #[.map (some b)]).run Tryz.prog W = .ok (.int .i64 S.length) W := by
 obtain ⟨D, ho, _, hs, _, _⟩ := h
 rw [← hs]
 exact ho.len Tryz.underlying71 ty
theorem SetM.drop {W : World} {b : Nat} {S : List Int} (h : SetM W b S) {x : Int} (hx : (Lit.int .i64 x).wf = true) (ty : TypeId) :
  ∃ W', (Builtin.delete_ #[71, 3] ty #[.map (some b), .int .i64 x]).run Tryz.prog W = .ok (.tuple #[]) W' ∧ SetM W' b (S.erase x) ∧ W.mapTurned W' b := by
 obtain ⟨D, ho, hs⟩ := h
 obtain ⟨W', hr, ho', ht⟩ := ho.drop keyedI Tryz.underlying71 (keyOf_int_mk Tryz.underlying3 hx) ty
 exact ⟨W', hr, ⟨_, map_tight ho', hs.del (ho.tidy keyedI) x⟩, ht⟩
theorem SetM.store {W : World} {b : Nat} {S : List Int} (h : SetM W b S) (hn : S.length < maxLen) {x : Int} (hx : (Lit.int .i64 x).wf = true) :
  ∃ W', (Instr.mapUpdate 71 (.map (some b)) (.int .i64 x) (.agg #[])).run Tryz.prog W = .ok () W' ∧ SetM W' b (if x ∈ S then S else S ++ [x]) ∧ W.mapTurned W' b := by
 obtain ⟨D, ho, hs⟩ := h
 obtain ⟨W', hr, ho', ht⟩ := ho.store keyedI Tryz.underlying71 (by rw [hs.2.1]; exact hn) (keyOf_int_mk Tryz.underlying3 hx) unitElem_mk
 exact ⟨W', hr, ⟨_, map_tight ho', hs.put (ho.tidy keyedI) hx _⟩, ht⟩
theorem SetM.look {W : World} {b : Nat} {S : List Int} (h : SetM W b S) {x : Int} (hx : (Lit.int .i64 x).wf = true) :
  (Instr.lookup 71 (.map (some b)) (.int .i64 x) true).run Tryz.prog W = .ok (.tuple #[.agg #[], .bool (decide (x ∈ S))]) W := by
 obtain ⟨D, ho, hs⟩ := h
 obtain ⟨v, ps, hr, hv⟩ := ho.look_ok keyedI Tryz.underlying71 (z := .agg #[]) (by kernel_rfl) unitElem_mk (keyOf_int_mk Tryz.underlying3 hx)
 obtain ⟨rfl, _⟩ := unitElem_inv hv
 rw [hr]
 have e : Maps.has D (.int .i64 x) = decide (x ∈ S) := by
  have := hs.2.2.2 x
  by_cases hm : x ∈ S
  ·simp [hm, this.2 hm]
  ·simp [hm]
   cases hq : Maps.has D (.int .i64 x)
   ·rfl
   ·exact absurd (this.1 hq) hm
 rw [e]
theorem SetM.made (W : World) : SetM (W.alloc (.map #[] 0)) W.heap.size [] :=
 ⟨.map [], World.ownsMap_made W _ _ _, by simp, rfl, by simp, by simp [Maps.has]⟩
theorem SetM.still {W W' : World} {b : Nat} {S : List Int} (h : SetM W b S) (hb : W'.heap[b]? = W.heap[b]?) : SetM W' b S := by
 obtain ⟨D, ⟨es, clock, hb0, F, hs, e⟩, hS⟩ := h
 exact ⟨D, ⟨es, clock, hb.trans hb0, F, hs, e⟩, hS⟩
theorem SetM.lt {W : World} {b : Nat} {S : List Int} (h : SetM W b S) : b < W.heap.size := by
 obtain ⟨D, ho, _⟩ := h
 exact ho.lt
theorem turned_other {W W' : World} {b c : Nat} (h : W.mapTurned W' b) (hc : c ≠ b) : W'.heap[c]? = W.heap[c]? := by
 obtain ⟨es, clock, es', clock', hb, rfl⟩ := h
 simp [ChangeMaps.setBlock, Ne.symm hc]
theorem turned_size {W W' : World} {b : Nat} (h : W.mapTurned W' b) : W'.heap.size = W.heap.size := by
 obtain ⟨es, clock, es', clock', hb, rfl⟩ := h
 simp [ChangeMaps.setBlock]
theorem turned_below {A W W' : World} {B b : Nat} (h : Below B A W) (ht : W.mapTurned W' b) (hB : B ≤ b) : Below B A W' := by
 refine h.trans ⟨?_, ?_, ?_, Nat.le_of_eq (turned_size ht).symm, fun k hk => turned_other ht (by omega)⟩ <;>
  (obtain ⟨es, clock, es', clock', hb, rfl⟩ := ht; rfl)
end Go.Proofs.YtjpkojmjiaoifaaGreat

namespace Go.Proofs.YtjpkojmjiaoifaaGreat
open Go Go.Proofs Go.RowKit Go.Maps
structure NM (g : Nat) (bs : List (Option Nat)) (N : List (Option (List Int))) (W : World) : Prop where
 row : Blk 71 W g (bs.map Value.map)
 len : bs.length = N.length
 at' : ∀ (v : Nat) (S : List Int), N[v]? = some (some S) → ∃ b, bs[v]? = some (some b) ∧ SetM W b S
 gone : ∀ v : Nat, N[v]? = some none → bs[v]? = some none
 inj : ∀ (u v b : Nat), bs[u]? = some (some b) → bs[v]? = some (some b) → u = v
 apart : ∀ (v b : Nat), bs[v]? = some (some b) → b ≠ g
theorem NM.holds {g : Nat} {bs : List (Option Nat)} {N : List (Option (List Int))} {W : World} (h : NM g bs N W) {v b : Nat} (hv : bs[v]? = some (some b)) : ∃ S, N[v]? = some (some S) ∧ SetM W b S := by
 have hl : v < N.length := by rw [← h.len]; exact (List.getElem?_eq_some_iff.1 hv).1
 cases hN : N[v] with
 | none => have := h.gone v (by rw [List.getElem?_eq_getElem hl, hN]); rw [hv] at this; simp at this
 | some S =>
  have e : N[v]? = some (some S) := by rw [List.getElem?_eq_getElem hl, hN]
  obtain ⟨b', hb', hs⟩ := h.at' v S e
  rw [hv] at hb'
  simp only [Option.some.injEq] at hb'
  subst hb'
  exact ⟨S, e, hs⟩
theorem NM.still {g : Nat} {bs : List (Option Nat)} {N : List (Option (List Int))} {W W' : World} (h : NM g bs N W) (hg : W'.heap[g]? = W.heap[g]?) (hb : ∀ (v b : Nat), bs[v]? = some (some b) → W'.heap[b]? = W.heap[b]?) : NM g bs N W' :=
 ⟨hg.trans h.row, h.len, fun v S hv => let ⟨b, h1, h2⟩ := h.at' v S hv; ⟨b, h1, h2.still (hb v b h1)⟩, h.gone, h.inj, h.apart⟩
theorem NM.turn {g : Nat} {bs : List (Option Nat)} {N : List (Option (List Int))} {W W' : World} (h : NM g bs N W) {v b : Nat} {T : List Int} (hv : bs[v]? = some (some b)) (ht : W.mapTurned W' b) (hT : SetM W' b T) : NM g bs (N.set v (some T)) W' := by
 have hl : v < N.length := by rw [← h.len]; exact (List.getElem?_eq_some_iff.1 hv).1
 refine ⟨(turned_other ht (h.apart v b hv).symm).trans h.row, by rw [List.length_set]; exact h.len, fun u S hu => ?_, fun u hu => ?_, h.inj, h.apart⟩
 ·by_cases e : v = u
  ·subst e
   rw [List.getElem?_set_self hl] at hu
   simp only [Option.some.injEq] at hu
   subst hu
   exact ⟨b, hv, hT⟩
  ·rw [List.getElem?_set_ne e] at hu
   obtain ⟨c, h1, h2⟩ := h.at' u S hu
   exact ⟨c, h1, h2.still (turned_other ht (fun q => e (h.inj v u b hv (q ▸ h1))))⟩
 ·by_cases e : v = u
  ·subst e
   rw [List.getElem?_set_self hl] at hu
   simp at hu
  ·rw [List.getElem?_set_ne e] at hu
   exact h.gone u hu
theorem NM.leave {g : Nat} {bs : List (Option Nat)} {N : List (Option (List Int))} {W : World} (h : NM g bs N W) (v : Nat) : NM g (bs.set v none) (N.set v none) (W.setCell ⟨g, v, none⟩ (.map none)) := by
 have hs : ∀ q, q ≠ g → (W.setCell ⟨g, v, none⟩ (.map none)).heap[q]? = W.heap[q]? := fun q hq => Below.heap_setCell _ _ _ _ (by simpa using hq)
 have hold : ∀ {u b : Nat}, (bs.set v none)[u]? = some (some b) → v ≠ u ∧ bs[u]? = some (some b) := by
  intro u b hu
  by_cases e : v = u
  ·subst e
   rw [List.getElem?_set] at hu
   simp at hu
  ·rw [List.getElem?_set_ne e] at hu
   exact ⟨e, hu⟩
 refine ⟨?_, by rw [List.length_set, List.length_set]; exact h.len, fun u S hu => ?_, fun u hu => ?_, fun u u' b hu hu' => h.inj u u' b (hold hu).2 (hold hu').2, fun u b hu => h.apart u b (hold hu).2⟩
 ·have := h.row.set v (.map none)
  rwa [← List.map_set] at this
 ·by_cases e : v = u
  ·subst e
   rw [List.getElem?_set] at hu
   simp at hu
  ·rw [List.getElem?_set_ne e] at hu
   obtain ⟨b, h1, h2⟩ := h.at' u S hu
   exact ⟨b, by rw [List.getElem?_set_ne e]; exact h1, h2.still (hs b (h.apart u b h1))⟩
 ·by_cases e : v = u
  ·subst e
   have hl : v < bs.length := by
    have := (List.getElem?_eq_some_iff.1 hu).1
    rw [List.length_set] at this
    rw [h.len]; exact this
   rw [List.getElem?_set_self hl]
  ·rw [List.getElem?_set_ne e] at hu ⊢
   exact h.gone u hu
end Go.Proofs.YtjpkojmjiaoifaaGreat

namespace Go.Proofs.YtjpkojmjiaoifaaGreat
open Go Go.Proofs Go.RowKit
def idxF (p : Int → Bool) (L : List Int) : Int := match L.findIdx? p with
 | some i => i
 | none => -1
theorem idxF_at {p : Int → Bool} {L : List Int} {j : Nat} (hj : j < L.length) (h : p L[j] = true) (hno : ∀ (i : Nat) (h1 : i < L.length), i < j → p L[i] = false) : idxF p L = j := by
 unfold idxF
 have : L.findIdx? p = some j := by
  rw [List.findIdx?_eq_some_iff_getElem]
  exact ⟨hj, h, fun i hi => by rw [hno i (by omega) hi]; simp⟩
 rw [this]
theorem idxF_no {p : Int → Bool} {L : List Int} (hno : ∀ (i : Nat) (h1 : i < L.length), p L[i] = false) : idxF p L = -1 := by
 unfold idxF
 have : L.findIdx? p = none := by
  rw [List.findIdx?_eq_none_iff]
  intro x hx
  obtain ⟨i, hi, rfl⟩ := List.getElem_of_mem hx
  exact hno i hi
 rw [this]
theorem idxF_any (p : Int → Bool) (L : List Int) : decide (0 ≤ idxF p L) = L.any p := by
 unfold idxF
 cases h : L.findIdx? p with
 | none =>
  rw [List.findIdx?_eq_none_iff] at h
  have : L.any p = false := by rw [List.any_eq_false]; intro x hx; rw [h x hx]; simp
  rw [this]
  rfl
 | some i =>
  have h1 := h
  rw [List.findIdx?_eq_some_iff_getElem] at h1
  obtain ⟨hi, hp, _⟩ := h1
  have : L.any p = true := by rw [List.any_eq_true]; exact ⟨L[i], List.getElem_mem hi, hp⟩
  rw [this]
  simp
set_option maxRecDepth 100000 in
set_option maxHeartbeats 2000000 in
theorem indexF_any (f : Nat) (caps : Array Value) (p : Int → Bool) (hent : ∀ (args : Array Value) (W : World), (callFunc f args).run Tryz.prog W = .ok (.enter f args) W) (L : List Int) (hL : L.length ≤ 8388608) (sv : Value) (n : Nat) (w : World) (h : Ints n w sv L)
  (hp : ∀ x ∈ L, Calls Tryz.prog f (#[.int .i64 x] ++ caps) w fun e w' => e = .returned (.bool (p x)) ∧ w' = w) :
  Calls Tryz.prog 54 #[sv, .func (.func f) #[] caps] w fun e w' => e = .returned (.int .i64 (idxF p L)) ∧ w' = w := by
 obtain ⟨pp, c, rfl⟩ := h.len
 have HI : Hid (Ints n w (.slice pp L.length c) L) := h
 have HP : Hid (∀ x ∈ L, Calls Tryz.prog f (#[.int .i64 x] ++ caps) w fun e w' => e = .returned (.bool (p x)) ∧ w' = w) := hp
 clear h hp
 go_enter Tryz.func54, Tryz.ntmps54
 go_wp2
 go_loopw [8] (fun iv wr => ∃ j : Nat, j ≤ L.length ∧ iv = .int .i64 j ∧ Hid (∀ (i : Nat) (h1 : i < L.length), i < j → p L[i] = false) ∧ wr = w) (fun i _ => L.length - (intOf i).toNat)
 case atStart => exact ⟨0, Nat.zero_le _, rfl, fun i _ h => by omega, rfl⟩
 case round =>
  obtain ⟨j, hj, rfl, HS, rfl⟩ := hrel
  by_cases hlt : j < L.length
  ·have hjl : (j : Int) < (L.length : Int) := by omega
   obtain ⟨b, off, rfl, hbb, hcap, hc⟩ := HI.out.open hlt
   have c0 := hc wr (Below.refl _ _) j hlt
   have hcl := HP.out L[j] (List.getElem_mem hlt)
   cases hv : p L[j] with
   | false =>
    have HS2 : Hid (∀ (i : Nat) (h1 : i < L.length), i < j + 1 → p L[i] = false) := fun i h1 h => by
     by_cases e : i = j
     ·subst e; exact hv
     ·exact HS.out i h1 (by omega)
    have HLT : Hid (j < L.length) := hlt
    rw [hv] at hcl
    generalize L[j] = x at c0 hcl
    clear HS hlt hc hv
    go_wp2_with fail
    refine hcl.mono ?_
    clear hcl
    rintro e w2 ⟨rfl, rfl⟩
    go_wp2
    exact ⟨⟨j + 1, HLT.out, by go_num, HS2.out, trivial⟩, by have := HLT.out; simp [intOf]; omega⟩
   | true =>
    have HE : Hid (idxF p L = j) := idxF_at hlt hv HS.out
    rw [hv] at hcl
    generalize L[j] = x at c0 hcl
    clear HS hlt hc hv
    go_wp2_with fail
    refine hcl.mono ?_
    clear hcl
    rintro e w2 ⟨rfl, rfl⟩
    go_wp2
    go_ret
    exact ⟨by rw [HE.out]; rfl, rfl⟩
  ·obtain rfl : j = L.length := by omega
   have HE : Hid (idxF p L = -1) := idxF_no fun i hi => HS.out i hi hi
   clear HS
   go_wp2
   go_ret
   exact ⟨by rw [HE.out]; rfl, rfl⟩
set_option maxRecDepth 100000 in
set_option maxHeartbeats 2000000 in
theorem containsF_any (f : Nat) (caps : Array Value) (p : Int → Bool) (hent : ∀ (args : Array Value) (W : World), (callFunc f args).run Tryz.prog W = .ok (.enter f args) W) (L : List Int) (hL : L.length ≤ 8388608) (sv : Value) (n : Nat) (w : World) (h : Ints n w sv L)
  (hp : ∀ x ∈ L, Calls Tryz.prog f (#[.int .i64 x] ++ caps) w fun e w' => e = .returned (.bool (p x)) ∧ w' = w) :
  Calls Tryz.prog 34 #[sv, .func (.func f) #[] caps] w fun e w' => e = .returned (.bool (L.any p)) ∧ w' = w := by
 have hi := indexF_any f caps p hent L hL sv n w h hp
 obtain ⟨pp, c, rfl⟩ := h.len
 have HA : Hid (decide (0 ≤ idxF p L) = L.any p) := idxF_any p L
 clear h hp
 generalize idxF p L = k at *
 go_enter Tryz.func34, Tryz.ntmps34
 go_wp2_with fail
 refine hi.mono ?_
 clear hi
 rintro e w2 ⟨rfl, rfl⟩
 go_wp2
 go_ret
 exact ⟨by rw [← HA.out]; rfl, rfl⟩
end Go.Proofs.YtjpkojmjiaoifaaGreat

namespace Go.Proofs
open Go.Shelf
def Tryz.lays212_ren : Go.Shelf.Ren := ⟨fun | 212 => 71 | 263 => 83 | 264 => 84 | n => n, fun | 46 => 107 | 51 => 125 | 146 => 126 | 53 => 128 | 148 => 129 | n => n, fun | n => n⟩
theorem Tryz.lays212 : Go.Proofs.Lays.n212 Tryz.prog Tryz.lays212_ren := {
  mixed := by kernel_rfl
  f212 := Tryz.func71.trans (congrArg some (by kernel_rfl))
  f263 := Tryz.func83.trans (congrArg some (by kernel_rfl))
  f264 := Tryz.func84.trans (congrArg some (by kernel_rfl))
  t46 := Tryz.underlying107
  a46 := Tryz.isAgg107
  z46 := Tryz.sizeOf107
  v46 := Tryz.zeroValue107
  t51 := Tryz.underlying125
  a51 := Tryz.isAgg125
  z51 := Tryz.sizeOf125
  v51 := Tryz.zeroValue125
  t53 := Tryz.underlying128
  a53 := Tryz.isAgg128
  z53 := Tryz.sizeOf128
  v53 := Tryz.zeroValue128
  t146 := Tryz.underlying126
  a146 := Tryz.isAgg126
  z146 := Tryz.sizeOf126
  v146 := Tryz.zeroValue126
  t148 := Tryz.underlying129
  a148 := Tryz.isAgg129
  z148 := Tryz.sizeOf129
  v148 := Tryz.zeroValue129 }
open Go.RowKit Go.Lib in
theorem Tryz.bits_Mul (x y : Nat) (hx : x < 18446744073709551616) (hy : y < 18446744073709551616) (w : World) :
    Calls Tryz.prog 71 #[.int .u64 x, .int .u64 y] w fun e w' => e = .returned (.tuple #[.int .u64 ((x * y / 18446744073709551616 : Nat) : Int), .int .u64 ((x * y % 18446744073709551616 : Nat) : Int)]) ∧ w' = w := Any.bits_Mul Tryz.lays212 x y hx hy w
end Go.Proofs
