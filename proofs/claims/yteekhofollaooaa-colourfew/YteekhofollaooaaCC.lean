/-
  Sets of numbers in memory: maps from int to struct{}.
-/
import Derived.Maps.OwnSet
import Derived.Test.YteekhofollaooaaQA
import Derived.BigQuiet
import Derived.Test.YteekhofollaooaaCB
import Derived.Test.YteekhofollaooaaQB
import Derived.Test.YteekhofollaooaaQD
import Derived.Test.YteekhofollaooaaQF
import Derived.Test.YteekhofollaooaaQH
import Derived.Deep.LoopGhost
namespace Go.Proofs.Yteekhofollaooaa
open Go Go.Proofs Go.RowKit Go.Maps

theorem map_tight {P : Program} {k : TypeId} {R : Value → Option (DataW Unit × List MemPlace)} {w : World} {b n : Nat} {D : DataW Unit} (h : w.ownsMap P k R b n D) : w.ownsMap P k R b (Maps.size D) D := by
  obtain ⟨es, clock, hb, F, _, rfl⟩ := h
  exact ⟨es, clock, hb, F, by rw [Maps.size_eq, length_read]; exact Nat.le_refl _, rfl⟩
theorem keyedI : Keyed Try.prog 3 := int_keyed Try.underlying3

/-- This datum is this set. -/
def SetD (D : DataW Unit) (S : List Int) : Prop := S.Nodup ∧ Maps.size D = S.length ∧ (∀ x ∈ S, (Lit.int .i64 x).wf = true) ∧ ∀ x : Int, (Maps.has D (.int .i64 x) = true ↔ x ∈ S)
/-- The map in block b is this set. -/
def SetM (W : World) (b : Nat) (S : List Int) : Prop := ∃ D : DataW Unit, W.ownsMap Try.prog 3 unitElem b (Maps.size D) D ∧ SetD D S

theorem SetD.del {D : DataW Unit} {S : List Int} (hD : Tidy D) (h : SetD D S) (x : Int) : SetD (D.del (.int .i64 x)) (S.erase x) := by
  obtain ⟨h1, h2, h3, h4⟩ := h
  refine ⟨h1.erase x, ?_, fun y hy => h3 y (List.mem_of_mem_erase hy), fun y => ?_⟩
  · have e := size_del (k := .int .i64 x) hD
    rw [List.length_erase]
    by_cases hx : x ∈ S
    · rw [if_pos ((h4 x).2 hx)] at e
      rw [if_pos (by simpa using hx)]
      omega
    · rw [if_neg (fun hh => hx ((h4 x).1 hh))] at e
      rw [if_neg (by simpa using hx)]
      omega
  · rw [h1.mem_erase_iff]
    by_cases hy : y = x
    · subst hy
      rw [has_del_same]
      simp
    · rw [has_del_other (by simpa using hy), h4 y]
      simp [hy]

theorem SetD.put {D : DataW Unit} {S : List Int} (hD : Tidy D) (h : SetD D S) {x : Int} (hx : (Lit.int .i64 x).wf = true) (d : DataW Unit) : SetD (D.put (.int .i64 x) d) (if x ∈ S then S else S ++ [x]) := by
  obtain ⟨h1, h2, h3, h4⟩ := h
  have e := size_put (k := .int .i64 x) hD d
  have hh : ∀ y : Int, Maps.has (D.put (.int .i64 x) d) (.int .i64 y) = true ↔ y ∈ S ∨ y = x := by
    intro y
    by_cases hy : y = x
    · subst hy
      rw [has_put_same hD.isMap (by simp [WideAt.IsKeyLit])]
      simp
    · rw [has_put_other (by simpa using hy), h4 y]
      simp [hy]
  by_cases hm : x ∈ S
  · rw [if_pos ((h4 x).2 hm)] at e
    rw [if_pos hm]
    refine ⟨h1, e.trans h2, h3, fun y => (hh y).trans ⟨fun q => q.elim id (fun q => q ▸ hm), Or.inl⟩⟩
  · rw [if_neg (fun q => hm ((h4 x).1 q))] at e
    rw [if_neg hm]
    refine ⟨?_, by rw [e, h2]; simp, ?_, fun y => (hh y).trans (by simp)⟩
    · rw [List.nodup_append]
      exact ⟨h1, by simp, fun a ha b hb => by simp at hb; subst hb; exact fun q => hm (q ▸ ha)⟩
    · intro y hy
      rcases List.mem_append.1 hy with hy | hy
      · exact h3 y hy
      · simp at hy
        subst hy
        exact hx

/-- len. -/
theorem SetM.len {W : World} {b : Nat} {S : List Int} (h : SetM W b S) (ty : TypeId) : (Builtin.len_ #[75] ty #[.map (some b)]).run Try.prog W = .ok (.int .i64 S.length) W := by
  obtain ⟨D, ho, _, hs, _, _⟩ := h
  rw [← hs]
  exact ho.len Try.underlying75 ty

/-- delete. -/
theorem SetM.drop {W : World} {b : Nat} {S : List Int} (h : SetM W b S) {x : Int} (hx : (Lit.int .i64 x).wf = true) (ty : TypeId) :
    ∃ W', (Builtin.delete_ #[75, 3] ty #[.map (some b), .int .i64 x]).run Try.prog W = .ok (.tuple #[]) W' ∧ SetM W' b (S.erase x) ∧ W.mapTurned W' b := by
  obtain ⟨D, ho, hs⟩ := h
  obtain ⟨W', hr, ho', ht⟩ := ho.drop keyedI Try.underlying75 (keyOf_int_mk Try.underlying3 hx) ty
  exact ⟨W', hr, ⟨_, map_tight ho', hs.del (ho.tidy keyedI) x⟩, ht⟩

/-- Insertion. -/
theorem SetM.store {W : World} {b : Nat} {S : List Int} (h : SetM W b S) (hn : S.length < maxLen) {x : Int} (hx : (Lit.int .i64 x).wf = true) :
    ∃ W', (Instr.mapUpdate 75 (.map (some b)) (.int .i64 x) (.agg #[])).run Try.prog W = .ok () W' ∧ SetM W' b (if x ∈ S then S else S ++ [x]) ∧ W.mapTurned W' b := by
  obtain ⟨D, ho, hs⟩ := h
  obtain ⟨W', hr, ho', ht⟩ := ho.store keyedI Try.underlying75 (by rw [hs.2.1]; exact hn) (keyOf_int_mk Try.underlying3 hx) unitElem_mk
  exact ⟨W', hr, ⟨_, map_tight ho', hs.put (ho.tidy keyedI) hx _⟩, ht⟩

/-- Comma-ok lookup. -/
theorem SetM.look {W : World} {b : Nat} {S : List Int} (h : SetM W b S) {x : Int} (hx : (Lit.int .i64 x).wf = true) :
    (Instr.lookup 75 (.map (some b)) (.int .i64 x) true).run Try.prog W = .ok (.tuple #[.agg #[], .bool (decide (x ∈ S))]) W := by
  obtain ⟨D, ho, hs⟩ := h
  obtain ⟨v, ps, hr, hv⟩ := ho.look_ok keyedI Try.underlying75 (z := .agg #[]) (by kernel_rfl) unitElem_mk (keyOf_int_mk Try.underlying3 hx)
  obtain ⟨rfl, _⟩ := unitElem_inv hv
  rw [hr]
  have e : Maps.has D (.int .i64 x) = decide (x ∈ S) := by
    have := hs.2.2.2 x
    by_cases hm : x ∈ S
    · simp [hm, this.2 hm]
    · simp [hm]
      cases hq : Maps.has D (.int .i64 x)
      · rfl
      · exact absurd (this.1 hq) hm
  rw [e]

theorem SetM.made (W : World) : SetM (W.alloc (.map #[] 0)) W.heap.size [] :=
  ⟨.map [], World.ownsMap_made W _ _ _, by simp, rfl, by simp, by simp [Maps.has]⟩

theorem SetM.still {W W' : World} {b : Nat} {S : List Int} (h : SetM W b S) (hb : W'.heap[b]? = W.heap[b]?) : SetM W' b S := by
  obtain ⟨D, ⟨es, clock, hb0, F, hs, e⟩, hS⟩ := h
  exact ⟨D, ⟨es, clock, hb.trans hb0, F, hs, e⟩, hS⟩
theorem SetM.lt {W : World} {b : Nat} {S : List Int} (h : SetM W b S) : b < W.heap.size := by
  obtain ⟨D, ho, _⟩ := h
  exact ho.lt
theorem SetM.nodup {W : World} {b : Nat} {S : List Int} (h : SetM W b S) : S.Nodup := by
  obtain ⟨D, ho, hS⟩ := h
  exact hS.1
theorem SetM.wf {W : World} {b : Nat} {S : List Int} (h : SetM W b S) : ∀ x ∈ S, (Lit.int .i64 x).wf = true := by
  obtain ⟨D, ho, hS⟩ := h
  exact hS.2.2.1
/-- The order of the list says nothing. -/
theorem SetM.perm {W : World} {b : Nat} {S T : List Int} (h : SetM W b S) (hp : S.Perm T) : SetM W b T := by
  obtain ⟨D, ho, h1, h2, h3, h4⟩ := h
  exact ⟨D, ho, hp.nodup_iff.1 h1, h2.trans hp.length_eq, fun x hx => h3 x (hp.mem_iff.2 hx), fun x => (h4 x).trans hp.mem_iff⟩

theorem turned_other {W W' : World} {b c : Nat} (h : W.mapTurned W' b) (hc : c ≠ b) : W'.heap[c]? = W.heap[c]? := by
  obtain ⟨es, clock, es', clock', hb, rfl⟩ := h
  simp [ChangeMaps.setBlock, Ne.symm hc]
theorem turned_size {W W' : World} {b : Nat} (h : W.mapTurned W' b) : W'.heap.size = W.heap.size := by
  obtain ⟨es, clock, es', clock', hb, rfl⟩ := h
  simp [ChangeMaps.setBlock]
theorem turned_below {A W W' : World} {B b : Nat} (h : Below B A W) (ht : W.mapTurned W' b) (hB : B ≤ b) : Below B A W' := by
  refine h.trans ⟨?_, ?_, ?_, Nat.le_of_eq (turned_size ht).symm, fun k hk => turned_other ht (by omega)⟩ <;>
    (obtain ⟨es, clock, es', clock', hb, rfl⟩ := ht; rfl)
end Go.Proofs.Yteekhofollaooaa

namespace Go.Proofs.Yteekhofollaooaa
open Go Go.Proofs Go.RowKit Go.Maps

/-- A row of maps in block g: bs tells where each one lies, N what it holds. -/
structure NM (g : Nat) (bs : List (Option Nat)) (N : List (Option (List Int))) (W : World) : Prop where
  row : Blk 75 W g (bs.map Value.map)
  len : bs.length = N.length
  at' : ∀ (v : Nat) (S : List Int), N[v]? = some (some S) → ∃ b, bs[v]? = some (some b) ∧ SetM W b S
  gone : ∀ v : Nat, N[v]? = some none → bs[v]? = some none
  inj : ∀ (u v b : Nat), bs[u]? = some (some b) → bs[v]? = some (some b) → u = v
  apart : ∀ (v b : Nat), bs[v]? = some (some b) → b ≠ g

theorem NM.holds {g : Nat} {bs : List (Option Nat)} {N : List (Option (List Int))} {W : World} (h : NM g bs N W) {v b : Nat} (hv : bs[v]? = some (some b)) : ∃ S, N[v]? = some (some S) ∧ SetM W b S := by
  have hl : v < N.length := by rw [← h.len]; exact (List.getElem?_eq_some_iff.1 hv).1
  cases hN : N[v] with
  | none => have := h.gone v (by rw [List.getElem?_eq_getElem hl, hN]); rw [hv] at this; simp at this
  | some S =>
    have e : N[v]? = some (some S) := by rw [List.getElem?_eq_getElem hl, hN]
    obtain ⟨b', hb', hs⟩ := h.at' v S e
    rw [hv] at hb'
    simp only [Option.some.injEq] at hb'
    subst hb'
    exact ⟨S, e, hs⟩

/-- What turns none of its blocks leaves it. -/
theorem NM.still {g : Nat} {bs : List (Option Nat)} {N : List (Option (List Int))} {W W' : World} (h : NM g bs N W) (hg : W'.heap[g]? = W.heap[g]?) (hb : ∀ (v b : Nat), bs[v]? = some (some b) → W'.heap[b]? = W.heap[b]?) : NM g bs N W' :=
  ⟨hg.trans h.row, h.len, fun v S hv => let ⟨b, h1, h2⟩ := h.at' v S hv; ⟨b, h1, h2.still (hb v b h1)⟩, h.gone, h.inj, h.apart⟩
theorem NM.go {g : Nat} {bs : List (Option Nat)} {N : List (Option (List Int))} {W W' : World} (h : NM g bs N W) (hb : Below W.heap.size W W') : NM g bs N W' :=
  h.still (hb.block g h.row.lt) (fun _ b hv => let ⟨_, _, hs⟩ := h.holds hv; hb.block b hs.lt)

/-- One of its maps is turned. -/
theorem NM.turn {g : Nat} {bs : List (Option Nat)} {N : List (Option (List Int))} {W W' : World} (h : NM g bs N W) {v b : Nat} {T : List Int} (hv : bs[v]? = some (some b)) (ht : W.mapTurned W' b) (hT : SetM W' b T) : NM g bs (N.set v (some T)) W' := by
  have hl : v < N.length := by rw [← h.len]; exact (List.getElem?_eq_some_iff.1 hv).1
  refine ⟨(turned_other ht (h.apart v b hv).symm).trans h.row, by rw [List.length_set]; exact h.len, fun u S hu => ?_, fun u hu => ?_, h.inj, h.apart⟩
  · by_cases e : v = u
    · subst e
      rw [List.getElem?_set_self hl] at hu
      simp only [Option.some.injEq] at hu
      subst hu
      exact ⟨b, hv, hT⟩
    · rw [List.getElem?_set_ne e] at hu
      obtain ⟨c, h1, h2⟩ := h.at' u S hu
      exact ⟨c, h1, h2.still (turned_other ht (fun q => e (h.inj v u b hv (q ▸ h1))))⟩
  · by_cases e : v = u
    · subst e
      rw [List.getElem?_set_self hl] at hu
      simp at hu
    · rw [List.getElem?_set_ne e] at hu
      exact h.gone u hu

/-- A vertex goes. -/
theorem NM.leave {g : Nat} {bs : List (Option Nat)} {N : List (Option (List Int))} {W : World} (h : NM g bs N W) (v : Nat) : NM g (bs.set v none) (N.set v none) (W.setCell ⟨g, v, none⟩ (.map none)) := by
  have hs : ∀ q, q ≠ g → (W.setCell ⟨g, v, none⟩ (.map none)).heap[q]? = W.heap[q]? := fun q hq => Below.heap_setCell _ _ _ _ (by simpa using hq)
  have hold : ∀ {u b : Nat}, (bs.set v none)[u]? = some (some b) → v ≠ u ∧ bs[u]? = some (some b) := by
    intro u b hu
    by_cases e : v = u
    · subst e
      rw [List.getElem?_set] at hu
      simp at hu
    · rw [List.getElem?_set_ne e] at hu
      exact ⟨e, hu⟩
  refine ⟨?_, by rw [List.length_set, List.length_set]; exact h.len, fun u S hu => ?_, fun u hu => ?_, fun u u' b hu hu' => h.inj u u' b (hold hu).2 (hold hu').2, fun u b hu => h.apart u b (hold hu).2⟩
  · have := h.row.set v (.map none)
    rwa [← List.map_set] at this
  · by_cases e : v = u
    · subst e
      rw [List.getElem?_set] at hu
      simp at hu
    · rw [List.getElem?_set_ne e] at hu
      obtain ⟨b, h1, h2⟩ := h.at' u S hu
      exact ⟨b, by rw [List.getElem?_set_ne e]; exact h1, h2.still (hs b (h.apart u b h1))⟩
  · by_cases e : v = u
    · subst e
      have hl : v < bs.length := by
        have := (List.getElem?_eq_some_iff.1 hu).1
        rw [List.length_set] at this
        rw [h.len]; exact this
      rw [List.getElem?_set_self hl]
    · rw [List.getElem?_set_ne e] at hu ⊢
      exact h.gone u hu
end Go.Proofs.Yteekhofollaooaa

namespace Go.Proofs.Yteekhofollaooaa
open Go Go.Proofs Go.RowKit Go.Maps

/-- The neighbours that are left. -/
def nbN (N : List (Option (List Int))) (x : Int) : List Int := (N.getD x.toNat none).getD []

theorem NM.cell {g : Nat} {bs : List (Option Nat)} {N : List (Option (List Int))} {W : World} (h : NM g bs N W) {k : Nat} {S : List Int} (hk : N[k]? = some (some S)) : ∃ b, bs[k]? = some (some b) ∧ SetM W b S ∧ W.cell? ⟨g, k, none⟩ = some (.map (some b)) ∧ k < N.length := by
  obtain ⟨b, h1, h2⟩ := h.at' k S hk
  exact ⟨b, h1, h2, h.row.cell (by rw [List.getElem?_map, h1]; rfl), (List.getElem?_eq_some_iff.1 hk).1⟩

set_option maxRecDepth 100000 in
set_option maxHeartbeats 4000000 in
theorem apart_any (sb g : Nat) (bs : List (Option Nat)) (N : List (Option (List Int))) (L : List Int) (sv : Value) (w : World) (hV : w.cell? ⟨sb, 0, none⟩ = some (.slice (some ⟨g, 0, none⟩) N.length N.length)) (hN : NM g bs N w) (hL : Ints w.heap.size w sv L)
    (hin : ∀ x ∈ L, 0 ≤ x ∧ (Lit.int .i64 x).wf = true ∧ ∃ S, N[x.toNat]? = some (some S)) (hLb : L.length ≤ 1048576) (hsb : sb < w.heap.size) :
    Calls Try.prog 51 #[.pointer (some ⟨sb, 0, none⟩), sv] w fun e w' => ∃ x y : Int, e = .returned (.tuple #[.int .i64 x, .int .i64 y]) ∧ ((∃ a b : Nat, a < b ∧ L[a]? = some x ∧ L[b]? = some y ∧ y ∉ nbN N x) ∨ ∀ (a b : Nat) (p q : Int), a < b → L[a]? = some p → L[b]? = some q → q ∈ nbN N p) ∧ Below w.heap.size w w' := by
  obtain ⟨p, c, rfl⟩ := hL.len
  have HI : Hid (Ints w.heap.size w (.slice p L.length c) L) := hL
  have HN : Hid (NM g bs N w) := hN
  have HIN : Hid (∀ x ∈ L, 0 ≤ x ∧ (Lit.int .i64 x).wf = true ∧ ∃ S, N[x.toNat]? = some (some S)) := hin
  have HV : Hid (w.cell? ⟨sb, 0, none⟩ = some (.slice (some ⟨g, 0, none⟩) N.length N.length)) := hV
  clear hL hN hin hV
  go_enter Try.func51, Try.ntmps51
  go_wp2
  go_loopw [4, 5, 12] (fun xv yv iv wr => ∃ (x y : Int) (i : Nat), i ≤ L.length ∧ xv = .int .i64 x ∧ yv = .int .i64 y ∧ iv = .int .i64 i ∧ Hid (∀ (a b : Nat) (p q : Int), b < i → a < b → L[a]? = some p → L[b]? = some q → q ∈ nbN N p) ∧ Below w.heap.size w wr) (fun _ _ iv _ => L.length - (intOf iv).toNat)
  case atStart => exact ⟨0, 0, 0, Nat.zero_le _, rfl, rfl, rfl, fun a b p q h => absurd h (Nat.not_lt_zero _), Below.refl _ _⟩
  case round =>
    obtain ⟨x0, y0, i, hi, rfl, rfl, rfl, HQ, hb⟩ := hrel
    by_cases hlt : i < L.length
    · have hil : (i : Int) < (L.length : Int) := by omega
      have HB0 : Hid (Below w.heap.size w wr) := hb
      clear hb
      go_wp2
      go_loopw [4, 5, 16] (fun xv yv jv ws => ∃ (x y : Int) (j : Nat), j ≤ i ∧ xv = .int .i64 x ∧ yv = .int .i64 y ∧ jv = .int .i64 j ∧ Hid (∀ (a : Nat) (p q : Int), a < j → L[a]? = some p → L[i]? = some q → q ∈ nbN N p) ∧ Below w.heap.size w ws) (fun _ _ jv _ => i - (intOf jv).toNat)
      case atStart => exact ⟨x0, y0, 0, Nat.zero_le _, rfl, rfl, rfl, fun a p q h => absurd h (Nat.not_lt_zero _), HB0.out⟩
      case round =>
        clear HB0
        obtain ⟨x1, y1, j, hj, rfl, rfl, rfl, HR, hb⟩ := hrel
        by_cases hjt : j < i
        · have hjl : (j : Int) < (i : Int) := by omega
          have hjL : j < L.length := by omega
          have hjL' : (j : Int) < (L.length : Int) := by omega
          obtain ⟨b, off, rfl, hbb, hcap, hcc⟩ := HI.out.open hlt
          have c0 := hcc _ hb i hlt
          have c1 := hcc _ hb j hjL
          obtain ⟨_, hwy, _⟩ := HIN.out _ (List.getElem_mem hlt)
          obtain ⟨hx0, _, S, hS⟩ := HIN.out _ (List.getElem_mem hjL)
          have HX : Hid (L[j]? = some L[j]) := List.getElem?_eq_getElem hjL
          have HY : Hid (L[i]? = some L[i]) := List.getElem?_eq_getElem hlt
          generalize L[i] = y at *
          generalize L[j] = x at *
          obtain ⟨k, rfl⟩ : ∃ k : Nat, x = (k : Int) := ⟨x.toNat, by omega⟩
          rw [Int.toNat_natCast] at hS
          obtain ⟨bk, _, hM, hc, hkN⟩ := HN.out.cell hS
          have hkI : (k : Int) < (N.length : Int) := by omega
          have HS : Hid (nbN N (k : Int) = S) := by unfold Hid nbN; simp [hS]
          have hcell := (hb.cell hsb).trans HV.out
          have hcm := (hb.cell (p := ⟨g, k, none⟩) HN.out.row.lt).trans hc
          have hrun := fun q : Nat => ((hM.still (hb.block _ hM.lt)).still (W' := World.drewN _ q) (by rfl)).look hwy
          have HB : Hid (Below w.heap.size w _) := hb
          have hsz : Hid (w.heap.size ≤ _) := hb.size
          clear hb hcc hc hM hS hwy
          by_cases hm : y ∈ S
          · simp only [decide_eq_true hm] at hrun
            have HM : Hid (y ∈ S) := hm
            clear hm
            go_wp2_with (go_quiet (fail))
            refine ⟨⟨(k : Int), y, j + 1, by omega, rfl, rfl, by go_num, ?_, (below_drewN HB.out nq).alloc hsz.out _⟩, by simp [intOf]; omega⟩
            intro a p q haj ha hq
            by_cases e : a = j
            · subst e
              rw [HX.out] at ha
              rw [HY.out] at hq
              simp only [Option.some.injEq] at ha hq
              subst ha hq
              rw [HS.out]
              exact HM.out
            · exact HR.out a p q (by omega) ha hq
          · simp only [decide_eq_false hm] at hrun
            have HM : Hid (y ∉ S) := hm
            clear hm
            go_wp2_with (go_quiet (fail))
            go_ret2
            exact ⟨(k : Int), y, rfl, .inl ⟨j, i, hjt, HX.out, HY.out, by rw [HS.out]; exact HM.out⟩, (below_drewN HB.out nq).alloc hsz.out _⟩
        · have hjl : ¬ (j : Int) < (i : Int) := by omega
          have HE : Hid (j = i) := by unfold Hid; omega
          have HB : Hid (Below w.heap.size w _) := hb
          clear hb
          go_wp2
          refine ⟨⟨x1, y1, i + 1, by omega, rfl, rfl, by go_num, ?_, HB.out⟩, by simp [intOf]; omega⟩
          intro a b p q hbi hab ha hq
          by_cases e : b = i
          · subst e; exact HR.out a p q (by rw [HE.out]; exact hab) ha hq
          · exact HQ.out a b p q (by omega) hab ha hq
    · have hil : ¬ (i : Int) < (L.length : Int) := by omega
      have HE : Hid (i = L.length) := by unfold Hid; omega
      have HB : Hid (Below w.heap.size w wr) := hb
      clear hb
      go_wp2
      go_ret2
      exact ⟨x0, y0, rfl, .inr fun a b p q hab ha hq => HQ.out a b p q (by rw [HE.out]; exact (List.getElem?_eq_some_iff.1 hq).1) hab ha hq, HB.out⟩
end Go.Proofs.Yteekhofollaooaa

namespace Go.Proofs.Yteekhofollaooaa
open Go Go.Proofs Go.RowKit Go.Maps

set_option maxRecDepth 100000 in
set_option maxHeartbeats 2000000 in
theorem file_big (sb g : Nat) (bs : List (Option Nat)) (N : List (Option (List Int))) (k : Nat) (S : List Int) (hS : N[k]? = some (some S)) (h5 : 5 < S.length) (w : World) (hV : w.cell? ⟨sb, 0, none⟩ = some (.slice (some ⟨g, 0, none⟩) N.length N.length)) (hN : NM g bs N w) :
    Calls Try.prog 48 #[.pointer (some ⟨sb, 0, none⟩), .int .i64 (k : Int)] w fun e w' => e = .returned (.tuple #[]) ∧ w' = w := by
  obtain ⟨bk, _, hM, hc, hkN⟩ := hN.cell hS
  have hkI : (k : Int) < (N.length : Int) := by omega
  have hrun := hM.len 3
  have hle : ¬ (S.length : Int) ≤ 5 := by omega
  clear hN hM hS
  go_enter Try.func48, Try.ntmps48
  go_wp2
  refine bodyPost_end (results_none rfl _ _ _) rfl ?_
  exact ⟨rfl, rfl⟩
end Go.Proofs.Yteekhofollaooaa

namespace Go.Proofs.Yteekhofollaooaa
open Go Go.Proofs Go.RowKit Go.Maps

theorem owns_agree {A B : World} {base : Nat} {e : TypeId} {size : Nat} {v : Value} {n : Nat} {xs : List Value} (h : A.ownsRow base e size v n xs) (hb : ∀ b, v.ownBlock = some b → B.heap[b]? = A.heap[b]?) : B.ownsRow base e size v n xs := by
  obtain ⟨h1, h2⟩ := h
  refine ⟨h1, ?_⟩
  rcases h2 with h2 | ⟨g, cap, cur, rfl, hbb, hg, r⟩
  · exact .inl h2
  · exact .inr ⟨g, cap, cur, rfl, hbb, (hb g rfl).trans hg, r⟩

/-- A step in memory: the vertex, its list's slice, the list, where it went. -/
abbrev StpM := Int × Value × List Int × Int
def stpC (ss : List StpM) : List Value := ss.flatMap fun s => [.int .i64 s.1, s.2.1, .int .i64 s.2.2.2]
theorem stpC_snoc (ss : List StpM) (s : StpM) : stpC (ss ++ [s]) = stpC ss ++ [.int .i64 s.1, s.2.1, .int .i64 s.2.2.2] := by simp [stpC]
theorem stpC_len (ss : List StpM) : (stpC ss).length = ss.length * 3 := by
  induction ss with
  | nil => rfl
  | cons s ss ih =>
    have : stpC (s :: ss) = [.int .i64 s.1, s.2.1, .int .i64 s.2.2.2] ++ stpC ss := by simp [stpC]
    rw [this, List.length_append, ih]
    simp only [List.length_cons, List.length_nil]
    omega

structure SM (h0 sb g : Nat) (bs : List (Option Nat)) (N : List (Option (List Int))) (fs : List (Value × List Int)) (tv : Value) (ss : List StpM) (tag : Nat → Nat) (W : World) : Prop where
  var : Blk 74 W sb (.slice (some ⟨g, 0, none⟩) N.length N.length :: (fs.map Prod.fst ++ [tv]))
  nm : NM g bs N W
  f6 : fs.length = 6
  few : ∀ x ∈ fs, W.ownsRow h0 3 1 x.1 x.2.length (x.2.map (Value.int .i64))
  stp : W.ownsRow h0 78 3 tv ss.length (stpC ss)
  inn : ∀ s ∈ ss, W.ownsRow h0 3 1 s.2.1 s.2.2.1.length (s.2.2.1.map (Value.int .i64))
  tsb : tag sb = 0
  tg : tag g = 1
  tm : ∀ (v b : Nat), bs[v]? = some (some b) → tag b = 2
  tf : ∀ (i : Nat) (x : Value × List Int), fs[i]? = some x → ∀ b, x.1.ownBlock = some b → tag b = 3 + i
  tt : ∀ b, tv.ownBlock = some b → tag b = 9
  tl : ∀ s ∈ ss, ∀ b, s.2.1.ownBlock = some b → tag b = 10
  lsb : h0 ≤ sb
  lg : h0 ≤ g
  lm : ∀ (v b : Nat), bs[v]? = some (some b) → h0 ≤ b

section
variable {h0 sb g : Nat} {bs : List (Option Nat)} {N : List (Option (List Int))} {fs : List (Value × List Int)} {tv : Value} {ss : List StpM} {tag : Nat → Nat} {W W' : World}

theorem SM.mlt (h : SM h0 sb g bs N fs tv ss tag W) {v b : Nat} (hv : bs[v]? = some (some b)) : b < W.heap.size := let ⟨_, _, hs⟩ := h.nm.holds hv; hs.lt

/-- All blocks that it lies in are as they were, but tags may have turned elsewhere. -/
theorem SM.still (h : SM h0 sb g bs N fs tv ss tag W) (hk : ∀ k, k < W.heap.size → W'.heap[k]? = W.heap[k]?) : SM h0 sb g bs N fs tv ss tag W' :=
  ⟨(hk sb h.var.lt).trans h.var, h.nm.still (hk g h.nm.row.lt) (fun _ b hv => hk b (h.mlt hv)), h.f6, fun x hx => owns_agree (h.few x hx) (fun b hb => hk b ((h.few x hx).lt b hb).2), owns_agree h.stp (fun b hb => hk b (h.stp.lt b hb).2), fun s hs => owns_agree (h.inn s hs) (fun b hb => hk b ((h.inn s hs).lt b hb).2), h.tsb, h.tg, h.tm, h.tf, h.tt, h.tl, h.lsb, h.lg, h.lm⟩
theorem SM.go (h : SM h0 sb g bs N fs tv ss tag W) (hb : Below W.heap.size W W') : SM h0 sb g bs N fs tv ss tag W' := h.still fun k hk => hb.block k hk

/-- One of the sets is turned. -/
theorem SM.turn (h : SM h0 sb g bs N fs tv ss tag W) {v b : Nat} {T : List Int} (hv : bs[v]? = some (some b)) (ht : W.mapTurned W' b) (hT : SetM W' b T) : SM h0 sb g bs (N.set v (some T)) fs tv ss tag W' := by
  have hb := h.tm v b hv
  have hk : ∀ k, tag k ≠ 2 → W'.heap[k]? = W.heap[k]? := fun k hk => turned_other ht (fun e => hk (by rw [e]; exact hb))
  refine ⟨?_, h.nm.turn hv ht hT, h.f6, fun x hx => ?_, owns_agree h.stp (fun b hb => hk b (by rw [h.tt b hb]; omega)), fun s hs => owns_agree (h.inn s hs) (fun b hb => hk b (by rw [h.tl s hs b hb]; omega)), h.tsb, h.tg, h.tm, h.tf, h.tt, h.tl, h.lsb, h.lg, h.lm⟩
  · rw [List.length_set]
    exact (hk sb (by rw [h.tsb]; omega)).trans h.var
  · obtain ⟨i, hi, e⟩ := List.mem_iff_getElem.1 hx
    exact owns_agree (h.few x hx) (fun b hb => hk b (by rw [h.tf i x (by rw [List.getElem?_eq_getElem hi, e]) b hb]; omega))

/-- A vertex goes. -/
theorem SM.leave (h : SM h0 sb g bs N fs tv ss tag W) (v : Nat) : SM h0 sb g (bs.set v none) (N.set v none) fs tv ss tag (W.setCell ⟨g, v, none⟩ (.map none)) := by
  have hk : ∀ k, tag k ≠ 1 → (W.setCell ⟨g, v, none⟩ (.map none)).heap[k]? = W.heap[k]? := fun k hk => Below.heap_setCell _ _ _ _ (fun e => hk (by rw [show k = g from e]; exact h.tg))
  have hold : ∀ {u b : Nat}, (bs.set v none)[u]? = some (some b) → bs[u]? = some (some b) := by
    intro u b hu
    by_cases e : v = u
    · subst e
      rw [List.getElem?_set] at hu
      simp at hu
    · rwa [List.getElem?_set_ne e] at hu
  refine ⟨?_, h.nm.leave v, h.f6, fun x hx => ?_, owns_agree h.stp (fun b hb => hk b (by rw [h.tt b hb]; omega)), fun s hs => owns_agree (h.inn s hs) (fun b hb => hk b (by rw [h.tl s hs b hb]; omega)), h.tsb, h.tg, fun u b hu => h.tm u b (hold hu), h.tf, h.tt, h.tl, h.lsb, h.lg, fun u b hu => h.lm u b (hold hu)⟩
  · rw [List.length_set]
    exact (hk sb (by rw [h.tsb]; omega)).trans h.var
  · obtain ⟨i, hi, e⟩ := List.mem_iff_getElem.1 hx
    exact owns_agree (h.few x hx) (fun b hb => hk b (by rw [h.tf i x (by rw [List.getElem?_eq_getElem hi, e]) b hb]; omega))

theorem NM.enter {W : World} (h : NM g bs N W) {v : Nat} (hv : v < N.length) : NM g (bs.set v (some W.heap.size)) (N.set v (some [])) ((W.alloc (.map #[] 0)).setCell ⟨g, v, none⟩ (.map (some W.heap.size))) := by
  have hgl := h.row.lt
  have hold : ∀ q, q < W.heap.size → q ≠ g → ((W.alloc (.map #[] 0)).setCell ⟨g, v, none⟩ (.map (some W.heap.size))).heap[q]? = W.heap[q]? := fun q hq hne => (Below.heap_setCell _ _ _ _ (by simpa using hne)).trans (Below.heap_alloc _ _ q hq)
  have hvb : v < bs.length := by rw [h.len]; exact hv
  have split : ∀ {u b : Nat}, (bs.set v (some W.heap.size))[u]? = some (some b) → (u = v ∧ b = W.heap.size) ∨ (u ≠ v ∧ bs[u]? = some (some b) ∧ b < W.heap.size) := by
    intro u b hu
    by_cases e : v = u
    · subst e
      rw [List.getElem?_set_self hvb] at hu
      simp only [Option.some.injEq] at hu
      exact .inl ⟨rfl, hu.symm⟩
    · rw [List.getElem?_set_ne e] at hu
      obtain ⟨S, _, hs⟩ := h.holds hu
      exact .inr ⟨Ne.symm e, hu, hs.lt⟩
  refine ⟨?_, by rw [List.length_set, List.length_set]; exact h.len, fun u S hu => ?_, fun u hu => ?_, fun u u' b hu hu' => ?_, fun u b hu => ?_⟩
  · have h1 : Blk 75 (W.alloc (.map #[] 0)) g (bs.map Value.map) := (Below.heap_alloc _ _ g hgl).trans h.row
    have h2 := h1.set v (.map (some W.heap.size))
    rwa [← List.map_set] at h2
  · by_cases e : v = u
    · subst e
      rw [List.getElem?_set_self hv] at hu
      simp only [Option.some.injEq] at hu
      subst hu
      refine ⟨W.heap.size, List.getElem?_set_self hvb, (SetM.made W).still (Below.heap_setCell _ _ _ _ ?_)⟩
      show W.heap.size ≠ g
      omega
    · rw [List.getElem?_set_ne e] at hu
      obtain ⟨b, h1, h2⟩ := h.at' u S hu
      exact ⟨b, by rw [List.getElem?_set_ne e]; exact h1, h2.still (hold b h2.lt (h.apart u b h1))⟩
  · by_cases e : v = u
    · subst e
      rw [List.getElem?_set_self hv] at hu
      simp at hu
    · rw [List.getElem?_set_ne e] at hu ⊢
      exact h.gone u hu
  · rcases split hu with ⟨rfl, rfl⟩ | ⟨h1, h2, h3⟩
    · rcases split hu' with ⟨rfl, _⟩ | ⟨_, _, h3'⟩
      · rfl
      · omega
    · rcases split hu' with ⟨_, rfl⟩ | ⟨_, h2', _⟩
      · omega
      · exact h.inj u u' b h2 h2'
  · rcases split hu with ⟨_, rfl⟩ | ⟨_, h2, _⟩
    · omega
    · exact h.apart u b h2
/-- A vertex comes, with a new set. -/
theorem SM.enter (h : SM h0 sb g bs N fs tv ss tag W) (hh : h0 ≤ W.heap.size) {v : Nat} (hv : v < N.length) : ∃ tag', SM h0 sb g (bs.set v (some W.heap.size)) (N.set v (some [])) fs tv ss tag' ((W.alloc (.map #[] 0)).setCell ⟨g, v, none⟩ (.map (some W.heap.size))) ∧ ∀ k, k < W.heap.size → tag k = 11 → tag' k = 11 ∧ ((W.alloc (.map #[] 0)).setCell ⟨g, v, none⟩ (.map (some W.heap.size))).heap[k]? = W.heap[k]? := by
  have hk : ∀ k, k < W.heap.size → tag k ≠ 1 → ((W.alloc (.map #[] 0)).setCell ⟨g, v, none⟩ (.map (some W.heap.size))).heap[k]? = W.heap[k]? := fun k hk ht => (Below.heap_setCell _ _ _ _ (fun e => ht (by rw [show k = g from e]; exact h.tg))).trans (Below.heap_alloc _ _ k hk)
  have ht : ∀ k, k < W.heap.size → (if k = W.heap.size then 2 else tag k) = tag k := fun k hk => if_neg (by omega)
  have hvb : v < bs.length := by rw [h.nm.len]; exact hv
  have split : ∀ {u b : Nat}, (bs.set v (some W.heap.size))[u]? = some (some b) → b = W.heap.size ∨ bs[u]? = some (some b) := by
    intro u b hu
    by_cases e : v = u
    · subst e
      rw [List.getElem?_set_self hvb] at hu
      simp only [Option.some.injEq] at hu
      exact .inl hu.symm
    · rw [List.getElem?_set_ne e] at hu
      exact .inr hu
  refine ⟨fun k => if k = W.heap.size then 2 else tag k, ⟨?_, h.nm.enter hv, h.f6, fun x hx => ?_, owns_agree h.stp (fun b hb => hk b (h.stp.lt b hb).2 (by rw [h.tt b hb]; omega)), fun s hs => owns_agree (h.inn s hs) (fun b hb => hk b ((h.inn s hs).lt b hb).2 (by rw [h.tl s hs b hb]; omega)), (ht sb h.var.lt).trans h.tsb, (ht g h.nm.row.lt).trans h.tg, fun u b hu => ?_, fun i x hx b hb => (ht b ((h.few x (List.mem_of_getElem? hx)).lt b hb).2).trans (h.tf i x hx b hb), fun b hb => (ht b (h.stp.lt b hb).2).trans (h.tt b hb), fun s hs b hb => (ht b ((h.inn s hs).lt b hb).2).trans (h.tl s hs b hb), h.lsb, h.lg, fun u b hu => ?_⟩, fun k hk' h11 => ⟨(ht k hk').trans h11, hk k hk' (by omega)⟩⟩
  · rw [List.length_set]
    exact (hk sb h.var.lt (by rw [h.tsb]; omega)).trans h.var
  · obtain ⟨i, hi, e⟩ := List.mem_iff_getElem.1 hx
    exact owns_agree (h.few x hx) (fun b hb => hk b ((h.few x hx).lt b hb).2 (by rw [h.tf i x (by rw [List.getElem?_eq_getElem hi, e]) b hb]; omega))
  · rcases split hu with rfl | h1
    · exact if_pos rfl
    · exact (ht b (h.mlt h1)).trans (h.tm u b h1)
  · rcases split hu with rfl | h1
    · exact hh
    · exact h.lm u b h1

/-- The cell of a bucket. -/
theorem SM.bucket (h : SM h0 sb g bs N fs tv ss tag W) {i : Nat} {x : Value × List Int} (hi : fs[i]? = some x) : W.cell? ⟨sb, 1 + i, none⟩ = some x.1 := by
  refine h.var.cell ?_
  rw [Nat.add_comm, List.getElem?_cons_succ, List.getElem?_append_left (by rw [List.length_map]; exact (List.getElem?_eq_some_iff.1 hi).1), List.getElem?_map, hi]
  rfl
theorem SM.row (h : SM h0 sb g bs N fs tv ss tag W) : W.cell? ⟨sb, 0, none⟩ = some (.slice (some ⟨g, 0, none⟩) N.length N.length) := h.var.cell (j := 0) rfl
theorem SM.steps (h : SM h0 sb g bs N fs tv ss tag W) : W.cell? ⟨sb, 7, none⟩ = some tv := by
  refine h.var.cell ?_
  rw [show (7 : Nat) = 6 + 1 from rfl, List.getElem?_cons_succ, List.getElem?_append_right (by rw [List.length_map, h.f6]; omega), List.length_map, h.f6]
  rfl

/-- Another slice for a bucket, with what lies there. -/
theorem SM.put (h : SM h0 sb g bs N fs tv ss tag W) {i : Nat} {x : Value × List Int} (hi : fs[i]? = some x) {W1 B : World} (hW1 : Below W.heap.size W W1) {v' : Value} {L : List Int} (hB : B.ownsRow h0 3 1 v' L.length (L.map (Value.int .i64))) (hg : W1.grownBy B x.1.ownBlock) (hat : v'.ownBlock = x.1.ownBlock ∨ v'.ownBlock = some W1.heap.size) :
    ∃ tag', SM h0 sb g bs N (fs.set i (v', L)) tv ss tag' (B.setCell ⟨sb, 1 + i, none⟩ v') ∧ ∀ k, k < W.heap.size → tag k = 11 → tag' k = 11 ∧ (B.setCell ⟨sb, 1 + i, none⟩ v').heap[k]? = W.heap[k]? := by
  have hil := (List.getElem?_eq_some_iff.1 hi).1
  have hi6 : i < 6 := by rw [← h.f6]; exact hil
  have hx : x ∈ fs := List.mem_of_getElem? hi
  have htag : ∀ k, k < W.heap.size → (if v'.ownBlock = some k then 3 + i else tag k) = tag k := by
    intro k hk
    split
    · rename_i e
      rcases hat with e' | e'
      · rw [e'] at e
        exact (h.tf i x hi k e).symm
      · rw [e'] at e
        have := hW1.size
        simp only [Option.some.injEq] at e
        omega
    · rfl
  have hag : ∀ k, k < W.heap.size → tag k ≠ 3 + i → B.heap[k]? = W.heap[k]? := by
    intro k hk ht
    refine (hg.block k (Nat.lt_of_lt_of_le hk hW1.size) (fun e => ht (h.tf i x hi k e.symm))).trans (hW1.block k hk)
  have hak : ∀ k, k < W.heap.size → tag k ≠ 3 + i → tag k ≠ 0 → (B.setCell ⟨sb, 1 + i, none⟩ v').heap[k]? = W.heap[k]? := fun k hk h1 h2 => (Below.heap_setCell _ _ _ _ (fun e => h2 (by rw [show k = sb from e]; exact h.tsb))).trans (hag k hk h1)
  refine ⟨fun k => if v'.ownBlock = some k then 3 + i else tag k, ⟨?_, ?_, by rw [List.length_set]; exact h.f6, ?_, ?_, ?_, ?_, ?_, ?_, ?_, ?_, ?_, h.lsb, h.lg, h.lm⟩, fun k hk h11 => ⟨(htag k hk).trans h11, hak k hk (by omega) (by omega)⟩⟩
  · have h1 : Blk 74 B sb (.slice (some ⟨g, 0, none⟩) N.length N.length :: (fs.map Prod.fst ++ [tv])) := (hag sb h.var.lt (by rw [h.tsb]; omega)).trans h.var
    have h2 := h1.set (1 + i) v'
    rwa [Nat.add_comm 1 i, List.set_cons_succ, List.set_append_left _ _ (by rw [List.length_map]; exact hil), show (fs.map Prod.fst).set i v' = (fs.set i (v', L)).map Prod.fst by rw [List.map_set], Nat.add_comm i 1] at h2
  · exact h.nm.still (hak g h.nm.row.lt (by rw [h.tg]; omega) (by rw [h.tg]; omega)) (fun v b hv => hak b (h.mlt hv) (by rw [h.tm v b hv]; omega) (by rw [h.tm v b hv]; omega))
  · intro y hy
    obtain ⟨j, hj, e⟩ := List.mem_iff_getElem.1 hy
    rw [List.length_set] at hj
    rw [List.getElem_set] at e
    by_cases hij : i = j
    · rw [if_pos hij] at e
      subst e
      refine owns_agree hB (fun b hb => Below.heap_setCell _ _ _ _ (fun e => ?_))
      have e' : b = sb := e
      subst e'
      have hlt := h.var.lt
      have h1 := htag b hlt
      rw [if_pos hb, h.tsb] at h1
      omega
    · rw [if_neg hij] at e
      have hy' : y ∈ fs := by rw [← e]; exact List.getElem_mem hj
      have hj' : fs[j]? = some y := by rw [List.getElem?_eq_getElem hj, e]
      exact owns_agree (h.few y hy') (fun b hb => hak b ((h.few y hy').lt b hb).2 (by rw [h.tf j y hj' b hb]; omega) (by rw [h.tf j y hj' b hb]; omega))
  · exact owns_agree h.stp (fun b hb => hak b (h.stp.lt b hb).2 (by rw [h.tt b hb]; omega) (by rw [h.tt b hb]; omega))
  · exact fun s hs => owns_agree (h.inn s hs) (fun b hb => hak b ((h.inn s hs).lt b hb).2 (by rw [h.tl s hs b hb]; omega) (by rw [h.tl s hs b hb]; omega))
  · show (if v'.ownBlock = some sb then 3 + i else tag sb) = 0
    rw [htag sb h.var.lt, h.tsb]
  · show (if v'.ownBlock = some g then 3 + i else tag g) = 1
    rw [htag g h.nm.row.lt, h.tg]
  · intro v b hv
    show (if v'.ownBlock = some b then 3 + i else tag b) = 2
    rw [htag b (h.mlt hv), h.tm v b hv]
  · intro j y hj b hb
    show (if v'.ownBlock = some b then 3 + i else tag b) = 3 + j
    by_cases hij : i = j
    · subst hij
      rw [List.getElem?_set_self hil] at hj
      simp only [Option.some.injEq] at hj
      subst hj
      rw [if_pos hb]
    · rw [List.getElem?_set_ne hij] at hj
      rw [htag b ((h.few y (List.mem_of_getElem? hj)).lt b hb).2, h.tf j y hj b hb]
  · intro b hb
    show (if v'.ownBlock = some b then 3 + i else tag b) = 9
    rw [htag b (h.stp.lt b hb).2, h.tt b hb]
  · intro s hs b hb
    show (if v'.ownBlock = some b then 3 + i else tag b) = 10
    rw [htag b ((h.inn s hs).lt b hb).2, h.tl s hs b hb]

/-- What lies beyond may have any tag. -/
theorem SM.retag (h : SM h0 sb g bs N fs tv ss tag W) (z : Nat) : SM h0 sb g bs N fs tv ss (fun k => if k < W.heap.size then tag k else z) W := by
  have ht : ∀ k, k < W.heap.size → (if k < W.heap.size then tag k else z) = tag k := fun k hk => if_pos hk
  exact ⟨h.var, h.nm, h.f6, h.few, h.stp, h.inn, (ht sb h.var.lt).trans h.tsb, (ht g h.nm.row.lt).trans h.tg, fun v b hv => (ht b (h.mlt hv)).trans (h.tm v b hv), fun i x hx b hb => (ht b ((h.few x (List.mem_of_getElem? hx)).lt b hb).2).trans (h.tf i x hx b hb), fun b hb => (ht b (h.stp.lt b hb).2).trans (h.tt b hb), fun s hs b hb => (ht b ((h.inn s hs).lt b hb).2).trans (h.tl s hs b hb), h.lsb, h.lg, h.lm⟩
/-- A step more. -/
theorem SM.push (h : SM h0 sb g bs N fs tv ss tag W) {W2 B : World} (hW2 : Below W.heap.size W W2) {tv' : Value} {s : StpM} (hB : B.ownsRow h0 78 3 tv' (ss.length + 1) (stpC ss ++ [.int .i64 s.1, s.2.1, .int .i64 s.2.2.2])) (hg : W2.grownBy B tv.ownBlock) (hat : tv'.ownBlock = tv.ownBlock ∨ tv'.ownBlock = some W2.heap.size)
    (hs : W.ownsRow h0 3 1 s.2.1 s.2.2.1.length (s.2.2.1.map (Value.int .i64))) (hst : ∀ b, s.2.1.ownBlock = some b → tag b = 10) :
    ∃ tag', SM h0 sb g bs N fs tv' (ss ++ [s]) tag' (B.setCell ⟨sb, 7, none⟩ tv') := by
  have htag : ∀ k, k < W.heap.size → (if tv'.ownBlock = some k then 9 else tag k) = tag k := by
    intro k hk
    split
    · rename_i e
      rcases hat with e' | e'
      · rw [e'] at e
        exact (h.tt k e).symm
      · rw [e'] at e
        have := hW2.size
        simp only [Option.some.injEq] at e
        omega
    · rfl
  have hag : ∀ k, k < W.heap.size → tag k ≠ 9 → B.heap[k]? = W.heap[k]? := fun k hk ht => (hg.block k (Nat.lt_of_lt_of_le hk hW2.size) (fun e => ht (h.tt k e.symm))).trans (hW2.block k hk)
  have hak : ∀ k, k < W.heap.size → tag k ≠ 9 → tag k ≠ 0 → (B.setCell ⟨sb, 7, none⟩ tv').heap[k]? = W.heap[k]? := fun k hk h1 h2 => (Below.heap_setCell _ _ _ _ (fun e => h2 (by rw [show k = sb from e]; exact h.tsb))).trans (hag k hk h1)
  have hmem : ∀ {z : StpM}, z ∈ ss ++ [s] → z ∈ ss ∨ z = s := fun hz => by simpa using hz
  have hin : ∀ z, z ∈ ss ++ [s] → W.ownsRow h0 3 1 z.2.1 z.2.2.1.length (z.2.2.1.map (Value.int .i64)) ∧ ∀ b, z.2.1.ownBlock = some b → tag b = 10 := fun z hz => by
    rcases hmem hz with hz | rfl
    · exact ⟨h.inn z hz, h.tl z hz⟩
    · exact ⟨hs, hst⟩
  refine ⟨fun k => if tv'.ownBlock = some k then 9 else tag k, ?_, ?_, h.f6, ?_, ?_, ?_, ?_, ?_, ?_, ?_, ?_, ?_, h.lsb, h.lg, h.lm⟩
  · have h1 : Blk 74 B sb (.slice (some ⟨g, 0, none⟩) N.length N.length :: (fs.map Prod.fst ++ [tv])) := (hag sb h.var.lt (by rw [h.tsb]; omega)).trans h.var
    have h2 := h1.set (6 + 1) tv'
    rwa [List.set_cons_succ, List.set_append_right _ _ (by rw [List.length_map, h.f6]; omega), List.length_map, h.f6] at h2
  · exact h.nm.still (hak g h.nm.row.lt (by rw [h.tg]; omega) (by rw [h.tg]; omega)) (fun v b hv => hak b (h.mlt hv) (by rw [h.tm v b hv]; omega) (by rw [h.tm v b hv]; omega))
  · intro y hy
    obtain ⟨j, hj, e⟩ := List.mem_iff_getElem.1 hy
    have hj' : fs[j]? = some y := by rw [List.getElem?_eq_getElem hj, e]
    have h6 := h.f6
    exact owns_agree (h.few y hy) (fun b hb => hak b ((h.few y hy).lt b hb).2 (by rw [h.tf j y hj' b hb]; omega) (by rw [h.tf j y hj' b hb]; omega))
  · rw [List.length_append, stpC_snoc]
    refine owns_agree hB (fun b hb => Below.heap_setCell _ _ _ _ (fun e => ?_))
    have e' : b = sb := e
    subst e'
    have h1 := htag b h.var.lt
    rw [if_pos hb, h.tsb] at h1
    omega
  · exact fun z hz => owns_agree (hin z hz).1 (fun b hb => hak b ((hin z hz).1.lt b hb).2 (by rw [(hin z hz).2 b hb]; omega) (by rw [(hin z hz).2 b hb]; omega))
  · show (if tv'.ownBlock = some sb then 9 else tag sb) = 0
    rw [htag sb h.var.lt, h.tsb]
  · show (if tv'.ownBlock = some g then 9 else tag g) = 1
    rw [htag g h.nm.row.lt, h.tg]
  · intro v b hv
    show (if tv'.ownBlock = some b then 9 else tag b) = 2
    rw [htag b (h.mlt hv), h.tm v b hv]
  · intro j y hj b hb
    show (if tv'.ownBlock = some b then 9 else tag b) = 3 + j
    rw [htag b ((h.few y (List.mem_of_getElem? hj)).lt b hb).2, h.tf j y hj b hb]
  · intro b hb
    show (if tv'.ownBlock = some b then 9 else tag b) = 9
    rw [if_pos hb]
  · intro z hz b hb
    show (if tv'.ownBlock = some b then 9 else tag b) = 10
    rw [htag b ((hin z hz).1.lt b hb).2, (hin z hz).2 b hb]
end

/-- The same, whatever lies where. -/
def SX (h0 sb : Nat) (N : List (Option (List Int))) (F : List (List Int)) (ss : List StpM) (W : World) : Prop :=
  ∃ g bs fs tv tag, fs.map Prod.snd = F ∧ SM h0 sb g bs N fs tv ss tag W
theorem SX.go {h0 sb : Nat} {N : List (Option (List Int))} {F : List (List Int)} {ss : List StpM} {W W' : World} (h : SX h0 sb N F ss W) (hb : Below W.heap.size W W') : SX h0 sb N F ss W' := by
  obtain ⟨g, bs, fs, tv, tag, h1, h3⟩ := h
  exact ⟨g, bs, fs, tv, tag, h1, h3.go hb⟩
theorem SX.lsb {h0 sb : Nat} {N : List (Option (List Int))} {F : List (List Int)} {ss : List StpM} {W : World} (h : SX h0 sb N F ss W) : h0 ≤ sb ∧ sb < W.heap.size := by
  obtain ⟨g, bs, fs, tv, tag, h1, h3⟩ := h
  exact ⟨h3.lsb, h3.var.lt⟩
theorem SX.inn {h0 sb : Nat} {N : List (Option (List Int))} {F : List (List Int)} {ss : List StpM} {W : World} (h : SX h0 sb N F ss W) : ∀ s ∈ ss, W.ownsRow h0 3 1 s.2.1 s.2.2.1.length (s.2.2.1.map (Value.int .i64)) := by
  obtain ⟨g, bs, fs, tv, tag, h1, h3⟩ := h
  exact h3.inn
end Go.Proofs.Yteekhofollaooaa

namespace Go.Proofs.Yteekhofollaooaa
open Go Go.Proofs Go.RowKit Go.Maps

/-- The buckets behind the filing of k with d neighbours. -/
def fileF (F : List (List Int)) (d : Nat) (k : Int) : List (List Int) := if d ≤ 5 then F.set d (F.getD d [] ++ [k]) else F

theorem one_cellF (w : World) (v : Value) (e : TypeId) (j : Nat) (u : Value) (h : [v][j]? = some u) : (w.alloc (.cells #[v] e)).cell? ((⟨w.heap.size, 0, none⟩ : Addr).add j) = some u := by
  match j, h with
  | 0, h =>
    simp at h
    subst h
    have hb : Blk e (w.alloc (.cells #[v] e)) w.heap.size [v] := heap_alloc_new w _
    exact hb.cell (j := 0) (v := v) rfl
  | j + 1, h => simp at h

set_option maxRecDepth 100000 in
set_option maxHeartbeats 4000000 in
theorem file_few (h0 sb k g : Nat) (bs : List (Option Nat)) (N : List (Option (List Int))) (fs : List (Value × List Int)) (tv : Value) (st : List StpM) (tag : Nat → Nat) (S : List Int) (hS : N[k]? = some (some S)) (h5 : S.length ≤ 5) (w : World) (hM : SM h0 sb g bs N fs tv st tag w) (hh : h0 ≤ w.heap.size) (hF : ∀ L ∈ fs.map Prod.snd, L.length ≤ 1000000000) :
    Calls Try.prog 48 #[.pointer (some ⟨sb, 0, none⟩), .int .i64 (k : Int)] w fun e w' => e = .returned (.tuple #[]) ∧ (∃ (fs' : List (Value × List Int)) (tag' : Nat → Nat), fs'.map Prod.snd = (fs.map Prod.snd).set S.length ((fs.map Prod.snd).getD S.length [] ++ [(k : Int)]) ∧ SM h0 sb g bs N fs' tv st tag' w' ∧ ∀ j, j < w.heap.size → tag j = 11 → tag' j = 11 ∧ w'.heap[j]? = w.heap[j]?) ∧ Below h0 w w' := by
  have h6 := hM.f6
  obtain ⟨x, hx⟩ : ∃ x, fs[S.length]? = some x := ⟨_, List.getElem?_eq_getElem (by omega)⟩
  have HG : Hid ((fs.map Prod.snd).getD S.length [] = x.2) := by unfold Hid; rw [List.getD_eq_getElem?_getD, List.getElem?_map, hx]; rfl
  obtain ⟨bk, _, hMk, hc, hkN⟩ := hM.nm.cell hS
  have hkI : (k : Int) < (N.length : Int) := by omega
  have hrun := hMk.len 3
  have c0 := hM.row
  have c1 := hM.bucket hx
  have f1 := hM.var.frozen (1 + S.length)
  have hown := hM.few x (List.mem_of_getElem? hx)
  have hxl := hF x.2 (List.mem_map.2 ⟨x, List.mem_of_getElem? hx, rfl⟩)
  clear hS
  generalize hd : S.length = d at *
  have hd6 : d < 6 := by omega
  have hdI : (d : Int) < 6 := by omega
  have hdL : (d : Int) ≤ 5 := by omega
  have HM : Hid (SM h0 sb g bs N fs tv st tag w) := hM
  have HX : Hid (fs[d]? = some x) := hx
  have hsbl := hM.var.lt
  obtain ⟨xv, xl⟩ := x
  dsimp only at *
  obtain ⟨px, cx, nx, rfl⟩ := owns_slice hown
  have HO : Hid (w.ownsRow h0 3 1 (.slice px cx nx) xl.length (xl.map (Value.int .i64))) := hown
  obtain ⟨j0, hj, hy0, hy1, hy2⟩ := info_parts infoI
  have HL5 : Hid (h0 ≤ sb) := hM.lsb
  clear hM hMk hd hx hown h5 hkN h6 hF
  go_enter Try.func48, Try.ntmps48
  go_wp2_with fail
  refine wp_region_last (S := (fun w' : World => w'.cell? ⟨sb, 1 + d, none⟩ = some (.slice px cx nx))) (by kernel_rfl) c1 (fun hHeld => ?_)
  refine wpAnyL_take (i := 0) (v := ?_) rfl (by kernel_rfl) (by kernel_rfl) (by kernel_rfl) (by kernel_rfl) (fun _ _ _ h => h) (Or.inl ⟨by rfl, ?_⟩) (by assumption) ?_
  rotate_left
  · intro w hSw; (try dsimp only at hSw); go_simp; (try with_reducible rfl)
  try simp only [Act.put, List.setIfInBounds_toArray]
  refine wpAnyL_take (i := 1) (v := ?_) rfl (by kernel_rfl) (by kernel_rfl) (by kernel_rfl) (by kernel_rfl) (fun _ _ _ h => h) (Or.inl ⟨by rfl, ?_⟩) (by assumption) ?_
  rotate_left
  · intro w hSw; (try dsimp only at hSw); go_simp; (try with_reducible rfl)
  try simp only [Act.put]
  refine wpAnyL_take (i := 2) (v := ?_) rfl (by kernel_rfl) (by kernel_rfl) (by kernel_rfl) (by kernel_rfl) (fun _ _ _ h => h) (Or.inl ⟨by rfl, ?_⟩) (by assumption) ?_
  rotate_left
  · intro w hSw; (try dsimp only at hSw); go_simp; (try with_reducible rfl)
  try simp only [Act.put]
  refine wpAnyL_take (i := 3) (v := ?_) rfl (by kernel_rfl) (by kernel_rfl) (by kernel_rfl) (by kernel_rfl) (fun _ _ _ h => h) (Or.inl ⟨by rfl, ?_⟩) (by assumption) ?_
  rotate_left
  · intro w hSw; (try dsimp only at hSw); go_simp; (try with_reducible rfl)
  try simp only [Act.put]
  refine wpAnyL_take (i := 4) (v := ?_) rfl (by kernel_rfl) (by kernel_rfl) (by kernel_rfl) (by kernel_rfl) (fun _ _ _ h => h) (Or.inl ⟨by rfl, ?_⟩) (by assumption) ?_
  rotate_left
  · intro w hSw; (try dsimp only at hSw); go_simp; (try with_reducible rfl)
  try simp only [Act.put]
  refine wpAnyL_take (i := 5) (v := ?_) rfl (by kernel_rfl) (by kernel_rfl) (by kernel_rfl) (by kernel_rfl) (fun _ _ _ h => h) (Or.inl ⟨by rfl, ?_⟩) (by assumption) ?_
  rotate_left
  · intro w hSw; (try dsimp only at hSw); go_simp; (try with_reducible rfl)
  try simp only [Act.put]
  refine wpAnyL_take (i := 6) (v := ?_) rfl (by kernel_rfl) (by kernel_rfl) (by kernel_rfl) (by kernel_rfl) (fun _ _ _ h => h) (Or.inl ⟨by rfl, ?_⟩) (by assumption) ?_
  rotate_left
  · intro w hSw; (try dsimp only at hSw); go_simp; (try with_reducible rfl)
  try simp only [Act.put]
  refine wpAnyL_take (i := 7) (v := ?_) rfl (by kernel_rfl) (by kernel_rfl) (by kernel_rfl) (by kernel_rfl) (fun _ _ _ h => h) (Or.inl ⟨by rfl, ?_⟩) (by assumption) ?_
  rotate_left
  · intro w hSw; (try dsimp only at hSw); go_simp; (try with_reducible rfl)
  try simp only [Act.put]
  refine wpAnyL_take (i := 8) (v := ?_) rfl (by kernel_rfl) (by kernel_rfl) (by kernel_rfl) (by kernel_rfl) (fun _ _ _ h => h) (Or.inl ⟨by rfl, ?_⟩) (by assumption) ?_
  rotate_left
  · intro w hSw; (try dsimp only at hSw); go_simp; (try with_reducible rfl)
  try simp only [Act.put]
  refine wpAnyL_take (i := 11) (v := ?_) rfl (by kernel_rfl) (by kernel_rfl) (by kernel_rfl) (by kernel_rfl) (fun _ _ _ h => h) (Or.inl ⟨by rfl, ?_⟩) (by assumption) ?_
  rotate_left
  · intro w hSw; (try dsimp only at hSw); go_simp; (try with_reducible rfl)
  try simp only [Act.put]
  refine wpAnyL_take (i := 12) (v := ?_) rfl (by kernel_rfl) (by kernel_rfl) (by kernel_rfl) (by kernel_rfl) (fun _ _ _ h => h) (Or.inl ⟨by rfl, ?_⟩) (by assumption) ?_
  rotate_left
  · intro w hSw; (try dsimp only at hSw); go_simp; (try with_reducible rfl)
  try simp only [Act.put]
  have hbd : Below w.heap.size w w.drew := below_drewN (Below.refl _ _) 1
  have hbA : Below w.heap.size w (w.drew.alloc (.cells #[.int .i64 (k : Int)] 3)) := hbd.alloc (Nat.le_refl _) _
  have hownA : (w.drew.alloc (.cells #[.int .i64 (k : Int)] 3)).ownsRow h0 3 1 (.slice px cx nx) xl.length (xl.map (Value.int .i64)) := World.ownsRow.alloc HO.out.drew _
  have hnw : Src (w.drew.alloc (.cells #[.int .i64 (k : Int)] 3)) (.slice (some ⟨w.heap.size, 0, none⟩) 1 1) 1 1 [.int .i64 (k : Int)] := .inr ⟨⟨w.heap.size, 0, none⟩, 1, rfl, rfl, one_cellF w.drew (.int .i64 (k : Int)) 3, fun z hz => by rw [List.mem_singleton.1 hz]; rfl⟩
  have hmx : xl.length + 1 ≤ maxLen := by unfold maxLen; omega
  have hby : (xl.length + 1) * 8 ≤ 140737488355328 := by omega
  have hsA : h0 ≤ (w.drew.alloc (.cells #[.int .i64 (k : Int)] 3)).heap.size := Nat.le_trans hh hbA.size
  refine wpAnyL_ready (rs := [9]) (by kernel_rfl) (by simp) ?_
  refine AllReadyL.cons rfl (fun K hK => ?_) AllReadyL.nil
  go_simp
  refine hK.out _ _ (cell_keepK hbA c1) (fun hHeld12 => ?_)
  clear hK K
  try simp only [Act.put, List.setIfInBounds_toArray, List.set_cons_zero, List.set_cons_succ]
  refine wpAnyL_ready (rs := [10]) (by kernel_rfl) (by simp) ?_
  refine AllReadyL.cons rfl (fun K hK => ?_) AllReadyL.nil
  refine step_append_src rfl _ _ 25 rfl h0 3 j0 (.int .i64 0) 1 8 Try.underlying25 hj hy0 hy1 hy2 rfl (by decide) (.slice px cx nx) xl.length (xl.map (Value.int .i64)) rfl hownA (.slice (some ⟨w.heap.size, 0, none⟩) 1 1) 1 [.int .i64 (k : Int)] rfl hnw hmx hby hsA ?_
  intro v8 w12 ho8 hg8 hat8
  obtain ⟨a8, m8, k8, rfl⟩ := owns_slice ho8
  have hne1 : some sb ≠ (Value.slice px cx nx).ownBlock := by
    intro e
    have h1 := HM.out.tf d _ HX.out sb e.symm
    have h2 := HM.out.tsb
    omega
  have hVA := (HM.out.var.go hbA).grown hg8 hne1
  have c12 : w12.cell? ⟨sb, 1 + d, none⟩ = some (.slice px cx nx) := by
    have h1 := (HM.out.go hbA).bucket HX.out
    exact (hg8.cell h1 hne1)
  have f12 : w12.frozen? ⟨sb, 1 + d, none⟩ = false := hVA.frozen _
  have hput := HM.out.put HX.out hbA (v' := .slice a8 m8 k8) (L := xl ++ [(k : Int)]) (by rw [List.length_append, List.map_append]; exact ho8) hg8 (by simpa using hat8)
  have HPUT : Hid (∃ tag', SM h0 sb g bs N (fs.set d (.slice a8 m8 k8, xl ++ [(k : Int)])) tv st tag' (w12.setCell ⟨sb, 1 + d, none⟩ (.slice a8 m8 k8)) ∧ ∀ j, j < w.heap.size → tag j = 11 → tag' j = 11 ∧ (w12.setCell ⟨sb, 1 + d, none⟩ (.slice a8 m8 k8)).heap[j]? = w.heap[j]?) := hput
  have HBF : Hid (Below h0 w (w12.setCell ⟨sb, 1 + d, none⟩ (.slice a8 m8 k8))) := ((hbA.mono hh).grown hg8 hsA (fun q hq => (hownA.lt q hq).1)).setCell (p := ⟨sb, 1 + d, none⟩) HL5.out _
  refine hK.out _ _ c12 (fun hHeld13 => ?_)
  clear hK K
  try simp only [Act.put, List.setIfInBounds_toArray]
  clear ho8 hg8 hat8 hput hownA hnw hbA hbd hHeld hHeld12 hVA
  refine wpAnyL_take (i := 13) (v := ?_) rfl (by kernel_rfl) (by kernel_rfl) (by kernel_rfl) (by kernel_rfl) (fun _ _ _ h => h) (Or.inl ⟨by rfl, ?_⟩) (by assumption) ?_
  rotate_left
  · intro w hSw; (try dsimp only at hSw); go_simp; (try with_reducible rfl)
  try simp only [Act.put]
  refine wpAnyL_ready (rs := [14]) (by kernel_rfl) (by simp) ?_
  refine AllReadyL.last rfl (by kernel_rfl) (fun K hK => ?_)
  go_simp
  refine hK.out _ _ ?_
  clear hK K
  try simp only [Act.put, List.setIfInBounds_toArray, List.set_cons_zero, List.set_cons_succ]
  refine wpAnyL_done (by kernel_rfl) ?_ _
  clear hHeld13 c12 f12
  generalize w12.setCell ⟨sb, 1 + d, none⟩ (.slice a8 m8 k8) = w14 at *
  go_wp2
  refine bodyPost_end (results_none rfl _ _ _) rfl ?_
  refine ⟨rfl, ?_, HBF.out⟩
  obtain ⟨tag', hS', hk'⟩ := HPUT.out
  exact ⟨_, tag', by rw [List.map_set, HG.out], hS', hk'⟩

theorem file_sm (h0 sb k g : Nat) (bs : List (Option Nat)) (N : List (Option (List Int))) (fs : List (Value × List Int)) (tv : Value) (st : List StpM) (tag : Nat → Nat) (S : List Int) (hS : N[k]? = some (some S)) (w : World) (hM : SM h0 sb g bs N fs tv st tag w) (hh : h0 ≤ w.heap.size) (hF : ∀ L ∈ fs.map Prod.snd, L.length ≤ 1000000000) :
    Calls Try.prog 48 #[.pointer (some ⟨sb, 0, none⟩), .int .i64 (k : Int)] w fun e w' => e = .returned (.tuple #[]) ∧ (∃ (fs' : List (Value × List Int)) (tag' : Nat → Nat), fs'.map Prod.snd = fileF (fs.map Prod.snd) S.length (k : Int) ∧ SM h0 sb g bs N fs' tv st tag' w' ∧ ∀ j, j < w.heap.size → tag j = 11 → tag' j = 11 ∧ w'.heap[j]? = w.heap[j]?) ∧ Below h0 w w' := by
  by_cases h5 : S.length ≤ 5
  · unfold fileF
    rw [if_pos h5]
    exact file_few h0 sb k g bs N fs tv st tag S hS h5 w hM hh hF
  · unfold fileF
    rw [if_neg h5]
    refine (file_big sb g bs N k S hS (by omega) w hM.row hM.nm).mono ?_
    rintro e w' ⟨rfl, rfl⟩
    exact ⟨rfl, ⟨fs, tag, rfl, hM, fun j _ h => ⟨h, rfl⟩⟩, Below.refl _ _⟩
theorem file_any (h0 sb k : Nat) (N : List (Option (List Int))) (F : List (List Int)) (st : List StpM) (S : List Int) (hS : N[k]? = some (some S)) (w : World) (hX : SX h0 sb N F st w) (hh : h0 ≤ w.heap.size) (hF : ∀ L ∈ F, L.length ≤ 1000000000) :
    Calls Try.prog 48 #[.pointer (some ⟨sb, 0, none⟩), .int .i64 (k : Int)] w fun e w' => e = .returned (.tuple #[]) ∧ SX h0 sb N (fileF F S.length (k : Int)) st w' ∧ Below h0 w w' := by
  obtain ⟨g, bs, fs, tv, tag, rfl, hM⟩ := hX
  refine (file_sm h0 sb k g bs N fs tv st tag S hS w hM hh hF).mono ?_
  rintro e w' ⟨he, ⟨fs', tag', h1, h2, _⟩, h3⟩
  exact ⟨he, ⟨g, bs, fs', tv, tag', h1, h2⟩, h3⟩
end Go.Proofs.Yteekhofollaooaa

namespace Go.Proofs.Yteekhofollaooaa
open Go Go.Proofs Go.RowKit Go.Maps

/-- The buckets hold vertices, at most m each. -/
def FV (n m : Nat) (F : List (List Int)) : Prop := F.length = 6 ∧ ∀ L ∈ F, L.length ≤ m ∧ ∀ x ∈ L, ∃ k : Nat, x = (k : Int) ∧ k < n
/-- Each vertex with at most five neighbours, but r, is in its bucket. -/
def Bk (N : List (Option (List Int))) (F : List (List Int)) (r : Int) : Prop := ∀ (v : Nat) (S : List Int), N[v]? = some (some S) → S.length ≤ 5 → (v : Int) ≠ r → (v : Int) ∈ F.getD S.length []
theorem getD_set_self {α : Type} {l : List α} {i : Nat} (h : i < l.length) (x d : α) : (l.set i x).getD i d = x := by
  rw [List.getD_eq_getElem?_getD, List.getElem?_set_self h]; rfl
theorem getD_set_other {α : Type} {l : List α} {i j : Nat} (h : i ≠ j) (x d : α) : (l.set i x).getD j d = l.getD j d := by
  rw [List.getD_eq_getElem?_getD, List.getElem?_set_ne h, List.getD_eq_getElem?_getD]
theorem FV.set {n m d : Nat} {F : List (List Int)} (h : FV n m F) {L : List Int} (hL : L.length ≤ m ∧ ∀ x ∈ L, ∃ k : Nat, x = (k : Int) ∧ k < n) : FV n m (F.set d L) := by
  refine ⟨by rw [List.length_set]; exact h.1, fun L' hL' => ?_⟩
  rcases List.mem_or_eq_of_mem_set hL' with h1 | rfl
  · exact h.2 L' h1
  · exact hL
theorem FV.mono {n m m' : Nat} {F : List (List Int)} (h : FV n m F) (hm : m ≤ m') : FV n m' F := ⟨h.1, fun L hL => ⟨Nat.le_trans (h.2 L hL).1 hm, (h.2 L hL).2⟩⟩
theorem FV.file {n m d k : Nat} {F : List (List Int)} (h : FV n m F) (hk : k < n) : FV n (m + 1) (fileF F d (k : Int)) := by
  unfold fileF
  split
  · refine (h.mono (Nat.le_succ m)).set ?_
    by_cases hd : d < F.length
    · have hm := h.2 _ (List.getElem_mem hd)
      rw [List.getD_eq_getElem?_getD, List.getElem?_eq_getElem hd]
      refine ⟨by simp only [Option.getD_some, List.length_append, List.length_singleton]; omega, fun x hx => ?_⟩
      rcases List.mem_append.1 hx with hx | hx
      · exact hm.2 x hx
      · exact ⟨k, List.mem_singleton.1 hx, hk⟩
    · rw [List.getD_eq_getElem?_getD, List.getElem?_eq_none (by omega)]
      refine ⟨by simp, fun x hx => ?_⟩
      simp at hx
      exact ⟨k, hx, hk⟩
  · exact h.mono (Nat.le_succ m)
theorem Bk.pop {N : List (Option (List Int))} {F : List (List Int)} {d : Nat} {L : List Int} {x : Int} (h : Bk N F (-1)) (hd : d < F.length) (hF : F.getD d [] = L ++ [x]) : Bk N (F.set d L) x := by
  intro v S hv h5 hne
  have h1 := h v S hv h5 (by omega)
  by_cases e : d = S.length
  · subst e
    rw [getD_set_self hd]
    rw [hF] at h1
    rcases List.mem_append.1 h1 with h2 | h2
    · exact h2
    · exact absurd (List.mem_singleton.1 h2) hne
  · rw [getD_set_other e]
    exact h1
theorem Bk.stale {N : List (Option (List Int))} {F : List (List Int)} {d : Nat} {L : List Int} {k : Nat} (h : Bk N F (-1)) (hd : d < F.length) (hF : F.getD d [] = L ++ [(k : Int)]) (hs : ∀ S, N[k]? = some (some S) → S.length ≠ d) : Bk N (F.set d L) (-1) := by
  intro v S hv h5 hne
  by_cases e : (v : Int) = (k : Int)
  · have e' : v = k := by omega
    subst e'
    rw [getD_set_other (Ne.symm (hs S hv))]
    exact h v S hv h5 hne
  · exact h.pop hd hF v S hv h5 e
theorem owns_pop {W : World} {h0 : Nat} {e : TypeId} {p : Option Addr} {n m c : Nat} {xs : List Value} {x : Value} (h : W.ownsRow h0 e 1 (.slice p m c) (n + 1) (xs ++ [x])) (hx : xs.length = n) : W.ownsRow h0 e 1 (.slice p n c) n xs := by
  obtain ⟨h1, h2⟩ := h
  refine ⟨by omega, ?_⟩
  rcases h2 with ⟨_, h2⟩ | ⟨g, cap, cur, hv, hb, hg, hn, hm, hs, ht⟩
  · omega
  · simp only [Value.slice.injEq] at hv
    obtain ⟨rfl, _, rfl⟩ := hv
    refine .inr ⟨g, c, cur, rfl, hb, hg, by omega, hm, hs, ?_⟩
    have h3 : (cur.toList.take ((n + 1) * 1)).take n = (xs ++ [x]).take n := by rw [ht]
    rw [List.take_take, Nat.min_eq_left (by omega)] at h3
    rw [Nat.mul_one, h3, List.take_append_of_le_length (by omega), List.take_of_length_le (by omega)]
theorem map_none_ne (W : World) : (binOp BinOp.neq 75 (.map none) (.map none)).run Try.prog W = .ok (.bool false) W := by kernel_rfl
theorem map_some_ne (b : Nat) (W : World) : (binOp BinOp.neq 75 (.map (some b)) (.map none)).run Try.prog W = .ok (.bool true) W := by kernel_rfl
/-- What next leaves. -/
def NextP (n m : Nat) (N : List (Option (List Int))) (r : Int) (F : List (List Int)) : Prop := FV n m F ∧ Bk N F r ∧ ((r = -1 ∧ ∀ (v : Nat) (S : List Int), N[v]? = some (some S) → 5 < S.length) ∨ ∃ (k : Nat) (S : List Int), r = (k : Int) ∧ N[k]? = some (some S) ∧ S.length ≤ 5)

set_option maxRecDepth 100000 in
set_option maxHeartbeats 8000000 in
theorem next_any (h0 sb m : Nat) (hm : m ≤ 1000000000) (N : List (Option (List Int))) (F : List (List Int)) (st : List StpM) (w : World) (hX : SX h0 sb N F st w) (hF : FV N.length m F) (hB : Bk N F (-1)) :
    Calls Try.prog 34 #[.pointer (some ⟨sb, 0, none⟩)] w fun e w' => ∃ (r : Int) (F' : List (List Int)), e = .returned (.int .i64 r) ∧ SX h0 sb N F' st w' ∧ NextP N.length m N r F' ∧ Below h0 w w' := by
  have HX0 : Hid (SX h0 sb N F st w) := hX
  have HF0 : Hid (FV N.length m F ∧ Bk N F (-1)) := ⟨hF, hB⟩
  clear hX hF hB
  go_enter Try.func34, Try.ntmps34
  go_wp2
  go_loopw [6] (fun iv wr => ∃ (d : Nat) (F' : List (List Int)), d ≤ 6 ∧ iv = .int .i64 d ∧ SX h0 sb N F' st wr ∧ FV N.length m F' ∧ Bk N F' (-1) ∧ (∀ j, j < d → F'.getD j [] = []) ∧ Below h0 w wr) (fun iv _ => 6 - (intOf iv).toNat)
  case atStart => exact ⟨0, F, by omega, rfl, HX0.out, HF0.out.1, HF0.out.2, fun j hj => absurd hj (Nat.not_lt_zero _), Below.refl _ _⟩
  case round =>
    clear HX0 HF0
    obtain ⟨d, F1, hd, rfl, hX1, hF1, hB1, hE1, hb1⟩ := hrel
    by_cases hlt : d < 6
    · have hdI : (d : Int) < 6 := by omega
      have HX1 : Hid (SX h0 sb N F1 st wr) := hX1
      have HF1 : Hid (FV N.length m F1 ∧ Bk N F1 (-1) ∧ (∀ j, j < d → F1.getD j [] = [])) := ⟨hF1, hB1, hE1⟩
      have HB1 : Hid (Below h0 w wr) := hb1
      clear hX1 hF1 hB1 hE1 hb1
      go_wp2
      go_loopg [] ((F1.getD d []).length + 1) (fun k ws => ∃ F2 : List (List Int), (F2.getD d []).length < k ∧ SX h0 sb N F2 st ws ∧ FV N.length m F2 ∧ Bk N F2 (-1) ∧ (∀ j, j < d → F2.getD j [] = []) ∧ Below h0 w ws)
      case atStart => exact ⟨F1, by omega, HX1.out, HF1.out.1, HF1.out.2.1, HF1.out.2.2, HB1.out⟩
      case round =>
        clear HX1 HF1 HB1
        obtain ⟨F2, hk2, hX2, hF2, hB2, hE2, hb2⟩ := hrel
        obtain ⟨g, bs, fs, tv, tag, rfl, hM⟩ := hX2
        have h6 := hM.f6
        obtain ⟨x, hx⟩ : ∃ x, fs[d]? = some x := ⟨_, List.getElem?_eq_getElem (by omega)⟩
        have hG : (fs.map Prod.snd).getD d [] = x.2 := by rw [List.getD_eq_getElem?_getD, List.getElem?_map, hx]; rfl
        have c1 := hM.bucket hx
        have f1 := hM.var.frozen (1 + d)
        have hown := hM.few x (List.mem_of_getElem? hx)
        rw [hG] at hk2
        obtain ⟨xv, xl⟩ := x
        dsimp only at *
        rcases List.eq_nil_or_concat xl with rfl | ⟨L, y, hcc⟩
        · have HE : Hid ((fs.map Prod.snd).getD d [] = []) := hG
          have HS : Hid (SX h0 sb N (fs.map Prod.snd) st wr) := ⟨g, bs, fs, tv, tag, rfl, hM⟩
          have HF2 : Hid (FV N.length m (fs.map Prod.snd) ∧ Bk N (fs.map Prod.snd) (-1) ∧ (∀ j, j < d → (fs.map Prod.snd).getD j [] = []) ∧ Below h0 w wr) := ⟨hF2, hB2, hE2, hb2⟩
          obtain ⟨px, cx, nx, rfl⟩ := owns_slice hown
          have hc0 : cx = 0 := by
            rcases hown.2 with ⟨h, _⟩ | ⟨_, _, _, h, _⟩ <;> simp at h <;> omega
          subst hc0
          clear hM hown hG hk2 hF2 hB2 hE2 hb2 hx
          go_wp2
          refine ⟨⟨d + 1, _, by omega, by go_num, HS.out, HF2.out.1, HF2.out.2.1, fun j hj => ?_, HF2.out.2.2.2⟩, by simp [intOf]; omega⟩
          by_cases e : j = d
          · subst e; exact HE.out
          · exact HF2.out.2.2.1 j (by omega)
        · rw [List.concat_eq_append] at hcc
          subst hcc
          have hxm : (L ++ [y]) ∈ fs.map Prod.snd := List.mem_map.2 ⟨_, List.mem_of_getElem? hx, rfl⟩
          obtain ⟨k, rfl, hkn⟩ := (hF2.2 _ hxm).2 y (by simp)
          have hLm := (hF2.2 _ hxm).1
          rw [List.length_append, List.length_singleton] at hLm hk2 hown
          obtain ⟨b, c, rfl, hLc⟩ : ∃ b c, xv = .slice (some ⟨b, 0, none⟩) (L.length + 1) c ∧ L.length + 1 ≤ c := by
            rcases hown.2 with ⟨_, h⟩ | ⟨b, c, _, h, _, _, h2, _⟩
            · omega
            · exact ⟨b, c, h, h2⟩
          have c2 : wr.cell? ⟨b, L.length, none⟩ = some (.int .i64 (k : Int)) := by
            have h1 := hown.cellAt L.length (by omega)
            rw [h1, List.map_append, List.getElem?_append_right (by simp)]
            simp
          have hpop := owns_pop (n := L.length) (by rw [List.map_append] at hown; exact hown) (by simp)
          obtain ⟨tagP, hMP, -⟩ := hM.put hx (Below.refl _ _) (B := wr) (v' := .slice (some ⟨b, 0, none⟩) L.length c) (L := L) hpop ⟨rfl, rfl, rfl, Nat.le_refl _, fun _ _ _ => rfl⟩ (.inl rfl)
          have hbP : Below h0 w (wr.setCell ⟨sb, 1 + d, none⟩ (.slice (some ⟨b, 0, none⟩) L.length c)) := hb2.setCell (p := ⟨sb, 1 + d, none⟩) hM.lsb _
          have HMP : Hid (SM h0 sb g bs N (fs.set d (.slice (some ⟨b, 0, none⟩) L.length c, L)) tv st tagP (wr.setCell ⟨sb, 1 + d, none⟩ (.slice (some ⟨b, 0, none⟩) L.length c))) := hMP
          have HBP : Hid (Below h0 w (wr.setCell ⟨sb, 1 + d, none⟩ (.slice (some ⟨b, 0, none⟩) L.length c))) := hbP
          have hL5 : FV N.length m ((fs.map Prod.snd).set d L) := hF2.set ⟨by omega, fun x hx' => (hF2.2 _ hxm).2 x (List.mem_append_left _ hx')⟩
          have HF2 : Hid (FV N.length m ((fs.map Prod.snd).set d L) ∧ Bk N (fs.map Prod.snd) (-1) ∧ (∀ j, j < d → (fs.map Prod.snd).getD j [] = [])) := ⟨hL5, hB2, hE2⟩
          have HG : Hid ((fs.map Prod.snd).getD d [] = L ++ [(k : Int)]) := hG
          have hdF : d < (fs.map Prod.snd).length := by rw [List.length_map]; omega
          have hkI : (k : Int) < (N.length : Int) := by omega
          have hc0 := hMP.row
          have HK2 : Hid (L.length + 1 < _) := hk2
          have hLc2 : L.length ≤ c := by omega
          clear hM hown hpop hMP hbP hF2 hB2 hE2 hb2 hx hxm hL5 hG h6 hk2
          go_wp2_with fail
          refine wp_region_last (S := (fun w' : World => w'.cell? ⟨sb, 1 + d, none⟩ = some (.slice (some ⟨b, 0, none⟩) (L.length + 1) c))) (by kernel_rfl) c1 (fun hHeld => ?_)
          refine wpAnyL_take (i := 0) (v := ?_) rfl (by kernel_rfl) (by kernel_rfl) (by kernel_rfl) (by kernel_rfl) (fun _ _ _ h => h) (Or.inl ⟨by rfl, ?_⟩) (by assumption) ?_
          rotate_left
          · intro w hSw; (try dsimp only at hSw); go_simp; (try with_reducible rfl)
          try simp only [Act.put, List.setIfInBounds_toArray]
          refine wpAnyL_take (i := 1) (v := ?_) rfl (by kernel_rfl) (by kernel_rfl) (by kernel_rfl) (by kernel_rfl) (fun _ _ _ h => h) (Or.inl ⟨by rfl, ?_⟩) (by assumption) ?_
          rotate_left
          · intro w hSw; (try dsimp only at hSw); go_simp; (try with_reducible rfl)
          try simp only [Act.put]
          refine wpAnyL_take (i := 2) (v := ?_) rfl (by kernel_rfl) (by kernel_rfl) (by kernel_rfl) (by kernel_rfl) (fun _ _ _ h => h) (Or.inl ⟨by rfl, ?_⟩) (by assumption) ?_
          rotate_left
          · intro w hSw; (try dsimp only at hSw); go_simp; (try with_reducible rfl)
          try simp only [Act.put]
          refine wpAnyL_take (i := 3) (v := ?_) rfl (by kernel_rfl) (by kernel_rfl) (by kernel_rfl) (by kernel_rfl) (fun _ _ _ h => h) (Or.inl ⟨by rfl, ?_⟩) (by assumption) ?_
          rotate_left
          · intro w hSw; (try dsimp only at hSw); go_simp; (try with_reducible rfl)
          try simp only [Act.put]
          refine wpAnyL_take (i := 4) (v := ?_) rfl (by kernel_rfl) (by kernel_rfl) (by kernel_rfl) (by kernel_rfl) (fun _ _ _ h => h) (Or.inl ⟨by rfl, ?_⟩) (by assumption) ?_
          rotate_left
          · intro w hSw; (try dsimp only at hSw); go_simp; (try with_reducible rfl)
          try simp only [Act.put]
          refine wpAnyL_take (i := 5) (v := ?_) rfl (by kernel_rfl) (by kernel_rfl) (by kernel_rfl) (by kernel_rfl) (fun _ _ _ h => h) (Or.inl ⟨by rfl, ?_⟩) (by assumption) ?_
          rotate_left
          · intro w hSw; (try dsimp only at hSw); go_simp; (try with_reducible rfl)
          try simp only [Act.put]
          refine wpAnyL_take (i := 6) (v := ?_) rfl (by kernel_rfl) (by kernel_rfl) (by kernel_rfl) (by kernel_rfl) (fun _ _ _ h => h) (Or.inl ⟨by rfl, ?_⟩) (by assumption) ?_
          rotate_left
          · intro w hSw; (try dsimp only at hSw); go_simp; (try with_reducible rfl)
          try simp only [Act.put]
          refine wpAnyL_take (i := 7) (v := ?_) rfl (by kernel_rfl) (by kernel_rfl) (by kernel_rfl) (by kernel_rfl) (fun _ _ _ h => h) (Or.inl ⟨by rfl, ?_⟩) (by assumption) ?_
          rotate_left
          · intro w hSw; (try dsimp only at hSw); go_simp; (try with_reducible rfl)
          try simp only [Act.put]
          refine wpAnyL_take (i := 8) (v := ?_) rfl (by kernel_rfl) (by kernel_rfl) (by kernel_rfl) (by kernel_rfl) (fun _ _ _ h => h) (Or.inl ⟨by rfl, ?_⟩) (by assumption) ?_
          rotate_left
          · intro w hSw; (try dsimp only at hSw); go_simp; (try with_reducible rfl)
          try simp only [Act.put]
          refine wpAnyL_take (i := 9) (v := ?_) rfl (by kernel_rfl) (by kernel_rfl) (by kernel_rfl) (by kernel_rfl) (fun _ _ _ h => h) (Or.inl ⟨by rfl, ?_⟩) (by assumption) ?_
          rotate_left
          · intro w hSw; (try dsimp only at hSw); go_simp; (try with_reducible rfl)
          try simp only [Act.put]
          refine wpAnyL_take (i := 10) (v := ?_) rfl (by kernel_rfl) (by kernel_rfl) (by kernel_rfl) (by kernel_rfl) (fun _ _ _ h => h) (Or.inl ⟨by rfl, ?_⟩) (by assumption) ?_
          rotate_left
          · intro w hSw; (try dsimp only at hSw); go_simp; (try with_reducible rfl)
          try simp only [Act.put]
          refine wpAnyL_take (i := 11) (v := ?_) rfl (by kernel_rfl) (by kernel_rfl) (by kernel_rfl) (by kernel_rfl) (fun _ _ _ h => h) (Or.inl ⟨by rfl, ?_⟩) (by assumption) ?_
          rotate_left
          · intro w hSw; (try dsimp only at hSw); go_simp; (try with_reducible rfl)
          try simp only [Act.put]
          refine wpAnyL_take (i := 12) (v := ?_) rfl (by kernel_rfl) (by kernel_rfl) (by kernel_rfl) (by kernel_rfl) (fun _ _ _ h => h) (Or.inl ⟨by rfl, ?_⟩) (by assumption) ?_
          rotate_left
          · intro w hSw; (try dsimp only at hSw); go_simp; (try with_reducible rfl)
          try simp only [Act.put]
          refine wpAnyL_ready (rs := [13]) (by kernel_rfl) (by simp) ?_
          refine AllReadyL.last rfl (by kernel_rfl) (fun K hK => ?_)
          go_simp
          refine hK.out _ _ ?_
          clear hK K
          try simp only [Act.put, List.setIfInBounds_toArray, List.set_cons_zero, List.set_cons_succ]
          refine wpAnyL_done (by kernel_rfl) ?_ _
          clear hHeld c1 f1 c2
          have HMD : Hid (SM h0 sb g bs N (fs.set d (.slice (some ⟨b, 0, none⟩) L.length c, L)) tv st tagP (wr.setCell ⟨sb, 1 + d, none⟩ (.slice (some ⟨b, 0, none⟩) L.length c)).drew) := HMP.out.go (below_drewN (Below.refl _ _) 1)
          have HBD : Hid (Below h0 w (wr.setCell ⟨sb, 1 + d, none⟩ (.slice (some ⟨b, 0, none⟩) L.length c)).drew) := below_drewN HBP.out 1
          have hc0' : (wr.setCell ⟨sb, 1 + d, none⟩ (.slice (some ⟨b, 0, none⟩) L.length c)).drew.cell? ⟨sb, 0, none⟩ = some (.slice (some ⟨g, 0, none⟩) N.length N.length) := hc0
          have HSX : Hid (SX h0 sb N ((fs.map Prod.snd).set d L) st (wr.setCell ⟨sb, 1 + d, none⟩ (.slice (some ⟨b, 0, none⟩) L.length c)).drew) := ⟨g, bs, _, tv, tagP, by rw [List.map_set], HMD.out⟩
          clear HMP HBP hc0
          generalize (wr.setCell ⟨sb, 1 + d, none⟩ (.slice (some ⟨b, 0, none⟩) L.length c)).drew = w5 at *
          cases hNk : N[k]? with
          | none => exact absurd (List.getElem?_eq_none_iff.1 hNk) (by omega)
          | some o =>
            cases o with
            | none =>
              have hcm : w5.cell? ⟨g, k, none⟩ = some (.map none) := HMD.out.nm.row.cell (by rw [List.getElem?_map, HMD.out.nm.gone k hNk]; rfl)
              have HBS : Hid (Bk N ((fs.map Prod.snd).set d L) (-1)) := HF2.out.2.1.stale hdF HG.out (fun S hS => by rw [hNk] at hS; cases hS)
              have hmn := map_none_ne w5
              clear HMD
              go_wp2
              go_roundg (L.length + 1)
              case measure => have := HK2.out; omega
              case rel => exact ⟨_, by rw [getD_set_self hdF]; omega, HSX.out, HF2.out.1, HBS.out, fun j hj => by rw [getD_set_other (by omega)]; exact HF2.out.2.2 j hj, HBD.out⟩
            | some S =>
              obtain ⟨bk, _, hMk, hcm, _⟩ := HMD.out.nm.cell hNk
              have hrun := hMk.len 3
              have hmn := map_some_ne bk w5
              clear hMk
              by_cases hSd : S.length = d
              · have HNX : Hid (NextP N.length m N (k : Int) ((fs.map Prod.snd).set d L)) := ⟨HF2.out.1, HF2.out.2.1.pop hdF HG.out, .inr ⟨k, S, rfl, hNk, by omega⟩⟩
                have hSI : ((S.length : Int) == (d : Int)) = true := by rw [beq_iff_eq]; omega
                clear HMD hSd
                go_wp2
                go_ret
                exact ⟨_, _, rfl, HSX.out, HNX.out, HBD.out⟩
              · have HBS : Hid (Bk N ((fs.map Prod.snd).set d L) (-1)) := HF2.out.2.1.stale hdF HG.out (fun T hT => by rw [hNk] at hT; cases hT; exact hSd)
                have hSI : ((S.length : Int) == (d : Int)) = false := by rw [beq_eq_false_iff_ne]; omega
                clear HMD hSd
                go_wp2
                go_roundg (L.length + 1)
                case measure => have := HK2.out; omega
                case rel => exact ⟨_, by rw [getD_set_self hdF]; omega, HSX.out, HF2.out.1, HBS.out, fun j hj => by rw [getD_set_other (by omega)]; exact HF2.out.2.2 j hj, HBD.out⟩
    · obtain rfl : d = 6 := by omega
      have HX1 : Hid (SX h0 sb N F1 st wr) := hX1
      have HF1 : Hid (NextP N.length m N (-1) F1) := by
        refine ⟨hF1, hB1, .inl ⟨rfl, fun v S hv => ?_⟩⟩
        by_cases h5 : S.length ≤ 5
        · have h1 := hB1 v S hv h5 (by omega)
          rw [hE1 S.length (by omega)] at h1
          cases h1
        · omega
      have HB1 : Hid (Below h0 w wr) := hb1
      clear hX1 hF1 hB1 hE1 hb1
      go_wp2
      go_ret
      exact ⟨-1, F1, rfl, HX1.out, HF1.out, HB1.out⟩
end Go.Proofs.Yteekhofollaooaa
