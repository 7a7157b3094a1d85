/-
  The contracts of slices.Clone at edges and at numbers.
-/
import Derived.Test.YtonfhkdciaiilaaQR
import Derived.Test.YtonfhkdciaiilaaQH
import Derived.Test.YtonfhkdciaiilaaQI
import Derived.Test.YtonfhkdciaiilaaQF
import Derived.Test.YtonfhkdciaiilaaQD
import Derived.Test.YtonfhkdciaiilaaQL
namespace Go.Proofs.Ytonfhkdciaiilaa
open Go Go.Proofs Go.RowKit

theorem flat_cells {w : World} {b off c : Nat} {L : List Ed} (h : Edges w.heap.size w (.slice (some ⟨b, off, none⟩) L.length c) L) : ∀ (j : Nat) (u : Value), (flat L)[j]? = some u → w.cell? ((⟨b, off, none⟩ : Addr).add j) = some u := by
  intro j u hu
  have hj := (List.getElem?_eq_some_iff.1 hu).1
  rw [flat_len] at hj
  have hi : j / 3 < L.length := by omega
  obtain ⟨b', off', e, _, _, hc, -⟩ := h.open hi
  simp only [Option.some.injEq, Addr.mk.injEq, and_true] at e
  obtain ⟨rfl, rfl⟩ := e
  obtain ⟨c0, c1, c2⟩ := hc w (Below.refl _ _) _ hi
  obtain ⟨k0, k1, k2⟩ := flat_at (List.getElem?_eq_getElem hi)
  rw [Go.WideShapes.add_plain]
  have hm : j % 3 = 0 ∨ j % 3 = 1 ∨ j % 3 = 2 := by omega
  rcases hm with h0 | h0 | h0
  · have e : j = j / 3 * 3 := by omega
    rw [← e] at k0 c0
    rw [hu] at k0
    rw [Option.some.inj k0]
    exact c0
  · have e : j = j / 3 * 3 + 1 := by omega
    rw [← e] at k1
    rw [hu] at k1
    rw [Option.some.inj k1]
    rw [Nat.add_assoc, ← e] at c1
    exact c1
  · have e : j = j / 3 * 3 + 2 := by omega
    rw [← e] at k2
    rw [hu] at k2
    rw [Option.some.inj k2]
    rw [Nat.add_assoc, ← e] at c2
    exact c2
theorem flat_oneC (l : List Ed) : ∀ u ∈ flat l, u.oneCell' = true := by
  intro u hu
  unfold flat at hu
  obtain ⟨e, _, h⟩ := List.mem_flatMap.1 hu
  exact one3 e u h
theorem Src.edges {W : World} {p : Option Addr} {c : Nat} {L : List Ed} (h : Edges W.heap.size W (.slice p L.length c) L) : Src W (.slice p L.length c) L.length 3 (flat L) := by
  by_cases hL : L.length = 0
  · have e : L = [] := List.eq_nil_of_length_eq_zero hL
    subst e
    cases p with
    | none => exact .inl ⟨⟨c, rfl⟩, rfl, rfl⟩
    | some ad => exact .inr ⟨ad, c, rfl, rfl, fun j u hu => by simp [flat] at hu, fun u hu => by simp [flat] at hu⟩
  · obtain ⟨b, off, rfl, _, _, _, _⟩ := h.open (j := 0) (by omega)
    exact .inr ⟨_, c, rfl, flat_len L, flat_cells h, flat_oneC L⟩

set_option maxRecDepth 100000 in
set_option maxHeartbeats 2000000 in
theorem cloneE_any (L : List Ed) (hL : L.length ≤ 4194304) (sv : Value) (w : World) (h : Edges w.heap.size w sv L) :
    Calls Try.prog 33 #[sv] w fun e w' => ∃ v', e = .returned v' ∧ w'.ownsRow w.heap.size 44 3 v' L.length (flat L) ∧ Below w.heap.size w w' := by
  obtain ⟨p, c, rfl⟩ := h.len
  cases p with
  | none =>
    have e : L = [] := by
      rcases h with ⟨_, e⟩ | ⟨b, off, cap, h1, _⟩
      · exact e
      · simp at h1
    subst e
    have heq : (binOp .eql 22 (.slice none 0 c) (.slice none 0 0)).run Try.prog w = .ok (.bool true) w := by rfl
    clear h
    go_enter Try.func33, Try.ntmps33
    go_wp2
    go_ret
    exact ⟨.slice none 0 0, rfl, owns_none _ _ _, Below.refl _ _⟩
  | some ad =>
    obtain ⟨i0, hi, hz0, hz1, hz2⟩ := info_parts infoE
    have hbA : Below w.heap.size w (w.alloc (.cells #[] 44)) := (Below.refl _ _).alloc (Nat.le_refl _) _
    have hB : Blk 44 (w.alloc (.cells #[] 44)) w.heap.size [] := heap_alloc_new w _
    have hown : (w.alloc (.cells #[] 44)).ownsRow w.heap.size 44 3 (.slice (some ⟨w.heap.size, 0, none⟩) 0 0) 0 [] := ⟨by simp, .inr ⟨w.heap.size, 0, #[], rfl, Nat.le_refl _, hB, Nat.le_refl _, by unfold maxLen; omega, rfl, rfl⟩⟩
    have heq : (binOp .eql 22 (.slice (some ad) L.length c) (.slice none 0 0)).run Try.prog w = .ok (.bool false) w := by rfl
    have hsrc := Src.edges (h.go hbA)
    have hmx : 0 + L.length ≤ maxLen := by unfold maxLen; omega
    have hby : (0 + L.length) * 24 ≤ 140737488355328 := by omega
    have hbs : w.heap.size ≤ (w.alloc (.cells #[] 44)).heap.size := by simp
    clear h
    go_enter Try.func33, Try.ntmps33
    go_wp2_with (at_builtin; refine wpList_append_src _ rfl _ _ 22 rfl w.heap.size 44 i0 (.agg #[.int .i64 0, .int .i64 0, .int .i64 0]) 3 24 Try.underlying22 hi hz0 hz1 hz2 rfl (by decide) (.slice (some ⟨w.heap.size, 0, none⟩) 0 0) _ _ rfl hown (.slice (some ad) L.length c) L.length (flat L) rfl hsrc hmx hby hbs ?_)
    intro v7 w7 hown7 hg7
    obtain ⟨a7, m7, k7, rfl⟩ := owns_slice hown7
    have hb7 : Below w.heap.size w w7 := hbA.grown hg7 hbs (fun k e => (hown.lt k e).1)
    have HO : Hid (w7.ownsRow w.heap.size 44 3 (.slice a7 m7 k7) L.length (flat L)) := by
      unfold Hid
      simpa using hown7
    clear hown7 hg7 hown hsrc
    go_wp2
    go_ret
    exact ⟨.slice a7 m7 k7, rfl, HO.out, hb7⟩

set_option maxRecDepth 100000 in
set_option maxHeartbeats 2000000 in
theorem cloneI_any (L : List Int) (hL : L.length ≤ 4194304) (sv : Value) (w : World) (h : Ints w.heap.size w sv L) :
    Calls Try.prog 34 #[sv] w fun e w' => ∃ v', e = .returned v' ∧ w'.ownsRow w.heap.size 3 1 v' L.length (L.map (Value.int .i64)) ∧ Below w.heap.size w w' := by
  obtain ⟨p, c, rfl⟩ := h.len
  cases p with
  | none =>
    have e : L = [] := by
      rcases h with ⟨_, e⟩ | ⟨b, off, cap, h1, _⟩
      · exact e
      · simp at h1
    subst e
    have heq : (binOp .eql 32 (.slice none 0 c) (.slice none 0 0)).run Try.prog w = .ok (.bool true) w := by rfl
    clear h
    go_enter Try.func34, Try.ntmps34
    go_wp2
    go_ret
    exact ⟨.slice none 0 0, rfl, World.ownsRow_nil _ _ _ _, Below.refl _ _⟩
  | some ad =>
    obtain ⟨i0, hi, hz0, hz1, hz2⟩ := info_parts infoI
    have hbA : Below w.heap.size w (w.alloc (.cells #[] 3)) := (Below.refl _ _).alloc (Nat.le_refl _) _
    have hB : Blk 3 (w.alloc (.cells #[] 3)) w.heap.size [] := heap_alloc_new w _
    have hown : (w.alloc (.cells #[] 3)).ownsRow w.heap.size 3 1 (.slice (some ⟨w.heap.size, 0, none⟩) 0 0) 0 [] := ⟨by simp, .inr ⟨w.heap.size, 0, #[], rfl, Nat.le_refl _, hB, Nat.le_refl _, by unfold maxLen; omega, rfl, rfl⟩⟩
    have heq : (binOp .eql 32 (.slice (some ad) L.length c) (.slice none 0 0)).run Try.prog w = .ok (.bool false) w := by rfl
    have hsrc := Src.ints (h.go hbA)
    have hmx : 0 + L.length ≤ maxLen := by unfold maxLen; omega
    have hby : (0 + L.length) * 8 ≤ 140737488355328 := by omega
    have hbs : w.heap.size ≤ (w.alloc (.cells #[] 3)).heap.size := by simp
    clear h
    go_enter Try.func34, Try.ntmps34
    go_wp2_with (at_builtin; refine wpList_append_src _ rfl _ _ 32 rfl w.heap.size 3 i0 (.int .i64 0) 1 8 Try.underlying32 hi hz0 hz1 hz2 rfl (by decide) (.slice (some ⟨w.heap.size, 0, none⟩) 0 0) _ _ rfl hown (.slice (some ad) L.length c) L.length (L.map (Value.int .i64)) rfl hsrc hmx hby hbs ?_)
    intro v7 w7 hown7 hg7
    obtain ⟨a7, m7, k7, rfl⟩ := owns_slice hown7
    have hb7 : Below w.heap.size w w7 := hbA.grown hg7 hbs (fun k e => (hown.lt k e).1)
    have HO : Hid (w7.ownsRow w.heap.size 3 1 (.slice a7 m7 k7) L.length (L.map (Value.int .i64))) := by
      unfold Hid
      simpa using hown7
    clear hown7 hg7 hown hsrc
    go_wp2
    go_ret
    exact ⟨.slice a7 m7 k7, rfl, HO.out, hb7⟩
end Go.Proofs.Ytonfhkdciaiilaa

namespace Go.Proofs.Ytonfhkdciaiilaa
open Go Go.Proofs Go.RowKit

theorem Grp.same {h0 : Nat} {lv : Value} {svs : List Value} {pre : List (List Int)} {A B : World} (h : Grp h0 lv svs pre A) (h1 : ∀ q, lv.ownBlock = some q → B.heap[q]? = A.heap[q]?) (h2 : ∀ sv ∈ svs, ∀ q, sv.ownBlock = some q → B.heap[q]? = A.heap[q]?) : Grp h0 lv svs pre B :=
  ⟨h.len, owns_same h.own h1, fun k sv xs hk hp => owns_same (h.inn k sv xs hk hp) (h2 sv (List.mem_of_getElem? hk)), h.apart, h.outer⟩
theorem Grp.lts {h0 : Nat} {lv : Value} {svs : List Value} {pre : List (List Int)} {W : World} (h : Grp h0 lv svs pre W) {sv : Value} (hs : sv ∈ svs) {q : Nat} (hq : sv.ownBlock = some q) : h0 ≤ q ∧ q < W.heap.size := by
  obtain ⟨k, hk⟩ := List.getElem?_of_mem hs
  have hl := (List.getElem?_eq_some_iff.1 hk).1
  exact (h.inn k sv _ hk (List.getElem?_eq_getElem (by rw [← h.len]; exact hl))).lt q hq

/-- Edges and lists while components are joined: eb and lb are the variables' blocks, g the row of lists; what lies below h0, and from c0 to below c1, is as it was in w0. -/
structure JI (w0 : World) (h0 c0 c1 eb lb g N : Nat) (sE : Value) (svs : List Value) (l : List Ed) (pre : List (List Int)) (W : World) : Prop where
  ve : Blk 22 W eb [sE]
  vl : Blk 25 W lb [.slice (some ⟨g, 0, none⟩) N N]
  own : W.ownsRow h0 44 3 sE l.length (flat l)
  grp : Grp h0 (.slice (some ⟨g, 0, none⟩) N N) svs pre W
  nE : ∀ q, sE.ownBlock = some q → q ≠ eb ∧ q ≠ lb ∧ q ≠ g ∧ (q < c0 ∨ c1 ≤ q)
  nS : ∀ sv ∈ svs, ∀ q, sv.ownBlock = some q → q ≠ eb ∧ q ≠ lb ∧ q ≠ g ∧ (q < c0 ∨ c1 ≤ q) ∧ sE.ownBlock ≠ some q
  low : h0 ≤ eb ∧ h0 ≤ lb ∧ h0 ≤ g ∧ eb < c0 ∧ lb < c0 ∧ g < c0 ∧ eb ≠ lb ∧ g ≠ eb ∧ g ≠ lb ∧ h0 ≤ c0 ∧ c0 ≤ c1 ∧ c1 ≤ W.heap.size
  num : svs.length = N
  keep : Below h0 w0 W
  mid : ∀ q, c0 ≤ q → q < c1 → W.heap[q]? = w0.heap[q]?

theorem JI.drew {w0 : World} {h0 c0 c1 eb lb g N : Nat} {sE : Value} {svs : List Value} {l : List Ed} {pre : List (List Int)} {W : World} (h : JI w0 h0 c0 c1 eb lb g N sE svs l pre W) (k : Nat) : JI w0 h0 c0 c1 eb lb g N sE svs l pre (W.drewN k) := by
  have hb : Below W.heap.size W (W.drewN k) := below_drewN (Below.refl _ _) k
  exact ⟨h.ve.go hb, h.vl.go hb, owns_below h.own hb, h.grp.go hb, h.nE, h.nS, h.low, h.num, below_drewN h.keep k, fun q h1 h2 => (hb.block q (by have := h.low; omega)).trans (h.mid q h1 h2)⟩

theorem JI.edge {w0 : World} {h0 c0 c1 eb lb g N : Nat} {sE sE' : Value} {svs : List Value} {l : List Ed} {pre : List (List Int)} {W B : World} {o : Obj} {e : Ed} (h : JI w0 h0 c0 c1 eb lb g N sE svs l pre W)
    (hB : B.ownsRow h0 44 3 sE' (l.length + 1) (flat l ++ encE e)) (hg : (W.alloc o).grownBy B sE.ownBlock) (hat : sE'.ownBlock = sE.ownBlock ∨ sE'.ownBlock = some (W.alloc o).heap.size) :
    Blk 22 B eb [sE] ∧ JI w0 h0 c0 c1 eb lb g N sE' svs (l ++ [e]) pre (B.setCell ⟨eb, 0, none⟩ sE') := by
  have hl := h.low
  have hsz : (W.alloc o).heap.size = W.heap.size + 1 := by simp
  have hgs := hg.size
  have hq : ∀ q, q < W.heap.size → sE.ownBlock ≠ some q → B.heap[q]? = W.heap[q]? := fun q h1 h2 => (hg.block q (by omega) (fun e => h2 e.symm)).trans (Below.heap_alloc _ _ _ (by omega))
  have hs : ∀ q, q ≠ eb → (B.setCell ⟨eb, 0, none⟩ sE').heap[q]? = B.heap[q]? := fun q h1 => Below.heap_setCell _ _ _ _ (by simpa using h1)
  have heE : Blk 22 B eb [sE] := (hq eb h.ve.lt (fun e => (h.nE _ e).1 rfl)).trans h.ve
  refine ⟨heE, heE.set 0 sE', ?_, ?_, ?_, ?_, ?_, ?_, h.num, ?_, ?_⟩
  · exact ((hs lb (by omega)).trans (hq lb h.vl.lt (fun e => (h.nE _ e).2.1 rfl))).trans h.vl
  · rw [List.length_append, flat_snoc]
    refine owns_same hB (fun q hq' => hs q ?_)
    rcases hat with h1 | h1
    · rw [h1] at hq'; exact (h.nE q hq').1
    · rw [h1] at hq'; have := Option.some.inj hq'; have := h.ve.lt; omega
  · refine h.grp.same (fun q hq' => ?_) (fun sv hsv q hq' => ?_)
    · have e : q = g := (Option.some.inj hq').symm
      subst e
      exact (hs q (by omega)).trans (hq q (h.grp.own.lt q rfl).2 (fun e => (h.nE _ e).2.2.1 rfl))
    · have h1 := h.nS sv hsv q hq'
      exact (hs q h1.1).trans (hq q (h.grp.lts hsv hq').2 h1.2.2.2.2)
  · intro q hq'
    rcases hat with h1 | h1
    · rw [h1] at hq'; exact h.nE q hq'
    · rw [h1] at hq'; have := Option.some.inj hq'; refine ⟨by omega, by omega, by omega, .inr (by omega)⟩
  · intro sv hsv q hq'
    obtain ⟨a1, a2, a3, a4, a5⟩ := h.nS sv hsv q hq'
    refine ⟨a1, a2, a3, a4, fun e => ?_⟩
    rcases hat with h1 | h1
    · rw [h1] at e; exact a5 e
    · rw [h1] at e
      have := Option.some.inj e
      have := (h.grp.lts hsv hq').2
      omega
  · have : (B.setCell ⟨eb, 0, none⟩ sE').heap.size = B.heap.size := by simp
    omega
  · exact ((h.keep.alloc (by omega) o).grown hg (by omega) (fun k e => (h.own.lt k e).1)).setCell (p := ⟨eb, 0, none⟩) (by simp only; omega) _
  · intro q h1 h2
    refine ((hs q (by omega)).trans (hq q (by omega) (fun e => ?_))).trans (h.mid q h1 h2)
    have := (h.nE q e).2.2.2
    omega

theorem JI.pushed {w0 : World} {h0 c0 c1 eb lb g N k c : Nat} {p : Option Addr} {sE sv' : Value} {svs : List Value} {l : List Ed} {pre : List (List Int)} {W B : World} {o : Obj} {xs : List Int} {y : Int} (h : JI w0 h0 c0 c1 eb lb g N sE svs l pre W) (hk : svs[k]? = some (.slice p xs.length c)) (hp : pre[k]? = some xs)
    (hB : B.ownsRow h0 3 1 sv' (xs.length + 1) (xs.map (Value.int .i64) ++ [.int .i64 y])) (hg : (W.alloc o).grownBy B (Value.slice p xs.length c).ownBlock) (hat : sv'.ownBlock = (Value.slice p xs.length c).ownBlock ∨ sv'.ownBlock = some (W.alloc o).heap.size) :
    B.cell? ⟨g, k, none⟩ = some (.slice p xs.length c) ∧ B.frozen? ⟨g, k, none⟩ = false ∧ Blk 25 B lb [.slice (some ⟨g, 0, none⟩) N N] ∧ JI w0 h0 c0 c1 eb lb g N sE (svs.set k sv') l (pre.set k (xs ++ [y])) (B.setCell ⟨g, k, none⟩ sv') := by
  obtain ⟨g1, g2, g3⟩ := h.grp.pushed h.num hk hp hB hg hat
  have hl := h.low
  have hsz : (W.alloc o).heap.size = W.heap.size + 1 := by simp
  have hgs := hg.size
  have hmem := List.mem_of_getElem? hk
  have hq : ∀ q, q < W.heap.size → (Value.slice p xs.length c).ownBlock ≠ some q → B.heap[q]? = W.heap[q]? := fun q h1 h2 => (hg.block q (by omega) (fun e => h2 e.symm)).trans (Below.heap_alloc _ _ _ (by omega))
  have hs : ∀ q, q ≠ g → (B.setCell ⟨g, k, none⟩ sv').heap[q]? = B.heap[q]? := fun q h1 => Below.heap_setCell _ _ _ _ (by simpa using h1)
  have hvl : Blk 25 B lb [.slice (some ⟨g, 0, none⟩) N N] := (hq lb h.vl.lt (fun e => (h.nS _ hmem _ e).2.1 rfl)).trans h.vl
  refine ⟨g1, g2, hvl, ?_, ?_, ?_, g3, h.nE, ?_, ?_, by rw [List.length_set]; exact h.num, ?_, ?_⟩
  · exact ((hs eb (by omega)).trans (hq eb h.ve.lt (fun e => (h.nS _ hmem _ e).1 rfl))).trans h.ve
  · exact (hs lb (by omega)).trans hvl
  · exact owns_same h.own (fun q hq' => (hs q (h.nE q hq').2.2.1).trans (hq q (h.own.lt q hq').2 (fun e => (h.nS _ hmem q e).2.2.2.2 hq')))
  · intro sv hsv q hq'
    rcases List.mem_or_eq_of_mem_set hsv with h1 | rfl
    · exact h.nS sv h1 q hq'
    · rcases hat with h1 | h1
      · rw [h1] at hq'; exact h.nS _ hmem q hq'
      · rw [h1] at hq'
        have := Option.some.inj hq'
        refine ⟨by omega, by omega, by omega, .inr (by omega), fun e => ?_⟩
        have := (h.own.lt q e).2
        omega
  · have : (B.setCell ⟨g, k, none⟩ sv').heap.size = B.heap.size := by simp
    omega
  · exact ((h.keep.alloc (by omega) o).grown hg (by omega) (fun q e => (h.grp.lts hmem e).1)).setCell (p := ⟨g, k, none⟩) (by simp only; omega) _
  · intro q h1 h2
    refine ((hs q (by omega)).trans (hq q (by omega) (fun e => ?_))).trans (h.mid q h1 h2)
    have := (h.nS _ hmem q e).2.2.2.1
    omega
theorem JI.at {w0 : World} {h0 c0 c1 eb lb g N k : Nat} {sE : Value} {svs : List Value} {l : List Ed} {pre : List (List Int)} {W : World} (h : JI w0 h0 c0 c1 eb lb g N sE svs l pre W) {xs : List Int} (hp : pre[k]? = some xs) : ∃ p c, svs[k]? = some (.slice p xs.length c) ∧ W.cell? ⟨g, k, none⟩ = some (.slice p xs.length c) ∧ W.ownsRow h0 3 1 (.slice p xs.length c) xs.length (xs.map (Value.int .i64)) := by
  have hkl : k < svs.length := by rw [h.grp.len]; exact (List.getElem?_eq_some_iff.1 hp).1
  have hsu := List.getElem?_eq_getElem hkl
  have hinn := h.grp.inn k _ xs hsu hp
  obtain ⟨ps, cs, e⟩ := owns_formP hinn
  rw [e] at hsu hinn
  have h1 := h.grp.own.cells (g := g) rfl k _ hsu
  rw [Go.WideShapes.add_plain, Nat.zero_add] at h1
  exact ⟨ps, cs, hsu, h1, hinn⟩
end Go.Proofs.Ytonfhkdciaiilaa

namespace Go.Proofs.Ytonfhkdciaiilaa
open Go Go.Proofs Go.RowKit

/-- A list at place k gets y behind it. -/
def pushR (r : List (List Int)) (k : Nat) (y : Int) : List (List Int) := r.set k (r.getD k [] ++ [y])
theorem pushR_len (r : List (List Int)) (k : Nat) (y : Int) : (pushR r k y).length = r.length := by simp [pushR]
theorem getD_some {r : List (List Int)} {k : Nat} (h : k < r.length) : r[k]? = some (r.getD k []) := by
  rw [List.getD_eq_getElem?_getD, List.getElem?_eq_getElem h]
  rfl
theorem pushR_short {r : List (List Int)} {k : Nat} {y : Int} {B : Nat} (h : ∀ x ∈ r, x.length ≤ B) : ∀ x ∈ pushR r k y, x.length ≤ B + 1 := by
  intro x hx
  unfold pushR at hx
  rcases List.mem_or_eq_of_mem_set hx with h1 | h1
  · have := h x h1; omega
  · subst h1
    rw [List.length_append, List.length_singleton, List.getD_eq_getElem?_getD]
    cases hk : r[k]? with
    | none => simp
    | some z => have := h z (List.mem_of_getElem? hk); simp only [Option.getD_some]; omega

set_option maxRecDepth 100000 in
set_option maxHeartbeats 8000000 in
theorem join_any (w0 : World) (h0 c0 c1 eb lb g N : Nat) (sE : Value) (svs : List Value) (l : List Ed) (pre : List (List Int)) (u v : Nat) (hu : u < N) (hv : v < N) (hl4 : l.length ≤ 8388608) (hin : ∀ x ∈ pre, x.length ≤ 8388608) (W : World) (hJ : JI w0 h0 c0 c1 eb lb g N sE svs l pre W) :
    Calls Try.prog 35 #[.int .i64 (u : Int), .int .i64 (v : Int), .pointer (some ⟨eb, 0, none⟩), .pointer (some ⟨lb, 0, none⟩)] W fun e w' => e = .returned (.tuple #[]) ∧ ∃ sE' svs', JI w0 h0 c0 c1 eb lb g N sE' svs' (l ++ [((u : Int), (v : Int), 0)]) (pushR (pushR pre u (v : Int)) v (u : Int)) w' := by
  obtain ⟨i0, hi, hz0, hz1, hz2⟩ := info_parts infoE
  obtain ⟨j0, hj, hy0, hy1, hy2⟩ := info_parts infoI
  have hpl : pre.length = N := by rw [← hJ.grp.len]; exact hJ.num
  obtain ⟨pe, ce, rfl⟩ := owns_form hJ.own
  have q0 := hJ.ve.cell (j := 0) rfl
  have hbA : Below W.heap.size W (W.alloc (.cells #[.int .i64 (u : Int), .int .i64 (v : Int), .int .i64 0] 44)) := (Below.refl _ _).alloc (Nat.le_refl _) _
  have hownA := owns_below hJ.own hbA
  have hnews : ∀ i w, (encE ((u : Int), (v : Int), 0))[i]? = some w → (W.alloc (.cells #[.int .i64 (u : Int), .int .i64 (v : Int), .int .i64 0] 44)).cell? ((⟨W.heap.size, 0, none⟩ : Addr).add i) = some w := news3 (w := W) ((u : Int), (v : Int), 0)
  have hone := one3 ((u : Int), (v : Int), 0)
  have hmx : l.length + 1 ≤ maxLen := by unfold maxLen; omega
  have hby : (l.length + 1) * 24 ≤ 140737488355328 := by omega
  have hbs : h0 ≤ (W.alloc (.cells #[.int .i64 (u : Int), .int .i64 (v : Int), .int .i64 0] 44)).heap.size := by have := hJ.low; simp; omega
  have HJ : Hid (JI w0 h0 c0 c1 eb lb g N (.slice pe l.length ce) svs l pre W) := hJ
  have HIN : Hid (∀ x ∈ pre, x.length ≤ 8388608) := hin
  have HPL : Hid (pre.length = N) := hpl
  clear hJ hin hpl
  go_enter Try.func35, Try.ntmps35
  go_wp2_with (at_builtin; refine wpList_append_own_at _ rfl _ _ 22 rfl h0 44 i0 (.agg #[.int .i64 0, .int .i64 0, .int .i64 0]) 3 24 Try.underlying22 hi hz0 hz1 hz2 (by simp [Value.cells]) (by decide) (.slice pe l.length ce) _ _ rfl hownA ⟨W.heap.size, 0, none⟩ 1 1 (encE ((u : Int), (v : Int), 0)) rfl rfl hnews hone hmx hby hbs ?_)
  intro v2 w2 hown2 hg2 _ hat2
  obtain ⟨a2, m2, k2, rfl⟩ := owns_slice hown2
  have hat2' : (Value.slice a2 m2 k2).ownBlock = (Value.slice pe l.length ce).ownBlock ∨ (Value.slice a2 m2 k2).ownBlock = some (W.alloc (.cells #[.int .i64 (u : Int), .int .i64 (v : Int), .int .i64 0] 44)).heap.size := by simpa using hat2
  obtain ⟨hE2, hJ2⟩ := HJ.out.edge hown2 hg2 hat2'
  have q1 := hE2.cell (j := 0) rfl
  have f1 := hE2.frozen 0
  have HJ2 : Hid (JI w0 h0 c0 c1 eb lb g N (.slice a2 m2 k2) svs (l ++ [((u : Int), (v : Int), 0)]) pre (w2.setCell ⟨eb, 0, none⟩ (.slice a2 m2 k2))) := hJ2
  clear hownA hnews hone hmx hby hbs hbA hown2 hg2 hat2 hat2' hE2 hJ2 q0
  go_wp2_with fail
  generalize w2.setCell ⟨eb, 0, none⟩ (.slice a2 m2 k2) = w3 at *
  clear q1 f1
  have HIN3 : Hid (∀ x ∈ pre, x.length ≤ 8388609) := fun x hx => by have := HIN.out x hx; omega
  have HIN4 : Hid (∀ x ∈ pushR pre u (v : Int), x.length ≤ 8388609) := pushR_short HIN.out
  have HPL3 : Hid (pre.length = N) := HPL.out
  have HPL4 : Hid ((pushR pre u (v : Int)).length = N) := (pushR_len _ _ _).trans HPL.out
  have HUV : Hid (u < N ∧ v < N) := ⟨hu, hv⟩
  have huN : (u : Int) < (N : Int) := by omega
  have hvN : (v : Int) < (N : Int) := by omega
  clear HIN HPL HJ
  have hk3 : u < (pre).length := by have := HPL3.out; omega
  have hp3 := getD_some hk3
  have hx3 : ((pre).getD u []).length ≤ 8388609 := HIN3.out _ (List.mem_of_getElem? hp3)
  obtain ⟨p3, k3, hs3, c3, ho3⟩ := HJ2.out.at hp3
  have b3 := HJ2.out.vl.cell (j := 0) rfl
  have HP3 : Hid _ := hp3
  have HSV3 : Hid _ := hs3
  have HOW3 : Hid _ := ho3
  have HPU3 : Hid ((pre).set u ((pre).getD u [] ++ [(v : Int)]) = pushR (pre) u (v : Int)) := rfl
  clear hp3 hs3 ho3 hk3
  generalize (pre).getD u [] = xs3 at *
  go_wp2_with fail
  refine wp_region_last (S := (fun w' : World => w'.cell? ⟨lb, 0, none⟩ = some (.slice (some ⟨g, 0, none⟩) N N) ∧ w'.cell? ⟨g, u, none⟩ = some (.slice p3 xs3.length k3))) (by kernel_rfl) ⟨b3, c3⟩ (fun hHeld => ?_)
  refine wpAnyL_take (i := 0) (v := ?_) rfl (by kernel_rfl) (by kernel_rfl) (by kernel_rfl) (by kernel_rfl) (fun _ _ _ h => h) (Or.inl ⟨by rfl, ?_⟩) (by assumption) ?_
  rotate_left
  · intro w hSw; (try dsimp only at hSw); go_simp; (try with_reducible rfl)
  try simp only [Act.put, List.setIfInBounds_toArray]
  refine wpAnyL_take (i := 1) (v := ?_) rfl (by kernel_rfl) (by kernel_rfl) (by kernel_rfl) (by kernel_rfl) (fun _ _ _ h => h) (Or.inl ⟨by rfl, ?_⟩) (by assumption) ?_
  rotate_left
  · intro w hSw; (try dsimp only at hSw); go_simp; (try with_reducible rfl)
  try simp only [Act.put]
  refine wpAnyL_take (i := 2) (v := ?_) rfl (by kernel_rfl) (by kernel_rfl) (by kernel_rfl) (by kernel_rfl) (fun _ _ _ h => h) (Or.inl ⟨by rfl, ?_⟩) (by assumption) ?_
  rotate_left
  · intro w hSw; (try dsimp only at hSw); go_simp; (try with_reducible rfl)
  try simp only [Act.put]
  refine wpAnyL_take (i := 3) (v := ?_) rfl (by kernel_rfl) (by kernel_rfl) (by kernel_rfl) (by kernel_rfl) (fun _ _ _ h => h) (Or.inl ⟨by rfl, ?_⟩) (by assumption) ?_
  rotate_left
  · intro w hSw; (try dsimp only at hSw); go_simp; (try with_reducible rfl)
  try simp only [Act.put]
  try simp only [List.getElem_toArray, List.getElem_cons_zero, List.getElem_cons_succ, List.setIfInBounds_toArray, List.set_cons_zero, List.set_cons_succ]
  refine wpAnyL_take (i := 4) (v := ?_) rfl (by kernel_rfl) (by kernel_rfl) (by kernel_rfl) (by kernel_rfl) (fun _ _ _ h => h) (Or.inl ⟨by rfl, ?_⟩) (by assumption) ?_
  rotate_left
  · intro w hSw; (try dsimp only at hSw); go_simp; (try with_reducible rfl)
  try simp only [Act.put]
  refine wpAnyL_take (i := 5) (v := ?_) rfl (by kernel_rfl) (by kernel_rfl) (by kernel_rfl) (by kernel_rfl) (fun _ _ _ h => h) (Or.inl ⟨by rfl, ?_⟩) (by assumption) ?_
  rotate_left
  · intro w hSw; (try dsimp only at hSw); go_simp; (try with_reducible rfl)
  try simp only [Act.put]
  refine wpAnyL_take (i := 6) (v := ?_) rfl (by kernel_rfl) (by kernel_rfl) (by kernel_rfl) (by kernel_rfl) (fun _ _ _ h => h) (Or.inl ⟨by rfl, ?_⟩) (by assumption) ?_
  rotate_left
  · intro w hSw; (try dsimp only at hSw); go_simp; (try with_reducible rfl)
  try simp only [Act.put]
  try simp only [List.getElem_toArray, List.getElem_cons_zero, List.getElem_cons_succ, List.setIfInBounds_toArray, List.set_cons_zero, List.set_cons_succ]
  have hJd3 := HJ2.out.drew 1
  have hod3 := owns_below HOW3.out (below_drewN (Below.refl _ _) 1 : Below (w3).heap.size (w3) ((w3).drewN 1))
  have hHe3 : ((w3).drewN 1).cell? ⟨lb, 0, none⟩ = some (.slice (some ⟨g, 0, none⟩) N N) ∧ ((w3).drewN 1).cell? ⟨g, u, none⟩ = some (.slice p3 xs3.length k3) := hHeld
  have HJD3 : Hid _ := hJd3
  have HOD3 : Hid _ := hod3
  have HHE3 : Hid _ := hHe3
  clear hJd3 hod3 hHe3 hHeld b3 c3
  have hdd3 : (w3).drew = (w3).drewN 1 := rfl
  rw [hdd3]
  clear hdd3
  generalize (w3).drewN 1 = e3 at *
  have hbA3 : Below e3.heap.size e3 (e3.alloc (.cells #[.int .i64 (v : Int)] 3)) := (Below.refl _ _).alloc (Nat.le_refl _) _
  have hownA3 := owns_below HOD3.out hbA3
  have hnw3 : Src (e3.alloc (.cells #[.int .i64 (v : Int)] 3)) (.slice (some ⟨e3.heap.size, 0, none⟩) 1 1) 1 1 [.int .i64 (v : Int)] := .inr ⟨⟨e3.heap.size, 0, none⟩, 1, rfl, rfl, one_cell e3 (.int .i64 (v : Int)) 3, fun z hz => by rw [List.mem_singleton.1 hz]; rfl⟩
  have hmx3 : xs3.length + 1 ≤ maxLen := by unfold maxLen; omega
  have hby3 : (xs3.length + 1) * 8 ≤ 140737488355328 := by omega
  have hsA3 : h0 ≤ (e3.alloc (.cells #[.int .i64 (v : Int)] 3)).heap.size := by have := HJD3.out.low; simp; omega
  refine wpAnyL_ready (rs := [7]) (by kernel_rfl) (by simp) ?_
  refine AllReadyL.cons rfl (fun K hK => ?_) AllReadyL.nil
  go_simp
  refine hK.out _ _ ⟨cell_keepK hbA3 HHE3.out.1, cell_keepK hbA3 HHE3.out.2⟩ (fun hHeld6 => ?_)
  clear hK K hHeld6
  try simp only [Act.put, List.setIfInBounds_toArray, List.set_cons_zero, List.set_cons_succ]
  refine wpAnyL_ready (rs := [8]) (by kernel_rfl) (by simp) ?_
  refine AllReadyL.cons rfl (fun K hK => ?_) AllReadyL.nil
  refine step_append_src rfl _ _ 32 rfl h0 3 j0 (.int .i64 0) 1 8 Try.underlying32 hj hy0 hy1 hy2 rfl (by decide) (.slice p3 xs3.length k3) xs3.length (xs3.map (Value.int .i64)) rfl hownA3 (.slice (some ⟨e3.heap.size, 0, none⟩) 1 1) 1 [.int .i64 (v : Int)] rfl hnw3 hmx3 hby3 hsA3 ?_
  intro v8 w8 ho8 hg8 hat8
  obtain ⟨a3, m3, n3, rfl⟩ := owns_slice ho8
  obtain ⟨g1, g2, g3, g4⟩ := HJD3.out.pushed HSV3.out HP3.out ho8 hg8 hat8
  rw [HPU3.out] at g4
  refine hK.out _ _ ⟨g3.cell (j := 0) rfl, g1⟩ (fun hHeld7 => ?_)
  clear hK K
  try simp only [Act.put, List.setIfInBounds_toArray]
  have HJN3 : Hid _ := g4
  clear g3 g4 ho8 hg8 hat8 hownA3 hnw3 hmx3 hby3 hsA3 hbA3 HOD3 HHE3 HOW3 HJD3 HJ2
  refine wpAnyL_take (i := 9) (v := ?_) rfl (by kernel_rfl) (by kernel_rfl) (by kernel_rfl) (by kernel_rfl) (fun _ _ _ h => h) (Or.inl ⟨by rfl, ?_⟩) (by assumption) ?_
  rotate_left
  · intro w hSw; (try dsimp only at hSw); go_simp; (try with_reducible rfl)
  try simp only [Act.put]
  refine wpAnyL_ready (rs := [10]) (by kernel_rfl) (by simp) ?_
  refine AllReadyL.last rfl (by kernel_rfl) (fun K hK => ?_)
  go_simp
  refine hK.out _ _ ?_
  clear hK K
  try simp only [Act.put, List.setIfInBounds_toArray, List.set_cons_zero, List.set_cons_succ]
  refine wpAnyL_done (by kernel_rfl) ?_ _
  clear hHeld7 g1 g2
  generalize w8.setCell ⟨g, u, none⟩ (.slice a3 m3 n3) = W3 at *
  have HJ4 : Hid (JI w0 h0 c0 c1 eb lb g N (.slice a2 m2 k2) (svs.set u (.slice a3 m3 n3)) (l ++ [((u : Int), (v : Int), 0)]) (pushR pre u (v : Int)) W3) := HJN3.out
  clear HJN3 HP3 HSV3 HPU3
  generalize svs.set u (.slice a3 m3 n3) = svs4 at *
  have hk4 : v < (pushR pre u (v : Int)).length := by have := HPL4.out; omega
  have hp4 := getD_some hk4
  have hx4 : ((pushR pre u (v : Int)).getD v []).length ≤ 8388609 := HIN4.out _ (List.mem_of_getElem? hp4)
  obtain ⟨p4, k4, hs4, c4, ho4⟩ := HJ4.out.at hp4
  have b4 := HJ4.out.vl.cell (j := 0) rfl
  have HP4 : Hid _ := hp4
  have HSV4 : Hid _ := hs4
  have HOW4 : Hid _ := ho4
  have HPU4 : Hid ((pushR pre u (v : Int)).set v ((pushR pre u (v : Int)).getD v [] ++ [(u : Int)]) = pushR (pushR pre u (v : Int)) v (u : Int)) := rfl
  clear hp4 hs4 ho4 hk4
  generalize (pushR pre u (v : Int)).getD v [] = xs4 at *
  go_wp2_with fail
  refine wp_region_last (S := (fun w' : World => w'.cell? ⟨lb, 0, none⟩ = some (.slice (some ⟨g, 0, none⟩) N N) ∧ w'.cell? ⟨g, v, none⟩ = some (.slice p4 xs4.length k4))) (by kernel_rfl) ⟨b4, c4⟩ (fun hHeld => ?_)
  refine wpAnyL_take (i := 0) (v := ?_) rfl (by kernel_rfl) (by kernel_rfl) (by kernel_rfl) (by kernel_rfl) (fun _ _ _ h => h) (Or.inl ⟨by rfl, ?_⟩) (by assumption) ?_
  rotate_left
  · intro w hSw; (try dsimp only at hSw); go_simp; (try with_reducible rfl)
  try simp only [Act.put, List.setIfInBounds_toArray]
  refine wpAnyL_take (i := 1) (v := ?_) rfl (by kernel_rfl) (by kernel_rfl) (by kernel_rfl) (by kernel_rfl) (fun _ _ _ h => h) (Or.inl ⟨by rfl, ?_⟩) (by assumption) ?_
  rotate_left
  · intro w hSw; (try dsimp only at hSw); go_simp; (try with_reducible rfl)
  try simp only [Act.put]
  refine wpAnyL_take (i := 2) (v := ?_) rfl (by kernel_rfl) (by kernel_rfl) (by kernel_rfl) (by kernel_rfl) (fun _ _ _ h => h) (Or.inl ⟨by rfl, ?_⟩) (by assumption) ?_
  rotate_left
  · intro w hSw; (try dsimp only at hSw); go_simp; (try with_reducible rfl)
  try simp only [Act.put]
  refine wpAnyL_take (i := 3) (v := ?_) rfl (by kernel_rfl) (by kernel_rfl) (by kernel_rfl) (by kernel_rfl) (fun _ _ _ h => h) (Or.inl ⟨by rfl, ?_⟩) (by assumption) ?_
  rotate_left
  · intro w hSw; (try dsimp only at hSw); go_simp; (try with_reducible rfl)
  try simp only [Act.put]
  try simp only [List.getElem_toArray, List.getElem_cons_zero, List.getElem_cons_succ, List.setIfInBounds_toArray, List.set_cons_zero, List.set_cons_succ]
  refine wpAnyL_take (i := 4) (v := ?_) rfl (by kernel_rfl) (by kernel_rfl) (by kernel_rfl) (by kernel_rfl) (fun _ _ _ h => h) (Or.inl ⟨by rfl, ?_⟩) (by assumption) ?_
  rotate_left
  · intro w hSw; (try dsimp only at hSw); go_simp; (try with_reducible rfl)
  try simp only [Act.put]
  refine wpAnyL_take (i := 5) (v := ?_) rfl (by kernel_rfl) (by kernel_rfl) (by kernel_rfl) (by kernel_rfl) (fun _ _ _ h => h) (Or.inl ⟨by rfl, ?_⟩) (by assumption) ?_
  rotate_left
  · intro w hSw; (try dsimp only at hSw); go_simp; (try with_reducible rfl)
  try simp only [Act.put]
  refine wpAnyL_take (i := 6) (v := ?_) rfl (by kernel_rfl) (by kernel_rfl) (by kernel_rfl) (by kernel_rfl) (fun _ _ _ h => h) (Or.inl ⟨by rfl, ?_⟩) (by assumption) ?_
  rotate_left
  · intro w hSw; (try dsimp only at hSw); go_simp; (try with_reducible rfl)
  try simp only [Act.put]
  try simp only [List.getElem_toArray, List.getElem_cons_zero, List.getElem_cons_succ, List.setIfInBounds_toArray, List.set_cons_zero, List.set_cons_succ]
  have hJd4 := HJ4.out.drew 1
  have hod4 := owns_below HOW4.out (below_drewN (Below.refl _ _) 1 : Below (W3).heap.size (W3) ((W3).drewN 1))
  have hHe4 : ((W3).drewN 1).cell? ⟨lb, 0, none⟩ = some (.slice (some ⟨g, 0, none⟩) N N) ∧ ((W3).drewN 1).cell? ⟨g, v, none⟩ = some (.slice p4 xs4.length k4) := hHeld
  have HJD4 : Hid _ := hJd4
  have HOD4 : Hid _ := hod4
  have HHE4 : Hid _ := hHe4
  clear hJd4 hod4 hHe4 hHeld b4 c4
  have hdd4 : (W3).drew = (W3).drewN 1 := rfl
  rw [hdd4]
  clear hdd4
  generalize (W3).drewN 1 = e4 at *
  have hbA4 : Below e4.heap.size e4 (e4.alloc (.cells #[.int .i64 (u : Int)] 3)) := (Below.refl _ _).alloc (Nat.le_refl _) _
  have hownA4 := owns_below HOD4.out hbA4
  have hnw4 : Src (e4.alloc (.cells #[.int .i64 (u : Int)] 3)) (.slice (some ⟨e4.heap.size, 0, none⟩) 1 1) 1 1 [.int .i64 (u : Int)] := .inr ⟨⟨e4.heap.size, 0, none⟩, 1, rfl, rfl, one_cell e4 (.int .i64 (u : Int)) 3, fun z hz => by rw [List.mem_singleton.1 hz]; rfl⟩
  have hmx4 : xs4.length + 1 ≤ maxLen := by unfold maxLen; omega
  have hby4 : (xs4.length + 1) * 8 ≤ 140737488355328 := by omega
  have hsA4 : h0 ≤ (e4.alloc (.cells #[.int .i64 (u : Int)] 3)).heap.size := by have := HJD4.out.low; simp; omega
  refine wpAnyL_ready (rs := [7]) (by kernel_rfl) (by simp) ?_
  refine AllReadyL.cons rfl (fun K hK => ?_) AllReadyL.nil
  go_simp
  refine hK.out _ _ ⟨cell_keepK hbA4 HHE4.out.1, cell_keepK hbA4 HHE4.out.2⟩ (fun hHeld6 => ?_)
  clear hK K hHeld6
  try simp only [Act.put, List.setIfInBounds_toArray, List.set_cons_zero, List.set_cons_succ]
  refine wpAnyL_ready (rs := [8]) (by kernel_rfl) (by simp) ?_
  refine AllReadyL.cons rfl (fun K hK => ?_) AllReadyL.nil
  refine step_append_src rfl _ _ 32 rfl h0 3 j0 (.int .i64 0) 1 8 Try.underlying32 hj hy0 hy1 hy2 rfl (by decide) (.slice p4 xs4.length k4) xs4.length (xs4.map (Value.int .i64)) rfl hownA4 (.slice (some ⟨e4.heap.size, 0, none⟩) 1 1) 1 [.int .i64 (u : Int)] rfl hnw4 hmx4 hby4 hsA4 ?_
  intro v8 w8 ho8 hg8 hat8
  obtain ⟨a4, m4, n4, rfl⟩ := owns_slice ho8
  obtain ⟨g1, g2, g3, g4⟩ := HJD4.out.pushed HSV4.out HP4.out ho8 hg8 hat8
  rw [HPU4.out] at g4
  refine hK.out _ _ ⟨g3.cell (j := 0) rfl, g1⟩ (fun hHeld7 => ?_)
  clear hK K
  try simp only [Act.put, List.setIfInBounds_toArray]
  have HJN4 : Hid _ := g4
  clear g3 g4 ho8 hg8 hat8 hownA4 hnw4 hmx4 hby4 hsA4 hbA4 HOD4 HHE4 HOW4 HJD4 HJ4
  refine wpAnyL_take (i := 9) (v := ?_) rfl (by kernel_rfl) (by kernel_rfl) (by kernel_rfl) (by kernel_rfl) (fun _ _ _ h => h) (Or.inl ⟨by rfl, ?_⟩) (by assumption) ?_
  rotate_left
  · intro w hSw; (try dsimp only at hSw); go_simp; (try with_reducible rfl)
  try simp only [Act.put]
  refine wpAnyL_ready (rs := [10]) (by kernel_rfl) (by simp) ?_
  refine AllReadyL.last rfl (by kernel_rfl) (fun K hK => ?_)
  go_simp
  refine hK.out _ _ ?_
  clear hK K
  try simp only [Act.put, List.setIfInBounds_toArray, List.set_cons_zero, List.set_cons_succ]
  refine wpAnyL_done (by kernel_rfl) ?_ _
  clear hHeld7 g1 g2
  generalize w8.setCell ⟨g, v, none⟩ (.slice a4 m4 n4) = W4 at *
  go_wp2
  refine bodyPost_end (results_none rfl _ _ _) rfl ?_
  exact ⟨rfl, _, _, HJN4.out⟩
end Go.Proofs.Ytonfhkdciaiilaa

namespace Go.Proofs.Ytonfhkdciaiilaa
open Go Go.Proofs Go.RowKit

theorem JI.put {w0 : World} {h0 c0 c1 eb lb g N k : Nat} {sE sv' : Value} {svs : List Value} {l : List Ed} {pre : List (List Int)} {W B : World} {xs : List Int} (h : JI w0 h0 c0 c1 eb lb g N sE svs l pre W) (hk : k < N) (hb : Below W.heap.size W B) (hB : B.ownsRow W.heap.size 3 1 sv' xs.length (xs.map (Value.int .i64))) :
    JI w0 h0 c0 c1 eb lb g N sE (svs.set k sv') l (pre.set k xs) (B.setCell ⟨g, k, none⟩ sv') := by
  have hl := h.low
  have hn := h.num
  have hs : ∀ q, q ≠ g → (B.setCell ⟨g, k, none⟩ sv').heap[q]? = B.heap[q]? := fun q h1 => Below.heap_setCell _ _ _ _ (by simpa using h1)
  have hg : Grp h0 (.slice (some ⟨g, 0, none⟩) svs.length N) svs pre W := by rw [hn]; exact h.grp
  have hp := hg.put (k := k) (by omega) (by omega) hb hB
  rw [hn] at hp
  have hbs := hb.size
  refine ⟨?_, ?_, ?_, hp, h.nE, ?_, ?_, by rw [List.length_set]; exact hn, ?_, ?_⟩
  · exact ((hs eb (by omega)).trans (hb.block eb h.ve.lt)).trans h.ve
  · exact ((hs lb (by omega)).trans (hb.block lb h.vl.lt)).trans h.vl
  · exact owns_same h.own (fun q hq => (hs q (h.nE q hq).2.2.1).trans (hb.block q (h.own.lt q hq).2))
  · intro sv hsv q hq
    rcases List.mem_or_eq_of_mem_set hsv with h1 | rfl
    · exact h.nS sv h1 q hq
    · have h1 := (hB.lt q hq).1
      refine ⟨by omega, by omega, by omega, .inr (by omega), fun e => ?_⟩
      have := (h.own.lt q e).2
      omega
  · have : (B.setCell ⟨g, k, none⟩ sv').heap.size = B.heap.size := by simp
    omega
  · exact (h.keep.trans (hb.mono (by omega))).setCell (p := ⟨g, k, none⟩) (by simp only; omega) _
  · intro q h1 h2
    exact ((hs q (by omega)).trans (hb.block q (by omega))).trans (h.mid q h1 h2)

theorem JI.again {w0 : World} {h0 c0 c1 eb lb g N : Nat} {sE : Value} {svs : List Value} {l : List Ed} {pre : List (List Int)} {W B : World} (h : JI w0 h0 c0 c1 eb lb g N sE svs l pre W) (hb : Below W.heap.size W B) : JI B h0 W.heap.size B.heap.size eb lb g N sE svs l pre B := by
  have hl := h.low
  have hbs := hb.size
  refine ⟨h.ve.go hb, h.vl.go hb, owns_below h.own hb, h.grp.go hb, ?_, ?_, ?_, h.num, Below.refl _ _, fun q _ _ => rfl⟩
  · intro q hq
    obtain ⟨a1, a2, a3, _⟩ := h.nE q hq
    exact ⟨a1, a2, a3, .inl (h.own.lt q hq).2⟩
  · intro sv hsv q hq
    obtain ⟨a1, a2, a3, _, a5⟩ := h.nS sv hsv q hq
    exact ⟨a1, a2, a3, .inl (h.grp.lts hsv hq).2, a5⟩
  · have h1 := h.ve.lt
    have h2 := h.vl.lt
    have h3 := (h.grp.own.lt g rfl).2
    omega
theorem JI.comps {w0 : World} {h0 c0 c1 eb lb g N : Nat} {sE : Value} {svs : List Value} {l : List Ed} {pre : List (List Int)} {W : World} (h : JI w0 h0 c0 c1 eb lb g N sE svs l pre W) {hc : Nat} {lv : Value} {cvs : List Value} {C : List (List Int)} (hC : Grp hc lv cvs C w0) (h1 : c0 ≤ hc) (h2 : w0.heap.size = c1) : Grp hc lv cvs C W := by
  refine hC.same (fun q hq => ?_) (fun sv hsv q hq => ?_)
  · have := hC.own.lt q hq
    exact h.mid q (by omega) (by omega)
  · have := hC.lts hsv hq
    exact h.mid q (by omega) (by omega)

/-- The vertex that component number i is joined at. -/
def atC (C : List (List Int)) (i : Nat) : Int := (C.getD i []).getD 0 0
def jE (l : List Ed) (C : List (List Int)) : Nat → List Ed
  | 0 => l
  | i + 1 => if i = 0 then jE l C i else jE l C i ++ [(atC C 0, atC C i, 0)]
def jR (r : List (List Int)) (C : List (List Int)) : Nat → List (List Int)
  | 0 => r
  | i + 1 => if i = 0 then jR r C i else pushR (pushR (jR r C i) (atC C 0).toNat (atC C i)) (atC C i).toNat (atC C 0)
theorem jE_len (l : List Ed) (C : List (List Int)) : ∀ i, (jE l C i).length ≤ l.length + i
  | 0 => Nat.le_refl _
  | i + 1 => by
    unfold jE
    have := jE_len l C i
    split
    · omega
    · rw [List.length_append, List.length_singleton]; omega
theorem jR_len (r C : List (List Int)) : ∀ i, (jR r C i).length = r.length
  | 0 => rfl
  | i + 1 => by
    unfold jR
    split
    · exact jR_len r C i
    · rw [pushR_len, pushR_len]; exact jR_len r C i
theorem jR_short {r C : List (List Int)} {B : Nat} (h : ∀ x ∈ r, x.length ≤ B) : ∀ i, ∀ x ∈ jR r C i, x.length ≤ B + 2 * i
  | 0 => by simpa [jR] using h
  | i + 1 => by
    unfold jR
    have ih := jR_short (C := C) h i
    split
    · intro x hx; have := ih x hx; omega
    · intro x hx
      have := pushR_short (pushR_short ih) x hx
      omega
theorem atC_ok {N : Nat} {C : List (List Int)} (hC : CompsOK N C) {i : Nat} (hi : i < C.length) : ∃ u : Nat, atC C i = (u : Int) ∧ u < N ∧ C[i].length ≠ 0 ∧ C[i][0]? = some (u : Int) := by
  have hm := List.getElem_mem hi
  have hne := hC.ne _ hm
  have hp := List.length_pos_iff.2 hne
  obtain ⟨u, hu, huN⟩ := hC.mem _ hm _ (List.getElem_mem hp)
  refine ⟨u, ?_, huN, by omega, by rw [List.getElem?_eq_getElem hp, hu]⟩
  have e : C.getD i [] = C[i] := by rw [List.getD_eq_getElem?_getD, List.getElem?_eq_getElem hi]; rfl
  unfold atC
  rw [e, List.getD_eq_getElem?_getD, List.getElem?_eq_getElem hp, Option.getD_some, hu]
end Go.Proofs.Ytonfhkdciaiilaa
