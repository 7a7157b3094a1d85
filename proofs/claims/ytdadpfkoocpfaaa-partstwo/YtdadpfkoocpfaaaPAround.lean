/-
  (*walk).side, (*walk).around.
-/
import Derived.Deep.QuietTactic
import Derived.BigQuiet
import Derived.Deep.LoopGhost
import Derived.Laws.OwnMore
import Derived.OwnWalk
import Derived.Test.YtdadpfkoocpfaaaPTwoMath
import Derived.Test.YtdadpfkoocpfaaaPWalked
namespace Go.Proofs.Ytdadpfkoocpfaaa
open Go Go.Proofs Go.RowKit

def sideB (D : List Int) (v : Nat) : Bool := D.getD v 0 % 2 == 1
set_option maxRecDepth 100000 in
set_option maxHeartbeats 2000000 in
theorem side_any (a : Lay) (lv pv ov : Value) (s : WS) (v : Nat) (hv : v < a.N) (hD : s.depth.length = a.N) (h0 : 0 ≤ s.depth.getD v 0) (w : World) (h : WB a lv pv ov s w) :
    Calls Try.prog 40 #[.pointer (some ⟨a.wb, 0, none⟩), .int .i64 (v : Int)] w fun e w' => e = .returned (.bool (sideB s.depth v)) ∧ w' = w := by
  have b3 := h.blk.cell (j := 3) rfl
  have hvN : (v : Int) < (a.N : Int) := by omega
  have t0 : w.cell? ⟨a.db, v, none⟩ = some (.int .i64 (s.depth.getD v 0)) := h.dep.cell (by rw [List.getElem?_map, List.getElem?_eq_getElem (by omega)]; simp [show v < s.depth.length by omega])
  have HE : Hid (sideB s.depth v = (s.depth.getD v 0 % 2 == 1)) := rfl
  clear h hD
  generalize s.depth.getD v 0 = d at *
  have htm : Int.tmod d 2 = d % 2 := Int.tmod_eq_emod_of_nonneg h0
  go_enter Try.func40, Try.ntmps40
  go_wp2
  go_ret
  rw [HE.out]
  exact ⟨rfl, rfl⟩
/-- The vertices on the way back: each below N, one less deep than the one ahead of it, what it was come from, and joined with it. -/
structure UpI (N : Nat) (l : List Ed) (D F : List Int) (X : List Nat) : Prop where
  low : ∀ x ∈ X, x < N
  next : ∀ (j x y : Nat), X[j]? = some x → X[j + 1]? = some y → F.getD x 0 = (y : Int) ∧ Adj l y x ∧ D.getD x 0 = D.getD y 0 + 1
theorem up_way {N : Nat} {l : List Ed} (hR : RightG (N : Int) l) : ∀ (ls : List Nat) {v u : Nat}, v < N → UpW (walkW N l).from_ v ls u → UpI N l (walkW N l).depth (walkW N l).from_ (v :: ls) ∧ (v :: ls).getLast? = some u ∧ u < N ∧ (walkW N l).depth.getD v 0 = (walkW N l).depth.getD u 0 + (ls.length : Int)
  | [], v, u, hv, h => by
    have e : v = u := h
    subst e
    exact ⟨⟨fun x hx => by rw [List.mem_singleton.1 hx]; exact hv, fun j x y _ h2 => by simp at h2⟩, rfl, hv, by simp⟩
  | x :: ls, v, u, hv, h => by
    obtain ⟨h1, h2⟩ := h
    obtain ⟨_, hp | ⟨y, a, b, c, d, _⟩⟩ := tree_par hR hv
    · omega
    · have hxy : x = y := by omega
      subst hxy
      obtain ⟨g1, g2, g3, g4⟩ := up_way hR ls a h2
      refine ⟨⟨fun z hz => ?_, fun j p q hp hq => ?_⟩, ?_, g3, ?_⟩
      · rcases List.mem_cons.1 hz with rfl | hz
        · exact hv
        · exact g1.low z hz
      · cases j with
        | zero =>
          have e1 : v = p := by simpa using hp
          have e2 : x = q := by simpa using hq
          subst e1
          subst e2
          exact ⟨b, c, d⟩
        | succ j => exact g1.next j p q (by simpa using hp) (by simpa using hq)
      · rw [List.getLast?_cons_cons]
        exact g2
      · rw [d, g4, List.length_cons]
        omega
theorem UpI.deep {N : Nat} {l : List Ed} {D F : List Int} {X : List Nat} (h : UpI N l D F X) : ∀ (j x v : Nat), X[0]? = some v → X[j]? = some x → D.getD x 0 = D.getD v 0 - (j : Int)
  | 0, x, v, h0, hx => by
    rw [h0] at hx
    cases hx
    simp
  | j + 1, x, v, h0, hx => by
    have hlt := (List.getElem?_eq_some_iff.1 hx).1
    obtain ⟨y, hy⟩ : ∃ y, X[j]? = some y := ⟨_, List.getElem?_eq_getElem (by omega)⟩
    have h1 := UpI.deep h j y v h0 hy
    have h2 := (h.next j y x hy hx).2.2
    omega
def wayL (X : List Nat) : List Int := X.map fun (x : Nat) => (x : Int)

set_option maxRecDepth 100000 in
set_option maxHeartbeats 4000000 in
theorem around_any (a : Lay) (l : List Ed) (lv pv ov : Value) (s : WS) (hD : s.depth.length = a.N) (hF : s.from_.length = a.N) (u v : Nat) (wt : Int) (hu : u < a.N) (hv : v < a.N) (en st : Nat) (hsw : (s.depth.getD u 0 > s.depth.getD v 0 → en = v ∧ st = u) ∧ (¬ s.depth.getD u 0 > s.depth.getD v 0 → en = u ∧ st = v)) (X : List Nat) (hX : UpI a.N l s.depth s.from_ X) (h0 : X[0]? = some st) (hl : X.getLast? = some en) (hlen : X.length ≤ 1073741824) (w : World) (h : WB a lv pv ov s w) :
    Calls Try.prog 41 #[.pointer (some ⟨a.wb, 0, none⟩), .agg #[.int .i64 (u : Int), .int .i64 (v : Int), .int .i64 wt]] w fun r w' => ∃ rv, r = .returned rv ∧ Ints w'.heap.size w' rv (wayL X) ∧ Below w.heap.size w w' := by
  have hmix := mixed
  obtain ⟨i0, hi, hz0, hz1, hz2⟩ := info_parts infoI
  have hb1 : Below w.heap.size w (w.alloc (.cells #[.int .i64 (u : Int), .int .i64 (v : Int), .int .i64 wt] 43)) := (Below.refl _ _).alloc (Nat.le_refl _) _
  have hB : Blk 43 (w.alloc (.cells #[.int .i64 (u : Int), .int .i64 (v : Int), .int .i64 wt] 43)) w.heap.size [.int .i64 (u : Int), .int .i64 (v : Int), .int .i64 wt] := heap_alloc_new w _
  have h1 := h.go hb1
  have e0 := hB.cell (j := 0) rfl
  have e1 := hB.cell (j := 1) rfl
  have huN : (u : Int) < (a.N : Int) := by omega
  have hvN : (v : Int) < (a.N : Int) := by omega
  have b3 := h1.blk.cell (j := 3) rfl
  have t0 : (w.alloc (.cells #[.int .i64 (u : Int), .int .i64 (v : Int), .int .i64 wt] 43)).cell? ⟨a.db, u, none⟩ = some (.int .i64 (s.depth.getD u 0)) := h1.dep.cell (by rw [List.getElem?_map, List.getElem?_eq_getElem (by omega)]; simp [show u < s.depth.length by omega])
  have t1 : (w.alloc (.cells #[.int .i64 (u : Int), .int .i64 (v : Int), .int .i64 wt] 43)).cell? ⟨a.db, v, none⟩ = some (.int .i64 (s.depth.getD v 0)) := h1.dep.cell (by rw [List.getElem?_map, List.getElem?_eq_getElem (by omega)]; simp [show v < s.depth.length by omega])
  have Hend : Hid (∀ j x, X[j]? = some x → (x = en ↔ j + 1 = X.length)) := fun j x hx => by
    have hj := (List.getElem?_eq_some_iff.1 hx).1
    have hlast : X[X.length - 1]? = some en := by rw [← List.getLast?_eq_getElem?]; exact hl
    have d1 := hX.deep j x st h0 hx
    have d2 := hX.deep (X.length - 1) en st h0 hlast
    constructor
    · intro e
      subst e
      omega
    · intro e
      have : X.length - 1 = j := by omega
      rw [this, hx] at hlast
      cases hlast
      rfl
  have HX : Hid _ := hX
  have Hh0 : Hid _ := h0
  have HW : Hid _ := h
  have Hsw : Hid _ := hsw
  have Hb1 : Hid _ := hb1
  have hXp : 0 < X.length := (List.getElem?_eq_some_iff.1 h0).1
  clear h h1 hB hX h0 hl hsw hD hb1
  generalize s.depth.getD u 0 = du at *
  generalize s.depth.getD v 0 = dv at *
  generalize hwA : (w.alloc (.cells #[.int .i64 (u : Int), .int .i64 (v : Int), .int .i64 wt] 43)) = wA at *
  go_enter Try.func41, Try.ntmps41
  go_wp2
  go_quiet (fail)
  generalize hq0 : nq = nq0
  by_cases hgt : du > dv
  · obtain ⟨rfl, rfl⟩ := Hsw.out.1 (by omega)
    go_wp2
    go_quiet (fail)
    have hb3 : Below w.heap.size w ((wA.drewN nq0).drewN nq) := below_drewN (below_drewN Hb1.out nq0) nq
    generalize (wA.drewN nq0).drewN nq = w3 at hb3 ⊢
    clear e0 e1 b3 t0 t1
    have hob : (w3.alloc (.cells #[.int .i64 (st : Int)] 3)).ownsRow w.heap.size 3 1 (.slice (some ⟨w3.heap.size, 0, none⟩) 1 1) 1 [.int .i64 (st : Int)] := ⟨rfl, .inr ⟨w3.heap.size, 1, #[.int .i64 (st : Int)], rfl, hb3.size, heap_alloc_new w3 _, Nat.le_refl _, by unfold maxLen; omega, rfl, rfl⟩⟩
    have hb4 : Below w.heap.size w (w3.alloc (.cells #[.int .i64 (st : Int)] 3)) := hb3.alloc hb3.size _
    have HO0 : Hid ((w3.alloc (.cells #[.int .i64 (st : Int)] 3)).ownsRow w.heap.size 3 1 (.slice (some ⟨w3.heap.size, 0, none⟩) 1 1) (0 + 1) (((wayL X).take (0 + 1)).map (Value.int .i64))) := by
      have e : (wayL X).take (0 + 1) = [(st : Int)] := by
        unfold wayL
        rw [← List.map_take, List.take_add_one, Hh0.out]
        rfl
      unfold Hid
      rw [e]
      exact hob
    have HB0 : Hid _ := hb4
    clear hob hb3 hb4
    go_wp2
    go_loopg [6, 7] X.length (fun k vv rv wr => ∃ (j x : Nat), k + j = X.length ∧ X[j]? = some x ∧ vv = .int .i64 (x : Int) ∧ wr.ownsRow w.heap.size 3 1 rv (j + 1) (((wayL X).take (j + 1)).map (Value.int .i64)) ∧ Below w.heap.size w wr)
    case atStart => exact ⟨0, st, rfl, Hh0.out, rfl, HO0.out, HB0.out⟩
    case round =>
      obtain ⟨j, x, hkj, hx, rfl, hO, hb⟩ := hrel
      obtain ⟨pp, cc, rfl⟩ := owns_formP hO
      have hj := (List.getElem?_eq_some_iff.1 hx).1
      have hE := Hend.out j x hx
      by_cases hen : x = en
      · have hjl := hE.1 hen
        subst hen
        have HI : Hid (Ints wr.heap.size wr (.slice pp (j + 1) cc) (wayL X)) := by
          have e : (wayL X).take (j + 1) = wayL X := List.take_of_length_le (by unfold wayL; rw [List.length_map]; omega)
          rw [e] at hO
          have hl : (wayL X).length = j + 1 := by unfold wayL; rw [List.length_map]; omega
          refine owns_intsP (base := w.heap.size) ?_
          rw [hl]
          exact hO
        have HB : Hid _ := hb
        clear hO hb hE
        go_wp2
        go_ret
        exact ⟨_, rfl, HI.out, HB.out⟩
      · have hjl : j + 1 < X.length := by
          rcases Nat.lt_or_ge (j + 1) X.length with h | h
          · exact h
          · exact absurd (hE.2 (by omega)) hen
        obtain ⟨y, hy⟩ : ∃ y, X[j + 1]? = some y := ⟨_, List.getElem?_eq_getElem hjl⟩
        have hxN := HX.out.low x (List.mem_of_getElem? hx)
        obtain ⟨hfy, _, _⟩ := HX.out.next j x y hx hy
        have hWr := HW.out.go hb
        have b2 := hWr.blk.cell (j := 2) rfl
        have f0 : wr.cell? ⟨a.fb, x, none⟩ = some (.int .i64 (y : Int)) := hWr.frm.cell (by rw [List.getElem?_map, List.getElem?_eq_getElem (by omega)]; rw [List.getD_eq_getElem?_getD, List.getElem?_eq_getElem (by omega)] at hfy; simpa using hfy)
        have hxN' : (x : Int) < (a.N : Int) := by omega
        have hne : ¬ (x : Int) = (en : Int) := by omega
        have HE : Hid ((wayL X).take (j + 1 + 1) = (wayL X).take (j + 1) ++ [(y : Int)]) := by
          unfold Hid
          rw [List.take_add_one]
          congr 1
          unfold wayL
          rw [List.getElem?_map, hy]
          rfl
        have hownA := hO.alloc (.cells #[.int .i64 (y : Int)] 3)
        have hnews := one_cell wr (.int .i64 (y : Int)) 3
        have hone : ∀ u ∈ [Value.int .i64 (y : Int)], u.oneCell' = true := by intro u hu; rw [List.mem_singleton.1 hu]; rfl
        have hmx : j + 1 + 1 ≤ maxLen := by unfold maxLen; omega
        have hby : (j + 1 + 1) * 8 ≤ 140737488355328 := by omega
        have hbs : w.heap.size ≤ (wr.alloc (.cells #[.int .i64 (y : Int)] 3)).heap.size := by have := hb.size; simp; omega
        have hlow : ∀ k, (Value.slice pp (j + 1) cc).ownBlock = some k → w.heap.size ≤ k := fun k e => (hO.lt k e).1
        have HB2 : Hid _ := hb
        have Hy : Hid _ := hy
        have Hkj : Hid _ := hkj
        clear hO hb hE hWr hfy hx hy hkj
        go_wp2_with (at_builtin; refine wpList_append_own_at _ rfl _ _ 33 rfl w.heap.size 3 i0 (.int .i64 0) 1 8 Try.underlying33 hi hz0 hz1 hz2 rfl (by decide) (.slice pp (j + 1) cc) _ _ rfl hownA ⟨wr.heap.size, 0, none⟩ 1 1 [.int .i64 (y : Int)] rfl rfl hnews hone hmx hby hbs ?_)
        intro v6 w6 hown6 hg6 hnil6 hat6
        obtain ⟨a6, m6, c6, rfl⟩ := owns_slice hown6
        have HO6 : Hid _ := hown6
        have HB6 : Hid (Below w.heap.size w w6) := (HB2.out.alloc HB2.out.size _).grown hg6 hbs hlow
        clear hown6 hg6 hnil6 hat6 hownA hnews hone hmx hby hbs hlow
        go_wp2
        go_roundg (gk - 1)
        case measure => have := Hkj.out; omega
        case rel =>
          have := Hkj.out
          refine ⟨j + 1, y, by omega, Hy.out, rfl, ?_, HB6.out⟩
          rw [HE.out, List.map_append, List.map_take]
          exact HO6.out
  · obtain ⟨rfl, rfl⟩ := Hsw.out.2 (by omega)
    go_wp2
    go_quiet (fail)
    have hb3 : Below w.heap.size w ((wA.drewN nq0).drewN nq) := below_drewN (below_drewN Hb1.out nq0) nq
    generalize (wA.drewN nq0).drewN nq = w3 at hb3 ⊢
    clear e0 e1 b3 t0 t1
    have hob : (w3.alloc (.cells #[.int .i64 (st : Int)] 3)).ownsRow w.heap.size 3 1 (.slice (some ⟨w3.heap.size, 0, none⟩) 1 1) 1 [.int .i64 (st : Int)] := ⟨rfl, .inr ⟨w3.heap.size, 1, #[.int .i64 (st : Int)], rfl, hb3.size, heap_alloc_new w3 _, Nat.le_refl _, by unfold maxLen; omega, rfl, rfl⟩⟩
    have hb4 : Below w.heap.size w (w3.alloc (.cells #[.int .i64 (st : Int)] 3)) := hb3.alloc hb3.size _
    have HO0 : Hid ((w3.alloc (.cells #[.int .i64 (st : Int)] 3)).ownsRow w.heap.size 3 1 (.slice (some ⟨w3.heap.size, 0, none⟩) 1 1) (0 + 1) (((wayL X).take (0 + 1)).map (Value.int .i64))) := by
      have e : (wayL X).take (0 + 1) = [(st : Int)] := by
        unfold wayL
        rw [← List.map_take, List.take_add_one, Hh0.out]
        rfl
      unfold Hid
      rw [e]
      exact hob
    have HB0 : Hid _ := hb4
    clear hob hb3 hb4
    go_wp2
    go_loopg [6, 7] X.length (fun k vv rv wr => ∃ (j x : Nat), k + j = X.length ∧ X[j]? = some x ∧ vv = .int .i64 (x : Int) ∧ wr.ownsRow w.heap.size 3 1 rv (j + 1) (((wayL X).take (j + 1)).map (Value.int .i64)) ∧ Below w.heap.size w wr)
    case atStart => exact ⟨0, st, rfl, Hh0.out, rfl, HO0.out, HB0.out⟩
    case round =>
      obtain ⟨j, x, hkj, hx, rfl, hO, hb⟩ := hrel
      obtain ⟨pp, cc, rfl⟩ := owns_formP hO
      have hj := (List.getElem?_eq_some_iff.1 hx).1
      have hE := Hend.out j x hx
      by_cases hen : x = en
      · have hjl := hE.1 hen
        subst hen
        have HI : Hid (Ints wr.heap.size wr (.slice pp (j + 1) cc) (wayL X)) := by
          have e : (wayL X).take (j + 1) = wayL X := List.take_of_length_le (by unfold wayL; rw [List.length_map]; omega)
          rw [e] at hO
          have hl : (wayL X).length = j + 1 := by unfold wayL; rw [List.length_map]; omega
          refine owns_intsP (base := w.heap.size) ?_
          rw [hl]
          exact hO
        have HB : Hid _ := hb
        clear hO hb hE
        go_wp2
        go_ret
        exact ⟨_, rfl, HI.out, HB.out⟩
      · have hjl : j + 1 < X.length := by
          rcases Nat.lt_or_ge (j + 1) X.length with h | h
          · exact h
          · exact absurd (hE.2 (by omega)) hen
        obtain ⟨y, hy⟩ : ∃ y, X[j + 1]? = some y := ⟨_, List.getElem?_eq_getElem hjl⟩
        have hxN := HX.out.low x (List.mem_of_getElem? hx)
        obtain ⟨hfy, _, _⟩ := HX.out.next j x y hx hy
        have hWr := HW.out.go hb
        have b2 := hWr.blk.cell (j := 2) rfl
        have f0 : wr.cell? ⟨a.fb, x, none⟩ = some (.int .i64 (y : Int)) := hWr.frm.cell (by rw [List.getElem?_map, List.getElem?_eq_getElem (by omega)]; rw [List.getD_eq_getElem?_getD, List.getElem?_eq_getElem (by omega)] at hfy; simpa using hfy)
        have hxN' : (x : Int) < (a.N : Int) := by omega
        have hne : ¬ (x : Int) = (en : Int) := by omega
        have HE : Hid ((wayL X).take (j + 1 + 1) = (wayL X).take (j + 1) ++ [(y : Int)]) := by
          unfold Hid
          rw [List.take_add_one]
          congr 1
          unfold wayL
          rw [List.getElem?_map, hy]
          rfl
        have hownA := hO.alloc (.cells #[.int .i64 (y : Int)] 3)
        have hnews := one_cell wr (.int .i64 (y : Int)) 3
        have hone : ∀ u ∈ [Value.int .i64 (y : Int)], u.oneCell' = true := by intro u hu; rw [List.mem_singleton.1 hu]; rfl
        have hmx : j + 1 + 1 ≤ maxLen := by unfold maxLen; omega
        have hby : (j + 1 + 1) * 8 ≤ 140737488355328 := by omega
        have hbs : w.heap.size ≤ (wr.alloc (.cells #[.int .i64 (y : Int)] 3)).heap.size := by have := hb.size; simp; omega
        have hlow : ∀ k, (Value.slice pp (j + 1) cc).ownBlock = some k → w.heap.size ≤ k := fun k e => (hO.lt k e).1
        have HB2 : Hid _ := hb
        have Hy : Hid _ := hy
        have Hkj : Hid _ := hkj
        clear hO hb hE hWr hfy hx hy hkj
        go_wp2_with (at_builtin; refine wpList_append_own_at _ rfl _ _ 33 rfl w.heap.size 3 i0 (.int .i64 0) 1 8 Try.underlying33 hi hz0 hz1 hz2 rfl (by decide) (.slice pp (j + 1) cc) _ _ rfl hownA ⟨wr.heap.size, 0, none⟩ 1 1 [.int .i64 (y : Int)] rfl rfl hnews hone hmx hby hbs ?_)
        intro v6 w6 hown6 hg6 hnil6 hat6
        obtain ⟨a6, m6, c6, rfl⟩ := owns_slice hown6
        have HO6 : Hid _ := hown6
        have HB6 : Hid (Below w.heap.size w w6) := (HB2.out.alloc HB2.out.size _).grown hg6 hbs hlow
        clear hown6 hg6 hnil6 hat6 hownA hnews hone hmx hby hbs hlow
        go_wp2
        go_roundg (gk - 1)
        case measure => have := Hkj.out; omega
        case rel =>
          have := Hkj.out
          refine ⟨j + 1, y, by omega, Hy.out, rfl, ?_, HB6.out⟩
          rw [HE.out, List.map_append, List.map_take]
          exact HO6.out
/-- A closed way of an odd number of edges. -/
structure OddW (N : Nat) (l : List Ed) (X : List Nat) : Prop where
  three : 3 ≤ X.length
  odd : X.length % 2 = 1
  few : X.length ≤ 4 * (N + l.length) + 5
  low : ∀ x ∈ X, x < N
  join : ∀ (i x y : Nat), X[i]? = some x → X[(i + 1) % X.length]? = some y → Adj l x y
  once : ∀ (i j x : Nat), X[i]? = some x → X[j]? = some x → i = j
theorem odd_way {N : Nat} {l : List Ed} (hR : RightG (N : Int) l) {e : Ed} (he : e ∈ l) {u v : Nat} (hu : e.1 = (u : Int)) (hv : e.2.1 = (v : Int)) (huN : u < N) (hvN : v < N) (hpar : (walkW N l).depth.getD u 0 % 2 = (walkW N l).depth.getD v 0 % 2) :
    ∃ en st X, ((walkW N l).depth.getD u 0 > (walkW N l).depth.getD v 0 → en = v ∧ st = u) ∧ (¬ (walkW N l).depth.getD u 0 > (walkW N l).depth.getD v 0 → en = u ∧ st = v) ∧ UpI N l (walkW N l).depth (walkW N l).from_ X ∧ X[0]? = some st ∧ X.getLast? = some en ∧ OddW N l X := by
  have hne : u ≠ v := by have := (hR.each e he).2; omega
  have hadj : Adj l u v := ⟨e, he, .inl ⟨by omega, by omega⟩⟩
  have key : ∀ st en : Nat, st < N → en < N → st ≠ en → Adj l en st → (walkW N l).depth.getD st 0 % 2 = (walkW N l).depth.getD en 0 % 2 → Anc (walkW N l).from_ en st → ∃ X, UpI N l (walkW N l).depth (walkW N l).from_ X ∧ X[0]? = some st ∧ X.getLast? = some en ∧ OddW N l X := by
    intro st en hst hen hse ha hp hanc
    obtain ⟨ls, hls⟩ := hanc
    obtain ⟨h1, h2, h3, h4⟩ := up_way hR ls hst hls
    have hbd := (walkW_ok hR).bd st
    have h0 := (tree_par hR hen).1
    have hn1 := hR.n1
    have hm1 := hR.m1
    have hpos : ls ≠ [] := fun e => by subst e; exact hse hls
    have hlp : 0 < ls.length := List.length_pos_iff.2 hpos
    have hX : (st :: ls).length = ls.length + 1 := rfl
    have hlast : (st :: ls)[ls.length]? = some en := by rw [List.getLast?_eq_getElem?] at h2; exact h2
    refine ⟨st :: ls, h1, rfl, h2, by omega, by omega, by omega, h1.low, fun i x y hx hy => ?_, fun i j x hx hy => ?_⟩
    · have hi := (List.getElem?_eq_some_iff.1 hx).1
      by_cases hil : i + 1 < (st :: ls).length
      · rw [Nat.mod_eq_of_lt hil] at hy
        exact (h1.next i x y hx hy).2.1.symm
      · have hie : i = ls.length := by omega
        have hz : (i + 1) % (st :: ls).length = 0 := by rw [show i + 1 = (st :: ls).length by omega]; exact Nat.mod_self _
        rw [hz] at hy
        have ey : st = y := by simpa using hy
        rw [hie, hlast] at hx
        cases hx
        rw [← ey]
        exact ha
    · have d1 := h1.deep i x st rfl hx
      have d2 := h1.deep j x st rfl hy
      omega
  by_cases hgt : (walkW N l).depth.getD u 0 > (walkW N l).depth.getD v 0
  · have hanc : Anc (walkW N l).from_ v u := by
      rcases tree_edge hR huN hadj with h | h
      · exact h
      · obtain ⟨ls, hls⟩ := h
        have := (up_way hR ls hvN hls).2.2.2
        omega
    obtain ⟨X, g1, g2, g3, g4⟩ := key u v huN hvN hne hadj.symm hpar hanc
    exact ⟨v, u, X, fun _ => ⟨rfl, rfl⟩, fun h => absurd hgt h, g1, g2, g3, g4⟩
  · have hanc : Anc (walkW N l).from_ u v := by
      rcases tree_edge hR huN hadj with h | h
      · obtain ⟨ls, hls⟩ := h
        have h4 := (up_way hR ls huN hls).2.2.2
        have : ls = [] := List.length_eq_zero_iff.1 (by omega)
        subst this
        exact absurd hls hne
      · exact h
    obtain ⟨X, g1, g2, g3, g4⟩ := key v u hvN huN (Ne.symm hne) hadj hpar.symm hanc
    exact ⟨u, v, X, fun h => absurd h hgt, fun _ => ⟨rfl, rfl⟩, g1, g2, g3, g4⟩
end Go.Proofs.Ytdadpfkoocpfaaa
