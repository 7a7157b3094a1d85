/-
  Appending edges to a row that the call owns; the contract of graph.staying.
-/
import Derived.OwnWalk
import Derived.Maps.AppendAt
import Derived.Test.YtkniphmjiepkaaaGAlive
namespace Go.Proofs.Ytkniphmjiepkaaa
open Go Go.Proofs Go.RowKit

theorem owns_below {w w' : World} {base : Nat} {e : TypeId} {size : Nat} {v : Value} {n : Nat} {xs : List Value} (h : w.ownsRow base e size v n xs) (hb : Below w.heap.size w w') : w'.ownsRow base e size v n xs := by
  refine h.kept (row := none) (⟨hb.os, hb.tape, hb.output, hb.size, fun k hk _ => hb.block k hk⟩ : w.grownBy w' none) ?_
  cases v.ownBlock with
  | none => exact .inl rfl
  | some k => exact .inr (by simp)
theorem Edges.of_owns {W : World} {base : Nat} {e : TypeId} {v : Value} {l : List Ed} (h : W.ownsRow base e 3 v l.length (flat l)) : Edges W.heap.size W v l := by
  rcases h.2 with ⟨rfl, h0⟩ | ⟨g, cap, cur, rfl, hb, hg, hn, hc⟩
  · exact .inl ⟨⟨_, _, rfl⟩, List.eq_nil_of_length_eq_zero h0⟩
  · refine .inr ⟨g, 0, cap, rfl, (Array.getElem?_eq_some_iff.1 hg).1, hn, fun j x hx => ?_⟩
    obtain ⟨k0, k1, k2⟩ := flat_at hx
    have c0 := h.cells (g := g) rfl (j * 3) _ k0
    have c1 := h.cells (g := g) rfl (j * 3 + 1) _ k1
    have c2 := h.cells (g := g) rfl (j * 3 + 2) _ k2
    rw [Go.WideShapes.add_plain] at c0 c1 c2
    exact ⟨c0, c1, c2⟩
/-- A slice's block is none of those below n. -/
def Above (n : Nat) (sv : Value) : Prop := ∀ a len c, sv = .slice (some a) len c → 0 < len → n ≤ a.block
theorem Above.of_owns {W : World} {base : Nat} {e : TypeId} {size : Nat} {v : Value} {n : Nat} {xs : List Value} (h : W.ownsRow base e size v n xs) : Above base v := by
  intro a len c hv _
  rcases h.2 with ⟨h1, _⟩ | ⟨g, cap, cur, h1, hb, _⟩
  · rw [h1] at hv; cases hv
  · rw [h1] at hv
    simp only [Value.slice.injEq, Option.some.injEq] at hv
    rw [← hv.1]; exact hb
theorem Edges.setLow {W : World} {n : Nat} {sv : Value} {l : List Ed} (h : Edges W.heap.size W sv l) (ha : Above n sv) {p : Addr} (hp : p.block < n) (v : Value) : Edges (W.setCell p v).heap.size (W.setCell p v) sv l := by
  rcases h with h | ⟨b, off, cap, h1, h2, h3, h4⟩
  · exact .inl h
  · refine .inr ⟨b, off, cap, h1, by simpa using h2, h3, fun j x hx => ?_⟩
    have hj := (List.getElem?_eq_some_iff.1 hx).1
    have hb := ha _ _ _ h1 (by omega)
    simp only at hb
    obtain ⟨k0, k1, k2⟩ := h4 j x hx
    have hne : ∀ o, p ≠ ⟨b, o, none⟩ := fun o e => by rw [e] at hp; simp at hp; omega
    exact ⟨(World.cell?_setCell_other _ _ _ _ (hne _)).trans k0, (World.cell?_setCell_other _ _ _ _ (hne _)).trans k1, (World.cell?_setCell_other _ _ _ _ (hne _)).trans k2⟩
theorem news3 {w : World} {t : TypeId} (e : Ed) : ∀ (i : Nat) (u : Value), (encE e)[i]? = some u → (w.alloc (.cells #[.int .i64 e.1, .int .i64 e.2.1, .int .i64 e.2.2] t)).cell? ((⟨w.heap.size, 0, none⟩ : Addr).add i) = some u := by
  intro i u hu
  rw [Go.WideShapes.add_plain, Nat.zero_add]
  match i with
  | 0 => simp [encE] at hu; subst hu; simp
  | 1 => simp [encE] at hu; subst hu; simp
  | 2 => simp [encE] at hu; subst hu; simp
  | i + 3 => simp [encE] at hu
theorem one3 (e : Ed) : ∀ u ∈ encE e, u.oneCell' = true := by
  intro u hu
  simp [encE] at hu
  rcases hu with rfl | rfl | rfl <;> rfl
theorem flat_snoc (l : List Ed) (e : Ed) : flat (l ++ [e]) = flat l ++ encE e := by simp [flat]
theorem owns_none (w : World) (base : Nat) (e : TypeId) : w.ownsRow base e 3 (.slice none 0 0) 0 (flat []) := World.ownsRow_nil w base e 3
theorem ret_graph1 {fn : Func} {p : Tmp} (h : fn.results = #[.cell p 24]) {tmps : Array Value} {w : World} {b : Nat} {x y : Value} (hp : tmps.getD p undef = .pointer (some ⟨b, 0, none⟩)) (h0 : w.cell? ⟨b, 0, none⟩ = some x) (h1 : w.cell? ⟨b, 1, none⟩ = some y) :
    (results fn tmps).run Try.prog w = .ok (.agg #[x, y]) w := by
  have a1 := Try.isAgg24
  have a2 := Try.sizeOf24
  rw [Array.getD_eq_getD_getElem?] at hp
  simp only [results, h]
  simp [Sem.run_bind, Result.andThen, hp]
  go_simp

/-- The edges at those of the first j places that stay. -/
def keepL (l : List Ed) (pred : Nat → Bool) : Nat → List Ed
  | 0 => []
  | j + 1 => keepL l pred j ++ (if pred j = true then l[j]?.toList else [])
theorem keepL_in {l : List Ed} {pred : Nat → Bool} {j : Nat} (h : j < l.length) (hp : pred j = true) : keepL l pred (j + 1) = keepL l pred j ++ [l[j]] := by
  rw [keepL, if_pos hp, List.getElem?_eq_getElem h]; rfl
theorem keepL_out {l : List Ed} {pred : Nat → Bool} {j : Nat} (hp : pred j = false) : keepL l pred (j + 1) = keepL l pred j := by
  rw [keepL, hp]; simp
theorem keepL_len (l : List Ed) (pred : Nat → Bool) : ∀ j, (keepL l pred j).length ≤ j
  | 0 => Nat.le_refl _
  | j + 1 => by
    rw [keepL, List.length_append]
    have := keepL_len l pred j
    split
    · cases l[j]? <;> simp <;> omega
    · simp; omega

def stayN (n : Int) (l : List Ed) : Int := if rightK n l = 0 then n else 0
def stayL (n : Int) (l : List Ed) (pred : Nat → Bool) : List Ed := if rightK n l = 0 then keepL l pred l.length else []

set_option maxRecDepth 100000 in
set_option maxHeartbeats 2000000 in
theorem staying_any (n : Int) (l : List Ed) (pred : Nat → Bool) (f : Nat) (cb : Array Value) (sv : Value) (w : World) (hl : Edges w.heap.size w sv l)
    (eg : ∀ args w, (callFunc f args).run Try.prog w = .ok (.enter f args) w)
    (hp : rightK n l = 0 → ∀ W', Below w.heap.size w W' → ∀ i, i < l.length → Calls Try.prog f (#[.int .i64 (i : Int)] ++ cb) W' fun e w' => e = .returned (.bool (pred i)) ∧ Below W'.heap.size W' w') :
    Calls Try.prog 42 #[.agg #[.int .i64 n, sv], .func (.func f) #[] cb] w fun r w' => ∃ gv, r = .returned (.agg #[.int .i64 (stayN n l), gv]) ∧ Edges w'.heap.size w' gv (stayL n l pred) ∧ Above w.heap.size gv ∧ Below w.heap.size w w' := by
  have hg1 : Grew w ((w.alloc (.cells #[.int .i64 n, sv] 24)).alloc (.cells #[.int .i64 0, .slice none 0 0] 24)) := ((Grew.refl w).alloc _).alloc _
  have hl1 := hl.go hg1.below
  have hB1 : Blk 24 ((w.alloc (.cells #[.int .i64 n, sv] 24)).alloc (.cells #[.int .i64 0, .slice none 0 0] 24)) (w.heap.size + 1) [.int .i64 0, .slice none 0 0] := by
    have := heap_alloc_new (w.alloc (.cells #[.int .i64 n, sv] 24)) (.cells #[.int .i64 0, .slice none 0 0] 24)
    simpa [Blk] using this
  have hB0 : Blk 24 ((w.alloc (.cells #[.int .i64 n, sv] 24)).alloc (.cells #[.int .i64 0, .slice none 0 0] 24)) w.heap.size [.int .i64 n, sv] := by
    have h1 : Blk 24 (w.alloc (.cells #[.int .i64 n, sv] 24)) w.heap.size [.int .i64 n, sv] := heap_alloc_new w _
    exact h1.go (((Grew.refl _).alloc _).below)
  obtain ⟨p, c, rfl⟩ := hl.len
  obtain ⟨i0, hi, hz0, hz1, hz2⟩ := info_parts infoE
  have hrc := fun W h => right_any n l (.slice p l.length c) W h
  by_cases hr : rightK n l = 0
  · have hR := right_iff.1 hr
    have hm1 := hR.m1
    have HN : Hid (stayN n l = n) := if_pos hr
    have HL : Hid (stayL n l pred = keepL l pred l.length) := if_pos hr
    rw [hr] at hrc
    have HP : Hid _ := hp hr
    clear hr hp
    go_enter Try.func42, Try.ntmps42
    go_wp2_with fail
    refine (hrc _ hl1).mono ?_
    rintro e w2 ⟨rfl, hg2⟩
    have hC0 := hB0.go hg2.below
    have hC1 := hB1.go hg2.below
    have q0 := hC0.cell (j := 0) rfl
    have q1 := hC0.cell (j := 1) rfl
    have hbw := (hg1.trans hg2).below
    have hbx : w.heap.size + 2 ≤ w2.heap.size := by have := hC1.lt; omega
    clear hrc hl1 hB0 hB1 hg1 hg2
    go_wp2
    go_loopw [5, 15] (fun s i wr => ∃ j : Nat, j ≤ l.length ∧ i = .int .i64 j ∧ wr.ownsRow (w.heap.size + 2) 51 3 s (keepL l pred j).length (flat (keepL l pred j)) ∧ Below (w.heap.size + 2) w2 wr) (fun _ i _ => l.length - (intOf i).toNat)
    case atStart => exact ⟨0, Nat.zero_le _, rfl, owns_none _ _ _, Below.refl _ _⟩
    case round =>
      obtain ⟨j, hj, rfl, hown, hb⟩ := hrel
      have hbwr : Below w.heap.size w wr := hbw.trans (hb.mono (by omega))
      have hszr : w.heap.size + 2 ≤ wr.heap.size := by have := hb.size; omega
      by_cases hlt : j < l.length
      · obtain ⟨b, off, rfl, hbb, hcap, hc, -⟩ := hl.open hlt
        obtain ⟨c0, c1, c2⟩ := hc wr hbwr j hlt
        have hjl : (j : Int) < (l.length : Int) := by omega
        have hklen := keepL_len l pred j
        have hb7' : Below w.heap.size w (wr.alloc (.cells #[.int .i64 l[j].1, .int .i64 l[j].2.1, .int .i64 l[j].2.2] 51)) := hbwr.alloc (by omega) _
        have hcall := HP.out _ hb7' j hlt
        clear hc
        go_wp2_with fail
        refine hcall.mono ?_
        rintro e w7 ⟨rfl, hb7⟩
        have hown7 := owns_below (hown.alloc (.cells #[.int .i64 l[j].1, .int .i64 l[j].2.1, .int .i64 l[j].2.2] 51)) hb7
        have hbx7 : Below (w.heap.size + 2) w2 w7 := (hb.alloc (by omega) _).trans (hb7.mono (by simp; omega))
        have e0 : w7.cell? ⟨wr.heap.size, 0, none⟩ = some (.int .i64 l[j].1) := cell_keep hb7 (by simp)
        have e1 : w7.cell? ⟨wr.heap.size, 1, none⟩ = some (.int .i64 l[j].2.1) := cell_keep hb7 (by simp)
        have e2 : w7.cell? ⟨wr.heap.size, 2, none⟩ = some (.int .i64 l[j].2.2) := cell_keep hb7 (by simp)
        clear hcall hown hb7' hb7 c0 c1 c2
        cases hpj : pred j with
        | false =>
          have HK : Hid _ := keepL_out (l := l) hpj
          clear hpj
          go_wp2
          exact ⟨⟨j + 1, by omega, by go_num, by rw [HK.out]; exact hown7, hbx7⟩, by simp [intOf]; omega⟩
        | true =>
          have HK : Hid _ := keepL_in hlt hpj
          clear hpj
          have hown8 : (w7.alloc (.cells #[.int .i64 l[j].1, .int .i64 l[j].2.1, .int .i64 l[j].2.2] 51)).ownsRow (w.heap.size + 2) 51 3 u5 (keepL l pred j).length (flat (keepL l pred j)) := hown7.alloc _
          have hmx : (keepL l pred j).length + 1 ≤ maxLen := by unfold maxLen; omega
          have hby : ((keepL l pred j).length + 1) * 24 ≤ 140737488355328 := by omega
          have hbs : w.heap.size + 2 ≤ (w7.alloc (.cells #[.int .i64 l[j].1, .int .i64 l[j].2.1, .int .i64 l[j].2.2] 51)).heap.size := by have := hbx7.size; simp; omega
          have hlow : ∀ k, u5.ownBlock = some k → w.heap.size + 2 ≤ k := fun k e => (hown7.lt k e).1
          have hn3 := news3 (w := w7) (t := 51) l[j]
          have ho3 := one3 l[j]
          go_wp2_with (at_builtin; refine wpList_append_own_at _ rfl _ _ 22 rfl (w.heap.size + 2) 51 i0 (.agg #[.int .i64 0, .int .i64 0, .int .i64 0]) 3 24 Try.underlying22 hi hz0 hz1 hz2 (by simp [Value.cells]) (by decide) u5 _ _ rfl hown8 ⟨w7.heap.size, 0, none⟩ 1 1 (encE l[j]) rfl rfl hn3 ho3 hmx hby hbs ?_; intro v6 w6 hown6 hgrow6 hnil6 hat6)
          have hb6 : Below (w.heap.size + 2) w2 w6 := (hbx7.alloc (by have := hbx7.size; omega) _).grown hgrow6 hbs hlow
          refine ⟨⟨j + 1, by omega, by go_num, ?_, hb6⟩, by simp [intOf]; omega⟩
          rw [HK.out, flat_snoc, List.length_append]
          exact hown6
      · obtain rfl : j = l.length := by omega
        have hD1 := hC1.below hb (by omega)
        have f0 := hD1.frozen 0
        have f1 := hD1.frozen 1
        have d0 := hD1.cell (j := 0) rfl
        have d1 := hD1.cell (j := 1) rfl
        have e0 := (hb.cell (p := ⟨w.heap.size, 0, none⟩) (by show w.heap.size < _; omega)).trans q0
        have hEd := Edges.of_owns hown
        have hAb := Above.of_owns hown
        have hsv : ∃ pp cc, u5 = .slice pp (keepL l pred l.length).length cc := hEd.len
        obtain ⟨pp, cc, rfl⟩ := hsv
        clear hown
        go_wp2
        have hbf := (hD1.set 0 (.int .i64 n)).set 1 (.slice pp (keepL l pred l.length).length cc)
        (try simp only [Exit.inBlock, Exit.then])
        refine bodyPost_ret (ret_graph1 rfl (by rfl) (hbf.cell (j := 0) rfl) (hbf.cell (j := 1) rfl)) rfl ?_
        refine ⟨.slice pp (keepL l pred l.length).length cc, by rw [HN.out], ?_, fun a' len' c' h' h0' => Nat.le_trans (by omega) (hAb a' len' c' h' h0'), (hbwr.setCell (p := ⟨w.heap.size + 1, 0, none⟩) (by simp) _).setCell (p := ⟨w.heap.size + 1, 1, none⟩) (by simp) _⟩
        rw [HL.out]
        exact (hEd.setLow hAb (by simp) _).setLow hAb (by simp) _
  · have HN : Hid (stayN n l = 0) := if_neg hr
    have HL : Hid (stayL n l pred = []) := if_neg hr
    generalize rightK n l = k at hrc hr
    have hk : (k == 0) = false := by simpa using hr
    clear hr hp
    go_enter Try.func42, Try.ntmps42
    go_wp2_with fail
    refine (hrc _ hl1).mono ?_
    rintro e w2 ⟨rfl, hg2⟩
    have hD1 := hB1.go hg2.below
    have hbw := (hg1.trans hg2).below
    have f0 := hD1.frozen 0
    have f1 := hD1.frozen 1
    have d0 := hD1.cell (j := 0) rfl
    have d1 := hD1.cell (j := 1) rfl
    clear hrc
    go_wp2
    have hbf := (hD1.set 0 (.int .i64 0)).set 1 (.slice none 0 0)
    (try simp only [Exit.inBlock, Exit.then])
    refine bodyPost_ret (ret_graph1 rfl (by rfl) (hbf.cell (j := 0) rfl) (hbf.cell (j := 1) rfl)) rfl ?_
    exact ⟨.slice none 0 0, by rw [HN.out], by rw [HL.out]; exact Edges.nil _ _ _ _, (fun a' len' c' h' => by cases h'), (hbw.setCell (p := ⟨w.heap.size + 1, 0, none⟩) (by simp) _).setCell (p := ⟨w.heap.size + 1, 1, none⟩) (by simp) _⟩

end Go.Proofs.Ytkniphmjiepkaaa
