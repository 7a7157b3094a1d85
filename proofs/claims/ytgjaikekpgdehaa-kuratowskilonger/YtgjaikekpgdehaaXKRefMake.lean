/-
  The contract of the reference's Make.
-/
import Derived.Laws.ResultCell
import Derived.Deep.DeepCutAuto
import Derived.Deep.CutBlock
import Derived.Test.YtgjaikekpgdehaaXKSrc
import Derived.Test.YtgjaikekpgdehaaXGAppSrc
import Derived.Test.YtgjaikekpgdehaaXGHeldL
namespace Go.Proofs.Ytgjaikekpgdehaa
open Go Go.Proofs Go.RowKit

theorem ret_graph {fn : Func} {p u : Tmp} (h : fn.results = #[.cell p 24, .tmp u]) {tmps : Array Value} {w : World} {b : Nat} {x y : Value} (hp : tmps.getD p undef = .pointer (some ⟨b, 0, none⟩)) (h0 : w.cell? ⟨b, 0, none⟩ = some x) (h1 : w.cell? ⟨b, 1, none⟩ = some y) :
    (results fn tmps).run Try.prog w = .ok (.tuple #[.agg #[x, y], tmps.getD u undef]) w := by
  rw [results_cell_tmp h, hp]
  have a1 := Try.isAgg24
  have a2 := Try.sizeOf24
  go_simp

theorem firstK_end {n : Int} {l : List Ed} : firstK n (l.drop l.length) = 0 := by simp [firstK]


/-- What stands when j edges have been laid. -/
structure MkI (w : World) (n : Int) (l : List Ed) (j : Nat) (tw : Bool) (s : List Ed) (sv : Value) (W : World) : Prop where
  res : Blk 24 W w.heap.size [.int .i64 0, .slice none 0 0]
  gc : Blk 24 W (w.heap.size + 1) [.int .i64 n, sv]
  own : W.ownsRow (w.heap.size + 2) 41 3 sv s.length (flat s)
  bel : Below w.heap.size w W
  weak : Weak s
  perm : s.Perm ((l.take j).map norm)
  tws : tw = false ↔ Alone s
  fst : firstK n (l.drop j) = firstK n l
theorem MkI.go {w : World} {n : Int} {l : List Ed} {j : Nat} {tw : Bool} {s : List Ed} {sv : Value} {A B : World} (h : MkI w n l j tw s sv A) (hb : Below A.heap.size A B) : MkI w n l j tw s sv B :=
  ⟨h.res.go hb, h.gc.go hb, owns_below h.own hb, h.bel.trans (hb.mono h.bel.size), h.weak, h.perm, h.tws, h.fst⟩

theorem MkI.put {w : World} {n : Int} {l : List Ed} {j : Nat} {tw : Bool} {s : List Ed} {sv : Value} {A : World} (h : MkI w n l j tw s sv A) {p : Addr} (h1 : w.heap.size + 2 ≤ p.block) (h2 : ∀ k, sv.ownBlock = some k → k < p.block) (v : Value) : MkI w n l j tw s sv (A.setCell p v) := by
  refine ⟨h.res.other (by omega) v, h.gc.other (by omega) v, ?_, h.bel.setCell (by omega) v, h.weak, h.perm, h.tws, h.fst⟩
  obtain ⟨h3, h4⟩ := h.own
  refine ⟨h3, ?_⟩
  rcases h4 with h4 | ⟨g, cap, cur, hv, hb, hg, r⟩
  · exact .inl h4
  · exact .inr ⟨g, cap, cur, hv, hb, (Below.heap_setCell _ _ _ _ (by have := h2 g (by rw [hv]; rfl); omega)).trans hg, r⟩
/-- The edge that is being laid, in its block. -/
def EdB (W : World) (eb : Nat) (e : Ed) : Prop := Blk 41 W eb [.int .i64 e.1, .int .i64 e.2.1, .int .i64 e.2.2]
theorem EdB.cells {W : World} {eb : Nat} {e : Ed} (h : EdB W eb e) : W.cell? ⟨eb, 0, none⟩ = some (.int .i64 e.1) ∧ W.cell? ⟨eb, 1, none⟩ = some (.int .i64 e.2.1) ∧ W.cell? ⟨eb, 2, none⟩ = some (.int .i64 e.2.2) := ⟨Blk.cell h rfl, Blk.cell h rfl, Blk.cell h rfl⟩
theorem EdB.grown {W : World} {eb : Nat} {e : Ed} (h : EdB W eb e) : (∀ n os, (Go.Sort.grow (W.drewN n) os).cell? ⟨eb, 0, none⟩ = some (.int .i64 e.1)) ∧ (∀ n os, (Go.Sort.grow (W.drewN n) os).cell? ⟨eb, 1, none⟩ = some (.int .i64 e.2.1)) ∧ ∀ n os, (Go.Sort.grow (W.drewN n) os).cell? ⟨eb, 2, none⟩ = some (.int .i64 e.2.2) :=
  ⟨cell_grown (a := ⟨eb, 0, none⟩) (Blk.lt h) h.cells.1, cell_grown (a := ⟨eb, 1, none⟩) (Blk.lt h) h.cells.2.1, cell_grown (a := ⟨eb, 2, none⟩) (Blk.lt h) h.cells.2.2⟩
/-- Is it there already? -/
def twB (tw : Bool) (s : List Ed) (m : Nat) (e : Ed) : Bool := tw || (match s[m - 1]? with | some x => decide (0 < m) && !lo x e | none => false)

theorem twB_false {tw : Bool} {s : List Ed} {m : Nat} {e : Ed} (h : tw = false ↔ Alone s) : twB tw s m e = false ↔ Alone s ∧ ¬ (0 < m ∧ ∃ x, s[m - 1]? = some x ∧ lo x e = false) := by
  unfold twB
  rw [Bool.or_eq_false_iff, h]
  refine and_congr_right fun _ => ?_
  cases hx : s[m - 1]? with
  | none => simp
  | some x =>
    simp only [Bool.and_eq_false_imp, decide_eq_true_eq, Bool.not_eq_false', Option.some.injEq, exists_eq_left', not_and]
    constructor
    · intro h1 h2; rw [h1 h2]; simp
    · intro h1 h2; have := h1 h2; simpa using this
theorem take_norm {l : List Ed} {j : Nat} (h : j < l.length) : (l.take (j + 1)).map norm = (l.take j).map norm ++ [norm l[j]] := by
  rw [List.take_add_one, List.getElem?_eq_getElem h, List.map_append]; rfl
theorem owns_base2 {W : World} {a b : Nat} {e : TypeId} {size : Nat} {v : Value} {n : Nat} {xs : List Value} (h : W.ownsRow b e size v n xs) (hab : a ≤ b) : W.ownsRow a e size v n xs := by
  obtain ⟨h1, h2⟩ := h
  refine ⟨h1, ?_⟩
  rcases h2 with h2 | ⟨g, cap, cur, hv, hb, r⟩
  · exact .inl h2
  · exact .inr ⟨g, cap, cur, hv, Nat.le_trans hab hb, r⟩
theorem MkI.step {w : World} {n : Int} {l : List Ed} {j : Nat} {tw : Bool} {s : List Ed} {sv v' : Value} {A B : World} {m : Nat} {e : Ed} (h : MkI w n l j tw s sv A) (hj : j < l.length) (he : norm l[j] = e) (hm : m ≤ s.length)
    (hbig : ∀ i x, m ≤ i → s[i]? = some x → lo e x = true) (hsm : m = 0 ∨ ∃ x, s[m - 1]? = some x ∧ lo e x = false) (hf : firstK n (l.drop (j + 1)) = firstK n l)
    (hown : B.ownsRow A.heap.size 41 3 v' (s.take m ++ [e] ++ s.drop m).length (flat (s.take m ++ [e] ++ s.drop m))) (hb : Below A.heap.size A B) :
    MkI w n l (j + 1) (twB tw s m e) (s.take m ++ [e] ++ s.drop m) v' (B.setCell ⟨w.heap.size + 1, 1, none⟩ v') := by
  obtain ⟨h1, h2, h3⟩ := ins_facts h.weak hm hbig hsm
  have hz : s.take m ++ [e] ++ s.drop m = s.take m ++ e :: s.drop m := by simp
  have hg := h.gc.lt
  refine ⟨(h.res.go hb).other (by simp) _, (h.gc.go hb).set 1 v', owns_set (owns_base2 hown (by omega)) (by simp) _, (h.bel.trans (hb.mono h.bel.size)).setCell (by simp) _, by rw [hz]; exact h1, ?_, ?_, hf⟩
  · rw [hz, take_norm hj, he]
    exact (h2.trans (h.perm.cons e)).trans (List.perm_append_singleton _ _).symm
  · rw [twB_false h.tws, ← h3, hz]
    exact (alone_perm h2).symm
section
variable {ops : Array Oper} {o : Oper} {a : Act} {w : World} {K : Act → World → Prop} {Q : Exit → Act → World → Prop} {E : Prop}
/-- append of edges upon a row that the call owns. -/
theorem step_app (hgd : o.guard = none) (s x : Operand) (ho : o.op = .call { callee := .builtin .append, args := #[s, x], argTypes := #[22, 22] })
    (base : Nat) (hbase : base ≤ w.heap.size) (xs : List Ed) (v : Value) (hs : a.eval s = v) (hown : w.ownsRow base 41 3 v xs.length (flat xs))
    (ys : List Ed) (yv : Value) (hx : a.eval x = yv) (hy : Src w yv ys.length 3 (flat ys)) (hlen : xs.length + ys.length ≤ 1000000) (zs : List Ed) (hz : xs ++ ys = zs) (L : Nat) (hL : zs.length = L)
    (h : ∀ p c w', w'.ownsRow base 41 3 (.slice p L c) zs.length (flat zs) → Below base w w' → (∀ t k vs, Blk t w k vs → v.ownBlock ≠ some k → Blk t w' k vs ∧ (Value.slice p L c).ownBlock ≠ some k) → K (a.put o.dst (.slice p L c)) w') :
    if Region.wanted o (yielded ops a.tmps) = true then Oper.wp Try.prog o a w K Q else E := by
  subst hz hL
  obtain ⟨i0, hi, hz0, hz1, hz2⟩ := info_parts infoE
  refine step_append_src hgd s x 22 ho base 41 i0 (.agg #[.int .i64 0, .int .i64 0, .int .i64 0]) 3 24 Try.underlying22 hi hz0 hz1 hz2 (by simp [Value.cells]) (by decide) v xs.length (flat xs) hs hown yv ys.length (flat ys) hx hy (by unfold maxLen; omega) (by omega) hbase ?_
  intro v' w' h1 h2 h3
  rw [← show flat (xs ++ ys) = flat xs ++ flat ys by simp [flat], ← List.length_append] at h1
  obtain ⟨p, c, rfl⟩ := owns_form h1
  refine h p c w' h1 ((Below.refl _ _).grown h2 hbase (fun k e => (hown.lt k e).1)) (fun t k vs hB hne => ⟨hB.grown h2 (Ne.symm hne), fun e => ?_⟩)
  rcases h3 with h3 | h3
  · exact hne (h3 ▸ e)
  · rw [h3] at e
    have := hB.lt
    simp only [Option.some.injEq] at e
    omega
end
theorem keepS5 {wr W : World} {a0 a1 a2 a3 : Addr} {v0 v1 v2 v3 : Value} (d0 : wr.cell? a0 = some v0) (d1 : wr.cell? a1 = some v1) (d2 : wr.cell? a2 = some v2) (d3 : wr.cell? a3 = some v3) (h : Below wr.heap.size wr W) : W.cell? a0 = some v0 ∧ W.cell? a1 = some v1 ∧ W.cell? a2 = some v2 ∧ W.cell? a3 = some v3 ∧ Below wr.heap.size wr W := ⟨cell_keep h d0, cell_keep h d1, cell_keep h d2, cell_keep h d3, h⟩
theorem flat_take : ∀ (s : List Ed) (m : Nat), flat (s.take m) = (flat s).take (m * 3)
  | [], m => by simp [flat]
  | e :: s, 0 => by simp [flat]
  | e :: s, m + 1 => by rw [List.take_succ_cons, flat_cons, flat_cons, flat_take s m, show (m + 1) * 3 = m * 3 + 1 + 1 + 1 by omega]; simp
theorem flat_drop : ∀ (s : List Ed) (m : Nat), flat (s.drop m) = (flat s).drop (m * 3)
  | [], m => by simp [flat]
  | e :: s, 0 => by simp
  | e :: s, m + 1 => by rw [List.drop_succ_cons, flat_cons, flat_drop s m, show (m + 1) * 3 = m * 3 + 1 + 1 + 1 by omega]; simp
theorem flat_one2 (l : List Ed) : ∀ u ∈ flat l, u.oneCell' = true := by
  intro u hu
  obtain ⟨e, _, he⟩ := List.mem_flatMap.1 hu
  exact one3 e u he
theorem owns_cells {W : World} {base b n c : Nat} {e : TypeId} {xs : List Value} (h : W.ownsRow base e 3 (.slice (some ⟨b, 0, none⟩) n c) n xs) : ∀ (j : Nat) (u : Value), xs[j]? = some u → W.cell? ⟨b, j, none⟩ = some u := fun j u hu => by
  have h1 := h.cells (g := b) rfl j u hu
  rw [Go.WideShapes.add_plain, Nat.zero_add] at h1
  exact h1
theorem take_src {W : World} {b : Nat} {s : List Ed} {m c : Nat} (hm : m ≤ s.length) (hB : ∀ (j : Nat) (u : Value), (flat s)[j]? = some u → W.cell? ⟨b, j, none⟩ = some u) : Src W (.slice (some ⟨b, 0, none⟩) m c) (s.take m).length 3 (flat (s.take m)) := by
  refine .inr ⟨⟨b, 0, none⟩, c, by rw [List.length_take, Nat.min_eq_left hm], flat_len _, fun j u hu => ?_, flat_one2 _⟩
  rw [Go.WideShapes.add_plain, Nat.zero_add]
  rw [flat_take, List.getElem?_take] at hu
  split at hu
  · exact hB _ _ hu
  · cases hu
theorem drop_src {W : World} {b : Nat} {s : List Ed} {m c : Nat} (hB : ∀ (j : Nat) (u : Value), (flat s)[j]? = some u → W.cell? ⟨b, j, none⟩ = some u) : Src W (.slice (some ⟨b, m * 3, none⟩) (s.length - m) c) (s.drop m).length 3 (flat (s.drop m)) := by
  refine .inr ⟨⟨b, m * 3, none⟩, c, by rw [List.length_drop], flat_len _, fun j u hu => ?_, flat_one2 _⟩
  rw [Go.WideShapes.add_plain]
  rw [flat_drop, List.getElem?_drop] at hu
  exact hB _ _ hu
theorem drop_src2 {W : World} {b : Nat} {s : List Ed} {m c : Nat} (hm : m ≤ s.length) (hc : s.length ≤ c) (hB : ∀ (j : Nat) (u : Value), (flat s)[j]? = some u → W.cell? ⟨b, j, none⟩ = some u) : Src W (.slice (if c = m then some ⟨b, 0, none⟩ else some ⟨b, m * 3, none⟩) (s.length - m) (c - m)) (s.drop m).length 3 (flat (s.drop m)) := by
  by_cases h : c = m
  · rw [if_pos h]
    have hd : s.drop m = [] := List.drop_eq_nil_of_le (by omega)
    refine .inr ⟨⟨b, 0, none⟩, c - m, by rw [List.length_drop], flat_len _, fun j u hu => ?_, flat_one2 _⟩
    rw [hd] at hu
    simp [flat] at hu
  · rw [if_neg h]
    exact drop_src hB
theorem one_src {W : World} {b : Nat} {e : Ed} (h : EdB W b e) : Src W (.slice (some ⟨b, 0, none⟩) 1 1) [e].length 3 (flat [e]) := by
  refine .inr ⟨⟨b, 0, none⟩, 1, rfl, flat_len _, fun j u hu => ?_, flat_one2 _⟩
  rw [Go.WideShapes.add_plain, Nat.zero_add]
  exact Blk.cell h hu
theorem owns_empty2 {w : World} {base : Nat} {e : TypeId} {k : Nat} (h : w.heap[k]? = some (.cells #[] e (0, 0))) (hb : base ≤ k) : w.ownsRow base e 3 (.slice (some ⟨k, 0, none⟩) 0 0) ([] : List Ed).length (flat []) :=
  ⟨rfl, .inr ⟨k, 0, #[], rfl, hb, h, Nat.le_refl _, Nat.zero_le _, rfl, rfl⟩⟩

set_option maxRecDepth 100000 in
set_option maxHeartbeats 8000000 in
theorem refMake_any (n : Int) (l : List Ed) (hl5 : l.length ≤ 500) (sv : Value) (w : World) (hl : Edges w.heap.size w sv l) :
    Calls Try.prog 17 #[.int .i64 n, sv] w fun r w' => ∃ gv, r = .returned (.tuple #[.agg #[.int .i64 (makeN n l), gv], .int .i64 (makeK n l)]) ∧ Edges w'.heap.size w' gv (makeL n l) ∧ Below w.heap.size w w' := by
  obtain ⟨p, c, rfl⟩ := hl.len
  have hmix := mixed
  obtain ⟨i0, hi, hz0, hz1, hz2⟩ := info_parts infoE
  by_cases hm : manyK n l.length = 0
  · obtain ⟨hn0, hn1, hlen⟩ := many_ok hm
    have hS := fun W => refMany_any n l.length W
    have HM : Hid (manyK n l.length = 0) := hm
    rw [hm] at hS
    have hst : MkI w n l 0 false [] (.slice none 0 0) ((w.alloc (.cells #[.int .i64 0, .slice none 0 0] 24)).alloc (.cells #[.int .i64 n, .slice none 0 0] 24)) := by
      have h1 : Blk 24 (w.alloc (.cells #[.int .i64 0, .slice none 0 0] 24)) w.heap.size [.int .i64 0, .slice none 0 0] := heap_alloc_new w _
      have h2 := heap_alloc_new (w.alloc (.cells #[.int .i64 0, .slice none 0 0] 24)) (.cells #[.int .i64 n, .slice none 0 0] 24)
      exact ⟨h1.go (((Grew.refl _).alloc _).below), by simpa [Blk] using h2, owns_none _ _ _, (((Grew.refl w).alloc _).alloc _).below, List.Pairwise.nil, List.Perm.nil, ⟨fun _ => List.Pairwise.nil, fun _ => rfl⟩, rfl⟩
    go_enter Try.func17, Try.ntmps17
    go_wp2_with fail
    refine (hS _).mono ?_
    rintro e w1 ⟨rfl, rfl⟩
    clear hS hm
    go_wp2
    go_loopw [8, 9] (fun t i wr => ∃ (j : Nat) (tw : Bool) (s : List Ed) (sv : Value), j ≤ l.length ∧ i = .int .i64 j ∧ t = .bool tw ∧ MkI w n l j tw s sv wr) (fun _ i _ => l.length - (intOf i).toNat)
    case atStart => exact ⟨0, false, [], _, Nat.zero_le _, rfl, rfl, hst⟩
    case round =>
      obtain ⟨j, tw, s, sv, hj, rfl, rfl, hI⟩ := hrel
      clear hst
      have hs5 : s.length ≤ 500 := by have := hI.perm.length_eq; simp at this; omega
      have hrl := hI.res.lt
      have hgl := hI.gc.lt
      by_cases hlt : j < l.length
      · obtain ⟨b, off, rfl, hbb, hcap, hc, -⟩ := hl.open hlt
        obtain ⟨c0, c1, c2⟩ := hc wr hI.bel j hlt
        have hjl : (j : Int) < (l.length : Int) := by omega
        have hst := hI.fst
        rw [firstK_step hlt] at hst
        have HST : Hid _ := hst
        clear hc hst
        have hed := fun W => refEdge_any n l[j] W
        go_wp2_with fail
        refine (hed _).mono ?_
        rintro e w7 ⟨rfl, hg7⟩
        have hgr : Grew wr w7 := ((Grew.refl wr).alloc _).trans hg7
        have hE7 : EdB w7 wr.heap.size l[j] := Blk.go (A := wr.alloc (.cells #[.int .i64 l[j].1, .int .i64 l[j].2.1, .int .i64 l[j].2.2] 41)) (heap_alloc_new wr _) hg7.below
        have hI7 := hI.go hgr.below
        have hsvl : ∀ k, sv.ownBlock = some k → k < wr.heap.size := fun k hk => (hI.own.lt k hk).2
        have heb : w.heap.size + 2 ≤ wr.heap.size := hgl
        clear hed c0 c1 c2 hgr hg7 hI hrl hgl
        generalize wr.heap.size = eb at hE7 hsvl heb
        clear wr
        by_cases hk : edgeK n l[j] = 0
        · rw [hk]
          have hok := edge_ok hk
          unfold okE at hok
          have HS : Hid (firstK n (l.drop (j + 1)) = firstK n l) := by
            have h2 := HST.out
            rw [hk, if_pos rfl] at h2
            exact h2
          have HN : Hid (l[j]? = some l[j]) := List.getElem?_eq_getElem hlt
          clear HST hk
          obtain ⟨e0, e1, e2⟩ := hE7.cells
          have hEl := Blk.lt hE7
          have f0 := Blk.frozen hE7 0
          have f1 := Blk.frozen hE7 1
          have f2 := Blk.frozen hE7 2
          go_upto_if 44 with fail
          go_cut [12] (fun _ wx => MkI w n l j tw s sv wx ∧ EdB wx eb (norm l[j]))
          case first =>
            by_cases huv : l[j].2.1 < l[j].1
            · have HM2 : Hid (norm l[j] = (l[j].2.1, l[j].1, l[j].2.2)) := by
                unfold Hid norm; rw [Int.min_eq_right (by omega), Int.max_eq_left (by omega)]
              have hI8 := ((hI7.put (p := ⟨eb, 0, none⟩) heb hsvl (.int .i64 l[j].2.1)).put (p := ⟨eb, 1, none⟩) heb hsvl (.int .i64 l[j].1)).put (p := ⟨eb, 2, none⟩) heb hsvl (.int .i64 l[j].2.2)
              have hE8 := ((Blk.set hE7 0 (.int .i64 l[j].2.1)).set 1 (.int .i64 l[j].1)).set 2 (.int .i64 l[j].2.2)
              go_wp2
              go_meet
              exact ⟨hI8, by rw [HM2.out]; exact hE8⟩
            · have HM2 : Hid (norm l[j] = l[j]) := norm_id (by omega)
              go_wp2
              go_meet
              exact ⟨hI7, by rw [HM2.out]; exact hE7⟩
          case rest =>
            obtain ⟨hI8, hE8⟩ := hcut
            have HEN : Hid (∃ e, norm l[j] = e) := ⟨_, rfl⟩
            clear hI7 hE7 e0 e1 e2 hEl f0 f1 f2 hok
            generalize hen : norm l[j] = e at hE8
            clear HEN
            obtain ⟨psv, csv, rfl⟩ := owns_form hI8.own
            have g1 := hI8.gc.cell (j := 1) rfl
            have HEN : Hid _ := hen
            clear hen
            go_upto_block 2 with fail
            go_cut [12] (fun k wx => ∃ m : Nat, k = .int .i64 m ∧ m ≤ s.length ∧ Hid (∀ i x, m ≤ i → s[i]? = some x → lo e x = true) ∧ Hid (m = 0 ∨ ∃ x, s[m - 1]? = some x ∧ lo e x = false) ∧ MkI w n l j tw s (.slice psv s.length csv) wx ∧ EdB wx eb e)
            case first =>
              go_wp2_with fail
              go_loopw [12] (fun k wx => ∃ m : Nat, m ≤ s.length ∧ k = .int .i64 m ∧ Hid (∀ i x, m ≤ i → s[i]? = some x → lo e x = true) ∧ Grew wc wx) (fun k _ => (intOf k).toNat)
              case atStart => exact ⟨s.length, Nat.le_refl _, rfl, fun i x h hx => by have := (List.getElem?_eq_some_iff.1 hx).1; omega, Grew.refl _⟩
              case round =>
                obtain ⟨m, hm, rfl, hbig, hg⟩ := hrel
                have hIr := hI8.go hg.below
                have hEr : EdB wr eb e := Blk.go hE8 hg.below
                by_cases hm0 : m = 0
                · subst hm0
                  have hneg : decide ((0 : Int) < ((0 : Nat) : Int)) = false := by simp
                  have hI9 := hIr.go (below_drewN (Below.refl _ wr) 1)
                  have hE9 : EdB (wr.drewN 1) eb e := Blk.go hEr (below_drewN (Below.refl _ wr) 1)
                  go_wp2
                  go_big_region_o
                  go_wp2
                  go_meet
                  exact ⟨0, rfl, Nat.zero_le _, hbig, .inl rfl, hI9, hE9⟩
                · obtain ⟨i, rfl⟩ : ∃ i, m = i + 1 := ⟨m - 1, by omega⟩
                  have his : i < s.length := by omega
                  obtain ⟨b2, off2, rfl, hbb2, hcap2, -, hcg⟩ := (Edges.of_owns hIr.own).open his
                  obtain ⟨d0, d1, d2⟩ := hcg wr (Below.refl _ _) i his
                  obtain ⟨e0, e1, e2⟩ := hEr.grown
                  have g1g := cell_grown (a := ⟨w.heap.size + 1, 1, none⟩) hIr.gc.lt (hIr.gc.cell (j := 1) rfl)
                  have hwi := wrap_i i (by omega) (by omega)
                  have hii : (i : Int) < (s.length : Int) := by omega
                  have hpos : decide ((0 : Int) < ((i + 1 : Nat) : Int)) = true := by simp
                  have hpos2 : (0 : Int) < (i : Int) + 1 := by omega
                  clear hcg
                  go_wp2
                  go_quiet_grown (first | (go_at_call 33; refine Calls.grown_of (refBelow_any e s[i] _)))
                  have hgq := hg.trans ⟨nq, osq, rfl⟩
                  generalize Go.Sort.grow (wr.drewN nq) osq = w9 at hgq ⊢
                  have hI9 := hI8.go hgq.below
                  have hE9 : EdB w9 eb e := Blk.go hE8 hgq.below
                  clear d0 d1 d2 e0 e1 e2 g1g hIr hEr hg nq osq
                  cases hlo : lo e s[i] with
                  | true =>
                    have HB : Hid (∀ k x, i ≤ k → s[k]? = some x → lo e x = true) := fun k x hk hx => by
                      by_cases hki : k = i
                      · subst hki; rw [List.getElem?_eq_getElem his] at hx; cases hx; exact hlo
                      · exact hbig.out k x (by omega) hx
                    clear hlo hbig hI9 hE9
                    go_wp2
                    exact ⟨⟨i, by omega, by go_num, HB, hgq⟩, by simp [intOf]⟩
                  | false =>
                    have HB : Hid (i + 1 = 0 ∨ ∃ x, s[i + 1 - 1]? = some x ∧ lo e x = false) := .inr ⟨_, List.getElem?_eq_getElem his, hlo⟩
                    clear hlo
                    go_wp2
                    go_meet
                    exact ⟨i + 1, by go_num, hm, hbig, HB, hI9, hE9⟩
            case rest =>
              obtain ⟨m, rfl, hm, hbig, hsm, hI9, hE9⟩ := hcut
              clear hI8 hE8 g1
              go_upto_region 18 with fail
              go_cut [8] (fun t wx => t = .bool (twB tw s m e) ∧ MkI w n l j tw s (.slice psv s.length csv) wx ∧ EdB wx eb e)
              case first =>
                cases tw with
                | true =>
                  have hI10 := hI9.go (below_drewN (Below.refl _ wc) 1)
                  have hE10 : EdB (wc.drewN 1) eb e := Blk.go hE9 (below_drewN (Below.refl _ wc) 1)
                  go_big_region_o
                  go_wp2
                  go_meet
                  exact ⟨rfl, hI10, hE10⟩
                | false =>
                  by_cases hm0 : m = 0
                  · subst hm0
                    have hneg : decide ((0 : Int) < ((0 : Nat) : Int)) = false := by simp
                    have HT : Hid (twB false s 0 e = false) := by
                      unfold Hid twB
                      cases s[0 - 1]? <;> simp
                    have hI10 := hI9.go (below_drewN (Below.refl _ wc) 1)
                    have hE10 : EdB (wc.drewN 1) eb e := Blk.go hE9 (below_drewN (Below.refl _ wc) 1)
                    go_big_region_o
                    go_wp2
                    go_meet
                    exact ⟨by rw [HT.out], hI10, hE10⟩
                  · obtain ⟨i, rfl⟩ : ∃ i, m = i + 1 := ⟨m - 1, by omega⟩
                    have his : i < s.length := by omega
                    have HT : Hid (twB false s (i + 1) e = !lo s[i] e) := by
                      unfold Hid twB
                      rw [show s[i + 1 - 1]? = some s[i] from List.getElem?_eq_getElem his]
                      simp
                    obtain ⟨b2, off2, rfl, hbb2, hcap2, -, hcg⟩ := (Edges.of_owns hI9.own).open his
                    obtain ⟨d0, d1, d2⟩ := hcg wc (Below.refl _ _) i his
                    obtain ⟨e0, e1, e2⟩ := hE9.grown
                    have g1g := cell_grown (a := ⟨w.heap.size + 1, 1, none⟩) hI9.gc.lt (hI9.gc.cell (j := 1) rfl)
                    have hwi := wrap_i i (by omega) (by omega)
                    have hii : (i : Int) < (s.length : Int) := by omega
                    have hpos2 : (0 : Int) < (i : Int) + 1 := by omega
                    clear hcg
                    go_quiet_grown (first | (go_at_call 33; refine Calls.grown_of (refBelow_any s[i] e _)))
                    have hgq : Grew wc _ := ⟨nq, osq, rfl⟩
                    generalize Go.Sort.grow (wc.drewN nq) osq = w9 at hgq ⊢
                    have hI10 := hI9.go hgq.below
                    have hE10 : EdB w9 eb e := Blk.go hE9 hgq.below
                    clear d0 d1 d2 e0 e1 e2 g1g
                    generalize lo s[i] e = bl at HT ⊢
                    go_wp2
                    go_meet
                    exact ⟨by rw [HT.out], hI10, hE10⟩
              case rest =>
                obtain ⟨rfl, hI10, hE10⟩ := hcut
                clear hI9 hE9
                obtain ⟨e0, e1, e2⟩ := hE10.cells
                have g1 := hI10.gc.cell (j := 1) rfl
                go_upto_region 19 with fail
                rcases hI10.own.2 with ⟨hnil, h0⟩ | ⟨b2, cap2, cur, hv2, hb2, _, hn2, _⟩
                · have hs0 : s = [] := List.eq_nil_of_length_eq_zero h0
                  subst hs0
                  obtain rfl : m = 0 := by simpa using hm
                  simp only [Value.slice.injEq] at hnil
                  obtain ⟨rfl, -, rfl⟩ := hnil
                  simp only [List.length_nil] at g1
                  have hT : ∀ W, Below wc.heap.size wc W → Src W (.slice none 0 0) (([] : List Ed).take 0).length 3 (flat (([] : List Ed).take 0)) := fun W _ => .inl ⟨⟨0, rfl⟩, rfl, rfl⟩
                  have hD : ∀ W, Below wc.heap.size wc W → Src W (.slice none 0 0) (([] : List Ed).drop 0).length 3 (flat (([] : List Ed).drop 0)) := fun W _ => .inl ⟨⟨0, rfl⟩, rfl, rfl⟩
                  have hbA : Below wc.heap.size wc (wc.alloc (.cells #[] 41)).drew := below_drewN ((Below.refl _ wc).alloc (Nat.le_refl _) _) 1
                  have hbB : Below wc.heap.size wc (wc.alloc (.cells #[.int .i64 e.1, .int .i64 e.2.1, .int .i64 e.2.2] 41)).drew := below_drewN ((Below.refl _ wc).alloc (Nat.le_refl _) _) 1
                  have hbAB : Below wc.heap.size wc ((wc.alloc (.cells #[] 41)).alloc (.cells #[.int .i64 e.1, .int .i64 e.2.1, .int .i64 e.2.2] 41)).drew := below_drewN (((Below.refl _ wc).alloc (Nat.le_refl _) _).alloc (by simp) _) 1
                  have hbBA : Below wc.heap.size wc ((wc.alloc (.cells #[.int .i64 e.1, .int .i64 e.2.1, .int .i64 e.2.2] 41)).alloc (.cells #[] 41)).drew := below_drewN (((Below.refl _ wc).alloc (Nat.le_refl _) _).alloc (by simp) _) 1
                  have hoA : (wc.alloc (.cells #[] 41)).drew.ownsRow wc.heap.size 41 3 (.slice (some ⟨wc.heap.size, 0, none⟩) 0 0) ([] : List Ed).length (flat []) := owns_empty2 (w := (wc.alloc (.cells #[] 41)).drew) (heap_alloc_new wc _) (Nat.le_refl _)
                  have hoAB : ((wc.alloc (.cells #[] 41)).alloc (.cells #[.int .i64 e.1, .int .i64 e.2.1, .int .i64 e.2.2] 41)).drew.ownsRow wc.heap.size 41 3 (.slice (some ⟨wc.heap.size, 0, none⟩) 0 0) ([] : List Ed).length (flat []) := (owns_empty2 (w := wc.alloc (.cells #[] 41)) (heap_alloc_new wc _) (Nat.le_refl _)).alloc _
                  have hoBA : ((wc.alloc (.cells #[.int .i64 e.1, .int .i64 e.2.1, .int .i64 e.2.2] 41)).alloc (.cells #[] 41)).drew.ownsRow wc.heap.size 41 3 (.slice (some ⟨wc.heap.size + 1, 0, none⟩) 0 0) ([] : List Ed).length (flat []) := by
                    have h1 := heap_alloc_new (wc.alloc (.cells #[.int .i64 e.1, .int .i64 e.2.1, .int .i64 e.2.2] 41)) (.cells #[] 41)
                    rw [World.size_alloc] at h1
                    exact owns_empty2 (w := ((wc.alloc (.cells #[.int .i64 e.1, .int .i64 e.2.1, .int .i64 e.2.2] 41)).alloc (.cells #[] 41)).drew) h1 (by omega)
                  have hEAB : EdB ((wc.alloc (.cells #[] 41)).alloc (.cells #[.int .i64 e.1, .int .i64 e.2.1, .int .i64 e.2.2] 41)).drew (wc.heap.size + 1) e := by
                    have h1 := heap_alloc_new (wc.alloc (.cells #[] 41)) (.cells #[.int .i64 e.1, .int .i64 e.2.1, .int .i64 e.2.2] 41)
                    rw [World.size_alloc] at h1
                    exact h1
                  have hEBA : EdB ((wc.alloc (.cells #[.int .i64 e.1, .int .i64 e.2.1, .int .i64 e.2.2] 41)).alloc (.cells #[] 41)).drew wc.heap.size e := Blk.go (A := wc.alloc (.cells #[.int .i64 e.1, .int .i64 e.2.1, .int .i64 e.2.2] 41)) (heap_alloc_new wc _) (below_drewN ((Below.refl _ _).alloc (Nat.le_refl _) _) 1)
                  refine wp_region_last (S := (fun w' : World => w'.cell? ⟨w.heap.size + 1, 1, none⟩ = some (.slice none 0 0) ∧ w'.cell? ⟨eb, 0, none⟩ = some (.int .i64 e.1) ∧ w'.cell? ⟨eb, 1, none⟩ = some (.int .i64 e.2.1) ∧ w'.cell? ⟨eb, 2, none⟩ = some (.int .i64 e.2.2) ∧ Below wc.heap.size wc w')) (by assumption) ?_ (fun hHeld => ?_)
                  · exact ⟨g1, e0, e1, e2, below_drewN (Below.refl _ wc) 1⟩
                  refine wpAnyL_take (i := 1) (v := ?_) rfl (by kernel_rfl) (by kernel_rfl) (by kernel_rfl) (by kernel_rfl) (fun _ _ _ h => h) (Or.inl ⟨by rfl, ?_⟩) (by assumption) ?_
                  rotate_left
                  · intro w hSw; (try dsimp only at hSw); go_simp; (try with_reducible rfl)
                  refine wpAnyL_take (i := 2) (v := ?_) rfl (by kernel_rfl) (by kernel_rfl) (by kernel_rfl) (by kernel_rfl) (fun _ _ _ h => h) (Or.inl ⟨by rfl, ?_⟩) (by assumption) ?_
                  rotate_left
                  · intro w hSw; (try dsimp only at hSw); go_simp; (try with_reducible rfl)
                  refine wpAnyL_take (i := 3) (v := ?_) rfl (by kernel_rfl) (by kernel_rfl) (by kernel_rfl) (by kernel_rfl) (fun _ _ _ h => h) (Or.inl ⟨by rfl, ?_⟩) (by assumption) ?_
                  rotate_left
                  · intro w hSw; (try dsimp only at hSw); go_simp; (try with_reducible rfl)
                  refine wpAnyL_take (i := 4) (v := ?_) rfl (by kernel_rfl) (by kernel_rfl) (by kernel_rfl) (by kernel_rfl) (fun _ _ _ h => h) (Or.inl ⟨by rfl, ?_⟩) (by assumption) ?_
                  rotate_left
                  · intro w hSw; (try dsimp only at hSw); go_simp; (try with_reducible rfl)
                  refine wpAnyL_take (i := 6) (v := ?_) rfl (by kernel_rfl) (by kernel_rfl) (by kernel_rfl) (by kernel_rfl) (fun _ _ _ h => h) (Or.inl ⟨by rfl, ?_⟩) (by assumption) ?_
                  rotate_left
                  · intro w hSw; (try dsimp only at hSw); go_simp; (try with_reducible rfl)
                  refine wpAnyL_take (i := 9) (v := ?_) rfl (by kernel_rfl) (by kernel_rfl) (by kernel_rfl) (by kernel_rfl) (fun _ _ _ h => h) (Or.inl ⟨by rfl, ?_⟩) (by assumption) ?_
                  rotate_left
                  · intro w hSw; (try dsimp only at hSw); go_simp; (try with_reducible rfl)
                  refine wpAnyL_take (i := 10) (v := ?_) rfl (by kernel_rfl) (by kernel_rfl) (by kernel_rfl) (by kernel_rfl) (fun _ _ _ h => h) (Or.inl ⟨by rfl, ?_⟩) (by assumption) ?_
                  rotate_left
                  · intro w hSw; (try dsimp only at hSw); go_simp; (try with_reducible rfl)
                  refine wpAnyL_take (i := 11) (v := ?_) rfl (by kernel_rfl) (by kernel_rfl) (by kernel_rfl) (by kernel_rfl) (fun _ _ _ h => h) (Or.inl ⟨by rfl, ?_⟩) (by assumption) ?_
                  rotate_left
                  · intro w hSw; (try dsimp only at hSw); go_simp; (try with_reducible rfl)
                  refine wpAnyL_take (i := 12) (v := ?_) rfl (by kernel_rfl) (by kernel_rfl) (by kernel_rfl) (by kernel_rfl) (fun _ _ _ h => h) (Or.inl ⟨by rfl, ?_⟩) (by assumption) ?_
                  rotate_left
                  · intro w hSw; (try dsimp only at hSw); go_simp; (try with_reducible rfl)
                  refine wpAnyL_ready (rs := [0, 7]) (by kernel_rfl) (by simp) ?_
                  refine AllReadyL.cons rfl (fun K hK => ?_) (AllReadyL.cons rfl (fun K hK => ?_) AllReadyL.nil)
                  · go_simp
                    refine hK.out _ _ ?_ (fun hHeld => ?_)
                    · exact keepS5 g1 e0 e1 e2 hbA
                    clear hK K
                    refine wpAnyL_ready (rs := [5, 7]) (by kernel_rfl) (by simp) ?_
                    refine AllReadyL.cons rfl (fun K hK => ?_) (AllReadyL.cons rfl (fun K hK => ?_) AllReadyL.nil)
                    · refine step_app rfl _ _ rfl wc.heap.size hHeld.2.2.2.2.size [] (.slice (some ⟨wc.heap.size, 0, none⟩) 0 0) rfl hoA (([] : List Ed).take 0) (.slice none 0 0) rfl (hT _ hHeld.2.2.2.2) (by simp) (([] : List Ed).take 0) (by simp) 0 (by simp) ?_
                      intro p1 c1 w1 ho1 hb1 hk1
                      refine hK.out _ _ ?_ (fun hHeld1 => ?_)
                      · exact keepS5 g1 e0 e1 e2 (hHeld.2.2.2.2.trans hb1)
                      clear hK K
                      refine wpAnyL_ready (rs := [7]) (by kernel_rfl) (by simp) ?_
                      refine AllReadyL.cons rfl (fun K hK => ?_) AllReadyL.nil
                      have ho1a := ho1.alloc (.cells #[.int .i64 e.1, .int .i64 e.2.1, .int .i64 e.2.2] 41)
                      have hb1a := (hHeld1.2.2.2.2).alloc hHeld1.2.2.2.2.size (.cells #[.int .i64 e.1, .int .i64 e.2.1, .int .i64 e.2.2] 41)
                      have hEX : EdB (w1.alloc (.cells #[.int .i64 e.1, .int .i64 e.2.1, .int .i64 e.2.2] 41)) w1.heap.size e := heap_alloc_new w1 _
                      go_simp
                      refine hK.out _ _ ?_ (fun hHeld1 => ?_)
                      · exact keepS5 g1 e0 e1 e2 hb1a
                      clear hK K ho1
                      have ho1 := ho1a
                      refine wpAnyL_ready (rs := [8]) (by kernel_rfl) (by simp) ?_
                      refine AllReadyL.cons rfl (fun K hK => ?_) AllReadyL.nil
                      refine step_app rfl _ _ rfl wc.heap.size hHeld1.2.2.2.2.size (([] : List Ed).take 0) (.slice p1 0 c1) rfl ho1 [e] (.slice (some ⟨w1.heap.size, 0, none⟩) 1 1) rfl (one_src hEX) (by simp) (([] : List Ed).take 0 ++ [e]) rfl 1 (by simp) ?_
                      intro p2 c2 w2 ho2 hb2' hk2
                      refine hK.out _ _ ?_ (fun hHeld2 => ?_)
                      · exact keepS5 g1 e0 e1 e2 (hHeld1.2.2.2.2.trans hb2')
                      clear hK K
                      refine wpAnyL_ready (rs := [13]) (by kernel_rfl) (by simp) ?_
                      refine AllReadyL.cons rfl (fun K hK => ?_) AllReadyL.nil
                      refine step_app rfl _ _ rfl wc.heap.size hHeld2.2.2.2.2.size (([] : List Ed).take 0 ++ [e]) (.slice p2 1 c2) rfl ho2 (([] : List Ed).drop 0) (.slice none 0 0) rfl (hD _ hHeld2.2.2.2.2) (by simp) (([] : List Ed).take 0 ++ [e] ++ ([] : List Ed).drop 0) rfl 1 (by simp) ?_
                      intro p3 c3 w3 ho3 hb3 hk3
                      have hb4 := hHeld2.2.2.2.2.trans hb3
                      refine hK.out _ _ ?_ (fun hHeld3 => ?_)
                      · exact keepS5 g1 e0 e1 e2 hb4
                      clear hK K
                      refine wpAnyL_take (i := 14) (v := ?_) rfl (by kernel_rfl) (by kernel_rfl) (by kernel_rfl) (by kernel_rfl) (fun _ _ _ h => h) (Or.inl ⟨by rfl, ?_⟩) (by assumption) ?_
                      rotate_left
                      · intro w hSw; (try dsimp only at hSw); go_simp; (try with_reducible rfl)
                      refine wpAnyL_ready (rs := [15]) (by kernel_rfl) (by simp) ?_
                      refine AllReadyL.last rfl (by kernel_rfl) (fun K hK => ?_)
                      have hgF := hI10.gc.go hb4
                      have gF1 := hgF.cell (j := 1) rfl
                      have fF1 := hgF.frozen 1
                      go_simp
                      refine hK.out _ _ ?_
                      clear hK K
                      refine wpAnyL_done (by kernel_rfl) ?_ _
                      have hIF := hI10.step hlt HEN.out hm hbig.out hsm.out HS.out ho3 hb4
                      go_wp2
                      exact ⟨⟨j + 1, _, _, _, by omega, by go_num, rfl, hIF⟩, by simp [intOf]; omega⟩
                    · go_simp
                      refine hK.out _ _ ?_ (fun hHeld => ?_)
                      · exact keepS5 g1 e0 e1 e2 hbAB
                      clear hK K
                      refine wpAnyL_ready (rs := [5]) (by kernel_rfl) (by simp) ?_
                      refine AllReadyL.cons rfl (fun K hK => ?_) AllReadyL.nil
                      refine step_app rfl _ _ rfl wc.heap.size hHeld.2.2.2.2.size [] (.slice (some ⟨wc.heap.size, 0, none⟩) 0 0) rfl hoAB (([] : List Ed).take 0) (.slice none 0 0) rfl (hT _ hHeld.2.2.2.2) (by simp) (([] : List Ed).take 0) (by simp) 0 (by simp) ?_
                      intro p1 c1 w1 ho1 hb1 hk1
                      refine hK.out _ _ ?_ (fun hHeld1 => ?_)
                      · exact keepS5 g1 e0 e1 e2 (hHeld.2.2.2.2.trans hb1)
                      clear hK K
                      have hEX := (hk1 _ _ _ hEAB (by simp [Value.ownBlock])).1
                      refine wpAnyL_ready (rs := [8]) (by kernel_rfl) (by simp) ?_
                      refine AllReadyL.cons rfl (fun K hK => ?_) AllReadyL.nil
                      refine step_app rfl _ _ rfl wc.heap.size hHeld1.2.2.2.2.size (([] : List Ed).take 0) (.slice p1 0 c1) rfl ho1 [e] (.slice (some ⟨wc.heap.size + 1, 0, none⟩) 1 1) rfl (one_src hEX) (by simp) (([] : List Ed).take 0 ++ [e]) rfl 1 (by simp) ?_
                      intro p2 c2 w2 ho2 hb2' hk2
                      refine hK.out _ _ ?_ (fun hHeld2 => ?_)
                      · exact keepS5 g1 e0 e1 e2 (hHeld1.2.2.2.2.trans hb2')
                      clear hK K
                      refine wpAnyL_ready (rs := [13]) (by kernel_rfl) (by simp) ?_
                      refine AllReadyL.cons rfl (fun K hK => ?_) AllReadyL.nil
                      refine step_app rfl _ _ rfl wc.heap.size hHeld2.2.2.2.2.size (([] : List Ed).take 0 ++ [e]) (.slice p2 1 c2) rfl ho2 (([] : List Ed).drop 0) (.slice none 0 0) rfl (hD _ hHeld2.2.2.2.2) (by simp) (([] : List Ed).take 0 ++ [e] ++ ([] : List Ed).drop 0) rfl 1 (by simp) ?_
                      intro p3 c3 w3 ho3 hb3 hk3
                      have hb4 := hHeld2.2.2.2.2.trans hb3
                      refine hK.out _ _ ?_ (fun hHeld3 => ?_)
                      · exact keepS5 g1 e0 e1 e2 hb4
                      clear hK K
                      refine wpAnyL_take (i := 14) (v := ?_) rfl (by kernel_rfl) (by kernel_rfl) (by kernel_rfl) (by kernel_rfl) (fun _ _ _ h => h) (Or.inl ⟨by rfl, ?_⟩) (by assumption) ?_
                      rotate_left
                      · intro w hSw; (try dsimp only at hSw); go_simp; (try with_reducible rfl)
                      refine wpAnyL_ready (rs := [15]) (by kernel_rfl) (by simp) ?_
                      refine AllReadyL.last rfl (by kernel_rfl) (fun K hK => ?_)
                      have hgF := hI10.gc.go hb4
                      have gF1 := hgF.cell (j := 1) rfl
                      have fF1 := hgF.frozen 1
                      go_simp
                      refine hK.out _ _ ?_
                      clear hK K
                      refine wpAnyL_done (by kernel_rfl) ?_ _
                      have hIF := hI10.step hlt HEN.out hm hbig.out hsm.out HS.out ho3 hb4
                      go_wp2
                      exact ⟨⟨j + 1, _, _, _, by omega, by go_num, rfl, hIF⟩, by simp [intOf]; omega⟩
                  · go_simp
                    refine hK.out _ _ ?_ (fun hHeld => ?_)
                    · exact keepS5 g1 e0 e1 e2 hbB
                    clear hK K
                    refine wpAnyL_ready (rs := [0]) (by kernel_rfl) (by simp) ?_
                    refine AllReadyL.cons rfl (fun K hK => ?_) AllReadyL.nil
                    go_simp
                    refine hK.out _ _ ?_ (fun hHeld => ?_)
                    · exact keepS5 g1 e0 e1 e2 hbBA
                    clear hK K
                    refine wpAnyL_ready (rs := [5]) (by kernel_rfl) (by simp) ?_
                    refine AllReadyL.cons rfl (fun K hK => ?_) AllReadyL.nil
                    refine step_app rfl _ _ rfl wc.heap.size hHeld.2.2.2.2.size [] (.slice (some ⟨wc.heap.size + 1, 0, none⟩) 0 0) rfl hoBA (([] : List Ed).take 0) (.slice none 0 0) rfl (hT _ hHeld.2.2.2.2) (by simp) (([] : List Ed).take 0) (by simp) 0 (by simp) ?_
                    intro p1 c1 w1 ho1 hb1 hk1
                    refine hK.out _ _ ?_ (fun hHeld1 => ?_)
                    · exact keepS5 g1 e0 e1 e2 (hHeld.2.2.2.2.trans hb1)
                    clear hK K
                    have hEX := (hk1 _ _ _ hEBA (by simp [Value.ownBlock])).1
                    refine wpAnyL_ready (rs := [8]) (by kernel_rfl) (by simp) ?_
                    refine AllReadyL.cons rfl (fun K hK => ?_) AllReadyL.nil
                    refine step_app rfl _ _ rfl wc.heap.size hHeld1.2.2.2.2.size (([] : List Ed).take 0) (.slice p1 0 c1) rfl ho1 [e] (.slice (some ⟨wc.heap.size, 0, none⟩) 1 1) rfl (one_src hEX) (by simp) (([] : List Ed).take 0 ++ [e]) rfl 1 (by simp) ?_
                    intro p2 c2 w2 ho2 hb2' hk2
                    refine hK.out _ _ ?_ (fun hHeld2 => ?_)
                    · exact keepS5 g1 e0 e1 e2 (hHeld1.2.2.2.2.trans hb2')
                    clear hK K
                    refine wpAnyL_ready (rs := [13]) (by kernel_rfl) (by simp) ?_
                    refine AllReadyL.cons rfl (fun K hK => ?_) AllReadyL.nil
                    refine step_app rfl _ _ rfl wc.heap.size hHeld2.2.2.2.2.size (([] : List Ed).take 0 ++ [e]) (.slice p2 1 c2) rfl ho2 (([] : List Ed).drop 0) (.slice none 0 0) rfl (hD _ hHeld2.2.2.2.2) (by simp) (([] : List Ed).take 0 ++ [e] ++ ([] : List Ed).drop 0) rfl 1 (by simp) ?_
                    intro p3 c3 w3 ho3 hb3 hk3
                    have hb4 := hHeld2.2.2.2.2.trans hb3
                    refine hK.out _ _ ?_ (fun hHeld3 => ?_)
                    · exact keepS5 g1 e0 e1 e2 hb4
                    clear hK K
                    refine wpAnyL_take (i := 14) (v := ?_) rfl (by kernel_rfl) (by kernel_rfl) (by kernel_rfl) (by kernel_rfl) (fun _ _ _ h => h) (Or.inl ⟨by rfl, ?_⟩) (by assumption) ?_
                    rotate_left
                    · intro w hSw; (try dsimp only at hSw); go_simp; (try with_reducible rfl)
                    refine wpAnyL_ready (rs := [15]) (by kernel_rfl) (by simp) ?_
                    refine AllReadyL.last rfl (by kernel_rfl) (fun K hK => ?_)
                    have hgF := hI10.gc.go hb4
                    have gF1 := hgF.cell (j := 1) rfl
                    have fF1 := hgF.frozen 1
                    go_simp
                    refine hK.out _ _ ?_
                    clear hK K
                    refine wpAnyL_done (by kernel_rfl) ?_ _
                    have hIF := hI10.step hlt HEN.out hm hbig.out hsm.out HS.out ho3 hb4
                    go_wp2
                    exact ⟨⟨j + 1, _, _, _, by omega, by go_num, rfl, hIF⟩, by simp [intOf]; omega⟩
                · simp only [Value.slice.injEq] at hv2
                  obtain ⟨rfl, -, rfl⟩ := hv2
                  have hcs := owns_cells hI10.own
                  have hmc : m ≤ csv := by omega
                  have hT : ∀ W, Below wc.heap.size wc W → Src W (.slice (some ⟨b2, 0, none⟩) m csv) (s.take m).length 3 (flat (s.take m)) := fun W hb => take_src hm (fun j u hu => cell_keep hb (hcs j u hu))
                  have hD : ∀ W, Below wc.heap.size wc W → Src W (.slice (if csv = m then some ⟨b2, 0, none⟩ else some ⟨b2, m * 3, none⟩) (s.length - m) (csv - m)) (s.drop m).length 3 (flat (s.drop m)) := fun W hb => drop_src2 hm hn2 (fun j u hu => cell_keep hb (hcs j u hu))
                  clear hcs
                  have hbA : Below wc.heap.size wc (wc.alloc (.cells #[] 41)).drew := below_drewN ((Below.refl _ wc).alloc (Nat.le_refl _) _) 1
                  have hbB : Below wc.heap.size wc (wc.alloc (.cells #[.int .i64 e.1, .int .i64 e.2.1, .int .i64 e.2.2] 41)).drew := below_drewN ((Below.refl _ wc).alloc (Nat.le_refl _) _) 1
                  have hbAB : Below wc.heap.size wc ((wc.alloc (.cells #[] 41)).alloc (.cells #[.int .i64 e.1, .int .i64 e.2.1, .int .i64 e.2.2] 41)).drew := below_drewN (((Below.refl _ wc).alloc (Nat.le_refl _) _).alloc (by simp) _) 1
                  have hbBA : Below wc.heap.size wc ((wc.alloc (.cells #[.int .i64 e.1, .int .i64 e.2.1, .int .i64 e.2.2] 41)).alloc (.cells #[] 41)).drew := below_drewN (((Below.refl _ wc).alloc (Nat.le_refl _) _).alloc (by simp) _) 1
                  have hoA : (wc.alloc (.cells #[] 41)).drew.ownsRow wc.heap.size 41 3 (.slice (some ⟨wc.heap.size, 0, none⟩) 0 0) ([] : List Ed).length (flat []) := owns_empty2 (w := (wc.alloc (.cells #[] 41)).drew) (heap_alloc_new wc _) (Nat.le_refl _)
                  have hoAB : ((wc.alloc (.cells #[] 41)).alloc (.cells #[.int .i64 e.1, .int .i64 e.2.1, .int .i64 e.2.2] 41)).drew.ownsRow wc.heap.size 41 3 (.slice (some ⟨wc.heap.size, 0, none⟩) 0 0) ([] : List Ed).length (flat []) := (owns_empty2 (w := wc.alloc (.cells #[] 41)) (heap_alloc_new wc _) (Nat.le_refl _)).alloc _
                  have hoBA : ((wc.alloc (.cells #[.int .i64 e.1, .int .i64 e.2.1, .int .i64 e.2.2] 41)).alloc (.cells #[] 41)).drew.ownsRow wc.heap.size 41 3 (.slice (some ⟨wc.heap.size + 1, 0, none⟩) 0 0) ([] : List Ed).length (flat []) := by
                    have h1 := heap_alloc_new (wc.alloc (.cells #[.int .i64 e.1, .int .i64 e.2.1, .int .i64 e.2.2] 41)) (.cells #[] 41)
                    rw [World.size_alloc] at h1
                    exact owns_empty2 (w := ((wc.alloc (.cells #[.int .i64 e.1, .int .i64 e.2.1, .int .i64 e.2.2] 41)).alloc (.cells #[] 41)).drew) h1 (by omega)
                  have hEAB : EdB ((wc.alloc (.cells #[] 41)).alloc (.cells #[.int .i64 e.1, .int .i64 e.2.1, .int .i64 e.2.2] 41)).drew (wc.heap.size + 1) e := by
                    have h1 := heap_alloc_new (wc.alloc (.cells #[] 41)) (.cells #[.int .i64 e.1, .int .i64 e.2.1, .int .i64 e.2.2] 41)
                    rw [World.size_alloc] at h1
                    exact h1
                  have hEBA : EdB ((wc.alloc (.cells #[.int .i64 e.1, .int .i64 e.2.1, .int .i64 e.2.2] 41)).alloc (.cells #[] 41)).drew wc.heap.size e := Blk.go (A := wc.alloc (.cells #[.int .i64 e.1, .int .i64 e.2.1, .int .i64 e.2.2] 41)) (heap_alloc_new wc _) (below_drewN ((Below.refl _ _).alloc (Nat.le_refl _) _) 1)
                  refine wp_region_last (S := (fun w' : World => w'.cell? ⟨w.heap.size + 1, 1, none⟩ = some (.slice (some ⟨b2, 0, none⟩) s.length csv) ∧ w'.cell? ⟨eb, 0, none⟩ = some (.int .i64 e.1) ∧ w'.cell? ⟨eb, 1, none⟩ = some (.int .i64 e.2.1) ∧ w'.cell? ⟨eb, 2, none⟩ = some (.int .i64 e.2.2) ∧ Below wc.heap.size wc w')) (by assumption) ?_ (fun hHeld => ?_)
                  · exact ⟨g1, e0, e1, e2, below_drewN (Below.refl _ wc) 1⟩
                  refine wpAnyL_take (i := 1) (v := ?_) rfl (by kernel_rfl) (by kernel_rfl) (by kernel_rfl) (by kernel_rfl) (fun _ _ _ h => h) (Or.inl ⟨by rfl, ?_⟩) (by assumption) ?_
                  rotate_left
                  · intro w hSw; (try dsimp only at hSw); go_simp; (try with_reducible rfl)
                  refine wpAnyL_take (i := 2) (v := ?_) rfl (by kernel_rfl) (by kernel_rfl) (by kernel_rfl) (by kernel_rfl) (fun _ _ _ h => h) (Or.inl ⟨by rfl, ?_⟩) (by assumption) ?_
                  rotate_left
                  · intro w hSw; (try dsimp only at hSw); go_simp; (try with_reducible rfl)
                  refine wpAnyL_take (i := 3) (v := ?_) rfl (by kernel_rfl) (by kernel_rfl) (by kernel_rfl) (by kernel_rfl) (fun _ _ _ h => h) (Or.inl ⟨by rfl, ?_⟩) (by assumption) ?_
                  rotate_left
                  · intro w hSw; (try dsimp only at hSw); go_simp; (try with_reducible rfl)
                  refine wpAnyL_take (i := 4) (v := ?_) rfl (by kernel_rfl) (by kernel_rfl) (by kernel_rfl) (by kernel_rfl) (fun _ _ _ h => h) (Or.inl ⟨by rfl, ?_⟩) (by assumption) ?_
                  rotate_left
                  · intro w hSw; (try dsimp only at hSw); go_simp; (try with_reducible rfl)
                  refine wpAnyL_take (i := 6) (v := ?_) rfl (by kernel_rfl) (by kernel_rfl) (by kernel_rfl) (by kernel_rfl) (fun _ _ _ h => h) (Or.inl ⟨by rfl, ?_⟩) (by assumption) ?_
                  rotate_left
                  · intro w hSw; (try dsimp only at hSw); go_simp; (try with_reducible rfl)
                  refine wpAnyL_take (i := 9) (v := ?_) rfl (by kernel_rfl) (by kernel_rfl) (by kernel_rfl) (by kernel_rfl) (fun _ _ _ h => h) (Or.inl ⟨by rfl, ?_⟩) (by assumption) ?_
                  rotate_left
                  · intro w hSw; (try dsimp only at hSw); go_simp; (try with_reducible rfl)
                  refine wpAnyL_take (i := 10) (v := ?_) rfl (by kernel_rfl) (by kernel_rfl) (by kernel_rfl) (by kernel_rfl) (fun _ _ _ h => h) (Or.inl ⟨by rfl, ?_⟩) (by assumption) ?_
                  rotate_left
                  · intro w hSw; (try dsimp only at hSw); go_simp; (try with_reducible rfl)
                  refine wpAnyL_take (i := 11) (v := ?_) rfl (by kernel_rfl) (by kernel_rfl) (by kernel_rfl) (by kernel_rfl) (fun _ _ _ h => h) (Or.inl ⟨by rfl, ?_⟩) (by assumption) ?_
                  rotate_left
                  · intro w hSw; (try dsimp only at hSw); go_simp; (try with_reducible rfl)
                  refine wpAnyL_take (i := 12) (v := ?_) rfl (by kernel_rfl) (by kernel_rfl) (by kernel_rfl) (by kernel_rfl) (fun _ _ _ h => h) (Or.inl ⟨by rfl, ?_⟩) (by assumption) ?_
                  rotate_left
                  · intro w hSw; (try dsimp only at hSw); go_simp; (try with_reducible rfl)
                  refine wpAnyL_ready (rs := [0, 7]) (by kernel_rfl) (by simp) ?_
                  refine AllReadyL.cons rfl (fun K hK => ?_) (AllReadyL.cons rfl (fun K hK => ?_) AllReadyL.nil)
                  · go_simp
                    refine hK.out _ _ ?_ (fun hHeld => ?_)
                    · exact keepS5 g1 e0 e1 e2 hbA
                    clear hK K
                    refine wpAnyL_ready (rs := [5, 7]) (by kernel_rfl) (by simp) ?_
                    refine AllReadyL.cons rfl (fun K hK => ?_) (AllReadyL.cons rfl (fun K hK => ?_) AllReadyL.nil)
                    · refine step_app rfl _ _ rfl wc.heap.size hHeld.2.2.2.2.size [] (.slice (some ⟨wc.heap.size, 0, none⟩) 0 0) rfl hoA (s.take m) (.slice (some ⟨b2, 0, none⟩) m csv) rfl (hT _ hHeld.2.2.2.2) (by simp; omega) (s.take m) (by simp) m (by simp; omega) ?_
                      intro p1 c1 w1 ho1 hb1 hk1
                      refine hK.out _ _ ?_ (fun hHeld1 => ?_)
                      · exact keepS5 g1 e0 e1 e2 (hHeld.2.2.2.2.trans hb1)
                      clear hK K
                      refine wpAnyL_ready (rs := [7]) (by kernel_rfl) (by simp) ?_
                      refine AllReadyL.cons rfl (fun K hK => ?_) AllReadyL.nil
                      have ho1a := ho1.alloc (.cells #[.int .i64 e.1, .int .i64 e.2.1, .int .i64 e.2.2] 41)
                      have hb1a := (hHeld1.2.2.2.2).alloc hHeld1.2.2.2.2.size (.cells #[.int .i64 e.1, .int .i64 e.2.1, .int .i64 e.2.2] 41)
                      have hEX : EdB (w1.alloc (.cells #[.int .i64 e.1, .int .i64 e.2.1, .int .i64 e.2.2] 41)) w1.heap.size e := heap_alloc_new w1 _
                      go_simp
                      refine hK.out _ _ ?_ (fun hHeld1 => ?_)
                      · exact keepS5 g1 e0 e1 e2 hb1a
                      clear hK K ho1
                      have ho1 := ho1a
                      refine wpAnyL_ready (rs := [8]) (by kernel_rfl) (by simp) ?_
                      refine AllReadyL.cons rfl (fun K hK => ?_) AllReadyL.nil
                      refine step_app rfl _ _ rfl wc.heap.size hHeld1.2.2.2.2.size (s.take m) (.slice p1 m c1) rfl ho1 [e] (.slice (some ⟨w1.heap.size, 0, none⟩) 1 1) rfl (one_src hEX) (by simp; omega) (s.take m ++ [e]) rfl (m + 1) (by simp; omega) ?_
                      intro p2 c2 w2 ho2 hb2' hk2
                      refine hK.out _ _ ?_ (fun hHeld2 => ?_)
                      · exact keepS5 g1 e0 e1 e2 (hHeld1.2.2.2.2.trans hb2')
                      clear hK K
                      refine wpAnyL_ready (rs := [13]) (by kernel_rfl) (by simp) ?_
                      refine AllReadyL.cons rfl (fun K hK => ?_) AllReadyL.nil
                      refine step_app rfl _ _ rfl wc.heap.size hHeld2.2.2.2.2.size (s.take m ++ [e]) (.slice p2 (m + 1) c2) rfl ho2 (s.drop m) (.slice (if csv = m then some ⟨b2, 0, none⟩ else some ⟨b2, m * 3, none⟩) (s.length - m) (csv - m)) rfl (hD _ hHeld2.2.2.2.2) (by simp; omega) (s.take m ++ [e] ++ s.drop m) rfl (s.length + 1) (by simp; omega) ?_
                      intro p3 c3 w3 ho3 hb3 hk3
                      have hb4 := hHeld2.2.2.2.2.trans hb3
                      refine hK.out _ _ ?_ (fun hHeld3 => ?_)
                      · exact keepS5 g1 e0 e1 e2 hb4
                      clear hK K
                      refine wpAnyL_take (i := 14) (v := ?_) rfl (by kernel_rfl) (by kernel_rfl) (by kernel_rfl) (by kernel_rfl) (fun _ _ _ h => h) (Or.inl ⟨by rfl, ?_⟩) (by assumption) ?_
                      rotate_left
                      · intro w hSw; (try dsimp only at hSw); go_simp; (try with_reducible rfl)
                      refine wpAnyL_ready (rs := [15]) (by kernel_rfl) (by simp) ?_
                      refine AllReadyL.last rfl (by kernel_rfl) (fun K hK => ?_)
                      have hgF := hI10.gc.go hb4
                      have gF1 := hgF.cell (j := 1) rfl
                      have fF1 := hgF.frozen 1
                      go_simp
                      refine hK.out _ _ ?_
                      clear hK K
                      refine wpAnyL_done (by kernel_rfl) ?_ _
                      have hIF := hI10.step hlt HEN.out hm hbig.out hsm.out HS.out ho3 hb4
                      go_wp2
                      exact ⟨⟨j + 1, _, _, _, by omega, by go_num, rfl, hIF⟩, by simp [intOf]; omega⟩
                    · go_simp
                      refine hK.out _ _ ?_ (fun hHeld => ?_)
                      · exact keepS5 g1 e0 e1 e2 hbAB
                      clear hK K
                      refine wpAnyL_ready (rs := [5]) (by kernel_rfl) (by simp) ?_
                      refine AllReadyL.cons rfl (fun K hK => ?_) AllReadyL.nil
                      refine step_app rfl _ _ rfl wc.heap.size hHeld.2.2.2.2.size [] (.slice (some ⟨wc.heap.size, 0, none⟩) 0 0) rfl hoAB (s.take m) (.slice (some ⟨b2, 0, none⟩) m csv) rfl (hT _ hHeld.2.2.2.2) (by simp; omega) (s.take m) (by simp) m (by simp; omega) ?_
                      intro p1 c1 w1 ho1 hb1 hk1
                      refine hK.out _ _ ?_ (fun hHeld1 => ?_)
                      · exact keepS5 g1 e0 e1 e2 (hHeld.2.2.2.2.trans hb1)
                      clear hK K
                      have hEX := (hk1 _ _ _ hEAB (by simp [Value.ownBlock])).1
                      refine wpAnyL_ready (rs := [8]) (by kernel_rfl) (by simp) ?_
                      refine AllReadyL.cons rfl (fun K hK => ?_) AllReadyL.nil
                      refine step_app rfl _ _ rfl wc.heap.size hHeld1.2.2.2.2.size (s.take m) (.slice p1 m c1) rfl ho1 [e] (.slice (some ⟨wc.heap.size + 1, 0, none⟩) 1 1) rfl (one_src hEX) (by simp; omega) (s.take m ++ [e]) rfl (m + 1) (by simp; omega) ?_
                      intro p2 c2 w2 ho2 hb2' hk2
                      refine hK.out _ _ ?_ (fun hHeld2 => ?_)
                      · exact keepS5 g1 e0 e1 e2 (hHeld1.2.2.2.2.trans hb2')
                      clear hK K
                      refine wpAnyL_ready (rs := [13]) (by kernel_rfl) (by simp) ?_
                      refine AllReadyL.cons rfl (fun K hK => ?_) AllReadyL.nil
                      refine step_app rfl _ _ rfl wc.heap.size hHeld2.2.2.2.2.size (s.take m ++ [e]) (.slice p2 (m + 1) c2) rfl ho2 (s.drop m) (.slice (if csv = m then some ⟨b2, 0, none⟩ else some ⟨b2, m * 3, none⟩) (s.length - m) (csv - m)) rfl (hD _ hHeld2.2.2.2.2) (by simp; omega) (s.take m ++ [e] ++ s.drop m) rfl (s.length + 1) (by simp; omega) ?_
                      intro p3 c3 w3 ho3 hb3 hk3
                      have hb4 := hHeld2.2.2.2.2.trans hb3
                      refine hK.out _ _ ?_ (fun hHeld3 => ?_)
                      · exact keepS5 g1 e0 e1 e2 hb4
                      clear hK K
                      refine wpAnyL_take (i := 14) (v := ?_) rfl (by kernel_rfl) (by kernel_rfl) (by kernel_rfl) (by kernel_rfl) (fun _ _ _ h => h) (Or.inl ⟨by rfl, ?_⟩) (by assumption) ?_
                      rotate_left
                      · intro w hSw; (try dsimp only at hSw); go_simp; (try with_reducible rfl)
                      refine wpAnyL_ready (rs := [15]) (by kernel_rfl) (by simp) ?_
                      refine AllReadyL.last rfl (by kernel_rfl) (fun K hK => ?_)
                      have hgF := hI10.gc.go hb4
                      have gF1 := hgF.cell (j := 1) rfl
                      have fF1 := hgF.frozen 1
                      go_simp
                      refine hK.out _ _ ?_
                      clear hK K
                      refine wpAnyL_done (by kernel_rfl) ?_ _
                      have hIF := hI10.step hlt HEN.out hm hbig.out hsm.out HS.out ho3 hb4
                      go_wp2
                      exact ⟨⟨j + 1, _, _, _, by omega, by go_num, rfl, hIF⟩, by simp [intOf]; omega⟩
                  · go_simp
                    refine hK.out _ _ ?_ (fun hHeld => ?_)
                    · exact keepS5 g1 e0 e1 e2 hbB
                    clear hK K
                    refine wpAnyL_ready (rs := [0]) (by kernel_rfl) (by simp) ?_
                    refine AllReadyL.cons rfl (fun K hK => ?_) AllReadyL.nil
                    go_simp
                    refine hK.out _ _ ?_ (fun hHeld => ?_)
                    · exact keepS5 g1 e0 e1 e2 hbBA
                    clear hK K
                    refine wpAnyL_ready (rs := [5]) (by kernel_rfl) (by simp) ?_
                    refine AllReadyL.cons rfl (fun K hK => ?_) AllReadyL.nil
                    refine step_app rfl _ _ rfl wc.heap.size hHeld.2.2.2.2.size [] (.slice (some ⟨wc.heap.size + 1, 0, none⟩) 0 0) rfl hoBA (s.take m) (.slice (some ⟨b2, 0, none⟩) m csv) rfl (hT _ hHeld.2.2.2.2) (by simp; omega) (s.take m) (by simp) m (by simp; omega) ?_
                    intro p1 c1 w1 ho1 hb1 hk1
                    refine hK.out _ _ ?_ (fun hHeld1 => ?_)
                    · exact keepS5 g1 e0 e1 e2 (hHeld.2.2.2.2.trans hb1)
                    clear hK K
                    have hEX := (hk1 _ _ _ hEBA (by simp [Value.ownBlock])).1
                    refine wpAnyL_ready (rs := [8]) (by kernel_rfl) (by simp) ?_
                    refine AllReadyL.cons rfl (fun K hK => ?_) AllReadyL.nil
                    refine step_app rfl _ _ rfl wc.heap.size hHeld1.2.2.2.2.size (s.take m) (.slice p1 m c1) rfl ho1 [e] (.slice (some ⟨wc.heap.size, 0, none⟩) 1 1) rfl (one_src hEX) (by simp; omega) (s.take m ++ [e]) rfl (m + 1) (by simp; omega) ?_
                    intro p2 c2 w2 ho2 hb2' hk2
                    refine hK.out _ _ ?_ (fun hHeld2 => ?_)
                    · exact keepS5 g1 e0 e1 e2 (hHeld1.2.2.2.2.trans hb2')
                    clear hK K
                    refine wpAnyL_ready (rs := [13]) (by kernel_rfl) (by simp) ?_
                    refine AllReadyL.cons rfl (fun K hK => ?_) AllReadyL.nil
                    refine step_app rfl _ _ rfl wc.heap.size hHeld2.2.2.2.2.size (s.take m ++ [e]) (.slice p2 (m + 1) c2) rfl ho2 (s.drop m) (.slice (if csv = m then some ⟨b2, 0, none⟩ else some ⟨b2, m * 3, none⟩) (s.length - m) (csv - m)) rfl (hD _ hHeld2.2.2.2.2) (by simp; omega) (s.take m ++ [e] ++ s.drop m) rfl (s.length + 1) (by simp; omega) ?_
                    intro p3 c3 w3 ho3 hb3 hk3
                    have hb4 := hHeld2.2.2.2.2.trans hb3
                    refine hK.out _ _ ?_ (fun hHeld3 => ?_)
                    · exact keepS5 g1 e0 e1 e2 hb4
                    clear hK K
                    refine wpAnyL_take (i := 14) (v := ?_) rfl (by kernel_rfl) (by kernel_rfl) (by kernel_rfl) (by kernel_rfl) (fun _ _ _ h => h) (Or.inl ⟨by rfl, ?_⟩) (by assumption) ?_
                    rotate_left
                    · intro w hSw; (try dsimp only at hSw); go_simp; (try with_reducible rfl)
                    refine wpAnyL_ready (rs := [15]) (by kernel_rfl) (by simp) ?_
                    refine AllReadyL.last rfl (by kernel_rfl) (fun K hK => ?_)
                    have hgF := hI10.gc.go hb4
                    have gF1 := hgF.cell (j := 1) rfl
                    have fF1 := hgF.frozen 1
                    go_simp
                    refine hK.out _ _ ?_
                    clear hK K
                    refine wpAnyL_done (by kernel_rfl) ?_ _
                    have hIF := hI10.step hlt HEN.out hm hbig.out hsm.out HS.out ho3 hb4
                    go_wp2
                    exact ⟨⟨j + 1, _, _, _, by omega, by go_num, rfl, hIF⟩, by simp [intOf]; omega⟩
        · have HF : Hid (firstK n l = edgeK n l[j]) := by
            have h2 := HST.out
            rw [if_neg hk] at h2
            exact h2.symm
          have HE : Hid (makeK n l = edgeK n l[j]) := by unfold Hid makeK; rw [if_pos HM.out, HF.out, if_neg hk]
          have HN : Hid (makeN n l = 0) := by unfold Hid makeN; rw [HE.out, if_neg hk]
          have HL : Hid (makeL n l = []) := by unfold Hid makeL; rw [HE.out, if_neg hk]
          have hb7 := hI7.res
          have f0 := hb7.frozen 0
          have f1 := hb7.frozen 1
          have d0 := hb7.cell (j := 0) rfl
          have d1 := hb7.cell (j := 1) rfl
          generalize edgeK n l[j] = k at HE hk
          have hk' : (k == 0) = false := by simpa using hk
          clear HST hk HF
          go_wp2
          have hbf := (hb7.set 0 (.int .i64 0)).set 1 (.slice none 0 0)
          (try simp only [Exit.inBlock, Exit.then])
          refine bodyPost_ret (ret_graph rfl (by rfl) (hbf.cell (j := 0) rfl) (hbf.cell (j := 1) rfl)) rfl ?_
          exact ⟨.slice none 0 0, by rw [HE.out, HN.out]; rfl, by rw [HL.out]; exact Edges.nil _ _ _ _, (hI7.bel.setCell (p := ⟨w.heap.size, 0, none⟩) (Nat.le_refl _) _).setCell (p := ⟨w.heap.size, 1, none⟩) (Nat.le_refl _) _⟩
      · obtain rfl : j = l.length := by omega
        have HF : Hid (firstK n l = 0) := by have := hI.fst; rw [firstK_end] at this; exact this.symm
        have hpm := hI.perm
        rw [List.take_length] at hpm
        have hb7 := hI.res
        have f0 := hb7.frozen 0
        have f1 := hb7.frozen 1
        have d0 := hb7.cell (j := 0) rfl
        have d1 := hb7.cell (j := 1) rfl
        cases tw with
        | true =>
          have hna : ¬ Alone (l.map norm) := fun h => by
            have h2 := hI.tws.2 ((alone_perm hpm).2 h)
            cases h2
          have HE : Hid (makeK n l = 7) := by unfold Hid makeK; rw [if_pos HM.out, if_pos HF.out, if_neg hna]
          have HN : Hid (makeN n l = 0) := by unfold Hid makeN; rw [HE.out]; rfl
          have HL : Hid (makeL n l = []) := by unfold Hid makeL; rw [HE.out]; rfl
          clear hna hpm
          go_wp2
          have hbf := (hb7.set 0 (.int .i64 0)).set 1 (.slice none 0 0)
          (try simp only [Exit.inBlock, Exit.then])
          refine bodyPost_ret (ret_graph rfl (by rfl) (hbf.cell (j := 0) rfl) (hbf.cell (j := 1) rfl)) rfl ?_
          exact ⟨.slice none 0 0, by rw [HE.out, HN.out]; rfl, by rw [HL.out]; exact Edges.nil _ _ _ _, (hI.bel.setCell (p := ⟨w.heap.size, 0, none⟩) (Nat.le_refl _) _).setCell (p := ⟨w.heap.size, 1, none⟩) (Nat.le_refl _) _⟩
        | false =>
          have has := hI.tws.1 rfl
          have HA : Hid (Alone (l.map norm)) := (alone_perm hpm).1 has
          have HE : Hid (makeK n l = 0) := by unfold Hid makeK; rw [if_pos HM.out, if_pos HF.out, if_pos HA.out]
          have HN : Hid (makeN n l = n) := by unfold Hid makeN; rw [HE.out]; rfl
          have HL : Hid (makeL n l = s) := by unfold Hid makeL; rw [HE.out, if_pos rfl]; exact (srt_eq hpm (weak_strict hI.weak has)).symm
          obtain ⟨psv, csv, rfl⟩ := owns_form hI.own
          have k0 := hI.gc.cell (j := 0) rfl
          have k1 := hI.gc.cell (j := 1) rfl
          have hEd := Edges.of_owns hI.own
          have hAb := Above.of_owns hI.own
          clear has hpm
          go_wp2
          have hbf := (hb7.set 0 (.int .i64 n)).set 1 (.slice psv s.length csv)
          (try simp only [Exit.inBlock, Exit.then])
          refine bodyPost_ret (ret_graph rfl (by rfl) (hbf.cell (j := 0) rfl) (hbf.cell (j := 1) rfl)) rfl ?_
          refine ⟨.slice psv s.length csv, by rw [HE.out, HN.out]; rfl, ?_, (hI.bel.setCell (p := ⟨w.heap.size, 0, none⟩) (Nat.le_refl _) _).setCell (p := ⟨w.heap.size, 1, none⟩) (Nat.le_refl _) _⟩
          rw [HL.out]
          exact (hEd.setLow hAb (by simp) _).setLow hAb (by simp) _
  · have hS := fun W => refMany_any n l.length W
    have HE : Hid (makeK n l = manyK n l.length) := by unfold Hid makeK; rw [if_neg hm]
    have HN : Hid (makeN n l = 0) := by unfold Hid makeN; rw [HE.out, if_neg hm]
    have HL : Hid (makeL n l = []) := by unfold Hid makeL; rw [HE.out, if_neg hm]
    generalize manyK n l.length = k at hS hm HE
    have hk' : (k == 0) = false := by simpa using hm
    clear hm
    have hB1 : Blk 24 (w.alloc (.cells #[.int .i64 0, .slice none 0 0] 24)) w.heap.size [.int .i64 0, .slice none 0 0] := heap_alloc_new w _
    go_enter Try.func17, Try.ntmps17
    go_wp2_with fail
    refine (hS _).mono ?_
    rintro e w1 ⟨rfl, rfl⟩
    clear hS
    go_wp2
    (try simp only [Exit.inBlock, Exit.then])
    refine bodyPost_ret (ret_graph rfl (by rfl) (hB1.cell (j := 0) rfl) (hB1.cell (j := 1) rfl)) rfl ?_
    exact ⟨.slice none 0 0, by rw [HE.out, HN.out]; rfl, by rw [HL.out]; exact Edges.nil _ _ _ _, ((Grew.refl w).alloc _).below⟩

end Go.Proofs.Ytgjaikekpgdehaa
