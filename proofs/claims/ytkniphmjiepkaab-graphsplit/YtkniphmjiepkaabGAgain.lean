/-
  The walk of filigreelaw04.GraphAgain.
-/
import Derived.Test.YtkniphmjiepkaabGStay
import Derived.Test.YtkniphmjiepkaabGSame
import Derived.Test.YtkniphmjiepkaabGVals
namespace Go.Proofs.Ytkniphmjiepkaab
open Go Go.Proofs Go.RowKit

/-! ### Edges in another order, with their ends in another order -/
def flip (e : Ed) : Ed := (e.2.1, e.1, e.2.2)
theorem norm_flip (e : Ed) : norm (flip e) = norm e := by
  simp only [norm, flip, Int.min_comm, Int.max_comm]
structure Shuf (n : Int) (l l' : List Ed) : Prop where
  len : l'.length = l.length
  perm : (l'.map norm).Perm (l.map norm)
  ok : ∀ e ∈ l', okE n e
theorem Shuf.start {n : Int} {l : List Ed} (h : RightG n l) : Shuf n l l := ⟨rfl, .refl _, fun e he => (h.each e he).1⟩
theorem swap_perm {α : Type} {l : List α} {x y : Nat} (hx : x < l.length) (hy : y < l.length) : ((l.set x l[y]).set y l[x]).Perm l := by
  have h := Array.swap_perm (xs := l.toArray) (i := x) (j := y) (by simpa using hx) (by simpa using hy)
  have h2 : (l.toArray.swap x y (by simpa using hx) (by simpa using hy)).toList = (l.set x l[y]).set y l[x] := by simp [Array.swap]
  rw [← h2]
  simpa using h.toList
/-- Two places exchanged, then the ends at the first one. -/
def turn (l : List Ed) (x y : Nat) : List Ed := ((l.set x (l[y]?.getD (0, 0, 0))).set y (l[x]?.getD (0, 0, 0))).set x (flip (((l.set x (l[y]?.getD (0, 0, 0))).set y (l[x]?.getD (0, 0, 0)))[x]?.getD (0, 0, 0)))
theorem flip_ok {n : Int} {e : Ed} (h : okE n e) : okE n (flip e) := by unfold okE flip at *; simp only; omega
theorem Shuf.turn {n : Int} {l l' : List Ed} (h : Shuf n l l') {x y : Nat} (hx : x < l'.length) (hy : y < l'.length) : Shuf n l (turn l' x y) := by
  have e1 : l'[y]?.getD (0, 0, 0) = l'[y] := by simp [hy]
  have e2 : l'[x]?.getD (0, 0, 0) = l'[x] := by simp [hx]
  unfold Go.Proofs.Ytkniphmjiepkaab.turn
  rw [e1, e2]
  have hp := swap_perm hx hy
  generalize hm : (l'.set x l'[y]).set y l'[x] = m at hp
  have hml : m.length = l'.length := hp.length_eq
  have hxm : x < m.length := by omega
  have e3 : m[x]?.getD (0, 0, 0) = m[x] := by simp [hxm]
  rw [e3]
  refine ⟨by rw [List.length_set, hml, h.len], ?_, ?_⟩
  · rw [List.map_set, norm_flip]
    have : (m.map norm).set x (norm m[x]) = m.map norm := by
      apply List.ext_getElem
      · simp
      · intro i h1 h2
        rw [List.getElem_set]
        split
        · rename_i he; subst he; simp
        · rfl
    rw [this]
    exact (hp.map norm).trans h.perm
  · intro e he
    rcases List.mem_or_eq_of_mem_set he with he | he
    · exact h.ok e (hp.mem_iff.1 he)
    · rw [he]; exact flip_ok (h.ok _ (hp.mem_iff.1 (List.getElem_mem hxm)))
theorem Shuf.made {n : Int} {l l' : List Ed} (hR : RightG n l) (h : Shuf n l l') : makeK n l' = 0 ∧ makeN n l' = n ∧ makeL n l' = l := by
  have hid : l.map norm = l := by
    conv => rhs; rw [← List.map_id l]
    exact List.map_congr_left fun e he => norm_id (hR.each e he).2
  obtain ⟨h1, h2⟩ := make_again hR (by rw [← hid]; exact h.perm) h.ok
  exact ⟨h1, by unfold makeN; rw [if_pos h1], by unfold makeL; rw [if_pos h1, h2]⟩

/-! ### Cells -/
theorem Edges.news {n : Nat} {W : World} {b off c len : Nat} {l : List Ed} (h : Edges n W (.slice (some ⟨b, off, none⟩) len c) l) (hn : 0 < l.length) : ∀ (i : Nat) (u : Value), (flat l)[i]? = some u → W.cell? ((⟨b, off, none⟩ : Addr).add i) = some u := by
  rcases h with ⟨_, rfl⟩ | ⟨b', off', cap, h1, h2, h3, h4⟩
  · simp at hn
  · simp only [Value.slice.injEq, Option.some.injEq, Addr.mk.injEq] at h1
    obtain ⟨⟨rfl, rfl, _⟩, _, _⟩ := h1
    intro i u hu
    rw [Go.WideShapes.add_plain]
    have hi := (List.getElem?_eq_some_iff.1 hu).1
    rw [flat_len] at hi
    have hq : i / 3 < l.length := by omega
    have hat := flat_at (List.getElem?_eq_getElem hq)
    obtain ⟨c0, c1, c2⟩ := h4 (i / 3) _ (List.getElem?_eq_getElem hq)
    have hm : i % 3 < 3 := Nat.mod_lt _ (by omega)
    have hi3 : i = i / 3 * 3 + i % 3 := by omega
    generalize i / 3 = q at *
    generalize i % 3 = r at *
    subst hi3
    match r, hm with
    | 0, _ => rw [Nat.add_zero, hat.1] at hu; cases hu; exact c0
    | 1, _ => rw [hat.2.1] at hu; cases hu; exact c1
    | 2, _ => rw [hat.2.2] at hu; cases hu; exact c2
theorem flat_one (l : List Ed) : ∀ u ∈ flat l, u.oneCell' = true := by
  intro u hu
  obtain ⟨e, _, he⟩ := List.mem_flatMap.1 hu
  exact one3 e u he
theorem owns_empty {w : World} {base : Nat} {e : TypeId} {k : Nat} (h : w.heap[k]? = some (.cells #[] e (0, 0))) (hb : base ≤ k) : w.ownsRow base e 3 (.slice (some ⟨k, 0, none⟩) 0 0) 0 (flat []) :=
  ⟨rfl, .inr ⟨k, 0, #[], rfl, hb, h, Nat.le_refl _, Nat.zero_le _, rfl, rfl⟩⟩
/-- An owned row of edges, as a block: its edges, then what room there is. -/
theorem owns_blk {w : World} {base : Nat} {e : TypeId} {v : Value} {l : List Ed} (h : w.ownsRow base e 3 v l.length (flat l)) (hn : 0 < l.length) :
    ∃ g cap rest, v = .slice (some ⟨g, 0, none⟩) l.length cap ∧ base ≤ g ∧ l.length ≤ cap ∧ Blk e w g (flat l ++ rest) := by
  rcases h.2 with ⟨_, h0⟩ | ⟨g, cap, cur, hv, hb, hg, hn', hc, hsz, ht⟩
  · omega
  · refine ⟨g, cap, cur.toList.drop (l.length * 3), hv, hb, hn', ?_⟩
    unfold Blk
    rw [hg, ← ht, List.take_append_drop]
theorem set_room {l : List Ed} {rest : List Value} {j : Nat} (hj : j < l.length) (x : Ed) : ((((flat l ++ rest).set (j * 3) (.int .i64 x.1)).set (j * 3 + 1) (.int .i64 x.2.1)).set (j * 3 + 2) (.int .i64 x.2.2)) = flat (l.set j x) ++ rest := by
  have hf := flat_len l
  rw [List.set_append_left _ _ (by rw [hf]; omega), List.set_append_left _ _ (by rw [List.length_set, hf]; omega), List.set_append_left _ _ (by rw [List.length_set, List.length_set, hf]; omega), flat_set]
theorem flat_room {l : List Ed} {rest : List Value} {j : Nat} {x : Ed} (h : l[j]? = some x) : (flat l ++ rest)[j * 3]? = some (.int .i64 x.1) ∧ (flat l ++ rest)[j * 3 + 1]? = some (.int .i64 x.2.1) ∧ (flat l ++ rest)[j * 3 + 2]? = some (.int .i64 x.2.2) := by
  have hj := (List.getElem?_eq_some_iff.1 h).1
  have hf := flat_len l
  obtain ⟨h0, h1, h2⟩ := flat_at h
  exact ⟨by rw [List.getElem?_append_left (by omega)]; exact h0, by rw [List.getElem?_append_left (by omega)]; exact h1, by rw [List.getElem?_append_left (by omega)]; exact h2⟩
theorem Blk.drew {t : TypeId} {W : World} {g : Nat} {vs : List Value} (h : Blk t W g vs) : Blk t W.drew g vs := h
theorem Below.drew' {n : Nat} {A W : World} (h : Below n A W) : Below n A W.drew := below_drewN h 1
theorem Blk.edges_room {W : World} {g cap : Nat} {l : List Ed} {rest : List Value} {t : TypeId} (h : Blk t W g (flat l ++ rest)) (hc : l.length ≤ cap) : Edges W.heap.size W (.slice (some ⟨g, 0, none⟩) l.length cap) l :=
  .inr ⟨g, 0, cap, rfl, h.lt, hc, fun j x hx => by
    simp only [Nat.zero_add]
    exact ⟨h.cell (flat_room hx).1, h.cell (flat_room hx).2.1, h.cell (flat_room hx).2.2⟩⟩


set_option maxRecDepth 100000 in
set_option maxHeartbeats 4000000 in
theorem again_walk (n : Int) (l : List Ed) (a b : List Int) (sv sa sb : Value) (w : World) (hl : Edges w.heap.size w sv l) (hA : Ints w.heap.size w sa a) (hBs : Ints w.heap.size w sb b) :
    Calls Try.prog 3 #[.agg #[.int .i64 n, sv], sa, sb] w fun r w' => r = .returned (.bool true) ∧ Below w.heap.size w w' := by
  have hmix := mixed
  have hg1 : Grew w (w.alloc (.cells #[.int .i64 n, sv] 24)) := (Grew.refl w).alloc _
  have hl1 := hl.go hg1.below
  obtain ⟨p, c, rfl⟩ := hl.len
  obtain ⟨pa, ca, rfl⟩ := hA.len
  obtain ⟨pb, cb, rfl⟩ := hBs.len
  obtain ⟨i0, hi, hz0, hz1, hz2⟩ := info_parts infoE
  have hlt := light_any n l 100 (by omega) (by omega) _ _ hl1
  by_cases hgo : lightB n l 100 = true ∧ (a.length : Int) ≤ 100 ∧ l.length ≠ 0
  · obtain ⟨hli, hal, hl0⟩ := hgo
    rw [hli] at hlt
    obtain ⟨hn100, hl100⟩ := lightB_true hli
    have hrc := right_any n l (.slice p l.length c)
    have hlz : ((l.length : Int) == 0) = false := by rw [beq_eq_false_iff_ne]; omega
    have hd : decide ((100 : Int) < (a.length : Int)) = false := by simpa using hal
    by_cases hr : rightK n l = 0
    · have hR := right_iff.1 hr
      rw [hr] at hrc
      go_enter Try.func3, Try.ntmps3
      go_wp2_with fail
      refine hlt.mono ?_
      rintro e w2 ⟨rfl, hg2⟩
      have hl2 := hl1.go hg2.below
      have q0 := (box2 _ hg2).1
      have q1 := (box2 _ hg2).2
      clear hlt
      go_wp2_with fail
      refine (hrc _ hl2).mono ?_
      rintro e w3 ⟨rfl, hg3⟩
      have hl3 := hl2.go hg3.below
      replace q0 := cell_keep hg3.below q0
      replace q1 := cell_keep hg3.below q1
      have hbw := ((hg1.trans hg2).trans hg3).below
      have hbx := box2_lt (hg2.trans hg3)
      obtain ⟨bb, off, rfl, hbb, hcap, -, -⟩ := hl.open (j := 0) (by omega)
      have hnews := (hl3.go ((Grew.refl w3).alloc (.cells #[] 33)).below).news (by omega)
      have hone := flat_one l
      have hown0 : (w3.alloc (.cells #[] 33)).ownsRow w3.heap.size 33 3 (.slice (some ⟨w3.heap.size, 0, none⟩) 0 0) 0 (flat []) := owns_empty (heap_alloc_new w3 _) (Nat.le_refl _)
      have hmx : 0 + l.length ≤ maxLen := by unfold maxLen; omega
      have hby : (0 + l.length) * 24 ≤ 140737488355328 := by omega
      have hbs : w3.heap.size ≤ (w3.alloc (.cells #[] 33)).heap.size := by simp
      clear hrc hl1 hl2 hg2 hg3 hr hg1
      go_wp2_with (at_builtin; refine wpList_append_own_at _ rfl _ _ 22 rfl w3.heap.size 33 i0 (.agg #[.int .i64 0, .int .i64 0, .int .i64 0]) 3 24 Try.underlying22 hi hz0 hz1 hz2 (by simp [Value.cells]) (by decide) (.slice (some ⟨w3.heap.size, 0, none⟩) 0 0) 0 (flat []) rfl hown0 ⟨bb, off, none⟩ l.length c (flat l) rfl (flat_len l) hnews hone hmx hby hbs ?_; intro v6 w6 hown6 hgrow6 hnil6 hat6)
      have hb6 : Below w3.heap.size w3 w6 := ((Below.refl _ _).alloc (Nat.le_refl _) _).grown hgrow6 hbs (fun k e => by cases e; exact Nat.le_refl _)
      have hown7 : w6.ownsRow w3.heap.size 33 3 v6 l.length (flat l) := by simpa [flat] using hown6
      obtain ⟨g, cap, rest, rfl, hbg, hcg, hB⟩ := owns_blk hown7 (by omega)
      have hbw6 := hbw.trans (hb6.mono hbw.size)
      replace q0 := cell_keep hb6 q0
      replace q1 := cell_keep hb6 q1
      have hgw : w.heap.size < g := by omega
      clear hown6 hown7 hgrow6 hnil6 hat6 hown0 hnews hone hmx hby hbs hl3 hi hz0 hz1 hz2 hb6 hbw hbg
      go_loopw [12] (fun i wr => ∃ (j : Nat) (l' : List Ed), j ≤ a.length ∧ i = .int .i64 j ∧ Shuf n l l' ∧ Blk 33 wr g (flat l' ++ rest) ∧ Below g w6 wr) (fun i _ => a.length - (intOf i).toNat)
      case atStart => exact ⟨0, l, Nat.zero_le _, rfl, Shuf.start hR, hB, Below.refl _ _⟩
      case round =>
        obtain ⟨j, l', hj, rfl, hs, hG, hb⟩ := hrel
        have hbwr := hbw6.trans (hb.mono (by omega))
        have hgl := hG.lt
        by_cases hjj : j < a.length ∧ j < b.length
        · obtain ⟨hja, hjb⟩ := hjj
          obtain ⟨ba, offa, rfl, hba, hcapa, hca⟩ := hA.open hja
          obtain ⟨b2, off2, rfl, hb2, hcap2, hc2⟩ := hBs.open hjb
          have c0 := hca wr hbwr j hja
          have c1 := hc2 wr hbwr j hjb
          have h1 : (j : Int) < (a.length : Int) := by omega
          have h2 : (j : Int) < (b.length : Int) := by omega
          clear hca hc2
          go_wp2
          go_quiet (fail)
          have hxb : (a[j].tmod (l.length : Int)) < (l.length : Int) := Int.tmod_lt_of_pos _ (by omega)
          have hyb : (b[j].tmod (l.length : Int)) < (l.length : Int) := Int.tmod_lt_of_pos _ (by omega)
          have hGq : Blk 33 (wr.drewN nq) g (flat l' ++ rest) := hG
          have hbq : Below g w6 (wr.drewN nq) := below_drewN hb nq
          have hgq : g < (wr.drewN nq).heap.size := hgl
          generalize a[j].tmod (l.length : Int) = x at hxb ⊢
          generalize b[j].tmod (l.length : Int) = y at hyb ⊢
          generalize wr.drewN nq = w8 at hGq hbq hgq ⊢
          clear hG hb c0 c1 hbwr
          by_cases hx0 : x < 0
          · go_wp2
            exact ⟨⟨j + 1, l', by omega, by go_num, hs, hGq, hbq⟩, by simp [intOf]; omega⟩
          · by_cases hy0 : y < 0
            · have hxd : decide (x < 0) = false := by simpa using hx0
              go_wp2
              exact ⟨⟨j + 1, l', by omega, by go_num, hs, hGq, hbq⟩, by simp [intOf]; omega⟩
            · obtain ⟨x, rfl⟩ : ∃ z : Nat, x = (z : Int) := ⟨x.toNat, by omega⟩
              obtain ⟨y, rfl⟩ : ∃ z : Nat, y = (z : Int) := ⟨y.toNat, by omega⟩
              have HSL : Hid (l'.length = l.length) := hs.len
              have hxl : x < l'.length := by have := HSL.out; omega
              have hyl : y < l'.length := by have := HSL.out; omega
              obtain ⟨x0, x1, x2⟩ := flat_room (rest := rest) (List.getElem?_eq_getElem hxl)
              obtain ⟨y0, y1, y2⟩ := flat_room (rest := rest) (List.getElem?_eq_getElem hyl)
              replace x0 := hGq.cell x0
              replace x1 := hGq.cell x1
              replace x2 := hGq.cell x2
              replace y0 := hGq.cell y0
              replace y1 := hGq.cell y1
              replace y2 := hGq.cell y2
              have fz := hGq.frozen
              have fx0 := fz (x * 3)
              have fx1 := fz (x * 3 + 1)
              have fx2 := fz (x * 3 + 2)
              have fy0 := fz (y * 3)
              have fy1 := fz (y * 3 + 1)
              have fy2 := fz (y * 3 + 2)
              have hG1 : Blk 33 (((w8.setCell ⟨g, x * 3, none⟩ (.int .i64 l'[y].1)).setCell ⟨g, x * 3 + 1, none⟩ (.int .i64 l'[y].2.1)).setCell ⟨g, x * 3 + 2, none⟩ (.int .i64 l'[y].2.2)) g (flat (l'.set x l'[y]) ++ rest) := by
                have h := ((hGq.set (x * 3) (.int .i64 l'[y].1)).set (x * 3 + 1) (.int .i64 l'[y].2.1)).set (x * 3 + 2) (.int .i64 l'[y].2.2)
                rwa [set_room hxl] at h
              have hy1 : (l'.set x l'[y])[y]? = some l'[y] := by
                rw [List.getElem?_set]
                split
                · rename_i e; subst e; simp
                · exact List.getElem?_eq_getElem hyl
              obtain ⟨z0, z1, z2⟩ := flat_room (rest := rest) hy1
              replace z0 := hG1.cell z0
              replace z1 := hG1.cell z1
              replace z2 := hG1.cell z2
              have fz1 := hG1.frozen
              have gz0 := fz1 (y * 3)
              have gz1 := fz1 (y * 3 + 1)
              have gz2 := fz1 (y * 3 + 2)
              clear fz hx0 hy0 fz1
              go_wp2
              go_big_region_o
              have hG2 : Blk 33 (((((((((w8).setCell ⟨g, x * 3, none⟩ (.int .i64 l'[y].1)).setCell ⟨g, x * 3 + 1, none⟩ (.int .i64 l'[y].2.1)).setCell ⟨g, x * 3 + 2, none⟩ (.int .i64 l'[y].2.2))).setCell ⟨g, y * 3, none⟩ (.int .i64 l'[x].1)).setCell ⟨g, y * 3 + 1, none⟩ (.int .i64 l'[x].2.1)).setCell ⟨g, y * 3 + 2, none⟩ (.int .i64 l'[x].2.2)).drew) g (flat ((l'.set x l'[y]).set y l'[x]) ++ rest) := by
                have h := ((hG1.set (y * 3) (.int .i64 l'[x].1)).set (y * 3 + 1) (.int .i64 l'[x].2.1)).set (y * 3 + 2) (.int .i64 l'[x].2.2)
                rw [set_room (by simpa using hyl)] at h
                exact h.drew
              have hb2' : Below g w6 (((((((((w8).setCell ⟨g, x * 3, none⟩ (.int .i64 l'[y].1)).setCell ⟨g, x * 3 + 1, none⟩ (.int .i64 l'[y].2.1)).setCell ⟨g, x * 3 + 2, none⟩ (.int .i64 l'[y].2.2))).setCell ⟨g, y * 3, none⟩ (.int .i64 l'[x].1)).setCell ⟨g, y * 3 + 1, none⟩ (.int .i64 l'[x].2.1)).setCell ⟨g, y * 3 + 2, none⟩ (.int .i64 l'[x].2.2)).drew) := Below.drew' ((((((hbq.setCell (p := ⟨g, _, none⟩) (Nat.le_refl _) _).setCell (p := ⟨g, _, none⟩) (Nat.le_refl _) _).setCell (p := ⟨g, _, none⟩) (Nat.le_refl _) _).setCell (p := ⟨g, _, none⟩) (Nat.le_refl _) _).setCell (p := ⟨g, _, none⟩) (Nat.le_refl _) _).setCell (p := ⟨g, _, none⟩) (Nat.le_refl _) _)
              generalize ((((((((w8).setCell ⟨g, x * 3, none⟩ (.int .i64 l'[y].1)).setCell ⟨g, x * 3 + 1, none⟩ (.int .i64 l'[y].2.1)).setCell ⟨g, x * 3 + 2, none⟩ (.int .i64 l'[y].2.2))).setCell ⟨g, y * 3, none⟩ (.int .i64 l'[x].1)).setCell ⟨g, y * 3 + 1, none⟩ (.int .i64 l'[x].2.1)).setCell ⟨g, y * 3 + 2, none⟩ (.int .i64 l'[x].2.2)).drew = w9 at hG2 hb2' ⊢
              have hmE : Hid ((l'.set x (l'[y]?.getD (0, 0, 0))).set y (l'[x]?.getD (0, 0, 0)) = (l'.set x l'[y]).set y l'[x]) := by simp [Hid, hxl, hyl]
              have hml : x < ((l'.set x l'[y]).set y l'[x]).length := by simpa using hxl
              have hsh := hs.turn hxl hyl
              unfold turn at hsh
              rw [hmE.out] at hsh
              generalize (l'.set x l'[y]).set y l'[x] = m at hG2 hml hsh
              have e3 : m[x]?.getD (0, 0, 0) = m[x] := by simp [hml]
              rw [e3] at hsh
              obtain ⟨m0, m1, m2⟩ := flat_room (rest := rest) (List.getElem?_eq_getElem hml)
              replace m0 := hG2.cell m0
              replace m1 := hG2.cell m1
              replace m2 := hG2.cell m2
              have fz := hG2.frozen
              have gx0 := fz (x * 3)
              have gx1 := fz (x * 3 + 1)
              have gx2 := fz (x * 3 + 2)
              clear fz x0 x1 x2 y0 y1 y2 fx0 fx1 fx2 fy0 fy1 fy2 z0 z1 z2 gz0 gz1 gz2 hG1 hGq e3
              go_wp2
              go_big_region_o
              go_wp2
              have hG3 := ((hG2.set (x * 3) (.int .i64 (flip m[x]).1)).set (x * 3 + 1) (.int .i64 (flip m[x]).2.1)).set (x * 3 + 2) (.int .i64 (flip m[x]).2.2)
              rw [set_room hml] at hG3
              refine ⟨⟨j + 1, m.set x (flip m[x]), by omega, by go_num, hsh, hG3.drew, ?_⟩, by simp [intOf]; omega⟩
              exact Below.drew' (((hb2'.setCell (p := ⟨g, _, none⟩) (Nat.le_refl _) _).setCell (p := ⟨g, _, none⟩) (Nat.le_refl _) _).setCell (p := ⟨g, _, none⟩) (Nat.le_refl _) _)
        · have HSL : Hid (l'.length = l.length) := hs.len
          have hgl2 := hG
          obtain ⟨hk0, hn0, hl0'⟩ := hs.made hR
          have hEd := hG.edges_room (cap := cap) (by have := HSL.out; omega)
          have hmk := make_any n l' _ _ hEd
          rw [HSL.out, hk0, hn0, hl0'] at hmk
          have d0 := (hb.cell (p := ⟨w.heap.size, 0, none⟩) hgw).trans q0
          have d1 := (hb.cell (p := ⟨w.heap.size, 1, none⟩) hgw).trans q1
          have hcond : (decide ((j : Int) < (a.length : Int)) && decide ((j : Int) < (b.length : Int))) = false := by
            simp; omega
          clear hk0 hn0 hl0' hEd
          by_cases hja : (j : Int) < (a.length : Int)
          · have hjb : ¬ (j : Int) < (b.length : Int) := by omega
            go_wp2_with fail
            refine hmk.mono ?_
            rintro e w7 ⟨gv, rfl, hgE, hb7⟩
            have hbw7 := below_keep hb7 hbwr (Nat.le_refl _)
            have hl7 := hl.go hbw7
            have e0 := cell_keep hb7 d0
            have e1 := cell_keep hb7 d1
            obtain ⟨pp, cc, rfl⟩ := hgE.len
            have hg8 : Grew w7 (w7.alloc (.cells #[.int .i64 n, .slice pp l.length cc] 24)) := (Grew.refl _).alloc _
            have hsame : decide (n = n ∧ l = l) = true := by simp
            have hbb7 : w.heap.size < w7.heap.size := World.block_lt_of_cell? w7 ⟨w.heap.size, 0, none⟩ e0
            have hls : l.length ≤ 4194304 := by omega
            have hS1 := fun W h1 h2 => refSame_any n n l l hls (.slice (some ⟨bb, off, none⟩) l.length c) (.slice pp l.length cc) W h1 h2
            have hS2 := fun W h1 h2 => same_any n n l l hls (.slice (some ⟨bb, off, none⟩) l.length c) (.slice pp l.length cc) W h1 h2
            rw [hsame] at hS1 hS2
            clear hmk d0 d1 hcond hG hb
            go_wp2_with fail
            refine (hS1 _ (hl7.go hg8.below) (hgE.go hg8.below)).mono ?_
            rintro e w9 ⟨rfl, hg9⟩
            have x0 := cell_keep (hg8.trans hg9).below e0
            have x1 := cell_keep (hg8.trans hg9).below e1
            obtain ⟨y0, y1⟩ := box2 _ hg9
            clear hS1
            go_wp2_with fail
            refine (hS2 _ (hl7.go (hg8.trans hg9).below) (hgE.go (hg8.trans hg9).below)).mono ?_
            rintro e w10 ⟨rfl, hg10⟩
            clear hS2 x0 x1 y0 y1
            go_wp2_with fail
            refine (alive_any _).mono ?_
            rintro e w11 ⟨rfl, hb11⟩
            go_wp2
            go_ret
            exact ⟨rfl, below_keep hb11 (below_keep ((hg8.trans hg9).trans hg10).below hbw7 (Nat.le_refl _)) (Nat.le_refl _)⟩
          · go_wp2_with fail
            refine hmk.mono ?_
            rintro e w7 ⟨gv, rfl, hgE, hb7⟩
            have hbw7 := below_keep hb7 hbwr (Nat.le_refl _)
            have hl7 := hl.go hbw7
            have e0 := cell_keep hb7 d0
            have e1 := cell_keep hb7 d1
            obtain ⟨pp, cc, rfl⟩ := hgE.len
            have hg8 : Grew w7 (w7.alloc (.cells #[.int .i64 n, .slice pp l.length cc] 24)) := (Grew.refl _).alloc _
            have hsame : decide (n = n ∧ l = l) = true := by simp
            have hbb7 : w.heap.size < w7.heap.size := World.block_lt_of_cell? w7 ⟨w.heap.size, 0, none⟩ e0
            have hls : l.length ≤ 4194304 := by omega
            have hS1 := fun W h1 h2 => refSame_any n n l l hls (.slice (some ⟨bb, off, none⟩) l.length c) (.slice pp l.length cc) W h1 h2
            have hS2 := fun W h1 h2 => same_any n n l l hls (.slice (some ⟨bb, off, none⟩) l.length c) (.slice pp l.length cc) W h1 h2
            rw [hsame] at hS1 hS2
            clear hmk d0 d1 hcond hG hb
            go_wp2_with fail
            refine (hS1 _ (hl7.go hg8.below) (hgE.go hg8.below)).mono ?_
            rintro e w9 ⟨rfl, hg9⟩
            have x0 := cell_keep (hg8.trans hg9).below e0
            have x1 := cell_keep (hg8.trans hg9).below e1
            obtain ⟨y0, y1⟩ := box2 _ hg9
            clear hS1
            go_wp2_with fail
            refine (hS2 _ (hl7.go (hg8.trans hg9).below) (hgE.go (hg8.trans hg9).below)).mono ?_
            rintro e w10 ⟨rfl, hg10⟩
            clear hS2 x0 x1 y0 y1
            go_wp2_with fail
            refine (alive_any _).mono ?_
            rintro e w11 ⟨rfl, hb11⟩
            go_wp2
            go_ret
            exact ⟨rfl, below_keep hb11 (below_keep ((hg8.trans hg9).trans hg10).below hbw7 (Nat.le_refl _)) (Nat.le_refl _)⟩
    · have hm := fun W h => make_any n l (.slice p l.length c) W h
      have hk : (rightK n l == 0) = false := by simpa using hr
      generalize rightK n l = k at hrc hk
      clear hr
      go_enter Try.func3, Try.ntmps3
      go_wp2_with fail
      refine hlt.mono ?_
      rintro e w2 ⟨rfl, hg2⟩
      have hl2 := hl1.go hg2.below
      have q0 := (box2 _ hg2).1
      have q1 := (box2 _ hg2).2
      clear hlt
      go_wp2_with fail
      refine (hrc _ hl2).mono ?_
      rintro e w3 ⟨rfl, hg3⟩
      have hl3 := hl2.go hg3.below
      replace q0 := cell_keep hg3.below q0
      replace q1 := cell_keep hg3.below q1
      have hbw := ((hg1.trans hg2).trans hg3).below
      clear hrc hl1 hl2 hg2 hg3 hg1
      go_wp2_with fail
      refine (hm _ hl3).mono ?_
      rintro e w4 ⟨gv, rfl, hgE, hb4⟩
      have hl4 := hl3.go hb4
      replace q0 := cell_keep hb4 q0
      replace q1 := cell_keep hb4 q1
      have hbw4 := below_keep hb4 hbw (Nat.le_refl _)
      obtain ⟨pp, cc, rfl⟩ := hgE.len
      have hg5 : Grew w4 (w4.alloc (.cells #[.int .i64 (makeN n l), .slice pp (makeL n l).length cc] 24)) := (Grew.refl _).alloc _
      have hl5 := hl4.go hg5.below
      have hbs : w.heap.size < w4.heap.size := World.block_lt_of_cell? w4 ⟨w.heap.size, 0, none⟩ q0
      clear hl3 hb4 hbw hl4
      go_wp2_with fail
      refine (hm _ hl5).mono ?_
      rintro e w6 ⟨gv, rfl, hgE6, hb6⟩
      have hbw6 := below_keep hb6 (below_keep hg5.below hbw4 (Nat.le_refl _)) (Nat.le_refl _)
      obtain ⟨pp6, cc6, rfl⟩ := hgE6.len
      have hg7 : Grew w6 (w6.alloc (.cells #[.int .i64 (makeN n l), .slice pp6 (makeL n l).length cc6] 24)) := (Grew.refl _).alloc _
      have hE7 := hgE6.go hg7.below
      have hbw7 := below_keep hg7.below hbw6 (Nat.le_refl _)
      clear hm hl5 q0 q1
      by_cases hk0 : makeK n l = 0
      · have hright : rightK (makeN n l) (makeL n l) = 0 := by
          unfold makeN makeL
          rw [if_pos hk0, if_pos hk0]
          exact right_iff.2 (make_right hk0)
        have hrr := right_any (makeN n l) (makeL n l) _ _ hE7
        rw [hright] at hrr
        rw [hk0]
        clear hk0 hright
        go_wp2_with fail
        refine hrr.mono ?_
        rintro e w8 ⟨rfl, hg8⟩
        clear hrr
        go_wp2_with fail
        refine (alive_any _).mono ?_
        rintro e w9 ⟨rfl, hb9⟩
        go_wp2
        go_ret
        exact ⟨rfl, below_keep hb9 (below_keep hg8.below hbw7 (Nat.le_refl _)) (Nat.le_refl _)⟩
      · have hk1 : (makeK n l == 0) = false := by simpa using hk0
        have hk2 : (makeK n l != 0) = true := by simpa using hk0
        generalize makeK n l = k1 at hk1 hk2
        clear hk0
        go_wp2_with fail
        refine (alive_any _).mono ?_
        rintro e w9 ⟨rfl, hb9⟩
        go_wp2
        go_ret
        exact ⟨rfl, below_keep hb9 hbw7 (Nat.le_refl _)⟩
  · have hcase : lightB n l 100 = false ∨ (lightB n l 100 = true ∧ (100 : Int) < (a.length : Int)) ∨ (lightB n l 100 = true ∧ (a.length : Int) ≤ 100 ∧ l.length = 0) := by
      cases h : lightB n l 100 with
      | false => exact .inl rfl
      | true =>
        by_cases h2 : (100 : Int) < (a.length : Int)
        · exact .inr (.inl ⟨rfl, h2⟩)
        · refine .inr (.inr ⟨rfl, by omega, ?_⟩)
          by_cases h3 : l.length = 0
          · exact h3
          · exact absurd ⟨h, by omega, h3⟩ hgo
    clear hgo
    rcases hcase with hc | ⟨hc, hal⟩ | ⟨hc, hal, hz⟩
    · rw [hc] at hlt
      go_enter Try.func3, Try.ntmps3
      go_wp2_with fail
      refine hlt.mono ?_
      rintro e w2 ⟨rfl, hg2⟩
      go_wp2_with fail
      refine (alive_any _).mono ?_
      rintro e w3 ⟨rfl, hb3⟩
      go_wp2
      go_ret
      exact ⟨rfl, below_keep hb3 (hg1.trans hg2).below (Nat.le_refl _)⟩
    · rw [hc] at hlt
      have hd : decide ((100 : Int) < (a.length : Int)) = true := by simpa using hal
      go_enter Try.func3, Try.ntmps3
      go_wp2_with fail
      refine hlt.mono ?_
      rintro e w2 ⟨rfl, hg2⟩
      go_wp2_with fail
      refine (alive_any _).mono ?_
      rintro e w3 ⟨rfl, hb3⟩
      go_wp2
      go_ret
      exact ⟨rfl, below_keep hb3 (hg1.trans hg2).below (Nat.le_refl _)⟩
    · rw [hc] at hlt
      have hd : decide ((100 : Int) < (a.length : Int)) = false := by simpa using hal
      have hlz : ((l.length : Int) == 0) = true := by rw [beq_iff_eq]; omega
      clear hz
      go_enter Try.func3, Try.ntmps3
      go_wp2_with fail
      refine hlt.mono ?_
      rintro e w2 ⟨rfl, hg2⟩
      have q0 := (box2 _ hg2).1
      have q1 := (box2 _ hg2).2
      go_wp2_with fail
      refine (alive_any _).mono ?_
      rintro e w3 ⟨rfl, hb3⟩
      go_wp2
      go_ret
      exact ⟨rfl, below_keep hb3 (hg1.trans hg2).below (Nat.le_refl _)⟩

end Go.Proofs.Ytkniphmjiepkaab
