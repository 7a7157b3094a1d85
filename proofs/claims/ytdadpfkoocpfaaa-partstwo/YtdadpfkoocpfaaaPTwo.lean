/-
  The contract of parts.Two.
-/
import Derived.Deep.RegionHeld3
import Derived.Test.YtdadpfkoocpfaaaPAround
namespace Go.Proofs.Ytdadpfkoocpfaaa
open Go Go.Proofs Go.RowKit

theorem infoBo : (Try.prog.info? 4).map (fun i => (i.zero, i.size, i.bytes)) = some (some (.bool false), 1, 1) := by kernel_rfl
theorem bools_madeT (n : Nat) : (madeCells (Value.bool false).cells (n * 1)).toList = (List.replicate n false).map Value.bool := by
  apply List.ext_getElem
  · simp [madeCells]
  · intro i h1 h2
    simp [madeCells, Value.cells, Nat.mod_one]
def sideL (D : List Int) (N j : Nat) : List Bool := (List.range N).map fun v => if v < j then sideB D v else false
theorem sideL_zero (D : List Int) (N : Nat) : sideL D N 0 = List.replicate N false := by
  apply List.ext_getElem?
  intro i
  by_cases h : i < N
  · simp [sideL, h]
  · simp [sideL, h]
theorem sideL_step {D : List Int} {N j : Nat} : (sideL D N j).set j (sideB D j) = sideL D N (j + 1) := by
  apply List.ext_getElem?
  intro i
  by_cases h : i < N
  · rw [List.getElem?_set]
    by_cases e : j = i
    · subst e
      simp [sideL, h]
    · rw [if_neg e]
      by_cases hi : i < j
      · simp [sideL, h, hi, show i < j + 1 by omega]
      · simp [sideL, h, hi, show ¬ i < j + 1 by omega]
  · rw [List.getElem?_eq_none (by simp [sideL]; omega), List.getElem?_eq_none (by simp [sideL]; omega)]
theorem Blk.bools {W : World} {g : Nat} {l : List Bool} {t : TypeId} (h : Blk t W g (l.map Value.bool)) : Bools W.heap.size W (.slice (some ⟨g, 0, none⟩) l.length l.length) l :=
  .inr ⟨g, 0, l.length, rfl, h.lt, Nat.le_refl _, fun j x hx => by
    rw [Nat.zero_add]
    exact h.cell (by rw [List.getElem?_map, hx]; rfl)⟩

set_option maxRecDepth 100000 in
set_option maxHeartbeats 4000000 in
theorem two_any (N : Nat) (l : List Ed) (hR : RightG (N : Int) l) (sv : Value) (w : World) (hl : Edges w.heap.size w sv l) :
    Calls Try.prog 21 #[.agg #[.int .i64 (N : Int), sv]] w fun r w' => ((Proper (walkW N l).depth l ∧ ∃ bv, r = .returned (.tuple #[bv, .slice none 0 0, .int .i64 0]) ∧ Bools w'.heap.size w' bv (sideL (walkW N l).depth N N)) ∨ (¬ Proper (walkW N l).depth l ∧ ∃ rv X, r = .returned (.tuple #[.slice none 0 0, rv, .int .i64 14]) ∧ Ints w'.heap.size w' rv (wayL X) ∧ OddW N l X)) ∧ Below w.heap.size w w' := by
  have hmix := mixed
  obtain ⟨i0, hi, hz0, hz1, hz2⟩ := info_parts infoBo
  have hg1 : Grew w (w.alloc (.cells #[.int .i64 (N : Int), sv] 24)) := (Grew.refl w).alloc _
  have hl1 := hl.go hg1.below
  obtain ⟨p, c, rfl⟩ := hl.len
  have hrc := fun W h => right_any (N : Int) l (.slice p l.length c) W h
  rw [right_iff.2 hR] at hrc
  have hn1 := hR.n1
  have hm1 := hR.m1
  go_enter Try.func21, Try.ntmps21
  go_wp2_with fail
  refine (hrc _ hl1).mono ?_
  rintro e w2 ⟨rfl, hg2⟩
  have q0 := (box2 _ hg2).1
  have q1 := (box2 _ hg2).2
  have hbox := box2_lt hg2
  have hbw := (hg1.trans hg2).below
  clear hrc hl1
  go_wp2_with fail
  refine (walked_any N l hR _ _ (hl.go hbw)).mono ?_
  rintro e w3 ⟨a, lv, pv, ov, rfl, aN, aM, hLay, hW, hLK, hF, hh, hb3⟩
  have hok := walkW_ok hR
  have x0 := cell_keepK hb3 q0
  have x1 := cell_keepK hb3 q1
  have hbw3 := hbw.trans (hb3.mono hbw.size)
  have hl3 := hl.go hbw3
  have HW : Hid _ := hW
  have HSide : Hid (∀ (W : World) (v : Nat), Below w3.heap.size w3 W → v < N → Calls Try.prog 40 #[.pointer (some ⟨a.wb, 0, none⟩), .int .i64 (v : Int)] W fun e w' => e = .returned (.bool (sideB (walkW N l).depth v)) ∧ w' = W) := fun W v hb hv => side_any a lv pv ov (walkW N l) v (by rw [aN]; exact hv) (by rw [aN]; exact hok.lenD) (tree_par hR hv).1 W (hW.go hb)
  have HAr : Hid (∀ (W : World) (u v : Nat) (wt : Int) (en st : Nat) (X : List Nat), Below w3.heap.size w3 W → u < N → v < N → (((walkW N l).depth.getD u 0 > (walkW N l).depth.getD v 0 → en = v ∧ st = u) ∧ (¬ (walkW N l).depth.getD u 0 > (walkW N l).depth.getD v 0 → en = u ∧ st = v)) → UpI N l (walkW N l).depth (walkW N l).from_ X → X[0]? = some st → X.getLast? = some en → X.length ≤ 1073741824 → Calls Try.prog 41 #[.pointer (some ⟨a.wb, 0, none⟩), .agg #[.int .i64 (u : Int), .int .i64 (v : Int), .int .i64 wt]] W fun r w' => ∃ rv, r = .returned rv ∧ Ints w'.heap.size w' rv (wayL X) ∧ Below W.heap.size W w') := fun W u v wt en st X hb hu hv hsw hX h0 hlast hlen => around_any a l lv pv ov (walkW N l) (by rw [aN]; exact hok.lenD) (by rw [aN]; exact hok.lenF) u v wt (by rw [aN]; exact hu) (by rw [aN]; exact hv) en st hsw X (by rw [aN]; exact hX) h0 hlast hlen W (hW.go hb)
  have HR : Hid _ := hR
  clear hW hLK hF hok q0 q1 hbw hb3 hR HW hLay aN aM hh
  generalize a.wb = wb at *
  have HDef : Hid (∀ v, sideB (walkW N l).depth v = ((walkW N l).depth.getD v 0 % 2 == 1)) := fun _ => rfl
  go_wp2
  go_loopw [18] (fun iv wr => ∃ j : Nat, j ≤ l.length ∧ iv = .int .i64 j ∧ Hid (∀ (k : Nat) (e : Ed), k < j → l[k]? = some e → (walkW N l).depth.getD e.1.toNat 0 % 2 ≠ (walkW N l).depth.getD e.2.1.toNat 0 % 2) ∧ Below w3.heap.size w3 wr) (fun i _ => l.length - (intOf i).toNat)
  case atStart => exact ⟨0, Nat.zero_le _, rfl, fun k e h => by omega, Below.refl _ _⟩
  case round =>
    obtain ⟨j, hj, rfl, HP, hb⟩ := hrel
    by_cases hlt : j < l.length
    · obtain ⟨b, off, rfl, hbb, hcap, hc, -⟩ := hl3.open hlt
      obtain ⟨c0, c1, c2⟩ := hc wr hb j hlt
      have hjl : (j : Int) < (l.length : Int) := by omega
      have hok := (HR.out.each l[j] (List.getElem_mem hlt)).1
      unfold okE at hok
      obtain ⟨u, hu⟩ : ∃ u : Nat, l[j].1 = (u : Int) := ⟨l[j].1.toNat, by omega⟩
      obtain ⟨v, hv⟩ : ∃ v : Nat, l[j].2.1 = (v : Int) := ⟨l[j].2.1.toNat, by omega⟩
      have huN : u < N := by omega
      have hvN : v < N := by omega
      have HOD : Hid _ := odd_way HR.out (List.getElem_mem hlt) hu hv huN hvN
      have HN : Hid ((walkW N l).depth.getD u 0 % 2 ≠ (walkW N l).depth.getD v 0 % 2 → ∀ (k : Nat) (e : Ed), k < j + 1 → l[k]? = some e → (walkW N l).depth.getD e.1.toNat 0 % 2 ≠ (walkW N l).depth.getD e.2.1.toNat 0 % 2) := fun hne k e hk he => by
        by_cases h : k = j
        · subst h
          rw [List.getElem?_eq_getElem hlt] at he
          cases he
          rw [hu, hv]
          exact hne
        · exact HP.out k e (by omega) he
      have HNP : Hid ((walkW N l).depth.getD u 0 % 2 = (walkW N l).depth.getD v 0 % 2 → ¬ Proper (walkW N l).depth l) := fun heq hP => hP l[j] (List.getElem_mem hlt) (by rw [hu, hv]; exact heq)
      rw [hu] at c0
      rw [hv] at c1
      generalize l[j].2.2 = wt at c2
      have HLT : Hid (j < l.length) := hlt
      have hbA : Below wr.heap.size wr (wr.alloc (.cells #[.int .i64 (u : Int), .int .i64 (v : Int), .int .i64 wt] 43)) := (Below.refl _ _).alloc (Nat.le_refl _) _
      have hBA : Blk 43 (wr.alloc (.cells #[.int .i64 (u : Int), .int .i64 (v : Int), .int .i64 wt] 43)) wr.heap.size [.int .i64 (u : Int), .int .i64 (v : Int), .int .i64 wt] := heap_alloc_new wr _
      have hb3A := hb.trans (hbA.mono hb.size)
      have e0 := hBA.cell (j := 0) rfl
      have e1 := hBA.cell (j := 1) rfl
      have e2 := hBA.cell (j := 2) rfl
      clear hc hok hu hv hlt HP hbA hBA
      go_wp2
      clear c0 c1 c2
      generalize wr.heap.size = eb at e0 e1 e2 ⊢
      generalize (wr.alloc (.cells #[.int .i64 (u : Int), .int .i64 (v : Int), .int .i64 wt] 43)) = wA at *
      refine wp_region_held_drew (S := (fun w' : World => w'.cell? ⟨eb, 0, none⟩ = some (.int .i64 (u : Int)) ∧ w'.cell? ⟨eb, 1, none⟩ = some (.int .i64 (v : Int)))) (by kernel_rfl) ?_ (fun hHeld => ?_)
      · (try dsimp only); go_keep
      refine wpAnyH_take (i := 0) (v := ?_) rfl (by kernel_rfl) (by kernel_rfl) (by kernel_rfl) (fun _ _ _ h => h) (Or.inl ⟨by rfl, ?_⟩) (by assumption) ?_
      rotate_left
      · intro w hSw; (try dsimp only at hSw); go_simp; (try with_reducible rfl)
      try simp only [Act.put, List.setIfInBounds_toArray]
      refine wpAnyH_take (i := 1) (v := ?_) rfl (by kernel_rfl) (by kernel_rfl) (by kernel_rfl) (fun _ _ _ h => h) (Or.inl ⟨by rfl, ?_⟩) (by assumption) ?_
      rotate_left
      · intro w hSw; (try dsimp only at hSw); go_simp; (try with_reducible rfl)
      try simp only [Act.put]
      refine wpAnyH_take (i := 2) (v := ?_) rfl (by kernel_rfl) (by kernel_rfl) (by kernel_rfl) (fun _ _ _ h => h) (Or.inl ⟨by rfl, ?_⟩) (by assumption) ?_
      rotate_left
      · intro w hSw; (try dsimp only at hSw); go_simp; (try with_reducible rfl)
      try simp only [Act.put]
      refine wpAnyH_take (i := 4) (v := ?_) rfl (by kernel_rfl) (by kernel_rfl) (by kernel_rfl) (fun _ _ _ h => h) (Or.inl ⟨by rfl, ?_⟩) (by assumption) ?_
      rotate_left
      · intro w hSw; (try dsimp only at hSw); go_simp; (try with_reducible rfl)
      try simp only [Act.put]
      refine wpAnyH_take (i := 5) (v := ?_) rfl (by kernel_rfl) (by kernel_rfl) (by kernel_rfl) (fun _ _ _ h => h) (Or.inl ⟨by rfl, ?_⟩) (by assumption) ?_
      rotate_left
      · intro w hSw; (try dsimp only at hSw); go_simp; (try with_reducible rfl)
      try simp only [Act.put]
      refine wpAnyH_take (i := 6) (v := ?_) rfl (by kernel_rfl) (by kernel_rfl) (by kernel_rfl) (fun _ _ _ h => h) (Or.inl ⟨by rfl, ?_⟩) (by assumption) ?_
      rotate_left
      · intro w hSw; (try dsimp only at hSw); go_simp; (try with_reducible rfl)
      try simp only [Act.put]
      have hbD : Below w3.heap.size w3 wA.drew := below_drewN hb3A 1
      refine wpAnyH_ready (rs := [3]) (by kernel_rfl) (by simp) ?_
      refine AllReadyH.cons rfl (fun K hK => ?_) AllReadyH.nil
      go_simp
      refine (HSide.out wA.drew u hbD huN).mono ?_
      rintro e w4 ⟨rfl, rfl⟩
      refine hK.out _ _ hHeld (fun _ => ?_)
      clear hK K
      try simp only [Act.put, List.setIfInBounds_toArray, List.set_cons_zero, List.set_cons_succ]
      refine wpAnyH_ready (rs := [7]) (by kernel_rfl) (by simp) ?_
      refine AllReadyH.cons rfl (fun K hK => ?_) AllReadyH.nil
      go_simp
      refine (HSide.out wA.drew v hbD hvN).mono ?_
      rintro e w5 ⟨rfl, rfl⟩
      refine hK.out _ _ hHeld (fun _ => ?_)
      clear hK K
      try simp only [Act.put, List.setIfInBounds_toArray, List.set_cons_zero, List.set_cons_succ]
      refine wpAnyH_take (i := 8) (v := ?_) rfl (by kernel_rfl) (by kernel_rfl) (by kernel_rfl) (fun _ _ _ h => h) (Or.inl ⟨by rfl, ?_⟩) (by assumption) ?_
      rotate_left
      · intro w hSw; (try dsimp only at hSw); go_simp; (try with_reducible rfl)
      try simp only [Act.put]
      refine wpAnyH_done (by kernel_rfl) ?_ _
      have f0 : wA.drew.cell? ⟨eb, 0, none⟩ = some (.int .i64 (u : Int)) := e0
      have f1 : wA.drew.cell? ⟨eb, 1, none⟩ = some (.int .i64 (v : Int)) := e1
      have f2 : wA.drew.cell? ⟨eb, 2, none⟩ = some (.int .i64 wt) := e2
      have hs : (sideB (walkW N l).depth u = sideB (walkW N l).depth v) ↔ (walkW N l).depth.getD u 0 % 2 = (walkW N l).depth.getD v 0 % 2 := by
        rw [HDef.out, HDef.out]
        constructor
        · intro h
          have h1 : ((walkW N l).depth.getD u 0 % 2 == 1) = true ↔ ((walkW N l).depth.getD v 0 % 2 == 1) = true := by rw [h]
          rw [beq_iff_eq, beq_iff_eq] at h1
          omega
        · intro h
          rw [h]
      clear e0 e1 e2 hHeld
      generalize wA.drew = wB at *
      by_cases hpar : (walkW N l).depth.getD u 0 % 2 = (walkW N l).depth.getD v 0 % 2
      · have hse := hs.2 hpar
        obtain ⟨en, st, X, s1, s2, g1, g2, g3, g4⟩ := HOD.out hpar
        have har := HAr.out wB u v wt en st X hbD huN hvN ⟨s1, fun h => s2 (by omega)⟩ g1 g2 g3 (by have := g4.few; omega)
        have HQ : Hid _ := HNP.out hpar
        have HG4 : Hid _ := g4
        clear hs s1 s2 g1 g2 g3 g4 HOD HNP HN hpar
        generalize sideB (walkW N l).depth u = bu at *
        generalize sideB (walkW N l).depth v = bv at *
        subst hse
        cases bu
        · go_wp2_with fail
          refine har.mono ?_
          rintro e w6 ⟨rv, rfl, hI6, hb6⟩
          have HI6 : Hid _ := hI6
          have HB6 : Hid _ := hbw3.trans ((hbD.trans (hb6.mono hbD.size)).mono hbw3.size)
          clear hI6 hb6 har
          go_wp2
          (try simp only [Exit.inBlock, Exit.then])
          refine bodyPost_ret (results_tmp3 rfl _ _ _) rfl ?_
          exact ⟨.inr ⟨HQ.out, rv, X, rfl, HI6.out, HG4.out⟩, HB6.out⟩
        · go_wp2_with fail
          refine har.mono ?_
          rintro e w6 ⟨rv, rfl, hI6, hb6⟩
          have HI6 : Hid _ := hI6
          have HB6 : Hid _ := hbw3.trans ((hbD.trans (hb6.mono hbD.size)).mono hbw3.size)
          clear hI6 hb6 har
          go_wp2
          (try simp only [Exit.inBlock, Exit.then])
          refine bodyPost_ret (results_tmp3 rfl _ _ _) rfl ?_
          exact ⟨.inr ⟨HQ.out, rv, X, rfl, HI6.out, HG4.out⟩, HB6.out⟩
      · have hse : ¬ sideB (walkW N l).depth u = sideB (walkW N l).depth v := fun h => hpar (hs.1 h)
        have HN2 : Hid _ := HN.out hpar
        clear hs HOD HNP HN hpar
        generalize sideB (walkW N l).depth u = bu at *
        generalize sideB (walkW N l).depth v = bv at *
        have hlt := HLT.out
        have hcs : (bu = true ∧ bv = false) ∨ (bu = false ∧ bv = true) := by cases bu <;> cases bv <;> simp_all
        clear hse
        rcases hcs with ⟨rfl, rfl⟩ | ⟨rfl, rfl⟩
        · go_wp2
          exact ⟨⟨j + 1, HLT.out, by go_num, HN2.out, hbD⟩, by simp [intOf]; omega⟩
        · go_wp2
          exact ⟨⟨j + 1, HLT.out, by go_num, HN2.out, hbD⟩, by simp [intOf]; omega⟩
    · obtain rfl : j = l.length := by omega
      have HPr : Hid (Proper (walkW N l).depth l) := fun e he => by
        obtain ⟨k, hk, rfl⟩ := List.getElem_of_mem he
        exact HP.out k _ hk (List.getElem?_eq_getElem hk)
      have y0 := cell_keepK hb x0
      have hbwr := hbw3.trans (hb.mono hbw3.size)
      clear HP HAr hl3 x0 x1
      go_wp2_with (at_make; refine wpList_make_full _ rfl _ _ 36 rfl wr.heap.size 4 i0 (.bool false) 1 Try.underlying36 hi hz0 hz1 .i64 .i64 _ _ N rfl rfl rfl rfl (by rw [hz2]; omega) (by unfold maxLen; omega) (Nat.le_refl _) ?_; intro w4 hown hgrow; have hb4 : Below wr.heap.size wr w4 := (Below.refl _ _).grown hgrow (Nat.le_refl _) (fun k e => by cases e))
      have hM4 := Blk.made hown
      rw [bools_madeT, ← sideL_zero (walkW N l).depth] at hM4
      have hbw4 := hbwr.trans (hb4.mono hbwr.size)
      have hb34 := hb.trans (hb4.mono hb.size)
      have hgw : w3.heap.size ≤ wr.heap.size := hb.size
      have hgl := hM4.lt
      clear hown hgrow hb4 hbwr y0 hb
      generalize wr.heap.size = g at *
      generalize wr = wq at *
      go_wp2
      go_loopw [40] (fun iv wr => ∃ v : Nat, v ≤ N ∧ iv = .int .i64 v ∧ Hid (Blk 4 wr g ((sideL (walkW N l).depth N v).map Value.bool)) ∧ Hid (Below g w4 wr)) (fun i _ => N - (intOf i).toNat)
      case atStart => exact ⟨0, Nat.zero_le _, rfl, hM4, Below.refl _ _⟩
      case round =>
        obtain ⟨v, hv, rfl, HM, HB⟩ := hrel
        by_cases hlt : v < N
        · have hvl : (v : Int) < (N : Int) := by omega
          have hb3r := hb34.trans (HB.out.mono hgw)
          obtain ⟨z, hz⟩ : ∃ z, wr.cell? ⟨g, v, none⟩ = some z := ⟨_, HM.out.cell (by rw [List.getElem?_map]; rw [List.getElem?_eq_getElem (by simp [sideL]; exact hlt)]; rfl)⟩
          have fz := HM.out.frozen v
          have hsd := HSide.out wr v hb3r hlt
          have HM2 : Hid _ := HM.out.set v (.bool (sideB (walkW N l).depth v))
          have HB2 : Hid _ := HB.out.setCell (p := ⟨g, v, none⟩) (Nat.le_refl _) (.bool (sideB (walkW N l).depth v))
          go_wp2_with fail
          refine hsd.mono ?_
          rintro e w6 ⟨rfl, rfl⟩
          clear hsd HM HB
          go_wp2
          refine ⟨⟨v + 1, by omega, by go_num, ?_, HB2.out⟩, by simp [intOf]; omega⟩
          unfold Hid
          rw [← sideL_step, List.map_set]
          exact HM2.out
        · obtain rfl : N = v := by omega
          have hvl : ¬ (N : Int) < (N : Int) := by omega
          have hsl : (sideL (walkW N l).depth N N).length = N := by simp [sideL]
          have HI : Hid (Bools wr.heap.size wr (.slice (some ⟨g, 0, none⟩) N N) (sideL (walkW N l).depth N N)) := by
            have := HM.out.bools
            rw [hsl] at this
            exact this
          have HB3 : Hid (Below w.heap.size w wr) := hbw4.trans (HB.out.mono (by have := hbw3.size; omega))
          clear HM HB
          go_wp2
          (try simp only [Exit.inBlock, Exit.then])
          refine bodyPost_ret (results_tmp3 rfl _ _ _) rfl ?_
          exact ⟨.inl ⟨HPr.out, .slice (some ⟨g, 0, none⟩) N N, rfl, HI.out⟩, HB3.out⟩

set_option maxRecDepth 100000 in
set_option maxHeartbeats 2000000 in
theorem two_bad (n : Int) (l : List Ed) (hR : rightK n l ≠ 0) (sv : Value) (w : World) (hl : Edges w.heap.size w sv l) :
    Calls Try.prog 21 #[.agg #[.int .i64 n, sv]] w fun r w' => r = .returned (.tuple #[.slice none 0 0, .slice none 0 0, .int .i64 1]) ∧ Below w.heap.size w w' := by
  have hg1 : Grew w (w.alloc (.cells #[.int .i64 n, sv] 24)) := (Grew.refl w).alloc _
  have hl1 := hl.go hg1.below
  obtain ⟨p, c, rfl⟩ := hl.len
  have hrc := fun W h => right_any n l (.slice p l.length c) W h
  go_enter Try.func21, Try.ntmps21
  go_wp2_with fail
  refine (hrc _ hl1).mono ?_
  rintro e w2 ⟨rfl, hg2⟩
  have hbw := (hg1.trans hg2).below
  clear hrc hl1
  generalize rightK n l = k at *
  go_wp2
  (try simp only [Exit.inBlock, Exit.then])
  refine bodyPost_ret (results_tmp3 rfl _ _ _) rfl ?_
  exact ⟨rfl, hbw⟩
end Go.Proofs.Ytdadpfkoocpfaaa
