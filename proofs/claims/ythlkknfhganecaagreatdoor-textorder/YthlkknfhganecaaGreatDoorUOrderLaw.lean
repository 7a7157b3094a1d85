/-
  The walk of filigreelaw05.TextOrder.
-/
import Derived.Deep.RegionWith
import Derived.Test.YthlkknfhganecaaGreatDoorUBackMath
import Derived.Test.YthlkknfhganecaaGreatDoorUShuf
import Derived.Test.YthlkknfhganecaaGreatDoorUSays
import Derived.Test.YthlkknfhganecaaGreatDoorGSame
namespace Go.Proofs.YthlkknfhganecaaGreatDoor
open Go Go.Proofs Go.RowKit

theorem wp_cutA {P : Program} {s : Code} {Q : Exit → Act → World → Prop} {a : Act} {w : World} (R : Act → Act → World → Prop) (first : s.wp P (onlyN (R a)) a w) (rest : ∀ a' w', R a a' w' → Q .normal a' w') : s.wp P Q a w := wp_cutN (R a) first rest
theorem below_setK {A w : World} (h : Below w.heap.size w A) {p : Addr} (hp : w.heap.size ≤ p.block) (v : Value) : Below w.heap.size w (A.setCell p v) := h.setCell hp v
theorem new_second (W : World) (o o' : Obj) : ((W.alloc o).alloc o').heap[W.heap.size + 1]? = some o' := by
  have := heap_alloc_new (W.alloc o) o'
  rwa [World.size_alloc] at this
/-- What stands behind the region that copies the graph. -/
def R3 (w3 : World) (n : Int) (l : List Ed) (a a' : Act) (w' : World) : Prop := ∃ v34 v35 v36 v37 v38 v39 v40 k g cap rest, a' = (((((((a.put (some 34) v34).put (some 35) v35).put (some 36) v36).put (some 37) v37).put (some 38) v38).put (some 39) v39).put (some 40) v40).put (some 7) (.pointer (some ⟨k, 0, none⟩)) ∧ Blk 30 w' k [.int .i64 n, .slice (some ⟨g, 0, none⟩) l.length cap] ∧ Blk 50 w' g (flat l ++ rest) ∧ l.length ≤ cap ∧ w3.heap.size ≤ k ∧ w3.heap.size ≤ g ∧ Below w3.heap.size w3 w'

set_option maxRecDepth 100000 in
set_option maxHeartbeats 8000000 in
theorem textOrder_walk (n : Int) (l : List Ed) (sv : Value) (a b : List Int) (sa sb : Value) (w : World) (hE : Env w) (hl : Edges w.heap.size w sv l) (hA : Ints w.heap.size w sa a) (hBs : Ints w.heap.size w sb b) :
    Calls Tryz.prog 7 #[.agg #[.int .i64 n, sv], sa, sb] w fun r w' => r = .returned (.bool true) ∧ Below w.heap.size w w' := by
  have hmix := mixed
  obtain ⟨p, c, rfl⟩ := hl.len
  obtain ⟨pa, ca, rfl⟩ := hA.len
  obtain ⟨pb, cb, rfl⟩ := hBs.len
  obtain ⟨i0, hi, hz0, hz1, hz2⟩ := info_parts infoE
  have hb1 : Below w.heap.size w (w.alloc (.cells #[.int .i64 n, .slice p l.length c] 30)) := (Below.refl _ _).alloc (Nat.le_refl _) _
  have hX1 : Blk 30 (w.alloc (.cells #[.int .i64 n, .slice p l.length c] 30)) w.heap.size [.int .i64 n, .slice p l.length c] := heap_alloc_new w _
  have q0 := hX1.cell (j := 0) rfl
  have q1 := hX1.cell (j := 1) rfl
  have hE1 := hE.go hb1
  have hl1 := hl.go hb1
  by_cases hgo : (l.length : Int) ≤ 200 ∧ (a.length : Int) ≤ 100 ∧ l.length ≠ 0
  · obtain ⟨hl2, ha1, hl0⟩ := hgo
    have hd1 : ¬ (200 : Int) < (l.length : Int) := by omega
    have hd2 : ¬ (100 : Int) < (a.length : Int) := by omega
    have hlz : ((l.length : Int) == 0) = false := by rw [beq_eq_false_iff_ne]; omega
    have hrr := refRight_any n l _ _ hl1
    by_cases hR0 : rightK n l = 0
    · have hR := right_iff.1 hR0
      rw [hR0] at hrr
      go_enter Tryz.func7, Tryz.ntmps7
      go_wp2_with fail
      refine hrr.mono ?_
      clear hrr
      rintro e w3 ⟨rfl, hg3⟩
      have hl3 := hl1.go hg3.below
      have hX3 := hX1.go hg3.below
      replace q0 := hX3.cell (j := 0) rfl
      replace q1 := hX3.cell (j := 1) rfl
      have hbw := hb1.trans (hg3.below.mono hb1.size)
      have hb0 : Below w3.heap.size w3 w3 := Below.refl _ _
      have hl00 : 0 < l.length := by omega
      clear hX1 hE1 hl1
      go_wp2
      refine wp_cutA (R3 w3 n l) ?_ ?_
      · go_region_held3 (fun w' => w'.cell? ⟨w.heap.size, 0, none⟩ = some (.int .i64 n) ∧ w'.cell? ⟨w.heap.size, 1, none⟩ = some (.slice p l.length c) ∧ Below w3.heap.size w3 w') (((try go_split_ands); refine keepS q0 q1 ?_; (repeat first | assumption | refine below_allocK ?_ _ | refine below_drew1 ?_ | refine below_setK ?_ (by simp) _))) (first | (refine step_append_edges rfl _ _ rfl w3 (by go_split_ands; assumption) [] (.slice (some ⟨w3.heap.size, 0, none⟩) 0 0) rfl (by exact owns_empty (heap_alloc_new w3 _) (Nat.le_refl _)) l (.slice p l.length c) rfl hl3 l rfl (by simp; omega) ?_; intro p6 c6 w6 hown6 hb6 hk6; obtain ⟨g, cap, rest, hv6, hbg, hcg, hBg⟩ := owns_blk hown6 hl00; (simp only [Value.slice.injEq, true_and] at hv6); obtain ⟨rfl, rfl⟩ := hv6; have hgl := hBg.lt) | (refine step_append_edges rfl _ _ rfl w3 (by go_split_ands; assumption) [] (.slice (some ⟨w3.heap.size, 0, none⟩) 0 0) rfl (by exact owns_empty ((Below.heap_alloc _ _ _ (by simp)).trans (heap_alloc_new w3 _)) (Nat.le_refl _)) l (.slice p l.length c) rfl hl3 l rfl (by simp; omega) ?_; intro p6 c6 w6 hown6 hb6 hk6; obtain ⟨g, cap, rest, hv6, hbg, hcg, hBg⟩ := owns_blk hown6 hl00; (simp only [Value.slice.injEq, true_and] at hv6); obtain ⟨rfl, rfl⟩ := hv6; have hgl := hBg.lt; obtain ⟨hB7, hN7⟩ := hk6 30 (w3.heap.size + 1) [.int .i64 0, .slice none 0 0] (new_second w3 _ _) (by simp [Value.ownBlock]); have z0 := hB7.cell (j := 0) rfl; have z1 := hB7.cell (j := 1) rfl; have f0 := hB7.frozen 0; have f1 := hB7.frozen 1) | (refine step_append_edges rfl _ _ rfl w3 (by go_split_ands; assumption) [] (.slice (some ⟨w3.heap.size + 1, 0, none⟩) 0 0) rfl (by exact owns_empty (new_second w3 _ _) (by simp)) l (.slice p l.length c) rfl hl3 l rfl (by simp; omega) ?_; intro p6 c6 w6 hown6 hb6 hk6; obtain ⟨g, cap, rest, hv6, hbg, hcg, hBg⟩ := owns_blk hown6 hl00; (simp only [Value.slice.injEq, true_and] at hv6); obtain ⟨rfl, rfl⟩ := hv6; have hgl := hBg.lt; obtain ⟨hB7, hN7⟩ := hk6 30 w3.heap.size [.int .i64 0, .slice none 0 0] ((Below.heap_alloc _ _ _ (by simp)).trans (heap_alloc_new w3 _)) (by simp [Value.ownBlock]); have z0 := hB7.cell (j := 0) rfl; have z1 := hB7.cell (j := 1) rfl; have f0 := hB7.frozen 0; have f1 := hB7.frozen 1))
        · exact ⟨.pointer (some ⟨w.heap.size, 0, none⟩), .int .i64 n, .slice (some ⟨w3.heap.size, 0, none⟩) 0 0, .pointer (some ⟨w.heap.size, 1, none⟩), .slice p l.length c, .slice (some ⟨g, 0, none⟩) l.length c6, .agg #[.int .i64 n, .slice (some ⟨g, 0, none⟩) l.length c6], w6.heap.size, g, c6, rest, by go_simp, heap_alloc_new w6 _, (Below.heap_alloc _ _ _ hgl).trans hBg, hcg, hb6.size, hbg, below_allocK hb6 _⟩
        · simp only [Value.ownBlock, ne_eq, Option.some.injEq] at hN7
          exact ⟨.pointer (some ⟨w.heap.size, 0, none⟩), .int .i64 n, .slice (some ⟨w3.heap.size, 0, none⟩) 0 0, .pointer (some ⟨w.heap.size, 1, none⟩), .slice p l.length c, .slice (some ⟨g, 0, none⟩) l.length c6, .agg #[.int .i64 n, .slice (some ⟨g, 0, none⟩) l.length c6], w3.heap.size + 1, g, c6, rest, by go_simp, (hB7.set 0 _).set 1 _, (hBg.other hN7 _).other hN7 _, hcg, by omega, hbg, below_setK (below_setK hb6 (by simp) _) (by simp) _⟩
        · simp only [Value.ownBlock, ne_eq, Option.some.injEq] at hN7
          exact ⟨.pointer (some ⟨w.heap.size, 0, none⟩), .int .i64 n, .slice (some ⟨w3.heap.size + 1, 0, none⟩) 0 0, .pointer (some ⟨w.heap.size, 1, none⟩), .slice p l.length c, .slice (some ⟨g, 0, none⟩) l.length c6, .agg #[.int .i64 n, .slice (some ⟨g, 0, none⟩) l.length c6], w3.heap.size, g, c6, rest, by go_simp, (hB7.set 0 _).set 1 _, (hBg.other hN7 _).other hN7 _, hcg, by omega, hbg, below_setK (below_setK hb6 (by simp) _) (by simp) _⟩
      rintro a4 w4 ⟨v34, v35, v36, v37, v38, v39, v40, k, g, cap, rest, rfl, hK, hB, hcap, hk3, hg3', hb4⟩
      have hkg : k ≠ g := fun e => by
        subst e
        have h2 := (show w4.heap[k]? = _ from hK).symm.trans (show w4.heap[k]? = _ from hB)
        simp at h2
      clear hi hz0 hz1 hz2 hX3 hl3 hb0 hd1 hd2
      go_wp2
      go_loopw [8] (fun i wr => ∃ (j : Nat) (l' : List Ed), j ≤ a.length ∧ i = .int .i64 j ∧ Shuf n l l' ∧ Blk 50 wr g (flat l' ++ rest) ∧ Blk 30 wr k [.int .i64 n, .slice (some ⟨g, 0, none⟩) l.length cap] ∧ Below w3.heap.size w3 wr) (fun i _ => a.length - (intOf i).toNat)
      case atStart => exact ⟨0, l, Nat.zero_le _, rfl, Shuf.start hR, hB, hK, hb4⟩
      case round =>
        obtain ⟨j, l', hj, rfl, hs, hG, hKr, hb⟩ := hrel
        have hbwr := hbw.trans (hb.mono hbw.size)
        have hgl := hG.lt
        have hkl := hKr.lt
        have k0 := hKr.cell (j := 0) rfl
        have k1 := hKr.cell (j := 1) rfl
        by_cases hjj : j < a.length ∧ j < b.length
        · obtain ⟨hja, hjb⟩ := hjj
          obtain ⟨ba, offa, rfl, hba, hcapa, hca⟩ := hA.open hja
          obtain ⟨b2, off2, rfl, hb2, hcap2, hc2⟩ := hBs.open hjb
          have c0 := hca wr hbwr j hja
          have c1 := hc2 wr hbwr j hjb
          have h1 : (j : Int) < (a.length : Int) := by omega
          have h2 : (j : Int) < (b.length : Int) := by omega
          clear hca hc2
          go_wp2
          go_quiet (fail)
          have hxb : (a[j].tmod (l.length : Int)) < (l.length : Int) := Int.tmod_lt_of_pos _ (by omega)
          have hyb : (b[j].tmod (l.length : Int)) < (l.length : Int) := Int.tmod_lt_of_pos _ (by omega)
          have hGq : Blk 50 (wr.drewN nq) g (flat l' ++ rest) := hG
          have hKq : Blk 30 (wr.drewN nq) k [.int .i64 n, .slice (some ⟨g, 0, none⟩) l.length cap] := hKr
          have hbq : Below w3.heap.size w3 (wr.drewN nq) := below_drewN hb nq
          have hgq : g < (wr.drewN nq).heap.size := hgl
          have hkq : k < (wr.drewN nq).heap.size := hkl
          generalize a[j].tmod (l.length : Int) = x at hxb ⊢
          generalize b[j].tmod (l.length : Int) = y at hyb ⊢
          generalize wr.drewN nq = w8 at hGq hKq hbq hgq hkq ⊢
          clear hG hb c0 c1 hbwr k0 k1 hKr
          by_cases hx0 : x < 0
          · go_wp2
            exact ⟨⟨j + 1, l', by omega, by go_num, hs, hGq, hKq, hbq⟩, by simp [intOf]; omega⟩
          · by_cases hy0 : y < 0
            · have hxd : decide (x < 0) = false := by simpa using hx0
              go_wp2
              exact ⟨⟨j + 1, l', by omega, by go_num, hs, hGq, hKq, hbq⟩, by simp [intOf]; omega⟩
            · obtain ⟨x, rfl⟩ : ∃ z : Nat, x = (z : Int) := ⟨x.toNat, by omega⟩
              obtain ⟨y, rfl⟩ : ∃ z : Nat, y = (z : Int) := ⟨y.toNat, by omega⟩
              have HSL : Hid (l'.length = l.length) := hs.len
              have hxl : x < l'.length := by have := HSL.out; omega
              have hyl : y < l'.length := by have := HSL.out; omega
              obtain ⟨x0, x1, x2⟩ := flat_room (rest := rest) (List.getElem?_eq_getElem hxl)
              obtain ⟨y0, y1, y2⟩ := flat_room (rest := rest) (List.getElem?_eq_getElem hyl)
              replace x0 := hGq.cell x0
              replace x1 := hGq.cell x1
              replace x2 := hGq.cell x2
              replace y0 := hGq.cell y0
              replace y1 := hGq.cell y1
              replace y2 := hGq.cell y2
              have kk1 := hKq.cell (j := 1) rfl
              have fz := hGq.frozen
              have fx0 := fz (x * 3)
              have fx1 := fz (x * 3 + 1)
              have fx2 := fz (x * 3 + 2)
              have fy0 := fz (y * 3)
              have fy1 := fz (y * 3 + 1)
              have fy2 := fz (y * 3 + 2)
              have hG1 : Blk 50 (((w8.setCell ⟨g, x * 3, none⟩ (.int .i64 l'[y].1)).setCell ⟨g, x * 3 + 1, none⟩ (.int .i64 l'[y].2.1)).setCell ⟨g, x * 3 + 2, none⟩ (.int .i64 l'[y].2.2)) g (flat (l'.set x l'[y]) ++ rest) := by
                have h := ((hGq.set (x * 3) (.int .i64 l'[y].1)).set (x * 3 + 1) (.int .i64 l'[y].2.1)).set (x * 3 + 2) (.int .i64 l'[y].2.2)
                rwa [set_room hxl] at h
              have hK1 : Blk 30 (((w8.setCell ⟨g, x * 3, none⟩ (.int .i64 l'[y].1)).setCell ⟨g, x * 3 + 1, none⟩ (.int .i64 l'[y].2.1)).setCell ⟨g, x * 3 + 2, none⟩ (.int .i64 l'[y].2.2)) k [.int .i64 n, .slice (some ⟨g, 0, none⟩) l.length cap] := ((hKq.other hkg _).other hkg _).other hkg _
              have hy1 : (l'.set x l'[y])[y]? = some l'[y] := by
                rw [List.getElem?_set]
                split
                · rename_i e; subst e; simp
                · exact List.getElem?_eq_getElem hyl
              obtain ⟨z0, z1, z2⟩ := flat_room (rest := rest) hy1
              replace z0 := hG1.cell z0
              replace z1 := hG1.cell z1
              replace z2 := hG1.cell z2
              have kz1 := hK1.cell (j := 1) rfl
              have fz1 := hG1.frozen
              have gz0 := fz1 (y * 3)
              have gz1 := fz1 (y * 3 + 1)
              have gz2 := fz1 (y * 3 + 2)
              clear fz hx0 hy0 fz1
              go_wp2
              go_big_region_o
              have hG2 : Blk 50 (((((((w8.setCell ⟨g, x * 3, none⟩ (.int .i64 l'[y].1)).setCell ⟨g, x * 3 + 1, none⟩ (.int .i64 l'[y].2.1)).setCell ⟨g, x * 3 + 2, none⟩ (.int .i64 l'[y].2.2)).setCell ⟨g, y * 3, none⟩ (.int .i64 l'[x].1)).setCell ⟨g, y * 3 + 1, none⟩ (.int .i64 l'[x].2.1)).setCell ⟨g, y * 3 + 2, none⟩ (.int .i64 l'[x].2.2)).drew) g (flat ((l'.set x l'[y]).set y l'[x]) ++ rest) := by
                have h := ((hG1.set (y * 3) (.int .i64 l'[x].1)).set (y * 3 + 1) (.int .i64 l'[x].2.1)).set (y * 3 + 2) (.int .i64 l'[x].2.2)
                rw [set_room (by simpa using hyl)] at h
                exact h.drew
              have hK2 : Blk 30 (((((((w8.setCell ⟨g, x * 3, none⟩ (.int .i64 l'[y].1)).setCell ⟨g, x * 3 + 1, none⟩ (.int .i64 l'[y].2.1)).setCell ⟨g, x * 3 + 2, none⟩ (.int .i64 l'[y].2.2)).setCell ⟨g, y * 3, none⟩ (.int .i64 l'[x].1)).setCell ⟨g, y * 3 + 1, none⟩ (.int .i64 l'[x].2.1)).setCell ⟨g, y * 3 + 2, none⟩ (.int .i64 l'[x].2.2)).drew) k [.int .i64 n, .slice (some ⟨g, 0, none⟩) l.length cap] := Blk.drew (((hK1.other hkg _).other hkg _).other hkg _)
              have hb2' : Below w3.heap.size w3 (((((((w8.setCell ⟨g, x * 3, none⟩ (.int .i64 l'[y].1)).setCell ⟨g, x * 3 + 1, none⟩ (.int .i64 l'[y].2.1)).setCell ⟨g, x * 3 + 2, none⟩ (.int .i64 l'[y].2.2)).setCell ⟨g, y * 3, none⟩ (.int .i64 l'[x].1)).setCell ⟨g, y * 3 + 1, none⟩ (.int .i64 l'[x].2.1)).setCell ⟨g, y * 3 + 2, none⟩ (.int .i64 l'[x].2.2)).drew) := Below.drew' ((((((hbq.setCell (p := ⟨g, _, none⟩) hg3' _).setCell (p := ⟨g, _, none⟩) hg3' _).setCell (p := ⟨g, _, none⟩) hg3' _).setCell (p := ⟨g, _, none⟩) hg3' _).setCell (p := ⟨g, _, none⟩) hg3' _).setCell (p := ⟨g, _, none⟩) hg3' _)
              generalize ((((((w8.setCell ⟨g, x * 3, none⟩ (.int .i64 l'[y].1)).setCell ⟨g, x * 3 + 1, none⟩ (.int .i64 l'[y].2.1)).setCell ⟨g, x * 3 + 2, none⟩ (.int .i64 l'[y].2.2)).setCell ⟨g, y * 3, none⟩ (.int .i64 l'[x].1)).setCell ⟨g, y * 3 + 1, none⟩ (.int .i64 l'[x].2.1)).setCell ⟨g, y * 3 + 2, none⟩ (.int .i64 l'[x].2.2)).drew = w9 at hG2 hK2 hb2' ⊢
              have hmE : Hid ((l'.set x (l'[y]?.getD (0, 0, 0))).set y (l'[x]?.getD (0, 0, 0)) = (l'.set x l'[y]).set y l'[x]) := by simp [Hid, hxl, hyl]
              have hml : x < ((l'.set x l'[y]).set y l'[x]).length := by simpa using hxl
              have hsh := hs.turn hxl hyl
              unfold turn at hsh
              rw [hmE.out] at hsh
              generalize (l'.set x l'[y]).set y l'[x] = m at hG2 hml hsh
              have e3 : m[x]?.getD (0, 0, 0) = m[x] := by simp [hml]
              rw [e3] at hsh
              obtain ⟨m0, m1, m2⟩ := flat_room (rest := rest) (List.getElem?_eq_getElem hml)
              replace m0 := hG2.cell m0
              replace m1 := hG2.cell m1
              replace m2 := hG2.cell m2
              replace kk1 := hK2.cell (j := 1) rfl
              have fz := hG2.frozen
              have gx0 := fz (x * 3)
              have gx1 := fz (x * 3 + 1)
              have gx2 := fz (x * 3 + 2)
              clear fz x0 x1 x2 y0 y1 y2 fx0 fx1 fx2 fy0 fy1 fy2 z0 z1 z2 gz0 gz1 gz2 hG1 hGq e3 kz1 hK1
              clear hE hl hA hBs hb1 hl2 hlz hR0 hR hg3 q0 q1 hbw hK hB hb4 hs hKq hbq hgq hkq hyb hy1 HSL hmE h2 hba hb2 hcapa hcap2
              go_wp2
              refine wp_region_last (S := fun w' => w'.cell? ⟨k, 1, none⟩ = some (.slice (some ⟨g, 0, none⟩) l.length cap) ∧ w'.cell? ⟨g, x * 3, none⟩ = some (.int .i64 m[x].1) ∧ w'.cell? ⟨g, x * 3 + 1, none⟩ = some (.int .i64 m[x].2.1) ∧ w'.cell? ⟨g, x * 3 + 2, none⟩ = some (.int .i64 m[x].2.2)) hmix ⟨kk1, m0, m1, m2⟩ (fun hHeld => ?_)
              refine wpAnyL_take (i := 0) (v := ?_) rfl (by kernel_rfl) (by kernel_rfl) (by kernel_rfl) (by kernel_rfl) (fun _ _ _ h => h) (Or.inl ⟨by rfl, ?_⟩) (by assumption) ?_
              rotate_left
              · intro w hSw; (try dsimp only at hSw); go_simp; (try with_reducible rfl)
              refine wpAnyL_take (i := 1) (v := ?_) rfl (by kernel_rfl) (by kernel_rfl) (by kernel_rfl) (by kernel_rfl) (fun _ _ _ h => h) (Or.inl ⟨by rfl, ?_⟩) (by assumption) ?_
              rotate_left
              · intro w hSw; (try dsimp only at hSw); go_simp; (try with_reducible rfl)
              refine wpAnyL_take (i := 2) (v := ?_) rfl (by kernel_rfl) (by kernel_rfl) (by kernel_rfl) (by kernel_rfl) (fun _ _ _ h => h) (Or.inl ⟨by rfl, ?_⟩) (by assumption) ?_
              rotate_left
              · intro w hSw; (try dsimp only at hSw); go_simp; (try with_reducible rfl)
              refine wpAnyL_take (i := 3) (v := ?_) rfl (by kernel_rfl) (by kernel_rfl) (by kernel_rfl) (by kernel_rfl) (fun _ _ _ h => h) (Or.inl ⟨by rfl, ?_⟩) (by assumption) ?_
              rotate_left
              · intro w hSw; (try dsimp only at hSw); go_simp; (try with_reducible rfl)
              refine wpAnyL_take (i := 4) (v := ?_) rfl (by kernel_rfl) (by kernel_rfl) (by kernel_rfl) (by kernel_rfl) (fun _ _ _ h => h) (Or.inl ⟨by rfl, ?_⟩) (by assumption) ?_
              rotate_left
              · intro w hSw; (try dsimp only at hSw); go_simp; (try with_reducible rfl)
              refine wpAnyL_take (i := 5) (v := ?_) rfl (by kernel_rfl) (by kernel_rfl) (by kernel_rfl) (by kernel_rfl) (fun _ _ _ h => h) (Or.inl ⟨by rfl, ?_⟩) (by assumption) ?_
              rotate_left
              · intro w hSw; (try dsimp only at hSw); go_simp; (try with_reducible rfl)
              refine wpAnyL_take (i := 6) (v := ?_) rfl (by kernel_rfl) (by kernel_rfl) (by kernel_rfl) (by kernel_rfl) (fun _ _ _ h => h) (Or.inl ⟨by rfl, ?_⟩) (by assumption) ?_
              rotate_left
              · intro w hSw; (try dsimp only at hSw); go_simp; (try with_reducible rfl)
              refine wpAnyL_take (i := 7) (v := ?_) rfl (by kernel_rfl) (by kernel_rfl) (by kernel_rfl) (by kernel_rfl) (fun _ _ _ h => h) (Or.inl ⟨by rfl, ?_⟩) (by assumption) ?_
              rotate_left
              · intro w hSw; (try dsimp only at hSw); go_simp; (try with_reducible rfl)
              refine wpAnyL_take (i := 8) (v := ?_) rfl (by kernel_rfl) (by kernel_rfl) (by kernel_rfl) (by kernel_rfl) (fun _ _ _ h => h) (Or.inl ⟨by rfl, ?_⟩) (by assumption) ?_
              rotate_left
              · intro w hSw; (try dsimp only at hSw); go_simp; (try with_reducible rfl)
              refine wpAnyL_take (i := 9) (v := ?_) rfl (by kernel_rfl) (by kernel_rfl) (by kernel_rfl) (by kernel_rfl) (fun _ _ _ h => h) (Or.inl ⟨by rfl, ?_⟩) (by assumption) ?_
              rotate_left
              · intro w hSw; (try dsimp only at hSw); go_simp; (try with_reducible rfl)
              refine wpAnyL_take (i := 10) (v := ?_) rfl (by kernel_rfl) (by kernel_rfl) (by kernel_rfl) (by kernel_rfl) (fun _ _ _ h => h) (Or.inl ⟨by rfl, ?_⟩) (by assumption) ?_
              rotate_left
              · intro w hSw; (try dsimp only at hSw); go_simp; (try with_reducible rfl)
              refine wpAnyL_take (i := 11) (v := ?_) rfl (by kernel_rfl) (by kernel_rfl) (by kernel_rfl) (by kernel_rfl) (fun _ _ _ h => h) (Or.inl ⟨by rfl, ?_⟩) (by assumption) ?_
              rotate_left
              · intro w hSw; (try dsimp only at hSw); go_simp; (try with_reducible rfl)
              refine wpAnyL_take (i := 12) (v := ?_) rfl (by kernel_rfl) (by kernel_rfl) (by kernel_rfl) (by kernel_rfl) (fun _ _ _ h => h) (Or.inl ⟨by rfl, ?_⟩) (by assumption) ?_
              rotate_left
              · intro w hSw; (try dsimp only at hSw); go_simp; (try with_reducible rfl)
              refine wpAnyL_take (i := 13) (v := ?_) rfl (by kernel_rfl) (by kernel_rfl) (by kernel_rfl) (by kernel_rfl) (fun _ _ _ h => h) (Or.inl ⟨by rfl, ?_⟩) (by assumption) ?_
              rotate_left
              · intro w hSw; (try dsimp only at hSw); go_simp; (try with_reducible rfl)
              refine wpAnyL_take (i := 14) (v := ?_) rfl (by kernel_rfl) (by kernel_rfl) (by kernel_rfl) (by kernel_rfl) (fun _ _ _ h => h) (Or.inl ⟨by rfl, ?_⟩) (by assumption) ?_
              rotate_left
              · intro w hSw; (try dsimp only at hSw); go_simp; (try with_reducible rfl)
              refine wpAnyL_take (i := 15) (v := ?_) rfl (by kernel_rfl) (by kernel_rfl) (by kernel_rfl) (by kernel_rfl) (fun _ _ _ h => h) (Or.inl ⟨by rfl, ?_⟩) (by assumption) ?_
              rotate_left
              · intro w hSw; (try dsimp only at hSw); go_simp; (try with_reducible rfl)
              refine wpAnyL_take (i := 16) (v := ?_) rfl (by kernel_rfl) (by kernel_rfl) (by kernel_rfl) (by kernel_rfl) (fun _ _ _ h => h) (Or.inl ⟨by rfl, ?_⟩) (by assumption) ?_
              rotate_left
              · intro w hSw; (try dsimp only at hSw); go_simp; (try with_reducible rfl)
              refine wpAnyL_take (i := 17) (v := ?_) rfl (by kernel_rfl) (by kernel_rfl) (by kernel_rfl) (by kernel_rfl) (fun _ _ _ h => h) (Or.inl ⟨by rfl, ?_⟩) (by assumption) ?_
              rotate_left
              · intro w hSw; (try dsimp only at hSw); go_simp; (try with_reducible rfl)
              refine wpAnyL_take (i := 18) (v := ?_) rfl (by kernel_rfl) (by kernel_rfl) (by kernel_rfl) (by kernel_rfl) (fun _ _ _ h => h) (Or.inl ⟨by rfl, ?_⟩) (by assumption) ?_
              rotate_left
              · intro w hSw; (try dsimp only at hSw); go_simp; (try with_reducible rfl)
              refine wpAnyL_take (i := 19) (v := ?_) rfl (by kernel_rfl) (by kernel_rfl) (by kernel_rfl) (by kernel_rfl) (fun _ _ _ h => h) (Or.inl ⟨by rfl, ?_⟩) (by assumption) ?_
              rotate_left
              · intro w hSw; (try dsimp only at hSw); go_simp; (try with_reducible rfl)
              refine wpAnyL_take (i := 20) (v := ?_) rfl (by kernel_rfl) (by kernel_rfl) (by kernel_rfl) (by kernel_rfl) (fun _ _ _ h => h) (Or.inl ⟨by rfl, ?_⟩) (by assumption) ?_
              rotate_left
              · intro w hSw; (try dsimp only at hSw); go_simp; (try with_reducible rfl)
              refine wpAnyL_take (i := 21) (v := ?_) rfl (by kernel_rfl) (by kernel_rfl) (by kernel_rfl) (by kernel_rfl) (fun _ _ _ h => h) (Or.inl ⟨by rfl, ?_⟩) (by assumption) ?_
              rotate_left
              · intro w hSw; (try dsimp only at hSw); go_simp; (try with_reducible rfl)
              refine wpAnyL_take (i := 22) (v := ?_) rfl (by kernel_rfl) (by kernel_rfl) (by kernel_rfl) (by kernel_rfl) (fun _ _ _ h => h) (Or.inl ⟨by rfl, ?_⟩) (by assumption) ?_
              rotate_left
              · intro w hSw; (try dsimp only at hSw); go_simp; (try with_reducible rfl)
              refine wpAnyL_ready (rs := [23]) (by kernel_rfl) (by simp) ?_
              refine AllReadyL.last rfl (by kernel_rfl) (fun K hK => ?_)
              go_simp
              refine hK.out _ _ ?_
              clear hK K
              refine wpAnyL_done (by kernel_rfl) ?_ _
              go_wp2
              have hG3 := ((hG2.set (x * 3) (.int .i64 (flip m[x]).1)).set (x * 3 + 1) (.int .i64 (flip m[x]).2.1)).set (x * 3 + 2) (.int .i64 (flip m[x]).2.2)
              rw [set_room hml] at hG3
              refine ⟨⟨j + 1, m.set x (flip m[x]), by omega, by go_num, hsh, hG3.drew, Blk.drew (((hK2.other hkg _).other hkg _).other hkg _), ?_⟩, by simp [intOf]; omega⟩
              exact Below.drew' (((hb2'.setCell (p := ⟨g, _, none⟩) hg3' _).setCell (p := ⟨g, _, none⟩) hg3' _).setCell (p := ⟨g, _, none⟩) hg3' _)
        · have HSL : Hid (l'.length = l.length) := hs.len
          obtain ⟨hk0, hn0, hl0'⟩ := hs.made hR
          have hEd := hG.edges_room (cap := cap) (by have := HSL.out; omega)
          rw [HSL.out] at hEd
          have hn64 : In64 n := by have := hR.n0; have := hR.n1; unfold In64; omega
          have hpr := refPrint_any n hn64 l' (by have := HSL.out; omega) (fun e he => ok64 hR.n1 (hs.ok e he)) _ _ hEd
          have hpm := parse_back hR.n0 hR.n1 (by have := HSL.out; omega) hs.ok
          rw [hk0, hn0, hl0', if_pos rfl] at hpm
          have hsm : ((printL n l').map fun b => (b.toNat : Int)).length ≤ 140737488355328 := by
            have h1 := edges_len l' (fun e he => ok64 hR.n1 (hs.ok e he))
            have h2 := lineL_len graphB [n, (l'.length : Int)] (by
              intro x hx
              simp at hx
              have := hR.n0
              have := hR.n1
              have := HSL.out
              unfold In64
              omega)
            have e1 : graphB.size = 5 := rfl
            have e2 : [n, (l'.length : Int)].length = 2 := rfl
            have := HSL.out
            rw [List.length_map, printL, List.length_append, tellH]
            omega
          rw [printB_list] at hpr
          generalize ((printL n l').map fun b => (b.toNat : Int)) = Y at hpr hpm hsm
          have hcond : (decide ((j : Int) < (a.length : Int)) && decide ((j : Int) < (b.length : Int))) = false := by
            simp; omega
          have hsize3 : w.heap.size < w3.heap.size := World.block_lt_of_cell? w3 ⟨w.heap.size, 0, none⟩ q0
          have d0 := (hb.cell (p := ⟨w.heap.size, 0, none⟩) hsize3).trans q0
          have d1 := (hb.cell (p := ⟨w.heap.size, 1, none⟩) hsize3).trans q1
          have hls : l.length ≤ 4194304 := by omega
          clear hk0 hn0 hl0' hEd hB hK hb4 hG hs
          rcases (by omega : (j : Int) < (a.length : Int) ∧ ¬ (j : Int) < (b.length : Int) ∨ ¬ (j : Int) < (a.length : Int)) with ⟨hja, hjb⟩ | hja
          · go_wp2_with fail
            refine hpr.mono ?_
            clear hpr
            rintro e w7 ⟨bv, rfl, hB7, hb7⟩
            have hbw7 := below_keep hb7 hbwr (Nat.le_refl _)
            have hpp := parse_any Y hsm _ _ (hE.go hbw7) hB7
            rw [hpm] at hpp
            go_wp2_with fail
            refine hpp.mono ?_
            clear hpp hpm
            rintro e w9 ⟨gp, ep, rfl, hp9, rfl, hb9⟩
            obtain ⟨pp, cp, rfl⟩ := hp9.len
            have hbw9 := below_keep hb9 hbw7 (Nat.le_refl _)
            have hb10 : Below w9.heap.size w9 (w9.alloc (.cells #[.int .i64 n, .slice pp l.length cp] 30)) := (Below.refl _ _).alloc (Nat.le_refl _) _
            have hP10 : Blk 30 (w9.alloc (.cells #[.int .i64 n, .slice pp l.length cp] 30)) w9.heap.size [.int .i64 n, .slice pp l.length cp] := heap_alloc_new w9 _
            have hbw10 := below_keep hb10 hbw9 (Nat.le_refl _)
            have s0 := hP10.cell (j := 0) rfl
            have s1 := hP10.cell (j := 1) rfl
            have g0 := cell_keep hb10 (cell_keep hb9 (cell_keep hb7 d0))
            have g1 := cell_keep hb10 (cell_keep hb9 (cell_keep hb7 d1))
            have hlt9 : w.heap.size < w9.heap.size := World.block_lt_of_cell? w9 ⟨w.heap.size, 0, none⟩ (cell_keep hb9 (cell_keep hb7 d0))
            have hss := refSame_any n n l l hls _ _ _ (hp9.go hb10) (hl.go hbw10)
            rw [decide_eq_true (⟨rfl, rfl⟩ : n = n ∧ l = l)] at hss
            go_wp2_with fail
            refine hss.mono ?_
            clear hss
            rintro e w11 ⟨rfl, hg11⟩
            have hbw11 := below_keep hg11.below hbw10 (Nat.le_refl _)
            have hal := alive_any _ (hE.go hbw11)
            go_wp2_with fail
            refine hal.mono ?_
            rintro e w12 ⟨rfl, hb12⟩
            go_wp2
            go_ret
            exact ⟨rfl, below_keep hb12 hbw11 (Nat.le_refl _)⟩
          · go_wp2_with fail
            refine hpr.mono ?_
            clear hpr
            rintro e w7 ⟨bv, rfl, hB7, hb7⟩
            have hbw7 := below_keep hb7 hbwr (Nat.le_refl _)
            have hpp := parse_any Y hsm _ _ (hE.go hbw7) hB7
            rw [hpm] at hpp
            go_wp2_with fail
            refine hpp.mono ?_
            clear hpp hpm
            rintro e w9 ⟨gp, ep, rfl, hp9, rfl, hb9⟩
            obtain ⟨pp, cp, rfl⟩ := hp9.len
            have hbw9 := below_keep hb9 hbw7 (Nat.le_refl _)
            have hb10 : Below w9.heap.size w9 (w9.alloc (.cells #[.int .i64 n, .slice pp l.length cp] 30)) := (Below.refl _ _).alloc (Nat.le_refl _) _
            have hP10 : Blk 30 (w9.alloc (.cells #[.int .i64 n, .slice pp l.length cp] 30)) w9.heap.size [.int .i64 n, .slice pp l.length cp] := heap_alloc_new w9 _
            have hbw10 := below_keep hb10 hbw9 (Nat.le_refl _)
            have s0 := hP10.cell (j := 0) rfl
            have s1 := hP10.cell (j := 1) rfl
            have g0 := cell_keep hb10 (cell_keep hb9 (cell_keep hb7 d0))
            have g1 := cell_keep hb10 (cell_keep hb9 (cell_keep hb7 d1))
            have hlt9 : w.heap.size < w9.heap.size := World.block_lt_of_cell? w9 ⟨w.heap.size, 0, none⟩ (cell_keep hb9 (cell_keep hb7 d0))
            have hss := refSame_any n n l l hls _ _ _ (hp9.go hb10) (hl.go hbw10)
            rw [decide_eq_true (⟨rfl, rfl⟩ : n = n ∧ l = l)] at hss
            go_wp2_with fail
            refine hss.mono ?_
            clear hss
            rintro e w11 ⟨rfl, hg11⟩
            have hbw11 := below_keep hg11.below hbw10 (Nat.le_refl _)
            have hal := alive_any _ (hE.go hbw11)
            go_wp2_with fail
            refine hal.mono ?_
            rintro e w12 ⟨rfl, hb12⟩
            go_wp2
            go_ret
            exact ⟨rfl, below_keep hb12 hbw11 (Nat.le_refl _)⟩
    · have hk1 : (rightK n l != 0) = true := by simpa using hR0
      go_enter Tryz.func7, Tryz.ntmps7
      go_wp2_with fail
      refine hrr.mono ?_
      clear hrr
      rintro e w3 ⟨rfl, hg3⟩
      have hw3 := hb1.trans (hg3.below.mono hb1.size)
      have hal := alive_any _ (hE.go hw3)
      go_wp2_with fail
      refine hal.mono ?_
      rintro e w4 ⟨rfl, hb4⟩
      go_wp2
      go_ret
      exact ⟨rfl, hw3.trans (hb4.mono hw3.size)⟩
  · have hal := alive_any _ hE1
    rcases (by omega : (200 : Int) < (l.length : Int) ∨ ((l.length : Int) ≤ 200 ∧ (100 : Int) < (a.length : Int)) ∨ ((l.length : Int) ≤ 200 ∧ (a.length : Int) ≤ 100 ∧ l.length = 0)) with hd | ⟨hd, hd2⟩ | ⟨hd, hd2, hd3⟩
    · go_enter Tryz.func7, Tryz.ntmps7
      go_wp2_with fail
      refine hal.mono ?_
      rintro e w2 ⟨rfl, hb2⟩
      go_wp2
      go_ret
      exact ⟨rfl, hb1.trans (hb2.mono hb1.size)⟩
    · have hd1 : ¬ (200 : Int) < (l.length : Int) := by omega
      go_enter Tryz.func7, Tryz.ntmps7
      go_wp2_with fail
      refine hal.mono ?_
      rintro e w2 ⟨rfl, hb2⟩
      go_wp2
      go_ret
      exact ⟨rfl, hb1.trans (hb2.mono hb1.size)⟩
    · have hd1 : ¬ (200 : Int) < (l.length : Int) := by omega
      have hd4 : ¬ (100 : Int) < (a.length : Int) := by omega
      have hlz : ((l.length : Int) == 0) = true := by rw [beq_iff_eq]; omega
      clear hd3 hd hd2 hgo
      go_enter Tryz.func7, Tryz.ntmps7
      go_wp2_with fail
      refine hal.mono ?_
      rintro e w2 ⟨rfl, hb2⟩
      go_wp2
      go_ret
      exact ⟨rfl, hb1.trans (hb2.mono hb1.size)⟩
end Go.Proofs.YthlkknfhganecaaGreatDoor
