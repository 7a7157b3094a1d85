/-
  The contract of levels.spread: each vertex's level.
-/
import Derived.OwnWalk
import Derived.Maps.AppendAt
import Derived.Test.YtdgecflljgnobaaXRNear
import Derived.Test.YtdgecflljgnobaaXPRefLab
import Derived.Test.YtdgecflljgnobaaXPLeave
import Derived.Test.YtdgecflljgnobaaXLvMath
namespace Go.Proofs.Ytdgecflljgnobaa
open Go Go.Proofs Go.RowKit

/-- The vertices of a line, as numbers. -/
def lineN (Q : List Nat) : List Int := Q.map fun x : Nat => (x : Int)
theorem lineN_len (Q : List Nat) : (lineN Q).length = Q.length := by simp [lineN]
theorem lineN_snoc (Q : List Nat) (u : Nat) : lineN (Q ++ [u]) = lineN Q ++ [(u : Int)] := by simp [lineN]

/-- What spread has in memory: the graph, its neighbours, the levels. -/
structure LvS (N x nz gl z : Nat) (nv sv : Value) (l : List Ed) (w0 : World) (L : List Int) (W : World) : Prop where
  gr : Blk 24 W x [.int .i64 (N : Int), sv]
  nr : Lsts nz W nv (nearL N l)
  lv : Blk 3 W gl (L.map (Value.int .i64))
  ll : L.length = N
  bel : Below x w0 W
  o : x < nz ∧ nz ≤ gl ∧ gl < z
theorem LvS.hi {N x nz gl z : Nat} {nv sv : Value} {l : List Ed} {w0 W W' : World} {L : List Int} (h : LvS N x nz gl z nv sv l w0 L W) (hb : Below z W W') : LvS N x nz gl z nv sv l w0 L W' := by
  have ho := h.o
  exact ⟨h.gr.below hb (by omega), h.nr.below (hb.mono (by omega)), h.lv.below hb (by omega), h.ll, h.bel.trans (hb.mono (by omega)), ho⟩
theorem LvS.set {N x nz gl z : Nat} {nv sv : Value} {l : List Ed} {w0 W : World} {L : List Int} (h : LvS N x nz gl z nv sv l w0 L W) (v : Nat) (y : Int) : LvS N x nz gl z nv sv l w0 (L.set v y) (W.setCell ⟨gl, v, none⟩ (.int .i64 y)) := by
  have ho := h.o
  refine ⟨h.gr.other (p := ⟨gl, v, none⟩) (by show x ≠ gl; omega) _, h.nr.below ((Below.refl nz W).setCell (p := ⟨gl, v, none⟩) (by show nz ≤ gl; omega) _), ?_, by rw [List.length_set]; exact h.ll, h.bel.setCell (p := ⟨gl, v, none⟩) (by show x ≤ gl; omega) _, ho⟩
  rw [List.map_set]
  exact h.lv.set v _
theorem LvS.at {N x nz gl z : Nat} {nv sv : Value} {l : List Ed} {w0 W : World} {L : List Int} (h : LvS N x nz gl z nv sv l w0 L W) {v : Nat} (hv : v < N) : W.cell? ⟨gl, v, none⟩ = some (.int .i64 (L.getD v 0)) := by
  have hl := h.ll
  exact h.lv.cell (by rw [List.getElem?_map, List.getElem?_eq_getElem (by omega)]; simp [show v < L.length by omega])
theorem owns_lineL {W : World} {base b n c : Nat} {Q : List Nat} (h : W.ownsRow base 3 1 (.slice (some ⟨b, 0, none⟩) n c) n ((lineN Q).map (Value.int .i64))) (hn : n = Q.length) {k q : Nat} (hk : Q[k]? = some q) : W.cell? ⟨b, k, none⟩ = some (.int .i64 (q : Int)) := by
  have hlt := (List.getElem?_eq_some_iff.1 hk).1
  rw [h.cellAt k (by omega), List.getElem?_map, lineN, List.getElem?_map, hk]
  rfl

set_option maxRecDepth 100000 in
set_option maxHeartbeats 8000000 in
theorem spread_any (N : Nat) (l : List Ed) (hR : RightG (N : Int) l) (sv : Value) (w : World) (hl : Edges w.heap.size w sv l) :
    Calls Try.prog 20 #[.agg #[.int .i64 (N : Int), sv]] w fun r w' => ∃ (g : Nat) (L : List Int), r = .returned (.slice (some ⟨g, 0, none⟩) N N) ∧ w.heap.size < g ∧ Blk 3 w' g (L.map (Value.int .i64)) ∧ Lev N l L ∧ Below w.heap.size w w' := by
  have hmix := mixed
  obtain ⟨p, c, rfl⟩ := hl.len
  have hN := hR.n1
  have HR : Hid (RightG (N : Int) l) := hR
  obtain ⟨w1, hw1⟩ : ∃ W, (w.alloc (.cells #[.int .i64 (N : Int), .slice p l.length c] 24)) = W := ⟨_, rfl⟩
  have hb1 : Below w.heap.size w w1 := by rw [← hw1]; exact (Below.refl _ _).alloc (Nat.le_refl _) _
  have hX1 : Blk 24 w1 w.heap.size [.int .i64 (N : Int), .slice p l.length c] := by rw [← hw1]; exact heap_alloc_new w _
  have hnr := near_any N l hR (.slice p l.length c) w1 (hl.go hb1)
  have x0 := hX1.cell (j := 0) rfl
  have x1 := hX1.cell (j := 1) rfl
  have HX1 : Hid (Blk 24 w1 w.heap.size [.int .i64 (N : Int), .slice p l.length c]) := hX1
  have HB1 : Hid (Below w.heap.size w w1) := hb1
  clear hl hb1 hX1 hR
  go_enter Try.func20, Try.ntmps20
  go_wp2_with fail
  refine hnr.mono ?_
  rintro e w2 ⟨nv, rfl, hN2, hb2⟩
  clear hnr x0 x1 hw1
  have hX2 := HX1.out.go hb2
  have x0 := hX2.cell (j := 0) rfl
  have HX2 : Hid (Blk 24 w2 w.heap.size [.int .i64 (N : Int), .slice p l.length c]) := hX2
  have HB2 : Hid (Below w.heap.size w w2) := HB1.out.trans (hb2.mono HB1.out.size)
  have HN2 : Hid (Lsts w2.heap.size w2 nv (nearL N l)) := hN2
  have hx2 := hX2.lt
  obtain ⟨np, nc, rfl⟩ := hN2.len
  rw [nearL_len] at *
  clear hX2 hb2 hN2 HX1 HB1
  obtain ⟨i0, hi, hz0, hz1, hz2⟩ := info_parts infoI
  go_wp2_with (at_make; refine wpList_make_full _ rfl _ _ 27 rfl w2.heap.size 3 i0 (.int .i64 0) 1 Try.underlying27 hi hz0 hz1 .i64 .i64 _ _ N rfl rfl rfl rfl (by rw [hz2]; omega) (by unfold maxLen; omega) (Nat.le_refl _) ?_; intro w3 hown hgrow; have hb3 : Below w2.heap.size w2 w3 := (Below.refl _ _).grown hgrow (Nat.le_refl _) (fun k e => by cases e))
  have hrow := Blk.made hown
  rw [ints_made] at hrow
  have HS3 : Hid (LvS N w.heap.size w2.heap.size w2.heap.size w3.heap.size (.slice np N nc) (.slice p l.length c) l w (List.replicate N 0) w3) := ⟨HX2.out.go hb3, HN2.out.below hb3, hrow, List.length_replicate, HB2.out.trans (hb3.mono (by omega)), hx2, Nat.le_refl _, hrow.lt⟩
  clear HX2 HB2 HN2 hown hgrow hrow hb3 x0
  obtain ⟨x, hx⟩ : ∃ n, w.heap.size = n := ⟨_, rfl⟩
  obtain ⟨gl, hgl⟩ : ∃ n, w2.heap.size = n := ⟨_, rfl⟩
  obtain ⟨z, hz⟩ : ∃ n, w3.heap.size = n := ⟨_, rfl⟩
  have HXX : Hid (w.heap.size = x) := hx
  have HZ : Hid (w3.heap.size = z) := hz
  rw [hx, hgl, hz] at HS3
  rw [hgl] at *
  rw [hx] at hx2 ⊢
  clear hx hgl hz
  go_loopw [19] (fun i wr => ∃ (j : Nat) (L : List Int), j ≤ N ∧ i = .int .i64 (j : Int) ∧ z ≤ wr.heap.size ∧ Hid (LvS N x gl gl z (.slice np N nc) (.slice p l.length c) l w L wr) ∧ Hid (∀ v, v < j → L.getD v 0 = -1)) (fun i _ => N - (intOf i).toNat)
  case atStart => exact ⟨0, _, Nat.zero_le _, rfl, by rw [HZ.out]; exact Nat.le_refl _, HS3, fun v h => absurd h (by omega)⟩
  case round =>
    clear HS3 HZ
    obtain ⟨j, L, hj, rfl, hzw, HS, HL⟩ := hrel
    by_cases hlt : j < N
    · have hjl : (j : Int) < (N : Int) := by omega
      have m0 := HS.out.at hlt
      have mf := HS.out.lv.frozen j
      have HSN : Hid _ := HS.out.set j (-1)
      have HL2 : Hid (∀ v, v < j + 1 → (L.set j (-1)).getD v 0 = -1) := fun v hv => by
        have := HS.out.ll
        by_cases e : v = j
        · rw [e]; simp [show j < L.length by omega]
        · have h1 := HL.out v (by omega)
          rw [← h1]
          simp only [List.getD_eq_getElem?_getD]
          rw [List.getElem?_set_ne (by omega)]
      go_wp2
      exact ⟨⟨j + 1, _, by omega, by go_num, by simpa using hzw, HSN, HL2⟩, by simp [intOf]; omega⟩
    · obtain rfl : N = j := by omega
      have hrep : L = List.replicate N (-1) := by
        apply List.ext_getElem
        · rw [HS.out.ll, List.length_replicate]
        · intro v h1 h2
          have h3 := HL.out v (by have := HS.out.ll; omega)
          have h4 : L.getD v 0 = L[v] := by simp [h1]
          rw [List.getElem_replicate]; omega
      have HM : Hid (Met N l 0 L) := by rw [hrep]; exact Met.start HR.out
      have x0 := HS.out.gr.cell (j := 0) rfl
      clear HL hrep hlt
      obtain ⟨i2, hi, hz0, hz1, hz2⟩ := info_parts infoI
      go_wp2_with (at_make; refine wpList_make_own _ rfl _ _ 27 rfl z 3 i2 (.int .i64 0) 1 Try.underlying27 hi hz0 hz1 .i64 .i64 _ N rfl rfl rfl (by rw [hz2]; omega) (by unfold maxLen; omega) hzw ?_; intro w4 hown4 hg4; have hb4 : Below z wr w4 := (Below.refl _ _).grown hg4 hzw (fun k e => by cases e); have HS4 : Hid (LvS N x gl gl z (.slice np N nc) (.slice p l.length c) l w L w4) := HS.out.hi hb4; have x0 := HS4.out.gr.cell (j := 0) rfl)
      have HO4 : Hid (∃ q cq, Value.slice (some ⟨wr.heap.size, 0, none⟩) 0 N = .slice (some ⟨q, 0, none⟩) ([] : List Nat).length cq ∧ w4.ownsRow z 3 1 (.slice (some ⟨q, 0, none⟩) ([] : List Nat).length cq) ([] : List Nat).length ((lineN []).map (Value.int .i64))) := ⟨wr.heap.size, N, rfl, hown4⟩
      have hz4 : z ≤ w4.heap.size := Nat.le_trans hzw hb4.size
      clear hown4 hg4 hb4 HS hi hz0 hz1 hz2 x0
      go_loopw [6, 31] (fun qv iv wr => ∃ (f : Nat) (L : List Int) (Q : List Nat), f ≤ N ∧ iv = .int .i64 (f : Int) ∧ z ≤ wr.heap.size ∧ Hid (LvS N x gl gl z (.slice np N nc) (.slice p l.length c) l w L wr) ∧ Hid (∃ q cq, qv = .slice (some ⟨q, 0, none⟩) Q.length cq ∧ wr.ownsRow z 3 1 (.slice (some ⟨q, 0, none⟩) Q.length cq) Q.length ((lineN Q).map (Value.int .i64))) ∧ Hid (Met N l f L)) (fun _ iv _ => N - (intOf iv).toNat)
      case atStart => exact ⟨0, L, [], Nat.zero_le _, rfl, hz4, HS4, HO4, HM⟩
      case round =>
        clear HS4 HO4 HM hz4 hzw
        obtain ⟨f, A, Q0, hf, rfl, hzw, HS, HO, HM⟩ := hrel
        obtain ⟨q0, c0, rfl, hO⟩ := HO.out
        by_cases hlt : f < N
        · have hfl : (f : Int) < (N : Int) := by omega
          have a0 := HS.out.at hlt
          have af := HS.out.lv.frozen f
          have HF : Hid (f < N) := hlt
          by_cases hm : A.getD f 0 = -1
          · have hm' : (A.getD f 0 != (-1 : Int)) = false := by rw [hm]; rfl
            have HRun : Hid (Run N l f (A) (A.set f 0) [f] 0 0) := Run.start HR.out HM.out hlt hm
            have HS5 := HS.out.set f 0
            generalize A.getD f 0 = a at a0 hm'
            have ho := HS.out.o
            have HS5h : Hid (LvS N x gl gl z (.slice np N nc) (.slice p l.length c) l w (A.set f 0) (wr.setCell ⟨gl, f, none⟩ (.int .i64 0))) := HS5
            have hO5 : (wr.setCell ⟨gl, f, none⟩ (.int .i64 0)).ownsRow z 3 1 (.slice (some ⟨q0, 0, none⟩) 0 c0) 0 [] := by
              have h1 := owns_shrink (owns_lowset hO (p := ⟨gl, f, none⟩) (by show gl < z; omega) (.int .i64 0)) (m := 0) (Nat.zero_le _)
              simpa using h1
            have hszW : (wr.setCell ⟨gl, f, none⟩ (.int .i64 0)).heap.size = wr.heap.size := by simp
            have hbA : Below (wr.setCell ⟨gl, f, none⟩ (.int .i64 0)).heap.size (wr.setCell ⟨gl, f, none⟩ (.int .i64 0)) ((wr.setCell ⟨gl, f, none⟩ (.int .i64 0)).alloc (.cells #[.int .i64 (f : Int)] 3)) := (Below.refl _ _).alloc (Nat.le_refl _) _
            have hOA := World.ownsRow.alloc hO5 (.cells #[.int .i64 (f : Int)] 3)
            have hnews := one_cell (wr.setCell ⟨gl, f, none⟩ (.int .i64 0)) (.int .i64 (f : Int)) 3
            rw [hszW] at hnews
            have hone : ∀ y ∈ [Value.int .i64 (f : Int)], y.oneCell' = true := fun y hy => by rw [List.mem_singleton.1 hy]; rfl
            have hz5 : z ≤ (wr.setCell ⟨gl, f, none⟩ (.int .i64 0)).heap.size := by rw [hszW]; exact hzw
            have hbs : z ≤ ((wr.setCell ⟨gl, f, none⟩ (.int .i64 0)).alloc (.cells #[.int .i64 (f : Int)] 3)).heap.size := Nat.le_trans hz5 hbA.size
            have hlow : ∀ k, (Value.slice (some ⟨q0, 0, none⟩) 0 c0).ownBlock = some k → z ≤ k := fun k hk => (hO5.lt k hk).1
            obtain ⟨i3, hi, hz0, hz1, hz2⟩ := info_parts infoI
            have hc0 : (0 : Int) ≤ (c0 : Int) := by omega
            clear HS HM ho hm HO hO hO5 HS5
            go_wp2_with (at_builtin; refine wpList_append_own_at _ rfl _ _ 27 rfl z 3 i3 (.int .i64 0) 1 8 Try.underlying27 hi hz0 hz1 hz2 rfl (by decide) (.slice (some ⟨q0, 0, none⟩) 0 c0) _ _ rfl hOA ⟨wr.heap.size, 0, none⟩ 1 1 [.int .i64 (f : Int)] rfl rfl hnews hone (by unfold maxLen; omega) (by omega) hbs ?_)
            intro v6 w6 hown6 hg6 hnil6 hat6
            obtain ⟨q6, c6, rfl⟩ := owns_pos hown6 (by omega)
            have hb6 : Below z (wr.setCell ⟨gl, f, none⟩ (.int .i64 0)) w6 := (hbA.mono hz5).grown hg6 hbs (fun q hq => hlow q hq)
            have HS6 : Hid _ := HS5h.out.hi hb6
            have HO6 : Hid (∃ q cq, Value.slice (some ⟨q6, 0, none⟩) (0 + 1) c6 = .slice (some ⟨q, 0, none⟩) [f].length cq ∧ w6.ownsRow z 3 1 (.slice (some ⟨q, 0, none⟩) [f].length cq) [f].length ((lineN [f]).map (Value.int .i64))) := ⟨q6, c6, rfl, hown6⟩
            have hz6 : z ≤ w6.heap.size := Nat.le_trans hz5 hb6.size
            clear hbA hOA hnews hone hbs hlow hown6 hg6 hnil6 hat6 hb6 hi hz0 hz1 hz2 HS5h a0 af hz5 hszW hzw
            go_wp2
            go_loopw [6, 8] (fun qv av wq => ∃ (L : List Int) (Q : List Nat) (at_ : Nat), av = .int .i64 (at_ : Int) ∧ at_ ≤ Q.length ∧ z ≤ wq.heap.size ∧ Hid (LvS N x gl gl z (.slice np N nc) (.slice p l.length c) l w L wq) ∧ Hid (∃ q cq, qv = .slice (some ⟨q, 0, none⟩) Q.length cq ∧ wq.ownsRow z 3 1 (.slice (some ⟨q, 0, none⟩) Q.length cq) Q.length ((lineN Q).map (Value.int .i64))) ∧ Hid (Run N l f A L Q at_ 0)) (fun _ av _ => N - (intOf av).toNat)
            case atStart => exact ⟨A.set f 0, [f], 0, rfl, Nat.zero_le _, hz6, HS6, HO6, HRun⟩
            case round =>
              clear HS6 HO6 HRun hz6
              obtain ⟨L, Q, at_, rfl, hat, hzw, HS, HO, HRun⟩ := hrel
              obtain ⟨q1, c1, rfl, hO⟩ := HO.out
              by_cases hlq : at_ < Q.length
              · have hal : (at_ : Int) < (Q.length : Int) := by omega
                obtain ⟨v, hv⟩ : ∃ v, Q[at_]? = some v := ⟨_, List.getElem?_eq_getElem hlq⟩
                have HV : Hid (Q[at_]? = some v) := hv
                have hvN : v < N := (HRun.out.inN v (List.mem_of_getElem? hv)).1
                have hvl : (v : Int) < (N : Int) := by omega
                have b0 := owns_lineL hO rfl hv
                have hnr : Lsts gl wr (.slice np (nearL N l).length nc) (nearL N l) := by rw [nearL_len]; exact HS.out.nr
                obtain ⟨nb0, no, rfl, hnb, hnc, px, cx, hpx, n0⟩ := hnr.cellAt (j := v) (by rw [nearL_len]; exact hvN)
                have hge : (nearL N l)[v]'(by rw [nearL_len]; exact hvN) = nb l (v : Int) := by
                  have := nearL_at (l := l) hvN
                  rw [List.getElem?_eq_getElem (by rw [nearL_len]; exact hvN)] at this
                  exact Option.some.inj this
                rw [nearL_len] at hnc
                rw [hge] at hpx n0
                have HPX : Hid (Ints gl wr (.slice px (nb l (v : Int)).length cx) (nb l (v : Int))) := hpx
                have HQ : Hid (Q.length ≤ N) := HRun.out.few
                have HA : Hid (at_ < Q.length) := hlq
                have HVN : Hid (v < N) := hvN
                have hnbl := nb_len (v : Int) l
                have hm4 := HR.out.m1
                have HOW : Hid (∃ q cq, Value.slice (some ⟨q1, 0, none⟩) Q.length c1 = .slice (some ⟨q, 0, none⟩) Q.length cq ∧ wr.ownsRow z 3 1 (.slice (some ⟨q, 0, none⟩) Q.length cq) Q.length ((lineN Q).map (Value.int .i64))) := ⟨q1, c1, rfl, hO⟩
                clear hnr hge hpx hv hO
                obtain ⟨B, hB⟩ : ∃ B, nb l (v : Int) = B := ⟨_, rfl⟩
                have HB : Hid (nb l (v : Int) = B) := hB
                rw [hB] at n0 HPX hnbl
                clear hB
                go_wp2
                go_loopw [6, 62] (fun qv iv wq => ∃ (L : List Int) (Q : List Nat) (i : Nat), iv = .int .i64 (i : Int) ∧ i ≤ B.length ∧ z ≤ wq.heap.size ∧ Hid (LvS N x gl gl z (.slice (some ⟨nb0, no, none⟩) N nc) (.slice p l.length c) l w L wq) ∧ Hid (∃ q cq, qv = .slice (some ⟨q, 0, none⟩) Q.length cq ∧ wq.ownsRow z 3 1 (.slice (some ⟨q, 0, none⟩) Q.length cq) Q.length ((lineN Q).map (Value.int .i64))) ∧ Hid (Run N l f A L Q at_ i) ∧ Hid (Q[at_]? = some v) ∧ Hid (Ints gl wq (.slice px B.length cx) B)) (fun _ iv _ => B.length - (intOf iv).toNat)
                case atStart => exact ⟨L, Q, 0, rfl, Nat.zero_le _, hzw, HS, HOW.out, HRun, HV, HPX⟩
                case round =>
                  clear HS HO HOW HRun HV HPX hzw b0 n0 hal hat hlq
                  obtain ⟨L, Q, i, rfl, hi, hzw, HS, HO, HRun, HV, HPX⟩ := hrel
                  obtain ⟨q1, c1, rfl, hO⟩ := HO.out
                  by_cases hib : i < B.length
                  · have hil : (i : Int) < (B.length : Int) := by omega
                    obtain ⟨pb, po, rfl, hpb, hpc, hcs⟩ := HPX.out.open hib
                    have e0 := hcs wr (Below.refl _ _) i hib
                    have hub : (nb l (v : Int))[i]? = some B[i] := by rw [HB.out]; exact List.getElem?_eq_getElem hib
                    obtain ⟨u, hu, huN, hadj⟩ := (nb_adj HR.out).1 (List.mem_of_getElem? hub)
                    have HU : Hid ((nb l (v : Int))[i]? = some (u : Int)) := by rw [Hid, hub, hu]
                    rw [hu] at e0
                    have hul : (u : Int) < (N : Int) := by omega
                    have HI : Hid (i < B.length) := hib
                    have HUN : Hid (u < N) := huN
                    have t0 := HS.out.at huN
                    have t1 := HS.out.at HVN.out
                    have tf := HS.out.lv.frozen u
                    have HPX2 : ∀ W', Below gl wr W' → Hid (Ints gl W' (.slice (some ⟨pb, po, none⟩) B.length cx) B) := fun W' hW => HPX.out.below hW
                    by_cases hm : L.getD u 0 = -1
                    · have hm' : (L.getD u 0 == (-1 : Int)) = true := by rw [hm]; rfl
                      have HRN : Hid (Run N l f A (L.set u (L.getD v 0 + 1)) (Q ++ [u]) at_ (i + 1)) := HRun.out.new HR.out HV.out HU.out hm
                      have HVQ : Hid ((Q ++ [u])[at_]? = some v) := by
                        rw [Hid, List.getElem?_append_left (List.getElem?_eq_some_iff.1 HV.out).1]; exact HV.out
                      have hq9 : (Q ++ [u]).length ≤ N := HRN.out.few
                      rw [List.length_append, List.length_singleton] at hq9
                      have hlr := HS.out.ll
                      have hQm := (HRun.out.inN v (List.mem_of_getElem? HV.out)).2.2.1
                      have hQM := (HRun.out.lvl at_ v HV.out).1
                      have hat9 := (List.getElem?_eq_some_iff.1 HV.out).1
                      have hwr : IntKind.i64.wrap (L.getD v 0 + 1) = L.getD v 0 + 1 := wrap_i _ (by omega) (by omega)
                      have HS5h : Hid (LvS N x gl gl z (.slice (some ⟨nb0, no, none⟩) N nc) (.slice p l.length c) l w (L.set u (L.getD v 0 + 1)) (wr.setCell ⟨gl, u, none⟩ (.int .i64 (L.getD v 0 + 1)))) := HS.out.set u (L.getD v 0 + 1)
                      have ho := HS.out.o
                      clear hQm hQM hat9 hlr
                      generalize L.getD u 0 = a at *
                      generalize L.getD v 0 = d at *
                      have hO5 := owns_lowset hO (p := ⟨gl, u, none⟩) (by show gl < z; omega) (.int .i64 (d + 1))
                      have hszW : (wr.setCell ⟨gl, u, none⟩ (.int .i64 (d + 1))).heap.size = wr.heap.size := by simp
                      have HPX5 := HPX2 (wr.setCell ⟨gl, u, none⟩ (.int .i64 (d + 1))) ((Below.refl gl wr).setCell (p := ⟨gl, u, none⟩) (Nat.le_refl _) _)
                      have hbA : Below (wr.setCell ⟨gl, u, none⟩ (.int .i64 (d + 1))).heap.size (wr.setCell ⟨gl, u, none⟩ (.int .i64 (d + 1))) ((wr.setCell ⟨gl, u, none⟩ (.int .i64 (d + 1))).alloc (.cells #[.int .i64 (u : Int)] 3)) := (Below.refl _ _).alloc (Nat.le_refl _) _
                      have hOA := World.ownsRow.alloc hO5 (.cells #[.int .i64 (u : Int)] 3)
                      have hnews := one_cell (wr.setCell ⟨gl, u, none⟩ (.int .i64 (d + 1))) (.int .i64 (u : Int)) 3
                      rw [hszW] at hnews
                      have hone : ∀ y ∈ [Value.int .i64 (u : Int)], y.oneCell' = true := fun y hy => by rw [List.mem_singleton.1 hy]; rfl
                      have hz5 : z ≤ (wr.setCell ⟨gl, u, none⟩ (.int .i64 (d + 1))).heap.size := by rw [hszW]; exact hzw
                      have hbs : z ≤ ((wr.setCell ⟨gl, u, none⟩ (.int .i64 (d + 1))).alloc (.cells #[.int .i64 (u : Int)] 3)).heap.size := Nat.le_trans hz5 hbA.size
                      have hlow : ∀ k, (Value.slice (some ⟨q1, 0, none⟩) Q.length c1).ownBlock = some k → z ≤ k := fun k hk => (hO5.lt k hk).1
                      obtain ⟨i3, hi3, hz0, hz1, hz2⟩ := info_parts infoI
                      clear HS ho HO hO hO5 HPX HPX2 hcs HRun hm HV hub hadj hu
                      go_wp2_with (at_builtin; refine wpList_append_own_at _ rfl _ _ 27 rfl z 3 i3 (.int .i64 0) 1 8 Try.underlying27 hi3 hz0 hz1 hz2 rfl (by decide) (.slice (some ⟨q1, 0, none⟩) Q.length c1) _ _ rfl hOA ⟨wr.heap.size, 0, none⟩ 1 1 [.int .i64 (u : Int)] rfl rfl hnews hone (by unfold maxLen; omega) (by omega) hbs ?_)
                      intro v6 w6 hown6 hg6 hnil6 hat6
                      obtain ⟨q6, c6, rfl⟩ := owns_pos hown6 (by omega)
                      have hb6 : Below z (wr.setCell ⟨gl, u, none⟩ (.int .i64 (d + 1))) w6 := (hbA.mono hz5).grown hg6 hbs (fun q hq => hlow q hq)
                      have ho := HS5h.out.o
                      have HS6 : Hid _ := HS5h.out.hi hb6
                      have HO6 : Hid (∃ q cq, Value.slice (some ⟨q6, 0, none⟩) (Q.length + 1) c6 = .slice (some ⟨q, 0, none⟩) (Q ++ [u]).length cq ∧ w6.ownsRow z 3 1 (.slice (some ⟨q, 0, none⟩) (Q ++ [u]).length cq) (Q ++ [u]).length ((lineN (Q ++ [u])).map (Value.int .i64))) := by
                        have e1 : (lineN (Q ++ [u])).map (Value.int .i64) = (lineN Q).map (Value.int .i64) ++ [.int .i64 (u : Int)] := by rw [lineN_snoc, List.map_append]; rfl
                        have e2 : (Q ++ [u]).length = Q.length + 1 := by simp
                        rw [Hid, e1, e2]
                        exact ⟨q6, c6, rfl, hown6⟩
                      have HPX6 : Hid (Ints gl w6 (.slice (some ⟨pb, po, none⟩) B.length cx) B) := HPX5.out.below (hb6.mono (by omega))
                      have hz6 : z ≤ w6.heap.size := Nat.le_trans hz5 hb6.size
                      clear hbA hOA hnews hone hbs hlow hown6 hg6 hnil6 hat6 hb6 hi3 hz0 hz1 hz2 HS5h hz5 hszW hzw HPX5 ho t0 t1 tf e0
                      go_wp2
                      exact ⟨⟨_, Q ++ [u], i + 1, by go_num, HI.out, hz6, HS6, HO6, HRN, HVQ, HPX6⟩, by have := HI.out; simp [intOf]; omega⟩
                    · have hm' : (L.getD u 0 == (-1 : Int)) = false := by simpa using hm
                      have HRN : Hid (Run N l f A L Q at_ (i + 1)) := HRun.out.hit HR.out HV.out HU.out hm
                      generalize L.getD u 0 = a at *
                      clear HRun hcs hub hadj hu hm
                      go_wp2
                      exact ⟨⟨L, Q, i + 1, by go_num, HI.out, hzw, HS, ⟨q1, c1, rfl, hO⟩, HRN, HV, HPX⟩, by have := HI.out; simp [intOf]; omega⟩
                  · obtain rfl : i = B.length := by omega
                    have hil : ¬ (B.length : Int) < (B.length : Int) := by omega
                    have HRN : Hid (Run N l f A L Q (at_ + 1) 0) := HRun.out.next HR.out HV.out (by rw [HB.out]; exact Nat.le_refl _)
                    have hfew := HRN.out.few
                    have hat9 := (List.getElem?_eq_some_iff.1 HV.out).1
                    clear HRun
                    go_wp2
                    exact ⟨⟨L, Q, at_ + 1, by go_num, hat9, hzw, HS, ⟨q1, c1, rfl, hO⟩, HRN⟩, by simp [intOf]; omega⟩
              · obtain rfl : at_ = Q.length := by omega
                have hal : ¬ (Q.length : Int) < (Q.length : Int) := by omega
                have HMN : Hid (Met N l (f + 1) L) := HRun.out.fin HR.out (Nat.le_refl _)
                clear HRun
                go_wp2
                exact ⟨⟨f + 1, L, Q, HF.out, by go_num, hzw, HS, ⟨q1, c1, rfl, hO⟩, HMN⟩, by have := HF.out; simp [intOf]; omega⟩
          · have hm' : (A.getD f 0 != (-1 : Int)) = true := by simpa using hm
            have HMN : Hid (Met N l (f + 1) A) := HM.out.skip hm
            generalize A.getD f 0 = a at *
            clear HM hm
            go_wp2
            exact ⟨⟨f + 1, A, Q0, HF.out, by go_num, hzw, HS, ⟨q0, c0, rfl, hO⟩, HMN⟩, by have := HF.out; simp [intOf]; omega⟩
        · obtain rfl : N = f := by omega
          have hfl : ¬ (N : Int) < (N : Int) := by omega
          have HLev : Hid (Lev N l A) := HM.out.full HR.out
          clear HM
          go_wp2
          go_ret
          rw [HXX.out]
          exact ⟨gl, rfl, HS.out.o.1, A, HS.out.lv, HLev.out, HS.out.bel⟩
end Go.Proofs.Ytdgecflljgnobaa
