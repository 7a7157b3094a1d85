/-
  The walk of ColourFew.
-/
import Derived.BigRegion
import Derived.BigQuiet
import Derived.Test.YteekhofollaooaaXCUpto
import Derived.Test.YteekhofollaooaaXCRefNear
namespace Go.Proofs.Yteekhofollaooaa
open Go Go.Proofs Go.RowKit

/-- What stands between two swaps. -/
def FewI (n : Nat) (ov : Value) (w wr : World) : Prop := ∃ Q : List Int, wr.ownsRow w.heap.size 3 1 ov n (Q.map (Value.int .i64)) ∧ Q.Perm (uptoL n) ∧ Below w.heap.size w wr
theorem swap_perm {Q : List Int} {x y : Nat} (hx : x < Q.length) (hy : y < Q.length) : ((Q.set x Q[y]).set y Q[x]).Perm Q := by
  by_cases e : x = y
  · subst e
    rw [List.set_set, List.set_getElem_self]
  · refine List.perm_iff_count.2 fun a => ?_
    have h1 : (Q.set x Q[y])[y]'(by rw [List.length_set]; exact hy) = Q[y] := by rw [List.getElem_set_ne e]
    rw [List.count_set (by rw [List.length_set]; exact hy), h1, List.count_set hx]
    have hc1 : 0 < Q.count Q[x] := List.count_pos_iff.2 (List.getElem_mem hx)
    by_cases ha : Q[x] = a
    · rw [ha] at hc1
      by_cases hb : Q[y] = a
      · simp [ha, hb]
        omega
      · simp [ha, hb]
        omega
    · by_cases hb : Q[y] = a <;> simp [ha, hb]
theorem ord_upto {n : Nat} {Q : List Int} (h : Q.Perm (uptoL n)) : Ord Q (n : Int) := by
  refine ⟨by rw [h.length_eq, uptoL_len], fun x hx => ?_, h.nodup_iff.2 ?_⟩
  · obtain ⟨k, hk, rfl⟩ := List.mem_map.1 (h.mem_iff.1 hx)
    have := List.mem_range.1 hk
    omega
  · exact List.pairwise_map.2 (List.nodup_range.imp fun h e => h (by omega))

set_option maxRecDepth 100000 in
set_option maxHeartbeats 8000000 in
theorem few_walk (n : Int) (l : List Ed) (a b : List Int) (sv av bv : Value) (w : World) (hl : Edges w.heap.size w sv l) (ha : Ints w.heap.size w av a) (hb : Ints w.heap.size w bv b) :
    Calls Try.prog 5 #[.agg #[.int .i64 n, sv], av, bv] w fun r w' => r = .returned (.bool true) ∧ Below w.heap.size w w' := by
  have hmix := mixed
  obtain ⟨p, q, rfl⟩ := hl.len
  obtain ⟨pa, ca, rfl⟩ := ha.len
  obtain ⟨pb, cb, rfl⟩ := hb.len
  have hg1 : Grew w (w.alloc (.cells #[.int .i64 n, .slice p l.length q] 24)) := (Grew.refl w).alloc _
  have q0 := (box2 _ (Grew.refl (w.alloc (.cells #[.int .i64 n, .slice p l.length q] 24)))).1
  have q1 := (box2 _ (Grew.refl (w.alloc (.cells #[.int .i64 n, .slice p l.length q] 24)))).2
  have hlt := light_any n l 60 (by omega) (by omega) (.slice p l.length q) _ (hl.go hg1.below)
  cases hli : lightB n l 60 with
  | false =>
    rw [hli] at hlt
    go_enter Try.func5, Try.ntmps5
    go_wp2_with fail
    refine hlt.mono ?_
    rintro e w2 ⟨rfl, hg2⟩
    go_wp2_with fail
    refine (alive_any _).mono ?_
    rintro e w3 ⟨rfl, hb3⟩
    go_wp2
    go_ret
    exact ⟨rfl, (hg1.trans hg2).below.trans (hb3.mono (hg1.trans hg2).below.size)⟩
  | true =>
    rw [hli] at hlt
    obtain ⟨hn60, hl60⟩ := lightB_true hli
    by_cases h1 : (100 : Int) < (a.length : Int)
    · go_enter Try.func5, Try.ntmps5
      go_wp2_with fail
      refine hlt.mono ?_
      rintro e w2 ⟨rfl, hg2⟩
      go_wp2_with fail
      refine (alive_any _).mono ?_
      rintro e w3 ⟨rfl, hb3⟩
      go_wp2
      go_ret
      exact ⟨rfl, (hg1.trans hg2).below.trans (hb3.mono (hg1.trans hg2).below.size)⟩
    · have h1d : decide ((100 : Int) < (a.length : Int)) = false := by simp; omega
      by_cases hk : rightK n l = 0
      · have hR := right_iff.1 hk
        obtain ⟨N, rfl⟩ : ∃ N : Nat, n = (N : Int) := ⟨n.toNat, by have := hR.n0; omega⟩
        go_enter Try.func5, Try.ntmps5
        go_wp2_with fail
        refine hlt.mono ?_
        rintro e w1 ⟨rfl, hg2⟩
        clear q0 q1
        have q0 := (box2 _ hg2).1
        have q1 := (box2 _ hg2).2
        have hB1 := (hg1.trans hg2).below
        have hrr := refRight_any (N : Int) l (.slice p l.length q) w1 (hl.go hB1)
        rw [hk] at hrr
        clear hlt hg1 hg2
        go_wp2_with fail
        refine hrr.mono ?_
        clear hrr
        rintro e w2 ⟨rfl, hg3⟩
        have hB2 := hB1.trans (hg3.below.mono hB1.size)
        have r0 := cell_keepK hg3.below q0
        have r1 := cell_keepK hg3.below q1
        clear q0 q1 hB1
        have hup := upto_any N (by omega) w2
        have HL : Hid (Edges w.heap.size w (.slice p l.length q) l) := hl
        have HA : Hid (Ints w.heap.size w (.slice pa a.length ca) a) := ha
        have HBb : Hid (Ints w.heap.size w (.slice pb b.length cb) b) := hb
        have HR : Hid (RightG (N : Int) l) := hR
        have HB2 : Hid (Below w.heap.size w w2) := hB2
        clear hl ha hb hR hk hB2 hg3
        go_wp2_with fail
        refine hup.mono ?_
        clear hup
        rintro e w3 ⟨ov, rfl, ho3, hb3⟩
        obtain ⟨po, mo, co, rfl⟩ := owns_slice ho3
        have hmo : mo = N := by
          rcases ho3.2 with ⟨h, h'⟩ | ⟨_, _, _, h, _⟩ <;> simp at h <;> omega
        subst hmo
        have s0 := cell_keepK hb3 r0
        have s1 := cell_keepK hb3 r1
        have HST : Hid (FewI mo (.slice po mo co) w2 w3) := ⟨_, ho3, List.Perm.refl _, hb3⟩
        have hwb : w.heap.size < w2.heap.size := World.block_lt_of_cell? _ _ r0
        have HG2 : Hid (w2.cell? ⟨w.heap.size, 0, none⟩ = some (.int .i64 (mo : Int)) ∧ w2.cell? ⟨w.heap.size, 1, none⟩ = some (.slice p l.length q)) := ⟨r0, r1⟩
        clear ho3 hb3 r0 r1
        go_wp2
        go_loopw [8] (fun iv wr => ∃ i : Nat, i ≤ a.length ∧ iv = .int .i64 i ∧ FewI mo (.slice po mo co) w2 wr) (fun iv _ => a.length - (intOf iv).toNat)
        case atStart => exact ⟨0, Nat.zero_le _, rfl, HST.out⟩
        case round =>
          clear HST s0 s1
          obtain ⟨i, hi, rfl, Q, hoQ, hpQ, hbQ⟩ := hrel
          have s0 := (hbQ.cell (p := ⟨w.heap.size, 0, none⟩) hwb).trans HG2.out.1
          have s1 := (hbQ.cell (p := ⟨w.heap.size, 1, none⟩) hwb).trans HG2.out.2
          by_cases hcont : i < a.length ∧ i < b.length ∧ 0 < mo
          · obtain ⟨hia, hib, hm0⟩ := hcont
            have hiaI : (i : Int) < (a.length : Int) := by omega
            have hibI : (i : Int) < (b.length : Int) := by omega
            have hm0I : (0 : Int) < (mo : Int) := by omega
            have hmne : ¬ (mo : Int) = 0 := by omega
            have hbw : Below w.heap.size w wr := HB2.out.trans (hbQ.mono HB2.out.size)
            obtain ⟨ba, oa, rfl, _, hcapa, hcca⟩ := HA.out.open hia
            obtain ⟨bb, ob, rfl, _, hcapb, hccb⟩ := HBb.out.open hib
            have ca0 := hcca _ hbw i hia
            have cb0 := hccb _ hbw i hib
            generalize a[i] = av at *
            generalize b[i] = bv at *
            have HQ : Hid (wr.ownsRow w2.heap.size 3 1 (.slice po mo co) mo (Q.map (Value.int .i64)) ∧ Q.Perm (uptoL mo) ∧ Below w2.heap.size w2 wr) := ⟨hoQ, hpQ, hbQ⟩
            clear hcca hccb hbw hoQ hpQ hbQ
            have hX1 : av.tmod (mo : Int) < (mo : Int) := Int.tmod_lt_of_pos av hm0I
            have hY1 : bv.tmod (mo : Int) < (mo : Int) := Int.tmod_lt_of_pos bv hm0I
            go_wp2
            go_quiet (fail)
            generalize av.tmod (mo : Int) = X at *
            generalize bv.tmod (mo : Int) = Y at *
            have HD : Hid (wr.drewN nq = wr.drewN nq) := rfl
            by_cases hX : 0 ≤ X
            · by_cases hY : 0 ≤ Y
              · obtain ⟨x, rfl⟩ : ∃ x : Nat, X = (x : Int) := ⟨X.toNat, by omega⟩
                obtain ⟨y, rfl⟩ : ∃ y : Nat, Y = (y : Int) := ⟨Y.toNat, by omega⟩
                have hxm : x < mo := by omega
                have hym : y < mo := by omega
                have hQl : Q.length = mo := by rw [HQ.out.2.1.length_eq, uptoL_len]
                obtain ⟨bo, rfl⟩ : ∃ bo, po = some ⟨bo, 0, none⟩ := by
                  rcases HQ.out.1.2 with ⟨_, h⟩ | ⟨bo, _, _, h, _⟩
                  · omega
                  · simp at h; exact ⟨bo, h.1⟩
                have hoD : (wr.drewN nq).ownsRow w2.heap.size 3 1 (.slice (some ⟨bo, 0, none⟩) mo co) mo (Q.map (Value.int .i64)) := HQ.out.1
                have cx : (wr.drewN nq).cell? ⟨bo, x, none⟩ = some (.int .i64 Q[x]) := by rw [hoD.cellAt x (by omega), List.getElem?_map, List.getElem?_eq_getElem (by omega)]; rfl
                have cy : (wr.drewN nq).cell? ⟨bo, y, none⟩ = some (.int .i64 Q[y]) := by rw [hoD.cellAt y (by omega), List.getElem?_map, List.getElem?_eq_getElem (by omega)]; rfl
                have fx := hoD.frozenAt x
                have fy := hoD.frozenAt y
                have HN : Hid (FewI mo (.slice (some ⟨bo, 0, none⟩) mo co) w2 (((wr.drewN nq).setCell ⟨bo, x, none⟩ (.int .i64 Q[y])).setCell ⟨bo, y, none⟩ (.int .i64 Q[x])).drew) := by
                  obtain ⟨h1, _⟩ := hoD.stored x (.int .i64 Q[y])
                  obtain ⟨h2, _⟩ := h1.stored y (.int .i64 Q[x])
                  have hbo := (hoD.lt bo rfl).1
                  refine ⟨(Q.set x Q[y]).set y Q[x], ?_, (swap_perm (by omega) (by omega)).trans HQ.out.2.1, below_drewN (((below_drewN HQ.out.2.2 nq).setCell (p := ⟨bo, x, none⟩) hbo _).setCell (p := ⟨bo, y, none⟩) hbo _) 1⟩
                  rw [List.map_set, List.map_set]
                  exact h2
                generalize Q[x] = vx at *
                generalize Q[y] = vy at *
                generalize wr.drewN nq = w5 at *
                clear hoD HQ HD ca0 cb0 s0 s1 HA HBb
                by_cases hxy : x = y
                · subst hxy
                  obtain rfl : vx = vy := by rw [cx] at cy; simpa using cy
                  clear hX1 hY1 hcapa hcapb hibI hQl hmne hm0I cy fy hym hY
                  go_wp2
                  go_big_region_o
                  go_wp2
                  exact ⟨⟨i + 1, by omega, by go_num, HN.out⟩, by simp [intOf]; omega⟩
                · have hyx : ¬ y = x := fun e => hxy e.symm
                  clear hX1 hY1 hcapa hcapb hibI hQl hmne hm0I
                  go_wp2
                  go_big_region_o
                  go_wp2
                  exact ⟨⟨i + 1, by omega, by go_num, HN.out⟩, by simp [intOf]; omega⟩
              · go_wp2
                exact ⟨⟨i + 1, by omega, by go_num, Q, HQ.out.1, HQ.out.2.1, below_drewN HQ.out.2.2 nq⟩, by simp [intOf]; omega⟩
            · go_wp2
              exact ⟨⟨i + 1, by omega, by go_num, Q, HQ.out.1, HQ.out.2.1, below_drewN HQ.out.2.2 nq⟩, by simp [intOf]; omega⟩
          · have HQ : Hid (Q.Perm (uptoL mo)) := hpQ
            have hO := owns_intsP (base := w2.heap.size) (v := .slice po mo co) (xs := Q) (W := wr) (by rw [hpQ.length_eq, uptoL_len]; exact hoQ)
            have hbw : Below w.heap.size w wr := HB2.out.trans (hbQ.mono HB2.out.size)
            have HBW : Hid (Below w.heap.size w wr) := hbw
            have hgr := greedy_any mo l HR.out Q (ord_upto hpQ) (.slice p l.length q) (.slice po mo co) wr (HL.out.go hbw) hO
            obtain ⟨hf1, hf2, hf3⟩ := few_ok HR.out (ord_upto hpQ)
            have hCl := (grA_len mo l (mostN (nearL mo l)) Q).1
            have hd1 : decide ((i : Int) < (a.length : Int)) = decide (i < a.length) := by simp
            have HF : Hid (chkK (mo : Int) l (grA mo l (mostN (nearL mo l)) Q).1 ((mostD (nearL mo l) : Int) + 1) = 0 ∧ (0 < mo → 0 ≤ mxL (grA mo l (mostN (nearL mo l)) Q).1) ∧ ∀ x ∈ (grA mo l (mostN (nearL mo l)) Q).1, x < 4611686018427387904) := ⟨hf1, hf2, hf3⟩
            have HCL : Hid ((grA mo l (mostN (nearL mo l)) Q).1.length = mo) := hCl
            clear hoQ hpQ hbQ hO hbw hf1 hf2 hf3 hCl hd1
            generalize (grA mo l (mostN (nearL mo l)) Q).1 = C at *
            by_cases hA1 : i < a.length
            · have hA1I : (i : Int) < (a.length : Int) := by omega
              by_cases hB1 : i < b.length
              · have hB1I : (i : Int) < (b.length : Int) := by omega
                have hmz0 : ¬ (0 : Int) < (mo : Int) := by omega
                go_wp2_with fail
                refine hgr.mono ?_
                clear hgr
                rintro e w5 ⟨gc, rfl, _, hC5, hb5⟩
                have HB5 : Hid (Below w.heap.size w w5) := HBW.out.trans (hb5.mono HBW.out.size)
                have t0 := cell_keepK hb5 s0
                have t1 := cell_keepK hb5 s1
                have hnr := refNear_any mo l HR.out (.slice p l.length q) w5 (HL.out.go HB5.out)
                have HC5 : Hid (Blk 3 w5 gc (C.map (Value.int .i64))) := hC5
                clear hC5 hb5 s0 s1
                go_wp2_with fail
                refine hnr.mono ?_
                clear hnr
                rintro e w6 ⟨nv, rfl, hL6, hb6⟩
                obtain ⟨pn, cn, rfl⟩ := hL6.len
                have HB6 : Hid (Below w.heap.size w w6) := HB5.out.trans (hb6.mono HB5.out.size)
                have HC6 : Hid (Blk 3 w6 gc (C.map (Value.int .i64))) := HC5.out.go hb6
                have s0 := cell_keepK hb6 t0
                have s1 := cell_keepK hb6 t1
                have HNL : Hid ((nearL mo l).length = mo) := nearL_len mo l
                have HML : Hid (∀ j, mostD ((nearL mo l).take j) ≤ 240) := mostD_le (fun x hx => by
                  unfold nearL at hx
                  obtain ⟨v, _, rfl⟩ := List.mem_map.1 hx
                  have := nb_len (v : Int) l
                  omega)
                have HL6 : Hid (Lsts w6.heap.size w6 (.slice pn (nearL mo l).length cn) (nearL mo l)) := hL6
                clear hL6 hb6 t0 t1 HC5 HB5
                generalize nearL mo l = LL at *
                go_wp2
                go_loop [13, 15] (fun mv iv => ∃ j : Nat, j ≤ mo ∧ mv = .int .i64 (mostD (LL.take j) : Nat) ∧ iv = .int .i64 j) (fun _ iv => mo - (intOf iv).toNat)
                case atStart => exact ⟨0, Nat.zero_le _, rfl, rfl⟩
                case round =>
                  obtain ⟨j, hj, rfl, rfl⟩ := hrel
                  have hml := HML.out j
                  by_cases hjt : j < mo
                  · exfalso
                    omega
                  · have hjl : ¬ (j : Int) < (mo : Int) := by omega
                    have hjn : LL.take j = LL := List.take_of_length_le (by rw [HNL.out]; omega)
                    rw [hjn] at hml ⊢
                    have hI6 : Ints w6.heap.size w6 (.slice (some ⟨gc, 0, none⟩) mo mo) C := by have h := Blk.ints HC6.out; rw [HCL.out] at h; exact h
                    have hck := refCheck_any (mo : Int) l C (by rw [HCL.out]; omega) ((mostD LL : Int) + 1) (.slice p l.length q) (.slice (some ⟨gc, 0, none⟩) mo mo) w6 (HL.out.go HB6.out) hI6
                    rw [HF.out.1] at hck
                    clear hI6 hjn
                    generalize mostD LL = md at *
                    go_wp2_with fail
                    refine hck.mono ?_
                    clear hck
                    rintro e w7 ⟨rfl, hg7⟩
                    have HB7 : Hid (Below w.heap.size w w7) := HB6.out.trans (hg7.below.mono HB6.out.size)
                    have hI7 : Ints w7.heap.size w7 (.slice (some ⟨gc, 0, none⟩) mo mo) C := by have h := Blk.ints (HC6.out.go hg7.below); rw [HCL.out] at h; exact h
                    have hus := used_any C (by rw [HCL.out]; omega) HF.out.2.2 _ _ w7 hI7
                    have t0 := cell_keepK hg7.below s0
                    clear s0 s1 hg7 hI7
                    by_cases hmz : mo = 0
                    · have hmzI : ((mo : Int) == 0) = true := by rw [beq_iff_eq]; omega
                      clear hus
                      go_wp2_with fail
                      refine (alive_any _).mono ?_
                      rintro e w8 ⟨rfl, hb8⟩
                      have HB8 : Hid (Below w.heap.size w w8) := HB7.out.trans (hb8.mono HB7.out.size)
                      clear hb8
                      go_wp2
                      go_ret
                      exact ⟨rfl, HB8.out⟩
                    · exfalso
                      omega
              · have hB1I : ¬ (i : Int) < (b.length : Int) := by omega
                go_wp2_with fail
                refine hgr.mono ?_
                clear hgr
                rintro e w5 ⟨gc, rfl, _, hC5, hb5⟩
                have HB5 : Hid (Below w.heap.size w w5) := HBW.out.trans (hb5.mono HBW.out.size)
                have t0 := cell_keepK hb5 s0
                have t1 := cell_keepK hb5 s1
                have hnr := refNear_any mo l HR.out (.slice p l.length q) w5 (HL.out.go HB5.out)
                have HC5 : Hid (Blk 3 w5 gc (C.map (Value.int .i64))) := hC5
                clear hC5 hb5 s0 s1
                go_wp2_with fail
                refine hnr.mono ?_
                clear hnr
                rintro e w6 ⟨nv, rfl, hL6, hb6⟩
                obtain ⟨pn, cn, rfl⟩ := hL6.len
                have HB6 : Hid (Below w.heap.size w w6) := HB5.out.trans (hb6.mono HB5.out.size)
                have HC6 : Hid (Blk 3 w6 gc (C.map (Value.int .i64))) := HC5.out.go hb6
                have s0 := cell_keepK hb6 t0
                have s1 := cell_keepK hb6 t1
                have HNL : Hid ((nearL mo l).length = mo) := nearL_len mo l
                have HML : Hid (∀ j, mostD ((nearL mo l).take j) ≤ 240) := mostD_le (fun x hx => by
                  unfold nearL at hx
                  obtain ⟨v, _, rfl⟩ := List.mem_map.1 hx
                  have := nb_len (v : Int) l
                  omega)
                have HL6 : Hid (Lsts w6.heap.size w6 (.slice pn (nearL mo l).length cn) (nearL mo l)) := hL6
                clear hL6 hb6 t0 t1 HC5 HB5
                generalize nearL mo l = LL at *
                go_wp2
                go_loop [13, 15] (fun mv iv => ∃ j : Nat, j ≤ mo ∧ mv = .int .i64 (mostD (LL.take j) : Nat) ∧ iv = .int .i64 j) (fun _ iv => mo - (intOf iv).toNat)
                case atStart => exact ⟨0, Nat.zero_le _, rfl, rfl⟩
                case round =>
                  obtain ⟨j, hj, rfl, rfl⟩ := hrel
                  have hml := HML.out j
                  by_cases hjt : j < mo
                  · have hjl : (j : Int) < (mo : Int) := by omega
                    have hjL : j < LL.length := by rw [HNL.out]; exact hjt
                    have hjLI : (j : Int) < (LL.length : Int) := by omega
                    obtain ⟨bc, oc, rfl, hbc, hcc, px, kx, hIx, c0⟩ := HL6.out.cellAt hjL
                    have hml2 := HML.out (j + 1)
                    have HS : Hid _ := mostD_take hjL
                    generalize mostD (LL.take j) = g at *
                    generalize LL[j].length = x at *
                    have HM : Hid (mostD (LL.take (j + 1)) = max g x) := HS.out
                    have hx2 : x ≤ 240 := by have := HM.out; omega
                    clear hIx HS
                    go_wp2
                    exact ⟨⟨j + 1, by omega, by rw [HM.out]; show Value.int .i64 _ = Value.int .i64 _; congr 1; omega, by go_num⟩, by simp [intOf]; omega⟩
                  · have hjl : ¬ (j : Int) < (mo : Int) := by omega
                    have hjn : LL.take j = LL := List.take_of_length_le (by rw [HNL.out]; omega)
                    rw [hjn] at hml ⊢
                    have hI6 : Ints w6.heap.size w6 (.slice (some ⟨gc, 0, none⟩) mo mo) C := by have h := Blk.ints HC6.out; rw [HCL.out] at h; exact h
                    have hck := refCheck_any (mo : Int) l C (by rw [HCL.out]; omega) ((mostD LL : Int) + 1) (.slice p l.length q) (.slice (some ⟨gc, 0, none⟩) mo mo) w6 (HL.out.go HB6.out) hI6
                    rw [HF.out.1] at hck
                    clear hI6 hjn
                    generalize mostD LL = md at *
                    go_wp2_with fail
                    refine hck.mono ?_
                    clear hck
                    rintro e w7 ⟨rfl, hg7⟩
                    have HB7 : Hid (Below w.heap.size w w7) := HB6.out.trans (hg7.below.mono HB6.out.size)
                    have hI7 : Ints w7.heap.size w7 (.slice (some ⟨gc, 0, none⟩) mo mo) C := by have h := Blk.ints (HC6.out.go hg7.below); rw [HCL.out] at h; exact h
                    have hus := used_any C (by rw [HCL.out]; omega) HF.out.2.2 _ _ w7 hI7
                    have t0 := cell_keepK hg7.below s0
                    clear s0 s1 hg7 hI7
                    by_cases hmz : mo = 0
                    · have hmzI : ((mo : Int) == 0) = true := by rw [beq_iff_eq]; omega
                      clear hus
                      go_wp2_with fail
                      refine (alive_any _).mono ?_
                      rintro e w8 ⟨rfl, hb8⟩
                      have HB8 : Hid (Below w.heap.size w w8) := HB7.out.trans (hb8.mono HB7.out.size)
                      clear hb8
                      go_wp2
                      go_ret
                      exact ⟨rfl, HB8.out⟩
                    · have hmzI : ((mo : Int) == 0) = false := by rw [beq_eq_false_iff_ne]; omega
                      have hmx := HF.out.2.1 (by omega)
                      have hmd : decide (1 ≤ mxL C + 1) = true := by simp; omega
                      generalize mxL C + 1 = mx at *
                      go_wp2_with (first | (go_at_call 13; refine hus.mono ?_; rintro e w8 ⟨rfl, rfl⟩))
                      refine (alive_any _).mono ?_
                      rintro e w9 ⟨rfl, hb9⟩
                      have HB9 : Hid (Below w.heap.size w w9) := HB7.out.trans (hb9.mono HB7.out.size)
                      clear hb9
                      go_wp2
                      go_ret
                      exact ⟨rfl, HB9.out⟩
            · have hA1I : ¬ (i : Int) < (a.length : Int) := by omega
              go_wp2_with fail
              refine hgr.mono ?_
              clear hgr
              rintro e w5 ⟨gc, rfl, _, hC5, hb5⟩
              have HB5 : Hid (Below w.heap.size w w5) := HBW.out.trans (hb5.mono HBW.out.size)
              have t0 := cell_keepK hb5 s0
              have t1 := cell_keepK hb5 s1
              have hnr := refNear_any mo l HR.out (.slice p l.length q) w5 (HL.out.go HB5.out)
              have HC5 : Hid (Blk 3 w5 gc (C.map (Value.int .i64))) := hC5
              clear hC5 hb5 s0 s1
              go_wp2_with fail
              refine hnr.mono ?_
              clear hnr
              rintro e w6 ⟨nv, rfl, hL6, hb6⟩
              obtain ⟨pn, cn, rfl⟩ := hL6.len
              have HB6 : Hid (Below w.heap.size w w6) := HB5.out.trans (hb6.mono HB5.out.size)
              have HC6 : Hid (Blk 3 w6 gc (C.map (Value.int .i64))) := HC5.out.go hb6
              have s0 := cell_keepK hb6 t0
              have s1 := cell_keepK hb6 t1
              have HNL : Hid ((nearL mo l).length = mo) := nearL_len mo l
              have HML : Hid (∀ j, mostD ((nearL mo l).take j) ≤ 240) := mostD_le (fun x hx => by
                unfold nearL at hx
                obtain ⟨v, _, rfl⟩ := List.mem_map.1 hx
                have := nb_len (v : Int) l
                omega)
              have HL6 : Hid (Lsts w6.heap.size w6 (.slice pn (nearL mo l).length cn) (nearL mo l)) := hL6
              clear hL6 hb6 t0 t1 HC5 HB5
              generalize nearL mo l = LL at *
              go_wp2
              go_loop [13, 15] (fun mv iv => ∃ j : Nat, j ≤ mo ∧ mv = .int .i64 (mostD (LL.take j) : Nat) ∧ iv = .int .i64 j) (fun _ iv => mo - (intOf iv).toNat)
              case atStart => exact ⟨0, Nat.zero_le _, rfl, rfl⟩
              case round =>
                obtain ⟨j, hj, rfl, rfl⟩ := hrel
                have hml := HML.out j
                by_cases hjt : j < mo
                · have hjl : (j : Int) < (mo : Int) := by omega
                  have hjL : j < LL.length := by rw [HNL.out]; exact hjt
                  have hjLI : (j : Int) < (LL.length : Int) := by omega
                  obtain ⟨bc, oc, rfl, hbc, hcc, px, kx, hIx, c0⟩ := HL6.out.cellAt hjL
                  have hml2 := HML.out (j + 1)
                  have HS : Hid _ := mostD_take hjL
                  generalize mostD (LL.take j) = g at *
                  generalize LL[j].length = x at *
                  have HM : Hid (mostD (LL.take (j + 1)) = max g x) := HS.out
                  have hx2 : x ≤ 240 := by have := HM.out; omega
                  clear hIx HS
                  go_wp2
                  exact ⟨⟨j + 1, by omega, by rw [HM.out]; show Value.int .i64 _ = Value.int .i64 _; congr 1; omega, by go_num⟩, by simp [intOf]; omega⟩
                · have hjl : ¬ (j : Int) < (mo : Int) := by omega
                  have hjn : LL.take j = LL := List.take_of_length_le (by rw [HNL.out]; omega)
                  rw [hjn] at hml ⊢
                  have hI6 : Ints w6.heap.size w6 (.slice (some ⟨gc, 0, none⟩) mo mo) C := by have h := Blk.ints HC6.out; rw [HCL.out] at h; exact h
                  have hck := refCheck_any (mo : Int) l C (by rw [HCL.out]; omega) ((mostD LL : Int) + 1) (.slice p l.length q) (.slice (some ⟨gc, 0, none⟩) mo mo) w6 (HL.out.go HB6.out) hI6
                  rw [HF.out.1] at hck
                  clear hI6 hjn
                  generalize mostD LL = md at *
                  go_wp2_with fail
                  refine hck.mono ?_
                  clear hck
                  rintro e w7 ⟨rfl, hg7⟩
                  have HB7 : Hid (Below w.heap.size w w7) := HB6.out.trans (hg7.below.mono HB6.out.size)
                  have hI7 : Ints w7.heap.size w7 (.slice (some ⟨gc, 0, none⟩) mo mo) C := by have h := Blk.ints (HC6.out.go hg7.below); rw [HCL.out] at h; exact h
                  have hus := used_any C (by rw [HCL.out]; omega) HF.out.2.2 _ _ w7 hI7
                  have t0 := cell_keepK hg7.below s0
                  clear s0 s1 hg7 hI7
                  by_cases hmz : mo = 0
                  · have hmzI : ((mo : Int) == 0) = true := by rw [beq_iff_eq]; omega
                    clear hus
                    go_wp2_with fail
                    refine (alive_any _).mono ?_
                    rintro e w8 ⟨rfl, hb8⟩
                    have HB8 : Hid (Below w.heap.size w w8) := HB7.out.trans (hb8.mono HB7.out.size)
                    clear hb8
                    go_wp2
                    go_ret
                    exact ⟨rfl, HB8.out⟩
                  · have hmzI : ((mo : Int) == 0) = false := by rw [beq_eq_false_iff_ne]; omega
                    have hmx := HF.out.2.1 (by omega)
                    have hmd : decide (1 ≤ mxL C + 1) = true := by simp; omega
                    generalize mxL C + 1 = mx at *
                    go_wp2_with (first | (go_at_call 13; refine hus.mono ?_; rintro e w8 ⟨rfl, rfl⟩))
                    refine (alive_any _).mono ?_
                    rintro e w9 ⟨rfl, hb9⟩
                    have HB9 : Hid (Below w.heap.size w w9) := HB7.out.trans (hb9.mono HB7.out.size)
                    clear hb9
                    go_wp2
                    go_ret
                    exact ⟨rfl, HB9.out⟩
      · go_enter Try.func5, Try.ntmps5
        go_wp2_with fail
        refine hlt.mono ?_
        rintro e w1 ⟨rfl, hg2⟩
        clear q0 q1
        have q0 := (box2 _ hg2).1
        have q1 := (box2 _ hg2).2
        have hB1 := (hg1.trans hg2).below
        have hrr := refRight_any n l (.slice p l.length q) w1 (hl.go hB1)
        have hkb : (rightK n l != 0) = true := by simpa using hk
        generalize rightK n l = kk at *
        clear hlt hg1 hg2
        go_wp2_with fail
        refine hrr.mono ?_
        clear hrr
        rintro e w2 ⟨rfl, hg3⟩
        have hB2 := hB1.trans (hg3.below.mono hB1.size)
        clear hg3 hB1 q0 q1
        go_wp2_with fail
        refine (alive_any _).mono ?_
        rintro e w3 ⟨rfl, hb3⟩
        have HB3 : Hid (Below w.heap.size w w3) := hB2.trans (hb3.mono hB2.size)
        clear hb3 hB2
        go_wp2
        go_ret
        exact ⟨rfl, HB3.out⟩
end Go.Proofs.Yteekhofollaooaa
