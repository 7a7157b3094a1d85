/-
  The contract of the reference's Check.
-/
import Derived.Test.YtejemnjadgihbaaXWaDist
import Derived.Test.YtejemnjadgihbaaXWaCheck
namespace Go.Proofs.Ytejemnjadgihbaa
open Go Go.Proofs Go.RowKit

set_option maxRecDepth 100000 in
set_option maxHeartbeats 2000000 in
theorem refCheck_bad (n f : Int) (l : List Ed) (sv dv vv : Value) (w : World) (hl : Edges w.heap.size w sv l) (hk : rgtW n l ≠ 0) :
    Calls Try.prog 14 #[.agg #[.int .i64 n, sv], .int .i64 f, dv, vv] w fun e w' => e = .returned (.int .i64 (rgtW n l)) ∧ Below w.heap.size w w' := by
  obtain ⟨p, c, rfl⟩ := hl.len
  have hg1 : Grew w (w.alloc (.cells #[.int .i64 n, .slice p l.length c] 24)) := (Grew.refl w).alloc _
  have hrt := refRightW_any n l _ _ (hl.go hg1.below)
  generalize rgtW n l = k at hrt hk
  have hk' : (k == 0) = false := by simpa using hk
  go_enter Try.func14, Try.ntmps14
  go_wp2_with fail
  refine hrt.mono ?_
  rintro e w1 ⟨rfl, hg2⟩
  clear hrt
  go_wp2
  go_ret
  exact ⟨rfl, (hg1.trans hg2).below⟩
set_option maxRecDepth 100000 in
set_option maxHeartbeats 2000000 in
theorem refCheck_none (n f : Int) (l : List Ed) (sv dv vv : Value) (w : World) (hl : Edges w.heap.size w sv l) (hk : rgtW n l = 0) (hv : vtxB n f = false) :
    Calls Try.prog 14 #[.agg #[.int .i64 n, sv], .int .i64 f, dv, vv] w fun e w' => e = .returned (.int .i64 5) ∧ Below w.heap.size w w' := by
  obtain ⟨p, c, rfl⟩ := hl.len
  have hg1 : Grew w (w.alloc (.cells #[.int .i64 n, .slice p l.length c] 24)) := (Grew.refl w).alloc _
  have hrt := refRightW_any n l _ _ (hl.go hg1.below)
  rw [hk] at hrt
  have hv' := vtx_not.1 hv
  clear hk hv
  by_cases hf : f < 0
  · go_enter Try.func14, Try.ntmps14
    go_wp2_with fail
    refine hrt.mono ?_
    rintro e w1 ⟨rfl, hg2⟩
    clear hrt
    have q0 := (box2 _ hg2).1
    go_wp2
    go_ret
    exact ⟨rfl, (hg1.trans hg2).below⟩
  · have hf' : n ≤ f := by omega
    clear hv'
    go_enter Try.func14, Try.ntmps14
    go_wp2_with fail
    refine hrt.mono ?_
    rintro e w1 ⟨rfl, hg2⟩
    clear hrt
    have q0 := (box2 _ hg2).1
    go_wp2
    go_ret
    exact ⟨rfl, (hg1.trans hg2).below⟩
/-- What holds of the first vertices. -/
def FirstC (L : List Eg) (s : Nat) (D V d : List Int) (j : Nat) : Prop := ∀ v, v < j → at' D v = at' d v ∧ (v ≠ s → (at' d v < 0 ∧ at' V v = -1) ∨ (0 ≤ at' d v ∧ Last L d V v))
theorem FirstC.step {L : List Eg} {s : Nat} {D V d : List Int} {j : Nat} (h : FirstC L s D V d j) (h1 : at' D j = at' d j) (h2 : j ≠ s → (at' d j < 0 ∧ at' V j = -1) ∨ (0 ≤ at' d j ∧ Last L d V j)) : FirstC L s D V d (j + 1) := fun v hv => by
  by_cases e : v = j
  · subst e; exact ⟨h1, h2⟩
  · exact h v (by omega)
theorem FirstC.all {L : List Eg} {s N : Nat} {D V d : List Int} (h : FirstC L s D V d N) (hd : IsD L s N d) (lD : D.length = N) (lV : V.length = N) (hz : at' V s = -1) (hc : ∀ v, v < N → 0 ≤ at' d v → ∃ k, up L V k v = s) : OKc L s N D V := by
  have e : D = d := List.ext_getElem (lD.trans hd.1.symm) fun v h1 h2 => by
    rw [← at_get h1, ← at_get h2]
    exact (h v (by omega)).1
  subst e
  exact ⟨hd, lV, hz, fun v hv hne => (h v hv).2 hne, hc⟩
theorem FirstC.par {L : List Eg} {s N : Nat} {D V d : List Int} (h : FirstC L s D V d N) (hd : IsD L s N d) (hE : ∀ e ∈ L, e.1 < N ∧ e.2.1 < N) {x : Nat} (hx : x < N) (hne : x ≠ s) (h0 : 0 ≤ at' d x) : ∃ (i : Nat) (e : Eg), at' V x = i ∧ L[i]? = some e ∧ (e.1 = x ∨ e.2.1 = x) ∧ par L V x = oth e x ∧ oth e x < N ∧ 0 ≤ at' d (oth e x) := by
  rcases (h x hx).2 hne with h1 | ⟨_, hL⟩
  · omega
  · obtain ⟨i, h2, e, h3, h4, h5⟩ := hL
    have hm := List.mem_of_getElem? h3
    have hj := oth_jn h4
    have := kept_le (hd.kept hE hm) hj.symm h0
    refine ⟨i, e, h2, h3, h4, par_of h2 h3, ?_, this.1⟩
    have := hE e hm
    rcases hj with ⟨a, b⟩ | ⟨a, b⟩ <;> omega
set_option maxRecDepth 100000 in
set_option maxHeartbeats 8000000 in
theorem refCheck_any (N : Nat) (L : List Eg) (s : Nat) (hN : N ≤ 40) (hs : s < N) (hm : L.length ≤ 160) (hE : ∀ e ∈ L, e.1 < N ∧ e.2.1 < N) (hW : ∀ e ∈ L, e.2.2 ≤ 2147483647) (hk : rgtW (N : Int) (L.map edE) = 0) (D V : List Int) (sv dv vv : Value) (w : World) (hl : Edges w.heap.size w sv (L.map edE)) (hD : Ints w.heap.size w dv D) (hV : Ints w.heap.size w vv V) :
    Calls Try.prog 14 #[.agg #[.int .i64 (N : Int), sv], .int .i64 (s : Int), dv, vv] w fun e w' => CheckP L s N D V e ∧ Below w.heap.size w w' := by
  have hmix := mixed
  obtain ⟨p, c, rfl⟩ := hl.lenG
  obtain ⟨pd, cd, rfl, hod⟩ := hD.openW
  obtain ⟨pv, cv, rfl, hov⟩ := hV.openW
  have hg1 : Grew w (w.alloc (.cells #[.int .i64 (N : Int), .slice p L.length c] 24)) := (Grew.refl w).alloc _
  have hrt := refRightW_any (N : Int) (L.map edE) _ _ (hl.go hg1.below)
  rw [hk] at hrt
  have hsl : (s : Int) < (N : Int) := by omega
  clear hk
  go_enter Try.func14, Try.ntmps14
  go_wp2_with fail
  refine hrt.mono ?_
  rintro e w2 ⟨rfl, hg2⟩
  clear hrt
  have hX : Blk 24 w2 w.heap.size [.int .i64 (N : Int), .slice p L.length c] := Blk.go (heap_alloc_new w _) hg2.below
  have hb : Below w.heap.size w w2 := (hg1.trans hg2).below
  have q0 := hX.cell (j := 0) rfl
  have q1 := hX.cell (j := 1) rfl
  clear hg1 hg2
  by_cases lD : D.length = N
  · by_cases lV : V.length = N
    · obtain ⟨bd, od, rfl, hbbd, hcd⟩ := hod (j := s) (by omega)
      obtain ⟨bv, ov, rfl, hbbv, hcv⟩ := hov (j := s) (by omega)
      have v0 := hcv w2 hb s (by omega)
      have hsV : (s : Int) < (V.length : Int) := by omega
      rw [lD] at hcd
      rw [lV] at hcv
      have HCD : Hid _ := hcd
      have HCV : Hid _ := hcv
      clear hcd hcv hod hov
      by_cases hvs : at' V s = -1
      · have HVS : Hid _ := hvs
        have HLD : Hid _ := lD
        have HLV : Hid _ := lV
        rw [hvs] at v0
        rw [lD] at hD ⊢
        rw [lV] at hV hsV ⊢
        have hrd := refDist_any N L s hN hm hs hE hW _ w2 ((hl.below hb).mono hb.size)
        have hdI := relN_isD hs (dist0_bf L hs) hE hW
        have HFW : Hid (∀ v, at' (relN L (dist0 N s) N) v ≤ 1000000000000000) := fun v => by
          have h1 := ((dist0_bf L hs).relN hE hW N).few v
          have h2 := dist_few hN hm rfl (Nat.le_refl N) (Nat.zero_le L.length)
          omega
        generalize relN L (dist0 N s) N = d at hrd hdI HFW
        have HL : Hid _ := hl
        have HE : Hid _ := hE
        have HW : Hid _ := hW
        clear hvs lD lV hl hE hW
        go_wp2_with fail
        refine hrd.mono ?_
        rintro e w3 ⟨g, rfl, hgw, hBd, hb3⟩
        clear hrd v0 q0 q1
        have hX3 := hX.go hb3
        have hbw := hb.trans (hb3.mono hb.size)
        have hg0 : w.heap.size < g := by have := hX.lt; omega
        clear hX hb hb3
        have HDI : Hid _ := hdI
        have HBX : Hid (∀ W, Below w3.heap.size w3 W → ∀ v, v < N → W.cell? ⟨g, v, none⟩ = some (.int .i64 (at' d v))) := fun W hW v hv => (hBd.go hW).cell (by rw [List.getElem?_map, at_get? (by rw [hdI.1]; exact hv)]; rfl)
        have HGW : Hid (∀ W, Below w3.heap.size w3 W → Below w.heap.size w W) := fun W hW => hbw.trans (hW.mono hbw.size)
        have HXW : Hid (∀ W, Below w3.heap.size w3 W → Blk 24 W w.heap.size [.int .i64 (N : Int), .slice p L.length c]) := fun W hW => hX3.go hW
        clear hdI hBd hX3 hbw hgw
        go_wp2
        go_loopw [11] (fun i wr => ∃ j : Nat, j ≤ N ∧ i = .int .i64 j ∧ Hid (FirstC L s D V d j) ∧ Below w3.heap.size w3 wr) (fun i _ => N - (intOf i).toNat)
        case atStart => exact ⟨0, Nat.zero_le _, rfl, (fun v hv => by omega), Below.refl _ _⟩
        case round =>
          obtain ⟨j, hj, rfl, HF, hb⟩ := hrel
          have hbw := HGW.out wr hb
          have hXr := HXW.out wr hb
          have q0 := hXr.cell (j := 0) rfl
          by_cases hjN : j < N
          · have hjl : (j : Int) < (N : Int) := by omega
            have a0 := HCD.out wr hbw j hjN
            have a1 := HBX.out wr hb j hjN
            have a2 := HCV.out wr hbw j hjN
            by_cases hne : at' D j = at' d j
            · have HEQ : Hid _ := hne
              rw [hne] at a0
              have HU : Hid (OKc L s N D V → D = d) := fun h => IsD.uniq h.dist HDI.out
              clear hne
              obtain ⟨x, HX⟩ : ∃ x, Hid (at' d j = x) := ⟨_, show Hid _ from rfl⟩
              obtain ⟨y, HY⟩ : ∃ y, Hid (at' V j = y) := ⟨_, show Hid _ from rfl⟩
              rw [HX.out] at a0 a1
              rw [HY.out] at a2
              go_wp2
              go_quiet (fail)
              have hb2 := below_drewN hb nq
              have b1 : (wr.drewN nq).cell? ⟨g, j, none⟩ = some (.int .i64 x) := a1
              have b2 : (wr.drewN nq).cell? ⟨bv, ov + j, none⟩ = some (.int .i64 y) := a2
              have hX2 : Blk 24 (wr.drewN nq) w.heap.size [.int .i64 (N : Int), .slice p L.length c] := hXr
              clear a0 a1 a2 q0 hXr hb hbw
              generalize wr.drewN nq = w4 at *
              have hbw := HGW.out w4 hb2
              by_cases hjs : j = s
              · have HF2 : Hid (FirstC L s D V d (j + 1)) := HF.out.step HEQ.out (fun h => absurd hjs h)
                have hjs' : (j : Int) = (s : Int) := by omega
                clear HF HEQ HX HY HU
                subst hjs
                go_wp2
                exact ⟨⟨j + 1, by omega, by go_num, HF2, hb2⟩, by simp [intOf]; omega⟩
              · have hjs' : ¬ (j : Int) = (s : Int) := by omega
                by_cases hx0 : x < 0
                · by_cases hy1 : y = -1
                  · have HF2 : Hid (FirstC L s D V d (j + 1)) := HF.out.step HEQ.out (fun _ => .inl ⟨by rw [HX.out]; exact hx0, by rw [HY.out]; exact hy1⟩)
                    rw [hy1] at b2
                    clear HF HEQ HX HY HU hy1
                    go_wp2
                    exact ⟨⟨j + 1, by omega, by go_num, HF2, hb2⟩, by simp [intOf]; omega⟩
                  · have HNo : ¬ OKc L s N D V := fun h => by
                      rcases h.last j hjN hjs with ⟨_, h1⟩ | ⟨h1, _⟩
                      · exact hy1 (HY.out.symm.trans h1)
                      · rw [HEQ.out, HX.out] at h1; omega
                    clear HF HEQ HX HY HU
                    go_wp2
                    go_ret
                    exact ⟨.inr ⟨rfl, HNo⟩, hbw⟩
                · have HLast : Hid (OKc L s N D V → Last L d V j) := fun h => by
                    have e := HU.out h
                    rcases h.last j hjN hjs with ⟨h1, _⟩ | ⟨_, h1⟩
                    · rw [HEQ.out, HX.out] at h1; omega
                    · rw [e] at h1; exact h1
                  have q1 := hX2.cell (j := 1) rfl
                  by_cases hy0 : y < 0
                  · have HNo : ¬ OKc L s N D V := fun h => by
                      obtain ⟨i, h1, _⟩ := HLast.out h
                      have := HY.out
                      omega
                    have hyd : decide (y < 0) = true := by simp; omega
                    clear HF HEQ HX HY HU HLast
                    go_wp2
                    go_quiet (fail)
                    go_wp2
                    go_ret
                    exact ⟨.inr ⟨rfl, HNo⟩, below_drewN hbw nq⟩
                  · have hyd : decide (y < 0) = false := by simp; omega
                    obtain ⟨i, rfl⟩ : ∃ i : Nat, y = i := ⟨y.toNat, by omega⟩
                    by_cases hil : i < L.length
                    · have hil' : (i : Int) < (L.length : Int) := by omega
                      have hild : decide (L.length ≤ i) = false := by simp; omega
                      have heL := List.getElem?_eq_getElem hil
                      obtain ⟨bl, ol, rfl, hbl, hcl, hcel⟩ := Edges.eg HL.out hil
                      have HCE : Hid (∀ W', Below w.heap.size w W' → W'.cell? ⟨bl, ol + i * 3, none⟩ = some (.int .i64 (L[i].1 : Int)) ∧ W'.cell? ⟨bl, ol + i * 3 + 1, none⟩ = some (.int .i64 (L[i].2.1 : Int)) ∧ W'.cell? ⟨bl, ol + i * 3 + 2, none⟩ = some (.int .i64 (L[i].2.2 : Int))) := fun W' hW => hcel W' hW i hil
                      have hem := List.getElem_mem hil
                      have hends := HE.out _ hem
                      have hwt := HW.out _ hem
                      have HKP : Hid _ := IsD.kept HDI.out HE.out hem
                      generalize L[i] = e at heL HCE hem hends hwt HKP
                      clear hcel
                      go_wp2
                      go_quiet (fail)
                      have hb5 := below_drewN hb2 nq
                      have hX5 : Blk 24 (w4.drewN nq) w.heap.size [.int .i64 (N : Int), .slice (some ⟨bl, ol, none⟩) L.length c] := hX2
                      clear b1 b2 q1 hX2 hb2 hbw
                      go_wp2
                      generalize w4.drewN nq = w5 at *
                      have hbw5 := HGW.out w5 hb5
                      have hs5 := hbw5.size
                      have hs5' := hb5.size
                      obtain ⟨e0, e1, e2⟩ := HCE.out w5 hbw5
                      have q1g := cell_grown (a := ⟨w.heap.size, 1, none⟩) hX5.lt (hX5.cell (j := 1) rfl)
                      have v5 := HCV.out w5 hbw5 j hjN
                      rw [HY.out] at v5
                      have v5g := cell_grown (a := ⟨bv, ov + j, none⟩) (by show bv < _; omega) v5
                      have e0g := cell_grown (a := ⟨bl, ol + i * 3, none⟩) (by show bl < _; omega) e0
                      have e1g := cell_grown (a := ⟨bl, ol + i * 3 + 1, none⟩) (by show bl < _; omega) e1
                      have e2g := cell_grown (a := ⟨bl, ol + i * 3 + 2, none⟩) (by show bl < _; omega) e2
                      have hot := fun W => refOther_any e j W
                      by_cases hev : e.1 = j ∨ e.2.1 = j
                      · rw [if_pos hev] at hot
                        have hun : oth e j < N := by rcases oth_jn hev with ⟨a, b⟩ | ⟨a, b⟩ <;> omega
                        have hjn := oth_jn hev
                        have HKL : Hid (0 ≤ at' d (oth e j)) := (kept_le HKP.out hjn.symm (by rw [HX.out]; omega)).1
                        have HGood : Hid (at' d (oth e j) = x - (e.2.2 : Int) → FirstC L s D V d (j + 1)) := fun h => HF.out.step HEQ.out fun _ => .inr ⟨by rw [HX.out]; omega, i, HY.out, e, heL, hev, by rw [HX.out]; exact h⟩
                        have HBad : Hid (¬ at' d (oth e j) = x - (e.2.2 : Int) → ¬ OKc L s N D V) := fun hn h => by
                          obtain ⟨i', h1, e', h2, _, h4⟩ := HLast.out h
                          have hii : i' = i := by have := HY.out; omega
                          subst hii
                          rw [heL] at h2
                          obtain rfl := Option.some.inj h2
                          exact hn (by rw [h4, HX.out])
                        generalize oth e j = u at *
                        have hul : (u : Int) < (N : Int) := by omega
                        clear hev hjn heL HF HEQ HLast HU HKP
                        go_quiet_grown (first | (go_at_call 25; refine Calls.grown_of (hot _)))
                        have hgr : Grew w5 (Go.Sort.grow (w5.drewN nq) osq) := ⟨nq, osq, rfl⟩
                        go_wp2
                        generalize Go.Sort.grow (w5.drewN nq) osq = w6 at *
                        have hb6 := hb5.trans (hgr.below.mono hs5')
                        have hbw6 := HGW.out w6 hb6
                        have hX6 := hX5.go hgr.below
                        clear q1g v5g e0g e1g e2g e0 e1 e2 v5 hX5 hgr
                        obtain ⟨e0, e1, e2⟩ := HCE.out w6 hbw6
                        have q1 := hX6.cell (j := 1) rfl
                        have v6 := HCV.out w6 hbw6 j hjN
                        rw [HY.out] at v6
                        have t0 := HBX.out w6 hb6 j hjN
                        rw [HX.out] at t0
                        have t1 := HBX.out w6 hb6 u hun
                        obtain ⟨xu, HXU⟩ : ∃ xu, Hid (at' d u = xu) := ⟨_, show Hid _ from rfl⟩
                        rw [HXU.out] at t1 HGood HBad HKL
                        have hxu0 : 0 ≤ xu := HKL.out
                        have hu0 : decide ((u : Int) < 0) = false := by simp
                        have hxud : decide (xu < 0) = false := by simp; omega
                        have hxb : x ≤ 1000000000000000 := by rw [← HX.out]; exact HFW.out j
                        have hwr := wrap_i (x - (e.2.2 : Int)) (by omega) (by omega)
                        by_cases hgd : xu = x - (e.2.2 : Int)
                        · have HF2 : Hid _ := HGood.out hgd
                          have hgb : (xu != x - (e.2.2 : Int)) = false := by simp [hgd]
                          clear HGood HBad HX HY HXU HKL hgd
                          go_quiet (fail)
                          go_wp2
                          exact ⟨⟨j + 1, by omega, by go_num, HF2, below_drewN hb6 nq⟩, by simp [intOf]; omega⟩
                        · have HNo := HBad.out hgd
                          have hgb : (xu != x - (e.2.2 : Int)) = true := by simp [hgd]
                          clear HGood HBad HX HY HXU HKL
                          go_quiet (fail)
                          go_wp2
                          go_ret
                          exact ⟨.inr ⟨rfl, HNo⟩, below_drewN hbw6 nq⟩
                      · rw [if_neg hev] at hot
                        have HNo : ¬ OKc L s N D V := fun h => by
                          obtain ⟨i', h1, e', h2, h3, _⟩ := HLast.out h
                          have hii : i' = i := by have := HY.out; omega
                          subst hii
                          rw [heL] at h2
                          obtain rfl := Option.some.inj h2
                          exact hev h3
                        clear hev heL HF HEQ HLast HU HKP
                        go_quiet_grown (first | (go_at_call 25; refine Calls.grown_of (hot _)))
                        have hgr : Grew w5 (Go.Sort.grow (w5.drewN nq) osq) := ⟨nq, osq, rfl⟩
                        go_wp2
                        generalize Go.Sort.grow (w5.drewN nq) osq = w6 at *
                        have hb6 := hb5.trans (hgr.below.mono hs5')
                        have hbw6 := HGW.out w6 hb6
                        clear q1g v5g e0g e1g e2g e0 e1 e2 v5 hX5 hgr
                        go_quiet (fail)
                        go_wp2
                        go_ret
                        exact ⟨.inr ⟨rfl, HNo⟩, below_drewN hbw6 nq⟩
                    · have HNo : ¬ OKc L s N D V := fun h => by
                        obtain ⟨i', h1, e, h2, _⟩ := HLast.out h
                        have := HY.out
                        have := (List.getElem?_eq_some_iff.1 h2).1
                        omega
                      have hild : decide (L.length ≤ i) = true := by simp; omega
                      have hil' : (L.length : Int) ≤ (i : Int) := by omega
                      clear HF HEQ HX HY HU HLast
                      go_wp2
                      go_quiet (fail)
                      go_wp2
                      go_ret
                      exact ⟨.inr ⟨rfl, HNo⟩, below_drewN hbw nq⟩
            · have HNo : ¬ OKc L s N D V := fun h => hne (by rw [IsD.uniq h.dist HDI.out])
              generalize at' D j = x at *
              generalize at' d j = y at *
              go_wp2
              go_quiet (fail)
              go_wp2
              go_ret
              exact ⟨.inr ⟨rfl, HNo⟩, below_drewN hbw nq⟩
          · obtain rfl : N = j := by omega
            clear hbw hXr
            go_wp2
            generalize wr = w4 at *
            clear q0
            go_loopw [13] (fun i wr => ∃ j : Nat, j ≤ N ∧ i = .int .i64 j ∧ Hid (∀ v, v < j → 0 ≤ at' d v → ∃ k, up L V k v = s) ∧ Below w3.heap.size w3 wr) (fun i _ => N - (intOf i).toNat)
            case atStart => exact ⟨0, Nat.zero_le _, rfl, (fun v hv => by omega), hb⟩
            case round =>
              clear hb
              obtain ⟨j, hj, rfl, HC, hb⟩ := hrel
              have hbw := HGW.out wr hb
              have hXr := HXW.out wr hb
              have q0 := hXr.cell (j := 0) rfl
              by_cases hjN : j < N
              · have hjl : (j : Int) < (N : Int) := by omega
                have t0 := HBX.out wr hb j hjN
                by_cases hd0 : at' d j < 0
                · have HC2 : Hid (∀ v, v < j + 1 → 0 ≤ at' d v → ∃ k, up L V k v = s) := fun v hv h0 => by
                    by_cases e : v = j
                    · subst e; omega
                    · exact HC.out v (by omega) h0
                  clear HC
                  generalize at' d j = x at *
                  go_wp2
                  exact ⟨⟨j + 1, by omega, by go_num, HC2, hb⟩, by simp [intOf]; omega⟩
                · have HD0 : Hid (0 ≤ at' d j) := by unfold Hid; omega
                  have HD1 : Hid _ := hd0
                  obtain ⟨x0, HX0⟩ : ∃ x, Hid (at' d j = x) := ⟨_, show Hid _ from rfl⟩
                  rw [HX0.out] at t0 hd0
                  go_wp2
                  generalize wr = w5 at *
                  clear q0 t0 hXr hbw
                  go_loopw [14, 15] (fun xv iv wr => ∃ (i u : Nat), i ≤ N ∧ iv = .int .i64 i ∧ xv = .int .i64 u ∧ Hid (up L V i j = u) ∧ u < N ∧ Hid (0 ≤ at' d u) ∧ Below w3.heap.size w3 wr) (fun _ iv _ => N - (intOf iv).toNat)
                  case atStart => exact ⟨0, j, Nat.zero_le _, rfl, rfl, rfl, hjN, HD0.out, hb⟩
                  case round =>
                    clear hb
                    obtain ⟨i, u, hi, rfl, rfl, HUP, hu, HU0, hb⟩ := hrel
                    have hbw := HGW.out wr hb
                    have hXr := HXW.out wr hb
                    have q0 := hXr.cell (j := 0) rfl
                    by_cases hus : u = s
                    · have HC2 : Hid (∀ v, v < j + 1 → 0 ≤ at' d v → ∃ k, up L V k v = s) := fun v hv h0 => by
                        by_cases e : v = j
                        · subst e; exact ⟨i, HUP.out.trans hus⟩
                        · exact HC.out v (by omega) h0
                      clear HC HUP HU0 HF
                      subst hus
                      by_cases hiN : i < N
                      · have hiN' : (i : Int) < (N : Int) := by omega
                        go_wp2
                        exact ⟨⟨j + 1, by omega, by go_num, HC2, hb⟩, by simp [intOf]; omega⟩
                      · have hiN' : ¬ (i : Int) < (N : Int) := by omega
                        go_wp2
                        exact ⟨⟨j + 1, by omega, by go_num, HC2, hb⟩, by simp [intOf]; omega⟩
                    · have hus' : ¬ (u : Int) = (s : Int) := by omega
                      by_cases hiN : i < N
                      · have hiN' : (i : Int) < (N : Int) := by omega
                        obtain ⟨n1, e, h1, h2, h3, h4, h5, h6⟩ := FirstC.par HF.out HDI.out HE.out hu hus HU0.out
                        have HUP2 : Hid (up L V (i + 1) j = oth e u) := by unfold Hid; rw [up_succ, HUP.out]; exact h4
                        have HU6 : Hid _ := h6
                        have hil := (List.getElem?_eq_some_iff.1 h2).1
                        have hie := (List.getElem?_eq_some_iff.1 h2).2
                        obtain ⟨bl, ol, rfl, hbl, hcl, hcel⟩ := Edges.eg HL.out hil
                        obtain ⟨e0, e1, e2⟩ := hcel wr hbw n1 hil
                        rw [hie] at e0 e1 e2
                        have hil' : (n1 : Int) < (L.length : Int) := by omega
                        have hot := fun W => refOther_any e u W
                        rw [if_pos h3] at hot
                        have v6 := HCV.out wr hbw u hu
                        rw [h1] at v6
                        have hul : (u : Int) < (N : Int) := by omega
                        have q1 := hXr.cell (j := 1) rfl
                        clear hcel hie h1 h2 h3 h4 h6 HUP HU0
                        generalize oth e u = u' at *
                        have hs5 := hbw.size
                        have hs5' := hb.size
                        go_wp2
                        have q1g := cell_grown (a := ⟨w.heap.size, 1, none⟩) hXr.lt q1
                        have v6g := cell_grown (a := ⟨bv, ov + u, none⟩) (by show bv < _; omega) v6
                        have e0g := cell_grown (a := ⟨bl, ol + n1 * 3, none⟩) (by show bl < _; omega) e0
                        have e1g := cell_grown (a := ⟨bl, ol + n1 * 3 + 1, none⟩) (by show bl < _; omega) e1
                        have e2g := cell_grown (a := ⟨bl, ol + n1 * 3 + 2, none⟩) (by show bl < _; omega) e2
                        go_quiet_grown (first | (go_at_call 25; refine Calls.grown_of (hot _)))
                        have hgr : Grew wr (Go.Sort.grow (wr.drewN nq) osq) := ⟨nq, osq, rfl⟩
                        generalize Go.Sort.grow (wr.drewN nq) osq = w7 at *
                        go_wp2
                        exact ⟨⟨i + 1, u', by omega, by go_num, rfl, HUP2, h5, HU6, hb.trans (hgr.below.mono hs5')⟩, by simp [intOf]; omega⟩
                      · have hiN' : ¬ (i : Int) < (N : Int) := by omega
                        have HNo : ¬ OKc L s N D V := fun h => by
                          have e := IsD.uniq h.dist HDI.out
                          obtain ⟨t, h1, h2⟩ := h.short HE.out hs hjN (by rw [e]; exact HD0.out)
                          have h3 := up_to h.zero (ch_up h1) (k := i) (by omega)
                          exact hus (HUP.out.symm.trans h3)
                        clear HC HUP HU0 HF
                        go_wp2
                        go_ret
                        exact ⟨.inr ⟨rfl, HNo⟩, hbw⟩
              · obtain rfl : N = j := by omega
                have HYes : OKc L s N D V := FirstC.all HF.out HDI.out HLD.out HLV.out HVS.out HC.out
                clear HC HF
                go_wp2
                go_ret
                exact ⟨.inl ⟨rfl, HYes⟩, hbw⟩
      · have HNo : ¬ OKc L s N D V := fun h => hvs h.zero
        rw [lD]
        rw [lV] at hsV ⊢
        generalize at' V s = x at *
        go_wp2
        go_ret
        exact ⟨.inr ⟨rfl, HNo⟩, hb⟩
    · have HNo : ¬ OKc L s N D V := fun h => lV h.len
      have lV' : ¬ (V.length : Int) = (N : Int) := by omega
      rw [lD]
      clear hod hov
      go_wp2
      go_ret
      exact ⟨.inr ⟨rfl, HNo⟩, hb⟩
  · have HNo : ¬ OKc L s N D V := fun h => lD h.dist.1
    have lD' : ¬ (D.length : Int) = (N : Int) := by omega
    clear hod hov
    go_wp2
    go_ret
    exact ⟨.inr ⟨rfl, HNo⟩, hb⟩
end Go.Proofs.Ytejemnjadgihbaa
