/-
  The reference's distances: edges that make a way shorter, again and again.
-/
import Derived.Deep.DeepCutAuto
import Derived.Deep.CutBlock
import Derived.Test.YthdhimcaojfcnaaGreatXWaNew
namespace Go.Proofs.YthdhimcaojfcnaaGreat
open Go Go.Proofs Go.RowKit

/-- Does an edge of weight z make the way to y shorter, over x? -/
def relB (x y : Int) (z : Nat) : Bool := decide (0 ≤ x ∧ (y < 0 ∨ x + z < y))
theorem relB_true {x y : Int} {z : Nat} (h : 0 ≤ x) (h' : y < 0 ∨ x + z < y) : relB x y z = true := by unfold relB; simpa using ⟨h, h'⟩
theorem relB_false {x y : Int} {z : Nat} (h : x < 0 ∨ (0 ≤ y ∧ y ≤ x + z)) : relB x y z = false := by unfold relB; simp; omega
theorem relB_ge {x y : Int} {z : Nat} (h : relB x y z = true) : 0 ≤ x := by unfold relB at h; simp at h; exact h.1
theorem rel1_noB {D : List Int} {a b z : Nat} (h : relB (at' D a) (at' D b) z = false) : rel1 D a b z = D := if_neg (by unfold relB at h; simpa using h)
theorem rel1_yesB {D : List Int} {a b z : Nat} (h : relB (at' D a) (at' D b) z = true) : rel1 D a b z = D.set b (at' D a + z) := if_pos (by unfold relB at h; simpa using h)
theorem dist_few {N m M : Nat} (hN : N ≤ 40) (hm : m ≤ 160) (hM : M = 2147483647) {i k : Nat} (hi : i ≤ N) (hk : k ≤ m) : 0 + i * (m * (2 * M)) + k * (2 * M) ≤ 1000000000000000 := by
  subst hM
  have h1 : m * (2 * 2147483647) ≤ 687194767040 := by omega
  have h2 : i * (m * (2 * 2147483647)) ≤ 40 * 687194767040 := Nat.mul_le_mul (by omega) h1
  omega

set_option maxRecDepth 100000 in
set_option maxHeartbeats 8000000 in
theorem refDist_any (N : Nat) (L : List Eg) (s : Nat) (hN : N ≤ 40) (hm : L.length ≤ 160) (hs : s < N) (hE : ∀ e ∈ L, e.1 < N ∧ e.2.1 < N) (hW : ∀ e ∈ L, e.2.2 ≤ 2147483647) (sv : Value) (w : World) (hl : Edges w.heap.size w sv (L.map edE)) :
    Calls Tryz.prog 21 #[.agg #[.int .i64 (N : Int), sv], .int .i64 (s : Int)] w fun r w' => ∃ g, r = .returned (.slice (some ⟨g, 0, none⟩) N N) ∧ w.heap.size ≤ g ∧ Blk 2 w' g ((relN L (dist0 N s) N).map (Value.int .i64)) ∧ Below w.heap.size w w' := by
  have hmix := mixed
  obtain ⟨p, c, rfl⟩ := hl.lenG
  obtain ⟨i0, hi, hz0, hz1, hz2⟩ := info_partsW infoL
  have hs1 : (w.alloc (.cells #[.int .i64 (N : Int), .slice p L.length c] 24)).heap.size = w.heap.size + 1 := by simp
  have hb1 : Below w.heap.size w (w.alloc (.cells #[.int .i64 (N : Int), .slice p L.length c] 24)) := (Below.refl _ _).alloc (Nat.le_refl _) _
  have hX1 : Blk 24 (w.alloc (.cells #[.int .i64 (N : Int), .slice p L.length c] 24)) w.heap.size [.int .i64 (N : Int), .slice p L.length c] := heap_alloc_new w _
  have q0 := hX1.cell (j := 0) rfl
  have hsl : (s : Int) < (N : Int) := by omega
  have HL : Hid _ := hl
  have HE : Hid _ := hE
  have HW : Hid _ := hW
  clear hl hE hW
  go_enter Tryz.func21, Tryz.ntmps21
  go_wp2_with (at_make; generalize hw1 : w.alloc (.cells #[.int .i64 (N : Int), .slice p L.length c] 24) = w1 at *; refine wpList_make_full _ rfl _ _ 41 rfl (w.heap.size + 1) 2 i0 (.int .i64 0) 1 Tryz.underlying41 hi hz0 hz1 .i64 .i64 _ _ N rfl rfl rfl rfl (by rw [hz2]; omega) (by unfold maxLen; omega) (by omega) ?_; rw [hs1]; intro w3 hown hgrow; have hb3 : Below (w.heap.size + 1) w1 w3 := (Below.refl _ _).grown hgrow (by omega) (fun k e => by cases e); have x0 := (hX1.below hb3 (by omega)).cell (j := 0) rfl)
  have hrow := Blk.made hown
  rw [ints_madeW] at hrow
  have hrow0 : Blk 2 w3 (w.heap.size + 1) ((negK N 0).map (Value.int .i64)) := by rw [negK_zero]; exact hrow
  have hX3 := hX1.below hb3 (by omega)
  have hbw3 : Below w.heap.size w w3 := hb1.trans (hb3.mono (by omega))
  obtain ⟨g, hgg⟩ : ∃ g, w.heap.size + 1 = g := ⟨_, rfl⟩
  rw [hgg] at hrow0 ⊢
  have hgw : w.heap.size < g := by omega
  clear hown hgrow hb3 hX1 hgg q0 hb1 hs1 hrow hi hz0 hz1 hz2
  go_loopw [6] (fun i wr => ∃ j : Nat, j ≤ N ∧ i = .int .i64 j ∧ Blk 2 wr g ((negK N j).map (Value.int .i64)) ∧ Blk 24 wr w.heap.size [.int .i64 (N : Int), .slice p L.length c] ∧ Below w.heap.size w wr) (fun i _ => N - (intOf i).toNat)
  case atStart => exact ⟨0, Nat.zero_le _, rfl, hrow0, hX3, hbw3⟩
  case round =>
    clear hrow0 hX3 hbw3 x0
    obtain ⟨j, hj, rfl, hB, hX, hb⟩ := hrel
    have q0 := hX.cell (j := 0) rfl
    by_cases hjN : j < N
    · have t0 : wr.cell? ⟨g, j, none⟩ = some (.int .i64 0) := hB.cell (by rw [List.getElem?_map, negK_at hjN]; rfl)
      have f0 := hB.frozen j
      have hjl : (j : Int) < (N : Int) := by omega
      have hBn := hB.set j (.int .i64 (-1))
      rw [← List.map_set, negK_set N j hjN] at hBn
      have hXn := hX.other (p := ⟨g, j, none⟩) (by show w.heap.size ≠ g; omega) (.int .i64 (-1))
      have hbn := hb.setCell (p := ⟨g, j, none⟩) (by show w.heap.size ≤ g; omega) (.int .i64 (-1))
      go_wp2
      exact ⟨⟨j + 1, by omega, by go_num, hBn, hXn, hbn⟩, by simp [intOf]; omega⟩
    · obtain rfl : N = j := by omega
      rw [negK_full] at hB
      have hsn : s < (negs N).length := by simpa [negs] using hs
      have t0 : wr.cell? ⟨g, s, none⟩ = some (.int .i64 (-1)) := hB.cell (by rw [List.getElem?_map, at_get? hsn, at_negs]; rfl)
      have f0 := hB.frozen s
      have hBn := hB.set s (.int .i64 0)
      rw [← List.map_set] at hBn
      have hXn := hX.other (p := ⟨g, s, none⟩) (by show w.heap.size ≠ g; omega) (.int .i64 0)
      have hbn := hb.setCell (p := ⟨g, s, none⟩) (by show w.heap.size ≤ g; omega) (.int .i64 0)
      have hBF := dist0_bf L hs
      have hgx : w.heap.size ≠ g := by omega
      clear hB hX hb
      go_wp2
      generalize wr.setCell ⟨g, s, none⟩ (.int .i64 0) = w5 at *
      clear t0 f0 q0
      go_loopw [7] (fun i wr => ∃ j : Nat, j ≤ N ∧ i = .int .i64 j ∧ Blk 2 wr g ((relN L (dist0 N s) j).map (Value.int .i64)) ∧ Blk 24 wr w.heap.size [.int .i64 (N : Int), .slice p L.length c] ∧ Below w.heap.size w wr) (fun i _ => N - (intOf i).toNat)
      case atStart => exact ⟨0, Nat.zero_le _, rfl, hBn, hXn, hbn⟩
      case round =>
        clear hBn hXn hbn
        obtain ⟨j, hj, rfl, hB, hX, hb⟩ := hrel
        have q0 := hX.cell (j := 0) rfl
        by_cases hjN2 : j < N
        · have hjl : (j : Int) < (N : Int) := by omega
          have hBFj := hBF.relN HE.out HW.out j
          have HNX : Hid (relN L (dist0 N s) (j + 1) = relL (relN L (dist0 N s) j) (L.take L.length)) := by unfold Hid; rw [List.take_length]; rfl
          generalize relN L (dist0 N s) j = D0 at *
          go_wp2
          generalize wr = w6 at *
          go_loopw [8] (fun i wr => ∃ k : Nat, k ≤ L.length ∧ i = .int .i64 k ∧ Blk 2 wr g ((relL D0 (L.take k)).map (Value.int .i64)) ∧ Blk 24 wr w.heap.size [.int .i64 (N : Int), .slice p L.length c] ∧ Below w.heap.size w wr) (fun i _ => L.length - (intOf i).toNat)
          case atStart => exact ⟨0, Nat.zero_le _, rfl, hB, hX, hb⟩
          case round =>
            clear hB hX hb q0
            obtain ⟨k, hk, rfl, hB, hX, hb⟩ := hrel
            have q1 := hX.cell (j := 1) rfl
            by_cases hkl : k < L.length
            · obtain ⟨bl, ol, rfl, hbl, hcl, hcel⟩ := Edges.eg HL.out hkl
              obtain ⟨e0, e1, e2⟩ := hcel wr hb k hkl
              have hkl' : (k : Int) < (L.length : Int) := by omega
              have hem := List.getElem_mem hkl
              have hends := HE.out _ hem
              have hwt := HW.out _ hem
              have hBFk := hBFj.relL HE.out HW.out k hk
              have hfew : ∀ v, at' (relL D0 (L.take k)) v ≤ 1000000000000000 := fun v => by
                have h1 := hBFk.few v
                have h2 := dist_few hN hm rfl hj hk
                omega
              have HNK : Hid (relL D0 (L.take (k + 1)) = rel1 (rel1 (relL D0 (L.take k)) L[k].1 L[k].2.1 L[k].2.2) L[k].2.1 L[k].1 L[k].2.2) := relL_step hkl
              have hlenD := hBFk.len
              generalize relL D0 (L.take k) = D at hB hBFk hfew HNK hlenD
              generalize L[k].1 = a at e0 hends HNK
              generalize L[k].2.1 = b at e1 hends HNK
              generalize L[k].2.2 = z at e2 hwt HNK
              obtain ⟨haN, hbN⟩ := hends
              have haN' : (a : Int) < (N : Int) := by omega
              have hbN' : (b : Int) < (N : Int) := by omega
              have hal : Below wr.heap.size wr (wr.alloc (.cells #[.int .i64 (a : Int), .int .i64 (b : Int), .int .i64 (z : Int)] 46)) := (Below.refl _ _).alloc (Nat.le_refl _) _
              have hB1 := hB.go hal
              have hX1 := hX.go hal
              have hb1 := hb.trans (hal.mono hb.size)
              have hXe1 : Blk 46 (wr.alloc (.cells #[.int .i64 (a : Int), .int .i64 (b : Int), .int .i64 (z : Int)] 46)) wr.heap.size [.int .i64 (a : Int), .int .i64 (b : Int), .int .i64 (z : Int)] := heap_alloc_new wr _
              have hlen1 := hlenD
              have hfew1 := hfew
              have hebg : wr.heap.size ≠ g := by have := hB.lt; omega
              clear hcel hem hBFk hlenD hfew
              go_wp2
              clear e0 e1 e2 q1 hal hB hX hb
              generalize wr.heap.size = eb at *
              generalize wr.alloc (.cells #[.int .i64 (a : Int), .int .i64 (b : Int), .int .i64 (z : Int)] 46) = W0 at *
              have da1 : W0.cell? ⟨g, a, none⟩ = some (.int .i64 (at' D a)) := hB1.cell (by rw [List.getElem?_map, at_get? (by rw [hlen1]; exact haN)]; rfl)
              have db1 : W0.cell? ⟨g, b, none⟩ = some (.int .i64 (at' D b)) := hB1.cell (by rw [List.getElem?_map, at_get? (by rw [hlen1]; exact hbN)]; rfl)
              have fb1 := hB1.frozen b
              have ya1 := hXe1.cell (j := 0) rfl
              have yb1 := hXe1.cell (j := 1) rfl
              have yz1 := hXe1.cell (j := 2) rfl
              have kx1 := hfew1 a
              have ky1 := hfew1 b
              obtain ⟨D1, HN1⟩ : ∃ D', Hid (D' = rel1 D a b z) := ⟨_, show Hid _ from rfl⟩
              have HNo1 : Hid (relB (at' D a) (at' D b) z = false → D1 = D) := fun h => HN1.out.trans (rel1_noB h)
              have HYes1 : Hid (relB (at' D a) (at' D b) z = true → D1 = D.set b (at' D a + z)) := fun h => HN1.out.trans (rel1_yesB h)
              obtain ⟨x1, HX1⟩ : ∃ x, Hid (at' D a = x) := ⟨_, show Hid _ from rfl⟩
              obtain ⟨y1, HY1⟩ : ∃ y, Hid (at' D b = y) := ⟨_, show Hid _ from rfl⟩
              rw [HX1.out] at da1 kx1 HNo1 HYes1
              rw [HY1.out] at db1 ky1 HNo1 HYes1
              go_cut [72] (fun t wx => t = .bool (relB x1 y1 z) ∧ ∃ q, wx = W0.drewN q)
              case first =>
                by_cases hx1 : x1 < 0
                · have hxd1 : decide (0 ≤ x1) = false := by simp; omega
                  go_quiet (fail)
                  go_wp2
                  go_meet
                  exact ⟨congrArg Value.bool (relB_false (.inl hx1)).symm, _, rfl⟩
                · have hxd1 : decide (0 ≤ x1) = true := by simp; omega
                  by_cases hy1 : y1 < 0
                  · have hyd1 : decide (y1 < 0) = true := by simp; omega
                    go_quiet (fail)
                    go_wp2
                    go_meet
                    exact ⟨congrArg Value.bool (relB_true (by omega) (.inl hy1)).symm, _, rfl⟩
                  · have hyd1 : decide (y1 < 0) = false := by simp; omega
                    have hwr1 := wrap_i (x1 + (z : Int)) (by omega) (by omega)
                    by_cases hz1 : x1 + (z : Int) < y1
                    · have hzd1 : decide (x1 + (z : Int) < y1) = true := by simp; omega
                      go_quiet (fail)
                      go_wp2
                      go_meet
                      exact ⟨congrArg Value.bool (relB_true (by omega) (.inr hz1)).symm, _, rfl⟩
                    · have hzd1 : decide (x1 + (z : Int) < y1) = false := by simp; omega
                      go_quiet (fail)
                      go_wp2
                      go_meet
                      exact ⟨congrArg Value.bool (relB_false (.inr ⟨by omega, by omega⟩)).symm, _, rfl⟩
              case rest =>
                obtain ⟨rfl, nq, rfl⟩ := hcut
                cases hR1 : relB x1 y1 z with
                | false =>
                  have hE1 : D1 = D := HNo1.out hR1
                  have hB1n : Blk 2 (W0.drewN nq) g (D1.map (Value.int .i64)) := by rw [hE1]; exact hB1
                  have hX1n : Blk 24 (W0.drewN nq) w.heap.size [.int .i64 (N : Int), .slice (some ⟨bl, ol, none⟩) L.length c] := hX1
                  have hXe1n : Blk 46 (W0.drewN nq) eb [.int .i64 (a : Int), .int .i64 (b : Int), .int .i64 (z : Int)] := hXe1
                  have hb1n : Below w.heap.size w (W0.drewN nq) := below_drewN hb1 nq
                  have hlen1n : D1.length = N := by rw [hE1]; exact hlen1
                  have hfew1n : ∀ v, at' D1 v ≤ 1000000000000000 + 2147483647 := fun v => by rw [hE1]; have := hfew1 v; omega
                  clear da1 db1 fb1 ya1 yb1 yz1 hB1 hX1 hXe1 hb1 hlen1 hfew1 hE1 HNo1 HYes1 HX1 HY1 hR1
                  generalize W0.drewN nq = W1 at *
                  go_wp2
                  have hB2 := hB1n
                  have hX2 := hX1n
                  have hXe2 := hXe1n
                  have hb2 := hb1n
                  have hlen2 := hlen1n
                  have hfew2 := hfew1n
                  clear hB1n hX1n hXe1n hb1n hlen1n hfew1n
                  have da2 : W1.cell? ⟨g, b, none⟩ = some (.int .i64 (at' D1 b)) := hB2.cell (by rw [List.getElem?_map, at_get? (by rw [hlen2]; exact hbN)]; rfl)
                  have db2 : W1.cell? ⟨g, a, none⟩ = some (.int .i64 (at' D1 a)) := hB2.cell (by rw [List.getElem?_map, at_get? (by rw [hlen2]; exact haN)]; rfl)
                  have fb2 := hB2.frozen a
                  have ya2 := hXe2.cell (j := 1) rfl
                  have yb2 := hXe2.cell (j := 0) rfl
                  have yz2 := hXe2.cell (j := 2) rfl
                  have kx2 := hfew2 b
                  have ky2 := hfew2 a
                  obtain ⟨D2, HN2⟩ : ∃ D', Hid (D' = rel1 D1 b a z) := ⟨_, show Hid _ from rfl⟩
                  have HNo2 : Hid (relB (at' D1 b) (at' D1 a) z = false → D2 = D1) := fun h => HN2.out.trans (rel1_noB h)
                  have HYes2 : Hid (relB (at' D1 b) (at' D1 a) z = true → D2 = D1.set a (at' D1 b + z)) := fun h => HN2.out.trans (rel1_yesB h)
                  obtain ⟨x2, HX2⟩ : ∃ x, Hid (at' D1 b = x) := ⟨_, show Hid _ from rfl⟩
                  obtain ⟨y2, HY2⟩ : ∃ y, Hid (at' D1 a = y) := ⟨_, show Hid _ from rfl⟩
                  rw [HX2.out] at da2 kx2 HNo2 HYes2
                  rw [HY2.out] at db2 ky2 HNo2 HYes2
                  go_cut [114] (fun t wx => t = .bool (relB x2 y2 z) ∧ ∃ q, wx = W1.drewN q)
                  case first =>
                    by_cases hx2 : x2 < 0
                    · have hxd2 : decide (0 ≤ x2) = false := by simp; omega
                      go_quiet (fail)
                      go_wp2
                      go_meet
                      exact ⟨congrArg Value.bool (relB_false (.inl hx2)).symm, _, rfl⟩
                    · have hxd2 : decide (0 ≤ x2) = true := by simp; omega
                      by_cases hy2 : y2 < 0
                      · have hyd2 : decide (y2 < 0) = true := by simp; omega
                        go_quiet (fail)
                        go_wp2
                        go_meet
                        exact ⟨congrArg Value.bool (relB_true (by omega) (.inl hy2)).symm, _, rfl⟩
                      · have hyd2 : decide (y2 < 0) = false := by simp; omega
                        have hwr2 := wrap_i (x2 + (z : Int)) (by omega) (by omega)
                        by_cases hz2 : x2 + (z : Int) < y2
                        · have hzd2 : decide (x2 + (z : Int) < y2) = true := by simp; omega
                          go_quiet (fail)
                          go_wp2
                          go_meet
                          exact ⟨congrArg Value.bool (relB_true (by omega) (.inr hz2)).symm, _, rfl⟩
                        · have hzd2 : decide (x2 + (z : Int) < y2) = false := by simp; omega
                          go_quiet (fail)
                          go_wp2
                          go_meet
                          exact ⟨congrArg Value.bool (relB_false (.inr ⟨by omega, by omega⟩)).symm, _, rfl⟩
                  case rest =>
                    obtain ⟨rfl, nq, rfl⟩ := hcut
                    cases hR2 : relB x2 y2 z with
                    | false =>
                      have hE2 : D2 = D1 := HNo2.out hR2
                      have hB2n : Blk 2 (W1.drewN nq) g (D2.map (Value.int .i64)) := by rw [hE2]; exact hB2
                      have hX2n : Blk 24 (W1.drewN nq) w.heap.size [.int .i64 (N : Int), .slice (some ⟨bl, ol, none⟩) L.length c] := hX2
                      have hXe2n : Blk 46 (W1.drewN nq) eb [.int .i64 (a : Int), .int .i64 (b : Int), .int .i64 (z : Int)] := hXe2
                      have hb2n : Below w.heap.size w (W1.drewN nq) := below_drewN hb2 nq
                      have hlen2n : D2.length = N := by rw [hE2]; exact hlen2
                      have hfew2n : ∀ v, at' D2 v ≤ 1000002147483647 + 2147483647 := fun v => by rw [hE2]; have := hfew2 v; omega
                      clear da2 db2 fb2 ya2 yb2 yz2 hB2 hX2 hXe2 hb2 hlen2 hfew2 hE2 HNo2 HYes2 HX2 HY2 hR2
                      generalize W1.drewN nq = W2 at *
                      go_wp2
                      exact ⟨⟨k + 1, by omega, by go_num, by rw [HNK.out, ← HN1.out, ← HN2.out]; exact hB2n, hX2n, hb2n⟩, by simp [intOf]; omega⟩
                    | true =>
                      have hE2 : D2 = D1.set a (x2 + (z : Int)) := HYes2.out hR2
                      have db2' : (W1.drewN nq).cell? ⟨g, a, none⟩ = some (.int .i64 y2) := db2
                      have da2' : (W1.drewN nq).cell? ⟨g, b, none⟩ = some (.int .i64 x2) := da2
                      have fb2' : (W1.drewN nq).frozen? ⟨g, a, none⟩ = false := fb2
                      have ya2' : (W1.drewN nq).cell? ⟨eb, 1, none⟩ = some (.int .i64 (b : Int)) := ya2
                      have yb2' : (W1.drewN nq).cell? ⟨eb, 0, none⟩ = some (.int .i64 (a : Int)) := yb2
                      have yz2' : (W1.drewN nq).cell? ⟨eb, 2, none⟩ = some (.int .i64 (z : Int)) := yz2
                      have hB2n : Blk 2 ((((W1.drewN nq).setCell ⟨g, a, none⟩ (.int .i64 (x2 + (z : Int)))).drewN 1)) g (D2.map (Value.int .i64)) := by
                        rw [hE2, List.map_set]; exact Blk.set (W := W1.drewN nq) hB2 a _
                      have hX2n : Blk 24 ((((W1.drewN nq).setCell ⟨g, a, none⟩ (.int .i64 (x2 + (z : Int)))).drewN 1)) w.heap.size [.int .i64 (N : Int), .slice (some ⟨bl, ol, none⟩) L.length c] := Blk.other (W := W1.drewN nq) hX2 (p := ⟨g, a, none⟩) (by show w.heap.size ≠ g; omega) _
                      have hXe2n : Blk 46 ((((W1.drewN nq).setCell ⟨g, a, none⟩ (.int .i64 (x2 + (z : Int)))).drewN 1)) eb [.int .i64 (a : Int), .int .i64 (b : Int), .int .i64 (z : Int)] := Blk.other (W := W1.drewN nq) hXe2 (p := ⟨g, a, none⟩) (by show eb ≠ g; omega) _
                      have hb2n : Below w.heap.size w ((((W1.drewN nq).setCell ⟨g, a, none⟩ (.int .i64 (x2 + (z : Int)))).drewN 1)) := below_drewN ((below_drewN hb2 nq).setCell (p := ⟨g, a, none⟩) (by show w.heap.size ≤ g; omega) _) 1
                      have hlen2n : D2.length = N := by rw [hE2, List.length_set]; exact hlen2
                      have hfew2n : ∀ v, at' D2 v ≤ 1000002147483647 + 2147483647 := fun v => by rw [hE2, at_set _ (by rw [hlen2]; exact haN)]; have := hfew2 v; split <;> omega
                      have hdd : ((((W1.drewN nq).setCell ⟨g, a, none⟩ (.int .i64 (x2 + (z : Int)))).drewN 1)) = (((W1.drewN nq).setCell ⟨g, a, none⟩ (.int .i64 (x2 + (z : Int)))).drew) := rfl
                      rw [hdd] at hB2n hX2n hXe2n hb2n
                      have hx02 := relB_ge hR2
                      clear da2 db2 fb2 ya2 yb2 yz2 hB2 hX2 hXe2 hb2 hlen2 hfew2 hE2 HNo2 HYes2 HX2 HY2 hdd hR2
                      generalize W1.drewN nq = Wq at *
                      go_wp2
                      go_big_region_o
                      clear da2' db2' fb2' ya2' yb2' yz2'
                      go_wp2
                      generalize (Wq.setCell ⟨g, a, none⟩ (.int .i64 (x2 + (z : Int)))).drew = W2 at *
                      exact ⟨⟨k + 1, by omega, by go_num, by rw [HNK.out, ← HN1.out, ← HN2.out]; exact hB2n, hX2n, hb2n⟩, by simp [intOf]; omega⟩
                | true =>
                  have hE1 : D1 = D.set b (x1 + (z : Int)) := HYes1.out hR1
                  have db1' : (W0.drewN nq).cell? ⟨g, b, none⟩ = some (.int .i64 y1) := db1
                  have da1' : (W0.drewN nq).cell? ⟨g, a, none⟩ = some (.int .i64 x1) := da1
                  have fb1' : (W0.drewN nq).frozen? ⟨g, b, none⟩ = false := fb1
                  have ya1' : (W0.drewN nq).cell? ⟨eb, 0, none⟩ = some (.int .i64 (a : Int)) := ya1
                  have yb1' : (W0.drewN nq).cell? ⟨eb, 1, none⟩ = some (.int .i64 (b : Int)) := yb1
                  have yz1' : (W0.drewN nq).cell? ⟨eb, 2, none⟩ = some (.int .i64 (z : Int)) := yz1
                  have hB1n : Blk 2 ((((W0.drewN nq).setCell ⟨g, b, none⟩ (.int .i64 (x1 + (z : Int)))).drewN 1)) g (D1.map (Value.int .i64)) := by
                    rw [hE1, List.map_set]; exact Blk.set (W := W0.drewN nq) hB1 b _
                  have hX1n : Blk 24 ((((W0.drewN nq).setCell ⟨g, b, none⟩ (.int .i64 (x1 + (z : Int)))).drewN 1)) w.heap.size [.int .i64 (N : Int), .slice (some ⟨bl, ol, none⟩) L.length c] := Blk.other (W := W0.drewN nq) hX1 (p := ⟨g, b, none⟩) (by show w.heap.size ≠ g; omega) _
                  have hXe1n : Blk 46 ((((W0.drewN nq).setCell ⟨g, b, none⟩ (.int .i64 (x1 + (z : Int)))).drewN 1)) eb [.int .i64 (a : Int), .int .i64 (b : Int), .int .i64 (z : Int)] := Blk.other (W := W0.drewN nq) hXe1 (p := ⟨g, b, none⟩) (by show eb ≠ g; omega) _
                  have hb1n : Below w.heap.size w ((((W0.drewN nq).setCell ⟨g, b, none⟩ (.int .i64 (x1 + (z : Int)))).drewN 1)) := below_drewN ((below_drewN hb1 nq).setCell (p := ⟨g, b, none⟩) (by show w.heap.size ≤ g; omega) _) 1
                  have hlen1n : D1.length = N := by rw [hE1, List.length_set]; exact hlen1
                  have hfew1n : ∀ v, at' D1 v ≤ 1000000000000000 + 2147483647 := fun v => by rw [hE1, at_set _ (by rw [hlen1]; exact hbN)]; have := hfew1 v; split <;> omega
                  have hdd : ((((W0.drewN nq).setCell ⟨g, b, none⟩ (.int .i64 (x1 + (z : Int)))).drewN 1)) = (((W0.drewN nq).setCell ⟨g, b, none⟩ (.int .i64 (x1 + (z : Int)))).drew) := rfl
                  rw [hdd] at hB1n hX1n hXe1n hb1n
                  have hx01 := relB_ge hR1
                  clear da1 db1 fb1 ya1 yb1 yz1 hB1 hX1 hXe1 hb1 hlen1 hfew1 hE1 HNo1 HYes1 HX1 HY1 hdd hR1
                  generalize W0.drewN nq = Wq at *
                  go_wp2
                  go_big_region_o
                  clear da1' db1' fb1' ya1' yb1' yz1'
                  go_wp2
                  generalize (Wq.setCell ⟨g, b, none⟩ (.int .i64 (x1 + (z : Int)))).drew = W1 at *
                  have hB2 := hB1n
                  have hX2 := hX1n
                  have hXe2 := hXe1n
                  have hb2 := hb1n
                  have hlen2 := hlen1n
                  have hfew2 := hfew1n
                  clear hB1n hX1n hXe1n hb1n hlen1n hfew1n
                  have da2 : W1.cell? ⟨g, b, none⟩ = some (.int .i64 (at' D1 b)) := hB2.cell (by rw [List.getElem?_map, at_get? (by rw [hlen2]; exact hbN)]; rfl)
                  have db2 : W1.cell? ⟨g, a, none⟩ = some (.int .i64 (at' D1 a)) := hB2.cell (by rw [List.getElem?_map, at_get? (by rw [hlen2]; exact haN)]; rfl)
                  have fb2 := hB2.frozen a
                  have ya2 := hXe2.cell (j := 1) rfl
                  have yb2 := hXe2.cell (j := 0) rfl
                  have yz2 := hXe2.cell (j := 2) rfl
                  have kx2 := hfew2 b
                  have ky2 := hfew2 a
                  obtain ⟨D2, HN2⟩ : ∃ D', Hid (D' = rel1 D1 b a z) := ⟨_, show Hid _ from rfl⟩
                  have HNo2 : Hid (relB (at' D1 b) (at' D1 a) z = false → D2 = D1) := fun h => HN2.out.trans (rel1_noB h)
                  have HYes2 : Hid (relB (at' D1 b) (at' D1 a) z = true → D2 = D1.set a (at' D1 b + z)) := fun h => HN2.out.trans (rel1_yesB h)
                  obtain ⟨x2, HX2⟩ : ∃ x, Hid (at' D1 b = x) := ⟨_, show Hid _ from rfl⟩
                  obtain ⟨y2, HY2⟩ : ∃ y, Hid (at' D1 a = y) := ⟨_, show Hid _ from rfl⟩
                  rw [HX2.out] at da2 kx2 HNo2 HYes2
                  rw [HY2.out] at db2 ky2 HNo2 HYes2
                  go_cut [114] (fun t wx => t = .bool (relB x2 y2 z) ∧ ∃ q, wx = W1.drewN q)
                  case first =>
                    by_cases hx2 : x2 < 0
                    · have hxd2 : decide (0 ≤ x2) = false := by simp; omega
                      go_quiet (fail)
                      go_wp2
                      go_meet
                      exact ⟨congrArg Value.bool (relB_false (.inl hx2)).symm, _, rfl⟩
                    · have hxd2 : decide (0 ≤ x2) = true := by simp; omega
                      by_cases hy2 : y2 < 0
                      · have hyd2 : decide (y2 < 0) = true := by simp; omega
                        go_quiet (fail)
                        go_wp2
                        go_meet
                        exact ⟨congrArg Value.bool (relB_true (by omega) (.inl hy2)).symm, _, rfl⟩
                      · have hyd2 : decide (y2 < 0) = false := by simp; omega
                        have hwr2 := wrap_i (x2 + (z : Int)) (by omega) (by omega)
                        by_cases hz2 : x2 + (z : Int) < y2
                        · have hzd2 : decide (x2 + (z : Int) < y2) = true := by simp; omega
                          go_quiet (fail)
                          go_wp2
                          go_meet
                          exact ⟨congrArg Value.bool (relB_true (by omega) (.inr hz2)).symm, _, rfl⟩
                        · have hzd2 : decide (x2 + (z : Int) < y2) = false := by simp; omega
                          go_quiet (fail)
                          go_wp2
                          go_meet
                          exact ⟨congrArg Value.bool (relB_false (.inr ⟨by omega, by omega⟩)).symm, _, rfl⟩
                  case rest =>
                    obtain ⟨rfl, nq, rfl⟩ := hcut
                    cases hR2 : relB x2 y2 z with
                    | false =>
                      have hE2 : D2 = D1 := HNo2.out hR2
                      have hB2n : Blk 2 (W1.drewN nq) g (D2.map (Value.int .i64)) := by rw [hE2]; exact hB2
                      have hX2n : Blk 24 (W1.drewN nq) w.heap.size [.int .i64 (N : Int), .slice (some ⟨bl, ol, none⟩) L.length c] := hX2
                      have hXe2n : Blk 46 (W1.drewN nq) eb [.int .i64 (a : Int), .int .i64 (b : Int), .int .i64 (z : Int)] := hXe2
                      have hb2n : Below w.heap.size w (W1.drewN nq) := below_drewN hb2 nq
                      have hlen2n : D2.length = N := by rw [hE2]; exact hlen2
                      have hfew2n : ∀ v, at' D2 v ≤ 1000002147483647 + 2147483647 := fun v => by rw [hE2]; have := hfew2 v; omega
                      clear da2 db2 fb2 ya2 yb2 yz2 hB2 hX2 hXe2 hb2 hlen2 hfew2 hE2 HNo2 HYes2 HX2 HY2 hR2
                      generalize W1.drewN nq = W2 at *
                      go_wp2
                      exact ⟨⟨k + 1, by omega, by go_num, by rw [HNK.out, ← HN1.out, ← HN2.out]; exact hB2n, hX2n, hb2n⟩, by simp [intOf]; omega⟩
                    | true =>
                      have hE2 : D2 = D1.set a (x2 + (z : Int)) := HYes2.out hR2
                      have db2' : (W1.drewN nq).cell? ⟨g, a, none⟩ = some (.int .i64 y2) := db2
                      have da2' : (W1.drewN nq).cell? ⟨g, b, none⟩ = some (.int .i64 x2) := da2
                      have fb2' : (W1.drewN nq).frozen? ⟨g, a, none⟩ = false := fb2
                      have ya2' : (W1.drewN nq).cell? ⟨eb, 1, none⟩ = some (.int .i64 (b : Int)) := ya2
                      have yb2' : (W1.drewN nq).cell? ⟨eb, 0, none⟩ = some (.int .i64 (a : Int)) := yb2
                      have yz2' : (W1.drewN nq).cell? ⟨eb, 2, none⟩ = some (.int .i64 (z : Int)) := yz2
                      have hB2n : Blk 2 ((((W1.drewN nq).setCell ⟨g, a, none⟩ (.int .i64 (x2 + (z : Int)))).drewN 1)) g (D2.map (Value.int .i64)) := by
                        rw [hE2, List.map_set]; exact Blk.set (W := W1.drewN nq) hB2 a _
                      have hX2n : Blk 24 ((((W1.drewN nq).setCell ⟨g, a, none⟩ (.int .i64 (x2 + (z : Int)))).drewN 1)) w.heap.size [.int .i64 (N : Int), .slice (some ⟨bl, ol, none⟩) L.length c] := Blk.other (W := W1.drewN nq) hX2 (p := ⟨g, a, none⟩) (by show w.heap.size ≠ g; omega) _
                      have hXe2n : Blk 46 ((((W1.drewN nq).setCell ⟨g, a, none⟩ (.int .i64 (x2 + (z : Int)))).drewN 1)) eb [.int .i64 (a : Int), .int .i64 (b : Int), .int .i64 (z : Int)] := Blk.other (W := W1.drewN nq) hXe2 (p := ⟨g, a, none⟩) (by show eb ≠ g; omega) _
                      have hb2n : Below w.heap.size w ((((W1.drewN nq).setCell ⟨g, a, none⟩ (.int .i64 (x2 + (z : Int)))).drewN 1)) := below_drewN ((below_drewN hb2 nq).setCell (p := ⟨g, a, none⟩) (by show w.heap.size ≤ g; omega) _) 1
                      have hlen2n : D2.length = N := by rw [hE2, List.length_set]; exact hlen2
                      have hfew2n : ∀ v, at' D2 v ≤ 1000002147483647 + 2147483647 := fun v => by rw [hE2, at_set _ (by rw [hlen2]; exact haN)]; have := hfew2 v; split <;> omega
                      have hdd : ((((W1.drewN nq).setCell ⟨g, a, none⟩ (.int .i64 (x2 + (z : Int)))).drewN 1)) = (((W1.drewN nq).setCell ⟨g, a, none⟩ (.int .i64 (x2 + (z : Int)))).drew) := rfl
                      rw [hdd] at hB2n hX2n hXe2n hb2n
                      have hx02 := relB_ge hR2
                      clear da2 db2 fb2 ya2 yb2 yz2 hB2 hX2 hXe2 hb2 hlen2 hfew2 hE2 HNo2 HYes2 HX2 HY2 hdd hR2
                      generalize W1.drewN nq = Wq at *
                      go_wp2
                      go_big_region_o
                      clear da2' db2' fb2' ya2' yb2' yz2'
                      go_wp2
                      generalize (Wq.setCell ⟨g, a, none⟩ (.int .i64 (x2 + (z : Int)))).drew = W2 at *
                      exact ⟨⟨k + 1, by omega, by go_num, by rw [HNK.out, ← HN1.out, ← HN2.out]; exact hB2n, hX2n, hb2n⟩, by simp [intOf]; omega⟩
            · obtain rfl : k = L.length := by omega
              rw [← HNX.out] at hB
              go_wp2
              exact ⟨⟨j + 1, by omega, by go_num, hB, hX, hb⟩, by simp [intOf]; omega⟩
        · obtain rfl : N = j := by omega
          go_wp2
          go_ret
          exact ⟨g, rfl, by omega, hB, hb⟩
end Go.Proofs.YthdhimcaojfcnaaGreat
