/-
  The contract of the reference's Dual.
-/
import Derived.Test.YtonfhkdciaiilaaXFcAt
import Derived.Test.YtonfhkdciaiilaaXFcDual
import Derived.Test.YtonfhkdciaiilaaXRRefF2
import Derived.Test.YtonfhkdciaiilaaXFcBriM
import Derived.Test.YtonfhkdciaiilaaQF
import Derived.Test.YtonfhkdciaiilaaXRNumAt
import Derived.Test.YtonfhkdciaiilaaQH
import Derived.Test.YtonfhkdciaiilaaQD
namespace Go.Proofs.Ytonfhkdciaiilaa
open Go Go.Proofs Go.RowKit

theorem dualL_snoc {F : List (List Dt)} {l : List Ed} {j : Nat} (h : j < l.length) : dualL F (l.take (j + 1)) = dualL F (l.take j) ++ [(faceOf F (l[j].1, l[j].2.1), faceOf F (l[j].2.1, l[j].1), l[j].2.2)] := by
  unfold dualL
  rw [List.take_add_one, List.getElem?_eq_getElem h, List.map_append]
  rfl
set_option maxRecDepth 100000 in
set_option maxHeartbeats 8000000 in
theorem refDual_any (N : Nat) (l : List Ed) (hR : RightG (N : Int) l) (r : List (List Int)) (hS : SysR N l r) (hm : l.length ≤ 4000) (F : List (List Dt)) (hFE : facesL N l r = F) (hf : F.length ≤ 16777216) (hin : ∀ x ∈ F, x.length ≤ 16777216) (sv rv : Value) (w : World) (hl : Edges w.heap.size w sv l) (hr : Lsts w.heap.size w rv r) :
    Calls Try.prog 14 #[.agg #[.int .i64 (N : Int), sv], rv] w fun e w' => ∃ gv, e = .returned (.agg #[.int .i64 (F.length : Int), gv]) ∧ Edges w'.heap.size w' gv (dualL F l) ∧ Below w.heap.size w w' := by
  obtain ⟨p, c, rfl⟩ := hl.len
  obtain ⟨i0, hi, hz0, hz1, hz2⟩ := info_parts infoE
  have hbA : Below w.heap.size w (w.alloc (.cells #[.int .i64 (N : Int), .slice p l.length c] 24)) := (Below.refl _ _).alloc (Nat.le_refl _) _
  have hX : Blk 24 (w.alloc (.cells #[.int .i64 (N : Int), .slice p l.length c] 24)) w.heap.size [.int .i64 (N : Int), .slice p l.length c] := heap_alloc_new w _
  have hs1 : (w.alloc (.cells #[.int .i64 (N : Int), .slice p l.length c] 24)).heap.size = w.heap.size + 1 := by simp
  generalize hw1 : w.alloc (.cells #[.int .i64 (N : Int), .slice p l.length c] 24) = w1 at *
  have hbB : Below w1.heap.size w1 (w1.alloc (.cells #[.int .i64 0, .slice none 0 0] 24)) := (Below.refl _ _).alloc (Nat.le_refl _) _
  have hY : Blk 24 (w1.alloc (.cells #[.int .i64 0, .slice none 0 0] 24)) w1.heap.size [.int .i64 0, .slice none 0 0] := heap_alloc_new w1 _
  have hX1 := hX.go hbB
  rw [hs1] at hY
  have q0 := hX1.cell (j := 0) rfl
  have q1 := hX1.cell (j := 1) rfl
  have hbw2 : Below w.heap.size w (w1.alloc (.cells #[.int .i64 0, .slice none 0 0] 24)) := hbA.trans (hbB.mono hbA.size)
  have hrf := refFaces_any N l hR r hS hm (.slice p l.length c) rv _ (hl.go hbw2) (hr.go hbw2)
  rw [hFE] at hrf
  have HAT : Hid (∀ (j : Nat) (hj : j < l.length) (W : World) (lv : Value), LDr W.heap.size W lv F → (Calls Try.prog 28 #[lv, .agg #[.int .i64 l[j].1, .int .i64 l[j].2.1]] W fun e w' => e = .returned (.int .i64 (faceOf F (l[j].1, l[j].2.1))) ∧ Below W.heap.size W w') ∧ (Calls Try.prog 28 #[lv, .agg #[.int .i64 l[j].2.1, .int .i64 l[j].1]] W fun e w' => e = .returned (.int .i64 (faceOf F (l[j].2.1, l[j].1))) ∧ Below W.heap.size W w')) := by
    intro j hj W lv hW
    have hD := faces_dec hR hS
    rw [hFE] at hD
    have key : ∀ d : Dt, d ∈ dartsL N l → Calls Try.prog 28 #[lv, .agg #[.int .i64 d.1, .int .i64 d.2]] W fun e w' => e = .returned (.int .i64 (faceOf F d)) ∧ Below W.heap.size W w' := by
      intro d hd
      obtain ⟨x, hx, hdx⟩ := List.mem_flatten.1 ((hD.mem d).2 hd)
      obtain ⟨i, hi, rfl⟩ := List.getElem_of_mem hx
      rw [faceOf_at hD.nodup hi hdx]
      refine refAt_any F hf hin d i hi hdx (fun k hk hki hmem => ?_) lv W hW
      have h1 := faceOf_at hD.nodup hk hmem
      have h2 := faceOf_at hD.nodup hi hdx
      omega
    obtain ⟨m1, m2⟩ := edge_darts hR (List.getElem_mem hj)
    exact ⟨key _ m1, key _ m2⟩
  have HL : Hid (Edges w.heap.size w (.slice p l.length c) l) := hl
  have HX : Hid (Blk 24 (w1.alloc (.cells #[.int .i64 0, .slice none 0 0] 24)) w.heap.size [.int .i64 (N : Int), .slice p l.length c]) := hX1
  have HY : Hid (Blk 24 (w1.alloc (.cells #[.int .i64 0, .slice none 0 0] 24)) (w.heap.size + 1) [.int .i64 0, .slice none 0 0]) := hY
  have HB2 : Hid (Below w.heap.size w (w1.alloc (.cells #[.int .i64 0, .slice none 0 0] 24))) := hbw2
  clear hl hr hX hX1 hY hbA hbB hbw2 hin hFE hR hS
  go_enter Try.func14, Try.ntmps14
  go_wp2_with fail
  generalize w1.alloc (.cells #[.int .i64 0, .slice none 0 0] 24) = w2 at *
  refine hrf.mono ?_
  clear hrf
  rintro e w3 ⟨lv, svs, rfl, hG, hb3⟩
  have hG' := hG.ldr
  obtain ⟨pl, cl, rfl⟩ := hG'.len
  have HG : Hid (LDr w3.heap.size w3 (.slice pl F.length cl) F) := hG'
  have HX3 : Hid (Blk 24 w3 w.heap.size [.int .i64 (N : Int), .slice p l.length c]) := HX.out.go hb3
  have HY3 : Hid (Blk 24 w3 (w.heap.size + 1) [.int .i64 0, .slice none 0 0]) := HY.out.go hb3
  have HB3 : Hid (Below w.heap.size w w3) := HB2.out.trans (hb3.mono HB2.out.size)
  clear hG hG' hb3 HX HY HB2 q0 q1 svs
  have hbO : Below w3.heap.size w3 (w3.alloc (.cells #[.int .i64 (F.length : Int), .slice none 0 0] 24)) := (Below.refl _ _).alloc (Nat.le_refl _) _
  have hO : Blk 24 (w3.alloc (.cells #[.int .i64 (F.length : Int), .slice none 0 0] 24)) w3.heap.size [.int .i64 (F.length : Int), .slice none 0 0] := heap_alloc_new w3 _
  have HX4 : Hid (Blk 24 (w3.alloc (.cells #[.int .i64 (F.length : Int), .slice none 0 0] 24)) w.heap.size [.int .i64 (N : Int), .slice p l.length c]) := HX3.out.go hbO
  have HY4 : Hid (Blk 24 (w3.alloc (.cells #[.int .i64 (F.length : Int), .slice none 0 0] 24)) (w.heap.size + 1) [.int .i64 0, .slice none 0 0]) := HY3.out.go hbO
  have HB4 : Hid (Below w.heap.size w (w3.alloc (.cells #[.int .i64 (F.length : Int), .slice none 0 0] 24))) := HB3.out.trans (hbO.mono HB3.out.size)
  have HG4 : Hid (LDr w3.heap.size (w3.alloc (.cells #[.int .i64 (F.length : Int), .slice none 0 0] 24)) (.slice pl F.length cl) F) := HG.out.below hbO
  have hgy := HY3.out.lt
  have hgs : w.heap.size ≤ w3.heap.size := HB3.out.size
  have hgO := hO.lt
  clear hbO HX3 HY3 HB3 HG
  go_wp2
  generalize w3.alloc (.cells #[.int .i64 (F.length : Int), .slice none 0 0] 24) = w4 at *
  generalize w3.heap.size = gO at *
  go_loopw [7] (fun i wr => ∃ (j : Nat) (s : Value), j ≤ l.length ∧ i = .int .i64 j ∧ Blk 24 wr gO [.int .i64 (F.length : Int), s] ∧ wr.ownsRow (gO + 1) 44 3 s (dualL F (l.take j)).length (flat (dualL F (l.take j))) ∧ Below gO w4 wr) (fun i _ => l.length - (intOf i).toNat)
  case atStart => exact ⟨0, _, Nat.zero_le _, rfl, hO, owns_none _ _ _, Below.refl _ _⟩
  case round =>
    clear hO
    obtain ⟨j, s, hj, rfl, hO, hown, hb⟩ := hrel
    have hbwr : Below w.heap.size w wr := HB4.out.trans (hb.mono (by omega))
    have d1 := (hb.cell (p := ⟨w.heap.size, 1, none⟩) (by simp only; omega)).trans (HX4.out.cell (j := 1) rfl)
    have hOl := hO.lt
    by_cases hlt : j < l.length
    · obtain ⟨b, off, rfl, hbb, hcap, hc, -⟩ := HL.out.open hlt
      obtain ⟨c0, c1, c2⟩ := hc wr hbwr j hlt
      have hjl : (j : Int) < (l.length : Int) := by omega
      obtain ⟨pp, cc, rfl⟩ := owns_form hown
      have HA := HAT.out j hlt
      have HSN : Hid _ := dualL_snoc (F := F) hlt
      have hDl : (dualL F (l.take j)).length ≤ 4000 := by rw [dualL_len, List.length_take]; omega
      have hbE : Below wr.heap.size wr (wr.alloc (.cells #[.int .i64 l[j].1, .int .i64 l[j].2.1, .int .i64 l[j].2.2] 44)) := (Below.refl _ _).alloc (Nat.le_refl _) _
      have hE : Blk 44 (wr.alloc (.cells #[.int .i64 l[j].1, .int .i64 l[j].2.1, .int .i64 l[j].2.2] 44)) wr.heap.size [.int .i64 l[j].1, .int .i64 l[j].2.1, .int .i64 l[j].2.2] := heap_alloc_new wr _
      have e0 := hE.cell (j := 0) rfl
      have e1 := hE.cell (j := 1) rfl
      have e2 := hE.cell (j := 2) rfl
      have hOE := hO.go hbE
      have o1 := hOE.cell (j := 1) rfl
      have hownE := owns_below hown hbE
      have hgbE : Below gO w4 (wr.alloc (.cells #[.int .i64 l[j].1, .int .i64 l[j].2.1, .int .i64 l[j].2.2] 44)) := hb.alloc (by omega) _
      have HA' : Hid _ := HA
      have HOE : Hid (Blk 24 (wr.alloc (.cells #[.int .i64 l[j].1, .int .i64 l[j].2.1, .int .i64 l[j].2.2] 44)) gO [.int .i64 (F.length : Int), .slice pp (dualL F (l.take j)).length cc]) := hOE
      have HOW : Hid ((wr.alloc (.cells #[.int .i64 l[j].1, .int .i64 l[j].2.1, .int .i64 l[j].2.2] 44)).ownsRow (gO + 1) 44 3 (.slice pp (dualL F (l.take j)).length cc) (dualL F (l.take j)).length (flat (dualL F (l.take j)))) := hownE
      have HGE : Hid _ := hgbE
      have HOWO : Hid (wr.ownsRow (gO + 1) 44 3 (.slice pp (dualL F (l.take j)).length cc) (dualL F (l.take j)).length (flat (dualL F (l.take j)))) := hown
      clear hc HA hE hbE hOE hownE hgbE hO hown
      generalize dualL F (l.take j) = D at *
      generalize faceOf F (l[j].1, l[j].2.1) = fa at *
      generalize faceOf F (l[j].2.1, l[j].1) = fb at *
      generalize l[j].1 = ea at *
      generalize l[j].2.1 = eb at *
      generalize l[j].2.2 = ec at *
      go_wp2_with fail
      generalize hge : wr.heap.size = ge at *
      generalize wr.alloc (.cells #[.int .i64 ea, .int .i64 eb, .int .i64 ec] 44) = w5 at *
      refine wp_region_last (S := (fun w' : World => w'.cell? ⟨gO, 1, none⟩ = some (.slice pp D.length cc) ∧ w'.cell? ⟨ge, 0, none⟩ = some (.int .i64 ea) ∧ w'.cell? ⟨ge, 1, none⟩ = some (.int .i64 eb) ∧ w'.cell? ⟨ge, 2, none⟩ = some (.int .i64 ec))) (by kernel_rfl) ⟨o1, e0, e1, e2⟩ (fun hHeld => ?_)
      refine wpAnyL_take (i := 0) (v := ?_) rfl (by kernel_rfl) (by kernel_rfl) (by kernel_rfl) (by kernel_rfl) (fun _ _ _ h => h) (Or.inl ⟨by rfl, ?_⟩) (by assumption) ?_
      rotate_left
      · intro w hSw; (try dsimp only at hSw); go_simp; (try with_reducible rfl)
      try simp only [Act.put, List.setIfInBounds_toArray]
      refine wpAnyL_take (i := 1) (v := ?_) rfl (by kernel_rfl) (by kernel_rfl) (by kernel_rfl) (by kernel_rfl) (fun _ _ _ h => h) (Or.inl ⟨by rfl, ?_⟩) (by assumption) ?_
      rotate_left
      · intro w hSw; (try dsimp only at hSw); go_simp; (try with_reducible rfl)
      try simp only [Act.put]
      refine wpAnyL_take (i := 2) (v := ?_) rfl (by kernel_rfl) (by kernel_rfl) (by kernel_rfl) (by kernel_rfl) (fun _ _ _ h => h) (Or.inl ⟨by rfl, ?_⟩) (by assumption) ?_
      rotate_left
      · intro w hSw; (try dsimp only at hSw); go_simp; (try with_reducible rfl)
      try simp only [Act.put]
      refine wpAnyL_take (i := 3) (v := ?_) rfl (by kernel_rfl) (by kernel_rfl) (by kernel_rfl) (by kernel_rfl) (fun _ _ _ h => h) (Or.inl ⟨by rfl, ?_⟩) (by assumption) ?_
      rotate_left
      · intro w hSw; (try dsimp only at hSw); go_simp; (try with_reducible rfl)
      try simp only [Act.put]
      refine wpAnyL_take (i := 4) (v := ?_) rfl (by kernel_rfl) (by kernel_rfl) (by kernel_rfl) (by kernel_rfl) (fun _ _ _ h => h) (Or.inl ⟨by rfl, ?_⟩) (by assumption) ?_
      rotate_left
      · intro w hSw; (try dsimp only at hSw); go_simp; (try with_reducible rfl)
      try simp only [Act.put]
      try simp only [List.getElem_toArray, List.getElem_cons_zero, List.getElem_cons_succ, List.setIfInBounds_toArray, List.set_cons_zero, List.set_cons_succ]
      refine wpAnyL_take (i := 5) (v := ?_) rfl (by kernel_rfl) (by kernel_rfl) (by kernel_rfl) (by kernel_rfl) (fun _ _ _ h => h) (Or.inl ⟨by rfl, ?_⟩) (by assumption) ?_
      rotate_left
      · intro w hSw; (try dsimp only at hSw); go_simp; (try with_reducible rfl)
      try simp only [Act.put]
      refine wpAnyL_take (i := 6) (v := ?_) rfl (by kernel_rfl) (by kernel_rfl) (by kernel_rfl) (by kernel_rfl) (fun _ _ _ h => h) (Or.inl ⟨by rfl, ?_⟩) (by assumption) ?_
      rotate_left
      · intro w hSw; (try dsimp only at hSw); go_simp; (try with_reducible rfl)
      try simp only [Act.put]
      refine wpAnyL_take (i := 7) (v := ?_) rfl (by kernel_rfl) (by kernel_rfl) (by kernel_rfl) (by kernel_rfl) (fun _ _ _ h => h) (Or.inl ⟨by rfl, ?_⟩) (by assumption) ?_
      rotate_left
      · intro w hSw; (try dsimp only at hSw); go_simp; (try with_reducible rfl)
      try simp only [Act.put]
      refine wpAnyL_take (i := 9) (v := ?_) rfl (by kernel_rfl) (by kernel_rfl) (by kernel_rfl) (by kernel_rfl) (fun _ _ _ h => h) (Or.inl ⟨by rfl, ?_⟩) (by assumption) ?_
      rotate_left
      · intro w hSw; (try dsimp only at hSw); go_simp; (try with_reducible rfl)
      try simp only [Act.put]
      refine wpAnyL_take (i := 10) (v := ?_) rfl (by kernel_rfl) (by kernel_rfl) (by kernel_rfl) (by kernel_rfl) (fun _ _ _ h => h) (Or.inl ⟨by rfl, ?_⟩) (by assumption) ?_
      rotate_left
      · intro w hSw; (try dsimp only at hSw); go_simp; (try with_reducible rfl)
      try simp only [Act.put]
      try simp only [List.getElem_toArray, List.getElem_cons_zero, List.getElem_cons_succ, List.setIfInBounds_toArray, List.set_cons_zero, List.set_cons_succ]
      refine wpAnyL_take (i := 11) (v := ?_) rfl (by kernel_rfl) (by kernel_rfl) (by kernel_rfl) (by kernel_rfl) (fun _ _ _ h => h) (Or.inl ⟨by rfl, ?_⟩) (by assumption) ?_
      rotate_left
      · intro w hSw; (try dsimp only at hSw); go_simp; (try with_reducible rfl)
      try simp only [Act.put]
      refine wpAnyL_take (i := 12) (v := ?_) rfl (by kernel_rfl) (by kernel_rfl) (by kernel_rfl) (by kernel_rfl) (fun _ _ _ h => h) (Or.inl ⟨by rfl, ?_⟩) (by assumption) ?_
      rotate_left
      · intro w hSw; (try dsimp only at hSw); go_simp; (try with_reducible rfl)
      try simp only [Act.put]
      refine wpAnyL_take (i := 13) (v := ?_) rfl (by kernel_rfl) (by kernel_rfl) (by kernel_rfl) (by kernel_rfl) (fun _ _ _ h => h) (Or.inl ⟨by rfl, ?_⟩) (by assumption) ?_
      rotate_left
      · intro w hSw; (try dsimp only at hSw); go_simp; (try with_reducible rfl)
      try simp only [Act.put]
      refine wpAnyL_take (i := 14) (v := ?_) rfl (by kernel_rfl) (by kernel_rfl) (by kernel_rfl) (by kernel_rfl) (fun _ _ _ h => h) (Or.inl ⟨by rfl, ?_⟩) (by assumption) ?_
      rotate_left
      · intro w hSw; (try dsimp only at hSw); go_simp; (try with_reducible rfl)
      try simp only [Act.put]
      try simp only [List.getElem_toArray, List.getElem_cons_zero, List.getElem_cons_succ, List.setIfInBounds_toArray, List.set_cons_zero, List.set_cons_succ]
      refine wpAnyL_take (i := 16) (v := ?_) rfl (by kernel_rfl) (by kernel_rfl) (by kernel_rfl) (by kernel_rfl) (fun _ _ _ h => h) (Or.inl ⟨by rfl, ?_⟩) (by assumption) ?_
      rotate_left
      · intro w hSw; (try dsimp only at hSw); go_simp; (try with_reducible rfl)
      try simp only [Act.put]
      refine wpAnyL_take (i := 17) (v := ?_) rfl (by kernel_rfl) (by kernel_rfl) (by kernel_rfl) (by kernel_rfl) (fun _ _ _ h => h) (Or.inl ⟨by rfl, ?_⟩) (by assumption) ?_
      rotate_left
      · intro w hSw; (try dsimp only at hSw); go_simp; (try with_reducible rfl)
      try simp only [Act.put]
      try simp only [List.getElem_toArray, List.getElem_cons_zero, List.getElem_cons_succ, List.setIfInBounds_toArray, List.set_cons_zero, List.set_cons_succ]
      refine wpAnyL_ready (rs := [8]) (by kernel_rfl) (by simp) ?_
      refine AllReadyL.cons rfl (fun K hK => ?_) AllReadyL.nil
      go_simp
      have hG5 : LDr w5.drew.heap.size w5.drew (.slice pl F.length cl) F := ((HG4.out.below HGE.out).below (below_drewN (Below.refl _ _) 1)).mono (by have := HGE.out.size; show gO ≤ w5.heap.size; omega)
      refine ((HA'.out w5.drew _ hG5).1).mono ?_
      rintro e w6 ⟨rfl, hb6⟩
      have hH6 : w6.cell? ⟨gO, 1, none⟩ = some (.slice pp D.length cc) ∧ w6.cell? ⟨ge, 0, none⟩ = some (.int .i64 ea) ∧ w6.cell? ⟨ge, 1, none⟩ = some (.int .i64 eb) ∧ w6.cell? ⟨ge, 2, none⟩ = some (.int .i64 ec) := ⟨cell_keepK hb6 hHeld.1, cell_keepK hb6 hHeld.2.1, cell_keepK hb6 hHeld.2.2.1, cell_keepK hb6 hHeld.2.2.2⟩
      refine hK.out _ _ hH6 (fun hHeld6 => ?_)
      clear hK K hH6
      try simp only [Act.put, List.setIfInBounds_toArray, List.set_cons_zero, List.set_cons_succ]
      have hG6 := hG5.go hb6
      refine wpAnyL_ready (rs := [15]) (by kernel_rfl) (by simp) ?_
      refine AllReadyL.cons rfl (fun K hK => ?_) AllReadyL.nil
      go_simp
      refine ((HA'.out w6 _ hG6).2).mono ?_
      rintro e w7 ⟨rfl, hb7⟩
      have hH7 : w7.cell? ⟨gO, 1, none⟩ = some (.slice pp D.length cc) ∧ w7.cell? ⟨ge, 0, none⟩ = some (.int .i64 ea) ∧ w7.cell? ⟨ge, 1, none⟩ = some (.int .i64 eb) ∧ w7.cell? ⟨ge, 2, none⟩ = some (.int .i64 ec) := ⟨cell_keepK hb7 hHeld6.1, cell_keepK hb7 hHeld6.2.1, cell_keepK hb7 hHeld6.2.2.1, cell_keepK hb7 hHeld6.2.2.2⟩
      refine hK.out _ _ hH7 (fun hHeld7 => ?_)
      clear hK K hH7
      try simp only [Act.put, List.setIfInBounds_toArray, List.set_cons_zero, List.set_cons_succ]
      have hb57 : Below w5.heap.size w5 w7 := (below_drewN (Below.refl _ _) 1).trans (hb6.trans (hb7.mono hb6.size))
      have hO7 := HOE.out.go hb57
      have hown7 := owns_below HOW.out hb57
      have hgb7 : Below gO w4 w7 := HGE.out.trans (hb57.mono (Nat.le_trans (by omega) HGE.out.size))
      clear hG5 hG6 hb6 hb7 HA' HOE HOW hHeld hHeld6
      refine wpAnyL_take (i := 18) (v := ?_) rfl (by kernel_rfl) (by kernel_rfl) (by kernel_rfl) (by kernel_rfl) (fun _ _ _ h => h) (Or.inl ⟨by rfl, ?_⟩) (by assumption) ?_
      rotate_left
      · intro w hSw; (try dsimp only at hSw); go_simp; (try with_reducible rfl)
      try simp only [Act.put]
      have hbA : Below w7.heap.size w7 (w7.alloc (.cells #[.int .i64 fa, .int .i64 fb, .int .i64 ec] 44)) := (Below.refl _ _).alloc (Nat.le_refl _) _
      have hOA := hO7.go hbA
      have hownA := owns_below hown7 hbA
      have hgbA : Below gO w4 (w7.alloc (.cells #[.int .i64 fa, .int .i64 fb, .int .i64 ec] 44)) := hgb7.alloc (by have := hgb7.size; omega) _
      have hnw : Src (w7.alloc (.cells #[.int .i64 fa, .int .i64 fb, .int .i64 ec] 44)) (.slice (some ⟨w7.heap.size, 0, none⟩) 1 1) 1 3 (encE (fa, fb, ec)) := .inr ⟨⟨w7.heap.size, 0, none⟩, 1, rfl, rfl, news3 (w := w7) (fa, fb, ec), one3 _⟩
      have hmx : D.length + 1 ≤ maxLen := by unfold maxLen; omega
      have hby : (D.length + 1) * 24 ≤ 140737488355328 := by omega
      have hsA : gO + 1 ≤ (w7.alloc (.cells #[.int .i64 fa, .int .i64 fb, .int .i64 ec] 44)).heap.size := by have := hOA.lt; omega
      refine wpAnyL_ready (rs := [19]) (by kernel_rfl) (by simp) ?_
      refine AllReadyL.cons rfl (fun K hK => ?_) AllReadyL.nil
      go_simp
      refine hK.out _ _ ⟨cell_keepK hbA hHeld7.1, cell_keepK hbA hHeld7.2.1, cell_keepK hbA hHeld7.2.2.1, cell_keepK hbA hHeld7.2.2.2⟩ (fun hHeld8 => ?_)
      clear hK K
      try simp only [Act.put, List.setIfInBounds_toArray, List.set_cons_zero, List.set_cons_succ]
      refine wpAnyL_ready (rs := [20]) (by kernel_rfl) (by simp) ?_
      refine AllReadyL.cons rfl (fun K hK => ?_) AllReadyL.nil
      refine step_append_src rfl _ _ 22 rfl (gO + 1) 44 i0 (.agg #[.int .i64 0, .int .i64 0, .int .i64 0]) 3 24 Try.underlying22 hi hz0 hz1 hz2 (by simp [Value.cells]) (by decide) (.slice pp D.length cc) D.length (flat D) rfl hownA (.slice (some ⟨w7.heap.size, 0, none⟩) 1 1) 1 (encE (fa, fb, ec)) rfl hnw hmx hby hsA ?_
      intro v9 w9 ho9 hg9 hat9
      obtain ⟨a9, m9, k9, rfl⟩ := owns_slice ho9
      have hlow : ∀ q, (Value.slice pp D.length cc).ownBlock = some q → gO + 1 ≤ q := fun q hq => (hownA.lt q hq).1
      have hA9 : Below (gO + 1) (w7.alloc (.cells #[.int .i64 fa, .int .i64 fb, .int .i64 ec] 44)) w9 := (Below.refl _ _).grown hg9 hsA hlow
      have hO9 : Blk 24 w9 gO [.int .i64 (F.length : Int), .slice pp D.length cc] := hOA.grown hg9 (fun e => by have := hlow _ e.symm; omega)
      have c9 := hO9.cell (j := 1) rfl
      have f9 := hO9.frozen 1
      have hbn : Below gO w4 (w9.setCell ⟨gO, 1, none⟩ (.slice a9 m9 k9)) := (hgbA.trans (hA9.mono (by omega))).setCell (p := ⟨gO, 1, none⟩) (Nat.le_refl _) _
      have hOn := hO9.set 1 (.slice a9 m9 k9)
      have hown := owns_set ho9 (p := ⟨gO, 1, none⟩) (by simp) (.slice a9 m9 k9)
      have hew : ge < w7.heap.size := World.block_lt_of_cell? w7 _ hHeld7.2.1
      have hgw : some ge ≠ (Value.slice pp D.length cc).ownBlock := fun e => by
        have h1 := (HOWO.out.lt ge e.symm).2
        omega
      have hk9 : ∀ i v, (w7.alloc (.cells #[.int .i64 fa, .int .i64 fb, .int .i64 ec] 44)).cell? ⟨ge, i, none⟩ = some v → w9.cell? ⟨ge, i, none⟩ = some v := fun i v h => by
        have h1 := hg9.block ge (by simp; omega) hgw
        unfold World.cell? at h ⊢
        simp only [h1]
        exact h
      refine hK.out _ _ ⟨c9, hk9 _ _ hHeld8.2.1, hk9 _ _ hHeld8.2.2.1, hk9 _ _ hHeld8.2.2.2⟩ (fun hHeld9 => ?_)
      clear hK K
      try simp only [Act.put, List.setIfInBounds_toArray]
      have HBN : Hid _ := hbn
      have HON : Hid _ := hOn
      have HWN : Hid _ := hown
      clear ho9 hg9 hat9 hownA hnw hOA hbA hgbA hO7 hown7 hgb7 hHeld7 hHeld8 hA9 hO9 hbn hOn hown hk9
      refine wpAnyL_take (i := 21) (v := ?_) rfl (by kernel_rfl) (by kernel_rfl) (by kernel_rfl) (by kernel_rfl) (fun _ _ _ h => h) (Or.inl ⟨by rfl, ?_⟩) (by assumption) ?_
      rotate_left
      · intro w hSw; (try dsimp only at hSw); go_simp; (try with_reducible rfl)
      try simp only [Act.put]
      refine wpAnyL_ready (rs := [22]) (by kernel_rfl) (by simp) ?_
      refine AllReadyL.last rfl (by kernel_rfl) (fun K hK => ?_)
      go_simp
      refine hK.out _ _ ?_
      clear hK K
      try simp only [Act.put, List.setIfInBounds_toArray, List.set_cons_zero, List.set_cons_succ]
      refine wpAnyL_done (by kernel_rfl) ?_ _
      clear hHeld9 c9 f9
      generalize w9.setCell ⟨gO, 1, none⟩ (.slice a9 m9 k9) = w10 at *
      subst hge
      go_wp2
      refine ⟨⟨j + 1, _, by omega, by go_num, HON.out, ?_, HBN.out⟩, by simp [intOf]; omega⟩
      rw [HSN.out, flat_snoc, List.length_append]
      exact HWN.out
    · obtain rfl : j = l.length := by omega
      have hjl : ¬ (l.length : Int) < (l.length : Int) := by omega
      rw [List.take_length] at hown
      have hEd := Edges.of_owns hown
      have hAb := Above.of_owns hown
      obtain ⟨pp, cc, rfl⟩ := hEd.len
      have k0 := hO.cell (j := 0) rfl
      have k1 := hO.cell (j := 1) rfl
      have hE1 : Blk 24 wr (w.heap.size + 1) [.int .i64 0, .slice none 0 0] := (hb.block _ (by omega)).trans HY4.out
      have f0 := hE1.frozen 0
      have f1 := hE1.frozen 1
      have x0 := hE1.cell (j := 0) rfl
      have x1 := hE1.cell (j := 1) rfl
      have hbf := (hE1.set 0 (.int .i64 (F.length : Int))).set 1 (.slice pp (dualL F l).length cc)
      have HF : Hid (Edges (((wr.setCell ⟨w.heap.size + 1, 0, none⟩ (.int .i64 (F.length : Int))).setCell ⟨w.heap.size + 1, 1, none⟩ (.slice pp (dualL F l).length cc))).heap.size ((wr.setCell ⟨w.heap.size + 1, 0, none⟩ (.int .i64 (F.length : Int))).setCell ⟨w.heap.size + 1, 1, none⟩ (.slice pp (dualL F l).length cc)) (.slice pp (dualL F l).length cc) (dualL F l)) := (hEd.setLow hAb (by simp only; omega) _).setLow hAb (by simp only; omega) _
      have HBW : Hid (Below w.heap.size w ((wr.setCell ⟨w.heap.size + 1, 0, none⟩ (.int .i64 (F.length : Int))).setCell ⟨w.heap.size + 1, 1, none⟩ (.slice pp (dualL F l).length cc))) := (hbwr.setCell (p := ⟨w.heap.size + 1, 0, none⟩) (by simp) _).setCell (p := ⟨w.heap.size + 1, 1, none⟩) (by simp) _
      have z0 := hbf.cell (j := 0) rfl
      have z1 := hbf.cell (j := 1) rfl
      clear hEd hAb hO hown hb hE1 hbwr hbf
      generalize hDD : dualL F l = D at *
      have HDD : Hid (dualL F l = D) := hDD
      clear hDD
      go_wp2
      (try simp only [Exit.inBlock, Exit.then])
      refine bodyPost_ret (ret_graph1 rfl (by rfl) z0 z1) rfl ?_
      exact ⟨_, rfl, by rw [HDD.out]; exact HF.out, HBW.out⟩
end Go.Proofs.Ytonfhkdciaiilaa
