/-
  The walk of filigreelaw07.RotationRight.
-/
import Derived.Test.YtnmlbkmbiecpnaaRRefRight
namespace Go.Proofs.Ytnmlbkmbiecpnaa
open Go Go.Proofs Go.RowKit

set_option maxRecDepth 100000 in
set_option maxHeartbeats 8000000 in
theorem right_law (n : Int) (l : List Ed) (r : List (List Int)) (hr1 : r.length ≤ 9223372036854775807) (hrr : ∀ x ∈ r, x.length ≤ 9223372036854775807) (d1 d2 : Int) (sv rv : Value) (w : World) (hl : Edges w.heap.size w sv l) (hr : Lsts w.heap.size w rv r) :
    Calls Try.prog 3 #[.agg #[.int .i64 n, sv], rv, .agg #[.int .i64 d1, .int .i64 d2]] w fun e w' => e = .returned (.bool true) ∧ Below w.heap.size w w' := by
  have hb1 : Below w.heap.size w (w.alloc (.cells #[.int .i64 n, sv] 24)) := (Below.refl _ _).alloc (Nat.le_refl _) _
  have hb2 : Below (w.alloc (.cells #[.int .i64 n, sv] 24)).heap.size (w.alloc (.cells #[.int .i64 n, sv] 24)) ((w.alloc (.cells #[.int .i64 n, sv] 24)).alloc (.cells #[.int .i64 d1, .int .i64 d2] 27)) := (Below.refl _ _).alloc (Nat.le_refl _) _
  have hX1 : Blk 24 (w.alloc (.cells #[.int .i64 n, sv] 24)) w.heap.size [.int .i64 n, sv] := heap_alloc_new w _
  have hX2 := hX1.go hb2
  have hD2 : Blk 27 ((w.alloc (.cells #[.int .i64 n, sv] 24)).alloc (.cells #[.int .i64 d1, .int .i64 d2] 27)) (w.alloc (.cells #[.int .i64 n, sv] 24)).heap.size [.int .i64 d1, .int .i64 d2] := heap_alloc_new _ _
  rw [World.size_alloc] at hD2
  have hbw2 : Below w.heap.size w ((w.alloc (.cells #[.int .i64 n, sv] 24)).alloc (.cells #[.int .i64 d1, .int .i64 d2] 27)) := hb1.trans (hb2.mono hb1.size)
  have hlt := lightR_any n l r hr1 30 (by decide) (by decide) sv rv _ (hl.go hbw2) (hr.go hbw2)
  have q0 := hX2.cell (j := 0) rfl
  have q1 := hX2.cell (j := 1) rfl
  have p0 := hD2.cell (j := 0) rfl
  have p1 := hD2.cell (j := 1) rfl
  have HL : Hid (Edges w.heap.size w sv l) := hl
  have HR : Hid (Lsts w.heap.size w rv r) := hr
  have HRR : Hid (∀ x ∈ r, x.length ≤ 9223372036854775807) := hrr
  have HB2 : Hid (Below w.heap.size w ((w.alloc (.cells #[.int .i64 n, sv] 24)).alloc (.cells #[.int .i64 d1, .int .i64 d2] 27))) := hbw2
  have HX2 : Hid (Blk 24 ((w.alloc (.cells #[.int .i64 n, sv] 24)).alloc (.cells #[.int .i64 d1, .int .i64 d2] 27)) w.heap.size [.int .i64 n, sv]) := hX2
  have HD2 : Hid (Blk 27 ((w.alloc (.cells #[.int .i64 n, sv] 24)).alloc (.cells #[.int .i64 d1, .int .i64 d2] 27)) (w.heap.size + 1) [.int .i64 d1, .int .i64 d2]) := hD2
  clear hb1 hb2 hX1 hX2 hD2 hbw2 hl hr hrr
  have hmix := mixed
  go_enter Try.func3, Try.ntmps3
  go_wp2_with fail
  generalize (w.alloc (.cells #[.int .i64 n, sv] 24)).alloc (.cells #[.int .i64 d1, .int .i64 d2] 27) = w2 at *
  refine hlt.mono ?_
  clear hlt
  rintro e w3 ⟨bb, rfl, -, hb3⟩
  have HB3 : Hid (Below w.heap.size w w3) := HB2.out.trans (hb3.mono HB2.out.size)
  have HX3 : Hid (Blk 24 w3 w.heap.size [.int .i64 n, sv]) := HX2.out.go hb3
  have HD3 : Hid (Blk 27 w3 (w.heap.size + 1) [.int .i64 d1, .int .i64 d2]) := HD2.out.go hb3
  clear HB2 HX2 HD2 hb3 q0 q1 p0 p1
  cases bb with
  | false =>
    go_wp2_with fail
    refine (alive_any w3).mono ?_
    rintro e w4 ⟨rfl, hb4⟩
    have HB4 : Hid (Below w.heap.size w w4) := HB3.out.trans (hb4.mono HB3.out.size)
    clear hb4
    go_wp2
    go_ret
    exact ⟨rfl, HB4.out⟩
  | true =>
    have p0 := HD3.out.cell (j := 0) rfl
    have p1 := HD3.out.cell (j := 1) rfl
    have hnx := next_any r HRR.out (d1, d2) rv w3 (HR.out.go HB3.out)
    go_wp2_with fail
    refine hnx.mono ?_
    clear hnx
    rintro e w4 ⟨rfl, hb4⟩
    have hrn := fun W h => refNext_any r HRR.out (d1, d2) rv W h
    generalize hnn : nxR r (d1, d2) = a at *
    obtain ⟨⟨a1, a2⟩, ab⟩ := a
    clear hnn
    have hB4 := HB3.out.trans (hb4.mono HB3.out.size)
    have hX4 := HX3.out.go hb4
    have hD4 := HD3.out.go hb4
    have hA4 : Blk 27 (w4.alloc (.cells #[.int .i64 a1, .int .i64 a2] 27)) w4.heap.size [.int .i64 a1, .int .i64 a2] := heap_alloc_new _ _
    have hbA : Below w4.heap.size w4 (w4.alloc (.cells #[.int .i64 a1, .int .i64 a2] 27)) := (Below.refl _ _).alloc (Nat.le_refl _) _
    have hB5 := hB4.trans (hbA.mono hB4.size)
    have hX5 := hX4.go hbA
    have hD5 := hD4.go hbA
    clear p0 p1 hb4 hX4 hD4
    have p0 := hD5.cell (j := 0) rfl
    have p1 := hD5.cell (j := 1) rfl
    have hrn5 := hrn _ (HR.out.go hB5)
    clear hrn
    go_wp2_with fail
    generalize hab : w4.heap.size = gb at *
    generalize w4.alloc (.cells #[.int .i64 a1, .int .i64 a2] 27) = w5 at *
    refine hrn5.mono ?_
    clear hrn5
    rintro e w6 ⟨rfl, hb6⟩
    have hB6 := hB5.trans (hb6.mono hB5.size)
    have hX6 := hX5.go hb6
    have hA6 := hA4.go hb6
    have hE7 : Blk 27 (w6.alloc (.cells #[.int .i64 a1, .int .i64 a2] 27)) w6.heap.size [.int .i64 a1, .int .i64 a2] := heap_alloc_new _ _
    have hbB : Below w6.heap.size w6 (w6.alloc (.cells #[.int .i64 a1, .int .i64 a2] 27)) := (Below.refl _ _).alloc (Nat.le_refl _) _
    have HB7 : Hid (Below w.heap.size w (w6.alloc (.cells #[.int .i64 a1, .int .i64 a2] 27))) := hB6.trans (hbB.mono hB6.size)
    have hX7 := hX6.go hbB
    have hA7 := hA6.go hbB
    have g0 := hX7.cell (j := 0) rfl
    have g1 := hX7.cell (j := 1) rfl
    have s0 := hA7.cell (j := 0) rfl
    have s1 := hA7.cell (j := 1) rfl
    have t0 := hE7.cell (j := 0) rfl
    have t1 := hE7.cell (j := 1) rfl
    clear hB4 hB5 hB6 hX5 hX6 hX7 hA4 hA6 hA7 hE7 hbA hbB hb6 hD5 p0 p1 HB3 HX3 HD3
    go_wp2_with fail
    generalize w6.heap.size = hb at *
    generalize w6.alloc (.cells #[.int .i64 a1, .int .i64 a2] 27) = w7 at *
    generalize hxb : w.heap.size = xb at g0 g1
    refine wp_region_held_drew (S := (fun w' : World => w'.cell? ⟨xb, 0, none⟩ = some (.int .i64 n) ∧ w'.cell? ⟨xb, 1, none⟩ = some sv ∧ w'.cell? ⟨gb, 0, none⟩ = some (.int .i64 a1) ∧ w'.cell? ⟨gb, 1, none⟩ = some (.int .i64 a2) ∧ w'.cell? ⟨hb, 0, none⟩ = some (.int .i64 a1) ∧ w'.cell? ⟨hb, 1, none⟩ = some (.int .i64 a2))) (by kernel_rfl) ?_ (fun hHeld => ?_)
    · (try dsimp only); go_keep
    refine wpAnyH_take (i := 0) (v := ?_) rfl (by kernel_rfl) (by kernel_rfl) (by kernel_rfl) (fun _ _ _ h => h) (Or.inl ⟨by rfl, ?_⟩) (by assumption) ?_
    rotate_left
    · intro w hSw; (try dsimp only at hSw); go_simp; (try with_reducible rfl)
    try simp only [Act.put, List.setIfInBounds_toArray]
    refine wpAnyH_take (i := 1) (v := ?_) rfl (by kernel_rfl) (by kernel_rfl) (by kernel_rfl) (fun _ _ _ h => h) (Or.inl ⟨by rfl, ?_⟩) (by assumption) ?_
    rotate_left
    · intro w hSw; (try dsimp only at hSw); go_simp; (try with_reducible rfl)
    try simp only [Act.put]
    refine wpAnyH_take (i := 3) (v := ?_) rfl (by kernel_rfl) (by kernel_rfl) (by kernel_rfl) (fun _ _ _ h => h) (Or.inl ⟨by rfl, ?_⟩) (by assumption) ?_
    rotate_left
    · intro w hSw; (try dsimp only at hSw); go_simp; (try with_reducible rfl)
    try simp only [Act.put]
    refine wpAnyH_take (i := 4) (v := ?_) rfl (by kernel_rfl) (by kernel_rfl) (by kernel_rfl) (fun _ _ _ h => h) (Or.inl ⟨by rfl, ?_⟩) (by assumption) ?_
    rotate_left
    · intro w hSw; (try dsimp only at hSw); go_simp; (try with_reducible rfl)
    try simp only [Act.put]
    refine wpAnyH_ready (rs := [2]) (by kernel_rfl) (by simp) ?_
    refine AllReadyH.cons rfl (fun K hK => ?_) AllReadyH.nil
    go_simp
    have hB7d : Below w.heap.size w w7.drew := below_drewN HB7.out 1
    refine (sysRight_any n l r sv rv w7.drew (HL.out.go hB7d) (HR.out.go hB7d)).mono ?_
    rintro e w8 ⟨rfl, hb8⟩
    refine hK.out _ _ ⟨cell_keepK hb8 hHeld.1, cell_keepK hb8 hHeld.2.1, cell_keepK hb8 hHeld.2.2.1, cell_keepK hb8 hHeld.2.2.2.1, cell_keepK hb8 hHeld.2.2.2.2.1, cell_keepK hb8 hHeld.2.2.2.2.2⟩ (fun hHeld8 => ?_)
    clear hK K hHeld
    have hB8 := hB7d.trans (hb8.mono hB7d.size)
    clear hb8 hB7d
    try simp only [Act.put, List.setIfInBounds_toArray, List.set_cons_zero, List.set_cons_succ]
    refine wpAnyH_ready (rs := [5]) (by kernel_rfl) (by simp) ?_
    refine AllReadyH.cons rfl (fun K hK => ?_) AllReadyH.nil
    go_simp
    refine (refSys_any n l r sv rv w8 (HL.out.go hB8) (HR.out.go hB8)).mono ?_
    rintro e w9 ⟨rfl, hb9⟩
    refine hK.out _ _ ⟨cell_keepK hb9 hHeld8.1, cell_keepK hb9 hHeld8.2.1, cell_keepK hb9 hHeld8.2.2.1, cell_keepK hb9 hHeld8.2.2.2.1, cell_keepK hb9 hHeld8.2.2.2.2.1, cell_keepK hb9 hHeld8.2.2.2.2.2⟩ (fun hHeld9 => ?_)
    clear hK K hHeld8
    have hB9 := hB8.trans (hb9.mono hB8.size)
    clear hb9 hB8
    generalize sysK n l r = kk at *
    try simp only [Act.put, List.setIfInBounds_toArray, List.set_cons_zero, List.set_cons_succ]
    refine wpAnyH_take (i := 6) (v := ?_) rfl (by kernel_rfl) (by kernel_rfl) (by kernel_rfl) (fun _ _ _ h => h) (Or.inl ⟨by rfl, ?_⟩) (by assumption) ?_
    rotate_left
    · intro w hSw; (try dsimp only at hSw); go_simp; (try with_reducible rfl)
    try simp only [Act.put]
    refine wpAnyH_take (i := 7) (v := ?_) rfl (by kernel_rfl) (by kernel_rfl) (by kernel_rfl) (fun _ _ _ h => h) (Or.inl ⟨by rfl, ?_⟩) (by assumption) ?_
    rotate_left
    · intro w hSw; (try dsimp only at hSw); go_simp; (try with_reducible rfl)
    try simp only [Act.put]
    simp only [List.getElem_toArray, List.getElem_cons_zero, List.getElem_cons_succ, List.setIfInBounds_toArray, List.set_cons_zero, List.set_cons_succ]
    refine wpAnyH_take (i := 8) (v := ?_) rfl (by kernel_rfl) (by kernel_rfl) (by kernel_rfl) (fun _ _ _ h => h) (Or.inl ⟨by simp [Region.wanted, yielded], ?_⟩) (by assumption) ?_
    rotate_left
    · intro w hSw; (try dsimp only at hSw); go_simp; (try with_reducible rfl)
    try simp only [Act.put]
    simp only [List.getElem_toArray, List.getElem_cons_zero, List.getElem_cons_succ, List.setIfInBounds_toArray, List.set_cons_zero, List.set_cons_succ]
    refine wpAnyH_take (i := 9) (v := ?_) rfl (by kernel_rfl) (by kernel_rfl) (by kernel_rfl) (fun _ _ _ h => h) (Or.inl ⟨by simp [Region.wanted, yielded], ?_⟩) (by assumption) ?_
    rotate_left
    · intro w hSw; (try dsimp only at hSw); go_simp; (try with_reducible rfl)
    try simp only [Act.put]
    simp only [List.getElem_toArray, List.getElem_cons_zero, List.getElem_cons_succ, List.setIfInBounds_toArray, List.set_cons_zero, List.set_cons_succ]
    refine wpAnyH_take (i := 10) (v := ?_) rfl (by kernel_rfl) (by kernel_rfl) (by kernel_rfl) (fun _ _ _ h => h) (Or.inl ⟨by simp [Region.wanted, yielded], ?_⟩) (by assumption) ?_
    rotate_left
    · intro w hSw; (try dsimp only at hSw); go_simp; (try with_reducible rfl)
    try simp only [Act.put]
    simp only [List.getElem_toArray, List.getElem_cons_zero, List.getElem_cons_succ, List.setIfInBounds_toArray, List.set_cons_zero, List.set_cons_succ]
    refine wpAnyH_take (i := 11) (v := ?_) rfl (by kernel_rfl) (by kernel_rfl) (by kernel_rfl) (fun _ _ _ h => h) (Or.inl ⟨by simp [Region.wanted], ?_⟩) (by assumption) ?_
    rotate_left
    · intro w hSw; (try dsimp only at hSw); go_simp; (try with_reducible rfl)
    try simp only [Act.put]
    simp only [List.getElem_toArray, List.getElem_cons_zero, List.getElem_cons_succ, List.setIfInBounds_toArray, List.set_cons_zero, List.set_cons_succ]
    refine wpAnyH_take (i := 12) (v := ?_) rfl (by kernel_rfl) (by kernel_rfl) (by kernel_rfl) (fun _ _ _ h => h) (Or.inl ⟨by simp [Region.wanted], ?_⟩) (by assumption) ?_
    rotate_left
    · intro w hSw; (try dsimp only at hSw); go_simp; (try with_reducible rfl)
    try simp only [Act.put]
    simp only [List.getElem_toArray, List.getElem_cons_zero, List.getElem_cons_succ, List.setIfInBounds_toArray, List.set_cons_zero, List.set_cons_succ]
    refine wpAnyH_take (i := 13) (v := ?_) rfl (by kernel_rfl) (by kernel_rfl) (by kernel_rfl) (fun _ _ _ h => h) (Or.inl ⟨by simp [Region.wanted, yielded], ?_⟩) (by assumption) ?_
    rotate_left
    · intro w hSw; (try dsimp only at hSw); go_simp; (try with_reducible rfl)
    try simp only [Act.put]
    simp only [List.getElem_toArray, List.getElem_cons_zero, List.getElem_cons_succ, List.setIfInBounds_toArray, List.set_cons_zero, List.set_cons_succ]
    refine wpAnyH_take (i := 14) (v := ?_) rfl (by kernel_rfl) (by kernel_rfl) (by kernel_rfl) (fun _ _ _ h => h) (Or.inl ⟨by simp [Region.wanted, yielded], ?_⟩) (by assumption) ?_
    rotate_left
    · intro w hSw; (try dsimp only at hSw); go_simp; (try with_reducible rfl)
    try simp only [Act.put]
    simp only [List.getElem_toArray, List.getElem_cons_zero, List.getElem_cons_succ, List.setIfInBounds_toArray, List.set_cons_zero, List.set_cons_succ]
    refine wpAnyH_take (i := 15) (v := ?_) rfl (by kernel_rfl) (by kernel_rfl) (by kernel_rfl) (fun _ _ _ h => h) (Or.inl ⟨by simp [Region.wanted, yielded], ?_⟩) (by assumption) ?_
    rotate_left
    · intro w hSw; (try dsimp only at hSw); go_simp; (try with_reducible rfl)
    try simp only [Act.put]
    simp only [List.getElem_toArray, List.getElem_cons_zero, List.getElem_cons_succ, List.setIfInBounds_toArray, List.set_cons_zero, List.set_cons_succ]
    refine wpAnyH_take (i := 16) (v := ?_) rfl (by kernel_rfl) (by kernel_rfl) (by kernel_rfl) (fun _ _ _ h => h) (Or.inl ⟨by simp [Region.wanted], ?_⟩) (by assumption) ?_
    rotate_left
    · intro w hSw; (try dsimp only at hSw); go_simp; (try with_reducible rfl)
    try simp only [Act.put]
    simp only [List.getElem_toArray, List.getElem_cons_zero, List.getElem_cons_succ, List.setIfInBounds_toArray, List.set_cons_zero, List.set_cons_succ]
    refine wpAnyH_take (i := 17) (v := ?_) rfl (by kernel_rfl) (by kernel_rfl) (by kernel_rfl) (fun _ _ _ h => h) (Or.inl ⟨by simp [Region.wanted], ?_⟩) (by assumption) ?_
    rotate_left
    · intro w hSw; (try dsimp only at hSw); go_simp; (try with_reducible rfl)
    try simp only [Act.put]
    simp only [List.getElem_toArray, List.getElem_cons_zero, List.getElem_cons_succ, List.setIfInBounds_toArray, List.set_cons_zero, List.set_cons_succ]
    refine wpAnyH_ready (rs := [18]) (by kernel_rfl) (by simp) ?_
    refine AllReadyH.cons rfl (fun K hK => ?_) AllReadyH.nil
    go_simp
    refine (alive_any w9).mono ?_
    rintro e w10 ⟨rfl, hb10⟩
    refine hK.out _ _ ⟨cell_keepK hb10 hHeld9.1, cell_keepK hb10 hHeld9.2.1, cell_keepK hb10 hHeld9.2.2.1, cell_keepK hb10 hHeld9.2.2.2.1, cell_keepK hb10 hHeld9.2.2.2.2.1, cell_keepK hb10 hHeld9.2.2.2.2.2⟩ (fun hHeld10 => ?_)
    clear hK K hHeld9
    have HB10 : Hid (Below w.heap.size w w10) := hB9.trans (hb10.mono hB9.size)
    clear hb10 hB9
    try simp only [Act.put, List.setIfInBounds_toArray, List.set_cons_zero, List.set_cons_succ]
    refine wpAnyH_ready (rs := [19]) (by kernel_rfl) (by simp) ?_
    refine AllReadyH.cons rfl (fun K hK => ?_) AllReadyH.nil
    go_simp
    refine hK.out _ _ ?_ (fun hHeld => ?_)
    · (try dsimp only); first | (go_keep; done) | ((repeat' apply And.intro) <;> go_simp)
    clear hK K
    try simp only [List.setIfInBounds_toArray, List.set_cons_zero, List.set_cons_succ]
    refine wpAnyH_ready (rs := [20]) (by kernel_rfl) (by simp) ?_
    refine AllReadyH.cons rfl (fun K hK => ?_) AllReadyH.nil
    go_simp
    refine hK.out _ _ ?_ (fun hHeld => ?_)
    · (try dsimp only); first | (go_keep; done) | ((repeat' apply And.intro) <;> go_simp)
    clear hK K
    try simp only [List.setIfInBounds_toArray, List.set_cons_zero, List.set_cons_succ]
    refine wpAnyH_done (by kernel_rfl) ?_ _
    go_wp2
    go_ret
    exact ⟨rfl, HB10.out⟩
end Go.Proofs.Ytnmlbkmbiecpnaa
