/-
  The walk of filigreelaw06.PartsCuts.
-/
import Derived.Test.YtdadpfkoocpfaaaPCompLaw
import Derived.Test.YtdadpfkoocpfaaaPBlkLab
import Derived.Test.YtdadpfkoocpfaaaPRefCut
namespace Go.Proofs.Ytdadpfkoocpfaaa
open Go Go.Proofs Go.RowKit

theorem thoseL_congr {P Q : Nat → Bool} {n : Nat} (h : ∀ k, k < n → P k = Q k) : thoseL P n = thoseL Q n := by
  unfold thoseL
  rw [List.filter_congr fun k hk => h k (List.mem_range.1 hk)]
theorem nb_adj {N : Nat} {l : List Ed} (hR : RightG (N : Int) l) {a v : Nat} (h : Adj l a v) : 0 < (nb l (v : Int)).length := by
  obtain ⟨k, hk⟩ := adj_joins hR h
  have hv := (hk.below hR).2
  have := (links_p hR).full k v a hv hk.symm
  rw [linksL_get hv] at this
  have h2 := List.length_pos_of_mem this
  rw [linkOf_len] at h2
  exact h2
theorem cuts_same {N : Nat} {l : List Ed} (hR : RightG (N : Int) l) : thoseL (cutP N l) N = thoseL (cutB (linksL N l) (walkW N l).block) N := by
  refine thoseL_congr fun v hv => ?_
  rw [Bool.eq_iff_iff, cutB_iff hR hv]
  unfold cutP
  rw [Bool.and_eq_true, decide_eq_true_iff, decide_eq_true_iff, cut_iff (H := cutG N l v) hR (right_ends (keep_right hR _)) hv (cutG_nov hR v)]
  constructor
  · rintro ⟨_, h⟩
    exact h
  · intro h
    refine ⟨?_, h⟩
    obtain ⟨a, b, ha, _⟩ := h
    exact nb_adj hR ha
theorem bridges_same {N : Nat} {l : List Ed} (hR : RightG (N : Int) l) : thoseL (briP N l) l.length = thoseL (bridgeB (walkW N l).block) l.length := by
  refine thoseL_congr fun p hp => ?_
  have hm := List.getElem_mem hp
  have := (hR.each _ hm).1
  unfold okE at this
  have hJ : Joins l p l[p].1.toNat l[p].2.1.toNat := ⟨l[p], List.getElem?_eq_getElem hp, .inl ⟨by omega, by omega⟩⟩
  rw [Bool.eq_iff_iff, bridgeB_iff hR hJ]
  unfold briP
  rw [decide_eq_true_iff, bridge_iff (H := lessG l p) hR (right_ends (keep_right hR _)) hJ (lessG_adj hR p)]

set_option maxRecDepth 100000 in
set_option maxHeartbeats 2000000 in
theorem cuts_bad (n : Int) (l : List Ed) (hR : rightK n l ≠ 0) (sv : Value) (w : World) (hl : Edges w.heap.size w sv l) :
    Calls Try.prog 14 #[.agg #[.int .i64 n, sv]] w fun r w' => r = .returned (.slice none 0 0) ∧ Below w.heap.size w w' := by
  have hg1 : Grew w (w.alloc (.cells #[.int .i64 n, sv] 24)) := (Grew.refl w).alloc _
  have hl1 := hl.go hg1.below
  obtain ⟨p, c, rfl⟩ := hl.len
  have hrc := fun W h => right_any n l (.slice p l.length c) W h
  go_enter Try.func14, Try.ntmps14
  go_wp2_with fail
  refine (hrc _ hl1).mono ?_
  rintro e w2 ⟨rfl, hg2⟩
  have hbw := (hg1.trans hg2).below
  clear hrc hl1
  generalize rightK n l = k at *
  go_wp2
  go_ret
  exact ⟨rfl, hbw⟩

set_option maxRecDepth 100000 in
set_option maxHeartbeats 2000000 in
theorem bridges_bad (n : Int) (l : List Ed) (hR : rightK n l ≠ 0) (sv : Value) (w : World) (hl : Edges w.heap.size w sv l) :
    Calls Try.prog 15 #[.agg #[.int .i64 n, sv]] w fun r w' => r = .returned (.slice none 0 0) ∧ Below w.heap.size w w' := by
  have hg1 : Grew w (w.alloc (.cells #[.int .i64 n, sv] 24)) := (Grew.refl w).alloc _
  have hl1 := hl.go hg1.below
  obtain ⟨p, c, rfl⟩ := hl.len
  have hrc := fun W h => right_any n l (.slice p l.length c) W h
  go_enter Try.func15, Try.ntmps15
  go_wp2_with fail
  refine (hrc _ hl1).mono ?_
  rintro e w2 ⟨rfl, hg2⟩
  have hbw := (hg1.trans hg2).below
  clear hrc hl1
  generalize rightK n l = k at *
  go_wp2
  go_ret
  exact ⟨rfl, hbw⟩

set_option maxRecDepth 100000 in
set_option maxHeartbeats 4000000 in
theorem cuts_law (n : Int) (l : List Ed) (sv : Value) (w : World) (hl : Edges w.heap.size w sv l) :
    Calls Try.prog 4 #[.agg #[.int .i64 n, sv]] w fun e w' => e = .returned (.bool true) ∧ Below w.heap.size w w' := by
  have hmix := mixed
  have hg1 : Grew w (w.alloc (.cells #[.int .i64 n, sv] 24)) := (Grew.refl w).alloc _
  have hl1 := hl.go hg1.below
  obtain ⟨p, c, rfl⟩ := hl.len
  have hlt := light_any n l 25 (by decide) (by decide) (.slice p l.length c) _ hl1
  go_enter Try.func4, Try.ntmps4
  go_wp2_with fail
  refine hlt.mono ?_
  rintro e w2 ⟨rfl, hg2⟩
  obtain ⟨q0, q1⟩ := box2 _ hg2
  have hbox := box2_lt hg2
  have hbw2 := (hg1.trans hg2).below
  have hl2 := hl.go hbw2
  clear hlt hl1 hg1 hg2
  cases hL : lightB n l 25 with
  | false =>
    go_wp2_with fail
    refine (alive_any w2).mono ?_
    rintro e w3 ⟨rfl, hb3⟩
    have HB : Hid _ := hbw2.trans (hb3.mono hbw2.size)
    clear hb3 hbw2 hl2
    go_wp2
    go_ret
    exact ⟨rfl, HB.out⟩
  | true =>
    have hrr := refRight_any n l (.slice p l.length c) w2 hl2
    go_wp2_with fail
    refine hrr.mono ?_
    rintro e w3 ⟨rfl, hg3⟩
    have r0 := cell_keepK hg3.below q0
    have r1 := cell_keepK hg3.below q1
    have hbw3 := hbw2.trans (hg3.below.mono hbw2.size)
    have hl3 := hl.go hbw3
    have hbox3 : w.heap.size < w3.heap.size := Nat.lt_of_lt_of_le hbox hg3.below.size
    clear hrr hg3 q0 q1 hbw2 hl2 hbox
    by_cases hk : rightK n l = 0
    · have hR := right_iff.1 hk
      obtain ⟨N, rfl⟩ : ∃ N : Nat, n = (N : Int) := ⟨n.toNat, by have := hR.n0; omega⟩
      have hn1 := hR.n1
      have hm1 := hR.m1
      have Hcut : Hid _ := cuts_same hR
      have Hbri : Hid _ := bridges_same hR
      have HR : Hid _ := hR
      have hLab := block_labels hR
      have hs2 := thoseL_len (cutB (linksL N l) (walkW N l).block) N
      have hs3 := thoseL_len (bridgeB (walkW N l).block) l.length
      rw [hk]
      clear hk hL
      generalize hxb : w.heap.size = xb at r0 r1 hbox3
      go_wp2
      refine wp_region_held_drew (S := (fun w' : World => w'.cell? ⟨xb, 0, none⟩ = some (.int .i64 (N : Int)) ∧ w'.cell? ⟨xb, 1, none⟩ = some (.slice p l.length c))) (by kernel_rfl) ?_ (fun hHeld => ?_)
      · (try dsimp only); go_keep
      refine wpAnyH_take (i := 0) (v := ?_) rfl (by kernel_rfl) (by kernel_rfl) (by kernel_rfl) (fun _ _ _ h => h) (Or.inl ⟨by rfl, ?_⟩) (by assumption) ?_
      rotate_left
      · intro w hSw; (try dsimp only at hSw); go_simp; (try with_reducible rfl)
      try simp only [Act.put, List.setIfInBounds_toArray]
      refine wpAnyH_take (i := 2) (v := ?_) rfl (by kernel_rfl) (by kernel_rfl) (by kernel_rfl) (fun _ _ _ h => h) (Or.inl ⟨by rfl, ?_⟩) (by assumption) ?_
      rotate_left
      · intro w hSw; (try dsimp only at hSw); go_simp; (try with_reducible rfl)
      try simp only [Act.put]
      refine wpAnyH_ready (rs := [1]) (by kernel_rfl) (by simp) ?_
      refine AllReadyH.cons rfl (fun K hK => ?_) AllReadyH.nil
      go_simp
      have hbd : Below w3.heap.size w3 w3.drew := below_drewN (Below.refl _ _) 1
      refine (cuts_any N l HR.out _ _ (hl3.go hbd)).mono ?_
      rintro e w4 ⟨lv4, rfl, hI4, hb4⟩
      have hb34 : Below w3.heap.size w3 w4 := hbd.trans hb4
      refine hK.out _ _ ⟨cell_keepK hb34 r0, cell_keepK hb34 r1⟩ (fun hHeld4 => ?_)
      clear hK K hHeld
      have hl4 := hl3.go hb34
      have hbw4 := hbw3.trans (hb34.mono hbw3.size)
      clear hb4 hbd hbw3 hl3 r0 r1 hb34
      try simp only [Act.put, List.setIfInBounds_toArray, List.set_cons_zero, List.set_cons_succ]
      refine wpAnyH_ready (rs := [3]) (by kernel_rfl) (by simp) ?_
      refine AllReadyH.cons rfl (fun K hK => ?_) AllReadyH.nil
      go_simp
      refine (refCuts_any N l HR.out _ _ hl4).mono ?_
      rintro e w5 ⟨lv5, rfl, hI5, hb5⟩
      refine hK.out _ _ ⟨cell_keepK hb5 hHeld4.1, cell_keepK hb5 hHeld4.2⟩ (fun hHeld5 => ?_)
      clear hK K hHeld4
      have hI45 := hI4.go hb5
      have hl5 := hl4.go hb5
      have hbw5 := hbw4.trans (hb5.mono hbw4.size)
      rw [Hcut.out] at hI5
      have hri := refInts_any _ _ (by omega) _ _ _ hI45 hI5
      clear hb5 hbw4 hl4 hI4 hI5 hI45 hs2
      try simp only [Act.put, List.setIfInBounds_toArray, List.set_cons_zero, List.set_cons_succ]
      refine wpAnyH_ready (rs := [4]) (by kernel_rfl) (by simp) ?_
      refine AllReadyH.cons rfl (fun K hK => ?_) AllReadyH.nil
      go_simp
      refine hri.mono ?_
      rintro e w6 ⟨rfl, hg6⟩
      refine hK.out _ _ ⟨cell_keepK hg6.below hHeld5.1, cell_keepK hg6.below hHeld5.2⟩ (fun hHeld6 => ?_)
      clear hK K hHeld5 hri
      have hl6 := hl5.go hg6.below
      have hbw6 := hbw5.trans (hg6.below.mono hbw5.size)
      clear hg6 hbw5 hl5
      simp only [decide_true]
      try simp only [Act.put, List.setIfInBounds_toArray, List.set_cons_zero, List.set_cons_succ]
      refine wpAnyH_take (i := 5) (v := ?_) rfl (by kernel_rfl) (by kernel_rfl) (by kernel_rfl) (fun _ _ _ h => h) (Or.inl ⟨by rfl, ?_⟩) (by assumption) ?_
      rotate_left
      · intro w hSw; (try dsimp only at hSw); go_simp; (try with_reducible rfl)
      try simp only [Act.put]
      refine wpAnyH_take (i := 6) (v := ?_) rfl (by kernel_rfl) (by kernel_rfl) (by kernel_rfl) (fun _ _ _ h => h) (Or.inl ⟨by simp [Region.wanted, yielded], ?_⟩) (by assumption) ?_
      rotate_left
      · intro w hSw; (try dsimp only at hSw); go_simp; (try with_reducible rfl)
      try simp only [Act.put]
      simp only [List.getElem_toArray, List.getElem_cons_zero, List.getElem_cons_succ, List.setIfInBounds_toArray, List.set_cons_zero, List.set_cons_succ]
      refine wpAnyH_take (i := 8) (v := ?_) rfl (by kernel_rfl) (by kernel_rfl) (by kernel_rfl) (fun _ _ _ h => h) (Or.inl ⟨by simp [Region.wanted, yielded], ?_⟩) (by assumption) ?_
      rotate_left
      · intro w hSw; (try dsimp only at hSw); go_simp; (try with_reducible rfl)
      try simp only [Act.put]
      simp only [List.getElem_toArray, List.getElem_cons_zero, List.getElem_cons_succ, List.setIfInBounds_toArray, List.set_cons_zero, List.set_cons_succ]
      refine wpAnyH_ready (rs := [7]) (by kernel_rfl) (by simp) ?_
      refine AllReadyH.cons rfl (fun K hK => ?_) AllReadyH.nil
      go_simp
      refine (bridges_any N l HR.out hLab _ _ hl6).mono ?_
      rintro e w7 ⟨lv7, rfl, hI7, hb7⟩
      refine hK.out _ _ ⟨cell_keepK hb7 hHeld6.1, cell_keepK hb7 hHeld6.2⟩ (fun hHeld7 => ?_)
      clear hK K hHeld6
      have hl7 := hl6.go hb7
      have hbw7 := hbw6.trans (hb7.mono hbw6.size)
      clear hb7 hbw6 hl6
      try simp only [Act.put, List.setIfInBounds_toArray, List.set_cons_zero, List.set_cons_succ]
      refine wpAnyH_ready (rs := [9]) (by kernel_rfl) (by simp) ?_
      refine AllReadyH.cons rfl (fun K hK => ?_) AllReadyH.nil
      go_simp
      refine (refBridges_any N l HR.out _ _ hl7).mono ?_
      rintro e w8 ⟨lv8, rfl, hI8, hb8⟩
      refine hK.out _ _ ⟨cell_keepK hb8 hHeld7.1, cell_keepK hb8 hHeld7.2⟩ (fun hHeld8 => ?_)
      clear hK K hHeld7
      have hI78 := hI7.go hb8
      have hbw8 := hbw7.trans (hb8.mono hbw7.size)
      rw [Hbri.out] at hI8
      have hri := refInts_any _ _ (by omega) _ _ _ hI78 hI8
      clear hb8 hbw7 hl7 hI7 hI8 hI78 hs3
      try simp only [Act.put, List.setIfInBounds_toArray, List.set_cons_zero, List.set_cons_succ]
      refine wpAnyH_ready (rs := [10]) (by kernel_rfl) (by simp) ?_
      refine AllReadyH.cons rfl (fun K hK => ?_) AllReadyH.nil
      go_simp
      refine hri.mono ?_
      rintro e w9 ⟨rfl, hg9⟩
      refine hK.out _ _ ⟨cell_keepK hg9.below hHeld8.1, cell_keepK hg9.below hHeld8.2⟩ (fun hHeld9 => ?_)
      clear hK K hHeld8 hri
      have hbw9 := hbw8.trans (hg9.below.mono hbw8.size)
      clear hg9 hbw8
      simp only [decide_true]
      try simp only [Act.put, List.setIfInBounds_toArray, List.set_cons_zero, List.set_cons_succ]
      refine wpAnyH_take (i := 11) (v := ?_) rfl (by kernel_rfl) (by kernel_rfl) (by kernel_rfl) (fun _ _ _ h => h) (Or.inl ⟨by rfl, ?_⟩) (by assumption) ?_
      rotate_left
      · intro w hSw; (try dsimp only at hSw); go_simp; (try with_reducible rfl)
      try simp only [Act.put]
      refine wpAnyH_take (i := 12) (v := ?_) rfl (by kernel_rfl) (by kernel_rfl) (by kernel_rfl) (fun _ _ _ h => h) (Or.inl ⟨by rfl, ?_⟩) (by assumption) ?_
      rotate_left
      · intro w hSw; (try dsimp only at hSw); go_simp; (try with_reducible rfl)
      try simp only [Act.put]
      refine wpAnyH_ready (rs := [13]) (by kernel_rfl) (by simp) ?_
      refine AllReadyH.cons rfl (fun K hK => ?_) AllReadyH.nil
      go_simp
      refine (alive_any w9).mono ?_
      rintro e w10 ⟨rfl, hb10⟩
      refine hK.out _ _ ⟨cell_keepK hb10 hHeld9.1, cell_keepK hb10 hHeld9.2⟩ (fun hHeld10 => ?_)
      clear hK K hHeld9
      have HB10 : Hid _ := hbw9.trans (hb10.mono hbw9.size)
      clear hb10 hbw9
      try simp only [Act.put, List.setIfInBounds_toArray, List.set_cons_zero, List.set_cons_succ]
      refine wpAnyH_ready (rs := [14]) (by kernel_rfl) (by simp) ?_
      refine AllReadyH.cons rfl (fun K hK => ?_) AllReadyH.nil
      go_simp
      refine hK.out _ _ ?_ (fun hHeld => ?_)
      · (try dsimp only); first | (go_keep; done) | ((repeat' apply And.intro) <;> go_simp)
      clear hK K
      try simp only [List.setIfInBounds_toArray, List.set_cons_zero, List.set_cons_succ]
      refine wpAnyH_ready (rs := [15]) (by kernel_rfl) (by simp) ?_
      refine AllReadyH.cons rfl (fun K hK => ?_) AllReadyH.nil
      go_simp
      refine hK.out _ _ ?_ (fun hHeld => ?_)
      · (try dsimp only); first | (go_keep; done) | ((repeat' apply And.intro) <;> go_simp)
      clear hK K
      try simp only [List.setIfInBounds_toArray, List.set_cons_zero, List.set_cons_succ]
      refine wpAnyH_done (by kernel_rfl) ?_ _
      go_wp2
      go_ret
      exact ⟨rfl, HB10.out⟩
    · have hcb := fun W (hb : Below w3.heap.size w3 W) => cuts_bad n l hk (.slice p l.length c) W (hl3.go hb)
      have hbb := fun W (hb : Below w3.heap.size w3 W) => bridges_bad n l hk (.slice p l.length c) W (hl3.go hb)
      generalize rightK n l = k at *
      generalize hxb : w.heap.size = xb at r0 r1 hbox3
      go_wp2
      refine wp_region_held_drew (S := (fun w' : World => w'.cell? ⟨xb, 0, none⟩ = some (.int .i64 n) ∧ w'.cell? ⟨xb, 1, none⟩ = some (.slice p l.length c))) (by kernel_rfl) ?_ (fun hHeld => ?_)
      · (try dsimp only); go_keep
      refine wpAnyH_take (i := 0) (v := ?_) rfl (by kernel_rfl) (by kernel_rfl) (by kernel_rfl) (fun _ _ _ h => h) (Or.inl ⟨by rfl, ?_⟩) (by assumption) ?_
      rotate_left
      · intro w hSw; (try dsimp only at hSw); go_simp; (try with_reducible rfl)
      try simp only [Act.put, List.setIfInBounds_toArray]
      refine wpAnyH_take (i := 3) (v := ?_) rfl (by kernel_rfl) (by kernel_rfl) (by kernel_rfl) (fun _ _ _ h => h) (Or.inl ⟨by rfl, ?_⟩) (by assumption) ?_
      rotate_left
      · intro w hSw; (try dsimp only at hSw); go_simp; (try with_reducible rfl)
      try simp only [Act.put]
      refine wpAnyH_ready (rs := [1]) (by kernel_rfl) (by simp) ?_
      refine AllReadyH.cons rfl (fun K hK => ?_) AllReadyH.nil
      go_simp
      have hbd : Below w3.heap.size w3 w3.drew := below_drewN (Below.refl _ _) 1
      refine (hcb _ hbd).mono ?_
      rintro e w4 ⟨rfl, hb4⟩
      have hb34 : Below w3.heap.size w3 w4 := hbd.trans hb4
      refine hK.out _ _ ⟨cell_keepK hb34 r0, cell_keepK hb34 r1⟩ (fun hHeld4 => ?_)
      clear hK K hHeld hcb
      have hbw4 := hbw3.trans (hb34.mono hbw3.size)
      try simp only [Act.put, List.setIfInBounds_toArray, List.set_cons_zero, List.set_cons_succ]
      refine wpAnyH_take (i := 2) (v := ?_) rfl (by kernel_rfl) (by kernel_rfl) (by kernel_rfl) (fun _ _ _ h => h) (Or.inl ⟨by rfl, ?_⟩) (by assumption) ?_
      rotate_left
      · intro w hSw; (try dsimp only at hSw); go_simp; (try with_reducible rfl)
      try simp only [Act.put]
      refine wpAnyH_ready (rs := [4]) (by kernel_rfl) (by simp) ?_
      refine AllReadyH.cons rfl (fun K hK => ?_) AllReadyH.nil
      go_simp
      refine (hbb _ hb34).mono ?_
      rintro e w5 ⟨rfl, hb5⟩
      refine hK.out _ _ ⟨cell_keepK hb5 hHeld4.1, cell_keepK hb5 hHeld4.2⟩ (fun hHeld5 => ?_)
      clear hK K hHeld4 hbb
      have hbw5 := hbw4.trans (hb5.mono hbw4.size)
      clear hb4 hbd hbw3 hl3 r0 r1 hb34 hb5 hbw4
      try simp only [Act.put, List.setIfInBounds_toArray, List.set_cons_zero, List.set_cons_succ]
      refine wpAnyH_take (i := 5) (v := ?_) rfl (by kernel_rfl) (by kernel_rfl) (by kernel_rfl) (fun _ _ _ h => h) (Or.inl ⟨by rfl, ?_⟩) (by assumption) ?_
      rotate_left
      · intro w hSw; (try dsimp only at hSw); go_simp; (try with_reducible rfl)
      try simp only [Act.put]
      refine wpAnyH_take (i := 6) (v := ?_) rfl (by kernel_rfl) (by kernel_rfl) (by kernel_rfl) (fun _ _ _ h => h) (Or.inl ⟨by rfl, ?_⟩) (by assumption) ?_
      rotate_left
      · intro w hSw; (try dsimp only at hSw); go_simp; (try with_reducible rfl)
      try simp only [Act.put]
      refine wpAnyH_take (i := 7) (v := ?_) rfl (by kernel_rfl) (by kernel_rfl) (by kernel_rfl) (fun _ _ _ h => h) (Or.inl ⟨by rfl, ?_⟩) (by assumption) ?_
      rotate_left
      · intro w hSw; (try dsimp only at hSw); go_simp; (try with_reducible rfl)
      try simp only [Act.put]
      refine wpAnyH_take (i := 8) (v := ?_) rfl (by kernel_rfl) (by kernel_rfl) (by kernel_rfl) (fun _ _ _ h => h) (Or.inl ⟨by rfl, ?_⟩) (by assumption) ?_
      rotate_left
      · intro w hSw; (try dsimp only at hSw); go_simp; (try with_reducible rfl)
      try simp only [Act.put]
      refine wpAnyH_ready (rs := [9]) (by kernel_rfl) (by simp) ?_
      refine AllReadyH.cons rfl (fun K hK => ?_) AllReadyH.nil
      go_simp
      refine (alive_any w5).mono ?_
      rintro e w6 ⟨rfl, hb6⟩
      refine hK.out _ _ ⟨cell_keepK hb6 hHeld5.1, cell_keepK hb6 hHeld5.2⟩ (fun hHeld6 => ?_)
      clear hK K hHeld5
      have HB6 : Hid _ := hbw5.trans (hb6.mono hbw5.size)
      clear hb6 hbw5
      try simp only [Act.put, List.setIfInBounds_toArray, List.set_cons_zero, List.set_cons_succ]
      refine wpAnyH_ready (rs := [10]) (by kernel_rfl) (by simp) ?_
      refine AllReadyH.cons rfl (fun K hK => ?_) AllReadyH.nil
      go_simp
      refine hK.out _ _ ?_ (fun hHeld => ?_)
      · (try dsimp only); first | (go_keep; done) | ((repeat' apply And.intro) <;> go_simp)
      clear hK K
      try simp only [List.setIfInBounds_toArray, List.set_cons_zero, List.set_cons_succ]
      refine wpAnyH_ready (rs := [11]) (by kernel_rfl) (by simp) ?_
      refine AllReadyH.cons rfl (fun K hK => ?_) AllReadyH.nil
      go_simp
      refine hK.out _ _ ?_ (fun hHeld => ?_)
      · (try dsimp only); first | (go_keep; done) | ((repeat' apply And.intro) <;> go_simp)
      clear hK K
      try simp only [List.setIfInBounds_toArray, List.set_cons_zero, List.set_cons_succ]
      refine wpAnyH_done (by kernel_rfl) ?_ _
      go_wp2
      go_ret
      exact ⟨rfl, HB6.out⟩
end Go.Proofs.Ytdadpfkoocpfaaa
