/-
  The walk of filigreelaw06.PartsBlocks.
-/
import Derived.Test.YtdadpfkoocpfaaaPAlive
import Derived.Test.YtdadpfkoocpfaaaPRefBlk
import Derived.Deep.RegionHeld3
namespace Go.Proofs.Ytdadpfkoocpfaaa
open Go Go.Proofs Go.RowKit

theorem gath_short3 (l : List Int) : (gath l l.length).2.length ≤ l.length := by
  rw [← gath_len]; exact gath_few l l.length

set_option maxRecDepth 100000 in
set_option maxHeartbeats 4000000 in
theorem blocks_law (n : Int) (l : List Ed) (sv : Value) (w : World) (hl : Edges w.heap.size w sv l) :
    Calls Try.prog 5 #[.agg #[.int .i64 n, sv]] w fun e w' => e = .returned (.bool true) ∧ Below w.heap.size w w' := by
  have hmix := mixed
  have hg1 : Grew w (w.alloc (.cells #[.int .i64 n, sv] 24)) := (Grew.refl w).alloc _
  have hl1 := hl.go hg1.below
  obtain ⟨p, c, rfl⟩ := hl.len
  have hlt := light_any n l 20 (by decide) (by decide) (.slice p l.length c) _ hl1
  go_enter Try.func5, Try.ntmps5
  go_wp2_with fail
  refine hlt.mono ?_
  rintro e w2 ⟨rfl, hg2⟩
  obtain ⟨q0, q1⟩ := box2 _ hg2
  have hbox := box2_lt hg2
  have hbw2 := (hg1.trans hg2).below
  have hl2 := hl.go hbw2
  clear hlt hl1 hg1 hg2
  cases hL : lightB n l 20 with
  | false =>
    go_wp2_with fail
    refine (alive_any w2).mono ?_
    rintro e w3 ⟨rfl, hb3⟩
    have HB : Hid _ := hbw2.trans (hb3.mono hbw2.size)
    clear hb3 hbw2 hl2
    go_wp2
    go_ret
    exact ⟨rfl, HB.out⟩
  | true =>
    have hrr := refRight_any n l (.slice p l.length c) w2 hl2
    go_wp2_with fail
    refine hrr.mono ?_
    rintro e w3 ⟨rfl, hg3⟩
    have r0 := cell_keepK hg3.below q0
    have r1 := cell_keepK hg3.below q1
    have hbw3 := hbw2.trans (hg3.below.mono hbw2.size)
    have hl3 := hl.go hbw3
    have hbox3 : w.heap.size < w3.heap.size := Nat.lt_of_lt_of_le hbox hg3.below.size
    clear hrr hg3 q0 q1 hbw2 hl2 hbox
    by_cases hk : rightK n l = 0
    · have hR := right_iff.1 hk
      obtain ⟨N, rfl⟩ : ∃ N : Nat, n = (N : Int) := ⟨n.toNat, by have := hR.n0; omega⟩
      have hn1 := hR.n1
      have hm1 := hR.m1
      have hlenR : (walkW N l).block.length = l.length := (walkW_ok hR).lenK
      have Hcomp : Hid _ := walk_blocks hR
      have HR : Hid _ := hR
      have hLab := block_labels hR
      have hs2 := gath_short3 (walkW N l).block
      have hs3 := gath_short (walkW N l).block (walkW N l).block.length
      rw [hk]
      clear hk hL
      generalize hxb : w.heap.size = xb at r0 r1 hbox3
      go_wp2
      refine wp_region_held_drew (S := (fun w' : World => w'.cell? ⟨xb, 0, none⟩ = some (.int .i64 (N : Int)) ∧ w'.cell? ⟨xb, 1, none⟩ = some (.slice p l.length c))) (by kernel_rfl) ?_ (fun hHeld => ?_)
      · (try dsimp only); go_keep
      refine wpAnyH_take (i := 0) (v := ?_) rfl (by kernel_rfl) (by kernel_rfl) (by kernel_rfl) (fun _ _ _ h => h) (Or.inl ⟨by rfl, ?_⟩) (by assumption) ?_
      rotate_left
      · intro w hSw; (try dsimp only at hSw); go_simp; (try with_reducible rfl)
      try simp only [Act.put, List.setIfInBounds_toArray]
      refine wpAnyH_take (i := 2) (v := ?_) rfl (by kernel_rfl) (by kernel_rfl) (by kernel_rfl) (fun _ _ _ h => h) (Or.inl ⟨by rfl, ?_⟩) (by assumption) ?_
      rotate_left
      · intro w hSw; (try dsimp only at hSw); go_simp; (try with_reducible rfl)
      try simp only [Act.put]
      refine wpAnyH_ready (rs := [1]) (by kernel_rfl) (by simp) ?_
      refine AllReadyH.cons rfl (fun K hK => ?_) AllReadyH.nil
      go_simp
      have hbd : Below w3.heap.size w3 w3.drew := below_drewN (Below.refl _ _) 1
      refine (blocks_any N l HR.out hLab hlenR _ _ (hl3.go hbd)).mono ?_
      rintro e w4 ⟨lv4, svs4, h4, rfl, hG4, hb4⟩
      have hb34 : Below w3.heap.size w3 w4 := hbd.trans hb4
      refine hK.out _ _ ⟨cell_keepK hb34 r0, cell_keepK hb34 r1⟩ (fun hHeld4 => ?_)
      clear hK K hHeld
      have hl4 := hl3.go hb34
      have hbw4 := hbw3.trans (hb34.mono hbw3.size)
      have hL4 := hG4.lsts
      clear hb4 hbd hG4 hbw3 hl3 r0 r1 hb34
      try simp only [Act.put, List.setIfInBounds_toArray, List.set_cons_zero, List.set_cons_succ]
      refine wpAnyH_ready (rs := [3]) (by kernel_rfl) (by simp) ?_
      refine AllReadyH.cons rfl (fun K hK => ?_) AllReadyH.nil
      go_simp
      refine (refBlocks_any N l HR.out _ _ hl4).mono ?_
      rintro e w5 ⟨lv5, svs5, h5, rfl, hG5, hb5⟩
      refine hK.out _ _ ⟨cell_keepK hb5 hHeld4.1, cell_keepK hb5 hHeld4.2⟩ (fun hHeld5 => ?_)
      clear hK K hHeld4
      have hL5 := hG5.lsts
      have hL45 := hL4.go hb5
      have hbw5 := hbw4.trans (hb5.mono hbw4.size)
      rw [← Hcomp.out] at hL5
      have hrl := refLists_any _ _ (by omega) (fun x hx => by have := hs3 x hx; omega) _ _ _ hL45 hL5
      clear hG5 hb5 hbw4 hl4 hL4 hL5 hL45 hs2 hs3
      try simp only [Act.put, List.setIfInBounds_toArray, List.set_cons_zero, List.set_cons_succ]
      refine wpAnyH_ready (rs := [4]) (by kernel_rfl) (by simp) ?_
      refine AllReadyH.cons rfl (fun K hK => ?_) AllReadyH.nil
      go_simp
      refine hrl.mono ?_
      rintro e w6 ⟨rfl, hg6⟩
      refine hK.out _ _ ⟨cell_keepK hg6.below hHeld5.1, cell_keepK hg6.below hHeld5.2⟩ (fun hHeld6 => ?_)
      clear hK K hHeld5 hrl
      have hbw6 := hbw5.trans (hg6.below.mono hbw5.size)
      clear hg6 hbw5
      simp only [decide_true]
      try simp only [Act.put, List.setIfInBounds_toArray, List.set_cons_zero, List.set_cons_succ]
      refine wpAnyH_take (i := 5) (v := ?_) rfl (by kernel_rfl) (by kernel_rfl) (by kernel_rfl) (fun _ _ _ h => h) (Or.inl ⟨by rfl, ?_⟩) (by assumption) ?_
      rotate_left
      · intro w hSw; (try dsimp only at hSw); go_simp; (try with_reducible rfl)
      try simp only [Act.put]
      refine wpAnyH_ready (rs := [6]) (by kernel_rfl) (by simp) ?_
      refine AllReadyH.cons rfl (fun K hK => ?_) AllReadyH.nil
      go_simp
      refine (alive_any w6).mono ?_
      rintro e w7 ⟨rfl, hb7⟩
      refine hK.out _ _ ⟨cell_keepK hb7 hHeld6.1, cell_keepK hb7 hHeld6.2⟩ (fun hHeld7 => ?_)
      clear hK K hHeld6
      have HB7 : Hid _ := hbw6.trans (hb7.mono hbw6.size)
      clear hb7 hbw6
      try simp only [Act.put, List.setIfInBounds_toArray, List.set_cons_zero, List.set_cons_succ]
      refine wpAnyH_ready (rs := [7]) (by kernel_rfl) (by simp) ?_
      refine AllReadyH.cons rfl (fun K hK => ?_) AllReadyH.nil
      go_simp
      refine hK.out _ _ ?_ (fun hHeld => ?_)
      · (try dsimp only); first | (go_keep; done) | ((repeat' apply And.intro) <;> go_simp)
      clear hK K
      try simp only [List.setIfInBounds_toArray, List.set_cons_zero, List.set_cons_succ]
      refine wpAnyH_ready (rs := [8]) (by kernel_rfl) (by simp) ?_
      refine AllReadyH.cons rfl (fun K hK => ?_) AllReadyH.nil
      go_simp
      refine hK.out _ _ ?_ (fun hHeld => ?_)
      · (try dsimp only); first | (go_keep; done) | ((repeat' apply And.intro) <;> go_simp)
      clear hK K
      try simp only [List.setIfInBounds_toArray, List.set_cons_zero, List.set_cons_succ]
      refine wpAnyH_done (by kernel_rfl) ?_ _
      go_wp2
      go_ret
      exact ⟨rfl, HB7.out⟩
    · have hbad := fun W (hb : Below w3.heap.size w3 W) => blocks_bad n l hk (.slice p l.length c) W (hl3.go hb)
      generalize rightK n l = k at *
      go_wp2_with fail
      refine (hbad _ (Below.refl _ _)).mono ?_
      rintro e w4 ⟨rfl, hb4⟩
      have hbw4 := hbw3.trans (hb4.mono hbw3.size)
      clear hbad hb4 hbw3 hl3
      go_wp2_with fail
      refine (alive_any w4).mono ?_
      rintro e w5 ⟨rfl, hb5⟩
      have HB : Hid _ := hbw4.trans (hb5.mono hbw4.size)
      clear hb5 hbw4
      go_wp2
      go_ret
      exact ⟨rfl, HB.out⟩
end Go.Proofs.Ytdadpfkoocpfaaa
