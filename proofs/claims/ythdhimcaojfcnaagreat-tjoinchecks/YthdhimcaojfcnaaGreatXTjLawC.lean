/-
  The walk of filigreelaw14.TjoinChecks.
-/
import Derived.Test.YthdhimcaojfcnaaGreatJN
import Derived.Test.YthdhimcaojfcnaaGreatXTjRefChk
import Derived.Test.YthdhimcaojfcnaaGreatXWaRefR
namespace Go.Proofs.YthdhimcaojfcnaaGreat
open Go Go.Proofs Go.RowKit

theorem oddK_len (n : Int) (l : List Ed) (B : List Int) : (oddK n l B).length ≤ n.toNat := by
  unfold oddK
  split
  · unfold oddV trueL
    rw [oddT_len]
    exact trueK_len _ _
  · simp
theorem lightT_true {n : Int} {k : Nat} {m : Int} (h : lightB n k m = true) : n ≤ m ∧ (k : Int) ≤ 4 * m := by simpa [lightB] using h
set_option maxRecDepth 100000 in
set_option maxHeartbeats 4000000 in
theorem checks_walkT (n : Int) (l : List Ed) (T B : List Int) (sv tv bv : Value) (w : World) (hl : Edges w.heap.size w sv l) (hT : Ints w.heap.size w tv T) (hB : Ints w.heap.size w bv B) :
    Calls Tryz.prog 3 #[.agg #[.int .i64 n, sv], tv, bv] w fun r w' => r = .returned (.bool true) ∧ Below w.heap.size w w' := by
  have hmix := mixed
  obtain ⟨p, q, rfl⟩ := hl.len
  obtain ⟨pt, ct, rfl⟩ := hT.len
  obtain ⟨pb, cb, rfl⟩ := hB.len
  have hg1 : Grew w (w.alloc (.cells #[.int .i64 n, .slice p l.length q] 24)) := (Grew.refl w).alloc _
  have hlt := fun W => lightW_any n p l.length q 100 (by omega) (by omega) W
  have hskip : lightB n l.length 100 = false ∨ (lightB n l.length 100 = true ∧ (500 < (T.length : Int) ∨ 500 < (B.length : Int))) ∨ (lightB n l.length 100 = true ∧ ¬ 500 < (T.length : Int) ∧ ¬ 500 < (B.length : Int)) := by
    cases lightB n l.length 100
    · exact .inl rfl
    · by_cases h : 500 < (T.length : Int) ∨ 500 < (B.length : Int)
      · exact .inr (.inl ⟨rfl, h⟩)
      · exact .inr (.inr ⟨rfl, by omega, by omega⟩)
  rcases hskip with hli | ⟨hli, hs⟩ | ⟨hli, h1, h2⟩
  · rw [hli] at hlt
    go_enter Tryz.func3, Tryz.ntmps3
    go_wp2_with fail
    refine (hlt _).mono ?_
    rintro e w2 ⟨rfl, hg2⟩
    go_wp2_with fail
    refine (aliveT_any _).mono ?_
    rintro e w3 ⟨rfl, hb3⟩
    go_wp2
    go_ret
    exact ⟨rfl, (hg1.trans hg2).below.trans (hb3.mono (hg1.trans hg2).below.size)⟩
  · rw [hli] at hlt
    by_cases h1 : (500 : Int) < (T.length : Int)
    · go_enter Tryz.func3, Tryz.ntmps3
      go_wp2_with fail
      refine (hlt _).mono ?_
      rintro e w2 ⟨rfl, hg2⟩
      go_wp2_with fail
      refine (aliveT_any _).mono ?_
      rintro e w3 ⟨rfl, hb3⟩
      go_wp2
      go_ret
      exact ⟨rfl, (hg1.trans hg2).below.trans (hb3.mono (hg1.trans hg2).below.size)⟩
    · have h1d : decide ((500 : Int) < (T.length : Int)) = false := by simp; omega
      have h2 : (500 : Int) < (B.length : Int) := by omega
      clear hs
      go_enter Tryz.func3, Tryz.ntmps3
      go_wp2_with fail
      refine (hlt _).mono ?_
      rintro e w2 ⟨rfl, hg2⟩
      go_wp2_with fail
      refine (aliveT_any _).mono ?_
      rintro e w3 ⟨rfl, hb3⟩
      go_wp2
      go_ret
      exact ⟨rfl, (hg1.trans hg2).below.trans (hb3.mono (hg1.trans hg2).below.size)⟩
  · rw [hli] at hlt
    obtain ⟨hn1, hl1⟩ := lightT_true hli
    have h1d : decide ((500 : Int) < (T.length : Int)) = false := by simp; omega
    have h2d : decide ((500 : Int) < (B.length : Int)) = false := by simp; omega
    have hol := oddK_len n l B
    have HT : Hid _ := hT
    have HBI : Hid _ := hB
    go_enter Tryz.func3, Tryz.ntmps3
    go_wp2_with fail
    refine (hlt _).mono ?_
    rintro e w3 ⟨rfl, hg2⟩
    obtain ⟨r0, r1⟩ := box2 _ hg2
    have hbox3 := box2_lt hg2
    have hbw3 := (hg1.trans hg2).below
    have hl3 := hl.go hbw3
    have hT3 := (hT.below hbw3).mono hbw3.size
    have hB3 := (hB.below hbw3).mono hbw3.size
    clear hlt hg1 hg2 HT HBI hT hB hl
    go_wp2
    generalize hxb : w.heap.size = xb at r0 r1 hbox3
    have hBw : Below xb w w3 := by rw [← hxb]; exact hbw3
    refine wp_region_held_drew (S := (fun w' : World => w'.cell? ⟨xb, 0, none⟩ = some (.int .i64 n) ∧ w'.cell? ⟨xb, 1, none⟩ = some (.slice p l.length q))) (by kernel_rfl) ?_ (fun hHeld => ?_)
    · (try dsimp only); go_keep
    refine wpAnyH_take (i := 0) (v := ?_) rfl (by kernel_rfl) (by kernel_rfl) (by kernel_rfl) (fun _ _ _ h => h) (Or.inl ⟨by rfl, ?_⟩) (by assumption) ?_
    rotate_left
    · intro w hSw; (try dsimp only at hSw); go_simp; (try with_reducible rfl)
    try simp only [Act.put, List.setIfInBounds_toArray]
    refine wpAnyH_take (i := 1) (v := ?_) rfl (by kernel_rfl) (by kernel_rfl) (by kernel_rfl) (fun _ _ _ h => h) (Or.inl ⟨by rfl, ?_⟩) (by assumption) ?_
    rotate_left
    · intro w hSw; (try dsimp only at hSw); go_simp; (try with_reducible rfl)
    try simp only [Act.put]
    refine wpAnyH_take (i := 3) (v := ?_) rfl (by kernel_rfl) (by kernel_rfl) (by kernel_rfl) (fun _ _ _ h => h) (Or.inl ⟨by rfl, ?_⟩) (by assumption) ?_
    rotate_left
    · intro w hSw; (try dsimp only at hSw); go_simp; (try with_reducible rfl)
    try simp only [Act.put]
    refine wpAnyH_take (i := 4) (v := ?_) rfl (by kernel_rfl) (by kernel_rfl) (by kernel_rfl) (fun _ _ _ h => h) (Or.inl ⟨by rfl, ?_⟩) (by assumption) ?_
    rotate_left
    · intro w hSw; (try dsimp only at hSw); go_simp; (try with_reducible rfl)
    try simp only [Act.put]
    refine wpAnyH_ready (rs := [2]) (by kernel_rfl) (by simp) ?_
    refine AllReadyH.cons rfl (fun K hK => ?_) AllReadyH.nil
    go_simp
    have hbd : Below w3.heap.size w3 w3.drew := below_drewN (Below.refl _ _) 1
    refine (odd_any n l B (by omega) _ _ w3.drew (hl3.go hbd) ((hB3.below hbd).mono hbd.size)).mono ?_
    rintro e w4 ⟨lv4, rfl, hI4, hb4⟩
    have hb34 : Below w3.heap.size w3 w4 := hbd.trans hb4
    refine hK.out _ _ ⟨cell_keepW hb34 r0, cell_keepW hb34 r1⟩ (fun hHeld4 => ?_)
    clear hK K hHeld
    have hl4 := hl3.go hb34
    have hT4 := (hT3.below hb34).mono hb34.size
    have hB4 := (hB3.below hb34).mono hb34.size
    have hbw4 := hbw3.trans (hb34.mono hbw3.size)
    clear hb4 hbd hbw3 hl3 r0 r1 hb34 hT3 hB3 hBw
    try simp only [Act.put, List.setIfInBounds_toArray, List.set_cons_zero, List.set_cons_succ]
    refine wpAnyH_ready (rs := [5]) (by kernel_rfl) (by simp) ?_
    refine AllReadyH.cons rfl (fun K hK => ?_) AllReadyH.nil
    go_simp
    refine (refOddT_all n l B (by omega) _ _ w4 hl4 hB4).mono ?_
    rintro e w5 ⟨lv5, rfl, hI5, hb5⟩
    refine hK.out _ _ ⟨cell_keepW hb5 hHeld4.1, cell_keepW hb5 hHeld4.2⟩ (fun hHeld5 => ?_)
    clear hK K hHeld4
    have hI45 := (hI4.below hb5).mono hb5.size
    have hl5 := hl4.go hb5
    have hT5 := (hT4.below hb5).mono hb5.size
    have hB5 := (hB4.below hb5).mono hb5.size
    have hbw5 := hbw4.trans (hb5.mono hbw4.size)
    have hri := refIntsW_any _ _ _ _ _ hI45 hI5 (by omega)
    rw [same_yes rfl] at hri
    clear hb5 hbw4 hl4 hI4 hI5 hI45 hol hT4 hB4
    try simp only [Act.put, List.setIfInBounds_toArray, List.set_cons_zero, List.set_cons_succ]
    refine wpAnyH_ready (rs := [6]) (by kernel_rfl) (by simp) ?_
    refine AllReadyH.cons rfl (fun K hK => ?_) AllReadyH.nil
    go_simp
    refine hri.mono ?_
    rintro e w6 ⟨rfl, qq, hw6⟩
    have hb6 : Below w5.heap.size w5 w6 := by rw [hw6]; exact below_drewN (Below.refl _ _) qq
    refine hK.out _ _ ⟨cell_keepW hb6 hHeld5.1, cell_keepW hb6 hHeld5.2⟩ (fun hHeld6 => ?_)
    clear hK K hHeld5 hri hw6
    have hl6 := hl5.go hb6
    have hT6 := (hT5.below hb6).mono hb6.size
    have hB6 := (hB5.below hb6).mono hb6.size
    have hbw6 := hbw5.trans (hb6.mono hbw5.size)
    have hck := checkT_any n l T B (by omega) (by omega) _ _ _ w6 hl6 hT6 hB6
    clear hb6 hbw5 hl5 hT5 hB5
    try simp only [Act.put, List.setIfInBounds_toArray, List.set_cons_zero, List.set_cons_succ]
    refine wpAnyH_take (i := 7) (v := ?_) rfl (by kernel_rfl) (by kernel_rfl) (by kernel_rfl) (fun _ _ _ h => h) (Or.inl ⟨by rfl, ?_⟩) (by assumption) ?_
    rotate_left
    · intro w hSw; (try dsimp only at hSw); go_simp; (try with_reducible rfl)
    try simp only [Act.put]
    refine wpAnyH_take (i := 8) (v := ?_) rfl (by kernel_rfl) (by kernel_rfl) (by kernel_rfl) (fun _ _ _ h => h) (Or.inl ⟨by simp [Region.wanted, yielded], ?_⟩) (by assumption) ?_
    rotate_left
    · intro w hSw; (try dsimp only at hSw); go_simp; (try with_reducible rfl)
    try simp only [Act.put]
    simp only [List.getElem_toArray, List.getElem_cons_zero, List.getElem_cons_succ, List.setIfInBounds_toArray, List.set_cons_zero, List.set_cons_succ]
    refine wpAnyH_take (i := 9) (v := ?_) rfl (by kernel_rfl) (by kernel_rfl) (by kernel_rfl) (fun _ _ _ h => h) (Or.inl ⟨by simp [Region.wanted, yielded], ?_⟩) (by assumption) ?_
    rotate_left
    · intro w hSw; (try dsimp only at hSw); go_simp; (try with_reducible rfl)
    try simp only [Act.put]
    simp only [List.getElem_toArray, List.getElem_cons_zero, List.getElem_cons_succ, List.setIfInBounds_toArray, List.set_cons_zero, List.set_cons_succ]
    refine wpAnyH_take (i := 10) (v := ?_) rfl (by kernel_rfl) (by kernel_rfl) (by kernel_rfl) (fun _ _ _ h => h) (Or.inl ⟨by simp [Region.wanted, yielded], ?_⟩) (by assumption) ?_
    rotate_left
    · intro w hSw; (try dsimp only at hSw); go_simp; (try with_reducible rfl)
    try simp only [Act.put]
    simp only [List.getElem_toArray, List.getElem_cons_zero, List.getElem_cons_succ, List.setIfInBounds_toArray, List.set_cons_zero, List.set_cons_succ]
    refine wpAnyH_take (i := 12) (v := ?_) rfl (by kernel_rfl) (by kernel_rfl) (by kernel_rfl) (fun _ _ _ h => h) (Or.inl ⟨by simp [Region.wanted, yielded], ?_⟩) (by assumption) ?_
    rotate_left
    · intro w hSw; (try dsimp only at hSw); go_simp; (try with_reducible rfl)
    try simp only [Act.put]
    simp only [List.getElem_toArray, List.getElem_cons_zero, List.getElem_cons_succ, List.setIfInBounds_toArray, List.set_cons_zero, List.set_cons_succ]
    refine wpAnyH_take (i := 13) (v := ?_) rfl (by kernel_rfl) (by kernel_rfl) (by kernel_rfl) (fun _ _ _ h => h) (Or.inl ⟨by simp [Region.wanted, yielded], ?_⟩) (by assumption) ?_
    rotate_left
    · intro w hSw; (try dsimp only at hSw); go_simp; (try with_reducible rfl)
    try simp only [Act.put]
    simp only [List.getElem_toArray, List.getElem_cons_zero, List.getElem_cons_succ, List.setIfInBounds_toArray, List.set_cons_zero, List.set_cons_succ]
    refine wpAnyH_take (i := 14) (v := ?_) rfl (by kernel_rfl) (by kernel_rfl) (by kernel_rfl) (fun _ _ _ h => h) (Or.inl ⟨by simp [Region.wanted, yielded], ?_⟩) (by assumption) ?_
    rotate_left
    · intro w hSw; (try dsimp only at hSw); go_simp; (try with_reducible rfl)
    try simp only [Act.put]
    simp only [List.getElem_toArray, List.getElem_cons_zero, List.getElem_cons_succ, List.setIfInBounds_toArray, List.set_cons_zero, List.set_cons_succ]
    refine wpAnyH_ready (rs := [11]) (by kernel_rfl) (by simp) ?_
    refine AllReadyH.cons rfl (fun K hK => ?_) AllReadyH.nil
    go_simp
    refine hck.mono ?_
    rintro e w7 ⟨rfl, hb7⟩
    refine hK.out _ _ ⟨cell_keepW hb7 hHeld6.1, cell_keepW hb7 hHeld6.2⟩ (fun hHeld7 => ?_)
    clear hK K hHeld6 hck
    have hbw7 := hbw6.trans (hb7.mono hbw6.size)
    have hrc := refCheckT_any n l T B (by omega) (by omega) (by omega) _ _ _ w7 (hl6.go hb7) ((hT6.below hb7).mono hb7.size) ((hB6.below hb7).mono hb7.size)
    generalize chkT n l T B = ck at *
    clear hb7 hbw6 hl6 hT6 hB6
    try simp only [Act.put, List.setIfInBounds_toArray, List.set_cons_zero, List.set_cons_succ]
    refine wpAnyH_ready (rs := [15]) (by kernel_rfl) (by simp) ?_
    refine AllReadyH.cons rfl (fun K hK => ?_) AllReadyH.nil
    go_simp
    refine hrc.mono ?_
    rintro e w8 ⟨rfl, hb8⟩
    refine hK.out _ _ ⟨cell_keepW hb8 hHeld7.1, cell_keepW hb8 hHeld7.2⟩ (fun hHeld8 => ?_)
    clear hK K hHeld7 hrc
    have hbw8 := hbw7.trans (hb8.mono hbw7.size)
    clear hb8 hbw7
    try simp only [Act.put, List.setIfInBounds_toArray, List.set_cons_zero, List.set_cons_succ]
    refine wpAnyH_take (i := 16) (v := ?_) rfl (by kernel_rfl) (by kernel_rfl) (by kernel_rfl) (fun _ _ _ h => h) (Or.inl ⟨by simp [Region.wanted, yielded], ?_⟩) (by assumption) ?_
    rotate_left
    · intro w hSw; (try dsimp only at hSw); go_simp; (try with_reducible rfl)
    try simp only [Act.put]
    simp only [List.getElem_toArray, List.getElem_cons_zero, List.getElem_cons_succ, List.setIfInBounds_toArray, List.set_cons_zero, List.set_cons_succ]
    try simp only [decide_true]
    refine wpAnyH_take (i := 17) (v := ?_) rfl (by kernel_rfl) (by kernel_rfl) (by kernel_rfl) (fun _ _ _ h => h) (Or.inl ⟨by rfl, ?_⟩) (by assumption) ?_
    rotate_left
    · intro w hSw; (try dsimp only at hSw); go_simp; (try with_reducible rfl)
    try simp only [Act.put]
    refine wpAnyH_take (i := 18) (v := ?_) rfl (by kernel_rfl) (by kernel_rfl) (by kernel_rfl) (fun _ _ _ h => h) (Or.inl ⟨by rfl, ?_⟩) (by assumption) ?_
    rotate_left
    · intro w hSw; (try dsimp only at hSw); go_simp; (try with_reducible rfl)
    try simp only [Act.put]
    refine wpAnyH_ready (rs := [19]) (by kernel_rfl) (by simp) ?_
    refine AllReadyH.cons rfl (fun K hK => ?_) AllReadyH.nil
    go_simp
    refine (aliveT_any w8).mono ?_
    rintro e w9 ⟨rfl, hb9⟩
    refine hK.out _ _ ⟨cell_keepW hb9 hHeld8.1, cell_keepW hb9 hHeld8.2⟩ (fun hHeld9 => ?_)
    clear hK K hHeld8
    have HB9 : Hid _ := hbw8.trans (hb9.mono hbw8.size)
    clear hb9 hbw8
    try simp only [Act.put, List.setIfInBounds_toArray, List.set_cons_zero, List.set_cons_succ]
    refine wpAnyH_ready (rs := [20]) (by kernel_rfl) (by simp) ?_
    refine AllReadyH.cons rfl (fun K hK => ?_) AllReadyH.nil
    go_simp
    refine hK.out _ _ ?_ (fun hHeld => ?_)
    · (try dsimp only); first | (go_keep; done) | ((repeat' apply And.intro) <;> go_simp)
    clear hK K
    try simp only [List.setIfInBounds_toArray, List.set_cons_zero, List.set_cons_succ]
    refine wpAnyH_ready (rs := [21]) (by kernel_rfl) (by simp) ?_
    refine AllReadyH.cons rfl (fun K hK => ?_) AllReadyH.nil
    go_simp
    refine hK.out _ _ ?_ (fun hHeld => ?_)
    · (try dsimp only); first | (go_keep; done) | ((repeat' apply And.intro) <;> go_simp)
    clear hK K
    try simp only [List.setIfInBounds_toArray, List.set_cons_zero, List.set_cons_succ]
    refine wpAnyH_done (by kernel_rfl) ?_ _
    go_wp2
    go_ret
    exact ⟨rfl, HB9.out⟩
end Go.Proofs.YthdhimcaojfcnaaGreat
