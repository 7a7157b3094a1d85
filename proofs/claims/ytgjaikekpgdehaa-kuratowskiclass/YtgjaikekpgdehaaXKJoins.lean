/-
  kuratowski.joinsEach: each of these pairs is the ends of just one way.
-/
import Derived.Test.YtgjaikekpgdehaaXKIdxH
namespace Go.Proofs.Ytgjaikekpgdehaa
open Go Go.Proofs Go.RowKit

/-- How many ways have these ends. -/
def cntE (ws : List (List Int)) (d : Int × Int) : Int := (ws.countP fun x => decide (endP x = d) : Nat)
def joinB (ws : List (List Int)) (ps : List (Int × Int)) : Bool := !(ps.any fun d => !decide (cntE ws d = 1))
theorem cntE_snoc (ws : List (List Int)) (x : List Int) (d : Int × Int) : cntE (ws ++ [x]) d = cntE ws d + if endP x = d then 1 else 0 := by
  unfold cntE
  rw [List.countP_append, List.countP_cons, List.countP_nil]
  by_cases h : endP x = d <;> simp [h]
theorem cntE_le (ws : List (List Int)) (d : Int × Int) : 0 ≤ cntE ws d ∧ cntE ws d ≤ ws.length := by
  unfold cntE
  have := List.countP_le_length (p := fun x => decide (endP x = d)) (l := ws)
  omega

set_option maxRecDepth 100000 in
theorem joins1_any (m cb : Nat) (L : List ((Int × Int) × Int)) (d : Int × Int) (w : World) (hm : MapP w m L) (hc : w.cell? ⟨cb, 0, none⟩ = some (.map (some m))) :
    Calls Try.prog 63 (#[encP d] ++ #[.pointer (some ⟨cb, 0, none⟩)]) w fun e w' => e = .returned (.bool (!decide ((lkP L d).getD 0 = 1))) ∧ Below w.heap.size w w' := by
  obtain ⟨d0, d1⟩ := d
  have hb : Below w.heap.size w (w.alloc (.cells #[.int .i64 d0, .int .i64 d1] 83)) := ((Grew.refl w).alloc _).below
  have hlk := (hm.keep (hb.block m hm.lt)).lookup (d0, d1)
  have hc' := cell_keepW hb hc
  have HB : Hid _ := hb
  generalize (lkP L (d0, d1)).getD 0 = x at *
  unfold encP at *
  show Calls Try.prog 63 #[.agg #[.int .i64 d0, .int .i64 d1], .pointer (some ⟨cb, 0, none⟩)] w _
  clear hm hc hb
  go_enter Try.func63, Try.ntmps63
  go_wp2
  go_ret
  exact ⟨rfl, HB.out⟩

theorem run_makeHintP (m : Nat) (W : World) : (Instr.makeMap 86 (some (.int .i64 (m : Int)))).run Try.prog W = .ok (.map (some W.heap.size)) (W.alloc (.map #[] 0)) := by
  simp [Instr.makeMap, go_sem]

/-- The map under way: how often each pair came. -/
def JM (h0 : Nat) (ws : List (List Int)) (w wr : World) : Prop := ∃ L, MapP wr h0 L ∧ (∀ d, (lkP L d).getD 0 = cntE ws d) ∧ wr.cell? ⟨h0 + 1, 0, none⟩ = some (.map (some h0)) ∧ Below h0 w wr ∧ h0 + 1 < wr.heap.size

set_option maxRecDepth 100000 in
set_option maxHeartbeats 4000000 in
theorem joinsEach_any (ws : List (List Int)) (hm : ws.length ≤ 4194304) (hw : ∀ x ∈ ws, 1 ≤ x.length ∧ x.length ≤ 4194304) (ps : List (Int × Int)) (hps : ps.length ≤ 4194304) (lv pv : Value) (w : World) (hl : Lsts w.heap.size w lv ws) (hP : Prs w.heap.size w pv ps) :
    Calls Try.prog 43 #[lv, pv] w fun r w' => r = .returned (.bool (joinB ws ps)) ∧ Below w.heap.size w w' := by
  obtain ⟨p, c, rfl⟩ := hl.len
  obtain ⟨pp, cp, rfl⟩ := hP.len
  have HW : Hid (∀ x ∈ ws, 1 ≤ x.length ∧ x.length ≤ 4194304) := hw
  have HP : Hid (Prs w.heap.size w (.slice pp ps.length cp) ps) := hP
  have hmk := run_makeHintP ws.length w
  clear hw hP
  go_enter Try.func43, Try.ntmps43
  go_wp2
  go_loopw [13] (fun i wr => ∃ j : Nat, j ≤ ws.length ∧ i = .int .i64 j ∧ JM w.heap.size (ws.take j) w wr) (fun i _ => ws.length - (intOf i).toNat)
  case atStart =>
    refine ⟨0, Nat.zero_le _, rfl, [], ?_, fun d => rfl, ?_, ?_, ?_⟩
    · exact (MapP.start w).keep (Below.block (((Grew.refl _).alloc _).below) _ (MapP.start w).lt)
    · go_simp
    · exact (((Below.refl _ _).alloc (Nat.le_refl _) _).alloc (by simp) _)
    · simp
  case round =>
    obtain ⟨j, hj, rfl, L, hM, hL, hc, hb, hs⟩ := hrel
    by_cases hlt : j < ws.length
    · have hjl : (j : Int) < (ws.length : Int) := by omega
      obtain ⟨b, off, rfl, hbb, hcap, px, cx, hIx, c0⟩ := hl.cellAt hlt
      replace c0 := (hb.cell (p := ⟨b, off + j, none⟩) hbb).trans c0
      have hx := HW.out ws[j] (List.getElem_mem hlt)
      have hbd : Below w.heap.size w wr.drew := below_drewN hb 1
      have hen := endsOf_any ws[j] hx.1 hx.2 (.slice px ws[j].length cx) w.heap.size wr.drew hbd.size (hIx.below hbd)
      have HE : Hid (∀ d, cntE (ws.take (j + 1)) d = cntE (ws.take j) d + if endP ws[j] = d then 1 else 0) := fun d => by rw [take_snoc hlt, cntE_snoc]
      have hcn := cntE_le (ws.take j) (endP ws[j])
      rw [← hL (endP ws[j]), List.length_take] at hcn
      have hy0 : 0 ≤ (lkP L (endP ws[j])).getD 0 := hcn.1
      have hy1 : (lkP L (endP ws[j])).getD 0 ≤ 4194304 := by omega
      have HL : Hid (∀ d, (lkP L d).getD 0 = cntE (ws.take j) d) := hL
      have HS : Hid (w.heap.size + 1 < wr.heap.size) := hs
      generalize hxx : ws[j] = x at *
      obtain ⟨d0, d1, hd⟩ : ∃ d0 d1, endP x = (d0, d1) := ⟨_, _, rfl⟩
      rw [hd] at hen hy0 hy1 HE
      obtain ⟨y, hy⟩ : ∃ y, (lkP L (d0, d1)).getD 0 = y := ⟨_, rfl⟩
      rw [hy] at hy0 hy1
      have HM : Hid (MapP wr w.heap.size L) := hM
      have HC : Hid _ := hc
      have HY : Hid _ := hy
      unfold encP at hen
      clear hIx hxx hcn hL hs hM hx hd hy
      go_wp2_with fail
      refine wp_region_held_drew (S := (fun w' : World => w'.cell? ⟨w.heap.size + 1, 0, none⟩ = some (.map (some w.heap.size)))) (by kernel_rfl) HC.out (fun hHeld => ?_)
      refine wpAnyH_take (i := 0) (v := ?_) rfl (by kernel_rfl) (by kernel_rfl) (by kernel_rfl) (fun _ _ _ h => h) (Or.inl ⟨by rfl, ?_⟩) (by assumption) ?_
      rotate_left
      · intro w hSw; (try dsimp only at hSw); go_simp; (try with_reducible rfl)
      try simp only [Act.put, List.setIfInBounds_toArray]
      refine wpAnyH_take (i := 1) (v := ?_) rfl (by kernel_rfl) (by kernel_rfl) (by kernel_rfl) (fun _ _ _ h => h) (Or.inl ⟨by rfl, ?_⟩) (by assumption) ?_
      rotate_left
      · intro w hSw; (try dsimp only at hSw); go_simp; (try with_reducible rfl)
      try simp only [Act.put]
      clear hHeld
      refine wpAnyH_ready (rs := [2]) (by kernel_rfl) (by simp) ?_
      refine AllReadyH.cons rfl (fun K hK => ?_) AllReadyH.nil
      go_simp
      refine hen.mono ?_
      clear hen
      rintro e w2 ⟨rfl, hb2⟩
      have hc2 : w2.cell? ⟨w.heap.size + 1, 0, none⟩ = some (.map (some w.heap.size)) := cell_keepW hb2 HC.out
      refine hK.out _ _ hc2 (fun hHeld1 => ?_)
      clear hK K hHeld1
      try simp only [Act.put, List.setIfInBounds_toArray, List.set_cons_zero, List.set_cons_succ]
      have hM2 : MapP w2 w.heap.size L := HM.out.keep (hb2.block w.heap.size HM.out.lt)
      have hlk2 := hM2.lookup (d0, d1)
      obtain ⟨v0, st, w3, he3, hg3, ⟨L1, hM3, hlk3⟩, hst⟩ := hM2.entry (d0, d1)
      have hl3 := hM3.lookup (d0, d1)
      rw [hlk3] at hl3
      rw [HY.out] at hlk2 hl3
      obtain ⟨w4, he4, hM4, hg4⟩ := hst w3 rfl (IntKind.i64.wrap (y + 1))
      have hs2 : w.heap.size + 1 < w2.heap.size := Nat.lt_of_lt_of_le HS.out hb2.size
      have hs3 : w.heap.size + 1 < w3.heap.size := Nat.lt_of_lt_of_le hs2 hg3.size
      have hc3 : w3.cell? ⟨w.heap.size + 1, 0, none⟩ = some (.map (some w.heap.size)) := (hg3.cell_far ⟨w.heap.size + 1, 0, none⟩ hs2 (by simp)).trans hc2
      have hc4 : w4.cell? ⟨w.heap.size + 1, 0, none⟩ = some (.map (some w.heap.size)) := (hg4.cell_far ⟨w.heap.size + 1, 0, none⟩ hs3 (by simp)).trans hc3
      have hwr : IntKind.i64.wrap (y + 1) = y + 1 := wrap_i _ (by omega) (by omega)
      have hbw2 : Below w.heap.size w w2 := hbd.trans (hb2.mono hbd.size)
      have hbw3 : Below w.heap.size w w3 := hbw2.grown hg3 hbw2.size (fun q e => by cases e; exact Nat.le_refl _)
      have HJ : Hid (JM w.heap.size (ws.take (j + 1)) w w4) := ⟨_, hM4, fun d => by
        rw [lkP_put, HE.out]
        by_cases e : d = (d0, d1)
        · rw [if_pos e, if_pos e.symm, ← HL.out, e, HY.out, hwr]; rfl
        · rw [if_neg e, if_neg (Ne.symm e), HL.out, Int.add_zero], hc4, hbw3.grown hg4 hbw3.size (fun q e => by cases e; exact Nat.le_refl _), Nat.lt_of_lt_of_le hs3 hg4.size⟩
      unfold encP at *
      clear hwr hM2 hst hM3 hlk3 hM4 hg3 hg4 hs2 hs3 hbw2 hbw3 hb2 hb hbd hl HW HE HL HS HM HC HY c0 hmk
      refine wpAnyH_ready (rs := [3, 5]) (by kernel_rfl) (by simp) ?_
      refine AllReadyH.cons rfl (fun K hK => ?_) (AllReadyH.cons rfl (fun K hK => ?_) AllReadyH.nil)
      · go_simp
        refine hK.out _ _ hc2 (fun hHeld => ?_)
        clear hK K
        try simp only [Act.put, List.setIfInBounds_toArray, List.set_cons_zero, List.set_cons_succ]
        refine wpAnyH_take (i := 4) (v := ?_) rfl (by kernel_rfl) (by kernel_rfl) (by kernel_rfl) (fun _ _ _ h => h) (Or.inl ⟨by rfl, ?_⟩) (by assumption) ?_
        rotate_left
        · intro w hSw; (try dsimp only at hSw); go_simp; (try with_reducible rfl)
        try simp only [Act.put, List.setIfInBounds_toArray]
        clear hHeld
        refine wpAnyH_ready (rs := [5]) (by kernel_rfl) (by simp) ?_
        refine AllReadyH.cons rfl (fun K hK => ?_) AllReadyH.nil
        go_simp
        refine hK.out _ _ hc3 (fun hHeld => ?_)
        clear hK K
        try simp only [Act.put, List.setIfInBounds_toArray, List.set_cons_zero, List.set_cons_succ]
        refine wpAnyH_take (i := 6) (v := ?_) rfl (by kernel_rfl) (by kernel_rfl) (by kernel_rfl) (fun _ _ _ h => h) (Or.inl ⟨by rfl, ?_⟩) (by assumption) ?_
        rotate_left
        · intro w hSw; (try dsimp only at hSw); go_simp; (try with_reducible rfl)
        try simp only [Act.put, List.setIfInBounds_toArray]
        clear hHeld
        refine wpAnyH_ready (rs := [7]) (by kernel_rfl) (by simp) ?_
        refine AllReadyH.cons rfl (fun K hK => ?_) AllReadyH.nil
        go_simp
        refine hK.out _ _ hc4 (fun hHeld => ?_)
        clear hK K hHeld
        try simp only [Act.put, List.setIfInBounds_toArray, List.set_cons_zero, List.set_cons_succ]
        refine wpAnyH_done (by kernel_rfl) ?_ _
        go_wp2
        exact ⟨⟨j + 1, by omega, by go_num, HJ.out⟩, by simp [intOf]; omega⟩
      · go_simp
        refine hK.out _ _ hc3 (fun hHeld => ?_)
        clear hK K
        try simp only [Act.put, List.setIfInBounds_toArray, List.set_cons_zero, List.set_cons_succ]
        refine wpAnyH_take (i := 6) (v := ?_) rfl (by kernel_rfl) (by kernel_rfl) (by kernel_rfl) (fun _ _ _ h => h) (Or.inl ⟨by rfl, ?_⟩) (by assumption) ?_
        rotate_left
        · intro w hSw; (try dsimp only at hSw); go_simp; (try with_reducible rfl)
        try simp only [Act.put, List.setIfInBounds_toArray]
        clear hHeld
        refine wpAnyH_ready (rs := [3]) (by kernel_rfl) (by simp) ?_
        refine AllReadyH.cons rfl (fun K hK => ?_) AllReadyH.nil
        go_simp
        refine hK.out _ _ hc3 (fun hHeld => ?_)
        clear hK K
        try simp only [Act.put, List.setIfInBounds_toArray, List.set_cons_zero, List.set_cons_succ]
        refine wpAnyH_take (i := 4) (v := ?_) rfl (by kernel_rfl) (by kernel_rfl) (by kernel_rfl) (fun _ _ _ h => h) (Or.inl ⟨by rfl, ?_⟩) (by assumption) ?_
        rotate_left
        · intro w hSw; (try dsimp only at hSw); go_simp; (try with_reducible rfl)
        try simp only [Act.put, List.setIfInBounds_toArray]
        clear hHeld
        refine wpAnyH_ready (rs := [7]) (by kernel_rfl) (by simp) ?_
        refine AllReadyH.cons rfl (fun K hK => ?_) AllReadyH.nil
        go_simp
        refine hK.out _ _ hc4 (fun hHeld => ?_)
        clear hK K hHeld
        try simp only [Act.put, List.setIfInBounds_toArray, List.set_cons_zero, List.set_cons_succ]
        refine wpAnyH_done (by kernel_rfl) ?_ _
        go_wp2
        exact ⟨⟨j + 1, by omega, by go_num, HJ.out⟩, by simp [intOf]; omega⟩
    · obtain rfl : j = ws.length := by omega
      rw [List.take_length] at hL
      have hcq := containsQ_any 63 #[.pointer (some ⟨w.heap.size + 1, 0, none⟩)] (fun d => !decide (cntE ws d = 1)) (fun args W => by kernel_rfl) ps (by omega) (.slice pp ps.length cp) wr ((HP.out.below hb).mono hb.size) (fun d _ W hW => by
        have := joins1_any w.heap.size (w.heap.size + 1) L d W (hM.keep (hW.block _ hM.lt)) (cell_keepW hW hc)
        rw [hL d] at this
        exact this)
      have HB : Hid _ := hb
      have HJ : Hid (joinB ws ps = !(ps.any fun d => !decide (cntE ws d = 1))) := rfl
      generalize (ps.any fun d => !decide (cntE ws d = 1)) = q at *
      clear hM hL hc hb hl
      go_wp2_with fail
      refine hcq.mono ?_
      rintro e w2 ⟨rfl, hb2⟩
      have HB2 : Hid (Below w.heap.size w w2) := HB.out.trans (hb2.mono HB.out.size)
      clear hcq hb2 HB
      go_wp2
      go_ret
      exact ⟨by rw [HJ.out]; rfl, HB2.out⟩
end Go.Proofs.Ytgjaikekpgdehaa
