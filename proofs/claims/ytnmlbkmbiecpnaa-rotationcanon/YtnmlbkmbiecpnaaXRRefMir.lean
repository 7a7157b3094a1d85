/-
  The contract of the reference's Mirror.
-/
import Derived.Test.YtnmlbkmbiecpnaaXRCanon
namespace Go.Proofs.Ytnmlbkmbiecpnaa
open Go Go.Proofs Go.RowKit

theorem drop_rev {X : List Int} {k : Nat} (h : k < X.length) : (X.drop (k + 1)).reverse ++ [X[k]] = (X.drop k).reverse := by
  rw [List.drop_eq_getElem_cons h, List.reverse_cons]

set_option maxRecDepth 100000 in
set_option maxHeartbeats 8000000 in
theorem refMirror_any (r : List (List Int)) (hr1 : r.length ≤ 1048576) (hin : ∀ x ∈ r, x.length ≤ 4194304) (rv : Value) (w : World) (hr : Lsts w.heap.size w rv r) :
    Calls Try.prog 26 #[rv] w fun e w' => ∃ lv svs, e = .returned lv ∧ Grp w.heap.size lv svs (mirL r) w' ∧ Below w.heap.size w w' := by
  obtain ⟨p, c, rfl⟩ := hr.len
  obtain ⟨i0, hi, hz0, hz1, hz2⟩ := info_parts infoSl
  obtain ⟨j0, hj, hy0, hy1, hy2⟩ := info_parts infoI
  have hmix := mixed
  have HL : Hid (Lsts w.heap.size w (.slice p r.length c) r) := hr
  have HIN : Hid (∀ x ∈ r, x.length ≤ 4194304) := hin
  have HMM : Hid (r.map (eachF List.reverse) = mirL r) := mirror_map r
  clear hr hin
  go_enter Try.func26, Try.ntmps26
  go_wp2_with (at_make; refine wpList_make_full _ rfl _ _ 25 rfl w.heap.size 41 i0 (.slice none 0 0) 1 Try.underlying25 hi hz0 hz1 .i64 .i64 _ _ r.length rfl rfl rfl rfl (by rw [hz2]; omega) (by unfold maxLen; omega) (Nat.le_refl _) ?_; intro w2 hown hgrow)
  have hb2 : Below w.heap.size w w2 := (Below.refl _ _).grown hgrow (Nat.le_refl _) (fun k e => by cases e)
  have hG2 := Grp.made hown
  rw [← eachL_zero List.reverse r] at hG2
  clear hown hgrow hi hz0 hz1 hz2
  go_wp2
  go_loopw [4] (fun iv wr => ∃ (v : Nat) (svs : List Value), v ≤ r.length ∧ iv = .int .i64 v ∧ Grp w.heap.size (.slice (some ⟨w.heap.size, 0, none⟩) r.length r.length) svs (eachL List.reverse r v) wr ∧ Below w.heap.size w wr) (fun iv _ => r.length - (intOf iv).toNat)
  case atStart => exact ⟨0, _, Nat.zero_le _, rfl, hG2, hb2⟩
  case round =>
    clear hG2 hb2
    obtain ⟨v, svs, hv, rfl, hG, hb⟩ := hrel
    by_cases hlt : v < r.length
    · have hvl : (v : Int) < (r.length : Int) := by omega
      obtain ⟨bc, oc, rfl, hbc, hcc, px, kx, hIx, c0⟩ := (HL.out.below hb).cellAt hlt
      have hxl := HIN.out _ (List.getElem_mem hlt)
      have HSET : Hid ((eachL List.reverse r v).set v (eachF List.reverse r[v]) = eachL List.reverse r (v + 1)) := eachL_set hlt
      have HE0 : Hid ((eachL List.reverse r v).set v [] = eachL List.reverse r v) := by
        have h1 := eachL_at (F := List.reverse) hlt
        unfold Hid
        apply List.ext_getElem?
        intro k
        rw [List.getElem?_set]
        by_cases e : v = k
        · subst e
          rw [if_pos rfl, if_pos (by rw [eachL_len _ _ hv]; exact hlt), h1]
        · rw [if_neg e]
      have HLN : Hid ((eachL List.reverse r v).length = r.length) := eachL_len _ _ hv
      have HLT : Hid (v < r.length) := hlt
      have hIx' : Ints w.heap.size wr (.slice px r[v].length kx) r[v] := hIx
      generalize r[v] = X at *
      generalize eachL List.reverse r v = E at *
      have HIX : Hid (Ints w.heap.size wr (.slice px X.length kx) X) := hIx'
      have HG : Hid (Grp w.heap.size (.slice (some ⟨w.heap.size, 0, none⟩) r.length r.length) svs (E.set v (X.drop X.length).reverse) wr) := by
        unfold Hid
        rw [List.drop_length, List.reverse_nil, HE0.out]
        exact hG
      have HB : Hid (Below w.heap.size w wr) := hb
      have HC0 : Hid (wr.cell? ⟨bc, oc + v, none⟩ = some (.slice px X.length kx)) := c0
      clear hIx hIx' hG hb hlt HE0
      generalize wr = w3 at *
      go_wp2
      go_loopw [5] (fun iv wr => ∃ (k : Nat) (svs : List Value), k ≤ X.length ∧ iv = .int .i64 ((k : Int) - 1) ∧ Grp w.heap.size (.slice (some ⟨w.heap.size, 0, none⟩) r.length r.length) svs (E.set v (X.drop k).reverse) wr ∧ Below w.heap.size w wr ∧ Below w.heap.size w3 wr) (fun iv _ => (intOf iv + 1).toNat)
      case atStart => exact ⟨X.length, svs, Nat.le_refl _, rfl, HG.out, HB.out, Below.refl _ _⟩
      case round =>
        clear HG HB
        obtain ⟨k, svs, hk, rfl, hG, hb, hb3⟩ := hrel
        match k with
        | 0 =>
          have hneg : ¬ (((0 : Nat) : Int) - 1) ≥ 0 := by omega
          have HGN : Hid (Grp w.heap.size (.slice (some ⟨w.heap.size, 0, none⟩) r.length r.length) svs (eachL List.reverse r (v + 1)) wr) := by
            unfold Hid
            have e : eachF List.reverse X = (X.drop 0).reverse := by
              unfold eachF
              split
              · rename_i h; rw [h]; rfl
              · simp
            rw [← HSET.out, e]
            exact hG
          have HB : Hid (Below w.heap.size w wr) := hb
          clear hG hb hb3 HSET
          go_wp2
          exact ⟨⟨v + 1, svs, HLT.out, by go_num, HGN.out, HB.out⟩, by have := HLT.out; simp [intOf]; omega⟩
        | k + 1 =>
          have hkx : k < X.length := by omega
          have hge : (((k + 1 : Nat) : Int) - 1) ≥ 0 := by omega
          have hidx : (((k + 1 : Nat) : Int) - 1) = (k : Int) := by omega
          obtain ⟨bx, ox, rfl, hbx, hcx, hcl⟩ := (HIX.out.below hb3).open hkx
          have x0 := hcl wr (Below.refl _ _) k hkx
          have c1 := (hb3.cell (p := ⟨bc, oc + v, none⟩) hbc).trans HC0.out
          have HDR : Hid ((X.drop (k + 1)).reverse ++ [X[k]] = (X.drop k).reverse) := drop_rev hkx
          have hxk : (X.drop (k + 1)).reverse.length ≤ 4194304 := by rw [List.length_reverse, List.length_drop]; omega
          have hsl : svs.length = r.length := by have := hG.len; rw [List.length_set, HLN.out] at this; exact this
          have hvr := HLT.out
          have HAT : Hid ((E.set v (X.drop (k + 1)).reverse)[v]? = some (X.drop (k + 1)).reverse) := List.getElem?_set_self (by rw [HLN.out]; exact hvr)
          have HSS : Hid (∀ a b : List Int, (E.set v a).set v b = E.set v b) := fun a b => by rw [List.set_set]
          obtain ⟨su, hsu⟩ : ∃ su, svs[v]? = some su := ⟨_, List.getElem?_eq_getElem (by omega)⟩
          rw [hidx]
          generalize X[k] = y at *
          generalize (X.drop (k + 1)).reverse = xs at *
          have hinn := hG.inn v su xs hsu HAT.out
          obtain ⟨ps, cs, rfl⟩ := owns_formP hinn
          have s0 : wr.cell? ⟨w.heap.size, v, none⟩ = some (.slice ps xs.length cs) := by
            have h1 := hG.own.cells (g := w.heap.size) rfl v _ hsu
            rwa [Go.WideShapes.add_plain, Nat.zero_add] at h1
          have HG : Hid (Grp w.heap.size (.slice (some ⟨w.heap.size, 0, none⟩) r.length r.length) svs (E.set v xs) wr) := hG
          have HB : Hid (Below w.heap.size w wr) := hb
          have HB3 : Hid (Below w.heap.size w3 wr) := hb3
          have HKX : Hid (k < X.length) := hkx
          have hkl : (k : Int) < (X.length : Int) := by omega
          have hk0 : ¬ (k : Int) < 0 := by omega
          have HBC : Hid (bc < w.heap.size ∧ bx < w.heap.size) := ⟨hbc, hbx⟩
          clear hG hb hb3 hinn hcl hge
          go_wp2_with fail
          generalize hgb : w.heap.size = gb at s0
          refine wp_region_last (S := (fun w' : World => w'.cell? ⟨gb, v, none⟩ = some (.slice ps xs.length cs) ∧ w'.cell? ⟨bc, oc + v, none⟩ = some (.slice (some ⟨bx, ox, none⟩) X.length kx) ∧ w'.cell? ⟨bx, ox + k, none⟩ = some (.int .i64 y))) (by kernel_rfl) ?_ (fun hHeld => ?_)
          · (try dsimp only); go_keep
          refine wpAnyL_take (i := 0) (v := ?_) rfl (by kernel_rfl) (by kernel_rfl) (by kernel_rfl) (by kernel_rfl) (fun _ _ _ h => h) (Or.inl ⟨by rfl, ?_⟩) (by assumption) ?_
          rotate_left
          · intro w hSw; (try dsimp only at hSw); go_simp; (try with_reducible rfl)
          try simp only [Act.put, List.setIfInBounds_toArray]
          refine wpAnyL_take (i := 1) (v := ?_) rfl (by kernel_rfl) (by kernel_rfl) (by kernel_rfl) (by kernel_rfl) (fun _ _ _ h => h) (Or.inl ⟨by rfl, ?_⟩) (by assumption) ?_
          rotate_left
          · intro w hSw; (try dsimp only at hSw); go_simp; (try with_reducible rfl)
          try simp only [Act.put]
          refine wpAnyL_take (i := 2) (v := ?_) rfl (by kernel_rfl) (by kernel_rfl) (by kernel_rfl) (by kernel_rfl) (fun _ _ _ h => h) (Or.inl ⟨by rfl, ?_⟩) (by assumption) ?_
          rotate_left
          · intro w hSw; (try dsimp only at hSw); go_simp; (try with_reducible rfl)
          try simp only [Act.put]
          refine wpAnyL_take (i := 3) (v := ?_) rfl (by kernel_rfl) (by kernel_rfl) (by kernel_rfl) (by kernel_rfl) (fun _ _ _ h => h) (Or.inl ⟨by rfl, ?_⟩) (by assumption) ?_
          rotate_left
          · intro w hSw; (try dsimp only at hSw); go_simp; (try with_reducible rfl)
          try simp only [Act.put]
          refine wpAnyL_take (i := 4) (v := ?_) rfl (by kernel_rfl) (by kernel_rfl) (by kernel_rfl) (by kernel_rfl) (fun _ _ _ h => h) (Or.inl ⟨by rfl, ?_⟩) (by assumption) ?_
          rotate_left
          · intro w hSw; (try dsimp only at hSw); go_simp; (try with_reducible rfl)
          try simp only [Act.put]
          try simp only [List.getElem_toArray, List.getElem_cons_zero, List.getElem_cons_succ, List.setIfInBounds_toArray, List.set_cons_zero, List.set_cons_succ]
          refine wpAnyL_take (i := 5) (v := ?_) rfl (by kernel_rfl) (by kernel_rfl) (by kernel_rfl) (by kernel_rfl) (fun _ _ _ h => h) (Or.inl ⟨by rfl, ?_⟩) (by assumption) ?_
          rotate_left
          · intro w hSw; (try dsimp only at hSw); go_simp; (try with_reducible rfl)
          try simp only [Act.put]
          refine wpAnyL_take (i := 6) (v := ?_) rfl (by kernel_rfl) (by kernel_rfl) (by kernel_rfl) (by kernel_rfl) (fun _ _ _ h => h) (Or.inl ⟨by rfl, ?_⟩) (by assumption) ?_
          rotate_left
          · intro w hSw; (try dsimp only at hSw); go_simp; (try with_reducible rfl)
          try simp only [Act.put]
          refine wpAnyL_take (i := 7) (v := ?_) rfl (by kernel_rfl) (by kernel_rfl) (by kernel_rfl) (by kernel_rfl) (fun _ _ _ h => h) (Or.inl ⟨by rfl, ?_⟩) (by assumption) ?_
          rotate_left
          · intro w hSw; (try dsimp only at hSw); go_simp; (try with_reducible rfl)
          try simp only [Act.put]
          refine wpAnyL_take (i := 8) (v := ?_) rfl (by kernel_rfl) (by kernel_rfl) (by kernel_rfl) (by kernel_rfl) (fun _ _ _ h => h) (Or.inl ⟨by rfl, ?_⟩) (by assumption) ?_
          rotate_left
          · intro w hSw; (try dsimp only at hSw); go_simp; (try with_reducible rfl)
          try simp only [Act.put]
          try simp only [List.getElem_toArray, List.getElem_cons_zero, List.getElem_cons_succ, List.setIfInBounds_toArray, List.set_cons_zero, List.set_cons_succ]
          refine wpAnyL_take (i := 9) (v := ?_) rfl (by kernel_rfl) (by kernel_rfl) (by kernel_rfl) (by kernel_rfl) (fun _ _ _ h => h) (Or.inl ⟨by rfl, ?_⟩) (by assumption) ?_
          rotate_left
          · intro w hSw; (try dsimp only at hSw); go_simp; (try with_reducible rfl)
          try simp only [Act.put]
          refine wpAnyL_take (i := 10) (v := ?_) rfl (by kernel_rfl) (by kernel_rfl) (by kernel_rfl) (by kernel_rfl) (fun _ _ _ h => h) (Or.inl ⟨by rfl, ?_⟩) (by assumption) ?_
          rotate_left
          · intro w hSw; (try dsimp only at hSw); go_simp; (try with_reducible rfl)
          try simp only [Act.put]
          refine wpAnyL_take (i := 11) (v := ?_) rfl (by kernel_rfl) (by kernel_rfl) (by kernel_rfl) (by kernel_rfl) (fun _ _ _ h => h) (Or.inl ⟨by rfl, ?_⟩) (by assumption) ?_
          rotate_left
          · intro w hSw; (try dsimp only at hSw); go_simp; (try with_reducible rfl)
          try simp only [Act.put]
          refine wpAnyL_take (i := 12) (v := ?_) rfl (by kernel_rfl) (by kernel_rfl) (by kernel_rfl) (by kernel_rfl) (fun _ _ _ h => h) (Or.inl ⟨by rfl, ?_⟩) (by assumption) ?_
          rotate_left
          · intro w hSw; (try dsimp only at hSw); go_simp; (try with_reducible rfl)
          try simp only [Act.put]
          try simp only [List.getElem_toArray, List.getElem_cons_zero, List.getElem_cons_succ, List.setIfInBounds_toArray, List.set_cons_zero, List.set_cons_succ]
          have hbd : Below wr.heap.size wr wr.drew := below_drewN (Below.refl _ _) 1
          have hG5 := HG.out.go hbd
          have hB5 := HB.out.trans (hbd.mono HB.out.size)
          have hB35 := HB3.out.trans (hbd.mono (Nat.le_trans HB.out.size (Nat.le_refl _)))
          clear hbd s0 x0 c1
          generalize wr.drew = w5 at *
          have hbA : Below w5.heap.size w5 (w5.alloc (.cells #[.int .i64 y] 3)) := (Below.refl _ _).alloc (Nat.le_refl _) _
          have hGA := hG5.go hbA
          have hBA := hB5.trans (hbA.mono hB5.size)
          have hownA := hGA.inn v _ xs hsu HAT.out
          have hnw : Src (w5.alloc (.cells #[.int .i64 y] 3)) (.slice (some ⟨w5.heap.size, 0, none⟩) 1 1) 1 1 [.int .i64 y] := .inr ⟨⟨w5.heap.size, 0, none⟩, 1, rfl, rfl, one_cell w5 (.int .i64 y) 3, fun z hz => by rw [List.mem_singleton.1 hz]; rfl⟩
          have hmx : xs.length + 1 ≤ maxLen := by unfold maxLen; omega
          have hby : (xs.length + 1) * 8 ≤ 140737488355328 := by omega
          have hsA : w.heap.size ≤ (w5.alloc (.cells #[.int .i64 y] 3)).heap.size := hBA.size
          refine wpAnyL_ready (rs := [13]) (by kernel_rfl) (by simp) ?_
          refine AllReadyL.cons rfl (fun K hK => ?_) AllReadyL.nil
          go_simp
          refine hK.out _ _ ⟨cell_keepK hbA hHeld.1, cell_keepK hbA hHeld.2.1, cell_keepK hbA hHeld.2.2⟩ (fun hHeld6 => ?_)
          clear hK K
          try simp only [Act.put, List.setIfInBounds_toArray, List.set_cons_zero, List.set_cons_succ]
          refine wpAnyL_ready (rs := [14]) (by kernel_rfl) (by simp) ?_
          refine AllReadyL.cons rfl (fun K hK => ?_) AllReadyL.nil
          refine step_append_src rfl _ _ 41 rfl w.heap.size 3 j0 (.int .i64 0) 1 8 Try.underlying41 hj hy0 hy1 hy2 rfl (by decide) (.slice ps xs.length cs) xs.length (xs.map (Value.int .i64)) rfl hownA (.slice (some ⟨w5.heap.size, 0, none⟩) 1 1) 1 [.int .i64 y] rfl hnw hmx hby hsA ?_
          intro v8 w7 ho8 hg8 hat8
          obtain ⟨a8, m8, k8, rfl⟩ := owns_slice ho8
          obtain ⟨c7, f7, hP7⟩ := hG5.pushed hsl hsu HAT.out ho8 hg8 hat8
          rw [HSS.out, HDR.out] at hP7
          have hlow : ∀ q, (Value.slice ps xs.length cs).ownBlock = some q → w.heap.size ≤ q := fun q hq => (hownA.lt q hq).1
          have hB7 := hBA.grown hg8 hsA hlow
          have hB37 := (hB35.trans (hbA.mono (by have := hB5.size; omega))).grown hg8 hsA hlow
          have HP7 : Hid (Grp w.heap.size (.slice (some ⟨w.heap.size, 0, none⟩) r.length r.length) (svs.set v (.slice a8 m8 k8)) (E.set v (X.drop k).reverse) (w7.setCell ⟨gb, v, none⟩ (.slice a8 m8 k8))) := by
            unfold Hid
            rw [← hgb]
            exact hP7
          have HB7 : Hid (Below w.heap.size w (w7.setCell ⟨gb, v, none⟩ (.slice a8 m8 k8))) := hB7.setCell (p := ⟨gb, v, none⟩) (by simp only; omega) _
          have HB37 : Hid (Below w.heap.size w3 (w7.setCell ⟨gb, v, none⟩ (.slice a8 m8 k8))) := hB37.setCell (p := ⟨gb, v, none⟩) (by simp only; omega) _
          rw [hgb] at c7 f7
          have hA7 : Below w.heap.size (w5.alloc (.cells #[.int .i64 y] 3)) w7 := (Below.refl _ _).grown hg8 hsA hlow
          refine hK.out _ _ ⟨c7, (hA7.cell (p := ⟨bc, oc + v, none⟩) HBC.out.1).trans hHeld6.2.1, (hA7.cell (p := ⟨bx, ox + k, none⟩) HBC.out.2).trans hHeld6.2.2⟩ (fun hHeld7 => ?_)
          clear hK K
          try simp only [Act.put, List.setIfInBounds_toArray]
          clear ho8 hg8 hat8 hP7 hownA hnw hGA hBA hbA hG5 hB5 hB35 hHeld hHeld6 hB7 hB37 hA7 HG HB HB3
          refine wpAnyL_take (i := 15) (v := ?_) rfl (by kernel_rfl) (by kernel_rfl) (by kernel_rfl) (by kernel_rfl) (fun _ _ _ h => h) (Or.inl ⟨by rfl, ?_⟩) (by assumption) ?_
          rotate_left
          · intro w hSw; (try dsimp only at hSw); go_simp; (try with_reducible rfl)
          try simp only [Act.put]
          refine wpAnyL_ready (rs := [16]) (by kernel_rfl) (by simp) ?_
          refine AllReadyL.last rfl (by kernel_rfl) (fun K hK => ?_)
          go_simp
          refine hK.out _ _ ?_
          clear hK K
          try simp only [Act.put, List.setIfInBounds_toArray, List.set_cons_zero, List.set_cons_succ]
          refine wpAnyL_done (by kernel_rfl) ?_ _
          clear hHeld7 c7 f7
          generalize w7.setCell ⟨gb, v, none⟩ (.slice a8 m8 k8) = w8 at *
          subst hgb
          go_wp2
          exact ⟨⟨k, svs.set v (.slice a8 m8 k8), by have := HKX.out; omega, by go_num, HP7.out, HB7.out, HB37.out⟩, by simp [intOf]⟩
    · have hvn : ¬ (v : Int) < (r.length : Int) := by omega
      have HF : Hid (Grp w.heap.size (.slice (some ⟨w.heap.size, 0, none⟩) r.length r.length) svs (mirL r) wr ∧ Below w.heap.size w wr) := by
        refine ⟨?_, hb⟩
        have e : v = r.length := by omega
        rw [e, eachL_full, HMM.out] at hG
        exact hG
      clear hG hb hlt HMM
      go_wp2
      go_ret
      exact ⟨.slice (some ⟨w.heap.size, 0, none⟩) r.length r.length, rfl, ⟨svs, HF.out.1⟩, HF.out.2⟩
end Go.Proofs.Ytnmlbkmbiecpnaa
