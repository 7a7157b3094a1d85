/-
  The contract of the reference's Canon.
-/
import Derived.Test.YtnmlbkmbiecpnaaXRCanon
namespace Go.Proofs.Ytnmlbkmbiecpnaa
open Go Go.Proofs Go.RowKit

/-- The first place of the least one of the first i. -/
def LeastI (X : List Int) (i a : Nat) : Prop := (i = 0 ∧ a = 0) ∨ (a < i ∧ i ≤ X.length ∧ (∀ j, j < i → X.getD a 0 ≤ X.getD j 0) ∧ ∀ j, j < a → X.getD a 0 < X.getD j 0)
theorem LeastI.lt {X : List Int} {i a : Nat} (h : LeastI X i a) (hi : i < X.length) : a < X.length := by
  rcases h with ⟨_, h⟩ | ⟨h, _⟩ <;> omega
theorem LeastI.keep {X : List Int} {i a : Nat} (h : LeastI X i a) (hi : i < X.length) (hn : ¬ X.getD i 0 < X.getD a 0) : LeastI X (i + 1) a := by
  rcases h with ⟨rfl, rfl⟩ | ⟨h1, h2, h3, h4⟩
  · exact .inr ⟨by omega, by omega, fun j hj => by have : j = 0 := by omega
                                                   subst this; exact Int.le_refl _, fun j hj => by omega⟩
  · refine .inr ⟨by omega, by omega, fun j hj => ?_, h4⟩
    by_cases e : j = i
    · subst e; omega
    · exact h3 j (by omega)
theorem LeastI.turn {X : List Int} {i a : Nat} (h : LeastI X i a) (hi : i < X.length) (hn : X.getD i 0 < X.getD a 0) : LeastI X (i + 1) i := by
  rcases h with ⟨rfl, rfl⟩ | ⟨h1, h2, h3, h4⟩
  · omega
  · refine .inr ⟨by omega, by omega, fun j hj => ?_, fun j hj => ?_⟩
    · by_cases e : j = i
      · subst e; exact Int.le_refl _
      · have := h3 j (by omega); omega
    · have := h3 j (by omega); omega
theorem LeastI.done {X : List Int} {a : Nat} (h : LeastI X X.length a) (hne : X ≠ []) : leastAt X = a := by
  have hp := List.length_pos_iff.2 hne
  rcases h with ⟨h1, _⟩ | ⟨h1, _, h3, h4⟩
  · omega
  · have get : ∀ {i : Nat} (hi : i < X.length), X.getD i 0 = X[i] := fun hi => by rw [List.getD_eq_getElem?_getD, List.getElem?_eq_getElem hi]; rfl
    obtain ⟨hm, hl⟩ := minOf_mem hne
    have e : Lib.minOf X = X[a] := by
      have h5 := hl X[a] (List.getElem_mem h1)
      obtain ⟨j, hj, hje⟩ := List.getElem_of_mem hm
      have h6 := h3 j hj
      rw [get h1, get hj, hje] at h6
      omega
    unfold leastAt
    refine idxOf_is h1 e.symm (fun j hj hje => ?_)
    have h6 := h4 j hj
    rw [get h1, get (by omega), hje, e] at h6
    omega
theorem leastL_at {X : List Int} {a i : Nat} (ha : a < X.length) (hi : i < X.length) : (X.drop a ++ X.take a).getD i 0 = X.getD ((a + i) % X.length) 0 := by
  rw [List.getD_eq_getElem?_getD, List.getD_eq_getElem?_getD]
  by_cases h : i < X.length - a
  · rw [List.getElem?_append_left (by rw [List.length_drop]; exact h), List.getElem?_drop, Nat.mod_eq_of_lt (by omega)]
  · rw [List.getElem?_append_right (by rw [List.length_drop]; omega), List.length_drop, List.getElem?_take_of_lt (by omega)]
    have : (a + i) % X.length = i - (X.length - a) := by
      rw [Nat.mod_eq_sub_mod (by omega), Nat.mod_eq_of_lt (by omega)]
      omega
    rw [this]

set_option maxRecDepth 100000 in
set_option maxHeartbeats 8000000 in
theorem refCanon_any (r : List (List Int)) (hr1 : r.length ≤ 1048576) (hin : ∀ x ∈ r, x.length ≤ 4194304) (rv : Value) (w : World) (hr : Lsts w.heap.size w rv r) :
    Calls Try.prog 27 #[rv] w fun e w' => ∃ lv svs, e = .returned lv ∧ Grp w.heap.size lv svs (canL r) w' ∧ Below w.heap.size w w' := by
  obtain ⟨p, c, rfl⟩ := hr.len
  obtain ⟨i0, hi, hz0, hz1, hz2⟩ := info_parts infoSl
  obtain ⟨j0, hj, hy0, hy1, hy2⟩ := info_parts infoI
  have hmix := mixed
  have HL : Hid (Lsts w.heap.size w (.slice p r.length c) r) := hr
  have HIN : Hid (∀ x ∈ r, x.length ≤ 4194304) := hin
  have HMM : Hid (r.map (eachF leastL) = canL r) := rfl
  clear hr hin
  go_enter Try.func27, Try.ntmps27
  go_wp2_with (at_make; refine wpList_make_full _ rfl _ _ 25 rfl w.heap.size 41 i0 (.slice none 0 0) 1 Try.underlying25 hi hz0 hz1 .i64 .i64 _ _ r.length rfl rfl rfl rfl (by rw [hz2]; omega) (by unfold maxLen; omega) (Nat.le_refl _) ?_; intro w2 hown hgrow)
  have hb2 : Below w.heap.size w w2 := (Below.refl _ _).grown hgrow (Nat.le_refl _) (fun k e => by cases e)
  have hG2 := Grp.made hown
  rw [← eachL_zero leastL r] at hG2
  clear hown hgrow hi hz0 hz1 hz2
  go_wp2
  go_loopw [4] (fun iv wr => ∃ (v : Nat) (svs : List Value), v ≤ r.length ∧ iv = .int .i64 v ∧ Grp w.heap.size (.slice (some ⟨w.heap.size, 0, none⟩) r.length r.length) svs (eachL leastL r v) wr ∧ Below w.heap.size w wr) (fun iv _ => r.length - (intOf iv).toNat)
  case atStart => exact ⟨0, _, Nat.zero_le _, rfl, hG2, hb2⟩
  case round =>
    clear hG2 hb2
    obtain ⟨v, svs, hv, rfl, hG, hb⟩ := hrel
    by_cases hlt : v < r.length
    · have hvl : (v : Int) < (r.length : Int) := by omega
      obtain ⟨bc, oc, rfl, hbc, hcc, px, kx, hIx, c0⟩ := (HL.out.below hb).cellAt hlt
      have hxl := HIN.out _ (List.getElem_mem hlt)
      have HSET : Hid ((eachL leastL r v).set v (eachF leastL r[v]) = eachL leastL r (v + 1)) := eachL_set hlt
      have HE0 : Hid ((eachL leastL r v).set v [] = eachL leastL r v) := by
        have h1 := eachL_at (F := leastL) hlt
        unfold Hid
        apply List.ext_getElem?
        intro k
        rw [List.getElem?_set]
        by_cases e : v = k
        · subst e
          rw [if_pos rfl, if_pos (by rw [eachL_len _ _ hv]; exact hlt), h1]
        · rw [if_neg e]
      have HLN : Hid ((eachL leastL r v).length = r.length) := eachL_len _ _ hv
      have HLT : Hid (v < r.length) := hlt
      have hIx' : Ints w.heap.size wr (.slice px r[v].length kx) r[v] := hIx
      generalize r[v] = X at *
      generalize eachL leastL r v = E at *
      have HIX : Hid (Ints w.heap.size wr (.slice px X.length kx) X) := hIx'
      have HG : Hid (Grp w.heap.size (.slice (some ⟨w.heap.size, 0, none⟩) r.length r.length) svs (E.set v []) wr) := by
        unfold Hid
        rw [HE0.out]
        exact hG
      have HB : Hid (Below w.heap.size w wr) := hb
      have HC0 : Hid (wr.cell? ⟨bc, oc + v, none⟩ = some (.slice px X.length kx)) := c0
      clear hIx hIx' hG hb hlt HE0
      generalize wr = w3 at *
      go_wp2
      go_loopw [5, 6] (fun av iv wr => ∃ (i a : Nat), i ≤ X.length ∧ iv = .int .i64 i ∧ av = .int .i64 a ∧ Hid (LeastI X i a) ∧ a ≤ X.length ∧ Below w3.heap.size w3 wr) (fun _ iv _ => X.length - (intOf iv).toNat)
      case atStart => exact ⟨0, 0, Nat.zero_le _, rfl, rfl, .inl ⟨rfl, rfl⟩, Nat.zero_le _, Below.refl _ _⟩
      case round =>
        obtain ⟨i, a, hiX, rfl, rfl, HLI, haX, hb3⟩ := hrel
        have c1 := cell_keepK hb3 HC0.out
        by_cases hil : i < X.length
        · have hil' : (i : Int) < (X.length : Int) := by omega
          have hal := HLI.out.lt hil
          have hal' : (a : Int) < (X.length : Int) := by omega
          have hIr : Ints w.heap.size wr (.slice px X.length kx) X := HIX.out.below (hb3.mono HB.out.size)
          obtain ⟨bx, ox, rfl, hbx, hcx, hcl⟩ := hIr.open hil
          have x0 := hcl wr (Below.refl _ _) i hil
          have x1 := hcl wr (Below.refl _ _) a hal
          have get : ∀ {i : Nat} (hi : i < X.length), X.getD i 0 = X[i] := fun hi => by rw [List.getD_eq_getElem?_getD, List.getElem?_eq_getElem hi]; rfl
          have HKP : Hid (¬ X[i] < X[a] → LeastI X (i + 1) a) := fun h => HLI.out.keep hil (by rw [get hil, get hal]; exact h)
          have HTN : Hid (X[i] < X[a] → LeastI X (i + 1) i) := fun h => HLI.out.turn hil (by rw [get hil, get hal]; exact h)
          have HB3 : Hid (Below w3.heap.size w3 wr) := hb3
          have HIL : Hid (i < X.length) := hil
          generalize X[i] = xi at *
          generalize X[a] = xa at *
          clear hcl hIr hb3 get HLI hil
          by_cases hcmp : xi < xa
          · have HT : Hid _ := HTN.out hcmp
            clear HKP HTN
            go_wp2
            go_quiet (fail)
            have HB5 : Hid (Below w3.heap.size w3 (wr.drewN nq)) := below_drewN HB3.out nq
            generalize wr.drewN nq = w5 at HB5 ⊢
            go_wp2
            exact ⟨⟨i + 1, i, HIL.out, by go_num, rfl, HT.out, by omega, HB5.out⟩, by have := HIL.out; simp [intOf]; omega⟩
          · have HT : Hid _ := HKP.out hcmp
            clear HKP HTN
            go_wp2
            go_quiet (fail)
            have HB5 : Hid (Below w3.heap.size w3 (wr.drewN nq)) := below_drewN HB3.out nq
            generalize wr.drewN nq = w5 at HB5 ⊢
            go_wp2
            exact ⟨⟨i + 1, a, HIL.out, by go_num, rfl, HT.out, by omega, HB5.out⟩, by have := HIL.out; simp [intOf]; omega⟩
        · have hin2 : ¬ (i : Int) < (X.length : Int) := by omega
          have HLA : Hid (X ≠ [] → leastAt X = a ∧ a < X.length) := fun hne => by
            have e : i = X.length := by omega
            have h1 : LeastI X X.length a := by rw [← e]; exact HLI.out
            have h2 := h1.done hne
            exact ⟨h2, by rw [← h2]; exact leastAt_lt hne⟩
          have HG3 : Hid (Grp w.heap.size (.slice (some ⟨w.heap.size, 0, none⟩) r.length r.length) svs (E.set v ((leastL X).take 0)) wr) := HG.out.go hb3
          have HB3 : Hid (Below w.heap.size w wr) := HB.out.trans (hb3.mono HB.out.size)
          have HIX3 : Hid (Ints w.heap.size wr (.slice px X.length kx) X) := HIX.out.below (hb3.mono HB.out.size)
          have HC3 : Hid (wr.cell? ⟨bc, oc + v, none⟩ = some (.slice px X.length kx)) := c1
          have HLL : Hid ((leastL X).length = X.length) := leastL_len X
          have HEF : Hid (eachF leastL X = leastL X) := by
            unfold Hid eachF
            split
            · rename_i h; rw [h]; rfl
            · rfl
          clear HG HB HIX HC0 hb3 HLI hil
          generalize wr = w4 at *
          go_wp2
          go_loopw [7] (fun iv wr => ∃ (k : Nat) (svs : List Value), k ≤ X.length ∧ iv = .int .i64 k ∧ Grp w.heap.size (.slice (some ⟨w.heap.size, 0, none⟩) r.length r.length) svs (E.set v ((leastL X).take k)) wr ∧ Below w.heap.size w wr ∧ Below w.heap.size w4 wr) (fun iv _ => X.length - (intOf iv).toNat)
          case atStart => exact ⟨0, svs, Nat.zero_le _, rfl, HG3.out, HB3.out, Below.refl _ _⟩
          case round =>
            clear HG3 HB3 c1
            obtain ⟨k, svs, hk, rfl, hG, hb, hb4⟩ := hrel
            have c1 := (hb4.cell (p := ⟨bc, oc + v, none⟩) hbc).trans HC3.out
            by_cases hkx : k < X.length
            · have hne : X ≠ [] := fun e => by rw [e] at hkx; simp at hkx
              obtain ⟨hla, hax⟩ := HLA.out hne
              have hml : (a + k) % X.length < X.length := Nat.mod_lt _ (by omega)
              obtain ⟨bx, ox, rfl, hbx, hcx, hcl⟩ := (HIX3.out.below hb4).open hkx
              have x0 := hcl wr (Below.refl _ _) ((a + k) % X.length) hml
              have HDR : Hid ((leastL X).take k ++ [X[(a + k) % X.length]] = (leastL X).take (k + 1)) := by
                have hkl : k < (leastL X).length := by rw [HLL.out]; exact hkx
                have h1 := leastL_at hax hkx
                have h2 : (leastL X)[k] = X[(a + k) % X.length] := by
                  have e1 : leastL X = X.drop a ++ X.take a := by unfold leastL; rw [hla]
                  have e2 : (leastL X).getD k 0 = (leastL X)[k] := by rw [List.getD_eq_getElem?_getD, List.getElem?_eq_getElem hkl]; rfl
                  rw [← e2, e1, h1, List.getD_eq_getElem?_getD, List.getElem?_eq_getElem hml]
                  rfl
                unfold Hid
                rw [take_snoc hkl, h2]
              have hmod : Int.tmod ((a : Int) + (k : Int)) (X.length : Int) = (((a + k) % X.length : Nat) : Int) := by
                rw [Int.natCast_emod, Int.tmod_eq_emod_of_nonneg (by omega)]
                rfl
              have hxk : ((leastL X).take k).length ≤ 4194304 := by rw [List.length_take, HLL.out]; omega
              have hsl : svs.length = r.length := by have := hG.len; rw [List.length_set, HLN.out] at this; exact this
              have hvr := HLT.out
              have HAT : Hid ((E.set v ((leastL X).take k))[v]? = some ((leastL X).take k)) := List.getElem?_set_self (by rw [HLN.out]; exact hvr)
              have HSS : Hid (∀ a b : List Int, (E.set v a).set v b = E.set v b) := fun a b => by rw [List.set_set]
              obtain ⟨su, hsu⟩ : ∃ su, svs[v]? = some su := ⟨_, List.getElem?_eq_getElem (by omega)⟩
              generalize X[(a + k) % X.length] = y at *
              generalize (a + k) % X.length = q at *
              generalize (leastL X).take k = xs at *
              have hinn := hG.inn v su xs hsu HAT.out
              obtain ⟨ps, cs, rfl⟩ := owns_formP hinn
              have s0 : wr.cell? ⟨w.heap.size, v, none⟩ = some (.slice ps xs.length cs) := by
                have h1 := hG.own.cells (g := w.heap.size) rfl v _ hsu
                rwa [Go.WideShapes.add_plain, Nat.zero_add] at h1
              have HG : Hid (Grp w.heap.size (.slice (some ⟨w.heap.size, 0, none⟩) r.length r.length) svs (E.set v xs) wr) := hG
              have HB : Hid (Below w.heap.size w wr) := hb
              have HB4 : Hid (Below w.heap.size w4 wr) := hb4
              have HKX : Hid (k < X.length) := hkx
              have hkl : (k : Int) < (X.length : Int) := by omega
              have hql : (q : Int) < (X.length : Int) := by omega
              have hX0 : (X.length : Int) ≠ 0 := by omega
              have hwp : IntKind.i64.wrap ((a : Int) + (k : Int)) = (a : Int) + (k : Int) := wrap_i _ (by omega) (by omega)
              have HBC : Hid (bc < w.heap.size ∧ bx < w.heap.size) := ⟨hbc, hbx⟩
              clear hG hb hb4 hinn hcl hla
              go_wp2_with fail
              generalize hgb : w.heap.size = gb at s0
              refine wp_region_last (S := (fun w' : World => w'.cell? ⟨gb, v, none⟩ = some (.slice ps xs.length cs) ∧ w'.cell? ⟨bc, oc + v, none⟩ = some (.slice (some ⟨bx, ox, none⟩) X.length kx) ∧ w'.cell? ⟨bx, ox + q, none⟩ = some (.int .i64 y))) (by kernel_rfl) ?_ (fun hHeld => ?_)
              · (try dsimp only); go_keep
              refine wpAnyL_take (i := 0) (v := ?_) rfl (by kernel_rfl) (by kernel_rfl) (by kernel_rfl) (by kernel_rfl) (fun _ _ _ h => h) (Or.inl ⟨by rfl, ?_⟩) (by assumption) ?_
              rotate_left
              · intro w hSw; (try dsimp only at hSw); go_simp; (try with_reducible rfl)
              try simp only [Act.put, List.setIfInBounds_toArray]
              refine wpAnyL_take (i := 1) (v := ?_) rfl (by kernel_rfl) (by kernel_rfl) (by kernel_rfl) (by kernel_rfl) (fun _ _ _ h => h) (Or.inl ⟨by rfl, ?_⟩) (by assumption) ?_
              rotate_left
              · intro w hSw; (try dsimp only at hSw); go_simp; (try with_reducible rfl)
              try simp only [Act.put]
              refine wpAnyL_take (i := 2) (v := ?_) rfl (by kernel_rfl) (by kernel_rfl) (by kernel_rfl) (by kernel_rfl) (fun _ _ _ h => h) (Or.inl ⟨by rfl, ?_⟩) (by assumption) ?_
              rotate_left
              · intro w hSw; (try dsimp only at hSw); go_simp; (try with_reducible rfl)
              try simp only [Act.put]
              refine wpAnyL_take (i := 3) (v := ?_) rfl (by kernel_rfl) (by kernel_rfl) (by kernel_rfl) (by kernel_rfl) (fun _ _ _ h => h) (Or.inl ⟨by rfl, ?_⟩) (by assumption) ?_
              rotate_left
              · intro w hSw; (try dsimp only at hSw); go_simp; (try with_reducible rfl)
              try simp only [Act.put]
              refine wpAnyL_take (i := 4) (v := ?_) rfl (by kernel_rfl) (by kernel_rfl) (by kernel_rfl) (by kernel_rfl) (fun _ _ _ h => h) (Or.inl ⟨by rfl, ?_⟩) (by assumption) ?_
              rotate_left
              · intro w hSw; (try dsimp only at hSw); go_simp; (try with_reducible rfl)
              try simp only [Act.put]
              try simp only [List.getElem_toArray, List.getElem_cons_zero, List.getElem_cons_succ, List.setIfInBounds_toArray, List.set_cons_zero, List.set_cons_succ]
              refine wpAnyL_take (i := 5) (v := ?_) rfl (by kernel_rfl) (by kernel_rfl) (by kernel_rfl) (by kernel_rfl) (fun _ _ _ h => h) (Or.inl ⟨by rfl, ?_⟩) (by assumption) ?_
              rotate_left
              · intro w hSw; (try dsimp only at hSw); go_simp; (try with_reducible rfl)
              try simp only [Act.put]
              refine wpAnyL_take (i := 6) (v := ?_) rfl (by kernel_rfl) (by kernel_rfl) (by kernel_rfl) (by kernel_rfl) (fun _ _ _ h => h) (Or.inl ⟨by rfl, ?_⟩) (by assumption) ?_
              rotate_left
              · intro w hSw; (try dsimp only at hSw); go_simp; (try with_reducible rfl)
              try simp only [Act.put]
              refine wpAnyL_take (i := 7) (v := ?_) rfl (by kernel_rfl) (by kernel_rfl) (by kernel_rfl) (by kernel_rfl) (fun _ _ _ h => h) (Or.inl ⟨by rfl, ?_⟩) (by assumption) ?_
              rotate_left
              · intro w hSw; (try dsimp only at hSw); go_simp; (try with_reducible rfl)
              try simp only [Act.put]
              refine wpAnyL_take (i := 8) (v := ?_) rfl (by kernel_rfl) (by kernel_rfl) (by kernel_rfl) (by kernel_rfl) (fun _ _ _ h => h) (Or.inl ⟨by rfl, ?_⟩) (by assumption) ?_
              rotate_left
              · intro w hSw; (try dsimp only at hSw); go_simp; (try with_reducible rfl)
              try simp only [Act.put]
              refine wpAnyL_take (i := 9) (v := ?_) rfl (by kernel_rfl) (by kernel_rfl) (by kernel_rfl) (by kernel_rfl) (fun _ _ _ h => h) (Or.inl ⟨by rfl, ?_⟩) (by assumption) ?_
              rotate_left
              · intro w hSw; (try dsimp only at hSw); go_simp; (try with_reducible rfl)
              try simp only [Act.put]
              try simp only [List.getElem_toArray, List.getElem_cons_zero, List.getElem_cons_succ, List.setIfInBounds_toArray, List.set_cons_zero, List.set_cons_succ]
              refine wpAnyL_take (i := 10) (v := ?_) rfl (by kernel_rfl) (by kernel_rfl) (by kernel_rfl) (by kernel_rfl) (fun _ _ _ h => h) (Or.inl ⟨by rfl, ?_⟩) (by assumption) ?_
              rotate_left
              · intro w hSw; (try dsimp only at hSw); go_simp; (try with_reducible rfl)
              try simp only [Act.put]
              refine wpAnyL_take (i := 11) (v := ?_) rfl (by kernel_rfl) (by kernel_rfl) (by kernel_rfl) (by kernel_rfl) (fun _ _ _ h => h) (Or.inl ⟨by rfl, ?_⟩) (by assumption) ?_
              rotate_left
              · intro w hSw; (try dsimp only at hSw); go_simp; (try with_reducible rfl)
              try simp only [Act.put]
              refine wpAnyL_take (i := 12) (v := ?_) rfl (by kernel_rfl) (by kernel_rfl) (by kernel_rfl) (by kernel_rfl) (fun _ _ _ h => h) (Or.inl ⟨by rfl, ?_⟩) (by assumption) ?_
              rotate_left
              · intro w hSw; (try dsimp only at hSw); go_simp; (try with_reducible rfl)
              try simp only [Act.put]
              refine wpAnyL_take (i := 13) (v := ?_) rfl (by kernel_rfl) (by kernel_rfl) (by kernel_rfl) (by kernel_rfl) (fun _ _ _ h => h) (Or.inl ⟨by rfl, ?_⟩) (by assumption) ?_
              rotate_left
              · intro w hSw; (try dsimp only at hSw); go_simp; (try with_reducible rfl)
              try simp only [Act.put]
              refine wpAnyL_take (i := 14) (v := ?_) rfl (by kernel_rfl) (by kernel_rfl) (by kernel_rfl) (by kernel_rfl) (fun _ _ _ h => h) (Or.inl ⟨by rfl, ?_⟩) (by assumption) ?_
              rotate_left
              · intro w hSw; (try dsimp only at hSw); go_simp; (try with_reducible rfl)
              try simp only [Act.put]
              try simp only [List.getElem_toArray, List.getElem_cons_zero, List.getElem_cons_succ, List.setIfInBounds_toArray, List.set_cons_zero, List.set_cons_succ]
              refine wpAnyL_take (i := 15) (v := ?_) rfl (by kernel_rfl) (by kernel_rfl) (by kernel_rfl) (by kernel_rfl) (fun _ _ _ h => h) (Or.inl ⟨by rfl, ?_⟩) (by assumption) ?_
              rotate_left
              · intro w hSw; (try dsimp only at hSw); go_simp; (try with_reducible rfl)
              try simp only [Act.put]
              refine wpAnyL_take (i := 16) (v := ?_) rfl (by kernel_rfl) (by kernel_rfl) (by kernel_rfl) (by kernel_rfl) (fun _ _ _ h => h) (Or.inl ⟨by rfl, ?_⟩) (by assumption) ?_
              rotate_left
              · intro w hSw; (try dsimp only at hSw); go_simp; (try with_reducible rfl)
              try simp only [Act.put]
              refine wpAnyL_take (i := 17) (v := ?_) rfl (by kernel_rfl) (by kernel_rfl) (by kernel_rfl) (by kernel_rfl) (fun _ _ _ h => h) (Or.inl ⟨by rfl, ?_⟩) (by assumption) ?_
              rotate_left
              · intro w hSw; (try dsimp only at hSw); go_simp; (try with_reducible rfl)
              try simp only [Act.put]
              try simp only [List.getElem_toArray, List.getElem_cons_zero, List.getElem_cons_succ, List.setIfInBounds_toArray, List.set_cons_zero, List.set_cons_succ]
              refine wpAnyL_take (i := 18) (v := .int .i64 (q : Int)) rfl (by kernel_rfl) (by kernel_rfl) (by kernel_rfl) (by kernel_rfl) (fun _ _ _ h => h) (Or.inl ⟨by rfl, ?_⟩) (by assumption) ?_
              · intro w hSw; go_simp
              try simp only [Act.put]
              refine wpAnyL_take (i := 19) (v := ?_) rfl (by kernel_rfl) (by kernel_rfl) (by kernel_rfl) (by kernel_rfl) (fun _ _ _ h => h) (Or.inl ⟨by rfl, ?_⟩) (by assumption) ?_
              rotate_left
              · intro w hSw; (try dsimp only at hSw); go_simp; (try with_reducible rfl)
              try simp only [Act.put]
              refine wpAnyL_take (i := 20) (v := ?_) rfl (by kernel_rfl) (by kernel_rfl) (by kernel_rfl) (by kernel_rfl) (fun _ _ _ h => h) (Or.inl ⟨by rfl, ?_⟩) (by assumption) ?_
              rotate_left
              · intro w hSw; (try dsimp only at hSw); go_simp; (try with_reducible rfl)
              try simp only [Act.put]
              try simp only [List.getElem_toArray, List.getElem_cons_zero, List.getElem_cons_succ, List.setIfInBounds_toArray, List.set_cons_zero, List.set_cons_succ]
              have hbd : Below wr.heap.size wr wr.drew := below_drewN (Below.refl _ _) 1
              have hG5 := HG.out.go hbd
              have hB5 := HB.out.trans (hbd.mono HB.out.size)
              have hB45 := HB4.out.trans (hbd.mono (Nat.le_trans HB.out.size (Nat.le_refl _)))
              clear hbd s0 x0 c1
              generalize wr.drew = w5 at *
              have hbA : Below w5.heap.size w5 (w5.alloc (.cells #[.int .i64 y] 3)) := (Below.refl _ _).alloc (Nat.le_refl _) _
              have hGA := hG5.go hbA
              have hBA := hB5.trans (hbA.mono hB5.size)
              have hownA := hGA.inn v _ xs hsu HAT.out
              have hnw : Src (w5.alloc (.cells #[.int .i64 y] 3)) (.slice (some ⟨w5.heap.size, 0, none⟩) 1 1) 1 1 [.int .i64 y] := .inr ⟨⟨w5.heap.size, 0, none⟩, 1, rfl, rfl, one_cell w5 (.int .i64 y) 3, fun z hz => by rw [List.mem_singleton.1 hz]; rfl⟩
              have hmx : xs.length + 1 ≤ maxLen := by unfold maxLen; omega
              have hby : (xs.length + 1) * 8 ≤ 140737488355328 := by omega
              have hsA : w.heap.size ≤ (w5.alloc (.cells #[.int .i64 y] 3)).heap.size := hBA.size
              refine wpAnyL_ready (rs := [21]) (by kernel_rfl) (by simp) ?_
              refine AllReadyL.cons rfl (fun K hK => ?_) AllReadyL.nil
              go_simp
              refine hK.out _ _ ⟨cell_keepK hbA hHeld.1, cell_keepK hbA hHeld.2.1, cell_keepK hbA hHeld.2.2⟩ (fun hHeld6 => ?_)
              clear hK K
              try simp only [Act.put, List.setIfInBounds_toArray, List.set_cons_zero, List.set_cons_succ]
              refine wpAnyL_ready (rs := [22]) (by kernel_rfl) (by simp) ?_
              refine AllReadyL.cons rfl (fun K hK => ?_) AllReadyL.nil
              refine step_append_src rfl _ _ 41 rfl w.heap.size 3 j0 (.int .i64 0) 1 8 Try.underlying41 hj hy0 hy1 hy2 rfl (by decide) (.slice ps xs.length cs) xs.length (xs.map (Value.int .i64)) rfl hownA (.slice (some ⟨w5.heap.size, 0, none⟩) 1 1) 1 [.int .i64 y] rfl hnw hmx hby hsA ?_
              intro v8 w7 ho8 hg8 hat8
              obtain ⟨a8, m8, k8, rfl⟩ := owns_slice ho8
              obtain ⟨c7, f7, hP7⟩ := hG5.pushed hsl hsu HAT.out ho8 hg8 hat8
              rw [HSS.out, HDR.out] at hP7
              have hlow : ∀ q, (Value.slice ps xs.length cs).ownBlock = some q → w.heap.size ≤ q := fun q hq => (hownA.lt q hq).1
              have hB7 := hBA.grown hg8 hsA hlow
              have hB47 := (hB45.trans (hbA.mono (by have := hB5.size; omega))).grown hg8 hsA hlow
              have HP7 : Hid (Grp w.heap.size (.slice (some ⟨w.heap.size, 0, none⟩) r.length r.length) (svs.set v (.slice a8 m8 k8)) (E.set v ((leastL X).take (k + 1))) (w7.setCell ⟨gb, v, none⟩ (.slice a8 m8 k8))) := by
                unfold Hid
                rw [← hgb]
                exact hP7
              have HB7 : Hid (Below w.heap.size w (w7.setCell ⟨gb, v, none⟩ (.slice a8 m8 k8))) := hB7.setCell (p := ⟨gb, v, none⟩) (by simp only; omega) _
              have HB47 : Hid (Below w.heap.size w4 (w7.setCell ⟨gb, v, none⟩ (.slice a8 m8 k8))) := hB47.setCell (p := ⟨gb, v, none⟩) (by simp only; omega) _
              rw [hgb] at c7 f7
              have hA7 : Below w.heap.size (w5.alloc (.cells #[.int .i64 y] 3)) w7 := (Below.refl _ _).grown hg8 hsA hlow
              refine hK.out _ _ ⟨c7, (hA7.cell (p := ⟨bc, oc + v, none⟩) HBC.out.1).trans hHeld6.2.1, (hA7.cell (p := ⟨bx, ox + q, none⟩) HBC.out.2).trans hHeld6.2.2⟩ (fun hHeld7 => ?_)
              clear hK K
              try simp only [Act.put, List.setIfInBounds_toArray]
              clear ho8 hg8 hat8 hP7 hownA hnw hGA hBA hbA hG5 hB5 hB45 hHeld hHeld6 hB7 hB47 hA7 HG HB HB4
              refine wpAnyL_take (i := 23) (v := ?_) rfl (by kernel_rfl) (by kernel_rfl) (by kernel_rfl) (by kernel_rfl) (fun _ _ _ h => h) (Or.inl ⟨by rfl, ?_⟩) (by assumption) ?_
              rotate_left
              · intro w hSw; (try dsimp only at hSw); go_simp; (try with_reducible rfl)
              try simp only [Act.put]
              refine wpAnyL_ready (rs := [24]) (by kernel_rfl) (by simp) ?_
              refine AllReadyL.last rfl (by kernel_rfl) (fun K hK => ?_)
              go_simp
              refine hK.out _ _ ?_
              clear hK K
              try simp only [Act.put, List.setIfInBounds_toArray, List.set_cons_zero, List.set_cons_succ]
              refine wpAnyL_done (by kernel_rfl) ?_ _
              clear hHeld7 c7 f7
              generalize w7.setCell ⟨gb, v, none⟩ (.slice a8 m8 k8) = w8 at *
              subst hgb
              go_wp2
              exact ⟨⟨k + 1, svs.set v (.slice a8 m8 k8), HKX.out, by go_num, HP7.out, HB7.out, HB47.out⟩, by have := HKX.out; simp [intOf]; omega⟩
            · have hkn : ¬ (k : Int) < (X.length : Int) := by omega
              have HGN : Hid (Grp w.heap.size (.slice (some ⟨w.heap.size, 0, none⟩) r.length r.length) svs (eachL leastL r (v + 1)) wr) := by
                unfold Hid
                rw [← HSET.out, HEF.out]
                rw [List.take_of_length_le (by rw [HLL.out]; omega)] at hG
                exact hG
              have HB : Hid (Below w.heap.size w wr) := hb
              clear hG hb hb4 HSET hkx
              go_wp2
              exact ⟨⟨v + 1, svs, HLT.out, by go_num, HGN.out, HB.out⟩, by have := HLT.out; simp [intOf]; omega⟩
    · have hvn : ¬ (v : Int) < (r.length : Int) := by omega
      have HF : Hid (Grp w.heap.size (.slice (some ⟨w.heap.size, 0, none⟩) r.length r.length) svs (canL r) wr ∧ Below w.heap.size w wr) := by
        refine ⟨?_, hb⟩
        have e : v = r.length := by omega
        rw [e, eachL_full, HMM.out] at hG
        exact hG
      clear hG hb hlt HMM
      go_wp2
      go_ret
      exact ⟨.slice (some ⟨w.heap.size, 0, none⟩) r.length r.length, rfl, ⟨svs, HF.out.1⟩, HF.out.2⟩
end Go.Proofs.Ytnmlbkmbiecpnaa
