/-
  The reference's Ways.
-/
import Derived.Test.YtgjaikekpgdehaaXKRefWM
import Derived.Test.YtgjaikekpgdehaaXKRefSub
import Derived.Test.YtgjaikekpgdehaaXKRefNear
import Derived.Test.YtgjaikekpgdehaaXGHeldL
namespace Go.Proofs.Ytgjaikekpgdehaa
open Go Go.Proofs Go.RowKit

def OF (lv : Value) (n : Nat) : Prop := (lv = .slice none 0 0 ∧ n = 0) ∨ ∃ g c, lv = .slice (some ⟨g, 0, none⟩) n c ∧ n ≤ c
theorem OF.of_owns {W : World} {base : Nat} {v : Value} {n : Nat} {xs : List Value} (h : W.ownsRow base 25 1 v n xs) : OF v n := by
  rcases h.2 with ⟨h1, h2⟩ | ⟨g, cap, cur, h1, _, _, h2, _⟩
  · subst h2; exact .inl ⟨h1, rfl⟩
  · exact .inr ⟨g, cap, h1, h2⟩
/-- All of a list of lists, and nothing of it. -/
theorem OF.cut {lv : Value} {n : Nat} (h : OF lv n) (hn : n ≤ 4194304) : (∀ W : World, (Instr.sliceAt 28 lv none (some (.int .i64 (n : Int))) none).run Try.prog W = .ok lv W) ∧ ∃ q c, ∀ W : World, (Instr.sliceAt 28 lv (some (.int .i64 (n : Int))) none none).run Try.prog W = .ok (.slice q 0 c) W := by
  have ht := Try.underlying28
  have z3 := Try.sizeOf25
  rcases h with ⟨rfl, rfl⟩ | ⟨g, c, rfl, hc⟩
  · refine ⟨fun W => by go_simp, none, 0, fun W => by go_simp⟩
  · have h1 : (n : Int) ≤ (c : Int) := by omega
    refine ⟨fun W => by go_simp, ?_⟩
    by_cases e : c = n
    · subst e
      exact ⟨some ⟨g, 0, none⟩, 0, fun W => by go_simp⟩
    · exact ⟨some ⟨g, 0 + n, none⟩, c - n, fun W => by go_simp⟩

theorem own0V (W : World) : (W.alloc (.cells #[] 25)).ownsRow W.heap.size 25 1 (.slice (some ⟨W.heap.size, 0, none⟩) 0 0) 0 [] := ⟨rfl, .inr ⟨W.heap.size, 0, #[], rfl, Nat.le_refl _, heap_alloc_new W _, Nat.le_refl _, Nat.zero_le _, rfl, rfl⟩⟩
theorem own1V (W : World) (o : Obj) : ((W.alloc o).alloc (.cells #[] 25)).ownsRow W.heap.size 25 1 (.slice (some ⟨W.heap.size + 1, 0, none⟩) 0 0) 0 [] := by
  have h := heap_alloc_new (W.alloc o) (.cells #[] 25)
  rw [World.size_alloc] at h
  exact ⟨rfl, .inr ⟨W.heap.size + 1, 0, #[], rfl, by omega, h, Nat.le_refl _, Nat.zero_le _, rfl, rfl⟩⟩
theorem one_srcV (W : World) (p : Option Addr) (n c : Nat) : Src (W.alloc (.cells #[.slice p n c] 25)) (.slice (some ⟨W.heap.size, 0, none⟩) 1 1) 1 1 [.slice p n c] := .inr ⟨⟨W.heap.size, 0, none⟩, 1, rfl, rfl, one_cellK W (.slice p n c) 25, fun z hz => by rw [List.mem_singleton.1 hz]; rfl⟩
theorem nil_srcV (W : World) (p : Option Addr) (c : Nat) : Src W (.slice p 0 c) 0 1 [] := by
  cases p with
  | none => exact .inl ⟨⟨c, rfl⟩, rfl, rfl⟩
  | some ad => exact .inr ⟨ad, c, rfl, rfl, fun j u hu => by simp at hu, fun u hu => by simp at hu⟩
theorem src_below {A B : World} {xv : Value} {m size : Nat} {news : List Value} (h : Src A xv m size news) (hb : Below A.heap.size A B) : Src B xv m size news := by
  rcases h with h | ⟨ad, c, e, h1, h2, h3⟩
  · exact .inl h
  · exact .inr ⟨ad, c, e, h1, fun j u hu => cell_keep hb (h2 j u hu), h3⟩
section
variable {ops : Array Oper} {o : Oper} {a : Act} {w : World} {K : Act → World → Prop} {Q : Exit → Act → World → Prop} {E : Prop}
/-- append of lists upon a row that the call owns, as one step of a region that draws its order. -/
theorem step_appV (hgd : o.guard = none) (s x : Operand) (ho : o.op = .call { callee := .builtin .append, args := #[s, x], argTypes := #[28, 28] })
    (w7 : World) (hS : Below w7.heap.size w7 w) (n m k : Nat) (xs ys zs : List Value) (v : Value) (hs : a.eval s = v) (hown : w.ownsRow w7.heap.size 25 1 v n xs)
    (yv : Value) (hx : a.eval x = yv) (hy : Src w yv m 1 ys) (hk : n + m = k) (hz : xs ++ ys = zs) (hlen : k ≤ 1000000)
    (h : ∀ p c w', w'.ownsRow w7.heap.size 25 1 (.slice p k c) k zs → Below w7.heap.size w7 w' → w.grownBy w' v.ownBlock → K (a.put o.dst (.slice p k c)) w') :
    if Region.wanted o (yielded ops a.tmps) = true then Oper.wp Try.prog o a w K Q else E := by
  subst hz
  subst hk
  obtain ⟨i0, hi, hz0, hz1, hz2⟩ := info_parts infoSl
  refine step_append_src hgd s x 28 ho w7.heap.size 25 i0 (.slice none 0 0) 1 24 Try.underlying28 hi hz0 hz1 hz2 (by simp [Value.cells]) (by decide) v n xs hs hown yv m ys hx hy (by unfold maxLen; omega) (by omega) hS.size ?_
  intro v' w' h1 h2 h3
  obtain ⟨p, c, rfl⟩ := owns_form h1
  exact h p c w' h1 (hS.grown h2 hS.size (fun k e => (hown.lt k e).1)) h2
end

set_option maxRecDepth 100000 in
set_option maxHeartbeats 4000000 in
theorem refWays_bad (n : Int) (l : List Ed) (a : List Int) (ha : a.length ≤ 4194304) (hw : wgtK n l a ≠ 0) (sv sa : Value) (w : World) (hl : Edges w.heap.size w sv l) (hA : Ints w.heap.size w sa a) :
    Calls Try.prog 10 #[.agg #[.int .i64 n, sv], sa] w fun r w' => r = .returned (.tuple #[.slice none 0 0, .int .i64 1]) ∧ Below w.heap.size w w' := by
  have hg1 : Grew w (w.alloc (.cells #[.int .i64 n, sv] 24)) := (Grew.refl w).alloc _
  have hsb := refSub_bad n l a ha hw sv sa _ (hl.go hg1.below) (hA.go hg1.below)
  obtain ⟨p, c, rfl⟩ := hl.len
  obtain ⟨pa, ca, rfl⟩ := hA.len
  clear hl hA hw
  go_enter Try.func10, Try.ntmps10
  go_wp2_with fail
  refine hsb.mono ?_
  rintro e w2 ⟨rfl, hb2⟩
  have HB : Hid (Below w.heap.size w (w2.alloc (.cells #[.int .i64 0, .slice none 0 0] 24))) := (hg1.below.trans (hb2.mono hg1.below.size)).alloc (by have := hg1.below.size; have := hb2.size; omega) _
  clear hsb hg1 hb2
  go_wp2
  go_ret2
  exact ⟨rfl, HB.out⟩

set_option maxRecDepth 100000 in
set_option maxHeartbeats 8000000 in
theorem refWays_any (n : Int) (hn30 : n ≤ 30) (l : List Ed) (a : List Int) (ha : a.length ≤ 4194304) (hw : wgtK n l a = 0) (sv sa : Value) (w : World) (hl : Edges w.heap.size w sv l) (hA : Ints w.heap.size w sa a) :
    Calls Try.prog 10 #[.agg #[.int .i64 n, sv], sa] w fun r w' => ∃ lv, r = .returned (.tuple #[lv, .int .i64 (wyK n l a)]) ∧ Lsts w'.heap.size w' lv (wyL n l a) ∧ Below w.heap.size w w' := by
  obtain ⟨hR, -⟩ := wgtK_zero hw
  obtain ⟨N, rfl⟩ : ∃ N : Nat, n = (N : Int) := ⟨n.toNat, by have := hR.n0; omega⟩
  have hRS : RightG (N : Int) (subL l a) := by have := sub_right (a := a) hR; simpa using this
  have HK : Hid (wyK (N : Int) l a = wsK N (subL l a)) := by unfold Hid wyK; rw [if_pos hw]; simp
  have HLL : Hid (wyL (N : Int) l a = wsL N (subL l a)) := by unfold Hid wyL; rw [if_pos hw]; simp
  have hN : N ≤ 30 := by omega
  have hg1 : Grew w (w.alloc (.cells #[.int .i64 (N : Int), sv] 24)) := (Grew.refl w).alloc _
  have hsb := refSub_any (N : Int) l a ha hw sv sa _ (hl.go hg1.below) (hA.go hg1.below)
  obtain ⟨p, c, rfl⟩ := hl.len
  obtain ⟨pa, ca, rfl⟩ := hA.len
  clear hl hA hw hR hn30
  generalize subL l a = S at *
  go_enter Try.func10, Try.ntmps10
  go_wp2_with fail
  refine hsb.mono ?_
  rintro e w2 ⟨gv, rfl, hE, hb2⟩
  have hbA : Below w2.heap.size w2 (w2.alloc (.cells #[.int .i64 (N : Int), gv] 24)) := ((Grew.refl w2).alloc _).below
  have hB2 := hg1.below.trans (hb2.mono hg1.below.size)
  have hB3 := hB2.trans (hbA.mono hB2.size)
  have hE3 := hE.go hbA
  have g0 := (box2 _ (Grew.refl (w2.alloc (.cells #[.int .i64 (N : Int), gv] 24)))).1
  have g1 := (box2 _ (Grew.refl (w2.alloc (.cells #[.int .i64 (N : Int), gv] 24)))).2
  obtain ⟨pg, cg, rfl⟩ := hE.len
  have hnr := refNear_any N S hRS _ _ hE3
  clear hsb hb2 hB2 hbA hE hg1 hE3
  go_wp2_with fail
  refine hnr.mono ?_
  generalize w2.alloc (.cells #[.int .i64 (N : Int), .slice pg S.length cg] 24) = w3 at *
  generalize w2.heap.size = gb at *
  rintro e w4 ⟨nv, rfl, hNL, hb4⟩
  have hB4 := hB3.trans (hb4.mono hB3.size)
  replace g0 := cell_keep hb4 g0
  replace g1 := cell_keep hb4 g1
  obtain ⟨pn, cn, rfl⟩ := hNL.len
  rw [nearL_len]
  have HNL : Hid (Lsts w4.heap.size w4 (.slice pn (nearL N S).length cn) (nearL N S)) := hNL
  have HB4 : Hid _ := hB4
  clear hnr hb4 hB3 hNL hB4
  have rowAt : Hid (∀ W, Below w4.heap.size w4 W → ∀ v, v < N → ∃ b off px cx, pn = some ⟨b, off, none⟩ ∧ N ≤ cn ∧ W.cell? ⟨b, off + v, none⟩ = some (.slice px (nb S (v : Int)).length cx) ∧ Ints W.heap.size W (.slice px (nb S (v : Int)).length cx) (nb S (v : Int))) := fun W hW v hv => by
    obtain ⟨b, off, e1, hb1, hc1, px, cx, h1, h2⟩ := (Lsts.go HNL.out hW).cellAt (j := v) (by rw [nearL_len]; exact hv)
    have ex : (nearL N S)[v]'(by rw [nearL_len]; exact hv) = nb S (v : Int) := by simp [nearL]
    rw [ex] at h1 h2
    exact ⟨b, off, px, cx, e1, by rw [nearL_len] at hc1; exact hc1, h2, h1⟩
  go_wp2
  go_loop [9] (fun i => ∃ j : Nat, j ≤ N ∧ i = .int .i64 j ∧ Hid (((nearL N S).take j).any oneB = false)) (fun i => N - (intOf i).toNat)
  case atStart => exact ⟨0, Nat.zero_le _, rfl, by unfold Hid; simp⟩
  case round =>
    obtain ⟨j, hj, rfl, hr⟩ := hrel
    by_cases hlt : j < N
    · obtain ⟨b, off, px, cx, rfl, hcn, r0, -⟩ := rowAt.out w4 (Below.refl _ _) j hlt
      have hjl : (j : Int) < (N : Int) := by omega
      have HEL : Hid ((nearL N S)[j]? = some (nb S (j : Int))) := nearL_at hlt
      by_cases h1 : (nb S (j : Int)).length = 1
      · have h1' : (((nb S (j : Int)).length : Int) == 1) = true := by rw [h1]; rfl
        have HW : Hid (wsK N S = 13) := by
          unfold Hid wsK
          rw [if_pos]
          exact List.any_eq_true.2 ⟨nb S (j : Int), List.mem_of_getElem? HEL.out, by unfold oneB; exact h1'⟩
        have HW2 : Hid (wsL N S = []) := by unfold Hid wsL; rw [HW.out]; rfl
        rw [h1] at r0
        clear h1 h1' hr HEL
        go_wp2
        go_ret2
        exact ⟨.slice none 0 0, by rw [HK.out, HW.out]; rfl, by rw [HLL.out, HW2.out]; exact .inl ⟨⟨_, _, rfl⟩, rfl⟩, HB4.out⟩
      · have h1' : (((nb S (j : Int)).length : Int) == 1) = false := by simp; omega
        have h1n : ((nb S (j : Int)).length == 1) = false := by simpa using h1
        have HT : Hid (((nearL N S).take (j + 1)).any oneB = false) := by
          unfold Hid
          rw [List.take_add_one, HEL.out, List.any_append, hr.out]
          simp [oneB]
          omega
        clear h1 hr HEL
        generalize (nb S (j : Int)).length = m at *
        go_wp2
        exact ⟨⟨j + 1, by omega, by go_num, HT⟩, by simp [intOf]; omega⟩
    · obtain rfl : j = N := by omega
      have hno : NoOne S := (nearL_noone hRS).1 (by have := hr.out; rwa [List.take_of_length_le (by rw [nearL_len]; exact Nat.le_refl _)] at this)
      have HNO : Hid _ := hno
      clear hr hno
      have hjl : ¬ (j : Int) < (j : Int) := by omega
      go_wp2
      go_loopw [10, 11, 12] (fun lv ev i wr => ∃ v : Nat, v ≤ j ∧ i = .int .i64 v ∧ ev = .int .i64 (onL (waysTo S j v)) ∧ Hid (OF lv (waysTo S j v).length) ∧ Hid (Lsts wr.heap.size wr lv (waysTo S j v)) ∧ Below w4.heap.size w4 wr) (fun _ _ i _ => j - (intOf i).toNat)
      case atStart => exact ⟨0, Nat.zero_le _, rfl, rfl, .inl ⟨rfl, rfl⟩, .inl ⟨⟨_, _, rfl⟩, rfl⟩, Below.refl _ _⟩
      case round =>
        obtain ⟨v, hv, rfl, rfl, HOF, HLs, hb⟩ := hrel
        have g0 := cell_keep hb g0
        have g1 := cell_keep hb g1
        have HBW : Hid (Below w.heap.size w wr) := HB4.out.trans (hb.mono HB4.out.size)
        by_cases hlt : v < j
        · have hvl : (v : Int) < (j : Int) := by omega
          obtain ⟨b, off, px, cx, rfl, hcn, r0, hI⟩ := rowAt.out wr hb v hlt
          by_cases h3 : (nb S (v : Int)).length < 3
          · have h3' : decide (((nb S (v : Int)).length : Int) < 3) = true := by simp; omega
            have h3n : decide ((nb S (v : Int)).length < 3) = true := by simp; omega
            have HSK : Hid _ := waysTo_skip (N := j) h3
            clear h3 hI
            generalize (nb S (v : Int)).length = m at *
            go_wp2
            exact ⟨⟨v + 1, by omega, by go_num, by rw [HSK.out], by rw [HSK.out]; exact HOF, by rw [HSK.out]; exact HLs, hb⟩, by simp [intOf]; omega⟩
          · have h3' : decide (((nb S (v : Int)).length : Int) < 3) = false := by simp; omega
            have h3n : decide ((nb S (v : Int)).length < 3) = false := by simp; omega
            have H3 : Hid (3 ≤ (nb S (v : Int)).length) := by unfold Hid; omega
            have HV : Hid (v < j) := hlt
            have HFL : Hid _ := preW_full (N := j) H3.out
            have hmN := nb_lenW hRS (v : Int)
            obtain ⟨m, hm⟩ : ∃ m, (nb S (v : Int)).length = m := ⟨_, rfl⟩
            have HM : Hid ((nb S (v : Int)).length = m) := hm
            rw [hm] at r0 h3' h3n HFL hmN
            clear h3 hI hm
            go_wp2
            go_loopw [10, 11, 13] (fun lv ev i wt => ∃ i' : Nat, i' ≤ m ∧ i = .int .i64 i' ∧ ev = .int .i64 (onL (preW S j v i')) ∧ Hid (OF lv (preW S j v i').length) ∧ Hid (Lsts wt.heap.size wt lv (preW S j v i')) ∧ Below w4.heap.size w4 wt) (fun _ _ i _ => m - (intOf i).toNat)
            case atStart => exact ⟨0, Nat.zero_le _, rfl, by rw [preW_zero], by rw [preW_zero]; exact HOF, by rw [preW_zero]; exact HLs, hb⟩
            case round =>
              clear HOF HLs hb HBW g0 g1 r0
              obtain ⟨i, hi, rfl, rfl, HOF, HLs, hb⟩ := hrel
              obtain ⟨b, off, px, cx, hpe, hcn', r0, hI⟩ := rowAt.out wr hb v HV.out
              rw [HM.out] at r0 hI
              simp only [Option.some.injEq, Addr.mk.injEq, and_true] at hpe
              obtain ⟨rfl, rfl⟩ := hpe
              by_cases hlt : i < m
              · have hil : (i : Int) < (m : Int) := by omega
                have hi' : i < (nb S (v : Int)).length := by rw [HM.out]; exact hlt
                obtain ⟨bx, ox, rfl, hbx, hcapx, hcI⟩ := Vals.open (l := nb S (v : Int)) (by rw [HM.out]; exact hI) hi'
                have u0 := hcI wr (Below.refl _ _) i hi'
                rw [HM.out] at hcapx
                have hum := List.getElem_mem hi'
                have hw1 := refWalk_any j S hRS (v : Int) (nb S (v : Int))[i] hum (by have := H3.out; omega) (.slice (some ⟨_, _, none⟩) j cn) wr (by have := Lsts.go HNL.out hb; rw [nearL_len] at this; exact this)
                have HLN : Hid _ := wayL_len hRS hum (by have := H3.out; omega : (nb S (v : Int)).length ≠ 2)
                have HBT : Hid _ := bel_turned hRS hum (by have := H3.out; omega : (nb S (v : Int)).length ≠ 2)
                have HPB : Hid (∀ x ∈ preW S j v i, belB (wayL S j (v : Int) (nb S (v : Int))[i]) x = false) := fun x hx => preW_bel hRS H3.out hi' hx
                have HPI : Hid _ := preW_in (N := j) hi'
                have HPO : Hid _ := preW_out (N := j) hi'
                have HCN : Hid ((preW S j v i).length ≤ 930) := preW_cnt hRS hN HV.out (by omega)
                have HON : Hid _ := onL_le (ws := preW S j v i) (m := j) (fun x hx => by have := preW_mem hRS H3.out hi' hx; omega)
                obtain ⟨L, hL⟩ : ∃ L, wayL S j (v : Int) (nb S (v : Int))[i] = L := ⟨_, rfl⟩
                rw [hL] at hw1 HLN HBT HPB HPI HPO
                generalize (nb S (v : Int))[i] = u at *
                clear hL hum hcI hI hi'
                go_wp2_with fail
                refine hw1.mono ?_
                rintro e w5 ⟨sl, rfl, hO5, hb5⟩
                have hL5 := owns_intsK hO5
                have ht := turned_any L (by have := HLN.out; omega) sl w5 hL5
                obtain ⟨pl, cl, rfl⟩ := hL5.len
                have hb45 := hb.trans (hb5.mono hb.size)
                have HLs5 : Hid _ := Lsts.go HLs.out hb5
                clear hw1 hO5 u0 r0 hb hb5
                go_wp2_with fail
                refine ht.mono ?_
                rintro e w6 ⟨st, rfl, hT6, hb6⟩
                have hL6 := hL5.go hb6
                have hbl := below_any L.reverse L (by have := HLN.out; simp; omega) st (.slice pl L.length cl) w6 hT6 hL6
                rw [HBT.out] at hbl
                obtain ⟨pt, ct, rfl⟩ := hT6.len
                have hb46 := hb45.trans (hb6.mono hb45.size)
                have HLs6 : Hid _ := Lsts.go HLs5.out hb6
                clear ht hT6 hL5 hb6 hb45 HLs5
                generalize L.reverse.length = rl at *
                go_wp2_with fail
                refine hbl.mono ?_
                rintro e w7 ⟨rfl, hg7⟩
                have hL7 := hL6.go hg7.below
                have hb47 := hb46.trans (hg7.below.mono hb46.size)
                have HLs7 : Hid _ := Lsts.go HLs6.out hg7.below
                clear hbl hL6 hg7 hb46 HLs6
                cases htd : toldB L with
                | false =>
                  have HP : Hid _ := HPO.out htd
                  clear htd
                  go_wp2
                  exact ⟨⟨i + 1, by omega, by go_num, by rw [HP.out], by rw [HP.out]; exact HOF, by rw [HP.out]; exact HLs7, hb47⟩, by simp [intOf]; omega⟩
                | true =>
                  have HP : Hid _ := HPI.out htd
                  clear htd
                  have hE0 : 0 ≤ onL (preW S j v i) ∧ onL (preW S j v i) ≤ 27900 := by
                    have h1 := HON.out
                    have h2 : (preW S j v i).length * j ≤ 930 * 30 := Nat.mul_le_mul HCN.out hN
                    omega
                  have HEN : Hid (onL (preW S j v i) + (L.length : Int) - 1 = onL (preW S j v i ++ [L])) := by unfold Hid; rw [onL_snoc]; omega
                  have hLl : 2 ≤ L.length ∧ L.length ≤ 31 := by have := HLN.out; omega
                  have hLs := HLs7.out
                  have hOF := HOF.out
                  have hPB := HPB
                  have hq := HCN.out
                  obtain ⟨P, hP⟩ : ∃ P, preW S j v i = P := ⟨_, rfl⟩
                  rw [hP] at HP HEN hE0 hLs hOF HPB hq HON HCN ⊢
                  have HPP : Hid (preW S j v i = P) := hP
                  clear hP hPB HPO HPI HON HLs HLs7 HOF HBT HCN
                  generalize onL P = E at *
                  obtain ⟨po, co, rfl⟩ := Lsts.len hLs
                  obtain ⟨hE1, hE2⟩ := hE0
                  obtain ⟨hLl1, hLl2⟩ := hLl
                  have HLs : Hid (Lsts w7.heap.size w7 (.slice po P.length co) P) := hLs
                  have HOF : Hid (OF (.slice po P.length co) P.length) := hOF
                  clear hLs hOF
                  go_upto_block 6 with fail
                  go_cut [15] (fun kv wx => kv = .int .i64 (P.length : Int) ∧ Below w7.heap.size w7 wx)
                  case first =>
                    go_wp2_with fail
                    go_loopw [15] (fun kv wx => kv = .int .i64 (P.length : Int) ∧ wx = w7) (fun _ _ => 0)
                    case atStart => exact ⟨rfl, rfl⟩
                    case round =>
                      obtain ⟨rfl, rfl⟩ := hrel
                      by_cases hq0 : P.length = 0
                      · have hneg : decide ((0 : Int) < (P.length : Int)) = false := decide_eq_false (by omega)
                        have hneg' : decide (0 < P.length) = false := decide_eq_false (by omega)
                        clear hq0
                        go_wp2
                        go_meet
                        exact ⟨rfl, Below.refl _ _⟩
                      · have hpos : decide ((0 : Int) < (P.length : Int)) = true := decide_eq_true (by omega)
                        have hpos' : decide (0 < P.length) = true := decide_eq_true (by omega)
                        have hx : P.length - 1 < P.length := by omega
                        obtain ⟨bo, oo, rfl, hbo, hco, py, cy, hIy, hcy⟩ := Lsts.cellAt HLs.out hx
                        have hPy := HPB.out P[P.length - 1] (List.getElem_mem hx)
                        have hbl := below_any L P[P.length - 1] (by omega) (.slice pl L.length cl) _ _ hL7 hIy
                        rw [hPy] at hbl
                        have hwq : IntKind.i64.wrap ((P.length : Int) - 1) = ((P.length - 1 : Nat) : Int) := by rw [wrap_i _ (by omega) (by omega)]; omega
                        have hq1 : ((P.length - 1 : Nat) : Int) < (P.length : Int) := by omega
                        clear hIy hPy
                        generalize P[P.length - 1].length = ly at *
                        generalize P.length - 1 = q1 at *
                        clear hq0 hx
                        go_wp2_with fail
                        refine hbl.mono ?_
                        rintro e w8 ⟨rfl, hg8⟩
                        clear hbl
                        go_wp2
                        go_meet
                        exact ⟨rfl, hg8.below⟩
                  case rest =>
                    obtain ⟨rfl, hb8⟩ := hcut
                    have hbd : Below wc.heap.size wc wc.drew := below_drewN (Below.refl _ _) 1
                    have hb79 := hb8.trans (hbd.mono hb8.size)
                    have hb49 := hb47.trans (hb79.mono hb47.size)
                    have hLs9 := Lsts.go HLs.out hb79
                    have hL9 := Vals.go hL7 hb79
                    obtain ⟨hcut1, qd, cd, hcut2⟩ := OF.cut HOF.out (by omega)
                    obtain ⟨svs, hsl, hsrc, hsi⟩ := Lsts.vals hLs9
                    have HSL : Hid (svs.length = P.length ∧ _) := ⟨hsl, hsi⟩
                    have HSRC : Hid _ := hsrc
                    clear hsl hsi hsrc hLs9 hL7 HOF HLs HPB hb8 hb79
                    go_upto_region 25 with fail
                    refine wp_region_last (S := (fun w' : World => Below wc.drew.heap.size wc.drew w')) (by kernel_rfl) (Below.refl _ _) (fun hHeld => ?_)
                    refine wpAnyL_take (i := 1) (v := ?_) rfl (by kernel_rfl) (by kernel_rfl) (by kernel_rfl) (by kernel_rfl) (fun _ _ _ h => h) (Or.inl ⟨by rfl, ?_⟩) (by assumption) ?_
                    rotate_left
                    · intro w hSw; (try dsimp only at hSw); go_simp; (try with_reducible rfl)
                    try simp only [Act.put, List.setIfInBounds_toArray]
                    refine wpAnyL_take (i := 2) (v := ?_) rfl (by kernel_rfl) (by kernel_rfl) (by kernel_rfl) (by kernel_rfl) (fun _ _ _ h => h) (Or.inl ⟨by rfl, ?_⟩) (by assumption) ?_
                    rotate_left
                    · intro w hSw; (try dsimp only at hSw); go_simp; (try with_reducible rfl)
                    try simp only [Act.put]
                    refine wpAnyL_take (i := 3) (v := ?_) rfl (by kernel_rfl) (by kernel_rfl) (by kernel_rfl) (by kernel_rfl) (fun _ _ _ h => h) (Or.inl ⟨by rfl, ?_⟩) (by assumption) ?_
                    rotate_left
                    · intro w hSw; (try dsimp only at hSw); go_simp; (try with_reducible rfl)
                    try simp only [Act.put]
                    try simp only [List.getElem_toArray, List.getElem_cons_zero, List.getElem_cons_succ, List.setIfInBounds_toArray, List.set_cons_zero, List.set_cons_succ]
                    refine wpAnyL_take (i := 5) (v := ?_) rfl (by kernel_rfl) (by kernel_rfl) (by kernel_rfl) (by kernel_rfl) (fun _ _ _ h => h) (Or.inl ⟨by rfl, ?_⟩) (by assumption) ?_
                    rotate_left
                    · intro w hSw; (try dsimp only at hSw); go_simp; (try with_reducible rfl)
                    try simp only [Act.put]
                    refine wpAnyL_take (i := 8) (v := ?_) rfl (by kernel_rfl) (by kernel_rfl) (by kernel_rfl) (by kernel_rfl) (fun _ _ _ h => h) (Or.inl ⟨by rfl, ?_⟩) (by assumption) ?_
                    rotate_left
                    · intro w hSw; (try dsimp only at hSw); go_simp; (try with_reducible rfl)
                    try simp only [Act.put]
                    refine wpAnyL_take (i := 9) (v := ?_) rfl (by kernel_rfl) (by kernel_rfl) (by kernel_rfl) (by kernel_rfl) (fun _ _ _ h => h) (Or.inl ⟨by rfl, ?_⟩) (by assumption) ?_
                    rotate_left
                    · intro w hSw; (try dsimp only at hSw); go_simp; (try with_reducible rfl)
                    try simp only [Act.put]
                    refine wpAnyL_take (i := 10) (v := ?_) rfl (by kernel_rfl) (by kernel_rfl) (by kernel_rfl) (by kernel_rfl) (fun _ _ _ h => h) (Or.inl ⟨by rfl, ?_⟩) (by assumption) ?_
                    rotate_left
                    · intro w hSw; (try dsimp only at hSw); go_simp; (try with_reducible rfl)
                    try simp only [Act.put]
                    try simp only [List.getElem_toArray, List.getElem_cons_zero, List.getElem_cons_succ, List.setIfInBounds_toArray, List.set_cons_zero, List.set_cons_succ]
                    clear hcut1 hcut2 hbd
                    generalize wc.drew = w9 at *
                    refine wpAnyL_ready (rs := [0, 6]) (by kernel_rfl) (by simp) ?_
                    refine AllReadyL.cons rfl (fun K hK => ?_) (AllReadyL.cons rfl (fun K hK => ?_) AllReadyL.nil)
                    · go_simp
                      refine hK.out _ _ ((Below.refl _ _).alloc (Nat.le_refl _) _) (fun hHeld6 => ?_)
                      clear hK K
                      refine wpAnyL_ready (rs := [4, 6]) (by kernel_rfl) (by simp) ?_
                      refine AllReadyL.cons rfl (fun K hK => ?_) (AllReadyL.cons rfl (fun K hK => ?_) AllReadyL.nil)
                      · refine step_appV rfl _ _ rfl w9 hHeld6 0 P.length P.length [] svs svs (.slice (some ⟨w9.heap.size, 0, none⟩) 0 0) rfl (own0V w9) (.slice po P.length co) rfl (src_below HSRC.out hHeld6) (by simp) (by simp) (by omega) ?_
                        intro pA cA wA hoA hbA hgA
                        refine hK.out _ _ hbA (fun hHeld7 => ?_)
                        clear hK K
                        refine wpAnyL_ready (rs := [6]) (by kernel_rfl) (by simp) ?_
                        refine AllReadyL.cons rfl (fun K hK => ?_) AllReadyL.nil
                        go_simp
                        refine hK.out _ _ (hbA.alloc hbA.size _) (fun hHeld5 => ?_)
                        clear hK K
                        refine wpAnyL_ready (rs := [7]) (by kernel_rfl) (by simp) ?_
                        refine AllReadyL.cons rfl (fun K hK => ?_) AllReadyL.nil
                        refine step_appV rfl _ _ rfl w9 hHeld5 P.length 1 (P.length + 1) svs [.slice pl L.length cl] (svs ++ [.slice pl L.length cl]) (.slice pA P.length cA) rfl (hoA.alloc _) (.slice (some ⟨wA.heap.size, 0, none⟩) 1 1) rfl (one_srcV wA pl L.length cl) rfl rfl (by omega) ?_
                        intro pB cB wB hoB hbB hgB
                        refine hK.out _ _ hbB (fun hHeldB => ?_)
                        clear hK K
                        refine wpAnyL_ready (rs := [11]) (by kernel_rfl) (by simp) ?_
                        refine AllReadyL.cons rfl (fun K hK => ?_) AllReadyL.nil
                        refine step_appV rfl _ _ rfl w9 hbB (P.length + 1) 0 (P.length + 1) (svs ++ [.slice pl L.length cl]) [] (svs ++ [.slice pl L.length cl]) (.slice pB (P.length + 1) cB) rfl hoB (.slice qd 0 cd) rfl (nil_srcV _ _ _) rfl (by simp) (by omega) ?_
                        intro pC cC wC hoC hbC hgC
                        refine hK.out _ _ hbC (fun hHeldC => ?_)
                        clear hK K hoB hgB hHeldB
                        refine wpAnyL_ready (rs := [12]) (by kernel_rfl) (by simp) ?_
                        refine AllReadyL.cons rfl (fun K hK => ?_) AllReadyL.nil
                        go_simp
                        refine hK.out _ _ hbC (fun hHeldD => ?_)
                        clear hK K hHeldC hHeldD hgC
                        have HOF2 : Hid (OF (.slice pC (P.length + 1) cC) (P ++ [L]).length) := by unfold Hid; rw [List.length_append]; exact OF.of_owns hoC
                        have HLs2 : Hid (Lsts wC.heap.size wC (.slice pC (P.length + 1) cC) (P ++ [L])) := Lsts.more HSL.out.1 HSL.out.2 hL9 hbC (by rw [HSL.out.1]; exact hoC)
                        have HB2 : Hid (Below w4.heap.size w4 wC) := hb49.trans (hbC.mono hb49.size)
                        clear hoC hbC hbB
                        refine wpAnyL_done (by kernel_rfl) ?_ _
                        try simp only [Act.put, List.getElem_toArray, List.getElem_cons_zero, List.getElem_cons_succ, List.setIfInBounds_toArray, List.set_cons_zero, List.set_cons_succ]
                        go_wp2
                        exact ⟨⟨i + 1, by omega, by go_num, by rw [HP.out, HEN.out], by rw [HP.out]; exact HOF2, by rw [HP.out]; exact HLs2, HB2.out⟩, by simp [intOf]; omega⟩
                      · go_simp
                        have hM := one_srcV (w9.alloc (.cells #[] 25)) pl L.length cl
                        rw [World.size_alloc] at hM
                        have hb5 : Below w9.heap.size w9 ((w9.alloc (.cells #[] 25)).alloc (.cells #[.slice pl L.length cl] 25)) := ((Below.refl _ _).alloc (Nat.le_refl _) _).alloc (by simp) _
                        refine hK.out _ _ hb5 (fun hHeld5 => ?_)
                        clear hK K
                        refine wpAnyL_ready (rs := [4]) (by kernel_rfl) (by simp) ?_
                        refine AllReadyL.cons rfl (fun K hK => ?_) AllReadyL.nil
                        refine step_appV rfl _ _ rfl w9 hHeld5 0 P.length P.length [] svs svs (.slice (some ⟨w9.heap.size, 0, none⟩) 0 0) rfl ((own0V w9).alloc _) (.slice po P.length co) rfl (src_below HSRC.out hHeld5) (by simp) (by simp) (by omega) ?_
                        intro pA cA wA hoA hbA hgA
                        refine hK.out _ _ hbA (fun hHeld7 => ?_)
                        clear hK K
                        have hM' := src_grown hM hgA (fun e => by simp [Value.ownBlock] at e)
                        refine wpAnyL_ready (rs := [7]) (by kernel_rfl) (by simp) ?_
                        refine AllReadyL.cons rfl (fun K hK => ?_) AllReadyL.nil
                        refine step_appV rfl _ _ rfl w9 hHeld7 P.length 1 (P.length + 1) svs [.slice pl L.length cl] (svs ++ [.slice pl L.length cl]) (.slice pA P.length cA) rfl hoA (.slice (some ⟨w9.heap.size + 1, 0, none⟩) 1 1) rfl hM' rfl rfl (by omega) ?_
                        intro pB cB wB hoB hbB hgB
                        refine hK.out _ _ hbB (fun hHeldB => ?_)
                        clear hK K
                        refine wpAnyL_ready (rs := [11]) (by kernel_rfl) (by simp) ?_
                        refine AllReadyL.cons rfl (fun K hK => ?_) AllReadyL.nil
                        refine step_appV rfl _ _ rfl w9 hbB (P.length + 1) 0 (P.length + 1) (svs ++ [.slice pl L.length cl]) [] (svs ++ [.slice pl L.length cl]) (.slice pB (P.length + 1) cB) rfl hoB (.slice qd 0 cd) rfl (nil_srcV _ _ _) rfl (by simp) (by omega) ?_
                        intro pC cC wC hoC hbC hgC
                        refine hK.out _ _ hbC (fun hHeldC => ?_)
                        clear hK K hoB hgB hHeldB
                        refine wpAnyL_ready (rs := [12]) (by kernel_rfl) (by simp) ?_
                        refine AllReadyL.cons rfl (fun K hK => ?_) AllReadyL.nil
                        go_simp
                        refine hK.out _ _ hbC (fun hHeldD => ?_)
                        clear hK K hHeldC hHeldD hgC
                        have HOF2 : Hid (OF (.slice pC (P.length + 1) cC) (P ++ [L]).length) := by unfold Hid; rw [List.length_append]; exact OF.of_owns hoC
                        have HLs2 : Hid (Lsts wC.heap.size wC (.slice pC (P.length + 1) cC) (P ++ [L])) := Lsts.more HSL.out.1 HSL.out.2 hL9 hbC (by rw [HSL.out.1]; exact hoC)
                        have HB2 : Hid (Below w4.heap.size w4 wC) := hb49.trans (hbC.mono hb49.size)
                        clear hoC hbC hbB
                        refine wpAnyL_done (by kernel_rfl) ?_ _
                        try simp only [Act.put, List.getElem_toArray, List.getElem_cons_zero, List.getElem_cons_succ, List.setIfInBounds_toArray, List.set_cons_zero, List.set_cons_succ]
                        go_wp2
                        exact ⟨⟨i + 1, by omega, by go_num, by rw [HP.out, HEN.out], by rw [HP.out]; exact HOF2, by rw [HP.out]; exact HLs2, HB2.out⟩, by simp [intOf]; omega⟩
                    · go_simp
                      refine hK.out _ _ ((Below.refl _ _).alloc (Nat.le_refl _) _) (fun hHeld6 => ?_)
                      clear hK K
                      have hM := one_srcV w9 pl L.length cl
                      refine wpAnyL_ready (rs := [0]) (by kernel_rfl) (by simp) ?_
                      refine AllReadyL.cons rfl (fun K hK => ?_) AllReadyL.nil
                      go_simp
                      have hb5 : Below w9.heap.size w9 ((w9.alloc (.cells #[.slice pl L.length cl] 25)).alloc (.cells #[] 25)) := ((Below.refl _ _).alloc (Nat.le_refl _) _).alloc (by simp) _
                      refine hK.out _ _ hb5 (fun hHeld5 => ?_)
                      clear hK K
                      have ho0 := own1V w9 (.cells #[.slice pl L.length cl] 25)
                      have hM2 := src_alloc hM (.cells #[] 25)
                      refine wpAnyL_ready (rs := [4]) (by kernel_rfl) (by simp) ?_
                      refine AllReadyL.cons rfl (fun K hK => ?_) AllReadyL.nil
                      refine step_appV rfl _ _ rfl w9 hHeld5 0 P.length P.length [] svs svs (.slice (some ⟨w9.heap.size + 1, 0, none⟩) 0 0) rfl ho0 (.slice po P.length co) rfl (src_below HSRC.out hHeld5) (by simp) (by simp) (by omega) ?_
                      intro pA cA wA hoA hbA hgA
                      refine hK.out _ _ hbA (fun hHeld7 => ?_)
                      clear hK K
                      have hM' := src_grown hM2 hgA (fun e => by simp [Value.ownBlock] at e)
                      refine wpAnyL_ready (rs := [7]) (by kernel_rfl) (by simp) ?_
                      refine AllReadyL.cons rfl (fun K hK => ?_) AllReadyL.nil
                      refine step_appV rfl _ _ rfl w9 hHeld7 P.length 1 (P.length + 1) svs [.slice pl L.length cl] (svs ++ [.slice pl L.length cl]) (.slice pA P.length cA) rfl hoA (.slice (some ⟨w9.heap.size, 0, none⟩) 1 1) rfl hM' rfl rfl (by omega) ?_
                      intro pB cB wB hoB hbB hgB
                      refine hK.out _ _ hbB (fun hHeldB => ?_)
                      clear hK K
                      refine wpAnyL_ready (rs := [11]) (by kernel_rfl) (by simp) ?_
                      refine AllReadyL.cons rfl (fun K hK => ?_) AllReadyL.nil
                      refine step_appV rfl _ _ rfl w9 hbB (P.length + 1) 0 (P.length + 1) (svs ++ [.slice pl L.length cl]) [] (svs ++ [.slice pl L.length cl]) (.slice pB (P.length + 1) cB) rfl hoB (.slice qd 0 cd) rfl (nil_srcV _ _ _) rfl (by simp) (by omega) ?_
                      intro pC cC wC hoC hbC hgC
                      refine hK.out _ _ hbC (fun hHeldC => ?_)
                      clear hK K hoB hgB hHeldB
                      refine wpAnyL_ready (rs := [12]) (by kernel_rfl) (by simp) ?_
                      refine AllReadyL.cons rfl (fun K hK => ?_) AllReadyL.nil
                      go_simp
                      refine hK.out _ _ hbC (fun hHeldD => ?_)
                      clear hK K hHeldC hHeldD hgC
                      have HOF2 : Hid (OF (.slice pC (P.length + 1) cC) (P ++ [L]).length) := by unfold Hid; rw [List.length_append]; exact OF.of_owns hoC
                      have HLs2 : Hid (Lsts wC.heap.size wC (.slice pC (P.length + 1) cC) (P ++ [L])) := Lsts.more HSL.out.1 HSL.out.2 hL9 hbC (by rw [HSL.out.1]; exact hoC)
                      have HB2 : Hid (Below w4.heap.size w4 wC) := hb49.trans (hbC.mono hb49.size)
                      clear hoC hbC hbB
                      refine wpAnyL_done (by kernel_rfl) ?_ _
                      try simp only [Act.put, List.getElem_toArray, List.getElem_cons_zero, List.getElem_cons_succ, List.setIfInBounds_toArray, List.set_cons_zero, List.set_cons_succ]
                      go_wp2
                      exact ⟨⟨i + 1, by omega, by go_num, by rw [HP.out, HEN.out], by rw [HP.out]; exact HOF2, by rw [HP.out]; exact HLs2, HB2.out⟩, by simp [intOf]; omega⟩
              · obtain rfl : i = m := by omega
                have hil : ¬ (i : Int) < (i : Int) := by omega
                rw [HFL.out] at HOF HLs ⊢
                clear hI
                go_wp2
                exact ⟨⟨v + 1, HV.out, by go_num, rfl, HOF, HLs, hb⟩, by have := HV.out; simp [intOf]; omega⟩
        · obtain rfl : v = j := by omega
          have hvl : ¬ (v : Int) < (v : Int) := by omega
          by_cases hon : onL (waysTo S v v) = (S.length : Int)
          · have hon' : (onL (waysTo S v v) != (S.length : Int)) = false := by simpa using hon
            have HW : Hid (wsK v S = 0) := (wsK_iff hRS).2 ⟨HNO.out, hon⟩
            have HW2 : Hid (wsL v S = waysTo S v v) := by unfold Hid wsL; rw [if_pos HW.out]
            clear hon hb
            generalize onL (waysTo S v v) = E at *
            have hLs := HLs.out
            have HLs' : Hid _ := hLs
            clear HLs HOF
            generalize waysTo S v v = Z at *
            obtain ⟨po, co, rfl⟩ := hLs.len
            clear hLs
            go_wp2
            go_ret2
            exact ⟨_, by rw [HK.out, HW.out]; rfl, by rw [HLL.out, HW2.out]; exact HLs'.out, HBW.out⟩
          · have hon' : (onL (waysTo S v v) != (S.length : Int)) = true := by simpa using hon
            have HW : Hid (wsK v S = 13) := by
              unfold Hid wsK
              rw [if_neg (by rw [(nearL_noone hRS).2 HNO.out]; simp), if_neg hon]
            have HW2 : Hid (wsL v S = []) := by unfold Hid wsL; rw [HW.out]; rfl
            clear hon hb
            generalize onL (waysTo S v v) = E at *
            have hLs := HLs.out
            clear HLs HOF
            generalize waysTo S v v = Z at *
            obtain ⟨po, co, rfl⟩ := hLs.len
            clear hLs
            go_wp2
            go_ret2
            exact ⟨.slice none 0 0, by rw [HK.out, HW.out]; rfl, by rw [HLL.out, HW2.out]; exact .inl ⟨⟨_, _, rfl⟩, rfl⟩, HBW.out⟩
end Go.Proofs.Ytgjaikekpgdehaa
