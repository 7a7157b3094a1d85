/-
  The contracts of rotation.each and Mirror.
-/
import Derived.Test.YtnmlbkmbiecpnaaXRDartsM
import Derived.Test.YtnmlbkmbiecpnaaQK
import Derived.Test.YtnmlbkmbiecpnaaXRMirM
namespace Go.Proofs.Ytnmlbkmbiecpnaa
open Go Go.Proofs Go.RowKit

/-- A list that was made behind all is laid at place k. -/
theorem Grp.put {h0 g cap k : Nat} {svs : List Value} {pre : List (List Int)} {W B : World} {sv' : Value} {xs : List Int} (h : Grp h0 (.slice (some ⟨g, 0, none⟩) svs.length cap) svs pre W) (hk : k < svs.length) (hh : h0 ≤ W.heap.size) (hb : Below W.heap.size W B)
    (hB : B.ownsRow W.heap.size 3 1 sv' xs.length (xs.map (Value.int .i64))) : Grp h0 (.slice (some ⟨g, 0, none⟩) svs.length cap) (svs.set k sv') (pre.set k xs) (B.setCell ⟨g, k, none⟩ sv') := by
  have hlen := h.len
  have hgl : g < W.heap.size := (h.own.lt g rfl).2
  have hlvB := owns_below h.own hb
  obtain ⟨hst, hsg⟩ := hlvB.stored k sv'
  have hsvg : sv'.ownBlock = none ∨ sv'.ownBlock ≠ some g := by
    cases hv : sv'.ownBlock with
    | none => exact .inl rfl
    | some b =>
      refine .inr fun e => ?_
      have := (hB.lt b hv).1
      simp at e
      omega
  have split : ∀ {j : Nat} {x : Value}, (svs.set k sv')[j]? = some x → (j ≠ k ∧ svs[j]? = some x) ∨ (j = k ∧ x = sv') := fun {j x} hx => by
    rw [List.getElem?_set] at hx
    by_cases hj : k = j
    · subst hj
      rw [if_pos rfl, if_pos hk] at hx
      exact .inr ⟨rfl, (Option.some.inj hx).symm⟩
    · rw [if_neg hj] at hx
      exact .inl ⟨Ne.symm hj, hx⟩
  have far : ∀ {j : Nat} {x : Value}, svs[j]? = some x → ∀ b, x.ownBlock = some b → b < W.heap.size := fun {j x} hx b hv => by
    have hj := (List.getElem?_eq_some_iff.1 hx).1
    exact ((h.inn j x _ hx (List.getElem?_eq_getElem (by omega))).lt b hv).2
  refine ⟨by simp [hlen], by rw [List.length_set]; exact hst, ?_, ?_, ?_⟩
  · intro j x zs hx hz
    rcases split hx with ⟨hj, hx⟩ | ⟨rfl, rfl⟩
    · rw [List.getElem?_set_ne (Ne.symm hj)] at hz
      exact owns_keep (owns_below (h.inn j x zs hx hz) hb) hsg (h.outer j x hx)
    · rw [List.getElem?_set_self (by omega)] at hz
      cases hz
      exact owns_keep (owns_base hB hh) hsg hsvg
  · intro i j x x' hx hx' hij
    rcases split hx with ⟨hi, hy⟩ | ⟨rfl, rfl⟩
    · rcases split hx' with ⟨hj, hy'⟩ | ⟨rfl, rfl⟩
      · exact h.apart i j x x' hy hy' hij
      · cases hv : x.ownBlock with
        | none => exact .inl rfl
        | some b =>
          refine .inr fun e => ?_
          have h1 := far hy b hv
          have h2 := (hB.lt b e.symm).1
          omega
    · rcases split hx' with ⟨hj, hy'⟩ | ⟨rfl, rfl⟩
      · cases hv : x.ownBlock with
        | none => exact .inl rfl
        | some b =>
          refine .inr fun e => ?_
          have h1 := far hy' b e.symm
          have h2 := (hB.lt b hv).1
          omega
      · exact absurd rfl hij
  · intro j x hx
    rcases split hx with ⟨hj, hy⟩ | ⟨rfl, rfl⟩
    · exact h.outer j x hy
    · exact hsvg

theorem grow_nil (W : World) : Go.Sort.grow W #[] = W := by cases W; simp [Go.Sort.grow]

set_option maxRecDepth 100000 in
set_option maxHeartbeats 2000000 in
theorem mirror1_any (L : List Int) (hne : L ≠ []) (hL : L.length ≤ 4194304) (sv : Value) (w : World) (h : Ints w.heap.size w sv L) :
    Calls Try.prog 48 #[sv] w fun e w' => ∃ v', e = .returned v' ∧ w'.ownsRow w.heap.size 3 1 v' L.reverse.length (L.reverse.map (Value.int .i64)) ∧ Below w.heap.size w w' := by
  obtain ⟨p, c, rfl⟩ := h.len
  have hpos := List.length_pos_iff.2 hne
  obtain ⟨b, off, rfl, hbb, hcap, _⟩ := h.open hpos
  have hcl := Try.slices_Clone_int b off L.length c L w (Nat.le_refl _) (by omega) (ints_cells h)
  rw [List.take_length] at hcl
  clear h hne
  go_enter Try.func48, Try.ntmps48
  go_wp2_with fail
  refine hcl.mono ?_
  clear hcl
  rintro e w2 ⟨v2, rfl, hO2, hn2, hb2⟩
  rcases hO2.2 with ⟨h0, _⟩ | ⟨g2, cap2, cur2, rfl, hbase, hblk, h1, h2, h3, h4⟩
  · exact absurd h0 hn2
  have hrv := Try.slices_Reverse_int g2 0 cap2 L w2 (holds_of_blockI hblk (by simpa using h4)) (by omega)
  go_wp2_with fail
  refine hrv.mono ?_
  clear hrv
  rintro e w3 ⟨rfl, nn, hw3⟩
  have hw4 : w3 = Go.Sort.grow (Go.Sort.putRow (Value.int .i64) (Go.Sort.ahead w2 nn) g2 0 L.reverse.toArray) #[] := by
    rw [hw3, grow_nil]
  have hO3 : w3.ownsRow w.heap.size 3 1 (.slice (some ⟨g2, 0, none⟩) L.length cap2) L.length (L.reverse.map (Value.int .i64)) := by
    rw [hw4]
    exact ownsRow_sortedI (ss := L) (ts := L.reverse) (by simp) hbase hblk h1 h2 h3
  have hg3 : w2.grownBy w3 (some g2) := by
    rw [hw4]
    exact grownBy_sortedI _
  have HB3 : Hid (Below w.heap.size w w3) := hb2.grown hg3 hb2.size (fun q e => by cases e; exact hbase)
  have HO3 : Hid (w3.ownsRow w.heap.size 3 1 (.slice (some ⟨g2, 0, none⟩) L.length cap2) L.reverse.length (L.reverse.map (Value.int .i64))) := by
    unfold Hid
    rw [List.length_reverse]
    exact hO3
  clear hO3 hg3 hO2 hblk h1 h2 h3 h4 hw3 hw4 hb2
  go_wp2
  go_ret
  exact ⟨.slice (some ⟨g2, 0, none⟩) L.length cap2, rfl, HO3.out, HB3.out⟩

/-- Each list's, where it has one. -/
def eachF (F : List Int → List Int) (L : List Int) : List Int := if L = [] then [] else F L
def eachL (F : List Int → List Int) (r : List (List Int)) (j : Nat) : List (List Int) := (r.take j).map (eachF F) ++ List.replicate (r.length - j) []
theorem eachL_zero (F : List Int → List Int) (r : List (List Int)) : eachL F r 0 = List.replicate r.length [] := by simp [eachL]
theorem eachL_full (F : List Int → List Int) (r : List (List Int)) : eachL F r r.length = r.map (eachF F) := by simp [eachL]
theorem eachL_set {F : List Int → List Int} {r : List (List Int)} {j : Nat} (h : j < r.length) : (eachL F r j).set j (eachF F r[j]) = eachL F r (j + 1) := by
  unfold eachL
  obtain ⟨m, hm⟩ : ∃ m, r.length - j = m + 1 := ⟨r.length - j - 1, by omega⟩
  have e1 : ((r.take j).map (eachF F)).length = j := by rw [List.length_map, List.length_take]; omega
  rw [List.set_append_right _ _ (by omega), e1, Nat.sub_self, hm, List.replicate_succ, List.set_cons_zero, take_snoc h, List.map_append, List.append_assoc]
  have : r.length - (j + 1) = m := by omega
  rw [this]
  rfl
theorem eachL_none {F : List Int → List Int} {r : List (List Int)} {j : Nat} (h : j < r.length) (he : r[j] = []) : eachL F r j = eachL F r (j + 1) := by
  rw [← eachL_set h, he]
  unfold eachL eachF
  obtain ⟨m, hm⟩ : ∃ m, r.length - j = m + 1 := ⟨r.length - j - 1, by omega⟩
  have e1 : ((r.take j).map fun L => if L = [] then ([] : List Int) else F L).length = j := by rw [List.length_map, List.length_take]; omega
  rw [List.set_append_right _ _ (by omega), e1, Nat.sub_self, hm, List.replicate_succ, List.set_cons_zero, if_pos rfl]

set_option maxRecDepth 100000 in
set_option maxHeartbeats 4000000 in
theorem each_any (f : Nat) (F : List Int → List Int) (eg : ∀ (args : Array Value) (W : World), (callFunc f args).run Try.prog W = .ok (.enter f args) W) (r : List (List Int)) (hr1 : r.length ≤ 1048576) (hF : ∀ (L : List Int) (sv : Value) (W : World), L ∈ r → L ≠ [] → Ints W.heap.size W sv L → Calls Try.prog f #[sv] W fun e w' => ∃ v', e = .returned v' ∧ w'.ownsRow W.heap.size 3 1 v' (F L).length ((F L).map (Value.int .i64)) ∧ Below W.heap.size W w') (rv : Value) (w : World) (hr : Lsts w.heap.size w rv r) :
    Calls Try.prog 46 #[rv, .func (.func f) #[] #[]] w fun e w' => ∃ lv svs, e = .returned lv ∧ Grp w.heap.size lv svs (r.map (eachF F)) w' ∧ Below w.heap.size w w' := by
  obtain ⟨p, c, rfl⟩ := hr.len
  obtain ⟨i0, hi, hz0, hz1, hz2⟩ := info_parts infoSl
  have HL : Hid (Lsts w.heap.size w (.slice p r.length c) r) := hr
  have HFN : Hid (∀ (L : List Int) (sv : Value) (W : World), L ∈ r → L ≠ [] → Ints W.heap.size W sv L → Calls Try.prog f #[sv] W fun e w' => ∃ v', e = .returned v' ∧ w'.ownsRow W.heap.size 3 1 v' (F L).length ((F L).map (Value.int .i64)) ∧ Below W.heap.size W w') := hF
  clear hr hF
  go_enter Try.func46, Try.ntmps46
  go_wp2_with (at_make; refine wpList_make_full _ rfl _ _ 25 rfl w.heap.size 41 i0 (.slice none 0 0) 1 Try.underlying25 hi hz0 hz1 .i64 .i64 _ _ r.length rfl rfl rfl rfl (by rw [hz2]; omega) (by unfold maxLen; omega) (Nat.le_refl _) ?_; intro w2 hown hgrow)
  have hb2 : Below w.heap.size w w2 := (Below.refl _ _).grown hgrow (Nat.le_refl _) (fun k e => by cases e)
  have hG2 := Grp.made hown
  rw [← eachL_zero F r] at hG2
  clear hown hgrow hi hz0 hz1 hz2
  go_wp2
  go_loopw [13] (fun iv wr => ∃ (j : Nat) (svs : List Value), j ≤ r.length ∧ iv = .int .i64 j ∧ Grp w.heap.size (.slice (some ⟨w.heap.size, 0, none⟩) r.length r.length) svs (eachL F r j) wr ∧ Below w.heap.size w wr) (fun iv _ => r.length - (intOf iv).toNat)
  case atStart => exact ⟨0, _, Nat.zero_le _, rfl, hG2, hb2⟩
  case round =>
    clear hG2 hb2
    obtain ⟨j, svs, hj, rfl, hG, hb⟩ := hrel
    by_cases hlt : j < r.length
    · have hjl : (j : Int) < (r.length : Int) := by omega
      have hLr : Lsts wr.heap.size wr (.slice p r.length c) r := HL.out.go hb
      obtain ⟨bc, oc, rfl, hbc, hcc, px, kx, hIx, c0⟩ := hLr.cellAt hlt
      have HSET : Hid ((eachL F r j).set j (eachF F r[j]) = eachL F r (j + 1)) := eachL_set hlt
      have HNON : Hid (r[j] = [] → eachL F r j = eachL F r (j + 1)) := eachL_none hlt
      have HMEM : Hid (r[j] ∈ r) := List.getElem_mem hlt
      have hsl : svs.length = r.length := by have := hG.len; unfold eachL at this; rw [List.length_append, List.length_map, List.length_take, List.length_replicate] at this; omega
      generalize r[j] = X at *
      by_cases hX : X = []
      · subst hX
        have HE : Hid _ := HNON.out rfl
        have HG : Hid (Grp w.heap.size (.slice (some ⟨w.heap.size, 0, none⟩) r.length r.length) svs (eachL F r j) wr) := hG
        have HB : Hid (Below w.heap.size w wr) := hb
        clear hG hb HSET HNON hIx hLr
        go_wp2
        exact ⟨⟨j + 1, svs, by omega, by go_num, by rw [← HE.out]; exact HG.out, HB.out⟩, by simp [intOf]; omega⟩
      · have hXp : (0 : Int) < (X.length : Int) := by have := List.length_pos_iff.2 hX; omega
        have hcall := HFN.out X _ wr HMEM.out hX hIx
        have HE : Hid (eachF F X = F X) := by unfold Hid eachF; rw [if_neg hX]
        have HG : Hid (Grp w.heap.size (.slice (some ⟨w.heap.size, 0, none⟩) r.length r.length) svs (eachL F r j) wr) := hG
        have HB : Hid (Below w.heap.size w wr) := hb
        clear hG hb HNON hIx hLr hX
        go_wp2_with fail
        refine hcall.mono ?_
        clear hcall
        rintro e w5 ⟨v5, rfl, hO5, hb5⟩
        obtain ⟨p5, c5, rfl⟩ := owns_formP hO5
        have hG5 := HG.out.go hb5
        obtain ⟨sj, hsj⟩ : ∃ sj, svs[j]? = some sj := ⟨_, List.getElem?_eq_getElem (by omega)⟩
        have k0 : w5.cell? ⟨w.heap.size, j, none⟩ = some sj := by
          have h1 := hG5.own.cells (g := w.heap.size) rfl j _ hsj
          rwa [Go.WideShapes.add_plain, Nat.zero_add] at h1
        have k1 : w5.frozen? ⟨w.heap.size, j, none⟩ = false := by
          have h1 := hG5.own
          rw [hsl] at h1
          exact h1.frozenAt j
        have HP : Hid (Grp w.heap.size (.slice (some ⟨w.heap.size, 0, none⟩) r.length r.length) (svs.set j (.slice p5 (F X).length c5)) (eachL F r (j + 1)) (w5.setCell ⟨w.heap.size, j, none⟩ (.slice p5 (F X).length c5))) := by
          have h1 : Grp w.heap.size (.slice (some ⟨w.heap.size, 0, none⟩) svs.length r.length) svs (eachL F r j) wr := by rw [hsl]; exact HG.out
          have h2 := h1.put (k := j) (by omega) HB.out.size hb5 hO5
          rw [hsl, ← HE.out, HSET.out] at h2
          rw [HE.out] at h2
          exact h2
        have HB6 : Hid (Below w.heap.size w (w5.setCell ⟨w.heap.size, j, none⟩ (.slice p5 (F X).length c5))) := (HB.out.trans (hb5.mono HB.out.size)).setCell (p := ⟨w.heap.size, j, none⟩) (Nat.le_refl _) _
        clear hO5 hb5 hG5 HG HB HSET HE
        generalize (F X).length = q5 at *
        go_wp2
        exact ⟨⟨j + 1, _, by omega, by go_num, HP.out, HB6.out⟩, by simp [intOf]; omega⟩
    · have hjn : ¬ (j : Int) < (r.length : Int) := by omega
      have HG : Hid (Grp w.heap.size (.slice (some ⟨w.heap.size, 0, none⟩) r.length r.length) svs (r.map (eachF F)) wr ∧ Below w.heap.size w wr) := by
        refine ⟨?_, hb⟩
        have e : j = r.length := by omega
        rw [e, eachL_full] at hG
        exact hG
      clear hG hb hlt
      go_wp2
      go_ret
      exact ⟨.slice (some ⟨w.heap.size, 0, none⟩) r.length r.length, rfl, ⟨svs, HG.out.1⟩, HG.out.2⟩

theorem mirror_map (r : List (List Int)) : r.map (eachF List.reverse) = mirL r := by
  unfold mirL
  refine List.map_congr_left fun L _ => ?_
  unfold eachF
  split
  · rename_i h; rw [h]; rfl
  · rfl
set_option maxRecDepth 100000 in
set_option maxHeartbeats 2000000 in
theorem mirror_any (r : List (List Int)) (hr1 : r.length ≤ 1048576) (hin : ∀ x ∈ r, x.length ≤ 4194304) (rv : Value) (w : World) (hr : Lsts w.heap.size w rv r) :
    Calls Try.prog 25 #[rv] w fun e w' => ∃ lv svs, e = .returned lv ∧ Grp w.heap.size lv svs (mirL r) w' ∧ Below w.heap.size w w' := by
  have hc := each_any 48 List.reverse (fun args W => by kernel_rfl) r hr1 (fun L sv W hm hne h => mirror1_any L hne (hin L hm) sv W h) rv w hr
  rw [mirror_map] at hc
  clear hr
  go_enter Try.func25, Try.ntmps25
  go_wp2_with fail
  refine hc.mono ?_
  clear hc
  rintro e w2 ⟨lv, svs, rfl, hG, hb⟩
  obtain ⟨pl, cl, rfl⟩ := owns_formP hG.own
  have HG : Hid (Grp w.heap.size (.slice pl svs.length cl) svs (mirL r) w2 ∧ Below w.heap.size w w2) := ⟨hG, hb⟩
  clear hG hb
  go_wp2
  go_ret
  exact ⟨.slice pl svs.length cl, svs, rfl, HG.out.1, HG.out.2⟩
end Go.Proofs.Ytnmlbkmbiecpnaa
