/-
  The contract of natural.timesPlus.
-/
import Derived.BigRegion
import Derived.Laws.OwnMore
import Derived.Test.YtkalknmindgljaaDoorMul
import Derived.Test.YtkalknmindgljaaDoorAppSeg
namespace Go.Proofs.YtkalknmindgljaaDoor
open Go Go.Proofs Go.RowKit Go.Shelf

theorem trimL_same {zs : List Int} (h : (trimL zs).length = zs.length) : trimL zs = zs := by
  induction zs with
  | nil => rfl
  | cons z r ih =>
    simp only [trimL] at h ⊢
    split at h
    · simp at h
    · rename_i c
      rw [if_neg c, ih (by simpa using h)]
theorem num_of {L : List Int} (d : Dig L) (h : L = [] ∨ pB (L.length - 1) ≤ val L) : L = num (val L) := by
  rcases h with rfl | h
  · simp [val, num_zero]
  · have h1 := len_num h
    have h2 := trimL_num d
    have h3 := trimL_length L
    have h4 : (trimL L).length = L.length := by
      rw [h2] at h3 ⊢
      rcases Nat.eq_zero_or_pos L.length with e | e
      · omega
      · omega
    rw [← trimL_same h4]
    rw [h2]
    congr 1
    rw [num_val (val_nonneg d)]
theorem num_ge {X : Int} (hn : 0 < (num X).length) : pB ((num X).length - 1) ≤ X := by
  rcases Int.lt_or_le X (pB ((num X).length - 1)) with c | c
  · have := num_len c
    omega
  · exact c
/-- timesPlus's loop, when k limbs are done. -/
structure TpI (zs0 zs : List Int) (t p : Int) (k : Nat) (c : Int) : Prop where
  len : zs.length = zs0.length
  dig : Dig zs
  high : ∀ j, k ≤ j → nth zs j = nth zs0 j
  bound : 0 ≤ c ∧ c < 4294967296
  sum : U zs k + c * pB k = U zs0 k * t + p
theorem TpI.start {zs : List Int} {t p : Int} (d : Dig zs) (hp : 0 ≤ p ∧ p < 4294967296) : TpI zs zs t p 0 p := ⟨rfl, d, fun _ _ => rfl, hp, by simp [U, pB]⟩
theorem TpI.fits {zs0 zs : List Int} {t p c : Int} {k : Nat} (h : TpI zs0 zs t p k c) (ht : 0 ≤ t ∧ t < 4294967296) : 0 ≤ nth zs k * t ∧ c + nth zs k * t < 18446744073709551616 ∧ (c + nth zs k * t) / 4294967296 < 4294967296 ∧ nth zs k * t < 18446744073709551616 := by
  have h1 := mul_le_B (h.dig.get k) ht
  have h2 := h.bound
  have h3 := Int.mul_nonneg (h.dig.get k).1 ht.1
  omega
theorem TpI.step {zs0 zs : List Int} {t p c : Int} {k : Nat} (h : TpI zs0 zs t p k c) (ht : 0 ≤ t ∧ t < 4294967296) (hk : k < zs0.length) : TpI zs0 (zs.set k ((c + nth zs k * t) % 4294967296)) t p (k + 1) ((c + nth zs k * t) / 4294967296) := by
  have h1 := h.fits ht
  have h2 := h.bound
  refine ⟨by rw [List.length_set]; exact h.len, h.dig.set _ (by omega), fun j hj => ?_, by omega, ?_⟩
  · rw [nth_set_ne (by omega)]; exact h.high j (by omega)
  · rw [U_set_succ (by rw [h.len]; exact hk), pB_succ]
    simp only [U]
    have hs := h.sum
    have e := Int.mul_ediv_add_emod (c + nth zs k * t) 4294967296
    rw [← h.high k (Nat.le_refl _)]
    generalize (c + nth zs k * t) / 4294967296 = hi at *
    generalize (c + nth zs k * t) % 4294967296 = lo at *
    have e2 : pB k * (4294967296 * hi + lo) = pB k * (c + nth zs k * t) := by rw [e]
    grind
theorem TpI.fin {X t p c : Int} {zs : List Int} (h : TpI (num X) zs t p (num X).length c) (hX : 0 ≤ X) (ht : 1 ≤ t) (hp : 0 ≤ p) : (c = 0 → zs = num (X * t + p)) ∧ (c ≠ 0 → zs ++ [c] = num (X * t + p)) := by
  have hs := h.sum
  have hv := num_val hX
  rw [U_val, hv] at hs
  have hz : U zs (num X).length = val zs := by rw [← h.len, U_val]
  rw [hz] at hs
  have hXt : X ≤ X * t := by
    have : X * 1 ≤ X * t := Int.mul_le_mul_of_nonneg_left ht hX
    omega
  have hb := h.bound
  constructor
  · intro hc
    subst hc
    have e : val zs = X * t + p := by omega
    rw [← e]
    refine num_of h.dig ?_
    rcases Nat.eq_zero_or_pos (num X).length with e0 | e0
    · exact .inl (List.eq_nil_of_length_eq_zero (by rw [h.len]; exact e0))
    · refine .inr ?_
      have := num_ge e0
      rw [h.len, e]
      omega
  · intro hc
    have e : val (zs ++ [c]) = X * t + p := by
      rw [← hs, ← U_val, List.length_append, List.length_singleton]
      simp only [U]
      rw [nth_append_right (Nat.le_refl _), Nat.sub_self, nth_zero, U_congr (x := zs ++ [c]) (y := zs) (fun j hj => nth_append_left hj), U_val, h.len, Int.mul_comm]
    rw [← e]
    refine num_of (h.dig.append (Dig.one hb)) (.inr ?_)
    rw [e, List.length_append, List.length_singleton, Nat.add_sub_cancel, h.len, ← hs]
    have h0 := val_nonneg h.dig
    have hp1 := pB_pos (num X).length
    have : 1 * pB (num X).length ≤ c * pB (num X).length := Int.mul_le_mul_of_nonneg_right (by omega) (by omega)
    omega

theorem owned {w : World} {base : Nat} {v : Value} {zs : List Int} (h : w.ownsRow base 42 1 v zs.length (zs.map (Value.int .u32))) : ∃ p c, v = .slice p zs.length c := by
  rcases h.2 with ⟨rfl, h0⟩ | ⟨g, cap, cur, rfl, _⟩
  · rw [h0]; exact ⟨_, _, rfl⟩
  · exact ⟨_, _, rfl⟩

set_option maxRecDepth 100000 in
set_option maxHeartbeats 2000000 in
theorem timesPlus_any {X t p : Int} {base : Nat} {v : Value} {w : World} (hown : w.ownsRow base 42 1 v (num X).length ((num X).map (Value.int .u32))) (hX : 0 ≤ X) (hl : (num X).length ≤ 1000000) (ht : 1 ≤ t ∧ t < 4294967296) (hp : 0 ≤ p ∧ p < 4294967296) (hbase : base ≤ w.heap.size) :
    Calls Tryd.prog 51 #[v, .int .u32 t, .int .u32 p] w fun e w' => ∃ v', e = .returned v' ∧ w'.ownsRow base 42 1 v' (num (X * t + p)).length ((num (X * t + p)).map (Value.int .u32)) ∧ Below base w w' := by
  obtain ⟨i0, hi, hz0, hz1, hz2⟩ := info_parts info42
  have hst := TpI.start (zs := num X) (t := t) (p := p) (num_dig X) hp
  obtain ⟨pv, cv, rfl⟩ := owned hown
  have hdX := num_dig X
  go_enter Tryd.func51, Tryd.ntmps51
  go_wp2
  go_loopw [7, 13] (fun c i wr => ∃ (k : Nat) (cc : Int) (zs : List Int), k ≤ (num X).length ∧ i = .int .i64 k ∧ c = .int .u64 cc ∧ wr.ownsRow base 42 1 (.slice pv (num X).length cv) (num X).length (zs.map (Value.int .u32)) ∧ Below base w wr ∧ TpI (num X) zs t p k cc) (fun _ i _ => (num X).length - (intOf i).toNat)
  case atStart => exact ⟨0, p, _, Nat.zero_le _, rfl, rfl, hown, Below.refl _ _, hst⟩
  case round =>
    obtain ⟨k, cc, zs, hk, rfl, rfl, ho, hbl, hinv⟩ := hrel
    have hbd := hinv.bound
    by_cases hlt : k < (num X).length
    · obtain ⟨g, rfl, hg⟩ : ∃ g, pv = some ⟨g, 0, none⟩ ∧ base ≤ g := by
        rcases ho.2 with ⟨_, h0⟩ | ⟨g, cap, cur, e, hg, _⟩
        · omega
        · simp only [Value.slice.injEq] at e
          exact ⟨g, e.1, hg⟩
      have hkz : k < zs.length := by rw [hinv.len]; exact hlt
      have hcl : wr.cell? ⟨g, k, none⟩ = some (.int .u32 (nth zs k)) := by
        rw [ho.cellAt k (by omega)]
        simp [nth, hkz]
      have hfr := ho.frozenAt k
      have hfit := hinv.fits (t := t) (by omega)
      have hstep := hinv.step (t := t) (by omega) hlt
      have hgz := hinv.dig.get k
      have hsto := (ho.stored k (.int .u32 ((cc + nth zs k * t) % 4294967296))).1
      rw [← List.map_set] at hsto
      go_wp2
      go_roundw
      case rel => exact ⟨k + 1, _, _, by omega, by go_num, rfl, hsto, hbl.setCell (p := ⟨g, k, none⟩) hg _, hstep⟩
      case measure => simp [intOf]; omega
    · obtain rfl : k = (num X).length := by omega
      obtain ⟨f1, f2⟩ := hinv.fin hX ht.1 hp.1
      have hlz := hinv.len
      by_cases hc : cc = 0
      · have e := f1 hc
        have hcc : (cc == 0) = true := by simp [hc]
        rw [e] at ho hlz
        have HO : Hid _ := ho
        have HLZ : Hid _ := hlz
        clear f1 f2 hinv ho hlz e
        go_wp2
        go_ret
        have := HO.out
        rw [HLZ.out]
        exact ⟨_, rfl, this, hbl⟩
      · have e := f2 hc
        have hcc : (cc == 0) = false := by simp [hc]
        have HE : Hid _ := e
        have HLZ : Hid _ := hlz
        clear f1 f2 hinv e hlz
        have hsz := hbl.size
        have hbn : Below wr.heap.size wr (wr.alloc (.cells #[.int .u32 cc] 42)) := (Below.refl _ _).alloc (Nat.le_refl _) _
        have hnew := Seg.new (q := .u32) wr #[.int .u32 cc] 42 [cc] 1 (by simp) (vs1 _)
        have hown5 : (wr.alloc (.cells #[.int .u32 cc] 42)).ownsRow base 42 1 (.slice pv (num X).length cv) (num X).length (zs.map (Value.int .u32)) := by
          refine ⟨ho.1, ?_⟩
          rcases ho.2 with h2 | ⟨g, cap, cur, hv, hg, hk, rest⟩
          · exact .inl h2
          · exact .inr ⟨g, cap, cur, hv, hg, (hbn.block g (Array.getElem?_eq_some_iff.1 hk).1).trans hk, rest⟩
        have hlt := ho.lt
        go_wp2_with (at_builtin; refine wpList_append_seg _ rfl _ _ 23 rfl base 42 i0 (.int .u32 0) 4 Tryd.underlying23 hi hz0 hz1 hz2 rfl (.slice pv (num X).length cv) (.slice (some ⟨wr.heap.size, 0, none⟩) 1 1) (num X).length _ rfl hown5 rfl hnew (by unfold maxLen; simp; omega) (by simp; omega) (by simp; omega) ?_; intro v6 w6 hown6 hgrow6 hob6)
        go_ret
        rw [← List.map_append, HE.out] at hown6
        refine ⟨_, rfl, ?_, (hbl.alloc (by omega) _).grown hgrow6 (by simp; omega) (fun k hk => (hlt k hk).1)⟩
        have e2 : (num X).length + [cc].length = (num (X * t + p)).length := by rw [← HE.out, List.length_append, HLZ.out]
        rw [e2] at hown6
        exact hown6

end Go.Proofs.YtkalknmindgljaaDoor
