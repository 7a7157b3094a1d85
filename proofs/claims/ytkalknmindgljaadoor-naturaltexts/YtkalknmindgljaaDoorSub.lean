/-
  The contract of natural.Sub.
-/
import Derived.Test.YtkalknmindgljaaDoorSub32
import Derived.Test.YtkalknmindgljaaDoorMul
namespace Go.Proofs.YtkalknmindgljaaDoor
open Go Go.Proofs Go.RowKit Go.Shelf

theorem U_drop (b : List Int) (k : Nat) : val b = U b k + pB k * val (b.drop k) := by
  induction k generalizing b with
  | zero => simp [U, pB]
  | succ k ih =>
    cases b with
    | nil => simp [val, U_zero (fun j _ => by simp [nth] : ∀ j, j < k + 1 → nth [] j = 0)]
    | cons z r =>
      rw [U_cons, val, ih r, List.drop_succ_cons, pB_succ]
      grind
theorem U_whole {b : List Int} (hb : Dig b) {k : Nat} (h : val b < pB k) : U b k = val b := by
  have h1 := U_drop b k
  have h2 := val_nonneg (hb.drop k)
  have h3 := (U_lt hb k).1
  have h4 := pB_pos k
  rcases Int.lt_or_eq_of_le h2 with c | c
  · have : pB k * 1 ≤ pB k * val (b.drop k) := Int.mul_le_mul_of_nonneg_left (by omega) (by omega)
    omega
  · rw [← c] at h1; omega
theorem bw_ok (a b c : Int) (hc : 0 ≤ c ∧ c ≤ 1) (ha : 0 ≤ a ∧ a < 4294967296) (hb : 0 ≤ b ∧ b < 4294967296) : (0 ≤ bw a b c ∧ bw a b c ≤ 1) ∧ (a - b - c) % 4294967296 = a - b - c + bw a b c * 4294967296 := by
  unfold bw
  split <;> omega
structure SubInv (x b zs : List Int) (k : Nat) (v : Int) : Prop where
  len : zs.length = x.length
  dig : Dig zs
  bound : 0 ≤ v ∧ v ≤ 1
  sum : U zs k + U b k = U x k + v * pB k
theorem SubInv.start (x b : List Int) : SubInv x b (List.replicate x.length 0) 0 0 := ⟨by simp, Dig.replicate _, by omega, by simp [U]⟩
theorem SubInv.step {x b zs : List Int} {k : Nat} {v : Int} (h : SubInv x b zs k v) (hk : k < x.length) (dx : Dig x) (db : Dig b) : SubInv x b (zs.set k ((nth x k - nth b k - v) % 4294967296)) (k + 1) (bw (nth x k) (nth b k) v) := by
  have h1 := dx.get k
  have h2 := db.get k
  obtain ⟨h3, h4⟩ := bw_ok (nth x k) (nth b k) v h.bound h1 h2
  refine ⟨by rw [List.length_set]; exact h.len, h.dig.set _ (by omega), h3, ?_⟩
  rw [U_set_succ (by rw [h.len]; exact hk), h4, pB_succ]
  simp only [U]
  have := h.sum
  grind
theorem SubInv.fin {x b zs : List Int} {v : Int} (h : SubInv x b zs x.length v) (dx : Dig x) (db : Dig b) (hle : val b ≤ val x) : trimL zs = num (val x - val b) := by
  have h1 := h.sum
  rw [U_whole db (by have := val_lt dx; omega), U_val, ← h.len, U_val] at h1
  have h2 := val_lt h.dig
  have h3 := pB_pos zs.length
  have hv : v = 0 := by
    rcases (show v = 0 ∨ v = 1 by have := h.bound; omega) with e | e
    · exact e
    · rw [e] at h1; omega
  rw [hv] at h1
  rw [trimL_num h.dig]
  congr 1
  omega

set_option maxRecDepth 100000 in
set_option maxHeartbeats 2000000 in
theorem sub_any {a b : List Int} {w : World} {sa sb : Value} (hA : U32 w sa a) (hB : U32 w sb b) (da : Dig a) (db : Dig b) (ha : a.length ≤ 1073741823) (hb : b.length ≤ 1073741823) :
    Calls Tryd.prog 18 #[sa, sb] w fun e w' => (val a < val b ∧ e = .returned (.tuple #[.slice none 0 0, .int .i64 17]) ∨ val b ≤ val a ∧ ∃ sv, e = .returned (.tuple #[sv, .int .i64 0]) ∧ U32 w' sv (num (val a - val b))) ∧ Below w.heap.size w w' := by
  obtain ⟨i0, hi, hz0, hz1, hz2⟩ := info_parts info42
  go_enter Tryd.func18, Tryd.ntmps18
  go_wp2_with fail
  refine (cmp_any hA hB da db (by omega) (by omega)).mono ?_
  rintro e w1 ⟨rfl, hb1⟩
  by_cases hlt : val a < val b
  · rw [cmpI_lt hlt]
    go_wp2
    go_ret2
    exact ⟨.inl ⟨hlt, rfl⟩, hb1⟩
  · have hcc : 0 ≤ cmpI (val a) (val b) := by unfold cmpI; rw [if_neg hlt]; split <;> omega
    generalize cmpI (val a) (val b) = cc at *
    have hA1 := hA.go hb1
    have hB1 := hB.go hb1
    go_wp2_with fail
    refine (trim_at hA1 (by omega) (Nat.le_refl _)).mono ?_
    rintro e w2 ⟨sx, rfl, hx, hb2⟩
    have hB2 := hB1.go hb2
    have hx2 := hx.up hb2.size
    have hbl : Below w.heap.size w w2 := hb1.trans (hb2.mono hb1.size)
    have l1 := trimL_length a
    have dx := da.trimL
    have v1 : Hid (val (trimL a) = val a) := val_trimL a
    clear hx hB1 hb1 hb2 hA hB hA1
    generalize trimL a = x at *
    obtain ⟨px, cx, rfl⟩ := hx2.len
    obtain ⟨pb, cb, rfl⟩ := hB2.len
    go_wp2_with (at_make; refine wpList_make_full _ rfl _ _ 23 rfl w2.heap.size 42 i0 (.int .u32 0) 1 Tryd.underlying23 hi hz0 hz1 .i64 .i64 _ _ x.length rfl rfl rfl rfl (by rw [hz2]; omega) (by unfold maxLen; omega) (Nat.le_refl _) ?_; intro w3 hown hgrow)
    have hrow := Row.made hown
    have hb3 : Below w2.heap.size w2 w3 := (Below.refl _ _).grown hgrow (Nat.le_refl _) (fun k e => by cases e)
    have hx3 := Seg.below hb3 hx2
    have hB3 := Seg.below hb3 hB2
    have hbl3 : Below w.heap.size w w3 := hbl.trans (hb3.mono hbl.size)
    clear hown hgrow hx2 hB2
    go_loopw [7, 20] (fun c i wr => ∃ (k : Nat) (v : Int) (zs : List Int), k ≤ x.length ∧ i = .int .i64 k ∧ c = .int .u32 v ∧ Row .u32 42 wr w2.heap.size zs ∧ Below w2.heap.size w3 wr ∧ SubInv x b zs k v) (fun _ i _ => x.length - (intOf i).toNat)
    case atStart => exact ⟨0, 0, _, Nat.zero_le _, rfl, rfl, hrow, Below.refl _ _, SubInv.start x b⟩
    case round =>
      obtain ⟨k, v, zs, hk, rfl, rfl, hr, hnx, hinv⟩ := hrel
      by_cases hkt : k < x.length
      · have hxr := Seg.below hnx hx3
        have hbr := Seg.below hnx hB3
        obtain ⟨b1, o1, c1, e1, hb1, hl1, hc1⟩ := hxr.pos (by omega)
        simp only [Value.slice.injEq] at e1
        obtain ⟨rfl, _, rfl⟩ := e1
        have hcx := hc1 k hkt
        have hcl := hr.cell (j := k) (by rw [hinv.len]; omega)
        have hfr := hr.frozen k
        have hgx := dx.get k
        have hgb := db.get k
        have hbv := hinv.bound
        have hstep := hinv.step hkt dx db
        have hbrd := hbr.drew
        have hk1 : k ≤ 9223372036854775807 := by omega
        go_wp2
        refine wp_np ?_
        go_region_with (first | (go_at_call 39; refine (limbAt_at hbrd (by omega) _ hk1).mono ?_; rintro e w' ⟨rfl, rfl⟩) | (go_at_call 38; refine (sub32_any _ _ _ hgx hgb hbv _).mono ?_; rintro e w' ⟨rfl, rfl⟩))
        all_goals
          dsimp only [NP]
          go_wp2
          go_roundw
          case rel => exact ⟨k + 1, _, _, by omega, by go_num, rfl, Row.set hr.drew _ _, hnx.drew.setCell (p := ⟨w2.heap.size, k, none⟩) (Nat.le_refl _) _, hstep⟩
          case measure => simp [intOf]; omega
      · obtain rfl : k = x.length := by omega
        have hseg := hr.seg
        rw [hinv.len] at hseg
        have hblw := hbl3.trans (hnx.mono hbl.size)
        have hfin := hinv.fin dx db (by rw [v1.out]; omega)
        rw [v1.out] at hfin
        go_wp2_with fail
        refine (trim_at hseg (by rw [hinv.len]; omega) (Nat.le_refl _)).mono ?_
        rintro e w4 ⟨sv, rfl, hs, hb4⟩
        rw [hfin] at hs
        go_wp2
        go_ret2
        exact ⟨.inr ⟨by omega, _, rfl, hs.up hb4.size⟩, hblw.trans (hb4.mono hblw.size)⟩

end Go.Proofs.YtkalknmindgljaaDoor
