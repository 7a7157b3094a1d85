/-
  Contracts of natural.Add.
-/
import Derived.Test.YtkalknmindgljaaDoorBits
import Derived.Test.YtkalknmindgljaaDoorNums3
namespace Go.Proofs.YtkalknmindgljaaDoor
open Go Go.Proofs Go.RowKit Go.Shelf

theorem carry_step (p s a b c : Int) (h : s + c * p = a + b) (x y : Int) : s + p * ((x + y + c) % 4294967296) + (x + y + c) / 4294967296 * (p * 4294967296) = a + p * x + (b + p * y) := by
  have e : x + y + c = 4294967296 * ((x + y + c) / 4294967296) + (x + y + c) % 4294967296 := (Int.mul_ediv_add_emod _ _).symm
  generalize (x + y + c) / 4294967296 = q at *
  generalize (x + y + c) % 4294967296 = r at *
  have : p * (x + y + c) = p * (4294967296 * q + r) := by rw [e]
  grind

theorem limbAt_at {zs : List Int} {w : World} {n₀ : Nat} {sv : Value} (hI : U32s n₀ w sv zs) (hl : zs.length ≤ 1073741824) (k : Nat) (hk : k ≤ 9223372036854775807) :
    Calls Tryd.prog 39 #[sv, .int .i64 k] w fun e w' => e = .returned (.int .u32 (nth zs k)) ∧ w' = w := limbAt_any zs k hk (by omega) w n₀ sv hI
theorem add_round {x y zs : List Int} {k : Nat} {c : Int} (hk : k < zs.length) (dx : Dig x) (dy : Dig y) (dz : Dig zs) (hc : 0 ≤ c ∧ c ≤ 1) (h : U zs k + c * pB k = U x k + U y k) :
    Dig (zs.set k ((nth x k + nth y k + c) % 4294967296)) ∧ (0 ≤ (nth x k + nth y k + c) / 4294967296 ∧ (nth x k + nth y k + c) / 4294967296 ≤ 1) ∧
      U (zs.set k ((nth x k + nth y k + c) % 4294967296)) (k + 1) + (nth x k + nth y k + c) / 4294967296 * pB (k + 1) = U x (k + 1) + U y (k + 1) := by
  have h1 := dx.get k; have h2 := dy.get k
  refine ⟨dz.set k (by omega), by omega, ?_⟩
  rw [U_set_succ hk, pB_succ]
  simp only [U]
  exact carry_step _ _ _ _ _ h _ _
theorem add_last {x y zs : List Int} {k : Nat} {c : Int} (hk : zs.length = k + 1) (dz : Dig zs) (hx : x.length ≤ k) (hy : y.length ≤ k) (hc : 0 ≤ c ∧ c ≤ 1) (h : U zs k + c * pB k = U x k + U y k) :
    Dig (zs.set k c) ∧ trimL (zs.set k c) = num (val x + val y) := by
  have hd : Dig (zs.set k c) := dz.set k (by omega)
  refine ⟨hd, ?_⟩
  rw [trimL_num hd, ← U_val, List.length_set, hk, U_set_succ (by omega), Int.mul_comm, h, U_ge x k hx, U_ge y k hy]

set_option maxRecDepth 100000 in
set_option maxHeartbeats 1000000 in
theorem add_any {a b : List Int} {w : World} {sa sb : Value} (hA : U32 w sa a) (hB : U32 w sb b) (da : Dig a) (db : Dig b) (ha : a.length ≤ 1073741823) (hb : b.length ≤ 1073741823) :
    Calls Tryd.prog 20 #[sa, sb] w fun e w' => ∃ sv, e = .returned sv ∧ U32 w' sv (num (val a + val b)) ∧ Below w.heap.size w w' := by
  obtain ⟨i0, hi, hz0, hz1, hz2⟩ := info_parts info42
  go_enter Tryd.func20, Tryd.ntmps20
  go_wp2_with fail
  refine (trim_at hA (by omega) (Nat.le_refl _)).mono ?_
  rintro e w1 ⟨sx, rfl, hx, hb1⟩
  have hB1 := Seg.below hb1 hB
  go_wp2_with fail
  refine (trim_at hB1 (by omega) hb1.size).mono ?_
  rintro e w2 ⟨sy, rfl, hy, hb2⟩
  have hx2 := Seg.below (hb2.mono hb1.size) hx
  have hbl : Below w.heap.size w w2 := hb1.trans (hb2.mono hb1.size)
  have l1 := trimL_length a
  have l2 := trimL_length b
  have dx := da.trimL
  have dy := db.trimL
  have v1 : Hid (val (trimL a) = val a) := val_trimL a
  have v2 : Hid (val (trimL b) = val b) := val_trimL b
  have hsz := hbl.size
  clear hx hB1 hb1 hb2 hA hB
  generalize trimL a = x at *
  generalize trimL b = y at *
  obtain ⟨px, cx, rfl⟩ := hx2.len
  obtain ⟨py, cy, rfl⟩ := hy.len
  obtain ⟨N, hN⟩ : ∃ N, N = max x.length y.length := ⟨_, rfl⟩
  have hN1 : x.length ≤ N := by omega
  have hN2 : y.length ≤ N := by omega
  have hN3 : N ≤ 1073741823 := by omega
  have HN : Hid (N = max x.length y.length) := hN
  clear hN
  go_wp2_with (at_make; refine wpList_make_full _ rfl _ _ 23 rfl w2.heap.size 42 i0 (.int .u32 0) 1 Tryd.underlying23 hi hz0 hz1 .i64 .i64 _ _ (N + 1) rfl rfl (by have := HN.out; omega) (by have := HN.out; omega) (by rw [hz2]; omega) (by unfold maxLen; omega) (Nat.le_refl _) ?_; intro w3 hown hgrow)
  all_goals
    have hrow := Row.made hown
    have hb3 : Below w2.heap.size w2 w3 := (Below.refl _ _).grown hgrow (Nat.le_refl _) (fun k e => by cases e)
    have hx3 := Seg.below (hb3.mono hsz) hx2
    have hy3 := Seg.below (hb3.mono hsz) hy
    have hbl3 : Below w.heap.size w w3 := hbl.trans (hb3.mono hsz)
    first | have hq : N ≤ y.length := by have := HN.out; omega | have hq : N ≤ x.length := by have := HN.out; omega
    clear hown hgrow hx2 hy
    go_loopw [7, 22] (fun c i wr => ∃ (k : Nat) (cv : Int) (zs : List Int), k ≤ N ∧ i = .int .i64 k ∧ c = .int .u32 cv ∧ Row .u32 42 wr w2.heap.size zs ∧ Below w2.heap.size w3 wr ∧ zs.length = N + 1 ∧ Dig zs ∧ (0 ≤ cv ∧ cv ≤ 1) ∧ U zs k + cv * pB k = U x k + U y k) (fun _ i _ => N - (intOf i).toNat)
    case atStart => exact ⟨0, 0, _, Nat.zero_le _, rfl, rfl, hrow, Below.refl _ _, by simp, Dig.replicate _, by omega, by simp [U]⟩
    case round =>
      obtain ⟨k, cv, zs, hk, rfl, rfl, hr, hnx, hzl, hdz, hcv, hinv⟩ := hrel
      have HZ : Hid (zs.length = N + 1) := hzl
      have HI : Hid (U zs k + cv * pB k = U x k + U y k) := hinv
      have hz2' : N + 1 ≤ zs.length := by omega
      clear hzl hinv
      by_cases hlt : k < N
      · have hxr := Seg.below (hnx.mono hsz) hx3
        have hyr := Seg.below (hnx.mono hsz) hy3
        have hcl := hr.cell (j := k) (by omega)
        have hfr := hr.frozen k
        have hgx := dx.get k
        have hgy := dy.get k
        have hstep := add_round (by omega) dx dy hdz hcv HI.out
        go_wp2_with (first | (go_at_call 39; refine (limbAt_at (by assumption) (by omega) _ (by omega)).mono ?_; rintro e w' ⟨rfl, rfl⟩) | (go_at_call 42; refine (add32_any _ _ _ (by omega) (by omega) (by omega) _).mono ?_; rintro e w' ⟨rfl, rfl⟩))
        go_roundw
        case rel => exact ⟨k + 1, _, _, by omega, by go_num, rfl, hr.set k _, hnx.setCell (p := ⟨w2.heap.size, k, none⟩) (Nat.le_refl _) _, by rw [List.length_set]; exact HZ.out, hstep.1, hstep.2.1, hstep.2.2⟩
        case measure => simp [intOf]; omega
      · obtain rfl : k = N := by omega
        have hlast := add_last HZ.out hdz hN1 hN2 hcv HI.out
        have hset := hr.set k cv
        have hnx2 := hnx.setCell (p := ⟨w2.heap.size, k, none⟩) (Nat.le_refl _) (.int .u32 cv)
        have hblw : Below w.heap.size w _ := hbl3.trans (hnx2.mono hsz)
        have hseg := hset.seg
        rw [List.length_set, HZ.out] at hseg
        have hcl := hr.cell (j := k) hz2'
        have hfr := hr.frozen k
        have hk2 : k ≤ 1073741823 := hN3
        first | have e : k = y.length := by omega | have e : k = x.length := by omega
        subst e
        go_wp2_with fail
        refine (trim_at hseg (by rw [List.length_set]; have := HZ.out; omega) (Nat.le_refl _)).mono ?_
        rintro e w4 ⟨sv, rfl, hs, hb4⟩
        rw [hlast.2, v1.out, v2.out] at hs
        go_wp2
        go_ret
        exact ⟨_, rfl, hs.up hb4.size, hblw.trans (hb4.mono hblw.size)⟩

end Go.Proofs.YtkalknmindgljaaDoor
