/-
  Contracts of natural.putBack and natural.takeTimes: only the row of the window is written.
-/
import Derived.BigRegion
import Derived.Test.YtkalknmindgljaaDoorMul
import Derived.Test.YtkalknmindgljaaDoorSub32
namespace Go.Proofs.YtkalknmindgljaaDoor
open Go Go.Proofs Go.RowKit Go.Shelf

theorem grown_refl (w : World) (row : Option Nat) : w.grownBy w row := ⟨rfl, rfl, rfl, Nat.le_refl _, fun _ _ _ => rfl⟩
theorem grown_set {a w : World} {g : Nat} (h : a.grownBy w (some g)) (o : Nat) (u : Value) : a.grownBy (w.setCell ⟨g, o, none⟩ u) (some g) :=
  ⟨h.os, h.tape, h.output, by simp [World.setCell]; exact h.size, fun k hk hne => (Below.heap_setCell _ _ _ _ (fun e => hne (by rw [e]))).trans (h.block k hk hne)⟩
theorem grown_drew {a w : World} {row : Option Nat} (h : a.grownBy w row) : a.grownBy w.drew row := ⟨h.os, h.tape, h.output, h.size, h.block⟩

theorem put_step {zs zs' b : List Int} {o j : Nat} {cv : Int} (h : Added zs zs' b o j 1 cv) (hb : Dig b) (hc : 0 ≤ cv ∧ cv ≤ 1) (hj : o + j < zs.length) :
    Added zs (zs'.set (o + j) ((nth zs' (o + j) + nth b j + cv) % 4294967296)) b o (j + 1) 1 ((nth zs' (o + j) + nth b j + cv) / 4294967296) ∧ 0 ≤ (nth zs' (o + j) + nth b j + cv) / 4294967296 ∧ (nth zs' (o + j) + nth b j + cv) / 4294967296 ≤ 1 := by
  have h1 := h.step hb (by omega) hj
  have h2 := h.dig.get (o + j)
  have h3 := hb.get j
  rw [show cv + (nth b j * 1 + nth zs' (o + j)) = nth zs' (o + j) + nth b j + cv by omega] at h1
  exact ⟨h1, by omega, by omega⟩

set_option maxRecDepth 100000 in
set_option maxHeartbeats 2000000 in
theorem putBack_any {b zs : List Int} {w : World} {g o n c bb ob cb : Nat} (hB : ∀ j, j < b.length → w.cell? ⟨bb, ob + j, none⟩ = some (.int .u32 (nth b j))) (hne : bb ≠ g) (hr : Row .u32 42 w g zs) (db : Dig b) (dz : Dig zs) (hb : b.length ≤ n) (hn : o + n ≤ zs.length) (hz : zs.length ≤ 4294967296) :
    Calls Tryd.prog 64 #[.slice (some ⟨g, o, none⟩) n c, .slice (some ⟨bb, ob, none⟩) b.length cb] w fun e w' => ∃ cv zs', e = .returned (.tuple #[]) ∧ Row .u32 42 w' g zs' ∧ Added zs zs' b o b.length 1 cv ∧ w.grownBy w' (some g) := by
  go_enter Tryd.func64, Tryd.ntmps64
  go_wp2
  go_loopw [4, 8] (fun c i wr => ∃ (j : Nat) (cv : Int) (zs' : List Int), j ≤ b.length ∧ i = .int .i64 j ∧ c = .int .u32 cv ∧ (0 ≤ cv ∧ cv ≤ 1) ∧ Row .u32 42 wr g zs' ∧ w.grownBy wr (some g) ∧ Added zs zs' b o j 1 cv) (fun _ i _ => b.length - (intOf i).toNat)
  case atStart => exact ⟨0, 0, _, Nat.zero_le _, rfl, rfl, by omega, hr, grown_refl _ _, Added.start dz⟩
  case round =>
    obtain ⟨j, cv, zs', hj, rfl, rfl, hcv, hrr, hg, hadd⟩ := hrel
    by_cases hlt : j < b.length
    · have hcb := hg.cell (hB j hlt) (by simpa using hne)
      have hcz := hrr.cell (j := o + j) (by rw [hadd.len]; omega)
      have hfz := hrr.frozen (o + j)
      have hstep := put_step hadd db hcv (by omega)
      have hgz := hadd.dig.get (o + j)
      have hgb := db.get j
      go_wp2
      go_region_with (go_at_call 42; refine (add32_any _ _ _ (by omega) (by omega) (by omega) _).mono ?_; rintro e w' ⟨rfl, rfl⟩)
      all_goals
        go_wp2
        go_roundw
        case rel => exact ⟨j + 1, _, _, by omega, by go_num, rfl, hstep.2, Row.drew (hrr.set _ _), grown_drew (grown_set hg _ _), hstep.1⟩
        case measure => simp [intOf]; omega
    · obtain rfl : j = b.length := by omega
      go_wp2
      go_end0
      exact ⟨cv, zs', rfl, hrr, hadd, hg⟩

/-- What a row has become by taking a multiple of b away from place o on, as far as place j of b. -/
structure Taken (zs zs' b : List Int) (o j : Nat) (t cv bv : Int) : Prop where
  len : zs'.length = zs.length
  dig : Dig zs'
  low : ∀ i, i < o → nth zs' i = nth zs i
  high : ∀ i, o + j ≤ i → nth zs' i = nth zs i
  bound : 0 ≤ cv ∧ cv < 4294967296
  borrow : 0 ≤ bv ∧ bv ≤ 1
  sum : U zs' (o + j) + t * U b j * pB o = U zs (o + j) + (cv + bv) * pB (o + j)
theorem Taken.start {zs b : List Int} {o : Nat} {t : Int} (h : Dig zs) : Taken zs zs b o 0 t 0 0 := ⟨rfl, h, fun _ _ => rfl, fun _ _ => rfl, by omega, by omega, by simp [U]⟩
theorem bw_eq (a b c : Int) (ha : 0 ≤ a ∧ a < 4294967296) (hb : 0 ≤ b ∧ b < 4294967296) (hc : 0 ≤ c ∧ c ≤ 1) : (a - b - c) % 4294967296 = a - b - c + bw a b c * 4294967296 ∧ 0 ≤ bw a b c ∧ bw a b c ≤ 1 := by
  unfold bw
  split <;> omega
theorem take_step (po pj U' Uz Ub t cv bv bj sj lo hi b2 z : Int) (h : U' + t * Ub * po = Uz + (cv + bv) * (po * pj)) (h1 : cv + bj * t = hi * 4294967296 + lo) (h2 : z = sj - lo - bv + b2 * 4294967296) :
    U' + po * pj * z + t * (Ub + pj * bj) * po = Uz + po * pj * sj + (hi + b2) * (po * pj * 4294967296) := by
  subst h2
  have : (po * pj) * (cv + bj * t) = (po * pj) * (hi * 4294967296 + lo) := by rw [h1]
  grind
theorem Taken.step {zs zs' b : List Int} {o j : Nat} {t cv bv : Int} (h : Taken zs zs' b o j t cv bv) (hb : Dig b) (ht : 0 ≤ t ∧ t < 4294967296) (hj : o + j < zs.length) :
    Taken zs (zs'.set (o + j) ((nth zs' (o + j) - (cv + nth b j * t) % 4294967296 - bv) % 4294967296)) b o (j + 1) t ((cv + nth b j * t) / 4294967296) (bw (nth zs' (o + j)) ((cv + nth b j * t) % 4294967296) bv) := by
  have h1 := mul_le_B (hb.get j) ht
  have h2 := h.dig.get (o + j)
  have h3 := h.bound
  have h4 := bw_eq (nth zs' (o + j)) ((cv + nth b j * t) % 4294967296) bv h2 (by omega) h.borrow
  refine ⟨by rw [List.length_set]; exact h.len, h.dig.set _ (by omega), fun i hi => ?_, fun i hi => ?_, by omega, h4.2, ?_⟩
  · rw [nth_set_ne (by omega)]; exact h.low i hi
  · rw [nth_set_ne (by omega)]; exact h.high i (by omega)
  · rw [← Nat.add_assoc, U_set_succ (by rw [h.len]; exact hj), pB_succ]
    simp only [U]
    have := h.sum
    rw [pB_add] at this ⊢
    have e : nth zs (o + j) = nth zs' (o + j) := (h.high (o + j) (Nat.le_refl _)).symm
    rw [e]
    exact take_step _ _ _ _ _ _ _ _ _ _ ((cv + nth b j * t) % 4294967296) ((cv + nth b j * t) / 4294967296) _ _ this (by omega) h4.1
/-- What takeTimes leaves. -/
structure Took (zs zs' b : List Int) (o : Nat) (t bv : Int) : Prop where
  len : zs'.length = zs.length
  dig : Dig zs'
  low : ∀ i, i < o → nth zs' i = nth zs i
  high : ∀ i, o + b.length + 1 ≤ i → nth zs' i = nth zs i
  borrow : 0 ≤ bv ∧ bv ≤ 1
  sum : U zs' (o + b.length + 1) + t * val b * pB o = U zs (o + b.length + 1) + bv * pB (o + b.length + 1)
theorem Taken.last {zs zs' b : List Int} {o : Nat} {t cv bv : Int} (h : Taken zs zs' b o b.length t cv bv) (hj : o + b.length < zs.length) :
    Took zs (zs'.set (o + b.length) ((nth zs' (o + b.length) - cv - bv) % 4294967296)) b o t (bw (nth zs' (o + b.length)) cv bv) := by
  have h2 := h.dig.get (o + b.length)
  have h4 := bw_eq (nth zs' (o + b.length)) cv bv h2 h.bound h.borrow
  refine ⟨by rw [List.length_set]; exact h.len, h.dig.set _ (by omega), fun i hi => ?_, fun i hi => ?_, h4.2, ?_⟩
  · rw [nth_set_ne (by omega)]; exact h.low i hi
  · rw [nth_set_ne (by omega)]; exact h.high i (by omega)
  · rw [U_set_succ (by rw [h.len]; exact hj), pB_succ]
    have := h.sum
    rw [U_val] at this
    simp only [U]
    have e : nth zs (o + b.length) = nth zs' (o + b.length) := (h.high (o + b.length) (Nat.le_refl _)).symm
    rw [e, h4.1]
    grind

set_option maxRecDepth 100000 in
set_option maxHeartbeats 2000000 in
theorem takeTimes_any {b zs : List Int} {w : World} {g o n c bb ob cb : Nat} {t : Int} (hB : ∀ j, j < b.length → w.cell? ⟨bb, ob + j, none⟩ = some (.int .u32 (nth b j))) (hne : bb ≠ g) (hr : Row .u32 42 w g zs) (db : Dig b) (dz : Dig zs) (hb : b.length + 1 ≤ n) (hn : o + n ≤ zs.length) (hz : zs.length ≤ 4294967296) (ht : 0 ≤ t ∧ t < 4294967296) :
    Calls Tryd.prog 63 #[.slice (some ⟨g, o, none⟩) n c, .slice (some ⟨bb, ob, none⟩) b.length cb, .int .u32 t] w fun e w' => ∃ bv zs', e = .returned (.bool (bv != 0)) ∧ Row .u32 42 w' g zs' ∧ Took zs zs' b o t bv ∧ w.grownBy w' (some g) := by
  go_enter Tryd.func63, Tryd.ntmps63
  go_wp2
  go_loopw [7, 8, 13] (fun c u i wr => ∃ (j : Nat) (cv bv : Int) (zs' : List Int), j ≤ b.length ∧ i = .int .i64 j ∧ c = .int .u64 cv ∧ u = .int .u32 bv ∧ Row .u32 42 wr g zs' ∧ w.grownBy wr (some g) ∧ Taken zs zs' b o j t cv bv) (fun _ _ i _ => b.length - (intOf i).toNat)
  case atStart => exact ⟨0, 0, 0, _, Nat.zero_le _, rfl, rfl, rfl, hr, grown_refl _ _, Taken.start dz⟩
  case round =>
    obtain ⟨j, cv, bv, zs', hj, rfl, rfl, rfl, hrr, hg, hadd⟩ := hrel
    have hbd := hadd.bound
    have hbo := hadd.borrow
    by_cases hlt : j < b.length
    · have hcb := hg.cell (hB j hlt) (by simpa using hne)
      have hcz := hrr.cell (j := o + j) (by rw [hadd.len]; omega)
      have hfz := hrr.frozen (o + j)
      have hstep := hadd.step db ht (by omega)
      have hgz := hadd.dig.get (o + j)
      have hgb := db.get j
      have hm := mul_le_B hgb ht
      go_wp2_with (go_at_call 38; refine (sub32_any _ _ _ (by omega) (by omega) (by omega) _).mono ?_; rintro e w' ⟨rfl, rfl⟩)
      go_roundw
      case rel => exact ⟨j + 1, _, _, _, by omega, by go_num, rfl, rfl, hrr.set _ _, grown_set hg _ _, hstep⟩
      case measure => simp [intOf]; omega
    · obtain rfl : j = b.length := by omega
      have hcz := hrr.cell (j := o + b.length) (by rw [hadd.len]; omega)
      have hfz := hrr.frozen (o + b.length)
      have hlast := hadd.last (by omega)
      have hgz := hadd.dig.get (o + b.length)
      go_wp2_with (go_at_call 38; refine (sub32_any _ _ _ (by omega) (by omega) (by omega) _).mono ?_; rintro e w' ⟨rfl, rfl⟩)
      go_ret
      exact ⟨_, _, rfl, hrr.set _ _, hlast, grown_set hg _ _⟩

end Go.Proofs.YtkalknmindgljaaDoor
