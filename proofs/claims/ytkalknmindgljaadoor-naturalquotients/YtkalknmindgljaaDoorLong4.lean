/-
  The contract of natural.divideLong.
-/
import Derived.Deep.RegionWith
import Derived.Deep.DrawnRows
import Derived.Test.YtkalknmindgljaaDoorLong3
import Derived.Test.YtkalknmindgljaaDoorBackW
import Derived.Test.YtkalknmindgljaaDoorShr
import Derived.Test.YtkalknmindgljaaDoorLen
import Derived.Test.YtkalknmindgljaaDoorSqrt
namespace Go.Proofs.YtkalknmindgljaaDoor
open Go Go.Proofs Go.RowKit Go.Shelf

attribute [local go_sem] Oper.semAt_some
attribute [local go_sem ↓] Go.wp_at_zero Go.wp_at_succ

theorem top_ne {b : List Int} {m : Nat} (hn : trimL b = b) (hm : b.length = m + 1) : nth b m ≠ 0 := by
  intro h
  have h2 : b = b.take m ++ [nth b m] := by rw [← take_succ_nth b m (by omega), List.take_of_length_le (by omega)]
  have key : ∀ (x : List Int) (z : Int), z = 0 → (trimL (x ++ [z])).length ≤ x.length := by
    intro x z hz
    induction x with
    | nil => simp [trimL, hz]
    | cons y r ih =>
      simp only [List.cons_append, trimL]
      split
      · simp
      · simpa using ih
  have := key (b.take m) (nth b m) h
  rw [← h2, hn, List.length_take] at this
  omega
/-- How far the divisor is shifted. -/
theorem shift_top {x : Int} (h : 0 < x ∧ x < 4294967296) : ∃ s : Nat, s < 32 ∧ 32 - (Lib.bitLen x.toNat : Int) = s ∧ 2147483648 ≤ x * 2 ^ s ∧ (x + 1) * 2 ^ s ≤ 4294967296 := by
  obtain ⟨t1, t2, t3⟩ := bitLen_bounds x.toNat (by omega)
  have t1 := t1 (by omega)
  generalize Lib.bitLen x.toNat = B at *
  have hB : 1 ≤ B := by
    rcases Nat.eq_zero_or_pos B with h' | h'
    · subst h'; simp at t2; omega
    · exact h'
  refine ⟨32 - B, by omega, by omega, ?_, ?_⟩
  · have e : (2 : Int) ^ B * 2 ^ (32 - B) = 4294967296 := by rw [← Int.pow_add, show B + (32 - B) = 32 by omega]; rfl
    have k : ((2 ^ B : Nat) : Int) = 2 ^ B := Int.natCast_pow 2 B
    have hp := pow_pos2 (32 - B)
    have : (2 : Int) ^ B * 2 ^ (32 - B) ≤ (2 * x) * 2 ^ (32 - B) := Int.mul_le_mul_of_nonneg_right (by omega) (by omega)
    rw [e, Int.mul_assoc] at this
    omega
  · have e : (2 : Int) ^ B * 2 ^ (32 - B) = 4294967296 := by rw [← Int.pow_add, show B + (32 - B) = 32 by omega]; rfl
    have k : ((2 ^ B : Nat) : Int) = 2 ^ B := Int.natCast_pow 2 B
    have hp := pow_pos2 (32 - B)
    have : (x + 1) * 2 ^ (32 - B) ≤ (2 : Int) ^ B * 2 ^ (32 - B) := Int.mul_le_mul_of_nonneg_right (by omega) (by omega)
    omega
/-- The number, shifted, is below the divisor times 2^32 to the count of the quotient's limbs. -/
theorem long_start {a b : List Int} {s m n0 : Nat} (da : Dig a) (db : Dig b) (hb : b.length = n0 + 2) (h31 : 2147483648 ≤ nth b (n0 + 1)) (hs : s < 32) (hl : a.length + 1 = m + b.length) (zs qs : List Int) (hz : val zs = 2 ^ s * val a) (hzl : zs.length = a.length + 1) (hq : qs.length = m) :
    LongInv (2 ^ s * val a) b zs qs m := by
  have e1 : U zs (m + b.length) = 2 ^ s * val a := by rw [← hz, ← U_val, hzl, hl]
  refine ⟨?_, ?_⟩
  · rw [e1]
    have h1 := val_lt da
    have hp := pow_pos2 s
    have hp2 : (2 : Int) ^ s ≤ 2147483648 := by have := pow_le2 (show s ≤ 31 by omega); simpa using this
    have k1 : 2 ^ s * val a < 2 ^ s * pB a.length := Int.mul_lt_mul_of_pos_left h1 hp
    have hpB := pB_pos a.length
    have k2 : 2 ^ s * pB a.length ≤ 2147483648 * pB a.length := Int.mul_le_mul_of_nonneg_right hp2 (by omega)
    have hv : val b = U b (n0 + 1) + pB (n0 + 1) * nth b (n0 + 1) := by rw [← U_val, hb]; rfl
    have hU := (U_lt db (n0 + 1)).1
    have hpn := pB_pos (n0 + 1)
    have k3 : pB (n0 + 1) * 2147483648 ≤ pB (n0 + 1) * nth b (n0 + 1) := Int.mul_le_mul_of_nonneg_left h31 (by omega)
    have hpm := pB_pos m
    have k4 : pB (n0 + 1) * 2147483648 * pB m ≤ val b * pB m := Int.mul_le_mul_of_nonneg_right (by omega) (by omega)
    have e2 : pB (n0 + 1) * 2147483648 * pB m = 2147483648 * pB a.length := by
      have k5 := pB_add (n0 + 1) m
      rw [show a.length = (n0 + 1) + m by omega, k5, Int.mul_comm (pB (n0 + 1)) 2147483648, Int.mul_assoc]
    omega
  · rw [e1, List.drop_of_length_le (by omega)]
    simp [val]

theorem long_window {A G : Int} {ys zs qs : List Int} {z n0 : Nat} (h : LongInv A ys zs qs (z + 1)) (dz : Dig zs) (dy : Dig ys) (hy : ys.length = n0 + 2) (hy1 : 2147483648 ≤ nth ys (n0 + 1)) (hG : 0 ≤ G ∧ G < 4294967296)
    (hn : nth zs (z + ys.length) ≤ nth ys (n0 + 1) → G * (nth ys (n0 + 1) * 4294967296 + nth ys n0) ≤ (nth zs (z + ys.length) * 4294967296 + nth zs (z + (n0 + 1))) * 4294967296 + nth zs (z + n0) ∧ ∀ Q : Int, 0 ≤ Q → Q < 4294967296 → Q * (nth ys (n0 + 1) * 4294967296 + nth ys n0) ≤ (nth zs (z + ys.length) * 4294967296 + nth zs (z + (n0 + 1))) * 4294967296 + nth zs (z + n0) → Q ≤ G) :
    (G - 1) * val ys < U (zs.drop z) (ys.length + 1) ∧ U (zs.drop z) (ys.length + 1) < (G + 1) * val ys := by
  rw [hy] at hn ⊢
  have hlt := h.lt
  rw [hy, show z + 1 + (n0 + 2) = z + (n0 + 3) by omega, U_split, pB_succ] at hlt
  have h0 := (U_lt dz z).1
  have hp := pB_pos z
  refine guess_near (dz.drop z) dy hy hy1 hG ?_ (by rw [nth_drop, nth_drop, nth_drop]; exact hn)
  have k : pB z * U (zs.drop z) (n0 + 3) < pB z * (val ys * 4294967296) := by
    have e : pB z * (val ys * 4294967296) = val ys * (pB z * 4294967296) := by grind
    omega
  exact Int.lt_of_mul_lt_mul_left k (by omega)
theorem downs_snoc {L k : Nat} {pre : List (Fin L)} {x : Fin L} (hk : k ≤ L) (e : pre ++ [x] = (downs L).take k) : ∃ j, j ≤ L ∧ pre = (downs L).take j ∧ L - j = x.1 + 1 ∧ L - k = x.1 := by
  cases k with
  | zero => simp at e
  | succ j =>
    rw [downs_take_succ (by omega)] at e
    obtain ⟨e1, e2⟩ := List.append_inj' e rfl
    simp only [List.cons.injEq, and_true] at e2
    refine ⟨j, by omega, e1, ?_, ?_⟩ <;> rw [e2] <;> simp only <;> omega
theorem grown_box {A B : World} {g k : Nat} {t : TypeId} {v : Value} (h : A.grownBy B (some g)) (hb : Boxed A k t v) (hne : k ≠ g) : Boxed B k t v := (h.block k hb.lt (fun e => hne (Option.some.inj e))).trans hb
theorem grown_row {A B : World} {g k : Nat} {t : TypeId} {zs : List Int} (h : A.grownBy B (some g)) (hb : Row .u32 t A k zs) (hne : k ≠ g) : Row .u32 t B k zs := (h.block k hb.lt (fun e => hne (Option.some.inj e))).trans hb
theorem grown_others {A B : World} {g : Nat} {t : TypeId} {zs : List Int} (h : A.grownBy B (some g)) (hb : Row .u32 t A g zs) : KeepsOthers A B := KeepsOthers.of_grownBy h (fun j o e ho => by cases e; rw [hb] at ho; cases ho; rfl)
theorem grown_below {w A B : World} {g n : Nat} (h : A.grownBy B (some g)) (hb : Below n w A) (hn : n ≤ g) (hA : n ≤ A.heap.size) : Below n w B := hb.grown h hA (fun k e => by cases e; exact hn)
theorem same_others {A B : World} (h : B.heap = A.heap) : KeepsOthers A B := ⟨by rw [h]; exact Nat.le_refl _, fun k o hk _ => by rw [h]; exact hk⟩

set_option maxRecDepth 100000 in
set_option maxHeartbeats 4000000 in
theorem divideLong_any : ∀ (a b : List Int) (w : World) (sa sb : Value), U32 w sa a → U32 w sb b → Dig a → Dig b → trimL a = a → trimL b = b → 2 ≤ b.length → b.length ≤ a.length → a.length ≤ 1048576 → True →
  Calls Tryd.prog 46 #[sa, sb] w fun e w' => ∃ sq sr, e = .returned (.tuple #[sq, sr]) ∧ U32 w' sq (num (val a / val b)) ∧ U32 w' sr (num (val a % val b)) ∧ Below w.heap.size w w' := by
  intro a b w sa sb hA hB da db na nb h2 hle hl _
  obtain ⟨i0, hi, hz0, hz1, hz2⟩ := info_parts info42
  obtain ⟨pa, ca, rfl⟩ := hA.len
  obtain ⟨n0, hn0⟩ : ∃ n0, b.length = n0 + 2 := ⟨b.length - 2, by omega⟩
  obtain ⟨pb, ob, cb, rfl, hpb, hlb, hcb⟩ := hB.pos (by omega)
  have htop := top_ne nb (m := n0 + 1) (by omega)
  have hgt := db.get (n0 + 1)
  obtain ⟨s, hs, es, hs1, hs2⟩ := shift_top (x := nth b (n0 + 1)) (by omega)
  have hct := hcb (n0 + 1) (by omega)
  have hix : ((b.length : Int) - 1) = ((n0 + 1 : Nat) : Int) := by omega
  have hixl : n0 + 1 < b.length := by omega
  have HN : Hid (b.length = n0 + 2) := hn0
  have HNA : Hid (trimL a = a) := na
  have HNB : Hid (trimL b = b) := nb
  clear hn0 na nb
  refine (callsIn_wide (n := 4)).1 ?_
  refine callsIn_of_wp_N Tryd.func46 rfl trivial ?_ rfl
  simp only [Tryd.ntmps46, List.size_toArray, List.length_cons, List.length_nil, Nat.reduceAdd, Nat.reduceSub, Array.replicate_succ, Array.replicate_zero, List.push_toArray, List.append_toArray, List.nil_append, List.cons_append]
  gi_wp2_with fail
  refine ⟨trivial, ?_⟩
  refine (callsIn_wide.2 (Tryd.bits_LeadingZeros32 _ _ (by omega) (by omega))).mono ?_
  rintro e w1 ⟨rfl, rfl⟩
  rw [es]
  have bQ1 := Boxed.new w 23 (.slice none 0 0)
  have hB1 : Below w.heap.size w (w.alloc (.cells #[.slice none 0 0] 23)) := (Below.refl _ _).alloc (Nat.le_refl _) _
  obtain ⟨W1, hW1⟩ : ∃ W1, w.alloc (.cells #[.slice none 0 0] 23) = W1 := ⟨_, rfl⟩
  have sz1 : W1.heap.size = w.heap.size + 1 := by rw [← hW1]; simp
  rw [hW1] at bQ1 hB1 ⊢
  clear hW1 es hct hix hixl
  have hA1 := hA.go hB1
  have hBs1 := hB.go hB1
  gi_wp2_with fail
  refine ⟨trivial, ?_⟩
  refine (callsIn_wide.2 (shiftLeft_any hA1 da (by omega) hs)).mono ?_
  rintro e w2 ⟨zs0, rfl, hr0, dz0, lz0, vz0, hb2⟩
  rw [sz1] at hr0 hb2 ⊢
  have bQ2 : Boxed w2 w.heap.size 23 (.slice none 0 0) := (hb2.block _ (by omega)).trans bQ1
  have hB2 : Below w.heap.size w w2 := hB1.trans (hb2.mono (by omega))
  have lt2 := hr0.lt
  have bR3 := Boxed.new w2 23 (.slice (some ⟨w.heap.size + 1, 0, none⟩) (a.length + 1) (a.length + 1))
  have hB3 : Below w2.heap.size w2 (w2.alloc (.cells #[.slice (some ⟨w.heap.size + 1, 0, none⟩) (a.length + 1) (a.length + 1)] 23)) := (Below.refl _ _).alloc (Nat.le_refl _) _
  have hst2 : ∀ X, Below w2.heap.size w2 X → U32 X (.slice (some ⟨pb, ob, none⟩) b.length cb) b := fun X h => (hB.go hB2).go h
  gi_wp2_with fail
  obtain ⟨W3, hW3⟩ : ∃ W3, w2.alloc (.cells #[.slice (some ⟨w.heap.size + 1, 0, none⟩) (a.length + 1) (a.length + 1)] 23) = W3 := ⟨_, rfl⟩
  have sz3 : W3.heap.size = w2.heap.size + 1 := by rw [← hW3]; simp
  rw [hW3] at bR3 hB3 ⊢
  clear hW3
  refine ⟨trivial, ?_⟩
  refine (callsIn_wide.2 (shiftLeft_any (hst2 _ hB3) db (by omega) hs)).mono ?_
  rintro e w4 ⟨vs, rfl, hv0, dv0, lv0, vv0, hb4⟩
  rw [sz3] at hv0 hb4 ⊢
  gi_wp2_with fail
  refine ⟨trivial, ?_⟩
  have hsv := hv0.seg
  rw [lv0] at hsv
  refine (callsIn_wide.2 (trim2_at (n₀ := w4.heap.size) hsv (by omega) (Nat.le_refl _))).mono ?_
  rintro e w5 ⟨sy, rfl, hsy, hb5, hblk⟩
  obtain ⟨hyl, hy31⟩ := shl_top db dv0 vv0 (by omega) (by rw [HN.out]; exact hs1) (by rw [HN.out]; exact hs2)
  have hvy : val (trimL vs) = 2 ^ s * val b := by rw [val_trimL]; exact vv0
  have dy := dv0.trimL
  obtain ⟨yb, oy, cy, rfl, hyb, hyc, hcy⟩ := hsy.pos (by omega)
  obtain ⟨y1, m1, k1, e1, e2⟩ := hblk _ _ _ rfl
  simp only [Value.slice.injEq, Option.some.injEq] at e1
  obtain ⟨rfl, rfl, rfl⟩ := e1
  dsimp only at e2
  subst e2
  generalize trimL vs = ys at *
  have HYL : Hid (ys.length = b.length) := hyl
  clear hyl
  have bQ5 : Boxed w5 w.heap.size 23 (.slice none 0 0) := (hb5.block _ (by omega)).trans ((hb4.block _ (by omega)).trans ((hB3.block _ (by omega)).trans bQ2))
  have bR5 : Boxed w5 w2.heap.size 23 (.slice (some ⟨w.heap.size + 1, 0, none⟩) (a.length + 1) (a.length + 1)) := (hb5.block _ (by omega)).trans ((hb4.block _ (by omega)).trans bR3)
  have hr5 : Row .u32 42 w5 (w.heap.size + 1) zs0 := (hb5.block _ (by omega)).trans ((hb4.block _ (by omega)).trans ((hB3.block _ (by omega)).trans hr0))
  have hv5 : Row .u32 42 w5 (w2.heap.size + 1) vs := (hb5.block _ (by omega)).trans hv0
  have hB5 : Below w.heap.size w w5 := hB2.trans ((hB3.trans ((hb4.trans (hb5.mono (by omega))).mono (by omega))).mono (by omega))
  have lt5 : w2.heap.size + 1 < w5.heap.size := hv5.lt
  obtain ⟨T, hT⟩ : ∃ T, w2.heap.size = T := ⟨_, rfl⟩
  rw [hT] at lt2 lt5 hv5 bR5 hcy hsy ⊢
  clear hT hblk hsv hb5 hb4 hB3 bR3 bQ2 bQ1 hB1 hB2 hb2 hst2 hr0 hv0 hA1 hBs1 sz1 sz3 hcb hpb hyb hB hlb htop hgt hs1 hs2 hA HNA
  obtain ⟨L, hL⟩ : ∃ L, L = a.length - b.length + 1 := ⟨_, rfl⟩
  have eL : ((a.length : Int) - (b.length : Int) + 1) = (L : Int) := by omega
  have HL : Hid (a.length + 1 = L + b.length) := show a.length + 1 = L + b.length by omega
  have hL0 : 0 < L := by omega
  have hLu : L ≤ 1048577 := by omega
  clear hL
  have bY6 := Boxed.new w5 23 (.slice (some ⟨T + 1, oy, none⟩) ys.length cy)
  have hqa := bQ5.alloc (.cells #[.slice (some ⟨T + 1, oy, none⟩) ys.length cy] 23)
  gi_wp2_with (first | (gi_at_make; refine wpListIn_make_row _ rfl _ _ 23 rfl 42 i0 .u32 Tryd.underlying23 hi hz0 hz1 .i64 .i64 _ _ L rfl rfl (by omega) (by omega) (by rw [hz2]; omega) (by unfold maxLen; omega) ?_; intro w7 hrow hb7; have hqc := (hb7.block w.heap.size (by simp; omega)).trans hqa; have hq1 := Boxed.cell hqc; have hq2 := Boxed.frozen hqc) | (refine ⟨trivial, ?_⟩; gi_at_call 34; refine (back_in Fence.wide _ trivial rfl _ _ _ _).mono ?_; rintro e w' ⟨rfl, rfl⟩))
  have hcyW : ∀ W : World, Row .u32 42 W (T + 1) vs → ∀ j, j < ys.length → W.cell? ⟨T + 1, oy + j, none⟩ = some (.int .u32 (nth ys j)) := fun W h j hj => (World.cell?_of_block (w := w5) (h.trans hv5.symm)).trans (hcy j hj)
  rw [World.size_alloc] at hrow hb7
  have hB7 : Below w.heap.size w w7 := (hB5.alloc hB5.size _).trans (hb7.mono (by have := hB5.size; omega))
  have bR7 : Boxed w7 T 23 (.slice (some ⟨w.heap.size + 1, 0, none⟩) (a.length + 1) (a.length + 1)) := (hb7.block _ (by omega)).trans (bR5.alloc _)
  have bY7 : Boxed w7 w5.heap.size 23 (.slice (some ⟨T + 1, oy, none⟩) ys.length cy) := (hb7.block _ (by omega)).trans bY6
  have hr7 : Row .u32 42 w7 (w.heap.size + 1) zs0 := (hb7.block _ (by omega)).trans (Row.go hr5 ((Below.refl _ _).alloc (Nat.le_refl _) _))
  have hv7 : Row .u32 42 w7 (T + 1) vs := (hb7.block _ (by omega)).trans (Row.go hv5 ((Below.refl _ _).alloc (Nat.le_refl _) _))
  have lt7 := hrow.lt
  obtain ⟨Y, hY⟩ : ∃ Y, w5.heap.size = Y := ⟨_, rfl⟩
  rw [hY] at lt5 lt7 hrow bY7 ⊢
  obtain ⟨S, hS⟩ : ∃ S, w7.heap.size = S := ⟨_, rfl⟩
  obtain ⟨W0, hW0⟩ : ∃ W0, (w7.setCell ⟨w.heap.size, 0, none⟩ (.slice (some ⟨Y + 1, 0, none⟩) L L)).alloc (.cells #[.slice (some ⟨Y + 1, 0, none⟩) L L] 23) = W0 := ⟨_, rfl⟩
  have bQ : Boxed W0 w.heap.size 23 (.slice (some ⟨Y + 1, 0, none⟩) L L) := by rw [← hW0]; exact (Boxed.set _ hqc).alloc _
  have hBx : Below w7.heap.size (w7.setCell ⟨w.heap.size, 0, none⟩ (.slice (some ⟨Y + 1, 0, none⟩) L L)) W0 := by rw [← hW0]; exact (Below.refl _ _).alloc (by simp) _
  have bN : Boxed W0 S 23 (.slice (some ⟨Y + 1, 0, none⟩) L L) := by
    have := Boxed.new (w7.setCell ⟨w.heap.size, 0, none⟩ (.slice (some ⟨Y + 1, 0, none⟩) L L)) 23 (.slice (some ⟨Y + 1, 0, none⟩) L L)
    rw [← hW0, ← hS]; simpa using this
  have hsW : W0.heap.size = S + 1 := by rw [← hW0, ← hS]; simp
  have bR : Boxed W0 T 23 (.slice (some ⟨w.heap.size + 1, 0, none⟩) (a.length + 1) (a.length + 1)) := (hBx.block _ (by omega)).trans ((Below.heap_setCell _ _ _ _ (by simp; omega)).trans bR7)
  have bY : Boxed W0 Y 23 (.slice (some ⟨T + 1, oy, none⟩) ys.length cy) := (hBx.block _ (by omega)).trans ((Below.heap_setCell _ _ _ _ (by simp; omega)).trans bY7)
  have hr : Row .u32 42 W0 (w.heap.size + 1) zs0 := (hBx.block _ (by omega)).trans ((Below.heap_setCell _ _ _ _ (by simp)).trans hr7)
  have hv : Row .u32 42 W0 (T + 1) vs := (hBx.block _ (by omega)).trans ((Below.heap_setCell _ _ _ _ (by simp; omega)).trans hv7)
  have hq : Row .u32 42 W0 (Y + 1) (List.replicate L 0) := (hBx.block _ (by omega)).trans ((Below.heap_setCell _ _ _ _ (by simp; omega)).trans hrow)
  have hB0 : Below w.heap.size w W0 := by rw [← hW0]; exact (hB7.setCell (p := ⟨w.heap.size, 0, none⟩) (Nat.le_refl _) _).alloc (by simp; omega) _
  rw [hW0, hS]
  rw [hS] at lt7
  clear hW0 hBx hqc hq1 hq2 hrow hb7 hB7 bR7 bY7 hr7 hv7 hS hY bY6 hqa bQ5 hr5 hB5 bR5 hv5 hsy hcy
  have hinv0 : LongInv (2 ^ s * val a) ys zs0 (List.replicate L 0) L := long_start da dy (n0 := n0) (by rw [HYL.out]; exact HN.out) (by have := hy31; rw [HN.out] at this; exact this) hs (by rw [HYL.out]; exact HL.out) _ _ vz0 lz0 (by simp)
  have hy2 : ys.length = n0 + 2 := by rw [HYL.out]; exact HN.out
  have HY2 : Hid (ys.length = n0 + 2) := hy2
  have hy1 : 2147483648 ≤ nth ys (n0 + 1) := by have := hy31; rw [HN.out] at this; exact this
  clear hy2 hy31
  have hmx : Tryd.prog.follows .mixedOrders = true := by kernel_rfl
  refine wpIn_rangeFunc_ownG rfl (by omega) (gf := 58) (lb := #[.pointer (some ⟨S, 0, none⟩)]) rfl trivial (enters_of Tryd.func58 (by kernel_rfl) rfl)
    (backw_stops Fence.wide _ trivial rfl (by omega) S (Y + 1) L L hL0 (by omega) _ (by omega) (by omega) bN.cell ⟨_, hq, by simp⟩) keepW_t (keepW_b (by omega) (by omega)) (Below.refl _ _) (fun _ => rfl)
    (fun pre W => (Boxed W w.heap.size 23 (.slice (some ⟨Y + 1, 0, none⟩) L L) ∧ Boxed W T 23 (.slice (some ⟨w.heap.size + 1, 0, none⟩) (a.length + 1) (a.length + 1)) ∧ Boxed W Y 23 (.slice (some ⟨T + 1, oy, none⟩) ys.length cy) ∧ Boxed W S 23 (.slice (some ⟨Y + 1, 0, none⟩) L L) ∧ Row .u32 42 W (T + 1) vs ∧
      ∃ zs qs, Row .u32 42 W (w.heap.size + 1) zs ∧ Row .u32 42 W (Y + 1) qs ∧ zs.length = a.length + 1 ∧ qs.length = L ∧ Dig zs ∧ Dig qs ∧ ∀ k, k ≤ L → pre.map Prod.fst = (downs L).take k → LongInv (2 ^ s * val a) ys zs qs (L - k)) ∧ Below w.heap.size w W)
    (fun _ _ _ => False)
    (OwnFrom.and (Own.from (fun s A B row hs hg hr => by
      obtain ⟨h1, h2, h3, h0, h4, zs, qs, h5, h6, h7⟩ := hs
      exact ⟨block_kept h1 hg hr, block_kept h2 hg hr, block_kept h3 hg hr, block_kept h0 hg hr, block_kept h4 hg hr, zs, qs, block_kept h5 hg hr, block_kept h6 hg hr, h7⟩) _) (ownFrom_below (Nat.le_refl _) (by omega)))
    (fun _ _ _ _ _ hs _ _ => hs)
    ⟨⟨bQ, bR, bY, bN, hv, zs0, _, hr, hq, lz0, by simp, dz0, Dig.replicate _, fun k hk e => by
      have hk0 : k = 0 := by
        have := congrArg List.length e
        rw [List.length_map, List.length_take] at this
        simp [downs] at this
        omega
      subst hk0
      exact hinv0⟩, hB0⟩
    (fun z => { tmps := #[.slice pa a.length ca, .slice (some ⟨pb, ob, none⟩) b.length cb, undef, undef, .pointer (some ⟨w.heap.size, 0, none⟩), .slice none 0 0, .int .i64 s, .pointer (some ⟨T, 0, none⟩), .pointer (some ⟨Y, 0, none⟩), .int .i64 (z.1.1 : Int), undef, undef, .slice (some ⟨pb, ob, none⟩) b.length cb, .slice (some ⟨pb, ob, none⟩) b.length cb, .int .i64 b.length, .int .i64 ((n0 : Int) + 1), .pointer (some ⟨pb, ob + (n0 + 1), none⟩), .int .u32 (nth b (n0 + 1)), .int .i64 s, .slice pa a.length ca, .int .i64 s, .slice (some ⟨w.heap.size + 1, 0, none⟩) (a.length + 1) (a.length + 1), .slice (some ⟨pb, ob, none⟩) b.length cb, .int .i64 s, .slice (some ⟨T + 1, 0, none⟩) (b.length + 1) (b.length + 1), .slice (some ⟨T + 1, oy, none⟩) ys.length cy, .slice pa a.length ca, .int .i64 a.length, .slice (some ⟨pb, ob, none⟩) b.length cb, .int .i64 b.length, .int .i64 ((a.length : Int) - (b.length : Int)), .int .i64 L, .slice (some ⟨Y + 1, 0, none⟩) L L, .slice (some ⟨Y + 1, 0, none⟩) L L, .func (.func 58) #[] #[.pointer (some ⟨S, 0, none⟩)], .int .i64 (z.1.1 : Int), .int .u32 z.2, undef, undef, undef, undef, undef, undef, undef, undef, undef, undef, undef, undef, undef, undef, undef, undef, undef, undef, undef, undef, undef, undef, undef, undef, undef, undef, undef, undef, undef, undef, undef, undef, undef], defers := [] }) ?assign ?body ?done ?stop
  case assign =>
    intro l z W K hK
    gi_wp2
    exact hK
  case body =>
    rintro l pre z W ⟨⟨h1, h2, h3, h0, h4, zs, qs, h5, h6, lz, lq, dz, dq, hinv⟩, hB2⟩ _
    obtain ⟨⟨z, hz⟩, v⟩ := z
    dsimp only at *
    have c1 := h1.cell
    have c2 := h2.cell
    have c3 := h3.cell
    have hzM : z + ys.length + 1 ≤ a.length + 1 := by have := HL.out; have := HYL.out; omega
    have hcW := hcyW W h4
    have hl0 : n0 < ys.length := by have := HY2.out; omega
    have hl1 : n0 + 1 < ys.length := by have := HY2.out; omega
    have k1 := hcW (n0 + 1) hl1
    have k2 := hcW n0 hl0
    have y1 := dy.get (n0 + 1)
    have y2 := dy.get n0
    have k3 := h5.cell (j := z + ys.length) (by omega)
    have k4 := h5.cell (j := z + (n0 + 1)) (by omega)
    have k5 := h5.cell (j := z + n0) (by omega)
    have u0 := dz.get (z + ys.length)
    have u1 := dz.get (z + (n0 + 1))
    have u2 := dz.get (z + n0)
    have ew : z + ys.length + 1 - z = ys.length + 1 := by omega
    gi_wp2_with fail
    rw [ew]
    refine ⟨trivial, ?_⟩
    refine (CallsIn.inRound l (callsIn_wide.2 (guessLimb_core (n0 := n0) (n1 := n0 + 1) (n2 := ys.length) (by have := HY2.out; omega) (by have := HY2.out; omega) (by omega) (by omega) k1 k2 k3 k4 k5 ⟨hy1, y1.2⟩ y2 u0 u1 u2))).mono ?_
    rintro e w1 ⟨G, rfl, hG, hnear, hheap, hb1⟩
    have hne : T + 1 ≠ w.heap.size + 1 := by omega
    have h11 : Boxed w1 w.heap.size 23 (.slice (some ⟨Y + 1, 0, none⟩) L L) := by unfold Boxed at h1 ⊢; rw [hheap]; exact h1
    have h12 : Boxed w1 T 23 (.slice (some ⟨w.heap.size + 1, 0, none⟩) (a.length + 1) (a.length + 1)) := by unfold Boxed at h2 ⊢; rw [hheap]; exact h2
    have h13 : Boxed w1 Y 23 (.slice (some ⟨T + 1, oy, none⟩) ys.length cy) := by unfold Boxed at h3 ⊢; rw [hheap]; exact h3
    have h10 : Boxed w1 S 23 (.slice (some ⟨Y + 1, 0, none⟩) L L) := by unfold Boxed at h0 ⊢; rw [hheap]; exact h0
    have h14 : Row .u32 42 w1 (T + 1) vs := by unfold Row at h4 ⊢; rw [hheap]; exact h4
    have h15 : Row .u32 42 w1 (w.heap.size + 1) zs := by unfold Row at h5 ⊢; rw [hheap]; exact h5
    have h16 : Row .u32 42 w1 (Y + 1) qs := by unfold Row at h6 ⊢; rw [hheap]; exact h6
    have HH : Hid (w1.heap = W.heap) := hheap
    clear c1 c2 c3 k1 k2 k3 k4 k5 hheap
    have c13 := h13.cell
    gi_wp2_with fail
    refine ⟨trivial, ?_⟩
    refine (CallsIn.inRound l (callsIn_wide.2 (takeTimes_any (b := ys) (zs := zs) (hcyW w1 h14) hne h15 dy dz (Nat.le_refl _) (by omega) (by omega) hG))).mono ?_
    rintro e w2 ⟨bv, z1, rfl, h25, ht, hg2⟩
    have h21 := grown_box hg2 h11 (by omega)
    have h22 := grown_box hg2 h12 (by omega)
    have h23 := grown_box hg2 h13 (by omega)
    have h20 := grown_box hg2 h10 (by omega)
    have h24 := grown_row hg2 h14 (by omega)
    have h26 := grown_row hg2 h16 (by omega)
    have hk2 : KeepsOthers W w2 := (same_others HH.out).trans (grown_others hg2 h15)
    have hBw1 : Below w.heap.size w w1 := hB2.trans (hb1.mono hB2.size)
    have hB22 : Below w.heap.size w w2 := grown_below hg2 hBw1 (by omega) hBw1.size
    have hN2 : w2.heap[S]? = W.heap[S]? := (show _ = _ from h20).trans (show _ = _ from h0).symm
    have Hwin : Hid (∀ k, k ≤ L → (pre ++ [((⟨z, hz⟩ : Fin L), v)]).map Prod.fst = (downs L).take k → LongInv (2 ^ s * val a) ys zs qs (z + 1) ∧ L - k = z) := fun k hk e => by
      rw [List.map_append] at e
      obtain ⟨j, hj, e1, e2, e3⟩ := downs_snoc (x := ⟨z, hz⟩) hk e
      have := hinv j hj e1
      rw [e2] at this
      exact ⟨this, e3⟩
    have Hnear : Hid _ := hnear
    have hbo := ht.borrow
    have lt1 := ht.len
    clear hnear hg2 h10 h11 h12 h13 h14 h15 h16 h0 h1 h2 h3 h4 h5 h6 hinv
    have c21 := h21.cell
    have c23 := h23.cell
    by_cases hbv : bv = 0
    · subst hbv
      have c26 := h26.cell (j := z) (by omega)
      have f26 := h26.frozen z
      have hb0 : ((0 : Int) != 0) = false := rfl
      gi_wp2
      refine ⟨(hk2.trans (KeepsOthers.setCell _ _ _)).from _, ⟨(Below.heap_setCell _ ⟨Y + 1, z, none⟩ _ _ (by simp; omega)).trans hN2, fun _ => ⟨_, h26.set z G, by rw [List.length_set]; exact lq⟩⟩,
        ⟨(Below.heap_setCell _ ⟨Y + 1, z, none⟩ _ _ (by simp; omega)).trans h21, (Below.heap_setCell _ ⟨Y + 1, z, none⟩ _ _ (by simp; omega)).trans h22, (Below.heap_setCell _ ⟨Y + 1, z, none⟩ _ _ (by simp)).trans h23, (Below.heap_setCell _ ⟨Y + 1, z, none⟩ _ _ (by simp; omega)).trans h20, h24.other (p := ⟨Y + 1, z, none⟩) (by simp; omega) _,
          z1, _, h25.other (p := ⟨Y + 1, z, none⟩) (by simp; omega) _, h26.set z G, by omega, by rw [List.length_set]; exact lq, ht.dig, dq.set _ hG, fun k hk e => ?_⟩, hB22.setCell (p := ⟨Y + 1, z, none⟩) (by simp; omega) _⟩
      obtain ⟨e1, e2⟩ := Hwin.out k hk e
      have hw := long_window e1 dz dy HY2.out hy1 hG Hnear.out
      obtain ⟨t1, t2⟩ := ht.exact dy dz hw.2
      rw [e2]
      exact e1.step (by omega) t1 t2
    · obtain rfl : bv = 1 := by omega
      have hG1 : 1 ≤ G := by
        rcases Int.lt_or_le G 1 with c | c
        · exfalso
          obtain rfl : G = 0 := by omega
          have k1 := ht.sum
          have k2 := (U_lt ht.dig (z + ys.length + 1)).2
          have k3 := (U_lt dz (z + ys.length + 1)).1
          simp at k1
          omega
        · exact c
      have hb1' : ((1 : Int) != 0) = true := rfl
      gi_wp2_with fail
      refine ⟨trivial, ?_⟩
      refine (CallsIn.inRound l (callsIn_wide.2 (putBack_any (b := ys) (zs := z1) (hcyW w2 h24) hne h25 dy ht.dig (by omega) (by omega) (by omega)))).mono ?_
      rintro e w3 ⟨cv, z2, rfl, h35, ha, hg3⟩
      have h31 := grown_box hg3 h21 (by omega)
      have h32 := grown_box hg3 h22 (by omega)
      have h33 := grown_box hg3 h23 (by omega)
      have h30 := grown_box hg3 h20 (by omega)
      have h34 := grown_row hg3 h24 (by omega)
      have h36 := grown_row hg3 h26 (by omega)
      have hk3 : KeepsOthers W w3 := hk2.trans (grown_others hg3 h25)
      have hB33 : Below w.heap.size w w3 := grown_below hg3 hB22 (by omega) hB22.size
      have hN3 : w3.heap[S]? = W.heap[S]? := (show _ = _ from h30).trans ((show _ = _ from h20).symm.trans hN2)
      have lt2' := ha.len
      clear hg3 h21 h22 h23 h20 h24 h26 hk2 hB22 hN2 c21 c23
      have c31 := h31.cell
      have c36 := h36.cell (j := z) (by omega)
      have f36 := h36.frozen z
      gi_wp2
      refine ⟨(hk3.trans (KeepsOthers.setCell _ _ _)).from _, ⟨(Below.heap_setCell _ ⟨Y + 1, z, none⟩ _ _ (by simp; omega)).trans hN3, fun _ => ⟨_, h36.set z (G - 1), by rw [List.length_set]; exact lq⟩⟩,
        ⟨(Below.heap_setCell _ ⟨Y + 1, z, none⟩ _ _ (by simp; omega)).trans h31, (Below.heap_setCell _ ⟨Y + 1, z, none⟩ _ _ (by simp; omega)).trans h32, (Below.heap_setCell _ ⟨Y + 1, z, none⟩ _ _ (by simp)).trans h33, (Below.heap_setCell _ ⟨Y + 1, z, none⟩ _ _ (by simp; omega)).trans h30, h34.other (p := ⟨Y + 1, z, none⟩) (by simp; omega) _,
          z2, _, h35.other (p := ⟨Y + 1, z, none⟩) (by simp; omega) _, h36.set z (G - 1), by omega, by rw [List.length_set]; exact lq, ha.dig, dq.set _ (by omega), fun k hk e => ?_⟩, hB33.setCell (p := ⟨Y + 1, z, none⟩) (by simp; omega) _⟩
      obtain ⟨e1, e2⟩ := Hwin.out k hk e
      have hw := long_window e1 dz dy HY2.out hy1 hG Hnear.out
      obtain ⟨t1, t2⟩ := ht.back ha dy dz hw.1
      rw [e2]
      exact e1.step (by omega) t1 t2
  case done =>
    rintro D xs W hD hxs ⟨⟨h1, h2, h3, h0, h4, zs, qs, h5, h6, lz, lq, dz, dq, hinv⟩, hB2⟩ hK
    have hi0 := hinv L (Nat.le_refl _) (by rw [downs_all]; exact hxs)
    rw [Nat.sub_self] at hi0
    have hvb : 0 < val b := by
      have k1 := val_lt_len (x := []) Dig.nil db (HNB.out) (by simp; omega)
      simpa [val] using k1
    obtain ⟨hfq, hfr⟩ := hi0.fin hvy dz hvb
    have hyz : ys.length ≤ zs.length := by have := HL.out; have := HYL.out; omega
    have hnz : ys.length ≤ a.length + 1 := by omega
    have hzt : val (zs.take ys.length) = U zs ys.length := by
      rw [← U_val, List.length_take, Nat.min_eq_left hyz]
      exact U_congr (fun j hj => nth_take hj)
    have hlt : (zs.take ys.length).length = ys.length := by rw [List.length_take, Nat.min_eq_left hyz]
    have dzt := dz.take ys.length
    have hsq := h6.seg
    rw [lq] at hsq
    have hsz : U32 W (.slice (some ⟨w.heap.size + 1, 0, none⟩) ys.length (a.length + 1)) (zs.take ys.length) := .inr ⟨w.heap.size + 1, 0, a.length + 1, by rw [hlt], h5.lt, by rw [hlt]; exact hnz, fun j hj => by rw [hlt] at hj; rw [Nat.zero_add, nth_take hj]; exact h5.cell (by omega)⟩
    have HQ : Hid (trimL qs = num (val a / val b)) := by show _ = _; rw [trimL_num dq, hfq]
    have HR : Hid (∀ r : List Int, Dig r → val r = val (zs.take ys.length) / 2 ^ s → trimL r = num (val a % val b)) := fun r d e => by rw [trimL_num d, e, hzt, hfr]
    have c1 := h1.cell
    have f1 := h1.frozen
    have c2 := h2.cell
    have c3 := h3.cell
    have hDl : D < W.heap.size := (Array.getElem?_eq_some_iff.1 hK).1
    have hst : ∀ X, Below W.heap.size W X → Below w.heap.size w X ∧ X.cell? ⟨w.heap.size, 0, none⟩ = some (.slice (some ⟨Y + 1, 0, none⟩) L L) ∧ X.frozen? ⟨w.heap.size, 0, none⟩ = false ∧ X.cell? ⟨T, 0, none⟩ = some (.slice (some ⟨w.heap.size + 1, 0, none⟩) (a.length + 1) (a.length + 1)) ∧ X.cell? ⟨Y, 0, none⟩ = some (.slice (some ⟨T + 1, oy, none⟩) ys.length cy) ∧ U32s W.heap.size X (.slice (some ⟨Y + 1, 0, none⟩) L L) qs ∧ U32 X (.slice (some ⟨w.heap.size + 1, 0, none⟩) ys.length (a.length + 1)) (zs.take ys.length) ∧ W.heap.size ≤ X.heap.size := fun X h =>
      ⟨hB2.trans (h.mono hB2.size), (h.cell (p := ⟨w.heap.size, 0, none⟩) h1.lt).trans c1, (h.frozen (p := ⟨w.heap.size, 0, none⟩) h1.lt).trans f1, (h.cell (p := ⟨T, 0, none⟩) h2.lt).trans c2, (h.cell (p := ⟨Y, 0, none⟩) h3.lt).trans c3, Seg.below h hsq, hsz.go h, h.size⟩
    have hX1 : Below W.heap.size W W.drew := (Below.refl _ _).drew
    obtain ⟨hx1, hx2, hx3, hx4, hx5, hx6, hx7, hx8⟩ := hst _ hX1
    have hlq : qs.length ≤ 1073741824 := by omega
    have hlz : (zs.take ys.length).length ≤ 1073741824 := by rw [hlt]; omega
    clear h1 h2 h3 h0 h4 h5 h6 hinv hi0 hfq hfr hzt hsq hsz c1 f1 c2 c3 hcyW hinv0 bQ bR bY bN hr hv hq hB0 lq lz
    gi_wp2
    refine wpIn_mono (Q := fun e a' W' => match e with
      | .normal => ∃ sq sr st, a' = { tmps := #[.slice pa a.length ca, .slice (some ⟨pb, ob, none⟩) b.length cb, undef, undef, .pointer (some ⟨w.heap.size, 0, none⟩), st, .int .i64 s, .pointer (some ⟨T, 0, none⟩), .pointer (some ⟨Y, 0, none⟩), undef, undef, undef, .slice (some ⟨pb, ob, none⟩) b.length cb, .slice (some ⟨pb, ob, none⟩) b.length cb, .int .i64 b.length, .int .i64 ((n0 : Int) + 1), .pointer (some ⟨pb, ob + (n0 + 1), none⟩), .int .u32 (nth b (n0 + 1)), .int .i64 s, .slice pa a.length ca, .int .i64 s, .slice (some ⟨w.heap.size + 1, 0, none⟩) (a.length + 1) (a.length + 1), .slice (some ⟨pb, ob, none⟩) b.length cb, .int .i64 s, .slice (some ⟨T + 1, 0, none⟩) (b.length + 1) (b.length + 1), .slice (some ⟨T + 1, oy, none⟩) ys.length cy, .slice pa a.length ca, .int .i64 a.length, .slice (some ⟨pb, ob, none⟩) b.length cb, .int .i64 b.length, .int .i64 ((a.length : Int) - (b.length : Int)), .int .i64 L, .slice (some ⟨Y + 1, 0, none⟩) L L, .slice (some ⟨Y + 1, 0, none⟩) L L, .func (.func 58) #[] #[.pointer (some ⟨S, 0, none⟩)], undef, undef, undef, undef, undef, undef, undef, undef, undef, undef, undef, undef, undef, undef, undef, undef, undef, undef, undef, undef, undef, undef, undef, undef, undef, undef, .slice (some ⟨Y + 1, 0, none⟩) L L, sq, .slice (some ⟨w.heap.size + 1, 0, none⟩) (a.length + 1) (a.length + 1), .slice (some ⟨T + 1, oy, none⟩) ys.length cy, .int .i64 ys.length, .slice (some ⟨w.heap.size + 1, 0, none⟩) ys.length (a.length + 1), .int .i64 s, sr, st], defers := [{ target := .collected D, args := #[] }] } ∧
          U32 W' sq (num (val a / val b)) ∧ U32 W' st (num (val a % val b)) ∧ W'.cell? ⟨w.heap.size, 0, none⟩ = some sq ∧ W'.heap[D]? = some (.deferred (some [])) ∧ Below w.heap.size w W'
      | _ => False) ?reg ?rest
    case reg =>
      refine wpIn_wide.2 ?_
      go_region_with
        (first
        | (go_at_call 32; refine (trim2_at (n₀ := W.heap.size) (zs := qs) (by assumption) hlq (by assumption)).mono ?_; rintro e wq ⟨sq, rfl, hsq, hbq, hkq⟩; obtain ⟨pq, cq, rfl⟩ := hsq.len; have hXq : Below W.heap.size W wq := Below.trans (by assumption) (hbq.mono (by assumption)); obtain ⟨hx1, hx2, hx3, hx4, hx5, hx6, hx7, hx8⟩ := hst _ hXq)
        | (go_at_call 48; refine (shiftRight2_any (a := zs.take ys.length) (by assumption) dzt hlz hs).mono ?_; rintro e wr ⟨sr, r, rfl, hsr, dr, lr, vr, hbr, hkr⟩; obtain ⟨pr, cr, rfl⟩ := hsr.len; rw [lr, hlt] at hsr hkr; have hlr : r.length ≤ 1073741824 := (by rw [lr]; exact hlz); have hXr : Below W.heap.size W wr := Below.trans (by assumption) (hbr.mono (by assumption)); obtain ⟨hx1, hx2, hx3, hx4, hx5, hx6, hx7, hx8⟩ := hst _ hXr)
        | (go_at_call 32; refine (trim2_at (zs := r) (by first | exact hsr | exact Seg.go hsr hbq) hlr (Nat.le_refl _)).mono ?_; rintro e wt ⟨st, rfl, hst2, hbt, hkt⟩; obtain ⟨pt, ct, rfl⟩ := hst2.len; have hXt : Below W.heap.size W wt := Below.trans (by assumption) (hbt.mono (by assumption)); obtain ⟨hx1, hx2, hx3, hx4, hx5, hx6, hx7, hx8⟩ := hst _ hXt))
      all_goals
        have hsz : w.heap.size < W.heap.size := by omega
        have hszq : W.heap.size ≤ wq.heap.size := hXq.size
        refine ⟨_, _, _, rfl, ?_, ?_, World.cell?_setCell_same' _ _ _ (by rw [hx2]; rfl), ?_, hx1.setCell (p := ⟨w.heap.size, 0, none⟩) (Nat.le_refl _) _⟩
        · rw [← HQ.out]
          exact ((Seg.below ((hbr.trans (hbt.mono hbr.size)).mono hszq) hsq).setCell (fun x m k e => by obtain ⟨y, _, _, e', ey⟩ := hkq x m k e; cases e'; rw [← ey]; simp; omega) _).up (by simp; omega)
        · rw [← HR.out r dr vr]
          exact (hst2.setCell (fun x m k e => by obtain ⟨y, m', k', e', ey⟩ := hkt x m k e; have := hkr y m' k' e'; rw [← ey]; simp; omega) _).up (by simp; have := hbt.size; omega)
        · exact (Below.heap_setCell _ _ _ _ (by simp; omega)).trans ((hXt.block D hDl).trans hK)
    case rest =>
      rintro e a' W' h
      cases e with
      | normal =>
        obtain ⟨sq, sr, st, rfl, hq, hr, hc, hDD, hbb⟩ := h
        gi_wp2
        refine ⟨by simp, .inl ⟨_, _, rfl, run_takeDeferred hDD, ?_⟩⟩
        have hc5 := cell_kept hc (grownBy_putObj' _ D (.deferred none)) (fun r e => by cases e; exact ⟨_, hDD, rfl⟩)
        have hbK := belowK_b (w := w) (Nat.le_refl _) W' D _ (.deferred none) (by omega) hDD rfl rfl
        have hkp : ∀ {sv : Value} {zs : List Int}, U32 W' sv zs → U32 (W'.putObj D (.deferred none)) sv zs := fun {sv zs} h => by
          rcases h with h | ⟨b, off, cap, e, hb, hl, hcs⟩
          · exact .inl h
          · exact .inr ⟨b, off, cap, e, Nat.lt_of_lt_of_le hb (grownBy_putObj' W' D (.deferred none)).size, hl, fun j hj => cell_kept (hcs j hj) (grownBy_putObj' _ D (.deferred none)) (fun r e => by cases e; exact ⟨_, hDD, rfl⟩)⟩
        refine ⟨.tuple #[sq, st], ?_, sq, st, rfl, hkp hq, hkp hr, hbb.trans hbK⟩
        simp [results, Tryd.f46, go_sem, hc5]
      | _ => exact h.elim
  case stop =>
    rintro D c pre W _ _ h _
    exact h.elim

end Go.Proofs.YtkalknmindgljaaDoor
