/-
  The contract of natural.shiftLeft; what a window becomes in a step of the long division.
-/
import Derived.BigRegion
import Derived.Test.YtkalknmindgljaaDoorKnuth
import Derived.Test.YtkalknmindgljaaDoorLong2
namespace Go.Proofs.YtkalknmindgljaaDoor
open Go Go.Proofs Go.RowKit Go.Shelf

theorem or_low (x t : Int) (s : Nat) (hx : 0 ≤ x ∧ x < 2 ^ s) (ht : 0 ≤ t) (hs : s < 32) (h : 2 ^ s * t < 4294967296) : bits BinOp.or IntKind.u32 x (2 ^ s * t) = x + 2 ^ s * t := by
  have hp := pow_pos2 s
  have hp2 : (2 : Int) ^ s ≤ 4294967296 := by have := pow_le2 (show s ≤ 32 by omega); simpa using this
  have h0 := Int.mul_nonneg (show (0 : Int) ≤ 2 ^ s by omega) ht
  rw [u32_or _ _ hx.1 (by omega) h0 h]
  obtain ⟨X, rfl⟩ := Int.eq_ofNat_of_zero_le hx.1
  obtain ⟨T, rfl⟩ := Int.eq_ofNat_of_zero_le ht
  have e1 : ((2 ^ s : Nat) : Int) = 2 ^ s := Int.natCast_pow 2 s
  have e2 : ((2 : Int) ^ s * (T : Int)).toNat = 2 ^ s * T := by rw [← e1, ← Int.natCast_mul, Int.toNat_natCast]
  rw [e2, Int.toNat_natCast, Nat.or_comm, ← Nat.two_pow_add_eq_or_of_lt (by omega), ← e1]
  rw [Int.natCast_add, Int.natCast_mul]
  omega
theorem shl_or {a zs : List Int} {s i : Nat} (h : ShlInv a zs s i) (hs : s < 32) : bits BinOp.or IntKind.u32 (nth zs i) (nth a i * 2 ^ s % 4294967296) = nth zs i + nth a i * 2 ^ s % 4294967296 := by
  have hb := h.bound hs
  have h0 := h.dig.get i
  rw [shl_low _ _ hs] at hb ⊢
  have he := pow_pos2 (32 - s)
  exact or_low _ _ s ⟨h0.1, h.cur⟩ (Int.emod_nonneg _ (by omega)) hs (by omega)

set_option maxRecDepth 100000 in
set_option maxHeartbeats 2000000 in
theorem shiftLeft_any {a : List Int} {w : World} {sa : Value} {s : Nat} (hA : U32 w sa a) (da : Dig a) (hl : a.length ≤ 1073741824) (hs : s < 32) :
    Calls Tryd.prog 61 #[sa, .int .i64 s] w fun e w' => ∃ zs, e = .returned (.slice (some ⟨w.heap.size, 0, none⟩) (a.length + 1) (a.length + 1)) ∧ Row .u32 42 w' w.heap.size zs ∧ Dig zs ∧ zs.length = a.length + 1 ∧ val zs = 2 ^ s * val a ∧ Below w.heap.size w w' := by
  obtain ⟨i0, hi, hz0, hz1, hz2⟩ := info_parts info42
  obtain ⟨px, cx, rfl⟩ := hA.len
  go_enter Tryd.func61, Tryd.ntmps61
  go_wp2_with (at_make; refine wpList_make_full _ rfl _ _ 23 rfl w.heap.size 42 i0 (.int .u32 0) 1 Tryd.underlying23 hi hz0 hz1 .i64 .i64 _ _ (a.length + 1) rfl rfl (by omega) (by omega) (by rw [hz2]; omega) (by unfold maxLen; omega) (Nat.le_refl _) ?_; intro w3 hown hgrow)
  have hrow := Row.made hown
  have hb3 : Below w.heap.size w w3 := (Below.refl _ _).grown hgrow (Nat.le_refl _) (fun k e => by cases e)
  have hX3 := Seg.below hb3 hA
  clear hown hgrow
  go_loopw [14] (fun i wr => ∃ (k : Nat) (zs : List Int), k ≤ a.length ∧ i = .int .i64 k ∧ Row .u32 42 wr w.heap.size zs ∧ Below w.heap.size w3 wr ∧ ShlInv a zs s k) (fun i _ => a.length - (intOf i).toNat)
  case atStart => exact ⟨0, _, Nat.zero_le _, rfl, hrow, Below.refl _ _, ShlInv.start a s⟩
  case round =>
    obtain ⟨k, zs, hk, rfl, hr, hnx, hinv⟩ := hrel
    by_cases hkt : k < a.length
    · have hxr := Seg.below hnx hX3
      obtain ⟨b1, o1, c1, e1, hb1, hl1, hc1⟩ := hxr.pos (by omega)
      simp only [Value.slice.injEq] at e1
      obtain ⟨rfl, _, rfl⟩ := e1
      have hcx := hc1 k hkt
      have hcl := hr.cell (j := k) (by rw [hinv.len]; omega)
      have hfr := hr.frozen k
      have hcl1 := hr.cell (j := k + 1) (by rw [hinv.len]; omega)
      have hfr1 := hr.frozen (k + 1)
      have hgz := hinv.dig.get k
      have hga := da.get k
      have hor := shl_or hinv hs
      have hbd := hinv.bound hs
      have hsh := shl_high hga s hs
      have hstep := hinv.step da hs hkt
      go_wp2
      go_roundw
      case rel => exact ⟨k + 1, _, by omega, by go_num, (hr.set _ _).set _ _, (hnx.setCell (p := ⟨w.heap.size, k, none⟩) (Nat.le_refl _) _).setCell (p := ⟨w.heap.size, k + 1, none⟩) (Nat.le_refl _) _, hstep⟩
      case measure => simp [intOf]; omega
    · obtain rfl : k = a.length := by omega
      have hfin := hinv.fin
      have hdz := hinv.dig
      have hlz := hinv.len
      go_wp2
      go_ret
      exact ⟨zs, rfl, hr, hdz, hlz, hfin, hb3.trans hnx⟩

/-- What the long division's step leaves of the number: the window's part above b's limbs is not looked at any more. -/
theorem Took.exact {zs z1 b : List Int} {o : Nat} {G : Int} (h : Took zs z1 b o G 0) (db : Dig b) (dz : Dig zs) (hw : U (zs.drop o) (b.length + 1) < (G + 1) * val b) :
    U z1 (o + b.length) = U zs (o + 1 + b.length) - G * val b * pB o ∧ U z1 (o + b.length) < val b * pB o := by
  have hs := h.sum
  have e1 : o + 1 + b.length = o + b.length + 1 := by omega
  have hR := U_split zs o (b.length + 1)
  rw [← Nat.add_assoc] at hR
  have h1 := U_lt dz o
  have hp := pB_pos o
  have k1 : pB o * (U (zs.drop o) (b.length + 1) + 1) ≤ pB o * ((G + 1) * val b) := Int.mul_le_mul_of_nonneg_left (by omega) (by omega)
  have h2 := U_lt h.dig (o + b.length + 1)
  have h3 := U_lt h.dig (o + b.length)
  have h4 : val b * pB o < pB (o + b.length) := by rw [pB_add, Int.mul_comm]; exact Int.mul_lt_mul_of_pos_left (val_lt db) hp
  rw [e1]
  have e2 : U z1 (o + b.length + 1) = U z1 (o + b.length) + pB (o + b.length) * nth z1 (o + b.length) := rfl
  have e3 : pB o * ((G + 1) * val b) = G * val b * pB o + val b * pB o := by grind
  have e4 : pB o * (U (zs.drop o) (b.length + 1) + 1) = pB o * U (zs.drop o) (b.length + 1) + pB o := by grind
  have hX : U z1 (o + b.length) = U zs (o + b.length + 1) - G * val b * pB o := same_of_mult (p := pB (o + b.length)) (k := - nth z1 (o + b.length)) h3 ⟨by omega, by omega⟩ (by rw [Int.mul_neg]; omega)
  exact ⟨hX, by omega⟩
theorem Took.back {zs z1 z2 b : List Int} {o : Nat} {G cv : Int} (h : Took zs z1 b o G 1) (h' : Added z1 z2 b o b.length 1 cv) (db : Dig b) (dz : Dig zs) (hw : (G - 1) * val b < U (zs.drop o) (b.length + 1)) :
    U z2 (o + b.length) = U zs (o + 1 + b.length) - (G - 1) * val b * pB o ∧ U z2 (o + b.length) < val b * pB o := by
  have hs := h.sum
  have ha := h'.sum
  rw [U_val, Int.one_mul] at ha
  have e1 : o + 1 + b.length = o + b.length + 1 := by omega
  have hR := U_split zs o (b.length + 1)
  rw [← Nat.add_assoc] at hR
  have h1 := U_lt dz o
  have hp := pB_pos o
  have k1 : pB o * ((G - 1) * val b) ≤ pB o * U (zs.drop o) (b.length + 1) := Int.mul_le_mul_of_nonneg_left (by omega) (by omega)
  have h2 := U_lt h.dig (o + b.length + 1)
  have h3 := U_lt h'.dig (o + b.length)
  have h4 : val b * pB o < pB (o + b.length) := by rw [pB_add, Int.mul_comm]; exact Int.mul_lt_mul_of_pos_left (val_lt db) hp
  rw [e1]
  have e2 : U z1 (o + b.length + 1) = U z1 (o + b.length) + pB (o + b.length) * nth z1 (o + b.length) := rfl
  have e3 : pB o * ((G - 1) * val b) = (G - 1) * val b * pB o := by grind
  have e4 : (G - 1) * val b * pB o = G * val b * pB o - val b * pB o := by grind
  have e5 : pB (o + b.length + 1) = pB (o + b.length) * 4294967296 := pB_succ _
  have hX : U z2 (o + b.length) = U zs (o + b.length + 1) - (G - 1) * val b * pB o := same_of_mult (p := pB (o + b.length)) (k := 4294967296 - nth z1 (o + b.length) - cv) h3 ⟨by omega, by omega⟩ (by rw [Int.mul_sub, Int.mul_sub, Int.mul_comm (pB (o + b.length)) cv]; omega)
  exact ⟨hX, by omega⟩

end Go.Proofs.YtkalknmindgljaaDoor
