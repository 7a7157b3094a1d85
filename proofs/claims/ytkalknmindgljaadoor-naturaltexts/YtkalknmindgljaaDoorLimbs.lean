/-
  Contracts of filigreeref01's limbs.
-/
import Derived.BigRegion
import Derived.Test.YtkalknmindgljaaDoorLen
import Derived.Test.YtkalknmindgljaaDoorSum
import Derived.Test.YtkalknmindgljaaDoorRefNew
namespace Go.Proofs.YtkalknmindgljaaDoor
open Go Go.Proofs Go.RowKit Go.Shelf

theorem val_set (zs : List Int) (q : Nat) (v : Int) (h : q < zs.length) : val (zs.set q v) = val zs + pB q * (v - nth zs q) := by
  induction zs generalizing q with
  | nil => simp at h
  | cons z r ih =>
    cases q with
    | zero => simp [val, pB, nth]; omega
    | succ q =>
      rw [List.set_cons_succ, val, ih q (by simpa using h), val, nth_succ, pB_succ]
      grind
structure LimbsInv (x zs : List Int) (i : Nat) : Prop where
  len : zs.length = (x.length + 31) / 32
  dig : Dig zs
  cur : nth zs (i / 32) < 2 ^ (i % 32)
  high : ∀ j, i / 32 < j → nth zs j = 0
  sum : val zs = V x i
theorem LimbsInv.start (x : List Int) : LimbsInv x (List.replicate ((x.length + 31) / 32) 0) 0 :=
  ⟨by simp, Dig.replicate _, by rw [nth_replicate]; decide, fun j _ => nth_replicate _ j, by rw [← U_val, U_zero (fun j _ => nth_replicate _ j)]; rfl⟩
theorem LimbsInv.step {x zs : List Int} {i : Nat} (h : LimbsInv x zs i) (hb : Bit x) (hi : i < x.length) : LimbsInv x (zs.set (i / 32) (nth zs (i / 32) + nth x i * 2 ^ (i % 32))) (i + 1) := by
  have hq : i / 32 < zs.length := by rw [h.len]; omega
  have hr : i % 32 < 32 := Nat.mod_lt _ (by omega)
  have h0 := (h.dig.get (i / 32)).1
  have h1 := h.cur
  have hp := pow_pos2 (i % 32)
  have hp2 : (2 : Int) ^ (i % 32 + 1) ≤ 4294967296 := by have := pow2_le (show i % 32 + 1 ≤ 32 by omega); simpa using this
  rw [Int.pow_succ] at hp2
  have hlt : 0 ≤ nth zs (i / 32) + nth x i * 2 ^ (i % 32) ∧ nth zs (i / 32) + nth x i * 2 ^ (i % 32) < 2 ^ (i % 32) * 2 := by
    rcases hb.get i with e | e <;> rw [e] <;> omega
  refine ⟨by rw [List.length_set]; exact h.len, h.dig.set _ (by omega), ?_, fun j hj => ?_, ?_⟩
  · by_cases c : i % 32 = 31
    · have e1 : (i + 1) / 32 = i / 32 + 1 := by omega
      rw [e1, nth_set_ne (by omega), h.high _ (by omega)]
      exact pow_pos2 _
    · have e1 : (i + 1) / 32 = i / 32 := by omega
      have e2 : (i + 1) % 32 = i % 32 + 1 := by omega
      rw [e1, e2, nth_set_eq hq, Int.pow_succ]
      exact hlt.2
  · rw [nth_set_ne (by omega), h.high j (by omega)]
  · rw [val_set _ _ _ hq, h.sum]
    simp only [V]
    have e : (2 : Int) ^ i = pB (i / 32) * 2 ^ (i % 32) := by rw [pB_two, ← Int.pow_add, Nat.div_add_mod]
    rw [e]
    grind
theorem or_bit (x b : Int) (r : Nat) (hr : r < 32) (hx : 0 ≤ x ∧ x < 2 ^ r) (hb : b = 0 ∨ b = 1) : bits BinOp.or IntKind.u32 x (b * 2 ^ r % 4294967296) = x + b * 2 ^ r := by
  have hp := pow_pos2 r
  have hp2 : (2 : Int) ^ (r + 1) ≤ 4294967296 := by have := pow2_le (show r + 1 ≤ 32 by omega); simpa using this
  rw [Int.pow_succ] at hp2
  have hm : b * 2 ^ r % 4294967296 = b * 2 ^ r := Int.emod_eq_of_lt (by rcases hb with e | e <;> rw [e] <;> omega) (by rcases hb with e | e <;> rw [e] <;> omega)
  rw [hm, u32_or _ _ hx.1 (by omega) (by rcases hb with e | e <;> rw [e] <;> omega) (by rcases hb with e | e <;> rw [e] <;> omega)]
  rcases hb with e | e
  · subst e; simp; omega
  · subst e
    obtain ⟨X, rfl⟩ := Int.eq_ofNat_of_zero_le hx.1
    have e2 : ((1 : Int) * 2 ^ r).toNat = 2 ^ r * 1 := by
      rw [Int.one_mul, Nat.mul_one]
      have : ((2 ^ r : Nat) : Int) = 2 ^ r := Int.natCast_pow 2 r
      omega
    have hX : X < 2 ^ r := by
      have : ((2 ^ r : Nat) : Int) = 2 ^ r := Int.natCast_pow 2 r
      omega
    rw [e2, Int.toNat_natCast, Nat.or_comm, ← Nat.two_pow_add_eq_or_of_lt hX]
    have : ((2 ^ r : Nat) : Int) = 2 ^ r := Int.natCast_pow 2 r
    omega

set_option maxRecDepth 100000 in
set_option maxHeartbeats 2000000 in
theorem limbs2_any {x : List Int} {w : World} {sx : Value} (hX : U8 w sx x) (hb : Bit x) (hl : x.length ≤ 34359738368) :
    Calls Tryd.prog 40 #[sx] w fun e w' => ∃ sv, e = .returned sv ∧ U32 w' sv (num (V x x.length)) ∧ Below w.heap.size w w' ∧ (∀ y m k, sv = .slice (some y) m k → w.heap.size ≤ y.block) := by
  obtain ⟨i0, hi, hz0, hz1, hz2⟩ := info_parts info42
  obtain ⟨px, cx, rfl⟩ := hX.len
  obtain ⟨L, hL⟩ : ∃ L, L = (x.length + 31) / 32 := ⟨_, rfl⟩
  have hL1 : L ≤ 1073741824 := by omega
  go_enter Tryd.func40, Tryd.ntmps40
  have HL : Hid (L = (x.length + 31) / 32) := hL
  clear hL
  go_wp2_with (at_make; refine wpList_make_full _ rfl _ _ 23 rfl w.heap.size 42 i0 (.int .u32 0) 1 Tryd.underlying23 hi hz0 hz1 .i64 .i64 _ _ L rfl rfl (by have := HL.out; omega) (by have := HL.out; omega) (by rw [hz2]; omega) (by unfold maxLen; omega) (Nat.le_refl _) ?_; intro w3 hown hgrow)
  have hrow := Row.made hown
  have hb3 : Below w.heap.size w w3 := (Below.refl _ _).grown hgrow (Nat.le_refl _) (fun k e => by cases e)
  have hX3 := Seg.below hb3 hX
  clear hown hgrow
  go_loopw [4] (fun i wr => ∃ (k : Nat) (zs : List Int), k ≤ x.length ∧ i = .int .i64 k ∧ Row .u32 42 wr w.heap.size zs ∧ Below w.heap.size w3 wr ∧ LimbsInv x zs k) (fun i _ => x.length - (intOf i).toNat)
  case atStart => exact ⟨0, _, Nat.zero_le _, rfl, hrow, Below.refl _ _, by rw [HL.out]; exact LimbsInv.start x⟩
  case round =>
    obtain ⟨k, zs, hk, rfl, hr, hnx, hinv⟩ := hrel
    by_cases hkt : k < x.length
    · have hxr := Seg.below hnx hX3
      obtain ⟨b1, o1, c1, e1, hb1, hl1, hc1⟩ := hxr.pos (by omega)
      simp only [Value.slice.injEq] at e1
      obtain ⟨rfl, _, rfl⟩ := e1
      have hcx := hc1 k hkt
      have hq : k / 32 < zs.length := by rw [hinv.len]; omega
      have hcl := hr.cell (j := k / 32) hq
      have hfr := hr.frozen (k / 32)
      have hgz := hinv.dig.get (k / 32)
      have hbx := hb.get k
      have hbx2 : 0 ≤ nth x k ∧ nth x k ≤ 1 := by rcases hbx with e | e <;> rw [e] <;> omega
      have hor := or_bit (nth zs (k / 32)) (nth x k) (k % 32) (Nat.mod_lt _ (by omega)) ⟨hgz.1, hinv.cur⟩ hbx
      have hstep := hinv.step hb hkt
      have hqL : k / 32 < L := by have := HL.out; omega
      have hd1 : IntKind.i64.wrap ((k : Int).tdiv 32) = ((k / 32 : Nat) : Int) := by rw [IntWalk.i64_quo _ _ ⟨by omega, by omega, by omega⟩]; rfl
      have hd2 : (k : Int).tmod 32 = ((k % 32 : Nat) : Int) := rfl
      have hd3 : IntKind.u64.wrap ((k % 32 : Nat) : Int) = ((k % 32 : Nat) : Int) := IntWalk.u64_in _ ⟨by omega, by omega⟩
      have hd4 : IntKind.i64.wrap ((k % 32 : Nat) : Int) = ((k % 32 : Nat) : Int) := IntWalk.i64_in _ ⟨by omega, by omega⟩
      have hd5 : k % 32 < 32 := Nat.mod_lt _ (by omega)
      have HLZ : Hid (zs.length = L) := by rw [HL.out]; exact hinv.len
      clear hbx
      go_wp2
      go_region
      all_goals
        go_wp2
        go_roundw
        case rel => exact ⟨k + 1, _, by omega, by go_num, Row.drew (hr.set _ _), (hnx.setCell (p := ⟨w.heap.size, k / 32, none⟩) (Nat.le_refl _) _).drew, hstep⟩
        case measure => simp [intOf]; omega
    · obtain rfl : k = x.length := by omega
      have hseg := hr.seg
      have hlz : zs.length = L := by rw [HL.out]; exact hinv.len
      rw [hlz] at hseg
      have hblw := hb3.trans hnx
      have hfin : trimL zs = num (V x x.length) := by rw [trimL_num hinv.dig, hinv.sum]
      have HF : Hid (trimL zs = num (V x x.length)) := hfin
      have HLZ : Hid (zs.length = L) := hlz
      clear hfin hlz
      go_wp2_with fail
      refine (refNorm2_any zs (by rw [HLZ.out]; omega) _ _ hseg).mono ?_
      rintro e w4 ⟨sv, rfl, hs, hb4, hnew⟩
      rw [HF.out] at hs
      go_wp2
      go_ret
      exact ⟨_, rfl, hs, hblw.trans (hb4.mono hblw.size), fun y m k e => Nat.le_trans hblw.size (hnew y m k e)⟩
theorem limbs_any {x : List Int} {w : World} {sx : Value} (hX : U8 w sx x) (hb : Bit x) (hl : x.length ≤ 34359738368) :
    Calls Tryd.prog 40 #[sx] w fun e w' => ∃ sv, e = .returned sv ∧ U32 w' sv (num (V x x.length)) ∧ Below w.heap.size w w' := by
  refine (limbs2_any hX hb hl).mono ?_
  rintro e w' ⟨sv, h1, h2, h3, _⟩
  exact ⟨sv, h1, h2, h3⟩

set_option maxHeartbeats 1000000 in
theorem refAdd_any {a b : List Int} {w : World} {sa sb : Value} (hA : U32 w sa a) (hB : U32 w sb b) (da : Dig a) (db : Dig b) (ha : a.length ≤ 1048576) (hb : b.length ≤ 1048576) :
    Calls Tryd.prog 21 #[sa, sb] w fun e w' => ∃ sv, e = .returned sv ∧ U32 w' sv (num (val a + val b)) ∧ Below w.heap.size w w' := by
  have l1 : Hid ((bitsL a).length = 32 * a.length) := bitsL_length a
  have l2 : Hid ((bitsL b).length = 32 * b.length) := bitsL_length b
  have m1 : (bitsL a).length ≤ 33554432 := by rw [l1.out]; omega
  have m2 : (bitsL b).length ≤ 33554432 := by rw [l2.out]; omega
  have v1 : Hid (V (bitsL a) (bitsL a).length = val a) := by rw [l1.out]; exact V_bitsL a da
  have v2 : Hid (V (bitsL b) (bitsL b).length = val b) := by rw [l2.out]; exact V_bitsL b db
  go_enter Tryd.func21, Tryd.ntmps21
  go_wp2_with fail
  refine (bits_any hA (by omega) da).mono ?_
  rintro e w1 ⟨s1, rfl, h1, hb1⟩
  go_wp2_with fail
  refine (bits_any (hB.go hb1) (by omega) db).mono ?_
  rintro e w2 ⟨s2, rfl, h2, hb2⟩
  go_wp2_with fail
  refine (sum_any (h1.go hb2) h2 (bit_bitsL a) (bit_bitsL b) (by omega) (by omega)).mono ?_
  rintro e w3 ⟨s3, z, rfl, h3, hz, hzl, hzv, hb3⟩
  rw [v1.out, v2.out] at hzv
  have HZ : Hid (V z z.length = val a + val b) := hzv
  have HZL : Hid (z.length = max (bitsL a).length (bitsL b).length + 1) := hzl
  have hz3 : z.length ≤ 33554433 := by omega
  clear hzv hzl
  go_wp2_with fail
  refine (limbs_any h3 hz (by omega)).mono ?_
  rintro e w4 ⟨s4, rfl, h4, hb4⟩
  rw [HZ.out] at h4
  go_wp2
  go_ret
  exact ⟨_, rfl, h4, hb1.trans ((hb2.trans ((hb3.trans (hb4.mono hb3.size)).mono hb2.size)).mono hb1.size)⟩

set_option maxHeartbeats 1000000 in
theorem refSub2_any {a b : List Int} {w : World} {sa sb : Value} (hA : U32 w sa a) (hB : U32 w sb b) (da : Dig a) (db : Dig b) (ha : a.length ≤ 1048576) (hb : b.length ≤ 1048576) :
    Calls Tryd.prog 19 #[sa, sb] w fun e w' => (val a < val b ∧ e = .returned (.tuple #[.slice none 0 0, .int .i64 17]) ∨ val b ≤ val a ∧ ∃ sv, e = .returned (.tuple #[sv, .int .i64 0]) ∧ U32 w' sv (num (val a - val b)) ∧ (∀ y m k, sv = .slice (some y) m k → w.heap.size ≤ y.block)) ∧ Below w.heap.size w w' := by
  have l1 : Hid ((bitsL a).length = 32 * a.length) := bitsL_length a
  have l2 : Hid ((bitsL b).length = 32 * b.length) := bitsL_length b
  have m1 : (bitsL a).length ≤ 33554432 := by rw [l1.out]; omega
  have m2 : (bitsL b).length ≤ 33554432 := by rw [l2.out]; omega
  have v1 : Hid (V (bitsL a) (bitsL a).length = val a) := by rw [l1.out]; exact V_bitsL a da
  have v2 : Hid (V (bitsL b) (bitsL b).length = val b) := by rw [l2.out]; exact V_bitsL b db
  go_enter Tryd.func19, Tryd.ntmps19
  go_wp2_with fail
  refine (refCmp_any hA hB da db (by omega) (by omega)).mono ?_
  rintro e w0 ⟨rfl, hb0⟩
  by_cases hlt : val a < val b
  · rw [cmpI_lt hlt]
    go_wp2
    go_ret2
    exact ⟨.inl ⟨hlt, rfl⟩, hb0⟩
  · have hcc : 0 ≤ cmpI (val a) (val b) := by unfold cmpI; rw [if_neg hlt]; split <;> omega
    generalize cmpI (val a) (val b) = cc at *
    have hA0 := hA.go hb0
    have hB0 := hB.go hb0
    have HLT : Hid (¬ val a < val b) := hlt
    clear hlt
    go_wp2_with fail
    refine (bits_any hA0 (by omega) da).mono ?_
    rintro e w1 ⟨s1, rfl, h1, hb1⟩
    go_wp2_with fail
    refine (bits_any (hB0.go hb1) (by omega) db).mono ?_
    rintro e w2 ⟨s2, rfl, h2, hb2⟩
    go_wp2_with fail
    refine (less_any (h1.go hb2) h2 (bit_bitsL a) (bit_bitsL b) (by omega) (by omega) (by rw [v1.out, v2.out]; have := HLT.out; omega)).mono ?_
    rintro e w3 ⟨s3, z, rfl, h3, hz, hzl, hzv, hb3⟩
    rw [v1.out, v2.out] at hzv
    have HZ : Hid (V z z.length = val a - val b) := hzv
    have hz3 : z.length ≤ 33554433 := by omega
    clear hzv hzl
    go_wp2_with fail
    refine (limbs2_any h3 hz (by omega)).mono ?_
    rintro e w4 ⟨s4, rfl, h4, hb4, hnew⟩
    rw [HZ.out] at h4
    go_wp2
    go_ret2
    have hb03 := hb0.trans ((hb1.trans ((hb2.trans (hb3.mono hb2.size)).mono hb1.size)).mono hb0.size)
    exact ⟨.inr ⟨by have := HLT.out; omega, _, rfl, h4, fun y m k e => Nat.le_trans hb03.size (hnew y m k e)⟩, hb03.trans (hb4.mono hb03.size)⟩

theorem refSub_any {a b : List Int} {w : World} {sa sb : Value} (hA : U32 w sa a) (hB : U32 w sb b) (da : Dig a) (db : Dig b) (ha : a.length ≤ 1048576) (hb : b.length ≤ 1048576) :
    Calls Tryd.prog 19 #[sa, sb] w fun e w' => (val a < val b ∧ e = .returned (.tuple #[.slice none 0 0, .int .i64 17]) ∨ val b ≤ val a ∧ ∃ sv, e = .returned (.tuple #[sv, .int .i64 0]) ∧ U32 w' sv (num (val a - val b))) ∧ Below w.heap.size w w' := by
  refine (refSub2_any hA hB da db ha hb).mono ?_
  rintro e w' ⟨h1 | ⟨h1, sv, h2, h3, _⟩, h4⟩
  · exact ⟨.inl h1, h4⟩
  · exact ⟨.inr ⟨h1, sv, h2, h3⟩, h4⟩

end Go.Proofs.YtkalknmindgljaaDoor
