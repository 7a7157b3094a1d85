/-
  Contracts of the document's answers (filigreeref01): bits, at, Cmp.
-/
import Derived.Maps.AppendAt
import Derived.Test.YtkalknmindgljaaDoorCmp
import Derived.Test.YtkalknmindgljaaDoorNums2
namespace Go.Proofs.YtkalknmindgljaaDoor
open Go Go.Proofs Go.RowKit Go.Shelf

theorem info5 : (Tryd.prog.info? 5).map (fun i => (i.zero, i.size, i.bytes)) = some (some (.int .u8 0), 1, 1) := by kernel_rfl

theorem owns_ge {w : World} {base : Nat} {e : TypeId} {size : Nat} {v : Value} {n : Nat} {xs : List Value} (h : w.ownsRow base e size v n xs) {i : Nat} (hi : v.ownBlock = some i) : base ≤ i := by
  rcases h.2 with ⟨rfl, _⟩ | ⟨g, cap, cur, rfl, hb, _⟩
  · cases hi
  · cases hi; exact hb
theorem and1_u32 (x : Int) (h0 : 0 ≤ x) (h1 : x < 4294967296) : bits BinOp.and IntKind.u32 x 1 = x % 2 := by
  rw [u32_and x 1 h0 h1 (by omega) (by omega)]
  have : x.toNat &&& (1 : Int).toNat = x.toNat % 2 := Nat.and_two_pow_sub_one_eq_mod x.toNat 1
  rw [this]
  omega
theorem div_pow_lt {x : Int} (h0 : 0 ≤ x) (h1 : x < 4294967296) (j : Nat) : 0 ≤ x / 2 ^ j ∧ x / 2 ^ j < 4294967296 :=
  ⟨Int.ediv_nonneg h0 (Int.le_of_lt (pow_pos2 j)), Int.lt_of_le_of_lt (Int.ediv_le_self _ h0) h1⟩

set_option maxRecDepth 100000 in
set_option maxHeartbeats 1000000 in
theorem bits_pos (zs : List Int) (hl : zs.length ≤ 1073741824) (hd : Dig zs) (w : World) (b off cap : Nat) (hb : b < w.heap.size) (hc : ∀ j, j < zs.length → w.cell? ⟨b, off + j, none⟩ = some (.int .u32 (nth zs j))) :
    Calls Tryd.prog 36 #[.slice (some ⟨b, off, none⟩) zs.length cap] w fun e w' => ∃ sv, e = .returned sv ∧ U8 w' sv (bitsL zs) ∧ Below w.heap.size w w' := by
  obtain ⟨i0, hi, hz0, hz1, hz2⟩ := info_parts info5
  go_enter Tryd.func36, Tryd.ntmps36
  go_wp2
  go_loopw [3, 4] (fun v i wr => ∃ k : Nat, k ≤ zs.length ∧ i = .int .i64 k ∧ wr.ownsRow w.heap.size 5 1 v (bitsL (zs.take k)).length ((bitsL (zs.take k)).map (Value.int .u8)) ∧ Below w.heap.size w wr) (fun _ i _ => zs.length - (intOf i).toNat)
  case atStart => exact ⟨0, Nat.zero_le _, rfl, World.ownsRow_nil _ _ _ _, Below.refl _ _⟩
  case round =>
    obtain ⟨k, hk, rfl, hown, hB⟩ := hrel
    by_cases hlt : k < zs.length
    · have hcx := (hB.cell (p := ⟨b, off + k, none⟩) hb).trans (hc k hlt)
      go_wp2
      go_loopw [3, 5] (fun v i wr => ∃ j : Nat, j ≤ 32 ∧ i = .int .i64 j ∧ wr.ownsRow w.heap.size 5 1 v (bitsL (zs.take k) ++ bN j (nth zs k)).length ((bitsL (zs.take k) ++ bN j (nth zs k)).map (Value.int .u8)) ∧ Below w.heap.size w wr) (fun _ i _ => 32 - (intOf i).toNat)
      case atStart => exact ⟨0, Nat.zero_le _, rfl, by simpa [bN] using hown, hB⟩
      case round =>
        obtain ⟨j, hj, rfl, hown2, hB2⟩ := hrel
        by_cases hjt : j < 32
        · have hcy := (hB2.cell (p := ⟨b, off + k, none⟩) hb).trans (hc k hlt)
          have hdg := hd.get k
          have hdv := div_pow_lt hdg.1 hdg.2 j
          have hm := and1_u32 _ hdv.1 hdv.2
          have hmm : nth zs k / 2 ^ j % 2 % 256 = nth zs k / 2 ^ j % 2 := by omega
          have hll : (bitsL (zs.take k) ++ bN j (nth zs k)).length = 32 * k + j := by rw [List.length_append, bitsL_length, bN_length, List.length_take, Nat.min_eq_left hk]
          have HL : Hid ((bitsL (zs.take k) ++ bN j (nth zs k)).length = 32 * k + j) := hll
          have HS : Hid (bitsL (zs.take k) ++ bN (j + 1) (nth zs k) = (bitsL (zs.take k) ++ bN j (nth zs k)) ++ [nth zs k / 2 ^ j % 2]) := by rw [bN_succ, List.append_assoc]; rfl
          have hle : (bitsL (zs.take k) ++ bN j (nth zs k)).length ≤ 34359738400 := by rw [hll]; omega
          clear hll
          have hsz := hB2.size
          generalize hX : bitsL (zs.take k) ++ bN j (nth zs k) = X at *
          clear hX
          go_wp2_with (at_builtin; refine wpList_append_own _ rfl _ _ 49 rfl w.heap.size 5 i0 (.int .u8 0) 1 1 Tryd.underlying49 hi hz0 hz1 hz2 rfl (by decide) _ _ _ rfl (hown2.alloc _) ⟨wr.heap.size, 0, none⟩ 1 1 [.int .u8 (nth zs k / 2 ^ j % 2)] rfl rfl (cell_one_new _ _ _) (by simp [Value.oneCell']) (by unfold maxLen; omega) (by omega) (by simp; omega) ?_; intro v' w1 hown' hgrow _)
          have hB3 : Below w.heap.size w w1 := (hB2.alloc hsz _).grown hgrow (by simp; omega) (fun i e => owns_ge hown2 e)
          go_roundw
          case rel => exact ⟨j + 1, by omega, by go_num, by rw [HS.out]; simpa using hown', hB3⟩
          case measure => simp [intOf]; omega
        · obtain rfl : j = 32 := by omega
          have HS : Hid (bitsL (zs.take (k + 1)) = bitsL (zs.take k) ++ bN 32 (nth zs k)) := bitsL_take_succ zs k hlt
          go_wp2
          go_roundw
          case rel => exact ⟨k + 1, by omega, by go_num, by rw [HS.out]; exact hown2, hB2⟩
          case measure => simp [intOf]; omega
    · obtain rfl : k = zs.length := by omega
      go_wp2
      go_ret
      rw [List.take_length] at hown
      exact ⟨_, rfl, Seg.of_owns hown, hB⟩

set_option maxHeartbeats 400000 in
theorem bits_any {zs : List Int} {w : World} {sv : Value} (hI : U32 w sv zs) (hl : zs.length ≤ 1073741824) (hd : Dig zs) :
    Calls Tryd.prog 36 #[sv] w fun e w' => ∃ sv, e = .returned sv ∧ U8 w' sv (bitsL zs) ∧ Below w.heap.size w w' := by
  rcases hI with ⟨⟨p, c, rfl⟩, rfl⟩ | ⟨b, off, cap, rfl, hb, _, hc⟩
  · go_enter Tryd.func36, Tryd.ntmps36
    go_wp2
    refine wp_loop_rounds 1 ?_; rw [rounds_succ]
    go_wp2
    go_ret
    exact ⟨_, rfl, .inl ⟨⟨_, _, rfl⟩, rfl⟩, Below.refl _ _⟩
  · exact bits_pos zs hl hd w b off cap hb hc

set_option maxHeartbeats 400000 in
theorem at_any {zs : List Int} {w : World} {n₀ : Nat} {sv : Value} (hI : Seg .u8 n₀ w sv zs) (hl : zs.length ≤ 9223372036854775807) (k : Nat) :
    Calls Tryd.prog 37 #[sv, .int .i64 k] w fun e w' => e = .returned (.int .u8 (nth zs k)) ∧ w' = w := by
  rcases hI with ⟨⟨p, c, rfl⟩, rfl⟩ | ⟨b, off, cap, rfl, hb, _, hc⟩
  · go_enter Tryd.func37, Tryd.ntmps37
    go_wp2
    go_ret
    exact ⟨ret_int (by simp [nth]), rfl⟩
  · by_cases h : k < zs.length
    · have hcx := hc k h
      go_enter Tryd.func37, Tryd.ntmps37
      go_wp2
      go_ret
      exact ⟨rfl, rfl⟩
    · go_enter Tryd.func37, Tryd.ntmps37
      go_wp2
      go_ret
      exact ⟨ret_int (nth_ge (by omega)).symm, rfl⟩

set_option maxRecDepth 100000 in
set_option maxHeartbeats 1000000 in
theorem refCmp_any {a b : List Int} {w : World} {sa sb : Value} (hA : U32 w sa a) (hB : U32 w sb b) (da : Dig a) (db : Dig b) (ha : a.length ≤ 1073741824) (hb : b.length ≤ 1073741824) :
    Calls Tryd.prog 17 #[sa, sb] w fun e w' => e = .returned (.int .i64 (cmpI (val a) (val b))) ∧ Below w.heap.size w w' := by
  have l1 : Hid ((bitsL a).length = 32 * a.length) := bitsL_length a
  have l2 : Hid ((bitsL b).length = 32 * b.length) := bitsL_length b
  have m1 : (bitsL a).length ≤ 34359738368 := by rw [l1.out]; omega
  have m2 : (bitsL b).length ≤ 34359738368 := by rw [l2.out]; omega
  have b1 := bit_bitsL a
  have b2 := bit_bitsL b
  have v1 : Hid (∀ n, 32 * a.length ≤ n → V (bitsL a) n = val a) := V_full a da
  have v2 : Hid (∀ n, 32 * b.length ≤ n → V (bitsL b) n = val b) := V_full b db
  go_enter Tryd.func17, Tryd.ntmps17
  go_wp2_with fail
  refine (bits_any hA ha da).mono ?_
  rintro e w1 ⟨sx, rfl, hx, hb1⟩
  have hB1 := hB.go hb1
  go_wp2_with fail
  refine (bits_any hB1 hb db).mono ?_
  rintro e w2 ⟨sy, rfl, hy, hb2⟩
  have hx2 := hx.go hb2
  have hbl : Below w.heap.size w w2 := hb1.trans (hb2.mono hb1.size)
  clear hx hB1 hb1 hb2 hA hB
  generalize bitsL a = x at *
  generalize bitsL b = y at *
  obtain ⟨px, cx, rfl⟩ := hx2.len
  obtain ⟨py, cy, rfl⟩ := hy.len
  go_wp2
  all_goals
    rename_i hmax
    go_loop [7] (fun i => ∃ k : Nat, k ≤ 34359738368 ∧ i = .int .i64 ((k : Int) - 1) ∧ (∀ j, k ≤ j → nth x j = nth y j)) (fun i => (intOf i + 1).toNat)
    case atStart => first | exact ⟨x.length, by omega, by go_num, fun j hj => by rw [nth_ge (by omega), nth_ge (by omega)]⟩ | exact ⟨y.length, by omega, by go_num, fun j hj => by rw [nth_ge (by omega), nth_ge (by omega)]⟩
    case round =>
      obtain ⟨k, hk, rfl, hj⟩ := hrel
      by_cases hlt : 0 < k
      · obtain ⟨m, rfl⟩ : ∃ m, k = m + 1 := ⟨k - 1, by omega⟩
        have em : (((m + 1 : Nat) : Int) - 1) = (m : Int) := by omega
        rw [em]
        clear em
        rcases Int.lt_trichotomy (nth x m) (nth y m) with c | c | c
        · have HV : Hid (cmpI (val a) (val b) = -1) := by
            have h3 := V_less b1 b2 (n := m + 1 + 32 * a.length + 32 * b.length) (by omega) hj c
            rw [v1.out _ (by omega), v2.out _ (by omega)] at h3
            exact cmpI_lt h3
          go_wp2_with (go_at_call 37; refine (at_any (by assumption) (by omega) _).mono ?_; rintro e w' ⟨rfl, rfl⟩)
          go_ret
          exact ⟨ret_int HV.out.symm, hbl⟩
        · have HE : Hid (∀ j, m ≤ j → nth x j = nth y j) := fun j h1 => by
            rcases Nat.eq_or_lt_of_le h1 with h | h
            · rw [← h]; exact c
            · exact hj j h
          have c1 : ¬ nth x m < nth y m := by omega
          have c2 : ¬ nth y m < nth x m := by omega
          clear c
          go_wp2_with (go_at_call 37; refine (at_any (by assumption) (by omega) _).mono ?_; rintro e w' ⟨rfl, rfl⟩)
          go_round
          case rel => exact ⟨m, by omega, rfl, HE.out⟩
          case measure => simp [intOf]
        · have HV : Hid (cmpI (val a) (val b) = 1) := by
            have h3 := V_less b2 b1 (n := m + 1 + 32 * a.length + 32 * b.length) (by omega) (fun j h => (hj j h).symm) c
            rw [v1.out _ (by omega), v2.out _ (by omega)] at h3
            exact cmpI_gt h3
          go_wp2_with (go_at_call 37; refine (at_any (by assumption) (by omega) _).mono ?_; rintro e w' ⟨rfl, rfl⟩)
          go_ret
          exact ⟨ret_int HV.out.symm, hbl⟩
      · obtain rfl : k = 0 := by omega
        have HV : Hid (cmpI (val a) (val b) = 0) := by
          have h3 := V_congr (n := 32 * a.length + 32 * b.length) (fun j _ => hj j (Nat.zero_le _))
          rw [v1.out _ (by omega), v2.out _ (by omega)] at h3
          exact cmpI_eq h3
        have em : (((0 : Nat) : Int) - 1) = -1 := by omega
        rw [em]
        go_wp2
        go_ret
        exact ⟨ret_int HV.out.symm, hbl⟩

end Go.Proofs.YtkalknmindgljaaDoor
