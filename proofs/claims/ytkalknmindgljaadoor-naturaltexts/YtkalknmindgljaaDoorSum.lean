/-
  Contracts of filigreeref01's sum and less, over bits.
-/
import Derived.Test.YtkalknmindgljaaDoorBits
namespace Go.Proofs.YtkalknmindgljaaDoor
open Go Go.Proofs Go.RowKit Go.Shelf

theorem and1_u8 (x : Int) (h0 : 0 ≤ x) (h1 : x < 256) : bits BinOp.and IntKind.u8 x 1 = x % 2 := by
  rw [u8_and x 1 h0 h1 (by omega) (by omega)]
  have : x.toNat &&& (1 : Int).toNat = x.toNat % 2 := Nat.and_two_pow_sub_one_eq_mod x.toNat 1
  rw [this]
  omega
theorem V_snoc (x : List Int) (b : Int) : V (x ++ [b]) (x.length + 1) = V x x.length + 2 ^ x.length * b := by
  have := V_append x [b] 1
  rw [this]
  simp [V, nth]
structure SumInv (x y out : List Int) (i : Nat) (c : Int) : Prop where
  len : out.length = i
  bit : Bit out
  bound : 0 ≤ c ∧ c ≤ 1
  sum : V out i + 2 ^ i * c = V x i + V y i
theorem SumInv.start (x y : List Int) : SumInv x y [] 0 0 := ⟨rfl, Bit.nil, by omega, by simp [V]⟩
theorem SumInv.step {x y out : List Int} {i : Nat} {c : Int} (h : SumInv x y out i c) (hx : Bit x) (hy : Bit y) :
    SumInv x y (out ++ [(nth x i + nth y i + c) % 2]) (i + 1) ((nth x i + nth y i + c) / 2) := by
  have h1 := hx.get i
  have h2 := hy.get i
  have h3 := h.bound
  refine ⟨by simp [h.len], h.bit.append (Bit.one (by omega)), by omega, ?_⟩
  have e := V_snoc out ((nth x i + nth y i + c) % 2)
  rw [h.len] at e
  rw [e]
  simp only [V]
  have hs := h.sum
  have hd := Int.mul_ediv_add_emod (nth x i + nth y i + c) 2
  generalize (nth x i + nth y i + c) / 2 = q at *
  generalize (nth x i + nth y i + c) % 2 = r at *
  rw [Int.pow_succ]
  grind

theorem V_at {x : List Int} {n : Nat} (h : x.length ≤ n) : V x n = V x x.length := by
  obtain ⟨t, rfl⟩ := Nat.exists_eq_add_of_le h
  exact V_ge x _ t (Nat.le_refl _)
theorem SumInv.fin {x y out : List Int} {N : Nat} {c : Int} (h : SumInv x y out (N + 1) c) (bx : Bit x) (bY : Bit y) (hx : x.length ≤ N) (hy : y.length ≤ N) : V out out.length = V x x.length + V y y.length := by
  have h1 := h.sum
  have h2 := (V_lt bx N).2
  have h3 := (V_lt bY N).2
  have h4 := (V_lt h.bit (N + 1)).1
  have h5 := h.bound
  rw [V_at hx] at h2
  rw [V_at hy] at h3
  rw [V_at (show x.length ≤ N + 1 by omega), V_at (show y.length ≤ N + 1 by omega)] at h1
  rw [Int.pow_succ] at h1
  have hp := pow_pos2 N
  have hc : c = 0 := by
    rcases (show c = 0 ∨ c = 1 by omega) with e | e
    · exact e
    · rw [e] at h1; omega
  rw [hc] at h1
  rw [h.len]
  omega

set_option maxRecDepth 100000 in
set_option maxHeartbeats 2000000 in
theorem sum_own {x y : List Int} {w : World} {sx sy : Value} (hX : U8 w sx x) (hY : U8 w sy y) (bx : Bit x) (bY : Bit y) (lx : x.length ≤ 34359738368) (ly : y.length ≤ 34359738368) :
    Calls Tryd.prog 43 #[sx, sy] w fun e w' => ∃ sv z, e = .returned sv ∧ w'.ownsRow w.heap.size 5 1 sv z.length (z.map (Value.int .u8)) ∧ Bit z ∧ z.length = max x.length y.length + 1 ∧ V z z.length = V x x.length + V y y.length ∧ Below w.heap.size w w' := by
  obtain ⟨i0, hi, hz0, hz1, hz2⟩ := info_parts info5
  obtain ⟨px, cx, rfl⟩ := hX.len
  obtain ⟨py, cy, rfl⟩ := hY.len
  obtain ⟨N, hN⟩ : ∃ N, N = max x.length y.length := ⟨_, rfl⟩
  have hN1 : x.length ≤ N := by omega
  have hN2 : y.length ≤ N := by omega
  have hN3 : N ≤ 34359738368 := by omega
  have hN4 : N ≤ x.length ∨ N ≤ y.length := by omega
  have HN : Hid (N = max x.length y.length) := hN
  clear hN
  go_enter Tryd.func43, Tryd.ntmps43
  go_wp2
  go_loopw [5, 6, 7] (fun v c i wr => ∃ (k : Nat) (cv : Int) (out : List Int), k ≤ N + 1 ∧ i = .int .i64 k ∧ c = .int .u8 cv ∧ wr.ownsRow w.heap.size 5 1 v out.length (out.map (Value.int .u8)) ∧ Below w.heap.size w wr ∧ SumInv x y out k cv) (fun _ _ i _ => N + 1 - (intOf i).toNat)
  case atStart => exact ⟨0, 0, [], Nat.zero_le _, rfl, rfl, World.ownsRow_nil _ _ _ _, Below.refl _ _, SumInv.start x y⟩
  case round =>
    obtain ⟨k, cv, out, hk, rfl, rfl, hown, hB, hinv⟩ := hrel
    have hXr := Seg.below hB hX
    have hYr := Seg.below hB hY
    have hgx := bx.get k
    have hgy := bY.get k
    have hcv := hinv.bound
    have hgx2 : 0 ≤ nth x k ∧ nth x k ≤ 1 := by omega
    have hgy2 : 0 ≤ nth y k ∧ nth y k ≤ 1 := by omega
    clear hgx hgy
    rcases Nat.lt_or_ge x.length y.length with hxy | hxy
    all_goals
      by_cases hlt : k ≤ N
      · have hm := and1_u8 (nth x k + nth y k + cv) (by omega) (by omega)
        have hstep := hinv.step bx bY
        have hol : out.length ≤ 34359738370 := by have := hinv.len; omega
        have hsz := hB.size
        have HO : Hid (out.length = k) := hinv.len
        first | have hky : k ≤ y.length := by omega | have hkx : k ≤ x.length := by omega
        go_wp2_with (first | (go_at_call 37; refine (at_any (by assumption) (by omega) _).mono ?_; rintro e w' ⟨rfl, rfl⟩) | (at_builtin; refine wpList_append_own _ rfl _ _ 49 rfl w.heap.size 5 i0 (.int .u8 0) 1 1 Tryd.underlying49 hi hz0 hz1 hz2 rfl (by decide) _ _ _ rfl (hown.alloc _) ⟨w'.heap.size, 0, none⟩ 1 1 [.int .u8 ((nth x k + nth y k + cv) % 2)] rfl rfl (cell_one_new _ _ _) (by simp [Value.oneCell']) (by unfold maxLen; omega) (by omega) (by simp; omega) ?_; intro v' w1 hown' hgrow _))
        have hB3 : Below w.heap.size w w1 := (hB.alloc hsz _).grown hgrow (by simp; omega) (fun i e => owns_ge hown e)
        go_roundw
        case rel => exact ⟨k + 1, _, _, by omega, by go_num, rfl, by simpa using hown', hB3, hstep⟩
        case measure => simp [intOf]; omega
      · obtain rfl : k = N + 1 := by omega
        have hfin := hinv.fin bx bY hN1 hN2
        have hlen := hinv.len
        have HF : Hid (V out out.length = V x x.length + V y y.length) := hfin
        have HLN : Hid (out.length = N + 1) := hlen
        clear hfin hlen
        go_wp2
        go_ret
        exact ⟨_, out, rfl, hown, hinv.bit, by rw [HLN.out, HN.out], HF.out, hB⟩
theorem sum_any {x y : List Int} {w : World} {sx sy : Value} (hX : U8 w sx x) (hY : U8 w sy y) (bx : Bit x) (bY : Bit y) (lx : x.length ≤ 34359738368) (ly : y.length ≤ 34359738368) :
    Calls Tryd.prog 43 #[sx, sy] w fun e w' => ∃ sv z, e = .returned sv ∧ U8 w' sv z ∧ Bit z ∧ z.length = max x.length y.length + 1 ∧ V z z.length = V x x.length + V y y.length ∧ Below w.heap.size w w' := (sum_own hX hY bx bY lx ly).mono (by rintro e w' ⟨sv, z, rfl, h, r⟩; exact ⟨sv, z, rfl, Seg.of_owns h, r⟩)

structure LessInv (x y out : List Int) (i : Nat) (c : Int) : Prop where
  len : out.length = i
  bit : Bit out
  bound : 0 ≤ c ∧ c ≤ 1
  sum : V out i + V y i = V x i + 2 ^ i * c
theorem LessInv.start (x y : List Int) : LessInv x y [] 0 0 := ⟨rfl, Bit.nil, by omega, by simp [V]⟩
theorem LessInv.step {x y out : List Int} {i : Nat} {c : Int} (h : LessInv x y out i c) (hx : Bit x) (hy : Bit y) :
    LessInv x y (out ++ [(2 + nth x i - nth y i - c) % 2]) (i + 1) (1 - (2 + nth x i - nth y i - c) / 2) := by
  have h1 := hx.get i
  have h2 := hy.get i
  have h3 := h.bound
  refine ⟨by simp [h.len], h.bit.append (Bit.one (by omega)), by omega, ?_⟩
  have e := V_snoc out ((2 + nth x i - nth y i - c) % 2)
  rw [h.len] at e
  rw [e]
  simp only [V]
  have hs := h.sum
  have hd := Int.mul_ediv_add_emod (2 + nth x i - nth y i - c) 2
  generalize (2 + nth x i - nth y i - c) / 2 = q at *
  generalize (2 + nth x i - nth y i - c) % 2 = r at *
  rw [Int.pow_succ]
  grind
theorem LessInv.fin {x y out : List Int} {N : Nat} {c : Int} (h : LessInv x y out N c) (hx : x.length ≤ N) (hy : y.length ≤ N) (hle : V y y.length ≤ V x x.length) : V out out.length = V x x.length - V y y.length := by
  have h1 := h.sum
  have h4 := (V_lt h.bit N).2
  have h5 := h.bound
  rw [V_at hx, V_at hy] at h1
  have hc : c = 0 := by
    rcases (show c = 0 ∨ c = 1 by omega) with e | e
    · exact e
    · rw [e] at h1; omega
  rw [hc] at h1
  rw [h.len]
  omega

set_option maxRecDepth 100000 in
set_option maxHeartbeats 2000000 in
theorem less_any {x y : List Int} {w : World} {sx sy : Value} (hX : U8 w sx x) (hY : U8 w sy y) (bx : Bit x) (bY : Bit y) (lx : x.length ≤ 34359738368) (ly : y.length ≤ 34359738368) (hle : V y y.length ≤ V x x.length) :
    Calls Tryd.prog 41 #[sx, sy] w fun e w' => ∃ sv z, e = .returned sv ∧ U8 w' sv z ∧ Bit z ∧ z.length = max x.length y.length ∧ V z z.length = V x x.length - V y y.length ∧ Below w.heap.size w w' := by
  obtain ⟨i0, hi, hz0, hz1, hz2⟩ := info_parts info5
  obtain ⟨px, cx, rfl⟩ := hX.len
  obtain ⟨py, cy, rfl⟩ := hY.len
  obtain ⟨N, hN⟩ : ∃ N, N = max x.length y.length := ⟨_, rfl⟩
  have hN1 : x.length ≤ N := by omega
  have hN2 : y.length ≤ N := by omega
  have hN3 : N ≤ 34359738368 := by omega
  have HN : Hid (N = max x.length y.length) := hN
  have HLE : Hid (V y y.length ≤ V x x.length) := hle
  have hN4 : N ≤ x.length ∨ N ≤ y.length := by omega
  clear hN hle
  go_enter Tryd.func41, Tryd.ntmps41
  go_wp2
  go_loopw [5, 6, 7] (fun v c i wr => ∃ (k : Nat) (cv : Int) (out : List Int), k ≤ N ∧ i = .int .i64 k ∧ c = .int .u8 cv ∧ wr.ownsRow w.heap.size 5 1 v out.length (out.map (Value.int .u8)) ∧ Below w.heap.size w wr ∧ LessInv x y out k cv) (fun _ _ i _ => N - (intOf i).toNat)
  case atStart => exact ⟨0, 0, [], Nat.zero_le _, rfl, rfl, World.ownsRow_nil _ _ _ _, Below.refl _ _, LessInv.start x y⟩
  case round =>
    obtain ⟨k, cv, out, hk, rfl, rfl, hown, hB, hinv⟩ := hrel
    have hXr := Seg.below hB hX
    have hYr := Seg.below hB hY
    have hgx := bx.get k
    have hgy := bY.get k
    have hcv := hinv.bound
    have hgx2 : 0 ≤ nth x k ∧ nth x k ≤ 1 := by omega
    have hgy2 : 0 ≤ nth y k ∧ nth y k ≤ 1 := by omega
    clear hgx hgy
    rcases Nat.lt_or_ge x.length y.length with hxy | hxy
    all_goals
      by_cases hlt : k < N
      · have hm := and1_u8 (2 + nth x k - nth y k - cv) (by omega) (by omega)
        have hstep := hinv.step bx bY
        have hol : out.length ≤ 34359738370 := by have := hinv.len; omega
        have hsz := hB.size
        have HO : Hid (out.length = k) := hinv.len
        first | have hky : k < y.length := by omega | have hkx : k < x.length := by omega
        go_wp2_with (first | (go_at_call 37; refine (at_any (by assumption) (by omega) _).mono ?_; rintro e w' ⟨rfl, rfl⟩) | (at_builtin; refine wpList_append_own _ rfl _ _ 49 rfl w.heap.size 5 i0 (.int .u8 0) 1 1 Tryd.underlying49 hi hz0 hz1 hz2 rfl (by decide) _ _ _ rfl (hown.alloc _) ⟨w'.heap.size, 0, none⟩ 1 1 [.int .u8 ((2 + nth x k - nth y k - cv) % 2)] rfl rfl (cell_one_new _ _ _) (by simp [Value.oneCell']) (by unfold maxLen; omega) (by omega) (by simp; omega) ?_; intro v' w1 hown' hgrow _))
        have hB3 : Below w.heap.size w w1 := (hB.alloc hsz _).grown hgrow (by simp; omega) (fun i e => owns_ge hown e)
        go_roundw
        case rel => exact ⟨k + 1, _, _, by omega, by go_num, rfl, by simpa using hown', hB3, hstep⟩
        case measure => simp [intOf]; omega
      · obtain rfl : k = N := by omega
        have hfin := hinv.fin hN1 hN2 HLE.out
        have hlen := hinv.len
        have HF : Hid (V out out.length = V x x.length - V y y.length) := hfin
        have HLN : Hid (out.length = k) := hlen
        clear hfin hlen
        go_wp2
        go_ret
        exact ⟨_, out, rfl, Seg.of_owns hown, hinv.bit, by rw [HLN.out, HN.out], HF.out, hB⟩

end Go.Proofs.YtkalknmindgljaaDoor
