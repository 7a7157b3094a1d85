/-
  The contract of filigreeref01.DivMod.
-/
import Derived.BigRegion
import Derived.Deep.RegionHeld3
import Derived.Test.YtkalknmindgljaaDoorRefSqrt
import Derived.Test.YtkalknmindgljaaDoorLimbs
namespace Go.Proofs.YtkalknmindgljaaDoor
open Go Go.Proofs Go.RowKit Go.Shelf

theorem V_cons (z : Int) (l : List Int) (n : Nat) : V (z :: l) (n + 1) = z + 2 * V l n := by
  induction n with
  | zero => simp [V, nth]
  | succ n ih =>
    show V (z :: l) (n + 1) + 2 ^ (n + 1) * nth (z :: l) (n + 1) = _
    rw [ih, nth_succ, Int.pow_succ]
    simp only [V]
    grind
/-- The division's loop: the bits from k on are done. -/
structure DivI (A B : Int) (x qs : List Int) (N k : Nat) (R : Int) : Prop where
  len : qs.length = N
  bit : Bit qs
  low : ∀ j, j < k → nth qs j = 0
  r0 : 0 ≤ R ∧ R < B
  sum : A = B * V qs N + R * 2 ^ k + V x k
theorem DivI.start {B : Int} {x : List Int} {N : Nat} (hB : 0 < B) : DivI (V x N) B x (List.replicate N 0) N N 0 :=
  ⟨by simp, Bit.zeros N, fun j _ => nth_replicate N j, by omega, by rw [V_zeros]; simp⟩
theorem DivI.no {A B R : Int} {x qs : List Int} {N k : Nat} (h : DivI A B x qs N (k + 1) R) (hx : Bit x) (hlt : nth x k + 2 * R < B) : DivI A B x qs N k (nth x k + 2 * R) := by
  have h0 := h.r0
  have hb : 0 ≤ nth x k := by rcases hx.get k with e | e <;> rw [e] <;> omega
  refine ⟨h.len, h.bit, fun j hj => h.low j (by omega), by omega, ?_⟩
  have := h.sum
  simp only [V, Int.pow_succ] at this
  rw [this]
  grind
theorem DivI.yes {A B R : Int} {x qs : List Int} {N k : Nat} (h : DivI A B x qs N (k + 1) R) (hx : Bit x) (hk : k < N) (hle : B ≤ nth x k + 2 * R) : DivI A B x (qs.set k 1) N k (nth x k + 2 * R - B) := by
  have h0 := h.r0
  have hb : 0 ≤ nth x k ∧ nth x k ≤ 1 := by rcases hx.get k with e | e <;> rw [e] <;> omega
  refine ⟨by rw [List.length_set]; exact h.len, fun z hz => ?_, fun j hj => ?_, by omega, ?_⟩
  · rcases List.mem_or_eq_of_mem_set hz with h1 | rfl
    · exact h.bit z h1
    · exact .inr rfl
  · rw [nth_set_ne (by omega)]; exact h.low j (by omega)
  · have := h.sum
    simp only [V, Int.pow_succ] at this
    rw [V_set _ _ _ _ (by rw [h.len]; exact hk) hk, h.low k (by omega), this]
    grind
theorem DivI.fin {A B R : Int} {x qs : List Int} {N : Nat} (h : DivI A B x qs N 0 R) : V qs N = A / B ∧ R = A % B := by
  have h0 := h.r0
  have hs := h.sum
  simp [V] at hs
  have e : A = R + B * V qs N := by omega
  rw [e]
  exact ⟨by rw [Int.add_mul_ediv_left _ _ (by omega), Int.ediv_eq_zero_of_lt h0.1 h0.2]; omega, by rw [Int.add_mul_emod_self_left, Int.emod_eq_of_lt h0.1 h0.2]⟩

theorem bel_next {w X Y : World} (h : Below w.heap.size w X) (k : Below X.heap.size X Y) : Below w.heap.size w Y := h.trans (k.mono h.size)
theorem own_new (X : World) (t : TypeId) (v : Value) (base : Nat) (h : base ≤ X.heap.size) : (X.alloc (.cells #[v] t)).ownsRow base t 1 (.slice (some ⟨X.heap.size, 0, none⟩) 1 1) 1 [v] :=
  ⟨rfl, .inr ⟨X.heap.size, 1, #[v], rfl, h, World.alloc_heap_new X _, Nat.le_refl _, by decide, rfl, rfl⟩⟩

set_option maxRecDepth 100000 in
set_option maxHeartbeats 4000000 in
theorem refDivMod_any {a b : List Int} {w : World} {sa sb : Value} (hA : U32 w sa a) (hB : U32 w sb b) (da : Dig a) (db : Dig b) (ha : a.length ≤ 1000) (hb : b.length ≤ 1000) (hpos : 0 < val b) :
    Calls Tryd.prog 25 #[sa, sb] w fun e w' => ∃ sq sr, e = .returned (.tuple #[sq, sr, .int .i64 0]) ∧ U32 w' sq (num (val a / val b)) ∧ U32 w' sr (num (val a % val b)) ∧ Below w.heap.size w w' := by
  obtain ⟨i0, hi, hz0, hz1, hz2⟩ := info_parts info5
  have l1 : (bitsL a).length = 32 * a.length := bitsL_length a
  have v1 : V (bitsL a) (bitsL a).length = val a := by rw [l1]; exact V_bitsL a da
  have hbx := bit_bitsL a
  have hst := DivI.start (x := bitsL a) (N := (bitsL a).length) hpos
  rw [v1] at hst
  have hlx : (bitsL a).length ≤ 32000 := by omega
  have hBlt : val b < pB 1000 := by have := val_lt db; have := pB_le hb; omega
  have hny : trimL b = num (val b) := trimL_num db
  have hvy : val (num (val b)) = val b := num_val (by omega)
  have hly : (num (val b)).length ≤ 1000 := num_len hBlt
  have hly0 : (((num (val b)).length : Int) == 0) = false := by
    rw [beq_eq_false_iff_ne]
    intro h
    have e0 : num (val b) = [] := List.eq_nil_of_length_eq_zero (by omega)
    rw [e0] at hvy
    simp [val] at hvy
    omega
  clear l1 v1
  obtain ⟨x, hx⟩ : ∃ x, bitsL a = x := ⟨_, rfl⟩
  rw [hx] at hbx hst hlx
  have HXX : Hid (bitsL a = x) := hx
  clear hx
  obtain ⟨pa, ca, rfl⟩ := hA.len
  go_enter Tryd.func25, Tryd.ntmps25
  go_wp2_with fail
  refine (refNorm_any b (by omega) _ _ hB).mono ?_
  rintro e w1 ⟨s1, rfl, h1, hb1⟩
  rw [hny] at h1
  obtain ⟨p1, c1, rfl⟩ := h1.len
  have hA1 := hA.go hb1
  go_wp2_with fail
  refine (bits_any hA1 (by omega) da).mono ?_
  rintro e w2 ⟨s2, rfl, h2, hb2⟩
  rw [HXX.out] at h2
  obtain ⟨px, cx, rfl⟩ := h2.len
  have h12 := h1.go hb2
  go_wp2_with (at_make; refine wpList_make_full _ rfl _ _ 49 rfl w2.heap.size 5 i0 (.int .u8 0) 1 Tryd.underlying49 hi hz0 hz1 .i64 .i64 _ _ x.length rfl rfl rfl rfl (by rw [hz2]; omega) (by unfold maxLen; omega) (Nat.le_refl _) ?_; intro w3 hown hgrow)
  have hrow := Row.made hown
  have hb3 : Below w2.heap.size w2 w3 := (Below.refl _ _).grown hgrow (Nat.le_refl _) (fun k e => by cases e)
  have hb12 := hb1.trans (hb2.mono hb1.size)
  have h13 := Seg.below hb3 h12
  have h23 := Seg.below hb3 h2
  clear hown hgrow h1 h2 h12 hA1 hb1 hb2
  go_loopw [9, 10] (fun r i wr => ∃ (k : Nat) (R : Int) (qs : List Int), k ≤ x.length ∧ i = .int .i64 ((k : Int) - 1) ∧ U32 wr r (num R) ∧ (∀ y m c, r = .slice (some y) m c → y.block ≠ w2.heap.size) ∧ Row .u8 5 wr w2.heap.size qs ∧ Below w2.heap.size w3 wr ∧ DivI (val a) (val b) x qs x.length k R) (fun _ i _ => (intOf i + 1).toNat)
  case atStart => exact ⟨x.length, 0, _, Nat.le_refl _, rfl, by rw [num_zero]; exact .inl ⟨⟨_, _, rfl⟩, rfl⟩, (fun y m c e => by cases e), hrow, Below.refl _ _, hst⟩
  case round =>
    obtain ⟨k, R, qs, hk, rfl, hR, hRn, hr, hnx, hinv⟩ := hrel
    have lt1 := hr.lt
    have hR0 := hinv.r0
    have h14 := (Seg.below hnx h13).up (n₁ := wr.heap.size) (by omega)
    have hRl : (num R).length ≤ 1000 := num_len (by omega)
    by_cases hk0 : 0 < k
    · obtain ⟨m, rfl⟩ : ∃ m, k = m + 1 := ⟨k - 1, by omega⟩
      have em : (((m + 1 : Nat) : Int) - 1) = (m : Int) := by omega
      rw [em]
      have hmN : m < x.length := by omega
      obtain ⟨bx, ox, cx', ex, hbx1, _, hcx⟩ := (Seg.below hnx h23).pos (by omega)
      simp only [Value.slice.injEq] at ex
      obtain ⟨rfl, _, rfl⟩ := ex
      have hc0 := hcx m hmN
      have hi1 : (0 : Int) ≤ (m : Int) := by omega
      have hi2 : (m : Int) < (x.length : Int) := by omega
      have hvR : val (num R) = R := num_val hR0.1
      have lR : (bitsL (num R)).length = 32 * (num R).length := bitsL_length _
      have hlR : (bitsL (num R)).length ≤ 32000 := by omega
      have hVR : V (bitsL (num R)) (bitsL (num R)).length = R := by rw [lR, V_bitsL _ (num_dig R)]; exact hvR
      have hbR := bit_bitsL (num R)
      have hxm := hbx.get m
      have hxb : 0 ≤ nth x m ∧ nth x m ≤ 1 := by rcases hxm with e | e <;> rw [e] <;> omega
      have HI : Hid (DivI (val a) (val b) x qs x.length (m + 1) R) := hinv
      have HVR : Hid (V (bitsL (num R)) (bitsL (num R)).length = R) := hVR
      have hR1000 : (num R).length ≤ 1073741824 := by omega
      have hstX : ∀ X, Below wr.heap.size wr X → X.cell? ⟨bx, ox + m, none⟩ = some (.int .u8 (nth x m)) ∧ U32 X u9 (num R) ∧ wr.heap.size ≤ X.heap.size := fun X h => ⟨(h.cell (p := ⟨bx, ox + m, none⟩) (by simp; omega)).trans hc0, hR.go h, h.size⟩
      have hX0 : Below wr.heap.size wr wr := Below.refl _ _
      have hle0 : wr.heap.size ≤ wr.heap.size := Nat.le_refl _
      have hX1 : Below wr.heap.size wr wr.drew := (Below.refl _ _).drew
      obtain ⟨hy1, hy2, hy3⟩ := hstX _ hX1
      clear hinv hVR lR hcx h23
      go_wp2_with fail
      have hX2 := (Below.alloc hX0 hle0 (.cells #[.int .u8 (nth x m)] 5)).drew
      have hy5 := (hstX _ hX2).1
      have hy6 := (hstX _ hX2).2.1
      have hown0 : (wr.alloc (.cells #[.int .u8 (nth x m)] 5)).drew.ownsRow wr.heap.size 5 1 (.slice (some ⟨wr.heap.size, 0, none⟩) 1 1) 1 [.int .u8 (nth x m)] := own_new wr 5 (.int .u8 (nth x m)) wr.heap.size (Nat.le_refl _)
      have hbc : Bit (nth x m :: bitsL (num R)) := fun z hz => by
        rcases List.mem_cons.1 hz with rfl | h
        · exact hxm
        · exact hbR z h
      have hVc : V (nth x m :: bitsL (num R)) (nth x m :: bitsL (num R)).length = nth x m + 2 * R := by rw [List.length_cons, V_cons, HVR.out]
      go_region_held3 (fun w' => w'.cell? ⟨bx, ox + m, none⟩ = some (.int .u8 (nth x m))) (first | assumption | exact (hstX _ (Below.alloc (by assumption) (by assumption) _)).1)
        (first
        | (go_at_call 36; refine (bits_any (zs := num R) (by assumption) hR1000 (num_dig _)).mono ?_; rintro e w4 ⟨s4, rfl, h4, hb4⟩; have hX4 : Below wr.heap.size wr w4 := bel_next (by assumption) hb4; obtain ⟨hy1, hy2, hy3⟩ := hstX _ hX4)
        | (refine step_append_seg _ (by rfl) _ _ 49 (by rfl) wr.heap.size 5 i0 (.int .u8 0) 1 Tryd.underlying49 hi hz0 hz1 hz2 rfl (.slice (some ⟨wr.heap.size, 0, none⟩) 1 1) s4 1 [.int .u8 (nth x m)] (by rfl) (owns_below hown0 hb4) (by rfl) h4 (by unfold maxLen; omega) (by omega) (by assumption) ?_; intro v5 w5 hown5 hgrow5 hob5; have hX5 : Below wr.heap.size wr w5 := hX4.grown hgrow5 (by assumption) (fun k e => by cases e; exact Nat.le_refl _); obtain ⟨hy1, hy2, hy3⟩ := hstX _ hX5)
        | (refine step_append_seg _ (by rfl) _ _ 49 (by rfl) wr.heap.size 5 i0 (.int .u8 0) 1 Tryd.underlying49 hi hz0 hz1 hz2 rfl (.slice (some ⟨w4.heap.size, 0, none⟩) 1 1) s4 1 [.int .u8 (nth x m)] (by rfl) (own_new w4 _ _ _ hX4.size) (by rfl) (h4.go ((Below.refl _ _).alloc (Nat.le_refl _) _)) (by unfold maxLen; omega) (by omega) (Nat.le_trans hX4.size (by simp)) ?_; intro v5 w5 hown5 hgrow5 hob5; have hX5 : Below wr.heap.size wr w5 := (Below.alloc hX4 hX4.size _).grown hgrow5 (Nat.le_trans hX4.size (by simp)) (fun k e => by cases e; exact hX4.size); obtain ⟨hy1, hy2, hy3⟩ := hstX _ hX5)
        | (go_at_call 40; refine (limbs2_any (x := nth x m :: bitsL (num R)) (Seg.of_owns (t := 5) (base := wr.heap.size) (by simpa [Nat.add_comm] using hown5)) hbc (by simp; omega)).mono ?_; rintro e w6 ⟨s6, rfl, h6, hb6, hn6⟩; have hX6 : Below wr.heap.size wr w6 := bel_next hX5 hb6; obtain ⟨hy1, hy2, hy3⟩ := hstX _ hX6))
      all_goals
        rw [hVc] at h6
        have hrow6 := Row.go hr hX6
        have hbl6 : Below w2.heap.size w3 w6 := hnx.trans (hX6.mono (by omega))
        have h146 := h14.go hX6
        have hs5 : wr.heap.size ≤ w5.heap.size := hX5.size
        have hf6 : ∀ y m c, s6 = .slice (some y) m c → y.block ≠ w2.heap.size := fun y m c e => by have := hn6 y m c e; omega
        clear hown5 hgrow5 hob5 hn6 hb6 hX6 hX5 hX4 hb4 h4 hy1 hy2 hy3 hstX hown0 hc0 hr hnx hR hRn hs5
        obtain ⟨R1, hR1⟩ : ∃ R1, nth x m + 2 * R = R1 := ⟨_, rfl⟩
        have hR10 : 0 ≤ R1 ∧ R1 < 2 * val b := by omega
        have hR1B : R1 < pB 1001 := by rw [show (1001 : Nat) = 1000 + 1 from rfl, pB_succ]; omega
        have hR1l := num_len hR1B
        have hR1v : val (num R1) = R1 := num_val hR10.1
        have HR1 : Hid (nth x m + 2 * R = R1) := hR1
        rw [hR1] at h6
        clear hR1 hVc
        go_wp2_with fail
        refine (refCmp_any h6 h146 (num_dig _) (num_dig _) (by omega) (by omega)).mono ?_
        rintro e w7 ⟨rfl, hb7⟩
        rw [hR1v, hvy]
        have h67 := h6.go hb7
        have h147 := h146.go hb7
        have hrow7 := Row.go hrow6 hb7
        have lt6 := hrow6.lt
        have hbl7 : Below w2.heap.size w3 w7 := hbl6.trans (hb7.mono (by omega))
        clear h6 h146 hrow6 hb7 hbl6
        by_cases hlt : R1 < val b
        · rw [cmpI_lt hlt]
          have hstep := HI.out.no hbx (by rw [HR1.out]; exact hlt)
          rw [HR1.out] at hstep
          go_wp2
          go_roundw
          case rel => exact ⟨m, R1, qs, by omega, by go_num, h67, hf6, hrow7, hbl7, hstep⟩
          case measure => simp [intOf]
        · have hcc : 0 ≤ cmpI R1 (val b) := by unfold cmpI; split <;> (try split) <;> omega
          generalize cmpI R1 (val b) = cc at *
          have hstep := HI.out.yes hbx hmN (by rw [HR1.out]; omega)
          rw [HR1.out] at hstep
          have hlq := HI.out.len
          have HLT : Hid (¬ R1 < val b) := hlt
          have HLQ : Hid (qs.length = x.length) := hlq
          clear hlt hlq
          go_wp2_with fail
          refine (refSub2_any h67 h147 (num_dig _) (num_dig _) (by omega) (by omega)).mono ?_
          rintro e w8 ⟨h8 | ⟨_, s8, rfl, h8, hn8⟩, hb8⟩
          · exfalso
            rw [hR1v, hvy] at h8
            have := h8.1
            have := HLT.out
            omega
          · rw [hR1v, hvy] at h8
            have hrow8 := Row.go hrow7 hb8
            have lt7 := hrow7.lt
            have hbl8 : Below w2.heap.size w3 w8 := hbl7.trans (hb8.mono (by omega))
            have hf8 : ∀ y m c, s8 = .slice (some y) m c → y.block ≠ w2.heap.size := fun y m c e => by have := hn8 y m c e; omega
            have hc8 := hrow8.cell (j := m) (by rw [HLQ.out]; exact hmN)
            have hfr8 := hrow8.frozen m
            clear hrow7 hb8 hbl7 h67 h147 hn8
            go_wp2
            go_roundw
            case rel => exact ⟨m, R1 - val b, qs.set m 1, by omega, by go_num, (h8.setCell (p := ⟨w2.heap.size, m, none⟩) (fun y m c e => hf8 y m c e) _).up (by simp), hf8, hrow8.set _ _, hbl8.setCell (p := ⟨w2.heap.size, m, none⟩) (Nat.le_refl _) _, hstep⟩
            case measure => simp [intOf]
    · obtain rfl : k = 0 := by omega
      obtain ⟨f1, f2⟩ := hinv.fin
      have hl0 := hinv.len
      have hb0 := hinv.bit
      have hseg := hr.seg
      rw [hl0] at hseg
      have HF1 : Hid (V qs x.length = val a / val b) := f1
      have HF2 : Hid (R = val a % val b) := f2
      have HL1 : Hid (qs.length = x.length) := hl0
      clear f1 f2 hl0 hinv
      go_wp2_with fail
      refine (limbs_any hseg hb0 (by rw [HL1.out]; omega)).mono ?_
      rintro e w5 ⟨s5, rfl, h5, hb5⟩
      rw [HL1.out, HF1.out] at h5
      have hR5 := hR.go hb5
      rw [HF2.out] at hR5
      go_wp2
      go_ret3
      have hbl := hb12.trans ((hb3.trans hnx).mono hb12.size)
      exact ⟨_, _, rfl, h5, hR5, hbl.trans (hb5.mono hbl.size)⟩

set_option maxRecDepth 100000 in
set_option maxHeartbeats 1000000 in
/-- .. and by 0. -/
theorem refDivMod_zero {b : List Int} {w : World} {sa sb : Value} (hB : U32 w sb b) (db : Dig b) (hb : b.length ≤ 1000) (hz : val b = 0) :
    Calls Tryd.prog 25 #[sa, sb] w fun e w' => e = .returned (.tuple #[.slice none 0 0, .slice none 0 0, .int .i64 15]) ∧ Below w.heap.size w w' := by
  have hn : trimL b = [] := by rw [trimL_num db, hz, num_zero]
  go_enter Tryd.func25, Tryd.ntmps25
  go_wp2_with fail
  refine (refNorm_any b (by omega) _ _ hB).mono ?_
  rintro e w1 ⟨s1, rfl, h1, hb1⟩
  rw [hn] at h1
  obtain ⟨p1, c1, rfl⟩ := h1.len
  go_wp2
  go_ret3
  exact ⟨rfl, hb1⟩

end Go.Proofs.YtkalknmindgljaaDoor
