/-
  The contract of filigreeref01.Parse.
-/
import Derived.BigRegion
import Derived.Deep.RegionHeld3
import Derived.Test.YtkalknmindgljaaDoorRefDiv
import Derived.Test.YtkalknmindgljaaDoorBackMath
namespace Go.Proofs.YtkalknmindgljaaDoor
open Go Go.Proofs Go.RowKit Go.Shelf

theorem dv_part {s : ByteArray} {k : Nat} (h : ∀ j, j < k → 48 ≤ byteAt s j ∧ byteAt s j ≤ 57) : 0 ≤ dv s k ∧ dv s k < 10 ^ k := by
  induction k with
  | zero => simp [dv]
  | succ k ih =>
    have h1 := ih (fun j hj => h j (by omega))
    have h2 := h k (by omega)
    simp only [dv, Int.pow_succ]
    omega

theorem drewU {W : World} {sv : Value} {zs : List Int} (h : U32 W sv zs) : U32 W.drew sv zs := h
theorem oneU (X : World) (x : Int) : U32 (X.alloc (.cells #[.int .u32 x] 42)) (.slice (some ⟨X.heap.size, 0, none⟩) 1 1) [x] := (Seg.new (q := .u32) X #[.int .u32 x] 42 [x] 1 (by simp) (vs1 x)).up (by simp)
theorem oneU2 (X : World) (o : Obj) (x : Int) : U32 ((X.alloc o).alloc (.cells #[.int .u32 x] 42)) (.slice (some ⟨X.heap.size + 1, 0, none⟩) 1 1) [x] := by
  have := oneU (X.alloc o) x
  rw [show (X.alloc o).heap.size = X.heap.size + 1 by simp] at this
  exact this

set_option maxRecDepth 100000 in
set_option maxHeartbeats 4000000 in
theorem refParse_any (s : ByteArray) (hs : s.size ≤ 1000) (w : World) :
    Calls Tryd.prog 29 #[.string s] w fun e w' => Parsed s e w' ∧ Below w.heap.size w w' := by
  go_enter Tryd.func29, Tryd.ntmps29
  by_cases h0 : s.size = 0
  · have HN : Hid (¬ DecOK s) := fun h => by have := h.1; omega
    go_wp2
    go_ret2
    exact ⟨⟨fun h => absurd h HN.out, fun _ => rfl⟩, Below.refl _ _⟩
  · have hp : 0 < s.size := by omega
    have hg := byteAt_get s 0 hp
    have hz0 : ((s.size : Int) == 0) = false := by rw [beq_eq_false_iff_ne]; omega
    by_cases hbad : byteAt s 0 = 48 ∧ s.size ≠ 1
    · have hb := hbad.1
      have hs1 : (1 : Int) < (s.size : Int) := by omega
      have HN : Hid (¬ DecOK s) := fun h => hbad.2 (h.2.1 hb)
      clear hbad
      go_wp2
      go_ret2
      exact ⟨⟨fun h => absurd h HN.out, fun _ => rfl⟩, Below.refl _ _⟩
    · have HG : Hid (byteAt s 0 = 48 → s.size = 1) := fun h => by
        rcases Nat.decEq s.size 1 with h' | h'
        · exact absurd ⟨h, h'⟩ hbad
        · exact h'
      have hc : s.size = 1 ∨ (1 : Int) < (s.size : Int) ∧ byteAt s 0 ≠ 48 := by
        rcases Nat.decEq s.size 1 with h' | h'
        · exact .inr ⟨by omega, fun e => hbad ⟨e, h'⟩⟩
        · exact .inl h'
      clear hbad
      rcases hc with hc | ⟨hc1, hc2⟩
      case' inl =>
        have hc1 : ¬ (1 : Int) < (s.size : Int) := by omega
        clear hc
      case' inr =>
        have hq : (byteAt s 0 == 48) = false := by rw [beq_eq_false_iff_ne]; exact hc2
      all_goals
        go_wp2
        go_loopw [4, 5] (fun ov iv wr => ∃ k : Nat, k ≤ s.size ∧ iv = .int .i64 k ∧ U32 wr ov (num (dv s k)) ∧ (∀ j, j < k → 48 ≤ byteAt s j ∧ byteAt s j ≤ 57) ∧ Below w.heap.size w wr) (fun _ iv _ => s.size - (intOf iv).toNat)
        case atStart => exact ⟨0, Nat.zero_le _, rfl, .inl ⟨⟨_, _, rfl⟩, num_zero⟩, fun j hj => by omega, Below.refl _ _⟩
        case round =>
          obtain ⟨k, hk, rfl, ho, hj, hbl⟩ := hrel
          by_cases hlt : k < s.size
          · have hgk := byteAt_get s k hlt
            by_cases c1 : byteAt s k < 48
            · have HN : Hid (¬ DecOK s) := fun h => by have := h.2.2 k hlt; omega
              go_wp2
              go_ret2
              exact ⟨⟨fun h => absurd h HN.out, fun _ => rfl⟩, hbl⟩
            · by_cases c2 : 57 < byteAt s k
              · have HN : Hid (¬ DecOK s) := fun h => by have := h.2.2 k hlt; omega
                go_wp2
                go_ret2
                exact ⟨⟨fun h => absurd h HN.out, fun _ => rfl⟩, hbl⟩
              · have HJ : Hid (∀ j, j < k + 1 → 48 ≤ byteAt s j ∧ byteAt s j ≤ 57) := fun j h => by
                  rcases Nat.lt_or_ge j k with h' | h'
                  · exact hj j h'
                  · obtain rfl : j = k := by omega
                    omega
                have hdv := dv_part hj
                have hdl : (num (dv s k)).length ≤ 1000 := by have := num_len (v := dv s k) (k := k) (by have := ten_le k; omega); omega
                have hdn := num_val hdv.1
                obtain ⟨d, hd⟩ : ∃ d, byteAt s k - 48 = d := ⟨_, rfl⟩
                have hd10 : 0 ≤ d ∧ d < 10 := by omega
                have hwd : (byteAt s k - 48) % 256 = d := by omega
                have HD : Hid (dv s (k + 1) = dv s k * 10 + d) := by show dv s k * 10 + (byteAt s k - 48) = _; rw [hd]
                clear hj
                have hX0 : Below wr.heap.size wr wr := Below.refl _ _
                have hb1 : Below wr.heap.size wr (wr.alloc (.cells #[.int .u32 10] 42)) := hX0.alloc (Nat.le_refl _) _
                have hb1' : Below wr.heap.size wr (wr.alloc (.cells #[.int .u32 d] 42)) := hX0.alloc (Nat.le_refl _) _
                have hc2' : Below (wr.alloc (.cells #[.int .u32 10] 42)).heap.size (wr.alloc (.cells #[.int .u32 10] 42)) ((wr.alloc (.cells #[.int .u32 10] 42)).alloc (.cells #[.int .u32 d] 42)) := (Below.refl _ _).alloc (Nat.le_refl _) _
                have hc3' : Below (wr.alloc (.cells #[.int .u32 d] 42)).heap.size (wr.alloc (.cells #[.int .u32 d] 42)) ((wr.alloc (.cells #[.int .u32 d] 42)).alloc (.cells #[.int .u32 10] 42)) := (Below.refl _ _).alloc (Nat.le_refl _) _
                have B1 : Below wr.heap.size wr (wr.alloc (.cells #[.int .u32 10] 42)).drew := hb1.drew
                have B2 : Below wr.heap.size wr ((wr.alloc (.cells #[.int .u32 10] 42)).alloc (.cells #[.int .u32 d] 42)).drew := (bel_next hb1 hc2').drew
                have B3 : Below wr.heap.size wr ((wr.alloc (.cells #[.int .u32 d] 42)).alloc (.cells #[.int .u32 10] 42)).drew := (bel_next hb1' hc3').drew
                have A1 := ho.go B1
                have A2 := ho.go B2
                have A3 := ho.go B3
                have T1 : U32 (wr.alloc (.cells #[.int .u32 10] 42)).drew (.slice (some ⟨wr.heap.size, 0, none⟩) 1 1) [10] := drewU (oneU wr 10)
                have T2 : U32 ((wr.alloc (.cells #[.int .u32 10] 42)).alloc (.cells #[.int .u32 d] 42)).drew (.slice (some ⟨wr.heap.size, 0, none⟩) 1 1) [10] := drewU ((oneU wr 10).go hc2')
                have D2 : U32 ((wr.alloc (.cells #[.int .u32 10] 42)).alloc (.cells #[.int .u32 d] 42)).drew (.slice (some ⟨wr.heap.size + 1, 0, none⟩) 1 1) [d] := drewU (oneU2 wr _ d)
                have T3 : U32 ((wr.alloc (.cells #[.int .u32 d] 42)).alloc (.cells #[.int .u32 10] 42)).drew (.slice (some ⟨wr.heap.size + 1, 0, none⟩) 1 1) [10] := drewU (oneU2 wr _ 10)
                have D3 : U32 ((wr.alloc (.cells #[.int .u32 d] 42)).alloc (.cells #[.int .u32 10] 42)).drew (.slice (some ⟨wr.heap.size, 0, none⟩) 1 1) [d] := drewU ((oneU wr d).go hc3')
                have hv10 : val (num (dv s k)) * val [10] = dv s k * 10 := by rw [hdn]; simp [val]
                have hd2 : (num (dv s k * 10)).length ≤ 1001 := by
                  have := num_len (v := dv s k * 10) (k := k + 1) (by have := ten_le (k + 1); rw [Int.pow_succ] at this; omega)
                  omega
                have hv11 : val (num (dv s k * 10)) + val [d] = dv s (k + 1) := by rw [num_val (by omega), HD.out]; simp [val]
                have hw8 : IntKind.u8.wrap d = d := IntWalk.u8_in _ ⟨by omega, by omega⟩
                have hw32 : IntKind.u32.wrap d = d := IntWalk.u32_in _ ⟨by omega, by omega⟩
                have dgd : Dig [d] := Dig.one (by omega)
                clear hb1 hb1' hc2' hc3'
                go_wp2_with fail
                go_region_held3 (fun _ => True) (trivial)
                  (first
                  | (go_at_call 23; refine (refMul_any (a := num (dv s k)) (b := [10]) (by assumption) (by assumption) (num_dig _) (Dig.one (by omega)) (by omega) (Nat.le_of_ble_eq_true rfl)).mono ?_; rintro e w4 ⟨s4, rfl, h4, hb4⟩; rw [hv10] at h4; have hX4 : Below wr.heap.size wr w4 := bel_next (by assumption) hb4)
                  | (go_at_call 21; refine (refAdd_any (a := num (dv s k * 10)) (b := [d]) (by first | exact h4 | exact h4.go ((Below.refl _ _).alloc (Nat.le_refl _) _)) (by first | exact D2.go hb4 | exact D3.go hb4 | exact oneU w4 d) (num_dig _) dgd (by omega) (Nat.le_of_ble_eq_true rfl)).mono ?_; rintro e w5 ⟨s5, rfl, h5, hb5⟩; rw [hv11] at h5; have hX5 : Below wr.heap.size wr w5 := bel_next (by first | exact hX4 | exact Below.alloc hX4 hX4.size _) hb5))
                all_goals
                  have hbl5 : Below w.heap.size w w5 := hbl.trans (hX5.mono hbl.size)
                  clear A1 A2 A3 T1 T2 T3 D2 D3 B1 B2 B3 h4 hb4 hX4 hb5 hX5
                  go_wp2
                  go_roundw
                  case rel => exact ⟨k + 1, by omega, by go_num, h5, HJ.out, hbl5⟩
                  case measure => simp [intOf]; omega
          · obtain rfl : k = s.size := by omega
            have HOK : Hid (DecOK s) := ⟨hp, HG.out, hj⟩
            have hall := dv_all s
            rw [hall] at ho
            have HO : Hid _ := ho
            clear hj ho hall
            go_wp2
            go_ret2
            exact ⟨⟨fun _ => ⟨_, rfl, HO.out⟩, fun h => absurd HOK.out h⟩, hbl⟩

end Go.Proofs.YtkalknmindgljaaDoor
