/-
  The contract of filigreeref01.Text.
-/
import Derived.BigRegion
import Derived.Laws.IdiomStrings
import Derived.Lib.ItoaMem
import Derived.Test.YtkalknmindgljaaDoorRefDiv
import Derived.Test.YtkalknmindgljaaDoorRefNew
import Derived.Test.YtkalknmindgljaaDoorPcs
import Derived.Test.YtkalknmindgljaaDoorBackMath
namespace Go.Proofs.YtkalknmindgljaaDoor
open Go Go.Proofs Go.RowKit Go.Shelf

theorem pB_ten3 (k : Nat) : pB k ≤ 10 ^ (10 * k) := by
  induction k with
  | zero => simp [pB]
  | succ k ih =>
    rw [pB_succ, Nat.mul_succ, Int.pow_add]
    have e : (10 : Int) ^ 10 = 10000000000 := by decide
    rw [e]
    have := pB_pos k
    omega
theorem dec_count3 {a : List Int} (da : Dig a) (ha : a.length ≤ 1000) : (Lib.decDigits (val a).toNat).length ≤ 10000 := by
  obtain ⟨k, hk⟩ : ∃ k, k = 10 * 1000 := ⟨_, rfl⟩
  have h0 := val_nonneg da
  have h1 := val_lt da
  have h2 := pB_le ha
  have h3 := pB_ten3 1000
  rw [← hk] at h3
  have h4 : ((10 ^ k : Nat) : Int) = 10 ^ k := Int.natCast_pow 10 k
  have := dec_len (u := (val a).toNat) (k := k) (by omega) (by omega)
  omega
/-- Bytes as numbers. -/
def bInts (l : List UInt8) : List Int := l.map fun b => (b.toNat : Int)
theorem bInts_len (l : List UInt8) : (bInts l).length = l.length := by simp [bInts]
theorem dec_len2 {R : Nat} (h : 10 ≤ R) : (Lib.decDigits R).length = (Lib.decDigits (R / 10)).length + 1 := by rw [dec_big h]; simp
/-- The numeral's loop: what is still to be told, and what is told. -/
def RtI (A R : Nat) (L : List UInt8) : Prop := (R = 0 ∧ L = Lib.decDigits A) ∨ (0 < R ∧ Lib.decDigits R ++ L = Lib.decDigits A)
theorem RtI.step {A R : Nat} {L : List UInt8} (h : RtI A R L) (hR : 0 < R) : RtI A (R / 10) (UInt8.ofNat (48 + R % 10) :: L) ∧ L.length < (Lib.decDigits A).length := by
  rcases h with ⟨h, _⟩ | ⟨_, h⟩
  · omega
  · have hp := dec_len_pos R
    have hl : L.length < (Lib.decDigits A).length := by rw [← h, List.length_append]; omega
    refine ⟨?_, hl⟩
    by_cases c : R < 10
    · left
      refine ⟨by omega, ?_⟩
      rw [← h, dec_small c, show R % 10 = R by omega]
      rfl
    · right
      refine ⟨by omega, ?_⟩
      rw [← h, dec_big (u := R) (by omega), List.append_assoc]
      rfl

set_option maxRecDepth 100000 in
set_option maxHeartbeats 4000000 in
theorem refText_any {a : List Int} {w : World} {sa : Value} (hA : U32 w sa a) (da : Dig a) (ha : a.length ≤ 100) :
    Calls Tryd.prog 31 #[sa] w fun e w' => e = .returned (.string ⟨(Lib.decDigits (val a).toNat).toArray⟩) ∧ Below w.heap.size w w' := by
  obtain ⟨i0, hi, hz0, hz1, hz2⟩ := info_parts info5
  have hv0 := val_nonneg da
  have htn : trimL a = num (val a) := trimL_num da
  have hvlt : val a < pB 100 := by have := val_lt da; have := pB_le ha; omega
  obtain ⟨A, hAA⟩ : ∃ A, (val a).toNat = A := ⟨_, rfl⟩
  have hAv : val a = A := by omega
  have hdl : (Lib.decDigits A).length ≤ 10000 := by
    have := dec_count3 da (show a.length ≤ 1000 by omega)
    rwa [hAA] at this
  rw [hAA]
  rw [hAv] at htn hvlt
  clear hAA hv0
  go_enter Tryd.func31, Tryd.ntmps31
  go_wp2_with fail
  refine (refNorm_any a (by omega) _ _ hA).mono ?_
  rintro e w1 ⟨s1, rfl, h1, hb1⟩
  rw [htn] at h1
  obtain ⟨p1, c1, rfl⟩ := h1.len
  have hAnn : (0 : Int) ≤ (A : Int) := by omega
  clear hAv htn
  by_cases h0 : A = 0
  · subst h0
    rw [show num ((0 : Nat) : Int) = [] from num_zero] at h1 ⊢
    have hd : (Lib.decDigits 0).toArray = #[48] := by rw [dec_small (by omega)]; rfl
    have HD : Hid _ := hd
    clear hd
    go_wp2
    go_ret
    exact ⟨by rw [HD.out]; rfl, hb1⟩
  · have hne' : (((num (A : Int)).length : Int) == 0) = false := by
      rw [beq_eq_false_iff_ne]
      intro h
      have := (num_nil hAnn).1 (List.eq_nil_of_length_eq_zero (by omega))
      omega
    have hpos : 0 < A := by omega
    go_wp2
    go_loopw [0, 3] (fun av ov wr => ∃ (R : Nat) (L : List UInt8), R ≤ A ∧ U32 wr av (num R) ∧ U8 wr ov (bInts L) ∧ L.length ≤ (Lib.decDigits A).length ∧ RtI A R L ∧ Below w1.heap.size w1 wr) (fun _ ov _ => (Lib.decDigits A).length - sliceLen ov)
    case atStart => exact ⟨A, [], Nat.le_refl _, h1, .inl ⟨⟨_, _, rfl⟩, rfl⟩, Nat.zero_le _, .inr ⟨hpos, by simp⟩, Below.refl _ _⟩
    case round =>
      obtain ⟨R, L, hR, hr, ho, hLl, hinv, hbl⟩ := hrel
      have hRlt : (R : Int) < pB 100 := by omega
      have hRl := num_len hRlt
      obtain ⟨pr, cr, rfl⟩ := hr.len
      obtain ⟨po, co, rfl⟩ := ho.len
      rw [bInts_len]
      by_cases hR0 : R = 0
      · have hLe : L = Lib.decDigits A := by
          rcases hinv with ⟨_, h⟩ | ⟨h, _⟩
          · exact h
          · omega
        subst hLe
        have hnil : num (R : Int) = [] := by rw [hR0]; exact num_zero
        rw [hnil] at hr ⊢
        have hlp := dec_len_pos A
        obtain ⟨bo, oo, co', eo, hbo, hco, hcells⟩ := ho.pos (by rw [bInts_len]; exact hlp)
        rw [bInts_len] at eo hcells
        simp only [Value.slice.injEq] at eo
        obtain ⟨rfl, _, rfl⟩ := eo
        have hcv : (convert 49 9 (.slice (some ⟨bo, oo, none⟩) (Lib.decDigits A).length co)).run Tryd.prog wr = .ok (.string ⟨(Lib.decDigits A).toArray⟩) wr :=
          run_convert_bytes_back (P := Tryd.prog) wr 49 9 5 ⟨bo, oo, none⟩ co (Lib.decDigits A) Tryd.underlying49 Tryd.underlying5 Tryd.underlying9 (fun j hj => by
            have := hcells j hj
            rw [show nth (bInts (Lib.decDigits A)) j = (((Lib.decDigits A)[j]).toNat : Int) by simp [nth, bInts, hj]] at this
            have e : (⟨bo, oo, none⟩ : Addr).add j = ⟨bo, oo + j, none⟩ := Lib.add_plain _ _ _
            rw [e]
            exact this)
        have hblw := hb1.trans (hbl.mono hb1.size)
        clear hcells ho hr
        go_wp2
        go_ret
        exact ⟨rfl, hblw⟩
      · have hRp : 0 < R := by omega
        obtain ⟨hstep, hLlt⟩ := hinv.step hRp
        have hRlen : 0 < (num (R : Int)).length := by
          rcases Nat.eq_zero_or_pos (num (R : Int)).length with h | h
          · have := (num_nil (show (0 : Int) ≤ (R : Int) by omega)).1 (List.eq_nil_of_length_eq_zero h)
            omega
          · exact h
        have hRlen' : ((num (R : Int)).length : Int) > 0 := by omega
        have hbn : Below wr.heap.size wr (wr.alloc (.cells #[.int .u32 10] 42)) := (Below.refl _ _).alloc (Nat.le_refl _) _
        have hten := (Seg.new (q := .u32) wr #[.int .u32 10] 42 [10] 1 (by simp) (vs1 10)).up (n₁ := (wr.alloc (.cells #[.int .u32 10] 42)).heap.size) (by simp)
        have hdm := refDivMod_any (hr.go hbn) hten (num_dig _) (Dig.one (by omega)) (by omega) (by simp) (by simp [val])
        rw [num_val (show (0 : Int) ≤ (R : Int) by omega), show val [10] = 10 by simp [val]] at hdm
        have e10 : (R : Int) / 10 = ((R / 10 : Nat) : Int) := by omega
        have em10 : (R : Int) % 10 = ((R % 10 : Nat) : Int) := by omega
        rw [e10, em10] at hdm
        have hon := ho.go hbn
        have hmv := nth_num0 (x := ((R % 10 : Nat) : Int)) (by omega)
        have hml : (num ((R % 10 : Nat) : Int)).length ≤ 1 := num_len (by simp [pB]; omega)
        have HST : Hid _ := hstep
        have HLT : Hid _ := hLlt
        clear hstep hLlt hinv hten e10 em10
        go_wp2_with fail
        refine hdm.mono ?_
        clear hdm
        rintro e w4 ⟨sq, sm, rfl, hq, hm, hb4⟩
        have ho4 := hon.go hb4
        have hbl4 : Below w1.heap.size w1 w4 := (hbl.trans (hbn.mono hbl.size)).trans (hb4.mono (hbl.trans (hbn.mono hbl.size)).size)
        obtain ⟨pm, cm, rfl⟩ := hm.len
        clear hon hb4 hbn hr ho hbl
        obtain ⟨D, hD⟩ : ∃ D, D = R % 10 := ⟨_, rfl⟩
        rw [← hD] at hm hmv hml HST ⊢
        have hD10 : D < 10 := by omega
        clear hD
        have hbyte := dig_byte hD10
        have hown4 := own_new w4 5 (.int .u8 (48 + (D : Int))) w4.heap.size (Nat.le_refl _)
        have hbm : Below w4.heap.size w4 (w4.alloc (.cells #[.int .u8 (48 + (D : Int))] 5)) := (Below.refl _ _).alloc (Nat.le_refl _) _
        have hoa := ho4.go hbm
        rw [bInts_len] at hoa
        have hfin : ∀ v6 w6, w6.ownsRow w4.heap.size 5 1 v6 (1 + (bInts L).length) ([Value.int .u8 (48 + (D : Int))] ++ (bInts L).map (Value.int .u8)) → (w4.alloc (.cells #[.int .u8 (48 + (D : Int))] 5)).grownBy w6 (some w4.heap.size) →
            U32 w6 sq (num ((R / 10 : Nat) : Int)) ∧ U8 w6 v6 (bInts (UInt8.ofNat (48 + D) :: L)) ∧ Below w1.heap.size w1 w6 ∧ sliceLen v6 = L.length + 1 := fun v6 w6 h g => by
          have hb6 : Below w4.heap.size w4 w6 := hbm.grown g hbm.size (fun k e => by cases e; exact Nat.le_refl _)
          refine ⟨hq.go hb6, ?_, hbl4.trans (hb6.mono hbl4.size), ?_⟩
          · refine Seg.of_owns (t := 5) (base := w4.heap.size) ?_
            have e : bInts (UInt8.ofNat (48 + D) :: L) = (48 + (D : Int)) :: bInts L := by simp only [bInts, List.map_cons]; rw [hbyte]; simp
            rw [e]
            simpa [Nat.add_comm] using h
          · rw [owns_len h, bInts_len]; omega
        have Hfin : Hid _ := hfin
        clear hfin hbyte
        have hLl2 : (bInts L).length ≤ 10000 := by rw [bInts_len]; omega
        by_cases hD0 : D = 0
        · subst hD0
          rw [show num ((0 : Nat) : Int) = [] from num_zero]
          have hown5 : (w4.alloc (.cells #[.int .u8 48] 5)).ownsRow w4.heap.size 5 1 (.slice (some ⟨w4.heap.size, 0, none⟩) 1 1) 1 [.int .u8 48] := hown4
          have hoa5 : U8 (w4.alloc (.cells #[.int .u8 48] 5)) (.slice po L.length co) (bInts L) := hoa
          have Hf5 : Hid (∀ v6 w6, w6.ownsRow w4.heap.size 5 1 v6 (1 + (bInts L).length) ([Value.int .u8 48] ++ (bInts L).map (Value.int .u8)) → (w4.alloc (.cells #[.int .u8 48] 5)).grownBy w6 (some w4.heap.size) →
            U32 w6 sq (num ((R / 10 : Nat) : Int)) ∧ U8 w6 v6 (bInts (UInt8.ofNat (48 + 0) :: L)) ∧ Below w1.heap.size w1 w6 ∧ sliceLen v6 = L.length + 1) := Hfin.out
          clear hown4 hoa hbm hm hmv hml Hfin
          go_wp2_with (at_builtin; refine wpList_append_seg _ rfl _ _ 49 rfl w4.heap.size 5 i0 (.int .u8 0) 1 Tryd.underlying49 hi hz0 hz1 hz2 rfl (.slice (some ⟨w4.heap.size, 0, none⟩) 1 1) (.slice po L.length co) 1 _ rfl hown5 rfl hoa5 (by unfold maxLen; omega) (by omega) (by simp) ?_; intro v6 w6 hown6 hgrow6 hob6)
          obtain ⟨f1, f2, f3, f4⟩ := Hf5.out v6 w6 hown6 hgrow6
          clear hown6 hgrow6 hob6
          go_roundw
          case rel => exact ⟨R / 10, _, by omega, f1, f2, by have := HLT.out; simp; omega, HST.out, f3⟩
          case measure =>
            show (Lib.decDigits A).length - sliceLen v6 < (Lib.decDigits A).length - L.length
            have := HLT.out
            rw [f4]
            omega
        · have hDl : 0 < (num (D : Int)).length := by
            rcases Nat.eq_zero_or_pos (num (D : Int)).length with h | h
            · have := (num_nil (show (0 : Int) ≤ (D : Int) by omega)).1 (List.eq_nil_of_length_eq_zero h)
              omega
            · exact h
          obtain ⟨bm, om, cm', em, hbm1, _, hcm⟩ := hm.pos hDl
          simp only [Value.slice.injEq] at em
          obtain ⟨rfl, _, rfl⟩ := em
          have hc0 := hcm 0 hDl
          rw [Nat.add_zero, hmv] at hc0
          have hDl' : ((num (D : Int)).length : Int) > 0 := by omega
          have hown5 := hown4
          have hoa5 := hoa
          have Hf5 : Hid _ := Hfin.out
          clear hown4 hoa hbm hm hmv hml hcm
          go_wp2_with (at_builtin; refine wpList_append_seg _ rfl _ _ 49 rfl w4.heap.size 5 i0 (.int .u8 0) 1 Tryd.underlying49 hi hz0 hz1 hz2 rfl (.slice (some ⟨w4.heap.size, 0, none⟩) 1 1) (.slice po L.length co) 1 _ rfl hown5 rfl hoa5 (by unfold maxLen; omega) (by omega) (by simp) ?_; intro v6 w6 hown6 hgrow6 hob6)
          obtain ⟨f1, f2, f3, f4⟩ := Hf5.out v6 w6 hown6 hgrow6
          clear hown6 hgrow6 hob6
          go_roundw
          case rel => exact ⟨R / 10, _, by omega, f1, f2, by have := HLT.out; simp; omega, HST.out, f3⟩
          case measure =>
            show (Lib.decDigits A).length - sliceLen v6 < (Lib.decDigits A).length - L.length
            have := HLT.out
            rw [f4]
            omega

end Go.Proofs.YtkalknmindgljaaDoor
