/-
  The contract of natural.decimalPieces.
-/
import Derived.BigRegion
import Derived.Test.YtkalknmindgljaaDoorDivOne
import Derived.Test.YtkalknmindgljaaDoorTextMath
import Derived.Test.YtkalknmindgljaaDoorAppSeg
namespace Go.Proofs.YtkalknmindgljaaDoor
open Go Go.Proofs Go.RowKit Go.Shelf

theorem owns_below2 {w w' : World} {base : Nat} {e : TypeId} {size : Nat} {v : Value} {n : Nat} {xs : List Value} (h : w.ownsRow base e size v n xs) (hb : Below w.heap.size w w') : w'.ownsRow base e size v n xs := by
  obtain ⟨h1, h2⟩ := h
  refine ⟨h1, ?_⟩
  rcases h2 with h2 | ⟨g, cap, cur, hv, hg, hk, rest⟩
  · exact .inl h2
  · exact .inr ⟨g, cap, cur, hv, hg, (hb.block g (Array.getElem?_eq_some_iff.1 hk).1).trans hk, rest⟩
theorem nth_num0 {x : Int} (h : 0 ≤ x ∧ x < 4294967296) : nth (num x) 0 = x := by
  have hv := num_val h.1
  have hl := num_len (v := x) (k := 1) (by simpa [pB] using h.2)
  match hn : num x, hl with
  | [], _ => rw [hn] at hv; simp [val] at hv; rw [← hv]; rfl
  | [z], _ => rw [hn] at hv; simp [val] at hv; rw [nth_zero]; exact hv
def sliceLen : Value → Nat
  | .slice _ n _ => n
  | _ => 0
theorem owns_len {w : World} {base : Nat} {e : TypeId} {v : Value} {n : Nat} {xs : List Value} (h : w.ownsRow base e 1 v n xs) : sliceLen v = n := by
  rcases h.2 with ⟨rfl, rfl⟩ | ⟨g, cap, cur, rfl, _⟩ <;> rfl

theorem pcs_count {a : List Int} (da : Dig a) (ha : a.length ≤ 1000) : (pcsN (val a).toNat).length ≤ 1104 := by
  have hv0 := val_nonneg da
  have hvlt : val a < pB 1000 := by have := val_lt da; have := pB_le ha; omega
  obtain ⟨k, hk⟩ : ∃ k, k = 1104 := ⟨_, rfl⟩
  obtain ⟨j, hj⟩ : ∃ j, j = 1000 := ⟨_, rfl⟩
  rw [← hk]
  rw [← hj] at hvlt
  refine pcs_len ?_
  have h1 : (2 : Int) ^ (32 * j) ≤ 2 ^ (29 * k) := pow2_le (by omega)
  rw [pB_two] at hvlt
  have h2 : ((2 ^ (29 * k) : Nat) : Int) = 2 ^ (29 * k) := Int.natCast_pow 2 _
  omega

set_option maxRecDepth 100000 in
set_option maxHeartbeats 4000000 in
theorem decimalPieces_any {a : List Int} {w : World} {sa : Value} (hA : U32 w sa a) (da : Dig a) (ha : a.length ≤ 1000) :
    Calls Tryd.prog 53 #[sa] w fun e w' => ∃ sv, e = .returned sv ∧ U32 w' sv (pcsN (val a).toNat) ∧ (∀ x m k, sv = .slice (some x) m k → w.heap.size ≤ x.block) ∧ Below w.heap.size w w' := by
  obtain ⟨i0, hi, hz0, hz1, hz2⟩ := info_parts info42
  have hv0 := val_nonneg da
  have hla := trimL_length a
  have htn : trimL a = num (val a) := trimL_num da
  have hln : (num (val a)).length ≤ 1000 := by rw [← htn]; omega
  have hvlt : val a < pB 1000 := by have := val_lt da; have := pB_le ha; omega
  have hcb := pcs_count da ha
  go_enter Tryd.func53, Tryd.ntmps53
  go_wp2_with fail
  refine (powersOfTen_any _).mono ?_
  rintro e w1 ⟨rfl, hb1⟩
  have hT := World.alloc_heap_new w1 (.cells #[.int .u32 1, .int .u32 10, .int .u32 100, .int .u32 1000, .int .u32 10000, .int .u32 100000, .int .u32 1000000, .int .u32 10000000, .int .u32 100000000, .int .u32 1000000000] 63)
  have hb2 : Below w.heap.size w (w1.alloc (.cells #[.int .u32 1, .int .u32 10, .int .u32 100, .int .u32 1000, .int .u32 10000, .int .u32 100000, .int .u32 1000000, .int .u32 10000000, .int .u32 100000000, .int .u32 1000000000] 63)) := hb1.alloc hb1.size _
  have hA2 := hA.go hb2
  go_wp2_with fail
  refine (trim_at hA2 (by omega) (Nat.le_refl _)).mono ?_
  rintro e w3 ⟨sx, rfl, hx, hb3⟩
  rw [htn] at hx
  have hx3 := hx.up hb3.size
  have hT3 := (hb3.block w1.heap.size (by simp)).trans hT
  have hb13 := hb2.trans (hb3.mono hb2.size)
  have lt3 : w1.heap.size < w3.heap.size := (Array.getElem?_eq_some_iff.1 hT3).1
  have lt1 := hb1.size
  clear hT hA2 hb2 hb3 hx hb1
  obtain ⟨T, hTT⟩ : ∃ T, w1.heap.size = T := ⟨_, rfl⟩
  rw [hTT] at hT3 lt3 lt1 ⊢
  clear hTT
  go_wp2
  go_loopw [4, 5] (fun p r wr => ∃ (R : Int) (ps : List Int), (0 ≤ R ∧ R ≤ val a) ∧ U32 wr r (num R) ∧ wr.ownsRow w3.heap.size 42 1 p ps.length (ps.map (Value.int .u32)) ∧ Below w3.heap.size w3 wr ∧ ps ++ pcsN R.toNat = pcsN (val a).toNat) (fun p _ _ => (pcsN (val a).toNat).length - sliceLen p)
  case atStart => exact ⟨val a, [], ⟨hv0, Int.le_refl _⟩, hx3, ⟨rfl, .inl ⟨rfl, rfl⟩⟩, Below.refl _ _, rfl⟩
  case round =>
    obtain ⟨R, ps, hR, hr, hown, hbl, heq⟩ := hrel
    have hsz := hbl.size
    have hRlt : R < pB 1000 := by omega
    have hRl := num_len hRlt
    have hRv := num_val hR.1
    by_cases h0 : R = 0
    · have hpn : ps = pcsN (val a).toNat := by rw [← heq, h0]; simp [pcsN_zero]
      have hnil : num R = [] := by rw [h0, num_zero]
      rw [hnil] at hr
      obtain ⟨p, c, rfl⟩ := hr.len
      have hsg : U32 wr u4 ps := Seg.of_owns (t := 42) (base := w3.heap.size) hown
      have hnew : ∀ x m k, u4 = .slice (some x) m k → w.heap.size ≤ x.block := fun x m k e => by have := owns_ge hown (i := x.block) (by rw [e]; rfl); omega
      rw [hpn] at hsg
      have hblw := hb13.trans (hbl.mono hb13.size)
      have HS : Hid _ := hsg
      clear hpn heq hsg hown
      go_wp2
      go_ret
      exact ⟨_, rfl, HS.out, hnew, hblw⟩
    · have hRn : R.toNat ≠ 0 := by omega
      have hpp := pcsN_pos hRn
      have hlpos : 0 < (num R).length := by
        rcases Nat.eq_zero_or_pos (num R).length with h | h
        · exact absurd ((num_nil hR.1).1 (List.eq_nil_of_length_eq_zero h)) h0
        · exact h
      have hlpos' : ((num R).length : Int) > 0 := by omega
      obtain ⟨p, c, rfl⟩ := hr.len
      have hT9 : wr.cell? ⟨T, 9, none⟩ = some (.int .u32 1000000000) := by
        have := (hbl.block T lt3).trans hT3
        simp [World.cell?, this]
      have hB9 : U32 wr (.slice (some ⟨T, 9, none⟩) 1 1) [1000000000] := .inr ⟨T, 9, 1, rfl, by omega, Nat.le_refl _, fun j hj => by
        obtain rfl : j = 0 := by simpa using hj
        exact hT9⟩
      have hdm := divMod_one hr hB9 (by omega) (by omega) (by omega)
      have hq0 : 0 ≤ R / 1000000000 := Int.ediv_nonneg hR.1 (by omega)
      have hm0 : 0 ≤ R % 1000000000 ∧ R % 1000000000 < 1000000000 := by omega
      have hn0 := nth_num0 (x := R % 1000000000) (by omega)
      have hml : (num (R % 1000000000)).length ≤ 1 := num_len (by simp [pB]; omega)
      have heq2 : (ps ++ [R % 1000000000]) ++ pcsN (R / 1000000000).toNat = pcsN (val a).toNat := by
        rw [← heq, hpp, List.append_assoc]
        congr 1
        rw [List.singleton_append, show ((R.toNat % 1000000000 : Nat) : Int) = R % 1000000000 by omega, show R.toNat / 1000000000 = (R / 1000000000).toNat by omega]
      have hcnt : ps.length + 1 ≤ (pcsN (val a).toNat).length := by rw [← heq2]; simp
      have HQ : Hid _ := heq2
      have HC : Hid _ := hcnt
      have hpl : ps.length ≤ 100000000 := by omega
      clear heq heq2 hcnt hpp
      go_wp2_with fail
      refine hdm.mono ?_
      clear hdm
      rintro e w4 ⟨sq, sr, rfl, hq, hm, hb4, hfq⟩
      obtain ⟨pm, cm, rfl⟩ := hm.len
      have hown4 := owns_below2 hown hb4
      have hbl4 := hbl.trans (hb4.mono hsz)
      have hs4 := hb4.size
      have hlu := hown.lt
      have hsl := owns_len hown
      clear hown hb4 hbl hr
      go_wp2_with fail
      refine (limbAt_any (num (R % 1000000000)) 0 (by omega) (by omega) w4 w4.heap.size _ hm).mono ?_
      rintro e w5 ⟨rfl, rfl⟩
      rw [hn0]
      have hbn : Below w5.heap.size w5 (w5.alloc (.cells #[.int .u32 (R % 1000000000)] 42)) := (Below.refl _ _).alloc (Nat.le_refl _) _
      have hnew := Seg.new (q := .u32) w5 #[.int .u32 (R % 1000000000)] 42 [R % 1000000000] 1 (by simp) (vs1 _)
      have hown5 := owns_below2 hown4 hbn
      go_wp2_with (at_builtin; refine wpList_append_seg _ rfl _ _ 23 rfl w3.heap.size 42 i0 (.int .u32 0) 4 Tryd.underlying23 hi hz0 hz1 hz2 rfl u4 (.slice (some ⟨w5.heap.size, 0, none⟩) 1 1) ps.length _ rfl hown5 rfl hnew (by unfold maxLen; simp; omega) (by simp; omega) (by simp; omega) ?_; intro v6 w6 hown6 hgrow6 hob6)
      have hq6 : U32 w6 sq (num (R / 1000000000)) := by
        refine ((hq.go hbn).grown hgrow6 (Nat.le_refl _) (fun k hk e => ?_)).up hgrow6.size
        have := hlu k hk
        obtain ⟨pq, cq, e2⟩ := hq.len
        rw [e2] at e hfq
        cases pq with
        | none => cases e
        | some y =>
          have := hfq y _ _ rfl
          have e3 : y.block = k := Option.some.inj e
          omega
      have hbl6 : Below w3.heap.size w3 w6 := (hbl4.alloc (by omega) _).grown hgrow6 (by simp; omega) (fun k hk => (hlu k hk).1)
      rw [show ps.map (Value.int .u32) ++ [R % 1000000000].map (Value.int .u32) = (ps ++ [R % 1000000000]).map (Value.int .u32) by simp, show ps.length + [R % 1000000000].length = (ps ++ [R % 1000000000]).length by simp] at hown6
      have hsl6 := owns_len hown6
      have hc := HC.out
      clear hown5 hown4 hnew hbn hgrow6 hob6 hm hq hlu
      go_roundw
      case rel => exact ⟨R / 1000000000, ps ++ [R % 1000000000], ⟨hq0, by omega⟩, hq6, hown6, hbl6, HQ.out⟩
      case measure =>
        rw [hsl, hsl6]
        simp
        omega

end Go.Proofs.YtkalknmindgljaaDoor
