/-
  The contract of tjoin.isOddSomewhere.
-/
import Derived.Test.YthdhimcaojfcnaaGreatJM
import Derived.Test.YthdhimcaojfcnaaGreatXTjLead
namespace Go.Proofs.YthdhimcaojfcnaaGreat
open Go Go.Proofs Go.RowKit

theorem bAt_true {T : List Bool} : T.contains true = true ↔ ∃ v, v < T.length ∧ bAt T v = true := by
  rw [List.contains_iff_mem]
  constructor
  · intro h
    obtain ⟨i, hi, e⟩ := List.getElem_of_mem h
    exact ⟨i, hi, by simp [bAt, hi, e]⟩
  · rintro ⟨v, hv, e⟩
    rw [bAt, List.getD_eq_getElem?_getD, List.getElem?_eq_getElem hv] at e
    have e2 : T[v] = true := e
    rw [← e2]; exact List.getElem_mem hv
set_option maxRecDepth 100000 in
set_option maxHeartbeats 4000000 in
theorem indexB_any (T : List Bool) (hT : T.length ≤ 4194304) (tv : Value) (w : World) (hI : Bools w.heap.size w tv T) :
    Calls Tryz.prog 44 #[tv, .bool true] w fun r w' => (∃ k : Nat, k < T.length ∧ bAt T k = true ∧ r = .returned (.int .i64 (k : Int)) ∨ (∀ v, v < T.length → bAt T v = false) ∧ r = .returned (.int .i64 (-1))) ∧ w' = w := by
  obtain ⟨p, c, rfl⟩ := hI.len
  have HI : Hid (Bools w.heap.size w (.slice p T.length c) T) := hI
  clear hI
  go_enter Tryz.func44, Tryz.ntmps44
  go_wp2
  go_loopw [8] (fun iv wr => ∃ j : Nat, j ≤ T.length ∧ iv = .int .i64 j ∧ (∀ v, v < j → bAt T v = false) ∧ wr = w) (fun i _ => T.length - (intOf i).toNat)
  case atStart => exact ⟨0, Nat.zero_le _, rfl, fun v hv => absurd hv (by omega), rfl⟩
  case round =>
    obtain ⟨j, hj, rfl, hA, rfl⟩ := hrel
    have HA : Hid (∀ v, v < j → bAt T v = false) := hA
    clear hA
    by_cases hlt : j < T.length
    · have hjl : (j : Int) < (T.length : Int) := by omega
      obtain ⟨b, off, rfl, hbb, hcap, hc⟩ := Vals.open (enc := Value.bool) HI.out hlt
      have c0 := hc wr (Below.refl _ _) j hlt
      have hbT : bAt T j = T[j] := by simp [bAt, hlt]
      rw [← hbT] at c0
      have HLT : Hid (j < T.length) := hlt
      clear hc hlt hbT
      cases hP : bAt T j with
      | false =>
        have HP : Hid (bAt T j = false) := hP
        rw [hP] at c0
        clear hP
        go_wp2
        exact ⟨⟨j + 1, HLT.out, by go_num, fun v hv => by
          by_cases e : v = j
          · rw [e]; exact HP.out
          · exact HA.out v (by omega), trivial⟩, by have := HLT.out; simp [intOf]; omega⟩
      | true =>
        have HP : Hid (bAt T j = true) := hP
        rw [hP] at c0
        clear hP
        go_wp2
        go_ret
        exact ⟨⟨j, .inl ⟨HLT.out, HP.out, rfl⟩⟩, rfl⟩
    · obtain rfl : j = T.length := by omega
      go_wp2
      go_ret
      exact ⟨⟨0, .inr ⟨HA.out, rfl⟩⟩, rfl⟩
set_option maxRecDepth 100000 in
set_option maxHeartbeats 4000000 in
theorem containsB_any (T : List Bool) (hT : T.length ≤ 4194304) (tv : Value) (w : World) (hI : Bools w.heap.size w tv T) :
    Calls Tryz.prog 39 #[tv, .bool true] w fun r w' => r = .returned (.bool (T.contains true)) ∧ w' = w := by
  have hx := indexB_any T hT tv w hI
  clear hI
  go_enter Tryz.func39, Tryz.ntmps39
  go_wp2_with fail
  refine hx.mono ?_
  clear hx
  rintro e w1 ⟨⟨k, ⟨hk, hb, rfl⟩ | ⟨hA, rfl⟩⟩, rfl⟩
  · have HE : Hid (T.contains true = true) := bAt_true.2 ⟨k, hk, hb⟩
    go_wp2
    go_ret
    refine ⟨?_, rfl⟩
    rw [HE.out]
    simp
  · have HE : Hid (T.contains true = false) := by
      show _ = _
      cases h : T.contains true with
      | false => rfl
      | true => obtain ⟨v, hv, e⟩ := bAt_true.1 h; rw [hA v hv] at e; cases e
    go_wp2
    go_ret
    refine ⟨?_, rfl⟩
    rw [HE.out]
    rfl
/-- Turned at each vertex's leader. -/
def turnT (R : Nat → Nat) (T : List Bool) (B : List Int) : List Bool := B.foldl (fun T v => flipB T (R v.toNat)) T
theorem turnT_len (R : Nat → Nat) : ∀ (B : List Int) (T : List Bool), (turnT R T B).length = T.length
  | [], _ => rfl
  | x :: B, T => by show (turnT R (flipB T (R x.toNat)) B).length = _; rw [turnT_len R B, flipB_len]
theorem turnT_snoc (R : Nat → Nat) (T : List Bool) (B : List Int) (x : Int) : turnT R T (B ++ [x]) = flipB (turnT R T B) (R x.toNat) := by simp [turnT]
set_option maxRecDepth 100000 in
set_option maxHeartbeats 8000000 in
theorem isOdd_any (N : Nat) (R : Nat → Nat) (B : List Int) (hN : N ≤ 1048576) (hR : ∀ v, v < N → R v < N) (hB : plcB N B = true) (hBl : B.length ≤ 8388608) (g : Nat) (bv : Value) (w : World) (hG : Blk 3 w g (natsV (leadL N R))) (hI : Ints w.heap.size w bv B) :
    Calls Tryz.prog 32 #[.slice (some ⟨g, 0, none⟩) N N, bv] w fun r w' => r = .returned (.bool ((turnT R (List.replicate N false) B).contains true)) ∧ Below w.heap.size w w' := by
  have hmix := mixed
  obtain ⟨pb, cb, rfl, ho⟩ := hI.openW
  have HO : Hid _ := fun (j : Nat) (hj : j < B.length) => ho (j := j) hj
  clear ho
  obtain ⟨i0, hi, hz0, hz1, hz2⟩ := info_parts infoBT
  have HG : Hid (Blk 3 w g (natsV (leadL N R))) := hG
  have hgl := hG.lt
  clear hG
  go_enter Tryz.func32, Tryz.ntmps32
  go_wp2_with (at_make; refine wpList_make_full _ rfl _ _ 49 rfl w.heap.size 4 i0 (.bool false) 1 Tryz.underlying49 hi hz0 hz1 .i64 .i64 _ _ N rfl rfl rfl rfl (by rw [hz2]; omega) (by unfold maxLen; omega) (by simp) ?_; intro w3 hown hgrow; have hb3 : Below w.heap.size w w3 := (Below.refl _ _).grown hgrow (Nat.le_refl _) (fun k e => by cases e); have hrow := Blk.made hown; have hsz := hrow.lt; rw [bools_madeT] at hrow; have HRow : Hid (Blk 4 w3 w.heap.size ((turnT R (List.replicate N false) (B.take 0)).map Value.bool)) := hrow; have HB3 : Hid (Below w.heap.size w w3) := hb3; clear hown hgrow hb3 hrow)
  obtain ⟨x, hx⟩ : ∃ n, w.heap.size = n := ⟨_, rfl⟩
  rw [hx] at HRow hsz HB3 hgl ⊢
  clear hi hz0 hz1 hz2
  go_loopw [13] (fun i wr => ∃ j : Nat, j ≤ B.length ∧ i = .int .i64 j ∧ Hid (Blk 4 wr x ((turnT R (List.replicate N false) (B.take j)).map Value.bool)) ∧ Hid (Below x w wr)) (fun i _ => B.length - (intOf i).toNat)
  case atStart => exact ⟨0, Nat.zero_le _, rfl, HRow, HB3⟩
  case round =>
    obtain ⟨j, hj, rfl, HR, HB⟩ := hrel
    by_cases hlt : j < B.length
    · have hjl : (j : Int) < (B.length : Int) := by omega
      obtain ⟨b2, off2, rfl, hb2, hc2⟩ := HO.out j hlt
      rw [hx] at hb2 hc2
      have c0 := hc2 wr HB.out j hlt
      rw [at_get hlt] at c0
      obtain ⟨v, hv1, hv2⟩ := plc_at hB hlt
      have HST : Hid (flipB (turnT R (List.replicate N false) (B.take j)) (R v) = turnT R (List.replicate N false) (B.take (j + 1))) := by
        show _ = _
        rw [List.take_succ_eq_append_getElem hlt, turnT_snoc, hv1, Int.toNat_natCast]
      rw [hv1] at c0
      have hvl : (v : Int) < (N : Int) := by omega
      have hrl := hR v hv2
      have hrl' : ((R v : Nat) : Int) < (N : Int) := by omega
      have g0 : wr.cell? ⟨g, v, none⟩ = some (.int .i64 (R v : Int)) := (HG.out.go (by rw [hx]; exact HB.out)).cell (leadL_at hv2)
      have hlT : (turnT R (List.replicate N false) (B.take j)).length = N := by rw [turnT_len, List.length_replicate]
      have HLT : Hid (j < B.length) := hlt
      generalize turnT R (List.replicate N false) (B.take j) = T at *
      generalize R v = rv at *
      have t0 := HR.out.bcell (v := rv) (by rw [hlT]; exact hrl)
      have f0 := HR.out.frozen rv
      have HR2 : Hid _ := HR.out.flip rv
      have HB2 : Hid (Below x w (wr.setCell ⟨x, rv, none⟩ (.bool (!bAt T rv)))) := HB.out.setCell (p := ⟨x, rv, none⟩) (Nat.le_refl _) _
      clear HR HB hc2 hlt hv1 hlT
      go_wp2
      go_big_region_o
      go_wp2
      refine ⟨⟨j + 1, HLT.out, by go_num, ?_, below_drewN HB2.out 1⟩, by have := HLT.out; simp [intOf]; omega⟩
      rw [← HST.out]
      exact HR2.out
    · obtain rfl : j = B.length := by omega
      have h1 := HR.out
      rw [List.take_length] at h1
      have hcb := containsB_any (turnT R (List.replicate N false) B) (by rw [turnT_len, List.length_replicate]; omega) (.slice (some ⟨x, 0, none⟩) N N) wr (h1.boolsT (by rw [turnT_len, List.length_replicate]))
      clear HR h1
      go_wp2_with fail
      refine hcb.mono ?_
      rintro e w9 ⟨rfl, rfl⟩
      clear hcb
      go_wp2
      go_ret
      rw [hx]
      exact ⟨by simp, HB.out⟩
end Go.Proofs.YthdhimcaojfcnaaGreat
