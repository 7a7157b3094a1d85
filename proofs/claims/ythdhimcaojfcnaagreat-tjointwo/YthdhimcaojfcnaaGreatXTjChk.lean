/-
  The contracts of tjoin.fits and tjoin.Check.
-/
import Derived.Test.YthdhimcaojfcnaaGreatShelfS
import Derived.Test.YthdhimcaojfcnaaGreatXTjOdd2
namespace Go.Proofs.YthdhimcaojfcnaaGreat
open Go Go.Proofs Go.RowKit

/-- The same numbers? -/
def sameT (A B : List Int) : Bool := A == B
theorem sameT_iff {A B : List Int} : sameT A B = true ↔ A = B := by simp [sameT]
theorem vals_cells {b off c : Nat} {A : List Int} {n : Nat} {w : World} (h : Ints n w (.slice (some ⟨b, off, none⟩) A.length c) A) : ∀ j, j < A.length → w.cell? ⟨b, off + j, none⟩ = some (.int .i64 (A.getD j 0)) := fun j hj => by
  obtain ⟨b', off', e, _, _, hc⟩ := Vals.open h hj
  simp only [Option.some.injEq, Addr.mk.injEq] at e
  obtain ⟨rfl, rfl, _⟩ := e
  rw [hc w (Below.refl _ _) j hj]
  simp [hj]
theorem equalI_any (A B : List Int) (av bv : Value) (n : Nat) (w : World) (hA : Ints n w av A) (hB : Ints n w bv B) (hl : A.length ≤ 8388608) (hl2 : B.length ≤ 8388608) :
    Calls Tryz.prog 29 #[av, bv] w fun r w' => r = .returned (.bool (sameT A B)) ∧ ∃ q, w' = w.drewN q := by
  obtain ⟨pa, ca, rfl⟩ := hA.len
  obtain ⟨pb, cb, rfl⟩ := hB.len
  by_cases h : A.length = B.length
  · by_cases h0 : A.length = 0
    · have e1 : A = [] := List.eq_nil_of_length_eq_zero h0
      have e2 : B = [] := List.eq_nil_of_length_eq_zero (by omega)
      subst e1 e2
      refine (Tryz.slices_Equal_int_empty pa pb ca 0 cb w (by omega)).mono ?_
      rintro e w' ⟨rfl, rfl⟩
      exact ⟨rfl, 0, rfl⟩
    · obtain ⟨b1, o1, rfl, _⟩ := Vals.open hA (j := 0) (by omega)
      obtain ⟨b2, o2, rfl, _⟩ := Vals.open hB (j := 0) (by omega)
      refine (Tryz.slices_Equal_int b1 o1 A.length ca b2 o2 B.length cb A B w (Nat.le_refl _) (Nat.le_refl _) (by omega) (by omega) (vals_cells hA) (vals_cells hB)).mono ?_
      rintro e w' ⟨rfl, hq⟩
      rw [List.take_length, List.take_length]
      exact ⟨rfl, hq⟩
  · refine (Tryz.slices_Equal_int_lens pa pb A.length ca B.length cb w h).mono ?_
    rintro e w' ⟨rfl, rfl⟩
    have : sameT A B = false := by
      rw [← Bool.not_eq_true, sameT_iff]
      intro e; rw [e] at h; exact h rfl
    exact ⟨by rw [this], 0, rfl⟩

/-- What is asked of a list of vertices, and of edges. -/
def fitT (n : Int) (l : List Ed) (T : List Int) : Int := if rgtW n l = 0 then if rsB T n = true then 0 else 1 else rgtW n l
def chkT (n : Int) (l : List Ed) (T B : List Int) : Int := if fitT n l T = 0 then if rsB B l.length = true ∧ oddK n l B = T then 0 else 13 else fitT n l T
theorem fitT_zero {n : Int} {l : List Ed} {T : List Int} (h : fitT n l T = 0) : rgtW n l = 0 ∧ rsB T n = true := by
  unfold fitT at h
  split at h
  · rename_i h1
    split at h
    · exact ⟨h1, by assumption⟩
    · omega
  · rename_i h1; exact absurd h h1
set_option maxRecDepth 100000 in
set_option maxHeartbeats 4000000 in
theorem fitsT_any (n : Int) (l : List Ed) (T : List Int) (hT : T.length ≤ 8388608) (sv tv : Value) (w : World) (hl : Edges w.heap.size w sv l) (hI : Ints w.heap.size w tv T) :
    Calls Tryz.prog 27 #[.agg #[.int .i64 n, sv], tv] w fun r w' => r = .returned (.int .i64 (fitT n l T)) ∧ Grew w w' := by
  obtain ⟨p, c, rfl⟩ := hl.len
  have hg1 : Grew w (w.alloc (.cells #[.int .i64 n, .slice p l.length c] 24)) := (Grew.refl w).alloc _
  have hrt := rightW_any n l _ _ (hl.go hg1.below)
  by_cases hk : rgtW n l = 0
  · obtain ⟨N, L, rfl, hN, rfl, hm, hE, hW⟩ := right_egs hk
    have hE : Hid (fitT (N : Int) (L.map edE) T = if rsB T N = true then 0 else 1) := by show _ = _; unfold fitT; rw [if_pos hk]
    rw [hk] at hrt
    rw [List.length_map] at hrt hg1 hl ⊢
    have HI : Hid (Ints w.heap.size w tv T) := hI
    clear hk hI hl
    go_enter Tryz.func27, Tryz.ntmps27
    go_wp2_with fail
    refine hrt.mono ?_
    rintro e w1 ⟨rfl, hg2⟩
    clear hrt
    have q0 := (box2 _ hg2).1
    have hbw : Below w.heap.size w w1 := (hg1.trans hg2).below
    have hr := rises_any T (N : Int) (by omega) (by omega) hT tv w1 ((HI.out.below hbw).mono hbw.size)
    cases hb : rsB T (N : Int) with
    | true =>
      rw [hb] at hr
      have HE : Hid (fitT (N : Int) (L.map edE) T = 0) := by show _ = _; rw [hE.out, hb]; rfl
      clear hb
      go_wp2_with fail
      refine hr.mono ?_
      rintro e w2 ⟨rfl, rfl⟩
      go_wp2
      go_ret
      exact ⟨by rw [HE.out]; rfl, hg1.trans hg2⟩
    | false =>
      rw [hb] at hr
      have HE : Hid (fitT (N : Int) (L.map edE) T = 1) := by show _ = _; rw [hE.out, hb]; rfl
      clear hb
      go_wp2_with fail
      refine hr.mono ?_
      rintro e w2 ⟨rfl, rfl⟩
      go_wp2
      go_ret
      exact ⟨by rw [HE.out]; rfl, hg1.trans hg2⟩
  · have HE : Hid (fitT n l T = rgtW n l) := if_neg hk
    generalize rgtW n l = k at hrt hk HE
    have hk' : (k == 0) = false := by simpa using hk
    go_enter Tryz.func27, Tryz.ntmps27
    go_wp2_with fail
    refine hrt.mono ?_
    rintro e w1 ⟨rfl, hg2⟩
    clear hrt
    go_wp2
    go_ret
    exact ⟨by rw [HE.out]; rfl, hg1.trans hg2⟩

theorem rs_plc {B : List Int} {m : Nat} (h : rsB B m = true) : plcB m B = true := by
  rw [plc_iff]
  exact (rs_iff.1 h).1
set_option maxRecDepth 100000 in
set_option maxHeartbeats 4000000 in
theorem checkT_any (n : Int) (l : List Ed) (T B : List Int) (hT : T.length ≤ 4194304) (hBl : B.length ≤ 4194304) (sv tv bv : Value) (w : World) (hl : Edges w.heap.size w sv l) (hI : Ints w.heap.size w tv T) (hJ : Ints w.heap.size w bv B) :
    Calls Tryz.prog 13 #[.agg #[.int .i64 n, sv], tv, bv] w fun r w' => r = .returned (.int .i64 (chkT n l T B)) ∧ Below w.heap.size w w' := by
  obtain ⟨p, c, rfl⟩ := hl.len
  have hg1 : Grew w (w.alloc (.cells #[.int .i64 n, .slice p l.length c] 24)) := (Grew.refl w).alloc _
  have hft := fitsT_any n l T (by omega) _ tv _ (hl.go hg1.below) ((hI.below hg1.below).mono hg1.below.size)
  by_cases hk : fitT n l T = 0
  · obtain ⟨hr0, hrT⟩ := fitT_zero hk
    obtain ⟨N, L, rfl, hN, rfl, hm, hE, hW⟩ := right_egs hr0
    have hE1 : Hid (chkT (N : Int) (L.map edE) T B = if rsB B L.length = true ∧ oddK (N : Int) (L.map edE) B = T then 0 else 13) := by show _ = _; unfold chkT; rw [if_pos hk, List.length_map]
    rw [hk] at hft
    rw [List.length_map] at hft hg1 hl ⊢
    have HL : Hid (Edges w.heap.size w (.slice p L.length c) (L.map edE)) := hl
    have HI : Hid (Ints w.heap.size w tv T) := hI
    have HJ : Hid (Ints w.heap.size w bv B) := hJ
    obtain ⟨pb, cb, rfl⟩ := hJ.len
    obtain ⟨pt, ct, rfl⟩ := hI.len
    have HR0 : Hid _ := hr0
    clear hk hI hl hJ hrT hr0
    go_enter Tryz.func13, Tryz.ntmps13
    go_wp2_with fail
    refine hft.mono ?_
    rintro e w1 ⟨rfl, hg2⟩
    clear hft
    have q0 := (box2 _ hg2).1
    have q1 := (box2 _ hg2).2
    have hbw : Below w.heap.size w w1 := (hg1.trans hg2).below
    have hr := rises_any B (L.length : Int) (by omega) (by omega) (by omega) (.slice pb B.length cb) w1 ((HJ.out.below hbw).mono hbw.size)
    cases hb : rsB B (L.length : Int) with
    | false =>
      rw [hb] at hr
      have HE : Hid (chkT (N : Int) (L.map edE) T B = 13) := by show _ = _; rw [hE1.out, hb]; rfl
      clear hb
      go_wp2_with fail
      refine hr.mono ?_
      rintro e w2 ⟨rfl, rfl⟩
      go_wp2
      go_ret
      exact ⟨by rw [HE.out]; rfl, hbw⟩
    | true =>
      rw [hb] at hr
      have hod := oddOf_any N L B hN hE (rs_plc hb) (by omega) _ _ w1 ((HL.out.below hbw).mono hbw.size) ((HJ.out.below hbw).mono hbw.size)
      have hoK : oddK (N : Int) (L.map edE) B = oddV N L B := oddK_ok HR0.out (rs_plc hb)
      have HE : Hid (chkT (N : Int) (L.map edE) T B = if sameT (oddV N L B) T = true then 0 else 13) := by
        show _ = _
        rw [hE1.out, hb, hoK]
        by_cases e : oddV N L B = T
        · rw [if_pos ⟨rfl, e⟩, if_pos (sameT_iff.2 e)]
        · rw [if_neg (fun h => e h.2), if_neg (fun h => e (sameT_iff.1 h))]
      have hlo : (oddV N L B).length ≤ 8388608 := by
        have := trueK_len (oddT N L B) (oddT N L B).length
        have h2 := oddT_len N L B
        show (trueK _ _).length ≤ _
        omega
      have HLo : Hid _ := hlo
      clear hb hoK hlo
      go_wp2_with fail
      refine hr.mono ?_
      rintro e w2 ⟨rfl, rfl⟩
      go_wp2_with fail
      refine hod.mono ?_
      rintro e w3 ⟨lv, rfl, ho, hb3⟩
      clear hr hod
      have hbw3 := hbw.trans (hb3.mono hbw.size)
      have heq := equalI_any (oddV N L B) T lv (.slice pt T.length ct) w3.heap.size w3 (ints_ownsT ho) ((HI.out.below hbw3).mono hbw3.size) HLo.out (by omega)
      have HO : Hid _ := ho
      clear ho
      cases hs : sameT (oddV N L B) T with
      | true =>
        rw [hs] at heq
        have HE2 : Hid (chkT (N : Int) (L.map edE) T B = 0) := by show _ = _; rw [HE.out, hs]; rfl
        clear hs
        go_wp2_with fail
        refine heq.mono ?_
        rintro e w4 ⟨rfl, q, rfl⟩
        go_wp2
        go_ret
        exact ⟨by rw [HE2.out]; rfl, below_drewN hbw3 q⟩
      | false =>
        rw [hs] at heq
        have HE2 : Hid (chkT (N : Int) (L.map edE) T B = 13) := by show _ = _; rw [HE.out, hs]; rfl
        clear hs
        go_wp2_with fail
        refine heq.mono ?_
        rintro e w4 ⟨rfl, q, rfl⟩
        go_wp2
        go_ret
        exact ⟨by rw [HE2.out]; rfl, below_drewN hbw3 q⟩
  · have HE : Hid (chkT n l T B = fitT n l T) := if_neg hk
    generalize fitT n l T = k at hft hk HE
    have hk' : (k == 0) = false := by simpa using hk
    go_enter Tryz.func13, Tryz.ntmps13
    go_wp2_with fail
    refine hft.mono ?_
    rintro e w1 ⟨rfl, hg2⟩
    clear hft
    go_wp2
    go_ret
    exact ⟨by rw [HE.out]; rfl, (hg1.trans hg2).below⟩
end Go.Proofs.YthdhimcaojfcnaaGreat
