/-
  The contracts of the reference's Asked and Check of layer 14.
-/
import Derived.Test.YthdhimcaojfcnaaGreatXTjRefOdd
namespace Go.Proofs.YthdhimcaojfcnaaGreat
open Go Go.Proofs Go.RowKit

set_option maxRecDepth 100000 in
set_option maxHeartbeats 4000000 in
theorem refOddT_all (n : Int) (l : List Ed) (B : List Int) (hBl : B.length ≤ 8388608) (sv bv : Value) (w : World) (hl : Edges w.heap.size w sv l) (hI : Ints w.heap.size w bv B) :
    Calls Tryz.prog 12 #[.agg #[.int .i64 n, sv], bv] w fun r w' => ∃ rv, r = .returned rv ∧ Ints w'.heap.size w' rv (oddK n l B) ∧ Below w.heap.size w w' := by
  by_cases hk : rgtW n l = 0
  · obtain ⟨N, L, rfl, hN, rfl, hm, hE, hW⟩ := right_egs hk
    exact refOddT_any N L B hN hk hE hBl sv bv w hl hI
  · obtain ⟨p, c, rfl⟩ := hl.len
    have hg1 : Grew w (w.alloc (.cells #[.int .i64 n, .slice p l.length c] 24)) := (Grew.refl w).alloc _
    have hrt := refRightW_any n l _ _ (hl.go hg1.below)
    have HE : Hid (oddK n l B = []) := oddK_bad hk
    generalize rgtW n l = k at hrt hk
    have hk' : (k == 0) = false := by simpa using hk
    go_enter Tryz.func12, Tryz.ntmps12
    go_wp2_with fail
    refine hrt.mono ?_
    rintro e w1 ⟨rfl, hg2⟩
    clear hrt
    go_wp2
    go_ret
    exact ⟨_, rfl, by rw [HE.out]; exact Vals.nil _ _ _ _, (hg1.trans hg2).below⟩

set_option maxRecDepth 100000 in
set_option maxHeartbeats 4000000 in
theorem asked_any (n : Int) (l : List Ed) (T : List Int) (hT : T.length ≤ 8388608) (sv tv : Value) (w : World) (hl : Edges w.heap.size w sv l) (hI : Ints w.heap.size w tv T) :
    Calls Tryz.prog 16 #[.agg #[.int .i64 n, sv], tv] w fun r w' => r = .returned (.int .i64 (fitT n l T)) ∧ Below w.heap.size w w' := by
  obtain ⟨p, c, rfl⟩ := hl.len
  have hg1 : Grew w (w.alloc (.cells #[.int .i64 n, .slice p l.length c] 24)) := (Grew.refl w).alloc _
  have hrt := refRightW_any n l _ _ (hl.go hg1.below)
  by_cases hk : rgtW n l = 0
  · obtain ⟨N, L, rfl, hN, rfl, hm, hE, hW⟩ := right_egs hk
    have hE : Hid (fitT (N : Int) (L.map edE) T = if rsB T N = true then 0 else 1) := by show _ = _; unfold fitT; rw [if_pos hk]
    rw [hk] at hrt
    rw [List.length_map] at hrt hg1 hl ⊢
    have HI : Hid (Ints w.heap.size w tv T) := hI
    clear hk hI hl
    go_enter Tryz.func16, Tryz.ntmps16
    go_wp2_with fail
    refine hrt.mono ?_
    rintro e w1 ⟨rfl, hg2⟩
    clear hrt
    have q0 := (box2 _ hg2).1
    have hbw : Below w.heap.size w w1 := (hg1.trans hg2).below
    have hr := refRise_any T (N : Int) (by omega) (by omega) hT tv w1 ((HI.out.below hbw).mono hbw.size)
    cases hb : rsB T (N : Int) with
    | true =>
      rw [hb] at hr
      have HE : Hid (fitT (N : Int) (L.map edE) T = 0) := by show _ = _; rw [hE.out, hb]; rfl
      clear hb
      go_wp2_with fail
      refine hr.mono ?_
      rintro e w2 ⟨rfl, q, rfl⟩
      go_wp2
      go_ret
      exact ⟨by rw [HE.out]; rfl, below_drewN hbw q⟩
    | false =>
      rw [hb] at hr
      have HE : Hid (fitT (N : Int) (L.map edE) T = 1) := by show _ = _; rw [hE.out, hb]; rfl
      clear hb
      go_wp2_with fail
      refine hr.mono ?_
      rintro e w2 ⟨rfl, q, rfl⟩
      go_wp2
      go_ret
      exact ⟨by rw [HE.out]; rfl, below_drewN hbw q⟩
  · have HE : Hid (fitT n l T = rgtW n l) := if_neg hk
    generalize rgtW n l = k at hrt hk HE
    have hk' : (k == 0) = false := by simpa using hk
    go_enter Tryz.func16, Tryz.ntmps16
    go_wp2_with fail
    refine hrt.mono ?_
    rintro e w1 ⟨rfl, hg2⟩
    clear hrt
    go_wp2
    go_ret
    exact ⟨by rw [HE.out]; rfl, (hg1.trans hg2).below⟩

set_option maxRecDepth 100000 in
set_option maxHeartbeats 4000000 in
theorem refCheckT_any (n : Int) (l : List Ed) (T B : List Int) (hn : n ≤ 1000000) (hT : T.length ≤ 4194304) (hBl : B.length ≤ 4194304) (sv tv bv : Value) (w : World) (hl : Edges w.heap.size w sv l) (hI : Ints w.heap.size w tv T) (hJ : Ints w.heap.size w bv B) :
    Calls Tryz.prog 14 #[.agg #[.int .i64 n, sv], tv, bv] w fun r w' => r = .returned (.int .i64 (chkT n l T B)) ∧ Below w.heap.size w w' := by
  obtain ⟨p, c, rfl⟩ := hl.len
  have hg1 : Grew w (w.alloc (.cells #[.int .i64 n, .slice p l.length c] 24)) := (Grew.refl w).alloc _
  have hft := asked_any n l T (by omega) _ tv _ (hl.go hg1.below) ((hI.below hg1.below).mono hg1.below.size)
  have q0 : (w.alloc (.cells #[.int .i64 n, .slice p l.length c] 24)).cell? ⟨w.heap.size, 0, none⟩ = some (.int .i64 n) := new_cell rfl rfl
  have q1 : (w.alloc (.cells #[.int .i64 n, .slice p l.length c] 24)).cell? ⟨w.heap.size, 1, none⟩ = some (.slice p l.length c) := new_cell rfl rfl
  have hxs : w.heap.size < (w.alloc (.cells #[.int .i64 n, .slice p l.length c] 24)).heap.size := by simp
  have Q : Hid _ := And.intro q0 (And.intro q1 hxs)
  clear q0 q1 hxs
  by_cases hk : fitT n l T = 0
  · obtain ⟨hr0, hrT⟩ := fitT_zero hk
    obtain ⟨N, L, rfl, hN, rfl, hm, hE, hW⟩ := right_egs hr0
    have hE1 : Hid (chkT (N : Int) (L.map edE) T B = if rsB B L.length = true ∧ oddK (N : Int) (L.map edE) B = T then 0 else 13) := by show _ = _; unfold chkT; rw [if_pos hk, List.length_map]
    rw [hk] at hft
    rw [List.length_map] at hft hg1 hl Q ⊢
    have HL : Hid (Edges w.heap.size w (.slice p L.length c) (L.map edE)) := hl
    have HI : Hid (Ints w.heap.size w tv T) := hI
    have HJ : Hid (Ints w.heap.size w bv B) := hJ
    obtain ⟨pb, cb, rfl⟩ := hJ.len
    obtain ⟨pt, ct, rfl⟩ := hI.len
    have HR0 : Hid _ := hr0
    clear hk hI hl hJ hrT hr0
    go_enter Tryz.func14, Tryz.ntmps14
    go_wp2_with fail
    refine hft.mono ?_
    rintro e w1 ⟨rfl, hb2⟩
    clear hft
    have q0 := (hb2.cell (p := ⟨w.heap.size, 0, none⟩) Q.out.2.2).trans Q.out.1
    have q1 := (hb2.cell (p := ⟨w.heap.size, 1, none⟩) Q.out.2.2).trans Q.out.2.1
    have hbw : Below w.heap.size w w1 := hg1.below.trans (hb2.mono hg1.below.size)
    have hr := refRise_any B (L.length : Int) (by omega) (by omega) (by omega) (.slice pb B.length cb) w1 ((HJ.out.below hbw).mono hbw.size)
    cases hb : rsB B (L.length : Int) with
    | false =>
      rw [hb] at hr
      have HE : Hid (chkT (N : Int) (L.map edE) T B = 13) := by show _ = _; rw [hE1.out, hb]; rfl
      clear hb
      go_wp2_with fail
      refine hr.mono ?_
      rintro e w2 ⟨rfl, q, rfl⟩
      go_wp2
      go_ret
      exact ⟨by rw [HE.out]; rfl, below_drewN hbw q⟩
    | true =>
      rw [hb] at hr
      have HE : Hid (chkT (N : Int) (L.map edE) T B = if sameI (oddK (N : Int) (L.map edE) B) T = true then 0 else 13) := by
        show _ = _
        rw [hE1.out, hb]
        by_cases e : oddK (N : Int) (L.map edE) B = T
        · rw [if_pos ⟨rfl, e⟩, if_pos (by simp [sameI, e])]
        · rw [if_neg (fun h => e h.2), if_neg (by simp [sameI, e])]
      have HLo : Hid ((oddK (N : Int) (L.map edE) B).length ≤ 1000000) := by
        show _ ≤ _
        rw [oddK_ok HR0.out (rs_plc hb)]
        have := trueK_len (oddT N L B) (oddT N L B).length
        have h2 := oddT_len N L B
        show (trueK _ _).length ≤ _
        omega
      clear hb
      have HB4 : Hid _ := fun (q : Nat) => And.intro (HL.out.below (below_drewN hbw q) |>.mono (below_drewN hbw q).size) ((HJ.out.below (below_drewN hbw q)).mono (below_drewN hbw q).size)
      go_wp2_with fail
      refine hr.mono ?_
      rintro e w2 ⟨rfl, q, rfl⟩
      have hod := refOddT_any N L B hN HR0.out hE (by omega) _ _ (w1.drewN q) (HB4.out q).1 (HB4.out q).2
      generalize oddK (N : Int) (L.map edE) B = Z at *
      have hbw2 := below_drewN hbw q
      obtain ⟨w2, hw2⟩ : ∃ W, w1.drewN q = W := ⟨_, rfl⟩
      have q0 : w2.cell? ⟨w.heap.size, 0, none⟩ = some (.int .i64 (N : Int)) := by rw [← hw2]; exact q0
      have q1 : w2.cell? ⟨w.heap.size, 1, none⟩ = some (.slice p L.length c) := by rw [← hw2]; exact q1
      rw [hw2] at hod hbw2 ⊢
      clear hw2
      go_wp2_with fail
      refine hod.mono ?_
      rintro e w3 ⟨lv, rfl, ho, hb3⟩
      clear hr hod
      have hbw3 := hbw2.trans (hb3.mono hbw2.size)
      have heq := refIntsW_any Z T lv (.slice pt T.length ct) w3 ho ((HI.out.below hbw3).mono hbw3.size) HLo.out
      obtain ⟨pz, cz, rfl⟩ := ho.len
      have HO : Hid _ := ho
      have HZ : Hid (Z.length = Z.length) := rfl
      generalize hzl : Z.length = zl at *
      clear ho hzl
      cases hs : sameI Z T with
      | true =>
        rw [hs] at heq
        have HE2 : Hid (chkT (N : Int) (L.map edE) T B = 0) := by show _ = _; rw [HE.out, hs]; rfl
        clear hs
        go_wp2_with fail
        refine heq.mono ?_
        rintro e w4 ⟨rfl, q, rfl⟩
        go_wp2
        go_ret
        exact ⟨by rw [HE2.out]; rfl, below_drewN hbw3 q⟩
      | false =>
        rw [hs] at heq
        have HE2 : Hid (chkT (N : Int) (L.map edE) T B = 13) := by show _ = _; rw [HE.out, hs]; rfl
        clear hs
        go_wp2_with fail
        refine heq.mono ?_
        rintro e w4 ⟨rfl, q, rfl⟩
        go_wp2
        go_ret
        exact ⟨by rw [HE2.out]; rfl, below_drewN hbw3 q⟩
  · have HE : Hid (chkT n l T B = fitT n l T) := if_neg hk
    generalize fitT n l T = k at hft hk HE
    have hk' : (k == 0) = false := by simpa using hk
    go_enter Tryz.func14, Tryz.ntmps14
    go_wp2_with fail
    refine hft.mono ?_
    rintro e w1 ⟨rfl, hb2⟩
    clear hft
    go_wp2
    go_ret
    exact ⟨by rw [HE.out]; rfl, hg1.below.trans (hb2.mono hg1.below.size)⟩
end Go.Proofs.YthdhimcaojfcnaaGreat
