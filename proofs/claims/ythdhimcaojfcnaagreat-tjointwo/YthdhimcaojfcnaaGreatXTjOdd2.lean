/-
  The contract of tjoin.Odd.
-/
import Derived.Test.YthdhimcaojfcnaaGreatJM
namespace Go.Proofs.YthdhimcaojfcnaaGreat
open Go Go.Proofs Go.RowKit

def unE (e : Ed) : Eg := (e.1.toNat, e.2.1.toNat, e.2.2.toNat)
theorem unE_edE (L : List Eg) : (L.map edE).map unE = L := by
  rw [List.map_map]
  have : (unE ∘ edE) = id := by funext e; simp [unE, edE]
  rw [this, List.map_id]
/-- What Odd tells of any numbers. -/
def oddK (n : Int) (l : List Ed) (B : List Int) : List Int := if rgtW n l = 0 ∧ plcB l.length B = true then oddV n.toNat (l.map unE) B else []
theorem oddK_ok {N : Nat} {L : List Eg} {B : List Int} (h : rgtW (N : Int) (L.map edE) = 0) (hB : plcB L.length B = true) : oddK (N : Int) (L.map edE) B = oddV N L B := by
  unfold oddK
  rw [if_pos ⟨h, by rw [List.length_map]; exact hB⟩, unE_edE, Int.toNat_natCast]
theorem oddK_bad {n : Int} {l : List Ed} {B : List Int} (h : rgtW n l ≠ 0) : oddK n l B = [] := if_neg fun e => h e.1
theorem oddK_none {n : Int} {l : List Ed} {B : List Int} (h : plcB l.length B = false) : oddK n l B = [] := if_neg fun e => by rw [h] at e; exact absurd e.2 (by simp)
def noneB (m : Nat) (x : Int) : Bool := decide (x < 0) || decide ((m : Int) ≤ x)
theorem none_any (m : Nat) (B : List Int) : B.any (noneB m) = !plcB m B := by
  cases h : plcB m B with
  | true =>
    rw [Bool.not_true, List.any_eq_false]
    intro x hx
    have := plc_iff.1 h x hx
    simp [noneB]; omega
  | false =>
    rw [Bool.not_false, List.any_eq_true]
    have h2 : ¬ ∀ x ∈ B, 0 ≤ x ∧ x < (m : Int) := fun h3 => by rw [plc_iff.2 h3] at h; cases h
    rw [Classical.not_forall] at h2
    obtain ⟨x, h3⟩ := h2
    rw [Classical.not_imp] at h3
    exact ⟨x, h3.1, by simp [noneB]; omega⟩
set_option maxRecDepth 100000 in
theorem odd1_any (x : Int) (p : Option Addr) (m c mb : Nat) (w : World) (h1 : w.cell? ⟨mb, 1, none⟩ = some (.slice p m c)) :
    Calls Tryz.prog 23 #[.int .i64 x, .pointer (some ⟨mb, 0, none⟩)] w fun e w' => e = .returned (.bool (noneB m x)) ∧ w' = w := by
  by_cases hx : x < 0
  · have HE : Hid (noneB m x = true) := by simp [Hid, noneB, hx]
    go_enter Tryz.func23, Tryz.ntmps23
    go_wp2
    go_ret
    exact ⟨by rw [HE.out]; rfl, rfl⟩
  · have HE : Hid (noneB m x = decide ((m : Int) ≤ x)) := by simp [Hid, noneB, hx]
    go_enter Tryz.func23, Tryz.ntmps23
    go_wp2
    go_ret
    exact ⟨by rw [HE.out]; rfl, rfl⟩
set_option maxRecDepth 100000 in
set_option maxHeartbeats 4000000 in
theorem odd_any (n : Int) (l : List Ed) (B : List Int) (hBl : B.length ≤ 8388608) (sv bv : Value) (w : World) (hl : Edges w.heap.size w sv l) (hI : Ints w.heap.size w bv B) :
    Calls Tryz.prog 11 #[.agg #[.int .i64 n, sv], bv] w fun r w' => ∃ rv, r = .returned rv ∧ Ints w'.heap.size w' rv (oddK n l B) ∧ Below w.heap.size w w' := by
  obtain ⟨p, c, rfl⟩ := hl.len
  have hg1 : Grew w (w.alloc (.cells #[.int .i64 n, .slice p l.length c] 24)) := (Grew.refl w).alloc _
  have hrt := rightW_any n l _ _ (hl.go hg1.below)
  by_cases hk : rgtW n l = 0
  · obtain ⟨N, L, rfl, hN, rfl, hm, hE, hW⟩ := right_egs hk
    rw [hk] at hrt
    rw [List.length_map] at hrt hg1 ⊢
    have hent : ∀ (args : Array Value) (W : World), (callFunc 23 args).run Tryz.prog W = .ok (.enter 23 args) W := fun args W => by kernel_rfl
    cases hP : plcB L.length B with
    | false =>
      have HE : Hid (oddK (N : Int) (L.map edE) B = []) := oddK_none (by rw [List.length_map]; exact hP)
      have HA : Hid (B.any (noneB L.length) = true) := by show _ = _; rw [none_any, hP]; rfl
      have HI : Hid (Ints w.heap.size w bv B) := hI
      obtain ⟨pb, cb, rfl⟩ := hI.len
      clear hk hI hl
      go_enter Tryz.func11, Tryz.ntmps11
      go_wp2_with fail
      refine hrt.mono ?_
      rintro e w1 ⟨rfl, hg2⟩
      clear hrt
      have q1 := (box2 _ hg2).2
      have hbw : Below w.heap.size w w1 := (hg1.trans hg2).below
      have hcf := containsF_any 23 #[.pointer (some ⟨w.heap.size, 0, none⟩)] (noneB L.length) hent B hBl (.slice pb B.length cb) w1.heap.size w1 (HI.out.below hbw |>.mono hbw.size) (fun x _ => odd1_any x p L.length c w.heap.size w1 q1)
      rw [HA.out] at hcf
      go_wp2_with fail
      refine hcf.mono ?_
      rintro e w2 ⟨rfl, rfl⟩
      clear hcf
      go_wp2
      go_ret
      exact ⟨_, rfl, by rw [HE.out]; exact Vals.nil _ _ _ _, hbw⟩
    | true =>
      have HE : Hid (oddK (N : Int) (L.map edE) B = oddV N L B) := oddK_ok hk hP
      have HA : Hid (B.any (noneB L.length) = false) := by show _ = _; rw [none_any, hP]; rfl
      have HI : Hid (Ints w.heap.size w bv B) := hI
      have HLe : Hid (Edges w.heap.size w (.slice p L.length c) (L.map edE)) := by rw [List.length_map] at hl; exact hl
      obtain ⟨pb, cb, rfl⟩ := hI.len
      clear hk hI hl
      go_enter Tryz.func11, Tryz.ntmps11
      go_wp2_with fail
      refine hrt.mono ?_
      rintro e w1 ⟨rfl, hg2⟩
      clear hrt
      have q0 := (box2 _ hg2).1
      have q1 := (box2 _ hg2).2
      have hbw : Below w.heap.size w w1 := (hg1.trans hg2).below
      have hcf := containsF_any 23 #[.pointer (some ⟨w.heap.size, 0, none⟩)] (noneB L.length) hent B hBl (.slice pb B.length cb) w1.heap.size w1 (HI.out.below hbw |>.mono hbw.size) (fun x _ => odd1_any x p L.length c w.heap.size w1 q1)
      rw [HA.out] at hcf
      have hod := oddOf_any N L B hN hE hP hBl _ _ w1 ((HLe.out.below hbw).mono hbw.size) ((HI.out.below hbw).mono hbw.size)
      go_wp2_with fail
      refine hcf.mono ?_
      rintro e w2 ⟨rfl, rfl⟩
      clear hcf
      go_wp2_with fail
      refine hod.mono ?_
      rintro e w3 ⟨lv, rfl, ho, hb3⟩
      have HO : Hid _ := ho
      clear hod ho
      go_wp2
      go_ret
      exact ⟨_, rfl, by rw [HE.out]; exact ints_ownsT HO.out, hbw.trans (hb3.mono hbw.size)⟩
  · have HE : Hid (oddK n l B = []) := oddK_bad hk
    generalize rgtW n l = k at hrt hk
    have hk' : (k == 0) = false := by simpa using hk
    go_enter Tryz.func11, Tryz.ntmps11
    go_wp2_with fail
    refine hrt.mono ?_
    rintro e w1 ⟨rfl, hg2⟩
    clear hrt
    go_wp2
    go_ret
    exact ⟨_, rfl, by rw [HE.out]; exact Vals.nil _ _ _ _, (hg1.trans hg2).below⟩
end Go.Proofs.YthdhimcaojfcnaaGreat
