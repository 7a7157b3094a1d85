/-
  The walk of filigreelaw07.RotationFaces.
-/
import Derived.Test.YtnmlbkmbiecpnaaXRRefF2
import Derived.Test.YtnmlbkmbiecpnaaXRSame
import Derived.Test.YtnmlbkmbiecpnaaXRBad
import Derived.Test.YtnmlbkmbiecpnaaXRRefRight
namespace Go.Proofs.Ytnmlbkmbiecpnaa
open Go Go.Proofs Go.RowKit

theorem sysK_nought {n : Int} {l : List Ed} {r : List (List Int)} (h : sysK n l r = 0) : ∃ N : Nat, n = (N : Int) ∧ RightG (N : Int) l ∧ SysR N l r := by
  unfold sysK at h
  by_cases hk : rightK n l = 0
  · rw [if_pos hk] at h
    have hR := right_iff.1 hk
    obtain ⟨N, rfl⟩ : ∃ N : Nat, n = (N : Int) := ⟨n.toNat, by have := hR.n0; omega⟩
    refine ⟨N, rfl, hR, ?_⟩
    by_cases hs : r.map sortL = nearL (N : Int).toNat l
    · exact (sys_iff hR).1 hs
    · rw [if_neg hs] at h; cases h
  · rw [if_neg hk] at h; cases h
theorem facesL_each (N : Nat) (l : List Ed) (r : List (List Int)) : ∀ f ∈ facesL N l r, f.length ≤ 2 * l.length + 1 := by
  have key : ∀ j, ∀ f ∈ (roundsAt (nxD r) (2 * l.length + 1) (dartsL N l) j).1, f.length ≤ 2 * l.length + 1 := by
    intro j
    induction j with
    | zero => intro f hf; simp [roundsAt] at hf
    | succ j ih =>
      intro f hf
      rw [roundsAt] at hf
      split at hf
      · exact ih f hf
      · rcases List.mem_append.1 hf with h | h
        · exact ih f h
        · rw [List.mem_singleton.1 h]; exact orb_len _ _ _ _
  exact key _
theorem facesL_few {N : Nat} {l : List Ed} (hR : RightG (N : Int) l) (r : List (List Int)) : (facesL N l r).length ≤ 3 * l.length := by
  rw [← facesL_st hR]
  exact (stF_few hR r (Nat.le_refl _)).1

set_option maxRecDepth 100000 in
set_option maxHeartbeats 8000000 in
theorem faces_law (n : Int) (l : List Ed) (r : List (List Int)) (hr1 : r.length ≤ 9223372036854775807) (sv rv : Value) (w : World) (hl : Edges w.heap.size w sv l) (hr : Lsts w.heap.size w rv r) :
    Calls Try.prog 4 #[.agg #[.int .i64 n, sv], rv] w fun e w' => e = .returned (.bool true) ∧ Below w.heap.size w w' := by
  have hb1 : Below w.heap.size w (w.alloc (.cells #[.int .i64 n, sv] 24)) := (Below.refl _ _).alloc (Nat.le_refl _) _
  have hX1 : Blk 24 (w.alloc (.cells #[.int .i64 n, sv] 24)) w.heap.size [.int .i64 n, sv] := heap_alloc_new w _
  have hlt := lightR_any n l r hr1 25 (by decide) (by decide) sv rv _ (hl.go hb1) (hr.go hb1)
  have q0 := hX1.cell (j := 0) rfl
  have q1 := hX1.cell (j := 1) rfl
  have HL : Hid (Edges w.heap.size w sv l) := hl
  have HR : Hid (Lsts w.heap.size w rv r) := hr
  have HB1 : Hid (Below w.heap.size w (w.alloc (.cells #[.int .i64 n, sv] 24))) := hb1
  have HX1 : Hid (Blk 24 (w.alloc (.cells #[.int .i64 n, sv] 24)) w.heap.size [.int .i64 n, sv]) := hX1
  clear hb1 hX1 hl hr
  have hmix := mixed
  go_enter Try.func4, Try.ntmps4
  go_wp2_with fail
  generalize w.alloc (.cells #[.int .i64 n, sv] 24) = w2 at *
  refine hlt.mono ?_
  clear hlt
  rintro e w3 ⟨bb, rfl, hbb, hb3⟩
  have HB3 : Hid (Below w.heap.size w w3) := HB1.out.trans (hb3.mono HB1.out.size)
  have HX3 : Hid (Blk 24 w3 w.heap.size [.int .i64 n, sv]) := HX1.out.go hb3
  have HBB : Hid (bb = true → lightB n l 25 = true ∧ (r.length : Int) ≤ 2 * 25) := hbb
  clear HB1 HX1 hb3 q0 q1 hbb
  cases bb with
  | false =>
    go_wp2_with fail
    refine (alive_any w3).mono ?_
    rintro e w4 ⟨rfl, hb4⟩
    have HB4 : Hid (Below w.heap.size w w4) := HB3.out.trans (hb4.mono HB3.out.size)
    clear hb4
    go_wp2
    go_ret
    exact ⟨rfl, HB4.out⟩
  | true =>
    have q0 := HX3.out.cell (j := 0) rfl
    have q1 := HX3.out.cell (j := 1) rfl
    by_cases hk : sysK n l r = 0
    · obtain ⟨N, rfl, hR, hS⟩ := sysK_nought hk
      have hlm : l.length ≤ 100 := by have := (lightB_true (HBB.out rfl).1).2; omega
      have hfc := faces_any N l hR r hS sv rv w3 (HL.out.go HB3.out) (HR.out.go HB3.out)
      have HRF : Hid (∀ W, Edges W.heap.size W sv l → Lsts W.heap.size W rv r → _) := fun W h1 h2 => refFaces_any N l hR r hS (by omega) sv rv W h1 h2
      have HF1 : Hid ((facesL N l r).length ≤ 4194304) := by have := facesL_few hR r; unfold Hid; omega
      have HF2 : Hid (∀ f ∈ facesL N l r, f.length ≤ 4194304) := fun f hf => by have := facesL_each N l r f hf; omega
      have HK : Hid (sysK (N : Int) l r = 0) := hk
      clear hk hR hS hlm
      generalize facesL N l r = fcs at *
      go_wp2_with fail
      refine hfc.mono ?_
      clear hfc
      rintro e w4 ⟨lv, svs, rfl, hG4, hb4⟩
      obtain ⟨pl, cl, rfl⟩ := owns_formP hG4.own
      have HG4 : Hid (LDr w4.heap.size w4 (.slice pl svs.length cl) fcs) := hG4.ldr
      have HB4 : Hid (Below w.heap.size w w4) := HB3.out.trans (hb4.mono HB3.out.size)
      have HX4 : Hid (Blk 24 w4 w.heap.size [.int .i64 (N : Int), sv]) := HX3.out.go hb4
      clear hG4 hb4 q0 q1 HB3 HX3
      have q0 := HX4.out.cell (j := 0) rfl
      have q1 := HX4.out.cell (j := 1) rfl
      have hrc := refSys_any (N : Int) l r sv rv w4 (HL.out.go HB4.out) (HR.out.go HB4.out)
      rw [HK.out] at hrc
      go_wp2_with fail
      refine hrc.mono ?_
      clear hrc
      rintro e w5 ⟨rfl, hb5⟩
      have HB5 : Hid (Below w.heap.size w w5) := HB4.out.trans (hb5.mono HB4.out.size)
      have HG5 : Hid (LDr w5.heap.size w5 (.slice pl svs.length cl) fcs) := HG4.out.go hb5
      have HX5 : Hid (Blk 24 w5 w.heap.size [.int .i64 (N : Int), sv]) := HX4.out.go hb5
      clear hb5 q0 q1 HB4 HX4 HG4
      have q0 := HX5.out.cell (j := 0) rfl
      have q1 := HX5.out.cell (j := 1) rfl
      have hrf := HRF.out w5 (HL.out.go HB5.out) (HR.out.go HB5.out)
      go_wp2_with fail
      refine hrf.mono ?_
      clear hrf
      rintro e w6 ⟨lb, svb, rfl, hG6, hb6⟩
      obtain ⟨pb, cb, rfl⟩ := owns_formP hG6.own
      have HB6 : Hid (Below w.heap.size w w6) := HB5.out.trans (hb6.mono HB5.out.size)
      have hsa := same_any fcs HF1.out HF2.out (.slice pl svs.length cl) (.slice pb svb.length cb) w6 (HG5.out.go hb6) hG6.ldr
      clear hb6 q0 q1 HB5 HX5 HG5 hG6
      go_wp2_with fail
      refine hsa.mono ?_
      clear hsa
      rintro e w7 ⟨rfl, hb7⟩
      have HB7 : Hid (Below w.heap.size w w7) := HB6.out.trans (hb7.mono HB6.out.size)
      clear hb7
      go_wp2_with fail
      refine (alive_any w7).mono ?_
      rintro e w8 ⟨rfl, hb8⟩
      have HB8 : Hid (Below w.heap.size w w8) := HB7.out.trans (hb8.mono HB7.out.size)
      clear hb8
      go_wp2
      go_ret
      exact ⟨rfl, HB8.out⟩
    · have hfb := faces_bad n l r hk sv rv w3 (HL.out.go HB3.out) (HR.out.go HB3.out)
      have HRC : Hid (∀ W, Edges W.heap.size W sv l → Lsts W.heap.size W rv r → _) := fun W h1 h2 => refSys_any n l r sv rv W h1 h2
      generalize sysK n l r = k at *
      have hkn : (k != 0) = true := by simpa using hk
      go_wp2_with fail
      refine hfb.mono ?_
      clear hfb
      rintro e w4 ⟨rfl, hb4⟩
      have HB4 : Hid (Below w.heap.size w w4) := HB3.out.trans (hb4.mono HB3.out.size)
      have HX4 : Hid (Blk 24 w4 w.heap.size [.int .i64 n, sv]) := HX3.out.go hb4
      clear hb4 q0 q1 HB3 HX3
      have q0 := HX4.out.cell (j := 0) rfl
      have q1 := HX4.out.cell (j := 1) rfl
      have hrc := HRC.out w4 (HL.out.go HB4.out) (HR.out.go HB4.out)
      go_wp2_with fail
      refine hrc.mono ?_
      clear hrc
      rintro e w5 ⟨rfl, hb5⟩
      have HB5 : Hid (Below w.heap.size w w5) := HB4.out.trans (hb5.mono HB4.out.size)
      clear hb5 q0 q1 HB4 HX4
      go_wp2_with fail
      refine (alive_any w5).mono ?_
      rintro e w8 ⟨rfl, hb8⟩
      have HB8 : Hid (Below w.heap.size w w8) := HB5.out.trans (hb8.mono HB5.out.size)
      clear hb8
      go_wp2
      go_ret
      exact ⟨rfl, HB8.out⟩
end Go.Proofs.Ytnmlbkmbiecpnaa
