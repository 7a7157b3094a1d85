/-
  The contract of rotation.Faces.
-/
import Derived.Test.YteekhofollaooaaQK
import Derived.Test.YteekhofollaooaaQI
import Derived.Test.YteekhofollaooaaQJ
import Derived.Test.YteekhofollaooaaQG
import Derived.Test.YteekhofollaooaaQC
namespace Go.Proofs.Yteekhofollaooaa
open Go Go.Proofs Go.RowKit

/-- The faces of a system. -/
def facesL (N : Nat) (l : List Ed) (r : List (List Int)) : List (List Dt) := (roundsAt (nxD r) (2 * l.length + 1) (dartsL N l) (dartsL N l).length).1
end Go.Proofs.Yteekhofollaooaa

namespace Go.Proofs.Yteekhofollaooaa
open Go Go.Proofs Go.RowKit

def compC (N : Nat) (l : List Ed) : List (List Int) := rcAt (labAt N l N) N N
theorem root_labelsR {N : Nat} {l : List Ed} (hR : RightG (N : Int) l) : Labels (walkW N l).root := by
  rw [walk_root hR]
  intro x hx
  obtain ⟨v, hv, rfl⟩ := List.getElem_of_mem hx
  have hvN : v < N := by rw [labAt_len] at hv; exact hv
  obtain ⟨y, hy, hyN, _⟩ := lab_least (right_ends hR) hvN
  have e : (labAt N l N).getD v 0 = (labAt N l N)[v] := by rw [List.getD_eq_getElem?_getD, List.getElem?_eq_getElem hv]; rfl
  rw [← e, hy, labAt_len]
  omega
theorem comps_ok {N : Nat} {l : List Ed} (hR : RightG (N : Int) l) : CompsOK N (compC N l) := by
  have hL := lab_Least (right_ends hR)
  have hmm : ∀ {r : Nat} {v : Int}, v ∈ memAt (labAt N l N) r N → ∃ u : Nat, v = (u : Int) ∧ u < N := fun {r v} h => by
    unfold memAt at h
    obtain ⟨u, hu, rfl⟩ := List.mem_map.1 h
    exact ⟨u, rfl, List.mem_range.1 (List.mem_filter.1 hu).1⟩
  refine ⟨rcAt_len _ _ _, fun hp => ?_, fun x hx => ?_, fun x hx => ?_, fun x hx v hv => ?_⟩
  · obtain ⟨x, h1, h2, h3⟩ := hL 0 (by rw [labAt_len]; exact hp)
    have hx0 : x = 0 := by omega
    subst hx0
    have hm : 0 ∈ rootsN (labAt N l N) N := rootsN_mem.2 ⟨hp, h1⟩
    unfold compC
    rw [rc_roots, List.length_map]
    exact List.length_pos_of_mem hm
  all_goals
    unfold compC at hx
    rw [rc_roots] at hx
    obtain ⟨r, hr, rfl⟩ := List.mem_map.1 hx
    obtain ⟨h1, h2⟩ := rootsN_mem.1 hr
  · have : (r : Int) ∈ memAt (labAt N l N) r N := by
      unfold memAt
      refine List.mem_map.2 ⟨r, List.mem_filter.2 ⟨List.mem_range.2 h1, ?_⟩, rfl⟩
      simp only [Bool.and_eq_true, decide_eq_true_eq]
      exact ⟨Nat.le_refl _, h2⟩
    intro e
    rw [e] at this
    simp at this
  · unfold memAt
    rw [List.length_map]
    refine Nat.le_trans (List.length_filter_le _ _) ?_
    simp
  · exact hmm hv
theorem comps_any (N : Nat) (l : List Ed) (hR : RightG (N : Int) l) (sv : Value) (W : World) (hl : Edges W.heap.size W sv l) :
    Calls Try.prog 57 #[.agg #[.int .i64 (N : Int), sv]] W fun e w' => ∃ lv, e = .returned lv ∧ Lsts w'.heap.size w' lv (compC N l) ∧ Below W.heap.size W w' := by
  refine (components_any N l hR (root_labelsR hR) (walkW_ok hR).lenR sv W hl).mono ?_
  rintro e w' ⟨lv, svs, h0, rfl, hG, hb⟩
  rw [walk_components hR] at hG
  exact ⟨lv, rfl, hG.lsts, hb⟩
/-- The components' numbers. -/
def numsL (N : Nat) (l : List Ed) (r : List (List Int)) : List Int := numsM N l r (compC N l) (facesL N l r)
theorem numsL_len (N : Nat) (l : List Ed) (r : List (List Int)) : (numsL N l r).length = (compC N l).length := by
  unfold numsL numsM
  rw [liF_len, liE_len, liC_len]
theorem nums_any (N : Nat) (l : List Ed) (hR : RightG (N : Int) l) (r : List (List Int)) (hS : SysR N l r) (sv rv : Value) (w : World) (hl : Edges w.heap.size w sv l) (hr : Lsts w.heap.size w rv r) :
    Calls Try.prog 46 #[.agg #[.int .i64 (N : Int), sv], rv] w fun e w' => ∃ lv, e = .returned lv ∧ Ints w'.heap.size w' lv (numsL N l r) ∧ Below w.heap.size w w' :=
  numbers_any N l hR r hS (compC N l) (comps_ok hR) sv rv w hl hr (fun W h => comps_any N l hR sv W h)

set_option maxRecDepth 100000 in
set_option maxHeartbeats 2000000 in
theorem index2_any (L : List Int) (hL : L.length ≤ 4194304) (sv : Value) (w : World) (h : Ints w.heap.size w sv L) :
    Calls Try.prog 40 #[sv, .func (.func 47) #[] #[]] w fun e w' => w' = w ∧ ∃ k : Int, e = .returned (.int .i64 k) ∧ (0 ≤ k ↔ ∃ x ∈ L, x ≠ 2) := by
  have hent : ∀ (args : Array Value) (W : World), (callFunc 47 args).run Try.prog W = .ok (.enter 47 args) W := fun args W => by kernel_rfl
  have hp1 : ∀ (x : Int) (W : World), Calls Try.prog 47 #[.int .i64 x] W fun e w' => e = .returned (.bool (x != 2)) ∧ w' = W := fun x W => by
    go_enter Try.func47, Try.ntmps47
    go_wp2
    go_ret
    exact ⟨rfl, rfl⟩
  obtain ⟨p, c, rfl⟩ := h.len
  have HI : Hid (Ints w.heap.size w (.slice p L.length c) L) := h
  clear h
  go_enter Try.func40, Try.ntmps40
  go_wp2
  go_loopw [8] (fun iv wr => ∃ j : Nat, j ≤ L.length ∧ iv = .int .i64 j ∧ Hid (∀ (i : Nat) (h1 : i < L.length), i < j → L[i] = 2) ∧ wr = w) (fun i _ => L.length - (intOf i).toNat)
  case atStart => exact ⟨0, Nat.zero_le _, rfl, fun i _ h => by omega, rfl⟩
  case round =>
    obtain ⟨j, hj, rfl, HS, rfl⟩ := hrel
    by_cases hlt : j < L.length
    · have hjl : (j : Int) < (L.length : Int) := by omega
      obtain ⟨b, off, rfl, hbb, hcap, hc⟩ := HI.out.open hlt
      have c0 := hc wr (Below.refl _ _) j hlt
      by_cases he : L[j] = 2
      · have HS2 : Hid (∀ (i : Nat) (h1 : i < L.length), i < j + 1 → L[i] = 2) := fun i h1 h => by
          by_cases e : i = j
          · subst e; exact he
          · exact HS.out i h1 (by omega)
        rw [he] at c0
        have HLT : Hid (j < L.length) := hlt
        have hcl := hp1 2 wr
        rw [show ((2 : Int) != 2) = false from rfl] at hcl
        clear he HS hlt hc hp1
        go_wp2_with fail
        refine hcl.mono ?_
        clear hcl
        rintro e w2 ⟨rfl, rfl⟩
        go_wp2
        exact ⟨⟨j + 1, HLT.out, by go_num, HS2.out, trivial⟩, by have := HLT.out; simp [intOf]; omega⟩
      · have HE : Hid (∃ x ∈ L, x ≠ 2) := ⟨L[j], List.getElem_mem hlt, he⟩
        have hcl := hp1 L[j] wr
        rw [show (L[j] != 2) = true from bne_iff_ne.2 he] at hcl
        generalize L[j] = x at c0 hcl
        clear he HS hlt hc hp1
        go_wp2_with fail
        refine hcl.mono ?_
        clear hcl
        rintro e w2 ⟨rfl, rfl⟩
        go_wp2
        go_ret
        exact ⟨rfl, (j : Int), rfl, fun _ => HE.out, fun _ => by omega⟩
    · obtain rfl : j = L.length := by omega
      have HE : Hid (¬ ∃ x ∈ L, x ≠ 2) := fun ⟨x, hx, hn⟩ => by
        obtain ⟨i, hi, rfl⟩ := List.getElem_of_mem hx
        exact hn (HS.out i hi hi)
      clear HS
      go_wp2
      go_ret
      exact ⟨rfl, -1, rfl, fun h => by omega, fun h => absurd h HE.out⟩

set_option maxRecDepth 100000 in
set_option maxHeartbeats 2000000 in
theorem contains2_any (L : List Int) (hL : L.length ≤ 4194304) (sv : Value) (w : World) (h : Ints w.heap.size w sv L) :
    Calls Try.prog 21 #[sv, .func (.func 47) #[] #[]] w fun e w' => e = .returned (.bool (L.any fun x => decide (x ≠ 2))) ∧ w' = w := by
  have hi := index2_any L hL sv w h
  obtain ⟨p, c, rfl⟩ := h.len
  clear h
  have HA : Hid ((L.any fun x => decide (x ≠ 2)) = true ↔ ∃ x ∈ L, x ≠ 2) := by unfold Hid; rw [List.any_eq_true]; simp
  go_enter Try.func21, Try.ntmps21
  go_wp2_with fail
  refine hi.mono ?_
  clear hi
  rintro e w2 ⟨rfl, k, rfl, hk⟩
  have HK : Hid (decide (0 ≤ k) = (L.any fun x => decide (x ≠ 2))) := by
    unfold Hid
    by_cases h : 0 ≤ k
    · rw [decide_eq_true h, HA.out.2 (hk.1 h)]
    · rw [decide_eq_false h]
      cases hc : (L.any fun x => decide (x ≠ 2)) with
      | false => rfl
      | true => exact absurd (hk.2 (HA.out.1 hc)) h
  clear hk
  go_wp2
  go_ret
  exact ⟨by rw [← HK.out]; rfl, rfl⟩
/-- What rotation.Plane answers of a right system. -/
def planeK (L : List Int) : Int := if (L.any fun x => decide (x ≠ 2)) then 12 else 0

set_option maxRecDepth 100000 in
set_option maxHeartbeats 2000000 in
theorem plane_any (N : Nat) (l : List Ed) (hR : RightG (N : Int) l) (r : List (List Int)) (hS : SysR N l r) (sv rv : Value) (w : World) (hl : Edges w.heap.size w sv l) (hr : Lsts w.heap.size w rv r) :
    Calls Try.prog 32 #[.agg #[.int .i64 (N : Int), sv], rv] w fun e w' => e = .returned (.int .i64 (planeK (numsL N l r))) ∧ Below w.heap.size w w' := by
  have hbA : Below w.heap.size w (w.alloc (.cells #[.int .i64 (N : Int), sv] 24)) := (Below.refl _ _).alloc (Nat.le_refl _) _
  have hX : Blk 24 (w.alloc (.cells #[.int .i64 (N : Int), sv] 24)) w.heap.size [.int .i64 (N : Int), sv] := heap_alloc_new w _
  have q0 := hX.cell (j := 0) rfl
  have q1 := hX.cell (j := 1) rfl
  have hrc := sysRight_any (N : Int) l r sv rv _ (hl.go hbA) (hr.go hbA)
  rw [sysK_ok hR hS] at hrc
  have hnl : (numsL N l r).length ≤ 4194304 := by
    rw [numsL_len]
    have h1 := (comps_ok hR).few
    have h2 := hR.n1
    omega
  have HX : Hid (Blk 24 (w.alloc (.cells #[.int .i64 (N : Int), sv] 24)) w.heap.size [.int .i64 (N : Int), sv]) := hX
  have HN : Hid (∀ W, Below w.heap.size w W → Calls Try.prog 46 #[.agg #[.int .i64 (N : Int), sv], rv] W fun e w' => ∃ lv, e = .returned lv ∧ Ints w'.heap.size w' lv (numsL N l r) ∧ Below W.heap.size W w') := fun W h => nums_any N l hR r hS sv rv W (hl.go h) (hr.go h)
  have HBA : Hid _ := hbA
  clear hX hl hr hbA hR hS
  go_enter Try.func32, Try.ntmps32
  go_wp2_with fail
  generalize w.alloc (.cells #[.int .i64 (N : Int), sv] 24) = w1 at *
  refine hrc.mono ?_
  clear hrc
  rintro e w2 ⟨rfl, hb2⟩
  have hX2 := HX.out.go hb2
  have hB2 : Below w.heap.size w w2 := HBA.out.trans (hb2.mono HBA.out.size)
  have y0 := hX2.cell (j := 0) rfl
  have y1 := hX2.cell (j := 1) rfl
  have hn := HN.out w2 hB2
  clear hX2 HX HN q0 q1 hb2
  go_wp2_with fail
  refine hn.mono ?_
  clear hn
  rintro e w3 ⟨lv, rfl, hI, hb3⟩
  have hcf := contains2_any (numsL N l r) hnl lv w3 hI
  obtain ⟨pl, cl, rfl⟩ := hI.len
  clear hI
  have HB3 : Hid (Below w.heap.size w w3) := hB2.trans (hb3.mono hB2.size)
  clear hb3 y0 y1 hB2
  generalize hL : numsL N l r = L at *
  cases hb : (L.any fun x => decide (x ≠ 2)) with
  | false =>
    have HE : Hid (planeK L = 0) := by unfold Hid planeK; rw [hb]; rfl
    rw [hb] at hcf
    clear hb
    go_wp2_with fail
    refine hcf.mono ?_
    clear hcf
    rintro e w4 ⟨rfl, rfl⟩
    go_wp2
    go_ret
    exact ⟨by rw [hL, HE.out]; rfl, HB3.out⟩
  | true =>
    have HE : Hid (planeK L = 12) := by unfold Hid planeK; rw [hb]; rfl
    rw [hb] at hcf
    clear hb
    go_wp2_with fail
    refine hcf.mono ?_
    clear hcf
    rintro e w4 ⟨rfl, rfl⟩
    go_wp2
    go_ret
    exact ⟨by rw [hL, HE.out]; rfl, HB3.out⟩
end Go.Proofs.Yteekhofollaooaa
