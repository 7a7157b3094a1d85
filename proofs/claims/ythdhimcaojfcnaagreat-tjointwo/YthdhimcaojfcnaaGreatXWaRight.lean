/-
  The small functions of paths, and the contracts of paths.Right and of the reference's Right.
-/
import Derived.Test.YthdhimcaojfcnaaGreatJA
import Derived.Test.YthdhimcaojfcnaaGreatJB
namespace Go.Proofs.YthdhimcaojfcnaaGreat
open Go Go.Proofs Go.RowKit

def vtxB (n v : Int) : Bool := decide (0 ≤ v ∧ v < n)
theorem vtx_iff {n v : Int} : vtxB n v = true ↔ 0 ≤ v ∧ v < n := by simp [vtxB]
theorem vtx_not {n v : Int} : vtxB n v = false ↔ v < 0 ∨ n ≤ v := by rw [← Bool.not_eq_true, vtx_iff]; omega
def fitW (n : Int) (e : Ed) : Int := if vtxB n e.1 = false ∨ vtxB n e.2.1 = false then 5 else if e.2.2 < 0 then 10 else if 2147483648 ≤ e.2.2 then 8 else 0
def lstW (n : Int) : List Ed → Int
  | [] => 0
  | e :: l => if fitW n e = 0 then lstW n l else fitW n e
def rgtW (n : Int) (l : List Ed) : Int := if n < 0 then 1 else if 1048576 < n ∨ 4194304 < (l.length : Int) then 4 else lstW n l
theorem lstW_step {n : Int} {l : List Ed} {j : Nat} (h : j < l.length) : lstW n (l.drop j) = if fitW n l[j] = 0 then lstW n (l.drop (j + 1)) else fitW n l[j] := by
  rw [List.drop_eq_getElem_cons h]; rfl
theorem lstW_end (n : Int) (l : List Ed) : lstW n (l.drop l.length) = 0 := by simp [lstW]

set_option maxRecDepth 100000 in
theorem isVertex_any (n v : Int) (sv : Value) (w : World) (hs : ∃ p k c, sv = .slice p k c) : Calls Tryz.prog 43 #[.agg #[.int .i64 n, sv], .int .i64 v] w fun r w' => r = .returned (.bool (vtxB n v)) ∧ Grew w w' := by
  obtain ⟨p, k, c, rfl⟩ := hs
  unfold vtxB
  go_enter Tryz.func43, Tryz.ntmps43
  go_wp2
  all_goals go_ret
  all_goals refine ⟨?_, (Grew.refl w).alloc _⟩
  all_goals simp
  all_goals omega

set_option maxRecDepth 100000 in
set_option maxHeartbeats 1000000 in
theorem fitsW_any (n : Int) (sv : Value) (e : Ed) (w : World) (hs : ∃ p k c, sv = .slice p k c) : Calls Tryz.prog 36 #[.agg #[.int .i64 n, sv], edV e] w fun r w' => r = .returned (.int .i64 (fitW n e)) ∧ Grew w w' := by
  have hv := fun v W => isVertex_any n v sv W hs
  obtain ⟨p, k, c, rfl⟩ := hs
  unfold edV
  obtain ⟨x, y, z⟩ := e
  simp only
  have hbox : ∀ W', Grew ((w.alloc (.cells #[.int .i64 n, .slice p k c] 24)).alloc (.cells #[.int .i64 x, .int .i64 y, .int .i64 z] 46)) W' → W'.cell? ⟨w.heap.size, 0, none⟩ = some (.int .i64 n) ∧ W'.cell? ⟨w.heap.size, 1, none⟩ = some (.slice p k c) ∧ W'.cell? ⟨w.heap.size + 1, 0, none⟩ = some (.int .i64 x) ∧ W'.cell? ⟨w.heap.size + 1, 1, none⟩ = some (.int .i64 y) ∧ W'.cell? ⟨w.heap.size + 1, 2, none⟩ = some (.int .i64 z) := fun W' h =>
    ⟨(h.below.cell (p := ⟨w.heap.size, 0, none⟩) (by simp; omega)).trans (by simp), (h.below.cell (p := ⟨w.heap.size, 1, none⟩) (by simp; omega)).trans (by simp), (h.below.cell (p := ⟨w.heap.size + 1, 0, none⟩) (by simp)).trans (by simp), (h.below.cell (p := ⟨w.heap.size + 1, 1, none⟩) (by simp)).trans (by simp), (h.below.cell (p := ⟨w.heap.size + 1, 2, none⟩) (by simp)).trans (by simp)⟩
  have hg0 : Grew w ((w.alloc (.cells #[.int .i64 n, .slice p k c] 24)).alloc (.cells #[.int .i64 x, .int .i64 y, .int .i64 z] 46)) := ((Grew.refl w).alloc _).alloc _
  by_cases h1 : vtxB n x = true
  · by_cases h2 : vtxB n y = true
    · have hE : (z < 0 ∧ fitW n (x, y, z) = 10) ∨ (¬ z < 0 ∧ 2147483648 ≤ z ∧ fitW n (x, y, z) = 8) ∨ (¬ z < 0 ∧ ¬ 2147483648 ≤ z ∧ fitW n (x, y, z) = 0) := by
        unfold fitW
        simp only [h1, h2]
        by_cases z0 : z < 0
        · exact .inl ⟨z0, by simp [z0]⟩
        · by_cases z1 : 2147483648 ≤ z
          · exact .inr (.inl ⟨z0, z1, by simp [z0, z1]⟩)
          · exact .inr (.inr ⟨z0, z1, by simp [z0, z1]⟩)
      generalize fitW n (x, y, z) = r at hE
      have H1 : Hid _ := h1
      have H2 : Hid _ := h2
      clear h1 h2
      rcases hE with ⟨z0, rfl⟩ | ⟨z0, z1, rfl⟩ | ⟨z0, z1, rfl⟩
      all_goals
        go_enter Tryz.func36, Tryz.ntmps36
        go_wp2_with fail
        refine (hv _ _).mono ?_
        rintro e w1 ⟨rfl, hg1⟩
        obtain ⟨c0, c1, c2, c3, c4⟩ := hbox _ hg1
        rw [H1.out]
        go_wp2_with fail
        refine (hv _ _).mono ?_
        rintro e w2 ⟨rfl, hg2⟩
        clear c0 c1 c2 c3 c4
        obtain ⟨c0, c1, c2, c3, c4⟩ := hbox _ (hg1.trans hg2)
        rw [H2.out]
        go_wp2
        go_ret
        exact ⟨rfl, hg0.trans (hg1.trans hg2)⟩
    · have hE : fitW n (x, y, z) = 5 := if_pos (.inr (by simpa using h2))
      rw [hE]
      have H1 : Hid _ := h1
      have H2 : Hid (vtxB n y = false) := by unfold Hid; simpa using h2
      clear h1 h2 hE
      go_enter Tryz.func36, Tryz.ntmps36
      go_wp2_with fail
      refine (hv _ _).mono ?_
      rintro e w1 ⟨rfl, hg1⟩
      obtain ⟨c0, c1, c2, c3, c4⟩ := hbox _ hg1
      rw [H1.out]
      go_wp2_with fail
      refine (hv _ _).mono ?_
      rintro e w2 ⟨rfl, hg2⟩
      rw [H2.out]
      go_wp2
      go_ret
      exact ⟨rfl, hg0.trans (hg1.trans hg2)⟩
  · have hE : fitW n (x, y, z) = 5 := if_pos (.inl (by simpa using h1))
    rw [hE]
    have H1 : Hid (vtxB n x = false) := by unfold Hid; simpa using h1
    clear h1 hE
    go_enter Tryz.func36, Tryz.ntmps36
    go_wp2_with fail
    refine (hv _ _).mono ?_
    rintro e w1 ⟨rfl, hg1⟩
    rw [H1.out]
    go_wp2
    go_ret
    exact ⟨rfl, hg0.trans hg1⟩

set_option maxRecDepth 100000 in
set_option maxHeartbeats 1000000 in
theorem rightW_any (n : Int) (l : List Ed) (sv : Value) (w : World) (hl : Edges w.heap.size w sv l) :
    Calls Tryz.prog 24 #[.agg #[.int .i64 n, sv]] w fun r w' => r = .returned (.int .i64 (rgtW n l)) ∧ Grew w w' := by
  obtain ⟨p, c, rfl⟩ := hl.len
  have hmix := mixed
  have hg1 : Grew w (w.alloc (.cells #[.int .i64 n, .slice p l.length c] 24)) := (Grew.refl w).alloc _
  have hf := fun e W => fitsW_any n (.slice p l.length c) e W ⟨_, _, _, rfl⟩
  by_cases h0 : n < 0
  · have hE : rgtW n l = 1 := if_pos h0
    rw [hE]
    go_enter Tryz.func24, Tryz.ntmps24
    go_wp2
    go_ret
    exact ⟨rfl, hg1⟩
  · by_cases h1 : 1048576 < n
    · have hE : rgtW n l = 4 := by unfold rgtW; rw [if_neg h0, if_pos (.inl h1)]
      rw [hE]
      go_enter Tryz.func24, Tryz.ntmps24
      go_wp2
      go_ret
      exact ⟨rfl, hg1⟩
    · by_cases h2 : 4194304 < (l.length : Int)
      · have hE : rgtW n l = 4 := by unfold rgtW; rw [if_neg h0, if_pos (.inr h2)]
        rw [hE]
        go_enter Tryz.func24, Tryz.ntmps24
        go_wp2
        go_ret
        exact ⟨rfl, hg1⟩
      · have hR : Hid (rgtW n l = lstW n l) := by unfold Hid rgtW; rw [if_neg h0, if_neg (by omega)]
        go_enter Tryz.func24, Tryz.ntmps24
        go_wp2
        go_loopw [21] (fun i wr => ∃ j : Nat, j ≤ l.length ∧ i = .int .i64 j ∧ Hid (lstW n (l.drop j) = lstW n l) ∧ Grew (w.alloc (.cells #[.int .i64 n, .slice p l.length c] 24)) wr) (fun i _ => l.length - (intOf i).toNat)
        case atStart => exact ⟨0, Nat.zero_le _, rfl, rfl, Grew.refl _⟩
        case round =>
          obtain ⟨j, hj, rfl, hr, hg⟩ := hrel
          have q0 := (box2 _ hg).1
          have q1 := (box2 _ hg).2
          have hsz := box2_lt hg
          by_cases hlt : j < l.length
          · obtain ⟨b, off, rfl, hbb, hcap, hc⟩ := hl.at hlt
            have hb0 := (hg1.trans hg).below
            obtain ⟨c0, c1, c2⟩ := hc j _ (List.getElem?_eq_getElem hlt)
            replace c0 := (hb0.cell (p := ⟨b, off + j * 3, none⟩) hbb).trans c0
            replace c1 := (hb0.cell (p := ⟨b, off + j * 3 + 1, none⟩) hbb).trans c1
            replace c2 := (hb0.cell (p := ⟨b, off + j * 3 + 2, none⟩) hbb).trans c2
            have hjl : (j : Int) < (l.length : Int) := by omega
            have HST : Hid _ := (lstW_step (n := n) hlt).symm.trans hr
            clear hc hr
            have hbr : b < wr.heap.size := by omega
            go_wp2_with fail
            refine (hf l[j] _).mono ?_
            rintro e w7 ⟨rfl, hg7⟩
            have hg8 : Grew (w.alloc (.cells #[.int .i64 n, .slice (some ⟨b, off, none⟩) l.length c] 24)) w7 := hg.trans (((Grew.refl wr).alloc _).trans hg7)
            clear q0 q1 c0 c1 c2 hb0 hg hg7
            by_cases hk : fitW n l[j] = 0
            · rw [hk]
              have HS : Hid (lstW n (l.drop (j + 1)) = lstW n l) := by
                have h2 := HST.out
                rwa [if_pos hk] at h2
              clear HST hk
              go_wp2
              exact ⟨⟨j + 1, by omega, by go_num, HS, hg8⟩, by simp [intOf]; omega⟩
            · have HE : Hid (rgtW n l = fitW n l[j]) := by
                have h2 := HST.out
                rw [if_neg hk] at h2
                unfold Hid; rw [hR.out, ← h2]
              generalize fitW n l[j] = k at HE hk
              have hk' : (k == 0) = false := by simpa using hk
              clear HST hk
              go_wp2
              go_ret
              exact ⟨by rw [HE.out]; rfl, hg1.trans hg8⟩
          · obtain rfl : j = l.length := by omega
            have HE : Hid (rgtW n l = 0) := by
              unfold Hid; rw [hR.out, ← hr.out, lstW_end]
            clear hr
            go_wp2
            go_ret
            exact ⟨by rw [HE.out]; rfl, hg1.trans hg⟩
end Go.Proofs.YthdhimcaojfcnaaGreat
