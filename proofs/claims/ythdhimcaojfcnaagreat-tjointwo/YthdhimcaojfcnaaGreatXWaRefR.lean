/-
  The reference's Right; other ends of edges, endsAt; Light; lists that are the same.
-/
import Derived.Test.YthdhimcaojfcnaaGreatXWaRight
namespace Go.Proofs.YthdhimcaojfcnaaGreat
open Go Go.Proofs Go.RowKit

set_option maxRecDepth 100000 in
set_option maxHeartbeats 2000000 in
theorem refRightW_any (n : Int) (l : List Ed) (sv : Value) (w : World) (hl : Edges w.heap.size w sv l) :
    Calls Tryz.prog 20 #[.agg #[.int .i64 n, sv]] w fun r w' => r = .returned (.int .i64 (rgtW n l)) ∧ Grew w w' := by
  obtain ⟨p, c, rfl⟩ := hl.len
  have hmix := mixed
  have hg1 : Grew w (w.alloc (.cells #[.int .i64 n, .slice p l.length c] 24)) := (Grew.refl w).alloc _
  by_cases h0 : n < 0
  · have hE : rgtW n l = 1 := if_pos h0
    rw [hE]
    go_enter Tryz.func20, Tryz.ntmps20
    go_wp2
    go_ret
    exact ⟨rfl, hg1⟩
  · by_cases h1 : 1048576 < n
    · have hE : rgtW n l = 4 := by unfold rgtW; rw [if_neg h0, if_pos (.inl h1)]
      rw [hE]
      go_enter Tryz.func20, Tryz.ntmps20
      go_wp2
      go_ret
      exact ⟨rfl, hg1⟩
    · by_cases h2 : 4194304 < (l.length : Int)
      · have hE : rgtW n l = 4 := by unfold rgtW; rw [if_neg h0, if_pos (.inr h2)]
        rw [hE]
        go_enter Tryz.func20, Tryz.ntmps20
        go_wp2
        go_ret
        exact ⟨rfl, hg1⟩
      · have hR : Hid (rgtW n l = lstW n l) := by unfold Hid rgtW; rw [if_neg h0, if_neg (by omega)]
        go_enter Tryz.func20, Tryz.ntmps20
        go_wp2
        go_loopw [3] (fun i wr => ∃ j : Nat, j ≤ l.length ∧ i = .int .i64 j ∧ Hid (lstW n (l.drop j) = lstW n l) ∧ Grew (w.alloc (.cells #[.int .i64 n, .slice p l.length c] 24)) wr) (fun i _ => l.length - (intOf i).toNat)
        case atStart => exact ⟨0, Nat.zero_le _, rfl, rfl, Grew.refl _⟩
        case round =>
          obtain ⟨j, hj, rfl, hr, hg⟩ := hrel
          have q0 := (box2 _ hg).1
          have q1 := (box2 _ hg).2
          have hsz := box2_lt hg
          by_cases hlt : j < l.length
          · obtain ⟨b, off, rfl, hbb, hcap, hc⟩ := hl.at hlt
            have hb0 := (hg1.trans hg).below
            obtain ⟨c0, c1, c2⟩ := hc j _ (List.getElem?_eq_getElem hlt)
            replace c0 := (hb0.cell (p := ⟨b, off + j * 3, none⟩) hbb).trans c0
            replace c1 := (hb0.cell (p := ⟨b, off + j * 3 + 1, none⟩) hbb).trans c1
            replace c2 := (hb0.cell (p := ⟨b, off + j * 3 + 2, none⟩) hbb).trans c2
            have hjl : (j : Int) < (l.length : Int) := by omega
            have HST : Hid _ := (lstW_step (n := n) hlt).symm.trans hr
            clear hc hr
            have hbr : b < wr.heap.size := by omega
            have hg8 := hg.alloc (.cells #[.int .i64 l[j].1, .int .i64 l[j].2.1, .int .i64 l[j].2.2] 46)
            have hE : (fitW n l[j] = 5 ∧ (l[j].1 < 0 ∨ n ≤ l[j].1 ∨ l[j].2.1 < 0 ∨ n ≤ l[j].2.1)) ∨ ((0 ≤ l[j].1 ∧ l[j].1 < n ∧ 0 ≤ l[j].2.1 ∧ l[j].2.1 < n) ∧ ((fitW n l[j] = 10 ∧ l[j].2.2 < 0) ∨ (fitW n l[j] = 8 ∧ 0 ≤ l[j].2.2 ∧ 2147483648 ≤ l[j].2.2) ∨ (fitW n l[j] = 0 ∧ 0 ≤ l[j].2.2 ∧ l[j].2.2 < 2147483648))) := by
              unfold fitW
              by_cases x1 : vtxB n l[j].1 = true
              · by_cases x2 : vtxB n l[j].2.1 = true
                · rw [if_neg (by simp [x1, x2])]
                  rw [vtx_iff] at x1 x2
                  refine .inr ⟨⟨x1.1, x1.2, x2.1, x2.2⟩, ?_⟩
                  by_cases z0 : l[j].2.2 < 0
                  · exact .inl ⟨by simp [z0], z0⟩
                  · by_cases z1 : 2147483648 ≤ l[j].2.2
                    · exact .inr (.inl ⟨by simp [z0, z1], by omega, z1⟩)
                    · exact .inr (.inr ⟨by simp [z0, z1], by omega, by omega⟩)
                · have x2' : vtxB n l[j].2.1 = false := by simpa using x2
                  exact .inl ⟨if_pos (.inr x2'), by have := vtx_not.1 x2'; omega⟩
              · have x1' : vtxB n l[j].1 = false := by simpa using x1
                exact .inl ⟨if_pos (.inl x1'), by have := vtx_not.1 x1'; omega⟩
            generalize fitW n l[j] = k at HST hE
            rcases hE with ⟨rfl, hx⟩ | ⟨⟨x0, x1, x2, x3⟩, hz⟩
            · have HE : Hid (rgtW n l = 5) := by
                have h2 := HST.out
                rw [if_neg (by omega)] at h2
                unfold Hid; rw [hR.out, ← h2]
              clear HST
              by_cases y0 : l[j].1 < 0
              · go_wp2
                go_ret
                exact ⟨by rw [HE.out]; rfl, hg1.trans hg8⟩
              · by_cases y1 : n ≤ l[j].1
                · go_wp2
                  go_ret
                  exact ⟨by rw [HE.out]; rfl, hg1.trans hg8⟩
                · by_cases y2 : l[j].2.1 < 0
                  · go_wp2
                    go_ret
                    exact ⟨by rw [HE.out]; rfl, hg1.trans hg8⟩
                  · have y3 : n ≤ l[j].2.1 := by omega
                    go_wp2
                    go_ret
                    exact ⟨by rw [HE.out]; rfl, hg1.trans hg8⟩
            · rcases hz with ⟨rfl, z0⟩ | ⟨rfl, z0, z1⟩ | ⟨rfl, z0, z1⟩
              · have HE : Hid (rgtW n l = 10) := by
                  have h2 := HST.out
                  rw [if_neg (by omega)] at h2
                  unfold Hid; rw [hR.out, ← h2]
                clear HST
                go_wp2
                go_ret
                exact ⟨by rw [HE.out]; rfl, hg1.trans hg8⟩
              · have HE : Hid (rgtW n l = 8) := by
                  have h2 := HST.out
                  rw [if_neg (by omega)] at h2
                  unfold Hid; rw [hR.out, ← h2]
                clear HST
                go_wp2
                go_ret
                exact ⟨by rw [HE.out]; rfl, hg1.trans hg8⟩
              · have HS : Hid (lstW n (l.drop (j + 1)) = lstW n l) := by
                  have h2 := HST.out
                  rwa [if_pos rfl] at h2
                clear HST
                go_wp2
                exact ⟨⟨j + 1, by omega, by go_num, HS, hg8⟩, by simp [intOf]; omega⟩
          · obtain rfl : j = l.length := by omega
            have HE : Hid (rgtW n l = 0) := by
              unfold Hid; rw [hR.out, ← hr.out, lstW_end]
            clear hr
            go_wp2
            go_ret
            exact ⟨by rw [HE.out]; rfl, hg1.trans hg⟩

/-- An edge of natural numbers, as the program has it. -/
def edE (e : Eg) : Ed := ((e.1 : Int), (e.2.1 : Int), (e.2.2 : Int))
/-- What is right: the edges are of natural numbers. -/
theorem right_egs {n : Int} {l : List Ed} (h : rgtW n l = 0) : ∃ (N : Nat) (L : List Eg), n = N ∧ N ≤ 1048576 ∧ l = L.map edE ∧ L.length ≤ 4194304 ∧ (∀ e ∈ L, e.1 < N ∧ e.2.1 < N) ∧ ∀ e ∈ L, e.2.2 ≤ 2147483647 := by
  unfold rgtW at h
  split at h
  · omega
  · split at h
    · omega
    · rename_i h0 h1
      have hall : ∀ (l : List Ed), lstW n l = 0 → ∃ L : List Eg, l = L.map edE ∧ (∀ e ∈ L, (e.1 : Int) < n ∧ (e.2.1 : Int) < n) ∧ ∀ e ∈ L, e.2.2 ≤ 2147483647 := by
        intro l
        induction l with
        | nil => intro _; exact ⟨[], rfl, by simp, by simp⟩
        | cons e l ih =>
          intro hl
          by_cases hf : fitW n e = 0
          · have hl' : lstW n l = 0 := by
              unfold lstW at hl
              rwa [if_pos hf] at hl
            obtain ⟨L, h1, h2, h3⟩ := ih hl'
            unfold fitW at hf
            split at hf
            · omega
            · rename_i hv
              split at hf
              · omega
              · split at hf
                · omega
                · have a : vtxB n e.1 = true := by
                    cases hx : vtxB n e.1
                    · exact absurd (.inl hx) hv
                    · rfl
                  have b : vtxB n e.2.1 = true := by
                    cases hx : vtxB n e.2.1
                    · exact absurd (.inr hx) hv
                    · rfl
                  rw [vtx_iff] at a b
                  refine ⟨(e.1.toNat, e.2.1.toNat, e.2.2.toNat) :: L, ?_, fun x hx => ?_, fun x hx => ?_⟩
                  · rw [List.map_cons, ← h1]
                    congr 1
                    unfold edE
                    simp only
                    rw [Int.toNat_of_nonneg a.1, Int.toNat_of_nonneg b.1, Int.toNat_of_nonneg (by omega)]
                  · rcases List.mem_cons.1 hx with rfl | hx
                    · simp only; omega
                    · exact h2 x hx
                  · rcases List.mem_cons.1 hx with rfl | hx
                    · simp only; omega
                    · exact h3 x hx
          · unfold lstW at hl
            rw [if_neg hf] at hl
            exact absurd hl hf
      obtain ⟨L, h2, h3, h4⟩ := hall l h
      refine ⟨n.toNat, L, by omega, by omega, h2, by have : l.length = L.length := by rw [h2]; simp
                                                     omega, fun e he => by have := h3 e he; omega, h4⟩

set_option maxRecDepth 100000 in
theorem other_any (e : Eg) (v : Nat) (w : World) : Calls Tryz.prog 75 #[.agg #[.int .i64 (e.1 : Int), .int .i64 (e.2.1 : Int), .int .i64 (e.2.2 : Int)], .int .i64 (v : Int)] w fun r w' => r = .returned (.int .i64 (oth e v : Int)) ∧ Grew w w' := by
  obtain ⟨x, y, z⟩ := e
  simp only
  by_cases h : x = v
  · have hE : oth (x, y, z) v = y := if_pos h
    rw [hE]
    subst h
    go_enter Tryz.func75, Tryz.ntmps75
    go_wp2
    go_ret
    exact ⟨rfl, (Grew.refl w).alloc _⟩
  · have hE : oth (x, y, z) v = x := if_neg h
    rw [hE]
    have h' : ¬ (x : Int) = (v : Int) := by omega
    go_enter Tryz.func75, Tryz.ntmps75
    go_wp2
    go_ret
    exact ⟨rfl, (Grew.refl w).alloc _⟩
def lightB (n : Int) (k m : Int) : Bool := decide (n ≤ m ∧ k ≤ 4 * m)
set_option maxRecDepth 100000 in
theorem lightW_any (n : Int) (p : Option Addr) (k c : Nat) (m : Int) (h0 : 0 ≤ m) (h1 : m ≤ 1000) (w : World) : Calls Tryz.prog 8 #[.agg #[.int .i64 n, .slice p k c], .int .i64 m] w fun r w' => r = .returned (.bool (lightB n k m)) ∧ Grew w w' := by
  unfold lightB
  go_enter Tryz.func8, Tryz.ntmps8
  go_wp2
  all_goals go_ret
  all_goals refine ⟨?_, (Grew.refl w).alloc _⟩
  all_goals simp
  all_goals omega
end Go.Proofs.YthdhimcaojfcnaaGreat
