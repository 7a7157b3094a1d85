/-
  The walks of PathsRight and PathsChecks.
-/
import Derived.Test.YtejemnjadgihbaaXWaAlive
import Derived.Test.YtejemnjadgihbaaXWaRefC
namespace Go.Proofs.Ytejemnjadgihbaa
open Go Go.Proofs Go.RowKit

theorem below_drew1 {A w : World} {n : Nat} (h : Below n w A) : Below n w A.drew := below_drewN h 1
theorem below_keep {A B w : World} {n : Nat} (hb : Below A.heap.size A B) (h : Below n w A) (hn : n ≤ w.heap.size) : Below n w B := h.trans (hb.mono (Nat.le_trans hn h.size))

set_option maxRecDepth 100000 in
set_option maxHeartbeats 1000000 in
theorem right_walk (n : Int) (l : List Ed) (sv : Value) (w : World) (hl : Edges w.heap.size w sv l) :
    Calls Try.prog 3 #[.agg #[.int .i64 n, sv]] w fun r w' => r = .returned (.bool true) ∧ Below w.heap.size w w' := by
  obtain ⟨p, q, rfl⟩ := hl.len
  have hmix := mixed
  have hg1 : Grew w (w.alloc (.cells #[.int .i64 n, .slice p l.length q] 24)) := (Grew.refl w).alloc _
  have q0 := (box2 _ (Grew.refl (w.alloc (.cells #[.int .i64 n, .slice p l.length q] 24)))).1
  have q1 := (box2 _ (Grew.refl (w.alloc (.cells #[.int .i64 n, .slice p l.length q] 24)))).2
  by_cases hlong : (1000 : Int) < (l.length : Int)
  · have hd : decide ((1000 : Int) < (l.length : Int)) = true := by simpa using hlong
    go_enter Try.func3, Try.ntmps3
    go_wp2
    go_big_region_o
    go_wp2
    go_ret
    exact ⟨rfl, below_drewN hg1.below 1⟩
  · have hd : decide ((1000 : Int) < (l.length : Int)) = false := by simpa using hlong
    go_enter Try.func3, Try.ntmps3
    go_wp2
    have hB1 := hg1.below
    generalize w.alloc (.cells #[.int .i64 n, .slice p l.length q] 24) = w1 at q0 q1 hB1 ⊢
    clear hg1
    go_region_held3 (fun w' => w'.cell? ⟨w.heap.size, 0, none⟩ = some (.int .i64 n) ∧ w'.cell? ⟨w.heap.size, 1, none⟩ = some (.slice p l.length q) ∧ Below w.heap.size w w') (((try go_split_ands); refine ⟨?_, ?_, ?_⟩ <;> first | assumption | (simp only [World.cell?_drew]; assumption) | exact below_drew1 (by assumption) | exact cell_keepW hb (by assumption) | exact below_keep hb (by assumption) (Nat.le_refl _))) (first | (go_at_call 7; refine (rightW_any n l _ _ (hl.go (by go_split_ands; assumption))).mono ?_; rintro e w2 ⟨rfl, hg⟩; have hb := hg.below) | (go_at_call 8; refine (refRightW_any n l _ _ (hl.go (by go_split_ands; assumption))).mono ?_; rintro e w2 ⟨rfl, hg⟩; have hb := hg.below) | (go_at_call 9; refine (aliveW_any _).mono ?_; rintro e w2 ⟨rfl, hb⟩))
    go_split_ands
    go_wp2
    go_ret
    exact ⟨rfl, by assumption⟩

theorem lightW_true {n : Int} {k : Nat} {m : Int} (h : lightB n k m = true) : n ≤ m ∧ (k : Int) ≤ 4 * m := by simpa [lightB] using h
/-- Both checks answer the same number. -/
theorem checks_same (n f : Int) (l : List Ed) (D V : List Int) (sv dv vv : Value) (w : World) (hl : Edges w.heap.size w sv l) (hD : Ints w.heap.size w dv D) (hV : Ints w.heap.size w vv V) (hbd : ∀ x ∈ D, x ≤ 9223372036854775807) (hn : n ≤ 40) (hm : l.length ≤ 160) :
    ∃ k : Int, (∀ W, Below w.heap.size w W → Calls Try.prog 15 #[.agg #[.int .i64 n, sv], .int .i64 f, dv, vv] W fun e w' => e = .returned (.int .i64 k) ∧ Below W.heap.size W w') ∧ (∀ W, Below w.heap.size w W → Calls Try.prog 14 #[.agg #[.int .i64 n, sv], .int .i64 f, dv, vv] W fun e w' => e = .returned (.int .i64 k) ∧ Below W.heap.size W w') := by
  by_cases hr : rgtW n l = 0
  · cases hv : vtxB n f with
    | false => exact ⟨5, fun W hW => check_none n f l sv dv vv W (hl.go hW) hr hv, fun W hW => refCheck_none n f l sv dv vv W (hl.go hW) hr hv⟩
    | true =>
      obtain ⟨N, L, rfl, _, rfl, hL, hE, hW⟩ := right_egs hr
      have hf := vtx_iff.1 hv
      obtain ⟨s, rfl⟩ : ∃ s : Nat, f = s := ⟨f.toNat, by omega⟩
      have hLl : L.length ≤ 160 := by simpa using hm
      by_cases hok : OKc L s N D V
      · refine ⟨0, fun W hW' => (check_any N L s (by omega) (by omega) hL hE hW hr D V hbd sv dv vv W (hl.go hW') (hD.go hW') (hV.go hW')).mono ?_, fun W hW' => (refCheck_any N L s (by omega) (by omega) hLl hE hW hr D V sv dv vv W (hl.go hW') (hD.go hW') (hV.go hW')).mono ?_⟩
        all_goals
          rintro e w' ⟨h | h, hb⟩
          · exact ⟨h.1, hb⟩
          · exact absurd hok h.2
      · refine ⟨13, fun W hW' => (check_any N L s (by omega) (by omega) hL hE hW hr D V hbd sv dv vv W (hl.go hW') (hD.go hW') (hV.go hW')).mono ?_, fun W hW' => (refCheck_any N L s (by omega) (by omega) hLl hE hW hr D V sv dv vv W (hl.go hW') (hD.go hW') (hV.go hW')).mono ?_⟩
        all_goals
          rintro e w' ⟨h | h, hb⟩
          · exact absurd h.2 hok
          · exact ⟨h.1, hb⟩
  · exact ⟨rgtW n l, fun W hW => check_bad n f l sv dv vv W (hl.go hW) hr, fun W hW => refCheck_bad n f l sv dv vv W (hl.go hW) hr⟩

set_option maxRecDepth 100000 in
set_option maxHeartbeats 2000000 in
theorem checks_walk (n : Int) (l : List Ed) (f : Int) (D V : List Int) (sv dv vv : Value) (w : World) (hl : Edges w.heap.size w sv l) (hD : Ints w.heap.size w dv D) (hV : Ints w.heap.size w vv V) (hbd : ∀ x ∈ D, x ≤ 9223372036854775807) :
    Calls Try.prog 5 #[.agg #[.int .i64 n, sv], .int .i64 f, dv, vv] w fun r w' => r = .returned (.bool true) ∧ Below w.heap.size w w' := by
  have hmix := mixed
  have hsm := checks_same n f l D V sv dv vv w hl hD hV hbd
  obtain ⟨p, q, rfl⟩ := hl.len
  obtain ⟨pd, cd, rfl⟩ := hD.len
  obtain ⟨pv, cv, rfl⟩ := hV.len
  have hg1 : Grew w (w.alloc (.cells #[.int .i64 n, .slice p l.length q] 24)) := (Grew.refl w).alloc _
  have hlt := fun W => lightW_any n p l.length q 30 (by omega) (by omega) W
  cases hli : lightB n l.length 30 with
  | false =>
    rw [hli] at hlt
    go_enter Try.func5, Try.ntmps5
    go_wp2_with fail
    refine (hlt _).mono ?_
    rintro e w2 ⟨rfl, hg2⟩
    go_wp2_with fail
    refine (aliveW_any _).mono ?_
    rintro e w3 ⟨rfl, hb3⟩
    go_wp2
    go_ret
    exact ⟨rfl, (hg1.trans hg2).below.trans (hb3.mono (hg1.trans hg2).below.size)⟩
  | true =>
    rw [hli] at hlt
    obtain ⟨hn30, hl30⟩ := lightW_true hli
    by_cases h1 : (200 : Int) < (D.length : Int)
    · go_enter Try.func5, Try.ntmps5
      go_wp2_with fail
      refine (hlt _).mono ?_
      rintro e w2 ⟨rfl, hg2⟩
      go_wp2_with fail
      refine (aliveW_any _).mono ?_
      rintro e w3 ⟨rfl, hb3⟩
      go_wp2
      go_ret
      exact ⟨rfl, (hg1.trans hg2).below.trans (hb3.mono (hg1.trans hg2).below.size)⟩
    · have h1d : decide ((200 : Int) < (D.length : Int)) = false := by simp; omega
      by_cases h2 : (200 : Int) < (V.length : Int)
      · go_enter Try.func5, Try.ntmps5
        go_wp2_with fail
        refine (hlt _).mono ?_
        rintro e w2 ⟨rfl, hg2⟩
        go_wp2_with fail
        refine (aliveW_any _).mono ?_
        rintro e w3 ⟨rfl, hb3⟩
        go_wp2
        go_ret
        exact ⟨rfl, (hg1.trans hg2).below.trans (hb3.mono (hg1.trans hg2).below.size)⟩
      · have h2d : decide ((200 : Int) < (V.length : Int)) = false := by simp; omega
        obtain ⟨k, hk1, hk2⟩ := hsm (by omega) (by omega)
        go_enter Try.func5, Try.ntmps5
        go_wp2_with fail
        refine (hlt _).mono ?_
        rintro e w1 ⟨rfl, hg2⟩
        have q0 := (box2 _ hg2).1
        have q1 := (box2 _ hg2).2
        have hB1 := (hg1.trans hg2).below
        clear hlt hg1 hg2 hsm
        go_wp2
        go_region_held3 (fun w' => w'.cell? ⟨w.heap.size, 0, none⟩ = some (.int .i64 n) ∧ w'.cell? ⟨w.heap.size, 1, none⟩ = some (.slice p l.length q) ∧ Below w.heap.size w w') (((try go_split_ands); refine ⟨?_, ?_, ?_⟩ <;> first | assumption | (simp only [World.cell?_drew]; assumption) | exact below_drew1 (by assumption) | exact cell_keepW hb (by assumption) | exact below_keep hb (by assumption) (Nat.le_refl _))) (first | (go_at_call 15; refine (hk1 _ (by go_split_ands; assumption)).mono ?_; rintro e w2 ⟨rfl, hb⟩) | (go_at_call 14; refine (hk2 _ (by go_split_ands; assumption)).mono ?_; rintro e w2 ⟨rfl, hb⟩) | (go_at_call 9; refine (aliveW_any _).mono ?_; rintro e w2 ⟨rfl, hb⟩))
        go_split_ands
        go_wp2
        go_ret
        exact ⟨rfl, by assumption⟩
end Go.Proofs.Ytejemnjadgihbaa
