/-
  The chapter's example: alive answers true.
-/
import Derived.Test.YtejemnjadgihbaaXWaFrom
import Derived.Test.YtejemnjadgihbaaXWaWay
import Derived.Test.YtejemnjadgihbaaXWaCheck
import Derived.Test.YtejemnjadgihbaaXWaSame
namespace Go.Proofs.Ytejemnjadgihbaa
open Go Go.Proofs Go.RowKit

def LX : List Eg := [(0, 1, 5), (0, 2, 1), (2, 1, 2)]
theorem LX_ends : ∀ e ∈ LX, e.1 < 3 ∧ e.2.1 < 3 := by decide
theorem LX_few : ∀ e ∈ LX, e.2.2 ≤ 2147483647 := by decide
theorem LX_right : rgtW 3 (LX.map edE) = 0 := by decide
theorem dist_X : IsD LX 0 3 [0, 3, 1] := by
  refine isD_of rfl rfl (fun e he => ?_) (fun v hv => ?_)
  · have h : e = (0, 1, 5) ∨ e = (0, 2, 1) ∨ e = (2, 1, 2) := by simpa [LX] using he
    rcases h with rfl | rfl | rfl <;> exact .inr (by simp [at'])
  · match v, hv with
    | 0, _ => exact .inr ⟨[], 0, rfl, rfl, rfl⟩
    | 1, _ => exact .inr ⟨[2, 0], 3, rfl, (2, 1, 2), by simp [LX], .inl ⟨rfl, rfl⟩, 1, rfl, (0, 2, 1), by simp [LX], .inl ⟨rfl, rfl⟩, 0, rfl, rfl, rfl⟩
    | 2, _ => exact .inr ⟨[0], 1, rfl, (0, 2, 1), by simp [LX], .inl ⟨rfl, rfl⟩, 0, rfl, rfl, rfl⟩
theorem okc_X {D V : List Int} (h : OKc LX 0 3 D V) : D = [0, 3, 1] ∧ V = [-1, 2, 1] := by
  have hD : D = [0, 3, 1] := IsD.uniq h.dist dist_X
  subst hD
  refine ⟨rfl, ?_⟩
  have h0 := h.zero
  have h1 : at' V 1 = 2 := by
    rcases h.last 1 (by omega) (by omega) with ⟨a, _⟩ | ⟨_, i, hi, e, he, hv, hd⟩
    · simp [at'] at a
    · match i, hi, he with
      | 0, hi, he => have : e = (0, 1, 5) := by simpa [LX] using he.symm
                     subst this; simp [oth, at'] at hd
      | 1, hi, he => have : e = (0, 2, 1) := by simpa [LX] using he.symm
                     subst this; simp at hv
      | 2, hi, he => exact hi
      | i + 3, hi, he => simp [LX] at he
  have h2 : at' V 2 = 1 := by
    rcases h.last 2 (by omega) (by omega) with ⟨a, _⟩ | ⟨_, i, hi, e, he, hv, hd⟩
    · simp [at'] at a
    · match i, hi, he with
      | 0, hi, he => have : e = (0, 1, 5) := by simpa [LX] using he.symm
                     subst this; simp at hv
      | 1, hi, he => exact hi
      | 2, hi, he => have : e = (2, 1, 2) := by simpa [LX] using he.symm
                     subst this; simp [oth, at'] at hd
      | i + 3, hi, he => simp [LX] at he
  have hl := h.len
  match V, hl, h0, h1, h2 with
  | [a, b, c], _, h0, h1, h2 =>
    have e0 : a = -1 := h0
    have e1 : b = 2 := h1
    have e2 : c = 1 := h2
    rw [e0, e1, e2]
theorem valid_X : ValidV LX 3 [-1, 2, 1] := fun v hv => by
  match v, hv with
  | 0, _ => exact .inl rfl
  | 1, _ => exact .inr ⟨2, (2, 1, 2), rfl, rfl, .inr rfl⟩
  | 2, _ => exact .inr ⟨1, (0, 2, 1), rfl, rfl, .inr rfl⟩
theorem way_X : wayM LX [-1, 2, 1] 3 1 = [2, 1] := by decide
theorem Blk.intsW {W : World} {g : Nat} {l : List Int} {t : TypeId} (h : Blk t W g (l.map (Value.int .i64))) {n : Nat} (hn : l.length = n) : Ints W.heap.size W (.slice (some ⟨g, 0, none⟩) n n) l := by
  subst hn
  exact .inr ⟨g, 0, l.length, rfl, h.lt, Nat.le_refl _, fun j x hx => by rw [Nat.zero_add]; exact h.cell (by rw [List.getElem?_map, hx]; rfl)⟩
theorem ints_owns {W : World} {base : Nat} {v : Value} {l : List Int} {t : TypeId} {n : Nat} (h : W.ownsRow base t 1 v n (l.map (Value.int .i64))) (hn : l.length = n) : Ints W.heap.size W v l := by
  subst hn
  rcases h.2 with ⟨rfl, h0⟩ | ⟨g, cap, cur, rfl, hb, hg, hn, hc⟩
  · exact .inl ⟨⟨_, _, rfl⟩, List.eq_nil_of_length_eq_zero h0⟩
  · refine .inr ⟨g, 0, cap, rfl, (Array.getElem?_eq_some_iff.1 hg).1, hn, fun j x hx => ?_⟩
    have c0 := h.cells (g := g) rfl j (.int .i64 x) (by rw [List.getElem?_map, hx]; rfl)
    rwa [Go.WideShapes.add_plain] at c0

set_option maxRecDepth 100000 in
set_option maxHeartbeats 4000000 in
theorem aliveW_any (w : World) : Calls Try.prog 9 #[] w fun r w' => r = .returned (.bool true) ∧ Below w.heap.size w w' := by
  have hmix := mixed
  have hb1 : Below w.heap.size w ((w.alloc (.cells #[.int .i64 0, .int .i64 1, .int .i64 5, .int .i64 0, .int .i64 2, .int .i64 1, .int .i64 2, .int .i64 1, .int .i64 2] 39)).alloc (.cells #[.int .i64 3, .slice (some ⟨w.heap.size, 0, none⟩) 3 3] 24)) := ((Below.refl _ _).alloc (Nat.le_refl _) _).alloc (by simp) _
  have hBE : Blk 39 ((w.alloc (.cells #[.int .i64 0, .int .i64 1, .int .i64 5, .int .i64 0, .int .i64 2, .int .i64 1, .int .i64 2, .int .i64 1, .int .i64 2] 39)).alloc (.cells #[.int .i64 3, .slice (some ⟨w.heap.size, 0, none⟩) 3 3] 24)) w.heap.size (flat (LX.map edE)) := by
    have h0 : Blk 39 (w.alloc (.cells #[.int .i64 0, .int .i64 1, .int .i64 5, .int .i64 0, .int .i64 2, .int .i64 1, .int .i64 2, .int .i64 1, .int .i64 2] 39)) w.heap.size (flat (LX.map edE)) := heap_alloc_new w _
    exact h0.go ((Below.refl _ _).alloc (Nat.le_refl _) _)
  have hBG : Blk 24 ((w.alloc (.cells #[.int .i64 0, .int .i64 1, .int .i64 5, .int .i64 0, .int .i64 2, .int .i64 1, .int .i64 2, .int .i64 1, .int .i64 2] 39)).alloc (.cells #[.int .i64 3, .slice (some ⟨w.heap.size, 0, none⟩) 3 3] 24)) (w.heap.size + 1) [.int .i64 3, .slice (some ⟨w.heap.size, 0, none⟩) 3 3] := by
    have h1 : (w.alloc (.cells #[.int .i64 0, .int .i64 1, .int .i64 5, .int .i64 0, .int .i64 2, .int .i64 1, .int .i64 2, .int .i64 1, .int .i64 2] 39)).heap.size = w.heap.size + 1 := by simp
    have h0 := heap_alloc_new (w.alloc (.cells #[.int .i64 0, .int .i64 1, .int .i64 5, .int .i64 0, .int .i64 2, .int .i64 1, .int .i64 2, .int .i64 1, .int .i64 2] 39)) (.cells #[.int .i64 3, .slice (some ⟨w.heap.size, 0, none⟩) 3 3] 24)
    rw [h1] at h0
    exact h0
  go_enter Try.func9, Try.ntmps9
  go_wp2_with fail
  generalize (w.alloc (.cells #[.int .i64 0, .int .i64 1, .int .i64 5, .int .i64 0, .int .i64 2, .int .i64 1, .int .i64 2, .int .i64 1, .int .i64 2] 39)).alloc (.cells #[.int .i64 3, .slice (some ⟨w.heap.size, 0, none⟩) 3 3] 24) = w1 at *
  have hEd : Edges w1.heap.size w1 (.slice (some ⟨w.heap.size, 0, none⟩) 3 3) (LX.map edE) := hBE.edges
  have hfr : Calls Try.prog 11 #[.agg #[.int .i64 3, .slice (some ⟨w.heap.size, 0, none⟩) 3 3], .int .i64 0] w1 fun e w' => FromP LX 0 3 w1 e w' := from_any 3 LX 0 (by omega) (by omega) (by decide) LX_ends LX_few LX_right _ w1 hEd
  refine hfr.mono ?_
  rintro e w2 ⟨D, V, bD, bV, rfl, hOK, hD, hV, hb2, hgD, hgV⟩
  clear hfr
  obtain ⟨rfl, rfl⟩ := okc_X hOK
  have hE2 := hEd.go hb2
  have hG2 := hBG.go hb2
  have hbw2 := hb1.trans (hb2.mono hb1.size)
  have q0 := hG2.cell (j := 0) rfl
  have q1 := hG2.cell (j := 1) rfl
  have d1 : w2.cell? ⟨bD, 1, none⟩ = some (.int .i64 3) := hD.cell rfl
  have hwy : Calls Try.prog 16 #[.agg #[.int .i64 3, .slice (some ⟨w.heap.size, 0, none⟩) 3 3], .slice (some ⟨bV, 0, none⟩) 3 3, .int .i64 1] w2 fun r w' => ∃ rv, r = .returned rv ∧ w'.ownsRow w2.heap.size 3 1 rv (wayM LX [-1, 2, 1] 3 1).length ((wayM LX [-1, 2, 1] 3 1).reverse.map (Value.int .i64)) ∧ Below w2.heap.size w2 w' := way_any 3 LX (by omega) LX_ends [-1, 2, 1] rfl valid_X 1 (by omega) _ _ w2 hE2 (hV.intsW rfl)
  rw [way_X] at hwy
  go_wp2_with fail
  refine hwy.mono ?_
  rintro r w3 ⟨rv, rfl, hO3, hb3⟩
  clear hwy q0 q1 d1
  obtain ⟨pr, cr, rfl⟩ := owns_formP hO3
  have hI3 : Ints w3.heap.size w3 _ [1, 2] := ints_owns (l := [1, 2]) hO3 rfl
  have hal : Below w3.heap.size w3 (w3.alloc (.cells #[.int .i64 1, .int .i64 2] 3)) := (Below.refl _ _).alloc (Nat.le_refl _) _
  have hBA : Blk 3 (w3.alloc (.cells #[.int .i64 1, .int .i64 2] 3)) w3.heap.size (([1, 2] : List Int).map (Value.int .i64)) := heap_alloc_new w3 _
  have hIA : Ints (w3.alloc (.cells #[.int .i64 1, .int .i64 2] 3)).heap.size (w3.alloc (.cells #[.int .i64 1, .int .i64 2] 3)) (.slice (some ⟨w3.heap.size, 0, none⟩) 2 2) [1, 2] := hBA.intsW rfl
  have hsm := refIntsW_any [1, 2] [1, 2] _ _ _ (hI3.go hal) hIA (by simp)
  have hsame : sameI [1, 2] [1, 2] = true := same_yes rfl
  rw [hsame] at hsm
  have hG3 := (hG2.go hb3).go hal
  have hE3 := (hE2.go hb3).go hal
  have hD3 := (hD.go hb3).go hal
  have hV3 := (hV.go hb3).go hal
  have hbw3 := (hbw2.trans (hb3.mono hbw2.size)).trans (hal.mono (Nat.le_trans hbw2.size hb3.size))
  clear hI3 hIA hBA hO3 hal
  go_wp2_with fail
  generalize w3.alloc (.cells #[.int .i64 1, .int .i64 2] 3) = w4 at *
  refine hsm.mono ?_
  rintro r w5 ⟨rfl, nq, rfl⟩
  clear hsm
  have hG5 : Blk 24 (w4.drewN nq) (w.heap.size + 1) [.int .i64 3, .slice (some ⟨w.heap.size, 0, none⟩) 3 3] := hG3
  have hE5 : Edges (w4.drewN nq).heap.size (w4.drewN nq) (.slice (some ⟨w.heap.size, 0, none⟩) 3 3) (LX.map edE) := hE3
  have hD5 : Blk 2 (w4.drewN nq) bD (([0, 3, 1] : List Int).map (Value.int .i64)) := hD3
  have hV5 : Blk 3 (w4.drewN nq) bV (([-1, 2, 1] : List Int).map (Value.int .i64)) := hV3
  have hbw5 := below_drewN hbw3 nq
  clear hG3 hE3 hD3 hV3 hbw3
  generalize w4.drewN nq = w5 at *
  have q0 := hG5.cell (j := 0) rfl
  have q1 := hG5.cell (j := 1) rfl
  have hck : Calls Try.prog 15 #[.agg #[.int .i64 3, .slice (some ⟨w.heap.size, 0, none⟩) 3 3], .int .i64 0, .slice (some ⟨bD, 0, none⟩) 3 3, .slice (some ⟨bV, 0, none⟩) 3 3] w5 fun e w' => CheckP LX 0 3 [0, 3, 1] [-1, 2, 1] e ∧ Below w5.heap.size w5 w' := check_any 3 LX 0 (by omega) (by omega) (by decide) LX_ends LX_few LX_right [0, 3, 1] [-1, 2, 1] (by decide) _ _ _ w5 hE5 (hD5.intsW rfl) (hV5.intsW rfl)
  go_wp2_with fail
  refine hck.mono ?_
  rintro r w6 ⟨hr | hr, hb6⟩
  · obtain ⟨rfl, _⟩ := hr
    clear hck
    go_wp2
    go_ret
    exact ⟨rfl, hbw5.trans (hb6.mono hbw5.size)⟩
  · exact absurd hOK hr.2
end Go.Proofs.Ytejemnjadgihbaa
