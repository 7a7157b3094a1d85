/-
  The contracts of rotation.Next and of the reference's.
-/
import Derived.Laws.ResultCell
import Derived.Deep.RegionHeld3
import Derived.Test.YtnmlbkmbiecpnabQM
namespace Go.Proofs.Ytnmlbkmbiecpnab
open Go Go.Proofs Go.RowKit

/-- The dart behind one, in lists that need be no system, and whether there is one. -/
def nxR (r : List (List Int)) (d : Dt) : Dt × Bool := if 0 ≤ d.2 ∧ d.2 < (r.length : Int) then (if d.1 ∈ r.getD d.2.toNat [] then (nxD r d, true) else ((0, 0), false)) else ((0, 0), false)
theorem idxOf_is {L : List Int} {x : Int} {k : Nat} (hk : k < L.length) (h : L[k] = x) (hne : ∀ (j : Nat) (hj : j < k), L[j] ≠ x) : L.idxOf x = k := by
  unfold List.idxOf
  refine (List.findIdx_eq hk).2 ⟨by simpa using h, fun j hj => by simpa using hne j hj⟩
theorem nxR_hit {r : List (List Int)} {d : Dt} {v k : Nat} (hv : v < r.length) (hd : d.2 = (v : Int)) (hk : k < r[v].length) (h : r[v][k] = d.1) (hne : ∀ (j : Nat) (hj : j < k), r[v][j] ≠ d.1) : nxR r d = (((v : Int), aft r[v] k), true) := by
  have e : r.getD d.2.toNat [] = r[v] := by rw [hd, Int.toNat_natCast, List.getD_eq_getElem?_getD, List.getElem?_eq_getElem hv]; rfl
  unfold nxR
  rw [if_pos ⟨by omega, by omega⟩, e, if_pos (by rw [← h]; exact List.getElem_mem hk)]
  unfold nxD
  rw [e, idxOf_is hk h hne, hd]
theorem nxR_miss {r : List (List Int)} {d : Dt} {v : Nat} (hv : v < r.length) (hd : d.2 = (v : Int)) (h : d.1 ∉ r[v]) : nxR r d = ((0, 0), false) := by
  have e : r.getD d.2.toNat [] = r[v] := by rw [hd, Int.toNat_natCast, List.getD_eq_getElem?_getD, List.getElem?_eq_getElem hv]; rfl
  unfold nxR
  rw [if_pos ⟨by omega, by omega⟩, e, if_neg h]
theorem nxR_out {r : List (List Int)} {d : Dt} (h : ¬ (0 ≤ d.2 ∧ d.2 < (r.length : Int))) : nxR r d = ((0, 0), false) := if_neg h
def FirstAt (L : List Int) (x : Int) (k : Nat) : Prop := ∃ hk : k < L.length, L[k] = x ∧ ∀ (j : Nat) (hj : j < k), L[j] ≠ x

set_option maxRecDepth 100000 in
set_option maxHeartbeats 2000000 in
theorem after_big (L : List Int) (k : Nat) (hk : k < L.length) (hL : L.length ≤ 9223372036854775807) (sv : Value) (m : Nat) (w : World) (h : Ints m w sv L) :
    Calls Try.prog 48 #[sv, .int .i64 (k : Int)] w fun r w' => r = .returned (.int .i64 (aft L k)) ∧ w' = w := by
  obtain ⟨p, c, rfl⟩ := h.len
  obtain ⟨b, off, rfl, hbb, hcap, hc⟩ := h.open hk
  by_cases he : k + 1 = L.length
  · have c0 := hc w (Below.refl _ _) 0 (by omega)
    rw [Nat.add_zero] at c0
    have hE : aft L k = L[0]'(by omega) := by
      unfold aft
      rw [if_pos he, List.getD_eq_getElem?_getD, List.getElem?_eq_getElem (by omega)]
      rfl
    have he' : ((k : Int) == (L.length : Int) - 1) = true := by
      rw [beq_iff_eq]; omega
    have h0 : (0 : Int) < (L.length : Int) := by omega
    rw [hE]
    generalize L[0] = x at *
    clear hE he hc
    go_enter Try.func48, Try.ntmps48
    go_wp2
    go_ret
    exact ⟨rfl, rfl⟩
  · have c0 := hc w (Below.refl _ _) (k + 1) (by omega)
    have hE : aft L k = L[k + 1]'(by omega) := by
      unfold aft
      rw [if_neg he, List.getD_eq_getElem?_getD, List.getElem?_eq_getElem (by omega)]
      rfl
    have he' : ((k : Int) == (L.length : Int) - 1) = false := by
      rw [beq_eq_false_iff_ne]; omega
    have h0 : (k : Int) + 1 < (L.length : Int) := by omega
    rw [hE]
    generalize L[k + 1] = x at *
    clear hE he hc
    go_enter Try.func48, Try.ntmps48
    go_wp2
    go_ret
    exact ⟨rfl, rfl⟩

theorem ret_dart {fn : Func} {p u : Tmp} (h : fn.results = #[.cell p 57, .tmp u]) {tmps : Array Value} {w : World} {b : Nat} {x y : Value} (hp : tmps.getD p undef = .pointer (some ⟨b, 0, none⟩)) (h0 : w.cell? ⟨b, 0, none⟩ = some x) (h1 : w.cell? ⟨b, 1, none⟩ = some y) :
    (results fn tmps).run Try.prog w = .ok (.tuple #[.agg #[x, y], tmps.getD u undef]) w := by
  rw [results_cell_tmp h, hp]
  have a1 := Try.isAgg57
  have a2 := Try.sizeOf57
  go_simp
/-- What Next answers. -/
def NextQ (a : Dt × Bool) (w : World) (e : Ending) (w' : World) : Prop := e = .returned (.tuple #[.agg #[.int .i64 a.1.1, .int .i64 a.1.2], .bool a.2]) ∧ Below w.heap.size w w'

theorem two_darts (w : World) (d1 d2 : Int) : Below w.heap.size w ((w.alloc (.cells #[.int .i64 d1, .int .i64 d2] 57)).alloc (.cells #[.int .i64 0, .int .i64 0] 57)) ∧ Blk 57 ((w.alloc (.cells #[.int .i64 d1, .int .i64 d2] 57)).alloc (.cells #[.int .i64 0, .int .i64 0] 57)) w.heap.size [.int .i64 d1, .int .i64 d2] ∧ Blk 57 ((w.alloc (.cells #[.int .i64 d1, .int .i64 d2] 57)).alloc (.cells #[.int .i64 0, .int .i64 0] 57)) (w.heap.size + 1) [.int .i64 0, .int .i64 0] := by
  have h1 : Below w.heap.size w (w.alloc (.cells #[.int .i64 d1, .int .i64 d2] 57)) := (Below.refl _ _).alloc (Nat.le_refl _) _
  have h2 : Below (w.alloc (.cells #[.int .i64 d1, .int .i64 d2] 57)).heap.size (w.alloc (.cells #[.int .i64 d1, .int .i64 d2] 57)) ((w.alloc (.cells #[.int .i64 d1, .int .i64 d2] 57)).alloc (.cells #[.int .i64 0, .int .i64 0] 57)) := (Below.refl _ _).alloc (Nat.le_refl _) _
  have h3 : Blk 57 (w.alloc (.cells #[.int .i64 d1, .int .i64 d2] 57)) w.heap.size [.int .i64 d1, .int .i64 d2] := heap_alloc_new _ _
  have h4 : Blk 57 ((w.alloc (.cells #[.int .i64 d1, .int .i64 d2] 57)).alloc (.cells #[.int .i64 0, .int .i64 0] 57)) (w.alloc (.cells #[.int .i64 d1, .int .i64 d2] 57)).heap.size [.int .i64 0, .int .i64 0] := heap_alloc_new _ _
  rw [World.size_alloc] at h4
  exact ⟨h1.trans (h2.mono h1.size), h3.go h2, h4⟩

end Go.Proofs.Ytnmlbkmbiecpnab
