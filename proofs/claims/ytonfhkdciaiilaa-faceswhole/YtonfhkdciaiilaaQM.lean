/-
  The chapter's example: alive.
-/
import Derived.Test.YtonfhkdciaiilaaQL
import Derived.Test.YtonfhkdciaiilaaQD
namespace Go.Proofs.Ytonfhkdciaiilaa
open Go Go.Proofs Go.RowKit

def exT : List Ed := [(0, 1, 0), (0, 2, 0), (1, 2, 0)]
def exR : List (List Int) := [[1, 2], [2, 0], [0, 1]]
theorem ex_right : RightG (3 : Int) exT := right_iff.1 (by decide)
theorem ex_sys : SysR 3 exT exR := by
  refine ⟨rfl, fun v hv => ?_⟩
  match v, hv with
  | 0, _ => decide
  | 1, _ => decide
  | 2, _ => decide
theorem ex_faces : facesL 3 exT exR = [[(0, 1), (1, 2), (2, 0)], [(0, 2), (2, 1), (1, 0)]] := by kernel_rfl
theorem ex_nums : numsL 3 exT exR = [2] := by kernel_rfl

end Go.Proofs.Ytonfhkdciaiilaa

namespace Go.Proofs.Ytonfhkdciaiilaa
open Go Go.Proofs Go.RowKit

/-- What Light answers; where it says yes, the graph is small, and there are few lists. -/
def LightQ (n : Int) (l : List Ed) (r : List (List Int)) (c : Int) (w : World) (e : Ending) (w' : World) : Prop := ∃ b, e = .returned (.bool b) ∧ (b = true → lightB n l c = true ∧ (r.length : Int) ≤ 2 * c) ∧ Below w.heap.size w w'
theorem lightQ_no {n : Int} {l : List Ed} {r : List (List Int)} {c : Int} {w w' : World} {e : Ending} (he : e = .returned (.bool false)) (hb : Below w.heap.size w w') : LightQ n l r c w e w' := ⟨false, he, fun h => absurd h (by decide), hb⟩
theorem lightQ_yes {n : Int} {l : List Ed} {r : List (List Int)} {c : Int} {w w' : World} {e : Ending} (he : e = .returned (.bool true)) (h1 : lightB n l c = true) (h2 : (r.length : Int) ≤ 2 * c) (hb : Below w.heap.size w w') : LightQ n l r c w e w' := ⟨true, he, fun _ => ⟨h1, h2⟩, hb⟩

set_option maxRecDepth 100000 in
set_option maxHeartbeats 4000000 in
theorem lightR_any (n : Int) (l : List Ed) (r : List (List Int)) (hr1 : r.length ≤ 9223372036854775807) (c : Int) (h0 : 0 ≤ c) (h1 : c ≤ 1000) (sv rv : Value) (w : World) (hl : Edges w.heap.size w sv l) (hr : Lsts w.heap.size w rv r) :
    Calls Try.prog 7 #[.agg #[.int .i64 n, sv], rv, .int .i64 c] w (LightQ n l r c w) := by
  have hbA : Below w.heap.size w (w.alloc (.cells #[.int .i64 n, sv] 24)) := (Below.refl _ _).alloc (Nat.le_refl _) _
  have hX : Blk 24 (w.alloc (.cells #[.int .i64 n, sv] 24)) w.heap.size [.int .i64 n, sv] := heap_alloc_new w _
  have hlc := light_any n l c h0 h1 sv _ (hl.go hbA)
  obtain ⟨p, cr, rfl⟩ := hr.len
  have HR0 := hr.go hbA
  have q0 := hX.cell (j := 0) rfl
  have q1 := hX.cell (j := 1) rfl
  have HR : Hid (Lsts (w.alloc (.cells #[.int .i64 n, sv] 24)).heap.size (w.alloc (.cells #[.int .i64 n, sv] 24)) (.slice p r.length cr) r) := HR0
  have HB : Hid (Below w.heap.size w (w.alloc (.cells #[.int .i64 n, sv] 24))) := hbA
  clear hr hl hX hbA HR0
  go_enter Try.func7, Try.ntmps7
  go_wp2
  generalize w.alloc (.cells #[.int .i64 n, sv] 24) = w1 at *
  have hrl : (r.length : Int) ≤ 9223372036854775807 := by omega
  go_loopw [7, 8] (fun mv iv wr => ∃ (j : Nat) (m : Int), j ≤ r.length ∧ iv = .int .i64 j ∧ mv = .int .i64 m ∧ wr = w1) (fun _ i _ => r.length - (intOf i).toNat)
  case atStart => exact ⟨0, 0, Nat.zero_le _, rfl, rfl, rfl⟩
  case round =>
    obtain ⟨j, m, hj, rfl, rfl, rfl⟩ := hrel
    by_cases hlt : j < r.length
    · have hjl : (j : Int) < (r.length : Int) := by omega
      by_cases hm : m ≤ 1000
      · obtain ⟨b, off, rfl, hbb, hcap, px, cx, hIx, c0⟩ := HR.out.cellAt hlt
        have HLT : Hid (j < r.length) := hlt
        generalize r[j] = X at *
        clear hIx hlt hlc q0 q1
        go_wp2
        exact ⟨⟨j + 1, _, HLT.out, by go_num, rfl, trivial⟩, by have := HLT.out; simp [intOf]; omega⟩
      · have hmd : decide (m ≤ 1000) = false := decide_eq_false hm
        go_wp2_with fail
        refine hlc.mono ?_
        clear hlc
        rintro e w3 ⟨rfl, hg3⟩
        have HB3 : Hid (Below w.heap.size w w3) := HB.out.trans (hg3.below.mono HB.out.size)
        clear hg3 HR q0 q1
        cases hL : lightB n l c with
        | false =>
          go_wp2
          go_ret
          exact lightQ_no rfl HB3.out
        | true =>
          have HL : Hid (lightB n l c = true) := hL
          clear hL
          by_cases hc : (r.length : Int) ≤ 2 * c
          · have HC : Hid ((r.length : Int) ≤ 2 * c) := hc
            go_wp2
            go_ret
            exact lightQ_no rfl HB3.out
          · go_wp2
            go_ret
            exact lightQ_no rfl HB3.out
    · obtain rfl : j = r.length := by omega
      go_wp2_with fail
      refine hlc.mono ?_
      clear hlc
      rintro e w3 ⟨rfl, hg3⟩
      have HB3 : Hid (Below w.heap.size w w3) := HB.out.trans (hg3.below.mono HB.out.size)
      clear hg3 HR q0 q1
      cases hL : lightB n l c with
      | false =>
        go_wp2
        go_ret
        exact lightQ_no rfl HB3.out
      | true =>
        have HL : Hid (lightB n l c = true) := hL
        clear hL
        by_cases hc : (r.length : Int) ≤ 2 * c
        · have HC : Hid ((r.length : Int) ≤ 2 * c) := hc
          by_cases hm : m ≤ 1000
          · go_wp2
            go_ret
            exact lightQ_yes rfl HL.out HC.out HB3.out
          · have hmd : decide (m ≤ 1000) = false := decide_eq_false hm
            go_wp2
            go_ret
            exact lightQ_no rfl HB3.out
        · go_wp2
          go_ret
          exact lightQ_no rfl HB3.out
end Go.Proofs.Ytonfhkdciaiilaa
