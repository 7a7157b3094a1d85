/-
  The two ends of a way: kuratowski.endsOf.
-/
import Derived.Test.YtgjaikekpgdehaaXKMapP
namespace Go.Proofs.Ytgjaikekpgdehaa
open Go Go.Proofs Go.RowKit

def endP (x : List Int) : Int × Int := (x.getD 0 0, x.getD (x.length - 1) 0)
theorem ret_pair {fn : Func} {p : Tmp} (h : fn.results = #[.cell p 83]) {tmps : Array Value} {w : World} {b : Nat} {x y : Value} (hp : tmps.getD p undef = .pointer (some ⟨b, 0, none⟩)) (h0 : w.cell? ⟨b, 0, none⟩ = some x) (h1 : w.cell? ⟨b, 1, none⟩ = some y) :
    (results fn tmps).run Try.prog w = .ok (.agg #[x, y]) w := by
  have e : (results fn tmps).run Try.prog w = ((asAddr (tmps.getD p undef)).run Try.prog w).andThen fun a w₁ => (loadVar 83 a).run Try.prog w₁ := by
    simp only [results, h]
    simp [Sem.run_bind, Result.andThen]
  rw [e, hp]
  have a1 := Try.isAgg83
  have a2 := Try.sizeOf83
  go_simp
set_option maxRecDepth 100000 in
set_option maxHeartbeats 4000000 in
theorem endsOf_any (L : List Int) (h2 : 1 ≤ L.length) (hL : L.length ≤ 4194304) (sv : Value) (n0 : Nat) (w : World) (hn0 : n0 ≤ w.heap.size) (hl : Ints n0 w sv L) :
    Calls Try.prog 59 #[sv] w fun r w' => r = .returned (encP (endP L)) ∧ Below w.heap.size w w' := by
  obtain ⟨p, c, rfl⟩ := hl.len
  obtain ⟨bl, off, rfl, hbb, hcap, hc⟩ := hl.open (j := 0) (by omega)
  obtain ⟨n, hn⟩ : ∃ n, L.length = n + 1 := ⟨L.length - 1, by omega⟩
  have c0 := hc w (Below.refl _ _) 0 (by omega)
  have c2 := hc w (Below.refl _ _) n (by omega)
  have HT : Hid (endP L = (L[0], L[n])) := by
    unfold Hid endP
    rw [show L.length - 1 = n by omega]
    simp only [List.getD_eq_getElem?_getD, List.getElem?_eq_getElem (show 0 < L.length by omega), List.getElem?_eq_getElem (show n < L.length by omega), Option.getD_some]
  generalize L[0] = a0 at *
  generalize L[n] = b0 at *
  rw [hn] at hcap hl ⊢
  simp only [Nat.add_zero] at c0
  have hnI : (n : Int) + 1 - 1 = (n : Int) := by omega
  have hnl : (n : Int) < (n : Int) + 1 := by omega
  have hmix := mixed
  have hnb : n ≤ 4194304 := by omega
  have hbw : bl < w.heap.size := by omega
  clear hc h2 hl hn hL hn0
  go_enter Try.func59, Try.ntmps59
  go_wp2
  go_big_region_o
  have hb5 : Below w.heap.size w (w.alloc (.cells #[.int .i64 a0, .int .i64 b0] 83)).drew := below_drewN ((Grew.refl w).alloc _).below 1
  go_wp2
  refine bodyPost_ret (ret_pair (b := w.heap.size) (x := .int .i64 a0) (y := .int .i64 b0) rfl (by rfl) ?_ ?_) rfl ?_
  · go_simp
  · go_simp
  · exact ⟨by rw [HT.out]; rfl, hb5⟩
end Go.Proofs.Ytgjaikekpgdehaa
