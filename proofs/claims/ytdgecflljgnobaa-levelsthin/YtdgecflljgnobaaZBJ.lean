/-
  (*walk).start where the vertex has been seen: nothing is done. ((*walk).side, too.)
-/
import Derived.Deep.QuietTactic
import Derived.BigQuiet
import Derived.Test.YtdgecflljgnobaaZAZ
import Derived.Deep.RegionHeld3
import Derived.Test.YtdgecflljgnobaaXGMath
namespace Go.Proofs.Ytdgecflljgnobaa
open Go Go.Proofs Go.RowKit

set_option maxRecDepth 100000 in
set_option maxHeartbeats 4000000 in
theorem start_seen (a : Lay) (lv pv ov : Value) (s : WS) (r : Nat) (hr : r < a.N) (hN : a.N ≤ 1048576) (hD : s.depth.length = a.N) (hpos : 0 ≤ s.depth.getD r 0) (w : World) (h : WB a lv pv ov s w) :
    Calls Try.prog 47 #[.pointer (some ⟨a.wb, 0, none⟩), .int .i64 (r : Int)] w fun e w' => e = .returned (.tuple #[]) ∧ w' = w := by
  have b3 := h.blk.cell (j := 3) rfl
  have hrN : (r : Int) < (a.N : Int) := by omega
  have t0 : w.cell? ⟨a.db, r, none⟩ = some (.int .i64 (s.depth.getD r 0)) := h.dep.cell (by rw [List.getElem?_map, List.getElem?_eq_getElem (by omega)]; simp [show r < s.depth.length by omega])
  obtain ⟨N, M, wb, rb, fb, db, kb, h0⟩ := a
  simp only at *
  generalize s.depth.getD r 0 = d at *
  clear h hD
  go_enter Try.func47, Try.ntmps47
  go_wp2
  (try simp only [Exit.inBlock, Exit.then])
  refine bodyPost_ret (results_none rfl _ _ _) rfl ?_
  exact ⟨rfl, rfl⟩
end Go.Proofs.Ytdgecflljgnobaa

namespace Go.Proofs.Ytdgecflljgnobaa
open Go Go.Proofs

section
variable {P : Program} {ops : Array Oper} {Q : Exit → Act → World → Prop} {md : Region.Mode} {S : World → Prop}

/-- In whatever order these come up: those that have not are ready, and no others; behind them all, just so much is listed. -/
def eachB (md : Region.Mode) (ops : Array Oper) (ps : List Nat) (full : Array Bool) : Nat → Array Bool → List Nat → Bool
  | 0, listed, d => (ps.filter fun i => !d.contains i).isEmpty && listed == full
  | n + 1, listed, d => (Region.ready md ops listed == ps.filter fun i => !d.contains i) && (ps.filter fun i => !d.contains i).all fun i => eachB md ops ps full n (listed.setIfInBounds i true) (i :: d)

theorem filter_less {ps : List Nat} (hn : ps.Nodup) (d : List Nat) {i : Nat} (hi : i ∈ ps.filter fun i => !d.contains i) : (ps.filter fun j => !(i :: d).contains j).length + 1 = (ps.filter fun j => !d.contains j).length := by
  have e : (ps.filter fun j => !(i :: d).contains j) = (ps.filter fun j => !d.contains j).erase i := by
    have hnf : (ps.filter fun j => !d.contains j).Nodup := hn.filter _
    rw [hnf.erase_eq_filter, List.filter_filter]
    refine List.filter_congr fun j _ => ?_
    simp only [List.contains_cons, Bool.not_or, bne]
  rw [e, List.length_erase_of_mem hi]
  have := List.length_pos_of_mem hi
  omega

theorem wpAnyH_each (ps : List Nat) (hn : ps.Nodup) (full : Array Bool) (J : List Nat → Act → World → Prop) (fe : Nat)
    (hstep : ∀ i ∈ ps, ∀ d a w, i ∉ d → J d a w → wpOp P ops Q i (fun a' w' => S w' ∧ J (i :: d) a' w') a w)
    (hend : ∀ d a w, (∀ i ∈ ps, i ∈ d) → J d a w → wpAnyH P md ops Q S fe full a w) :
    ∀ (n : Nat) (listed : Array Bool) (d : List Nat) (a : Act) (w : World), (ps.filter fun i => !d.contains i).length = n → eachB md ops ps full n listed d = true → J d a w → wpAnyH P md ops Q S (fe + n) listed a w
  | 0, listed, d, a, w, hl, h, hJ => by
    unfold eachB at h
    rw [Bool.and_eq_true] at h
    have h1 := List.isEmpty_iff.1 h.1
    have h2 : listed = full := by simpa using h.2
    subst h2
    refine hend d a w (fun i hi => ?_) hJ
    have : i ∉ ps.filter fun i => !d.contains i := by rw [h1]; simp
    rw [List.mem_filter] at this
    by_cases hd : i ∈ d
    · exact hd
    · exact absurd ⟨hi, by simp [hd]⟩ this
  | n + 1, listed, d, a, w, hl, h, hJ => by
    unfold eachB at h
    rw [Bool.and_eq_true] at h
    have h1 : Region.ready md ops listed = ps.filter fun i => !d.contains i := by simpa using h.1
    have hne : (ps.filter fun i => !d.contains i) ≠ [] := fun e => by rw [e] at hl; simp at hl
    refine wpAnyH_ready h1 hne (fun i hi => ?_)
    obtain ⟨hip, hid⟩ := List.mem_filter.1 hi
    have hid' : i ∉ d := by simpa using hid
    refine wpOp_mono (fun a' w' h' => ⟨h'.1, ?_⟩) (hstep i hip d a w hid' hJ)
    have hl' := filter_less hn d hi
    exact wpAnyH_each ps hn full J fe hstep hend n _ (i :: d) a' w' (by omega) (List.all_eq_true.1 h.2 i hi) h'.2
/-- One operation, as the walk takes it. -/
theorem wpOp_each {i : Nat} {o : Oper} {a : Act} {w : World} {R : Act → World → Prop} (ho : ops[i]? = some o)
    (h : ∀ K' : Act → World → Prop, Shut (∀ a w, S w → R a w → K' a w) → if Region.wanted o (yielded ops a.tmps) = true then Oper.wp P o a w K' Q else K' (a.put o.dst undef) w) : wpOp P ops Q i (fun a' w' => S w' ∧ R a' w') a w :=
  wpOp_step ho (fun K' hK => h K' (fun a w hS hR => hK a w ⟨hS, hR⟩))
end
end Go.Proofs.Ytdgecflljgnobaa
