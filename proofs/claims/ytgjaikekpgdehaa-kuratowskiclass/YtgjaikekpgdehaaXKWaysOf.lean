/-
  The contracts of kuratowski.waysOf and kuratowski.Ways.
-/
import Derived.Test.YtgjaikekpgdehaaXKIdx
namespace Go.Proofs.Ytgjaikekpgdehaa
open Go Go.Proofs Go.RowKit

theorem Grp.lstsK {h0 : Nat} {lv : Value} {svs : List Value} {pre : List (List Int)} {W : World} (h : Grp h0 lv svs pre W) : Lsts W.heap.size W lv pre := by
  rcases h.own.2 with ⟨rfl, h2⟩ | ⟨g, cap, cur, hv, hb, hg, hn, _⟩
  · refine .inl ⟨⟨_, _, rfl⟩, List.eq_nil_of_length_eq_zero ?_⟩
    rw [← h.len]; exact h2
  · refine .inr ⟨g, 0, cap, by rw [← h.len]; exact hv, (Array.getElem?_eq_some_iff.1 hg).1, by rw [← h.len]; exact hn, fun j x hx => ?_⟩
    have hj : j < svs.length := by rw [h.len]; exact (List.getElem?_eq_some_iff.1 hx).1
    have hs := List.getElem?_eq_getElem hj
    have c0 := h.own.cells (g := g) (by rw [hv]; rfl) j _ hs
    rw [Go.WideShapes.add_plain] at c0
    exact ⟨_, c0, owns_intsK (h.inn j _ x hs hx)⟩
def oneB (x : List Int) : Bool := (x.length : Int) == 1
set_option maxRecDepth 100000 in
theorem one_any (x : List Int) (sx : Value) (n : Nat) (w : World) (h : Ints n w sx x) : Calls Try.prog 38 (#[sx] ++ #[]) w fun e w' => e = .returned (.bool (oneB x)) ∧ w' = w := by
  obtain ⟨p, c, rfl⟩ := h.len
  unfold oneB
  go_enter Try.func38, Try.ntmps38
  go_wp2
  go_ret
  exact ⟨rfl, rfl⟩
/-- What waysOf answers. -/
def wsK (N : Nat) (l : List Ed) : Int := if (nearL N l).any oneB = true then 13 else if onL (waysTo l N N) = (l.length : Int) then 0 else 13
def wsL (N : Nat) (l : List Ed) : List (List Int) := if wsK N l = 0 then waysTo l N N else []

set_option maxRecDepth 100000 in
set_option maxHeartbeats 4000000 in
theorem waysOf_any (N : Nat) (l : List Ed) (hR : RightG (N : Int) l) (sv : Value) (w : World) (hl : Edges w.heap.size w sv l) :
    Calls Try.prog 21 #[.agg #[.int .i64 (N : Int), sv]] w fun r w' => ∃ lv, r = .returned (.tuple #[lv, .int .i64 (wsK N l)]) ∧ Lsts w'.heap.size w' lv (wsL N l) ∧ Below w.heap.size w w' := by
  have hg1 : Grew w (w.alloc (.cells #[.int .i64 (N : Int), sv] 24)) := (Grew.refl w).alloc _
  have hB1 : Blk 24 (w.alloc (.cells #[.int .i64 (N : Int), sv] 24)) w.heap.size [.int .i64 (N : Int), sv] := heap_alloc_new w _
  have hl1 := hl.go hg1.below
  have hn1 := hR.n1
  obtain ⟨p, c, rfl⟩ := hl.len
  have hbad : wsK N l = 13 → Hid (wsL N l = []) := fun h => by unfold Hid wsL; rw [h]; rfl
  have hent : ∀ (args : Array Value) (W : World), (callFunc 38 args).run Try.prog W = .ok (.enter 38 args) W := fun args W => by kernel_rfl
  have hnr := near_any N l hR _ _ hl1
  go_enter Try.func21, Try.ntmps21
  go_wp2_with fail
  refine hnr.mono ?_
  rintro e w2 ⟨nv, rfl, hN, hb2⟩
  have hbw2 := hg1.below.trans (hb2.mono hg1.below.size)
  have hB2 := hB1.go hb2
  obtain ⟨pn, cn, rfl⟩ := hN.len
  have hcn := containsG_any 38 #[] oneB hent (nearL N l) (by rw [nearL_len]; omega) _ w2.heap.size w2 hN (fun x _ sx h => one_any x sx _ w2 h)
  clear hnr
  go_wp2_with fail
  refine hcn.mono ?_
  rintro e w3 ⟨rfl, rfl⟩
  cases ha : (nearL N l).any oneB with
  | true =>
    have HK : Hid (wsK N l = 13) := by unfold Hid wsK; rw [ha]; rfl
    have HL := hbad HK.out
    clear ha hcn hbad
    go_wp2
    go_ret2
    exact ⟨.slice none 0 0, by rw [HK.out]; rfl, by rw [HL.out]; exact .inl ⟨⟨_, _, rfl⟩, rfl⟩, hbw2⟩
  | false =>
    have hwa := walkAll_any N l hR _ w3 hN
    clear hcn
    go_wp2_with fail
    refine hwa.mono ?_
    rintro e w4 ⟨lv, svs, rfl, hG, hb4⟩
    have hB4 := hB2.go hb4
    have d1 := hB4.cell (j := 1) rfl
    have hbw4 := hbw2.trans (hb4.mono hbw2.size)
    by_cases hon : onL (waysTo l N N) = (l.length : Int)
    · have HK : Hid (wsK N l = 0) := by unfold Hid wsK; rw [ha, if_neg (by simp), if_pos hon]
      have HL : Hid (wsL N l = waysTo l N N) := by unfold Hid wsL; rw [HK.out]; rfl
      have hG' := hG.lstsK
      obtain ⟨pl, cl, hlv⟩ := owns_form hG.own
      subst hlv
      generalize onL (waysTo l N N) = on at *
      subst hon
      clear hbad ha hwa
      go_wp2
      go_ret2
      exact ⟨_, by rw [HK.out]; rfl, by rw [HL.out]; exact hG', hbw4⟩
    · have HK : Hid (wsK N l = 13) := by unfold Hid wsK; rw [ha, if_neg (by simp), if_neg hon]
      have HL := hbad HK.out
      generalize onL (waysTo l N N) = on at *
      have honb : (on == (l.length : Int)) = false := by simpa using hon
      clear hbad ha hwa hG
      go_wp2
      go_ret2
      exact ⟨.slice none 0 0, by rw [HK.out]; rfl, by rw [HL.out]; exact .inl ⟨⟨_, _, rfl⟩, rfl⟩, hbw4⟩
end Go.Proofs.Ytgjaikekpgdehaa
