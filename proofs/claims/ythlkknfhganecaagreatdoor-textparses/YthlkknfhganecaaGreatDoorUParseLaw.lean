/-
  The walk of filigreelaw05.TextParses.
-/
import Derived.Test.YthlkknfhganecaaGreatDoorURefParse
import Derived.Test.YthlkknfhganecaaGreatDoorUSays
import Derived.Test.YthlkknfhganecaaGreatDoorGSame
namespace Go.Proofs.YthlkknfhganecaaGreatDoor
open Go Go.Proofs Go.RowKit

theorem says_of {p : Option (ByteArray × Int × Int)} {ev : Value} {w : World} (hE : Env w) (h : ErrIs w ev p) :
    Calls Tryz.prog 14 #[ev, faultV p] w fun e w' => e = .returned (.bool true) ∧ Below w.heap.size w w' := by
  cases p with
  | none =>
    have h' : ev = .nilIface := h
    subst h'
    exact says_none ⟨#[]⟩ 0 w
  | some q =>
    obtain ⟨s, a, x⟩ := q
    obtain ⟨hx, b, rfl, hF⟩ := h
    exact says_some s a x hx b w hE hF
theorem ErrIs.go {A B : World} {ev : Value} {p : Option (ByteArray × Int × Int)} (h : ErrIs A ev p) (hb : Below A.heap.size A B) : ErrIs B ev p := by
  cases p with
  | none => exact h
  | some q =>
    obtain ⟨s, a, x⟩ := q
    obtain ⟨hx, b, he, hF⟩ := h
    exact ⟨hx, b, he, (hb.block b hF.lt).trans hF⟩
theorem faultV_form (p : Option (ByteArray × Int × Int)) : ∃ s a x, faultV p = .agg #[.string s, .int .i64 a, .int .i64 x] := by
  cases p with
  | none => exact ⟨_, _, _, rfl⟩
  | some q => obtain ⟨s, a, x⟩ := q; exact ⟨_, _, _, rfl⟩

set_option maxRecDepth 100000 in
set_option maxHeartbeats 4000000 in
theorem textParses_walk (xs : List Int) (hxl : xs.length ≤ 140737488355328) (hxb : ∀ x ∈ xs, 0 ≤ x ∧ x ≤ 255) (sv : Value) (w : World) (hE : Env w) (hB : Bytes w.heap.size w sv xs) :
    Calls Tryz.prog 4 #[sv] w fun r w' => r = .returned (.bool true) ∧ Below w.heap.size w w' := by
  have hmix := mixed
  by_cases hd : (20000 : Int) < (xs.length : Int)
  · have hal := alive_any w hE
    obtain ⟨p, c, rfl⟩ := hB.len
    clear hxb
    go_enter Tryz.func4, Tryz.ntmps4
    go_wp2_with fail
    refine hal.mono ?_
    rintro e w2 ⟨rfl, hb2⟩
    go_wp2
    go_ret
    exact ⟨rfl, hb2⟩
  · have hpx := parse_any xs hxl _ _ hE hB
    have hrx : ∀ W, Below w.heap.size w W → Calls Tryz.prog 12 #[sv] W (RParseP (parseM xs) W) := fun W h => refParse_any xs (by omega) hxb _ W (hB.go h)
    have hlen : (parseM xs).l.length ≤ 4194304 := by
      rcases parse_told xs with ⟨n, l, e, hR, _⟩ | ⟨q, e⟩
      · rw [e]; exact hR.m1
      · rw [e]; simp
    obtain ⟨p, c, rfl⟩ := hB.len
    generalize parseM xs = PM at *
    obtain ⟨N, L, bad⟩ := PM
    obtain ⟨fs, fa, fx, hf⟩ := faultV_form bad
    clear hxb
    go_enter Tryz.func4, Tryz.ntmps4
    go_wp2_with fail
    refine hpx.mono ?_
    clear hpx
    rintro e w2 ⟨gv, ev, rfl, hg2, he2, hb2⟩
    simp only at hg2 he2 hlen
    obtain ⟨pg, cg, rfl⟩ := hg2.len
    have hb3 : Below w2.heap.size w2 (w2.alloc (.cells #[.int .i64 N, .slice pg L.length cg] 30)) := (Below.refl _ _).alloc (Nat.le_refl _) _
    have hX3 : Blk 30 (w2.alloc (.cells #[.int .i64 N, .slice pg L.length cg] 30)) w2.heap.size [.int .i64 N, .slice pg L.length cg] := heap_alloc_new w2 _
    have hw3 := hb2.trans (hb3.mono hb2.size)
    have hrr := hrx _ hw3
    clear hrx
    go_wp2_with fail
    refine hrr.mono ?_
    clear hrr
    rintro e w4 ⟨gh, rfl, hh4, hb4⟩
    simp only at hh4
    rw [hf]
    obtain ⟨ph, ch, rfl⟩ := hh4.len
    have hw4 := hw3.trans (hb4.mono hw3.size)
    have hb5 : Below w4.heap.size w4 (w4.alloc (.cells #[.int .i64 N, .slice ph L.length ch] 30)) := (Below.refl _ _).alloc (Nat.le_refl _) _
    have hY5 : Blk 30 (w4.alloc (.cells #[.int .i64 N, .slice ph L.length ch] 30)) w4.heap.size [.int .i64 N, .slice ph L.length ch] := heap_alloc_new w4 _
    have hb6 : Below (w4.alloc (.cells #[.int .i64 N, .slice ph L.length ch] 30)).heap.size (w4.alloc (.cells #[.int .i64 N, .slice ph L.length ch] 30)) ((w4.alloc (.cells #[.int .i64 N, .slice ph L.length ch] 30)).alloc (.cells #[.string fs, .int .i64 fa, .int .i64 fx] 36)) := (Below.refl _ _).alloc (Nat.le_refl _) _
    have hF6 : Blk 36 ((w4.alloc (.cells #[.int .i64 N, .slice ph L.length ch] 30)).alloc (.cells #[.string fs, .int .i64 fa, .int .i64 fx] 36)) (w4.heap.size + 1) [.string fs, .int .i64 fa, .int .i64 fx] := by
      have := heap_alloc_new (w4.alloc (.cells #[.int .i64 N, .slice ph L.length ch] 30)) (.cells #[.string fs, .int .i64 fa, .int .i64 fx] 36)
      rw [World.size_alloc] at this
      exact this
    have hb46 : Below w4.heap.size w4 ((w4.alloc (.cells #[.int .i64 N, .slice ph L.length ch] 30)).alloc (.cells #[.string fs, .int .i64 fa, .int .i64 fx] 36)) := hb5.trans (hb6.mono hb5.size)
    have hw6 := hw4.trans (hb46.mono hw4.size)
    have hX6 := (hX3.go hb4).go hb46
    have hY6 := hY5.go hb6
    have hg6 := ((hg2.go hb3).go hb4).go hb46
    have hh6 := hh4.go hb46
    have he6 := ((he2.go hb3).go hb4).go hb46
    have x0 := hX6.cell (j := 0) rfl
    have x1 := hX6.cell (j := 1) rfl
    have y0 := hY6.cell (j := 0) rfl
    have y1 := hY6.cell (j := 1) rfl
    have hlt : w2.heap.size < w4.heap.size := by have := hb4.size; simp only [World.size_alloc] at this; omega
    have hss := refSame_any N N L L hlen _ _ _ hg6 hh6
    rw [decide_eq_true (⟨rfl, rfl⟩ : N = N ∧ L = L)] at hss
    go_wp2_with fail
    refine hss.mono ?_
    clear hss
    rintro e w7 ⟨rfl, hg7⟩
    have hw7 := hw6.trans (hg7.below.mono hw6.size)
    have hF7 := hF6.go hg7.below
    have f0 := hF7.cell (j := 0) rfl
    have f1 := hF7.cell (j := 1) rfl
    have f2 := hF7.cell (j := 2) rfl
    have hsy := says_of (hE.go hw7) (he6.go hg7.below)
    rw [hf] at hsy
    clear x0 x1 y0 y1
    go_wp2_with fail
    refine hsy.mono ?_
    clear hsy f0 f1 f2
    rintro e w8 ⟨rfl, hb8⟩
    have hw8 := hw7.trans (hb8.mono hw7.size)
    have hal := alive_any _ (hE.go hw8)
    go_wp2_with fail
    refine hal.mono ?_
    rintro e w9 ⟨rfl, hb9⟩
    go_wp2
    go_ret
    exact ⟨rfl, hw8.trans (hb9.mono hw8.size)⟩
end Go.Proofs.YthlkknfhganecaaGreatDoor
