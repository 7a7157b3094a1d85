/-
  The walk of filigreelaw03.FaultTexts.
-/
import Derived.Deep.RegionWith
import Derived.Test.YteleldeeakklpaaDoorFTrailsLaw
import Derived.Test.YteleldeeakklpaaDoorFRefT
namespace Go.Proofs.YteleldeeakklpaaDoor
open Go Go.Proofs Go.RowKit

theorem refText_any (l : List (ByteArray × Int)) (hl : l.length ≤ 50 ∧ ∀ x ∈ l, x.1.size ≤ 5000 ∧ -9223372036854775808 ≤ x.2 ∧ x.2 ≤ 9223372036854775807) (k : Int) (w : World) (sv : Value) (hS : Steps w.heap.size w sv l) :
    Calls Tryd.prog 13 #[sv, .int .i64 k] w fun e w' => e = .returned (.string ⟨(accL l.reverse ++ (kindB k).data.toList).toArray⟩) ∧ Below w.heap.size w w' := by
  rw [← refT_eq]
  exact refText_loop l hl k w sv hS

/-- What stands all along: the chain, the variable that names its first link, the steps, and a copy of the last one. -/
structure TI (w : World) (l : List (ByteArray × Int)) (k : Int) (sv : Value) (b c d : Nat) (s : ByteArray) (a : Int) (v' : Value) (W : World) : Prop where
  bel : Below w.heap.size w W
  env : Env W
  chain : Chain W (.iface 23 (.int .i64 k)) W.heap.size l.reverse (.iface 29 (.pointer (some ⟨b, 0, none⟩)))
  steps : Steps W.heap.size W sv l
  cb : W.cell? ⟨c, 0, none⟩ = some (.pointer (some ⟨b, 0, none⟩))
  fb : FB W b s a v'
  l0 : W.cell? ⟨d, 0, none⟩ = some (.string s)
  l1 : W.cell? ⟨d, 1, none⟩ = some (.int .i64 a)
theorem TI.go {w : World} {l : List (ByteArray × Int)} {k : Int} {sv : Value} {b c d : Nat} {s : ByteArray} {a : Int} {v' : Value} {W W' : World} (h : TI w l k sv b c d s a v' W) (hb : Below W.heap.size W W') : TI w l k sv b c d s a v' W' :=
  ⟨h.bel.trans (hb.mono h.bel.size), h.env.go hb, h.chain.go hb, h.steps.go hb, cellUp hb _ _ h.cb, (hb.block b h.fb.lt).trans h.fb, cellUp hb _ _ h.l0, cellUp hb _ _ h.l1⟩

set_option maxRecDepth 100000 in
set_option maxHeartbeats 8000000 in
theorem texts_walk (l : List (ByteArray × Int)) (hl : InOkay l) (k : Int) (_hk : -9223372036854775808 ≤ k ∧ k ≤ 9223372036854775807) (w : World) (sv : Value) (hS : Steps w.heap.size w sv l) (hE : Env w) :
    Calls Tryd.prog 3 #[sv, .int .i64 k] w fun e w' => e = .returned (.bool true) ∧ Below w.heap.size w w' := by
  obtain ⟨pa, ca, rfl⟩ : ∃ pa ca, sv = .slice pa l.length ca := by
    rcases hS with ⟨⟨p, c, rfl⟩, rfl⟩ | ⟨b, off, cap, rfl, _⟩ <;> exact ⟨_, _, rfl⟩
  cases hlit : litB l with
  | false =>
    go_enter Tryd.func3, Tryd.ntmps3
    go_wp2_with fail
    refine (light_any l hl w _ hS).mono ?_
    rintro e w1 ⟨rfl, hw1⟩
    rw [hlit, hw1]
    go_wp2_with fail
    refine (alive_any w hE).mono ?_
    rintro e w2 ⟨rfl, hb2⟩
    go_wp2
    go_ret
    exact ⟨rfl, hb2⟩
  | true =>
    have hlt := litB_true hl hlit
    by_cases hk : k = 0
    · subst hk
      go_enter Tryd.func3, Tryd.ntmps3
      go_wp2_with fail
      refine (light_any l hl w _ hS).mono ?_
      rintro e w1 ⟨rfl, hw1⟩
      rw [hlit, hw1]
      go_wp2_with fail
      refine (alive_any w hE).mono ?_
      rintro e w2 ⟨rfl, hb2⟩
      go_wp2
      go_ret
      exact ⟨rfl, hb2⟩
    · have hk' : (k == 0) = false := by simpa using hk
      by_cases hn : l.length = 0
      · have hn' : ((l.length : Int) == 0) = true := by simpa using hn
        clear hn
        go_enter Tryd.func3, Tryd.ntmps3
        go_wp2_with fail
        refine (light_any l hl w _ hS).mono ?_
        rintro e w1 ⟨rfl, hw1⟩
        rw [hlit, hw1]
        go_wp2_with fail
        refine (alive_any w hE).mono ?_
        rintro e w2 ⟨rfl, hb2⟩
        go_wp2
        go_ret
        exact ⟨rfl, hb2⟩
      · have hn' : ((l.length : Int) == 0) = false := by simpa using hn
        obtain ⟨m, hm⟩ : ∃ m, l.length = m + 1 := ⟨l.length - 1, by omega⟩
        have hml : m < l.length := by omega
        have hrev : l.reverse = l[m] :: (l.take m).reverse := by
          have : l = l.take m ++ [l[m]] := by rw [← List.take_succ_eq_append_getElem hml, ← hm, List.take_length]
          have e := congrArg List.reverse this
          rw [List.reverse_append] at e
          exact e
        have hOk : Okay l.reverse := ⟨by simp; omega, fun x hx => by have := hlt.2 x (by simpa using hx); exact ⟨by omega, this.2⟩⟩
        have hks := kindB_size k
        have hmI : ((l.length : Int) - 1) = (m : Int) := by omega
        have HM : Hid (l.length = m + 1) := hm
        clear hm hn
        go_enter Tryd.func3, Tryd.ntmps3
        go_wp2_with fail
        refine (light_any l hl w _ hS).mono ?_
        rintro e w1 ⟨rfl, hw1⟩
        rw [hlit, hw1]
        go_wp2_with fail
        refine (wrapped_any l hl k hk w _ hS).mono ?_
        rintro e w2 ⟨v, rfl, hC2, hb2⟩
        have hC2' := hC2
        rw [hrev] at hC2'
        obtain ⟨b, v', hbw, rfl, hF, hCv⟩ := hC2'
        have hE2 := hE.go hb2
        have hS2 := hS.go hb2
        obtain ⟨vt, vx, rfl⟩ : ∃ t x, v' = .iface t x := (chain_wraps hk hCv).iface
        have hb3 : Below w2.heap.size w2 (w2.alloc (.cells #[.pointer none] 29)) := (Below.refl _ _).alloc (Nat.le_refl _) _
        go_wp2_with fail
        refine (asF_any ⟨b, 0, none⟩ w2.heap.size (.pointer none) _ (hE2.go hb3).et (by simp) (by simp)).mono ?_
        rintro e w4 ⟨rfl, hg4, c4, f4⟩
        have hb4 : Below w2.heap.size w2 w4 := hb3.grown hg4 (by simp) (fun k e => by cases e; exact Nat.le_refl _)
        have hz4 : w2.heap.size < w4.heap.size := by have := hg4.size; simp at this; omega
        have hC4 := hC2.go hb4
        have hE4 := hE2.go hb4
        have hS4 := hS2.go hb4
        have hF4 : FB w4 b l[m].1 l[m].2 (.iface vt vx) := (hb4.block b hbw).trans hF
        have hbw4 := hb2.trans (hb4.mono hb2.size)
        clear hg4 hb3 hC2 hE2 hS2 hF hCv hb2 hb4
        rcases hS4 with ⟨⟨p, c, h1⟩, h2⟩ | ⟨bs, off, cap, h1, hbb, hcap, hc⟩
        · rw [h2] at hml; simp at hml
        · simp only [Value.slice.injEq] at h1
          obtain ⟨rfl, _, rfl⟩ := h1
          obtain ⟨c0, c1⟩ := hc m l[m] (List.getElem?_eq_getElem hml)
          have hS4 : Steps w4.heap.size w4 (.slice (some ⟨bs, off, none⟩) l.length ca) l := .inr ⟨bs, off, ca, rfl, hbb, hcap, hc⟩
          clear hc
          have hb5 : Below w4.heap.size w4 (w4.alloc (.cells #[.string l[m].1, .int .i64 l[m].2] 33)) := (Below.refl _ _).alloc (Nat.le_refl _) _
          have T5 : TI w l k (.slice (some ⟨bs, off, none⟩) l.length ca) b w2.heap.size w4.heap.size l[m].1 l[m].2 (.iface vt vx) (w4.alloc (.cells #[.string l[m].1, .int .i64 l[m].2] 33)) :=
            ⟨hbw4.trans (hb5.mono hbw4.size), hE4.go hb5, hC4.go hb5, hS4.go hb5, cellUp hb5 _ _ c4, (hb5.block b hF4.lt).trans hF4, by simp, by simp⟩
          have T5d := T5.go (Below.drew (Below.refl _ _))
          have q5 := T5.cb
          have hks' : (kindB k).size ≤ 100 := by omega
          clear hb5 hC4 hE4 hF4 hbw4 hS4 hrev hw1 hE hS hl hbw
          go_wp2
          refine wp_cutN (fun a' w' => a'.defers = [] ∧ a'.tmps.getD 4 undef = .bool true ∧ Below w.heap.size w w') ?_ ?_
          · go_region_with (first
              | (go_at_call 12; refine (error_any hOk (.kind k) (kindB k) hks' (fun W => text_kind k W) _ ?_ ?_).mono ?_; exact T5d.env; exact T5d.chain; rintro e w6 ⟨rfl, hb6⟩; have T6 := T5d.go hb6; have q6 := T6.cb)
              | (go_at_call 13; refine (refText_any l hlt k _ _ ?_).mono ?_; exact T6.steps; rintro e w7 ⟨rfl, hb7⟩; have T7 := T6.go hb7; have q7 := T7.cb; have q8 := T7.fb.c0; have q9 := T7.fb.c1; have q10 := T7.l0; have q11 := T7.l1)
              | (go_at_call 14; refine (unwrap_some b _ _ _ _ T7.fb).mono ?_; rintro e w8 ⟨rfl, rfl⟩)
              | (go_at_call 9; refine (alive_any _ ?_).mono ?_; exact T7.env; rintro e w9 ⟨rfl, hb9⟩))
            all_goals exact ⟨rfl, rfl, (T7.go hb9).bel⟩
          · rintro ⟨tm, df⟩ w' ⟨rfl, ht, hb⟩
            go_wp2
            go_ret
            exact ⟨by rw [← ht], hb⟩

end Go.Proofs.YteleldeeakklpaaDoor
