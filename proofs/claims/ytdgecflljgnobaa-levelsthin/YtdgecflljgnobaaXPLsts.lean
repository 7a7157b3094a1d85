/-
  Lists of lists that are read; the reference's Ints and Lists.
-/
import Derived.Deep.QuietTactic
import Derived.Deep.RegionWith
import Derived.Deep.RegionHeld3
import Derived.Test.YtdgecflljgnobaaXPRefComp
namespace Go.Proofs.Ytdgecflljgnobaa
open Go Go.Proofs Go.RowKit

/-- Lists of numbers, in memory. -/
def Lsts (n : Nat) (W : World) (sv : Value) (LL : List (List Int)) : Prop :=
  ((∃ p c, sv = .slice p 0 c) ∧ LL = []) ∨ ∃ b off cap, sv = .slice (some ⟨b, off, none⟩) LL.length cap ∧ b < n ∧ LL.length ≤ cap ∧ ∀ (j : Nat) (x : List Int), LL[j]? = some x → ∃ sx, W.cell? ⟨b, off + j, none⟩ = some sx ∧ Ints n W sx x
theorem Lsts.below {n : Nat} {W W' : World} {sv : Value} {LL : List (List Int)} (h : Lsts n W sv LL) (hb : Below n W W') : Lsts n W' sv LL := by
  rcases h with h | ⟨b, off, cap, h1, h2, h3, h4⟩
  · exact .inl h
  · exact .inr ⟨b, off, cap, h1, h2, h3, fun j x hx => by
      obtain ⟨sx, h5, h6⟩ := h4 j x hx
      exact ⟨sx, (hb.cell (p := ⟨b, _, none⟩) h2).trans h5, h6.below hb⟩⟩
theorem Lsts.mono {n m : Nat} {W : World} {sv : Value} {LL : List (List Int)} (h : Lsts n W sv LL) (hb : n ≤ m) : Lsts m W sv LL := by
  rcases h with h | ⟨b, off, cap, h1, h2, h3, h4⟩
  · exact .inl h
  · exact .inr ⟨b, off, cap, h1, Nat.lt_of_lt_of_le h2 hb, h3, fun j x hx => by
      obtain ⟨sx, h5, h6⟩ := h4 j x hx
      exact ⟨sx, h5, h6.mono hb⟩⟩
theorem Lsts.go {W W' : World} {sv : Value} {LL : List (List Int)} (h : Lsts W.heap.size W sv LL) (hb : Below W.heap.size W W') : Lsts W'.heap.size W' sv LL := (h.below hb).mono hb.size
theorem Lsts.len {n : Nat} {W : World} {sv : Value} {LL : List (List Int)} (h : Lsts n W sv LL) : ∃ p c, sv = .slice p LL.length c := by
  rcases h with ⟨⟨p, c, rfl⟩, rfl⟩ | ⟨b, off, cap, rfl, _⟩ <;> exact ⟨_, _, rfl⟩
theorem Lsts.cellAt {n : Nat} {w : World} {p : Option Addr} {c : Nat} {L : List (List Int)} (h : Lsts n w (.slice p L.length c) L) {j : Nat} (hj : j < L.length) :
    ∃ b off, p = some ⟨b, off, none⟩ ∧ b < n ∧ L.length ≤ c ∧ ∃ px cx, Ints n w (.slice px L[j].length cx) L[j] ∧ w.cell? ⟨b, off + j, none⟩ = some (.slice px L[j].length cx) := by
  rcases h with ⟨_, h0⟩ | ⟨b, off, cap, h1, h2, h3, h4⟩
  · subst h0; simp at hj
  · simp only [Value.slice.injEq] at h1
    obtain ⟨rfl, _, rfl⟩ := h1
    obtain ⟨sx, h5, h6⟩ := h4 j _ (List.getElem?_eq_getElem hj)
    obtain ⟨px, cx, rfl⟩ := h6.len
    exact ⟨b, off, rfl, h2, h3, px, cx, h6, h5⟩
set_option maxRecDepth 100000 in
set_option maxHeartbeats 2000000 in
theorem refInts_any (a b : List Int) (hlen : a.length ≤ 4194304) (sa sb : Value) (w : World) (ha : Ints w.heap.size w sa a) (hb : Ints w.heap.size w sb b) :
    Calls Try.prog 11 #[sa, sb] w fun r w' => r = .returned (.bool (decide (a = b))) ∧ Grew w w' := by
  obtain ⟨p, c, rfl⟩ := ha.len
  obtain ⟨q, d, rfl⟩ := hb.len
  have hmix := mixed
  by_cases hlk : a.length = b.length
  · have hlk' : ((a.length : Int) != (b.length : Int)) = false := by simp; omega
    have HL : Hid (a.length = b.length) := hlk
    clear hlk
    go_enter Try.func11, Try.ntmps11
    go_wp2
    go_loopw [5] (fun i wr => ∃ j : Nat, j ≤ a.length ∧ i = .int .i64 j ∧ Hid (a.take j = b.take j) ∧ Grew w wr) (fun i _ => a.length - (intOf i).toNat)
    case atStart => exact ⟨0, Nat.zero_le _, rfl, rfl, Grew.refl _⟩
    case round =>
      obtain ⟨j, hj, rfl, hr, hg⟩ := hrel
      by_cases hlt : j < a.length
      · have hlt2 : j < b.length := by have := HL.out; omega
        obtain ⟨b1, off, rfl, hbb, hcap, hc⟩ := ha.open hlt
        obtain ⟨b2, off2, rfl, hbb2, hcap2, hc2⟩ := hb.open hlt2
        have c0 := hc wr hg.below j hlt
        have d0 := hc2 wr hg.below j hlt2
        have hjl : (j : Int) < (a.length : Int) := by omega
        have hjl2 : (j : Int) < (b.length : Int) := by omega
        have HS : Hid (a[j] = b[j] → a.take (j + 1) = b.take (j + 1)) := fun h => by
          rw [List.take_add_one, List.take_add_one, hr.out, List.getElem?_eq_getElem hlt, List.getElem?_eq_getElem hlt2, h]
        have HN : Hid (a[j] ≠ b[j] → a ≠ b) := fun h e => by subst e; exact h rfl
        clear hc hc2 hr
        generalize a[j] = x at c0 HS HN
        generalize b[j] = y at d0 HS HN
        by_cases he : x = y
        · have hb' : (x != y) = false := by simpa using he
          have HT : Hid _ := HS.out he
          clear HS HN he
          go_wp2
          go_quiet (fail)
          have hgq := hg.drewN nq
          generalize wr.drewN nq = w8 at hgq ⊢
          go_wp2
          exact ⟨⟨j + 1, by omega, by go_num, HT, hgq⟩, by simp [intOf]; omega⟩
        · have hb' : (x != y) = true := by simpa using he
          have HE : Hid (decide (a = b) = false) := decide_eq_false (HN.out he)
          clear HS HN he
          go_wp2
          go_quiet (fail)
          have hgq := hg.drewN nq
          generalize wr.drewN nq = w8 at hgq ⊢
          go_wp2
          go_ret
          exact ⟨by rw [HE.out]; rfl, hgq⟩
      · obtain rfl : j = a.length := by omega
        have HE : Hid (decide (a = b) = true) := by
          have h1 := hr.out
          have h2 := HL.out
          rw [List.take_length, h2, List.take_length] at h1
          exact decide_eq_true h1
        clear hr
        go_wp2
        go_ret
        exact ⟨by rw [HE.out]; rfl, hg⟩
  · have hlk' : ((a.length : Int) != (b.length : Int)) = true := by simp; omega
    have HE : Hid (decide (a = b) = false) := decide_eq_false (fun h => hlk (by rw [h]))
    clear hlk
    go_enter Try.func11, Try.ntmps11
    go_wp2
    go_ret
    exact ⟨by rw [HE.out]; rfl, Grew.refl w⟩
set_option maxRecDepth 100000 in
set_option maxHeartbeats 2000000 in
theorem refLists_any (a b : List (List Int)) (hlen : a.length ≤ 4194304) (hin : ∀ x ∈ a, x.length ≤ 4194304) (sa sb : Value) (w : World) (ha : Lsts w.heap.size w sa a) (hb : Lsts w.heap.size w sb b) :
    Calls Try.prog 17 #[sa, sb] w fun r w' => r = .returned (.bool (decide (a = b))) ∧ Grew w w' := by
  obtain ⟨p, c, rfl⟩ := ha.len
  obtain ⟨q, d, rfl⟩ := hb.len
  have hmix := mixed
  by_cases hlk : a.length = b.length
  · have hlk' : ((a.length : Int) != (b.length : Int)) = false := by simp; omega
    have HL : Hid (a.length = b.length) := hlk
    clear hlk
    go_enter Try.func17, Try.ntmps17
    go_wp2
    go_loopw [5] (fun i wr => ∃ j : Nat, j ≤ a.length ∧ i = .int .i64 j ∧ Hid (a.take j = b.take j) ∧ Grew w wr) (fun i _ => a.length - (intOf i).toNat)
    case atStart => exact ⟨0, Nat.zero_le _, rfl, rfl, Grew.refl _⟩
    case round =>
      obtain ⟨j, hj, rfl, hr, hg⟩ := hrel
      by_cases hlt : j < a.length
      · have hlt2 : j < b.length := by have := HL.out; omega
        obtain ⟨b1, off, rfl, hbb, hcap, px, cx, hx, c0⟩ := (ha.go hg.below).cellAt hlt
        obtain ⟨b2, off2, rfl, hbb2, hcap2, py, cy, hy, d0⟩ := (hb.go hg.below).cellAt hlt2
        have hjl : (j : Int) < (a.length : Int) := by omega
        have hjl2 : (j : Int) < (b.length : Int) := by omega
        have HS : Hid (a[j] = b[j] → a.take (j + 1) = b.take (j + 1)) := fun h => by
          rw [List.take_add_one, List.take_add_one, hr.out, List.getElem?_eq_getElem hlt, List.getElem?_eq_getElem hlt2, h]
        have HN : Hid (a[j] ≠ b[j] → a ≠ b) := fun h e => by subst e; exact h rfl
        have hxl := hin _ (List.getElem_mem hlt)
        have c0' : ∀ n os, (Go.Sort.grow (wr.drewN n) os).cell? ⟨b1, off + j, none⟩ = some (.slice px a[j].length cx) := cell_grown (a := ⟨b1, off + j, none⟩) hbb c0
        have d0' : ∀ n os, (Go.Sort.grow (wr.drewN n) os).cell? ⟨b2, off2 + j, none⟩ = some (.slice py b[j].length cy) := cell_grown (a := ⟨b2, off2 + j, none⟩) hbb2 d0
        have hic : ∀ W, Grew wr W → Calls Try.prog 11 #[.slice px a[j].length cx, .slice py b[j].length cy] W fun r w' => r = .returned (.bool (decide (a[j] = b[j]))) ∧ Grew W w' := fun W hW => refInts_any _ _ hxl _ _ W (hx.go hW.below) (hy.go hW.below)
        clear hr hx hy c0 d0
        clear hxl
        by_cases he : a[j] = b[j]
        · have hb' : decide (a[j] = b[j]) = true := decide_eq_true he
          have HT : Hid _ := HS.out he
          rw [hb'] at hic
          clear HS HN he hb'
          go_wp2
          go_quiet_grown (first | (go_at_call 11; refine Calls.grown_of (hic _ ⟨_, _, rfl⟩)))
          have hgq := hg.trans ⟨nq, osq, rfl⟩
          generalize Go.Sort.grow (wr.drewN nq) osq = w8 at hgq ⊢
          clear c0' d0' hic
          go_wp2
          exact ⟨⟨j + 1, by omega, by go_num, HT, hgq⟩, by simp [intOf]; omega⟩
        · have hb' : decide (a[j] = b[j]) = false := decide_eq_false he
          have HE : Hid (decide (a = b) = false) := decide_eq_false (HN.out he)
          rw [hb'] at hic
          clear HS HN he hb'
          go_wp2
          go_quiet_grown (first | (go_at_call 11; refine Calls.grown_of (hic _ ⟨_, _, rfl⟩)))
          have hgq := hg.trans ⟨nq, osq, rfl⟩
          generalize Go.Sort.grow (wr.drewN nq) osq = w8 at hgq ⊢
          clear c0' d0' hic
          go_wp2
          go_ret
          exact ⟨by rw [HE.out]; rfl, hgq⟩
      · obtain rfl : j = a.length := by omega
        have HE : Hid (decide (a = b) = true) := by
          have h1 := hr.out
          have h2 := HL.out
          rw [List.take_length, h2, List.take_length] at h1
          exact decide_eq_true h1
        clear hr
        go_wp2
        go_ret
        exact ⟨by rw [HE.out]; rfl, hg⟩
  · have hlk' : ((a.length : Int) != (b.length : Int)) = true := by simp; omega
    have HE : Hid (decide (a = b) = false) := decide_eq_false (fun h => hlk (by rw [h]))
    clear hlk
    go_enter Try.func17, Try.ntmps17
    go_wp2
    go_ret
    exact ⟨by rw [HE.out]; rfl, Grew.refl w⟩
theorem ints_owned {W : World} {base : Nat} {e : TypeId} {v : Value} {l : List Int} (h : W.ownsRow base e 1 v l.length (l.map (Value.int .i64))) : Ints W.heap.size W v l := by
  rcases h.2 with ⟨rfl, h0⟩ | ⟨g, cap, cur, rfl, hb, hg, hn, hc⟩
  · have : l = [] := List.eq_nil_of_length_eq_zero h0
    subst this
    exact .inl ⟨⟨_, _, rfl⟩, rfl⟩
  · refine .inr ⟨g, 0, cap, rfl, (Array.getElem?_eq_some_iff.1 hg).1, hn, fun j x hx => ?_⟩
    have := h.cells (g := g) rfl j (.int .i64 x) (by rw [List.getElem?_map, hx]; rfl)
    rwa [Go.WideShapes.add_plain] at this
theorem Grp.lsts {h0 : Nat} {lv : Value} {svs : List Value} {pre : List (List Int)} {W : World} (h : Grp h0 lv svs pre W) : Lsts W.heap.size W lv pre := by
  have hlen := h.len
  rcases h.own.2 with ⟨rfl, h1⟩ | ⟨g, cap, cur, rfl, hb, hg, hn, hc⟩
  · exact .inl ⟨⟨_, _, rfl⟩, List.eq_nil_of_length_eq_zero (by omega)⟩
  · refine .inr ⟨g, 0, cap, by rw [hlen], (Array.getElem?_eq_some_iff.1 hg).1, by omega, fun j x hx => ?_⟩
    have hj := (List.getElem?_eq_some_iff.1 hx).1
    obtain ⟨sx, hs⟩ : ∃ sx, svs[j]? = some sx := ⟨_, List.getElem?_eq_getElem (by omega)⟩
    refine ⟨sx, ?_, ints_owned (h.inn j sx x hs hx)⟩
    have := h.own.cells (g := g) rfl j sx hs
    rwa [Go.WideShapes.add_plain] at this
end Go.Proofs.Ytdgecflljgnobaa
