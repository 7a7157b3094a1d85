/-
  The contract of paths.goesRound.
-/
import Derived.Deep.LoopGhost
import Derived.Test.YthdhimcaojfcnaaGreatXWaChk
namespace Go.Proofs.YthdhimcaojfcnaaGreat
open Go Go.Proofs Go.RowKit

def EndsW (L : List Eg) (V : List Int) (v : Nat) : Prop := ∃ k, at' V (up L V k v) = -1
theorem EndsW.step {L : List Eg} {V : List Int} {v : Nat} (h : EndsW L V (par L V v)) : EndsW L V v := by
  obtain ⟨k, hk⟩ := h
  exact ⟨k + 1, hk⟩
/-- Each last edge is none, or one that ends there. -/
def ValidV (L : List Eg) (N : Nat) (V : List Int) : Prop := ∀ v, v < N → at' V v = -1 ∨ ∃ (i : Nat) (e : Eg), at' V v = i ∧ L[i]? = some e ∧ (e.1 = v ∨ e.2.1 = v)
theorem par_of {L : List Eg} {V : List Int} {v i : Nat} {e : Eg} (h : at' V v = i) (he : L[i]? = some e) : par L V v = oth e v := by
  unfold par
  rw [if_neg (by omega), h, Int.toNat_natCast]
  have : L.getD i (0, 0, 0) = e := by simp [List.getD, he]
  rw [this]
theorem par_ltV {L : List Eg} {N : Nat} {V : List Int} (hE : ∀ e ∈ L, e.1 < N ∧ e.2.1 < N) (hV : ValidV L N V) {v : Nat} (hv : v < N) : par L V v < N := by
  rcases hV v hv with h | ⟨i, e, h1, h2, h3⟩
  · rw [par_none h]; exact hv
  · rw [par_of h1 h2]
    have := hE e (List.mem_of_getElem? h2)
    rcases oth_jn h3 with ⟨a, b⟩ | ⟨a, b⟩ <;> omega
/-- Going by last edges never ends from some vertex on. -/
def RoundsW (L : List Eg) (N : Nat) (V : List Int) : Prop := ∃ v, v < N ∧ ∃ M : Nat → Prop, M v ∧ ∀ x, x < N → M x → at' V x ≠ -1 ∧ M (par L V x)
/-- Behind j starts. -/
structure GO (L : List Eg) (N : Nat) (V : List Int) (j : Nat) (wl : List Int) : Prop where
  len : wl.length = N
  num : ∀ y, y < N → 0 ≤ at' wl y ∧ at' wl y ≤ (j : Int)
  fin : ∀ y, y < N → at' wl y ≠ 0 → EndsW L V y
  all : ∀ y, y < j → EndsW L V y
/-- In the walk from start j, at v. -/
structure GIn (L : List Eg) (N : Nat) (V : List Int) (j : Nat) (wl : List Int) (v : Nat) : Prop where
  len : wl.length = N
  num : ∀ y, y < N → 0 ≤ at' wl y ∧ at' wl y ≤ ((j + 1 : Nat) : Int)
  vlt : v < N
  fin : ∀ y, y < N → at' wl y ≠ 0 → at' wl y ≠ ((j + 1 : Nat) : Int) → EndsW L V y
  own : ∀ y, y < N → at' wl y = ((j + 1 : Nat) : Int) → at' V y ≠ -1 ∧ (at' wl (par L V y) = ((j + 1 : Nat) : Int) ∨ par L V y = v) ∧ (EndsW L V v → EndsW L V y)
  from' : EndsW L V v → EndsW L V j
  all : ∀ y, y < j → EndsW L V y
theorem GO.go {L : List Eg} {N : Nat} {V : List Int} {j : Nat} {wl : List Int} (h : GO L N V j wl) (hj : j < N) : GIn L N V j wl j :=
  ⟨h.len, fun y hy => by have := h.num y hy; omega, hj, fun y hy h0 _ => h.fin y hy h0, fun y hy h1 => by have := h.num y hy; omega, id, h.all⟩
theorem GIn.out {L : List Eg} {N : Nat} {V : List Int} {j : Nat} {wl : List Int} {v : Nat} (h : GIn L N V j wl v) (he : EndsW L V v) : GO L N V (j + 1) wl := by
  refine ⟨h.len, h.num, fun y hy h0 => ?_, fun y hy => ?_⟩
  · by_cases e : at' wl y = ((j + 1 : Nat) : Int)
    · exact (h.own y hy e).2.2 he
    · exact h.fin y hy h0 e
  · by_cases e : y = j
    · subst e; exact h.from' he
    · exact h.all y (by omega)
theorem GIn.step {L : List Eg} {N : Nat} {V : List Int} {j : Nat} {wl : List Int} {v : Nat} (h : GIn L N V j wl v) (hE : ∀ e ∈ L, e.1 < N ∧ e.2.1 < N) (hV : ValidV L N V) (h0 : at' wl v = 0) (h1 : at' V v ≠ -1) : GIn L N V j (wl.set v ((j + 1 : Nat) : Int)) (par L V v) := by
  have hlt : v < wl.length := by rw [h.len]; exact h.vlt
  have hs : ∀ y, at' (wl.set v ((j + 1 : Nat) : Int)) y = if y = v then ((j + 1 : Nat) : Int) else at' wl y := at_set _ hlt
  refine ⟨by simp [h.len], fun y hy => ?_, par_ltV hE hV h.vlt, fun y hy a b => ?_, fun y hy a => ?_, fun he => h.from' he.step, h.all⟩
  · rw [hs]; have := h.num y hy; split <;> omega
  · rw [hs] at a b
    by_cases e : y = v
    · rw [if_pos e] at b; exact absurd rfl b
    · rw [if_neg e] at a b; exact h.fin y hy a b
  · by_cases e : y = v
    · subst e; exact ⟨h1, .inr rfl, fun he => he.step⟩
    · rw [hs, if_neg e] at a
      obtain ⟨k1, k2, k3⟩ := h.own y hy a
      refine ⟨k1, .inl ?_, fun he => k3 he.step⟩
      rw [hs]
      rcases k2 with k2 | k2
      · split
        · rfl
        · exact k2
      · rw [if_pos k2]
theorem GIn.round {L : List Eg} {N : Nat} {V : List Int} {j : Nat} {wl : List Int} {v : Nat} (h : GIn L N V j wl v) (he : at' wl v = ((j + 1 : Nat) : Int)) : RoundsW L N V := by
  refine ⟨v, h.vlt, fun x => at' wl x = ((j + 1 : Nat) : Int), he, fun x hx hm => ?_⟩
  obtain ⟨k1, k2, _⟩ := h.own x hx hm
  refine ⟨k1, ?_⟩
  rcases k2 with k2 | k2
  · exact k2
  · show at' wl (par L V x) = _
    rw [k2]; exact he
theorem GO.start (L : List Eg) (N : Nat) (V : List Int) : GO L N V 0 (List.replicate N 0) := by
  have hz : ∀ y, y < N → at' (List.replicate N (0 : Int)) y = 0 := fun y hy => by rw [at_get (by simpa using hy)]; simp
  exact ⟨by simp, fun y hy => by rw [hz y hy]; omega, fun y hy h0 => absurd (hz y hy) h0, fun y hy => by omega⟩
def zerosW (wl : List Int) : Nat := wl.count 0
theorem zeros_set {wl : List Int} {v : Nat} (h : v < wl.length) (h0 : at' wl v = 0) {x : Int} (hx : x ≠ 0) : zerosW (wl.set v x) < zerosW wl := by
  unfold zerosW
  rw [at_get h] at h0
  have hpos : 0 < wl.count 0 := List.count_pos_iff.2 (by rw [← h0]; exact List.getElem_mem h)
  rw [List.count_set h, h0]
  simp [hx]
  omega
def RoundP (L : List Eg) (N : Nat) (V : List Int) (r : Ending) : Prop := (r = .returned (.bool true) ∧ RoundsW L N V) ∨ (r = .returned (.bool false) ∧ ∀ v, v < N → EndsW L V v)

end Go.Proofs.YthdhimcaojfcnaaGreat
