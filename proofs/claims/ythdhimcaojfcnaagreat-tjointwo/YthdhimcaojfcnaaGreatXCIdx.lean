/-
  The contracts of slices.IndexFunc and slices.ContainsFunc at numbers, of any predicate that leaves the world as it is.
-/
import Derived.WalkMore
import Derived.Test.YthdhimcaojfcnaaGreatJA
namespace Go.Proofs.YthdhimcaojfcnaaGreat
open Go Go.Proofs Go.RowKit

/-- The first place of which p holds, or -1. -/
def idxF (p : Int → Bool) (L : List Int) : Int := match L.findIdx? p with
  | some i => i
  | none => -1
theorem idxF_at {p : Int → Bool} {L : List Int} {j : Nat} (hj : j < L.length) (h : p L[j] = true) (hno : ∀ (i : Nat) (h1 : i < L.length), i < j → p L[i] = false) : idxF p L = j := by
  unfold idxF
  have : L.findIdx? p = some j := by
    rw [List.findIdx?_eq_some_iff_getElem]
    exact ⟨hj, h, fun i hi => by rw [hno i (by omega) hi]; simp⟩
  rw [this]
theorem idxF_no {p : Int → Bool} {L : List Int} (hno : ∀ (i : Nat) (h1 : i < L.length), p L[i] = false) : idxF p L = -1 := by
  unfold idxF
  have : L.findIdx? p = none := by
    rw [List.findIdx?_eq_none_iff]
    intro x hx
    obtain ⟨i, hi, rfl⟩ := List.getElem_of_mem hx
    exact hno i hi
  rw [this]
theorem idxF_any (p : Int → Bool) (L : List Int) : decide (0 ≤ idxF p L) = L.any p := by
  unfold idxF
  cases h : L.findIdx? p with
  | none =>
    rw [List.findIdx?_eq_none_iff] at h
    have : L.any p = false := by rw [List.any_eq_false]; intro x hx; rw [h x hx]; simp
    rw [this]
    rfl
  | some i =>
    have h1 := h
    rw [List.findIdx?_eq_some_iff_getElem] at h1
    obtain ⟨hi, hp, _⟩ := h1
    have : L.any p = true := by rw [List.any_eq_true]; exact ⟨L[i], List.getElem_mem hi, hp⟩
    rw [this]
    simp

set_option maxRecDepth 100000 in
set_option maxHeartbeats 2000000 in
theorem indexF_any (f : Nat) (caps : Array Value) (p : Int → Bool) (hent : ∀ (args : Array Value) (W : World), (callFunc f args).run Tryz.prog W = .ok (.enter f args) W) (L : List Int) (hL : L.length ≤ 8388608) (sv : Value) (n : Nat) (w : World) (h : Ints n w sv L)
    (hp : ∀ x ∈ L, Calls Tryz.prog f (#[.int .i64 x] ++ caps) w fun e w' => e = .returned (.bool (p x)) ∧ w' = w) :
    Calls Tryz.prog 37 #[sv, .func (.func f) #[] caps] w fun e w' => e = .returned (.int .i64 (idxF p L)) ∧ w' = w := by
  obtain ⟨pp, c, rfl⟩ := h.len
  have HI : Hid (Ints n w (.slice pp L.length c) L) := h
  have HP : Hid (∀ x ∈ L, Calls Tryz.prog f (#[.int .i64 x] ++ caps) w fun e w' => e = .returned (.bool (p x)) ∧ w' = w) := hp
  clear h hp
  go_enter Tryz.func37, Tryz.ntmps37
  go_wp2
  go_loopw [8] (fun iv wr => ∃ j : Nat, j ≤ L.length ∧ iv = .int .i64 j ∧ Hid (∀ (i : Nat) (h1 : i < L.length), i < j → p L[i] = false) ∧ wr = w) (fun i _ => L.length - (intOf i).toNat)
  case atStart => exact ⟨0, Nat.zero_le _, rfl, fun i _ h => by omega, rfl⟩
  case round =>
    obtain ⟨j, hj, rfl, HS, rfl⟩ := hrel
    by_cases hlt : j < L.length
    · have hjl : (j : Int) < (L.length : Int) := by omega
      obtain ⟨b, off, rfl, hbb, hcap, hc⟩ := HI.out.open hlt
      have c0 := hc wr (Below.refl _ _) j hlt
      have hcl := HP.out L[j] (List.getElem_mem hlt)
      cases hv : p L[j] with
      | false =>
        have HS2 : Hid (∀ (i : Nat) (h1 : i < L.length), i < j + 1 → p L[i] = false) := fun i h1 h => by
          by_cases e : i = j
          · subst e; exact hv
          · exact HS.out i h1 (by omega)
        have HLT : Hid (j < L.length) := hlt
        rw [hv] at hcl
        generalize L[j] = x at c0 hcl
        clear HS hlt hc hv
        go_wp2_with fail
        refine hcl.mono ?_
        clear hcl
        rintro e w2 ⟨rfl, rfl⟩
        go_wp2
        exact ⟨⟨j + 1, HLT.out, by go_num, HS2.out, trivial⟩, by have := HLT.out; simp [intOf]; omega⟩
      | true =>
        have HE : Hid (idxF p L = j) := idxF_at hlt hv HS.out
        rw [hv] at hcl
        generalize L[j] = x at c0 hcl
        clear HS hlt hc hv
        go_wp2_with fail
        refine hcl.mono ?_
        clear hcl
        rintro e w2 ⟨rfl, rfl⟩
        go_wp2
        go_ret
        exact ⟨by rw [HE.out]; rfl, rfl⟩
    · obtain rfl : j = L.length := by omega
      have HE : Hid (idxF p L = -1) := idxF_no fun i hi => HS.out i hi hi
      clear HS
      go_wp2
      go_ret
      exact ⟨by rw [HE.out]; rfl, rfl⟩

set_option maxRecDepth 100000 in
set_option maxHeartbeats 2000000 in
theorem containsF_any (f : Nat) (caps : Array Value) (p : Int → Bool) (hent : ∀ (args : Array Value) (W : World), (callFunc f args).run Tryz.prog W = .ok (.enter f args) W) (L : List Int) (hL : L.length ≤ 8388608) (sv : Value) (n : Nat) (w : World) (h : Ints n w sv L)
    (hp : ∀ x ∈ L, Calls Tryz.prog f (#[.int .i64 x] ++ caps) w fun e w' => e = .returned (.bool (p x)) ∧ w' = w) :
    Calls Tryz.prog 25 #[sv, .func (.func f) #[] caps] w fun e w' => e = .returned (.bool (L.any p)) ∧ w' = w := by
  have hi := indexF_any f caps p hent L hL sv n w h hp
  obtain ⟨pp, c, rfl⟩ := h.len
  have HA : Hid (decide (0 ≤ idxF p L) = L.any p) := idxF_any p L
  clear h hp
  generalize idxF p L = k at *
  go_enter Tryz.func25, Tryz.ntmps25
  go_wp2_with fail
  refine hi.mono ?_
  clear hi
  rintro e w2 ⟨rfl, rfl⟩
  go_wp2
  go_ret
  exact ⟨by rw [← HA.out]; rfl, rfl⟩
end Go.Proofs.YthdhimcaojfcnaaGreat
