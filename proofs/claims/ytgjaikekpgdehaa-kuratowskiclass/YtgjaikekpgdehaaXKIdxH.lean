/-
  slices.ContainsFunc at lists and at pairs, of any predicate that leaves what there was as it was.
-/
import Derived.Test.YtgjaikekpgdehaaXKTwo
namespace Go.Proofs.Ytgjaikekpgdehaa
open Go Go.Proofs Go.RowKit

/-- The first place of which p holds, or -1. -/
def idxQ {α : Type} (p : α → Bool) (L : List α) : Int := match L.findIdx? p with
  | some i => i
  | none => -1
theorem idxQ_at {α : Type} {p : α → Bool} {L : List α} {j : Nat} (hj : j < L.length) (h : p L[j] = true) (hno : ∀ (i : Nat) (h1 : i < L.length), i < j → p L[i] = false) : idxQ p L = j := by
  unfold idxQ
  have : L.findIdx? p = some j := by
    rw [List.findIdx?_eq_some_iff_getElem]
    exact ⟨hj, h, fun i hi => by rw [hno i (by omega) hi]; simp⟩
  rw [this]
theorem idxQ_no {α : Type} {p : α → Bool} {L : List α} (hno : ∀ (i : Nat) (h1 : i < L.length), p L[i] = false) : idxQ p L = -1 := by
  unfold idxQ
  have : L.findIdx? p = none := by
    rw [List.findIdx?_eq_none_iff]
    intro x hx
    obtain ⟨i, hi, rfl⟩ := List.getElem_of_mem hx
    exact hno i hi
  rw [this]
theorem idxQ_any {α : Type} (p : α → Bool) (L : List α) : decide (0 ≤ idxQ p L) = L.any p := by
  unfold idxQ
  cases h : L.findIdx? p with
  | none =>
    rw [List.findIdx?_eq_none_iff] at h
    have : L.any p = false := by rw [List.any_eq_false]; intro x hx; rw [h x hx]; simp
    rw [this]
    rfl
  | some i =>
    have h1 := h
    rw [List.findIdx?_eq_some_iff_getElem] at h1
    obtain ⟨hi, hp, _⟩ := h1
    have : L.any p = true := by rw [List.any_eq_true]; exact ⟨L[i], List.getElem_mem hi, hp⟩
    rw [this]
    simp

set_option maxRecDepth 100000 in
set_option maxHeartbeats 2000000 in
theorem indexH_any (f : Nat) (caps : Array Value) (p : List Int → Bool) (hent : ∀ (args : Array Value) (W : World), (callFunc f args).run Try.prog W = .ok (.enter f args) W) (L : List (List Int)) (hL : L.length ≤ 2000000000000) (sv : Value) (w : World) (h : Lsts w.heap.size w sv L)
    (hp : ∀ x ∈ L, ∀ sx W, Below w.heap.size w W → Ints w.heap.size W sx x → Calls Try.prog f (#[sx] ++ caps) W fun e w' => e = .returned (.bool (p x)) ∧ Below W.heap.size W w') :
    Calls Try.prog 54 #[sv, .func (.func f) #[] caps] w fun e w' => e = .returned (.int .i64 (idxQ p L)) ∧ Below w.heap.size w w' := by
  obtain ⟨pp, c, rfl⟩ := h.len
  have HI : Hid (Lsts w.heap.size w (.slice pp L.length c) L) := h
  have HP : Hid (∀ x ∈ L, ∀ sx W, Below w.heap.size w W → Ints w.heap.size W sx x → Calls Try.prog f (#[sx] ++ caps) W fun e w' => e = .returned (.bool (p x)) ∧ Below W.heap.size W w') := hp
  clear h hp
  go_enter Try.func54, Try.ntmps54
  go_wp2
  go_loopw [8] (fun iv wr => ∃ j : Nat, j ≤ L.length ∧ iv = .int .i64 j ∧ Hid (∀ (i : Nat) (h1 : i < L.length), i < j → p L[i] = false) ∧ Below w.heap.size w wr) (fun i _ => L.length - (intOf i).toNat)
  case atStart => exact ⟨0, Nat.zero_le _, rfl, fun i _ h => by omega, Below.refl _ _⟩
  case round =>
    obtain ⟨j, hj, rfl, HS, hb⟩ := hrel
    by_cases hlt : j < L.length
    · have hjl : (j : Int) < (L.length : Int) := by omega
      obtain ⟨b, off, rfl, hbb, hcap, px, cx, hIx, c0⟩ := Lsts.cellAt HI.out hlt
      replace c0 := (hb.cell (p := ⟨b, off + j, none⟩) hbb).trans c0
      have hcl := HP.out L[j] (List.getElem_mem hlt) _ wr hb (hIx.below hb)
      clear hIx
      cases hv : p L[j] with
      | false =>
        have HS2 : Hid (∀ (i : Nat) (h1 : i < L.length), i < j + 1 → p L[i] = false) := fun i h1 h => by
          by_cases e : i = j
          · subst e; exact hv
          · exact HS.out i h1 (by omega)
        have HLT : Hid (j < L.length) := hlt
        rw [hv] at hcl
        generalize L[j] = x at c0 hcl
        clear HS hlt hv
        go_wp2_with fail
        refine hcl.mono ?_
        clear hcl
        rintro e w2 ⟨rfl, hb2⟩
        have HB2 : Hid (Below w.heap.size w w2) := hb.trans (hb2.mono hb.size)
        clear hb hb2
        go_wp2
        exact ⟨⟨j + 1, HLT.out, by go_num, HS2.out, HB2.out⟩, by have := HLT.out; simp [intOf]; omega⟩
      | true =>
        have HE : Hid (idxQ p L = j) := idxQ_at hlt hv HS.out
        rw [hv] at hcl
        generalize L[j] = x at c0 hcl
        clear HS hlt hv
        go_wp2_with fail
        refine hcl.mono ?_
        clear hcl
        rintro e w2 ⟨rfl, hb2⟩
        have HB2 : Hid (Below w.heap.size w w2) := hb.trans (hb2.mono hb.size)
        clear hb hb2
        go_wp2
        go_ret
        exact ⟨by rw [HE.out]; rfl, HB2.out⟩
    · obtain rfl : j = L.length := by omega
      have HE : Hid (idxQ p L = -1) := idxQ_no fun i hi => HS.out i hi hi
      clear HS
      go_wp2
      go_ret
      exact ⟨by rw [HE.out]; rfl, hb⟩

set_option maxRecDepth 100000 in
set_option maxHeartbeats 2000000 in
theorem containsH_any (f : Nat) (caps : Array Value) (p : List Int → Bool) (hent : ∀ (args : Array Value) (W : World), (callFunc f args).run Try.prog W = .ok (.enter f args) W) (L : List (List Int)) (hL : L.length ≤ 2000000000000) (sv : Value) (w : World) (h : Lsts w.heap.size w sv L)
    (hp : ∀ x ∈ L, ∀ sx W, Below w.heap.size w W → Ints w.heap.size W sx x → Calls Try.prog f (#[sx] ++ caps) W fun e w' => e = .returned (.bool (p x)) ∧ Below W.heap.size W w') :
    Calls Try.prog 37 #[sv, .func (.func f) #[] caps] w fun e w' => e = .returned (.bool (L.any p)) ∧ Below w.heap.size w w' := by
  have hi := indexH_any f caps p hent L hL sv w h hp
  obtain ⟨pp, c, rfl⟩ := h.len
  have HA : Hid (decide (0 ≤ idxQ p L) = L.any p) := idxQ_any p L
  clear h hp
  generalize idxQ p L = k at *
  go_enter Try.func37, Try.ntmps37
  go_wp2_with fail
  refine hi.mono ?_
  clear hi
  rintro e w2 ⟨rfl, hb2⟩
  go_wp2
  go_ret
  exact ⟨by rw [← HA.out]; rfl, hb2⟩

set_option maxRecDepth 100000 in
set_option maxHeartbeats 2000000 in
theorem indexQ_any (f : Nat) (caps : Array Value) (p : Int × Int → Bool) (hent : ∀ (args : Array Value) (W : World), (callFunc f args).run Try.prog W = .ok (.enter f args) W) (L : List (Int × Int)) (hL : L.length ≤ 2000000000000) (sv : Value) (w : World) (h : Prs w.heap.size w sv L)
    (hp : ∀ x ∈ L, ∀ W, Below w.heap.size w W → Calls Try.prog f (#[encP x] ++ caps) W fun e w' => e = .returned (.bool (p x)) ∧ Below W.heap.size W w') :
    Calls Try.prog 69 #[sv, .func (.func f) #[] caps] w fun e w' => e = .returned (.int .i64 (idxQ p L)) ∧ Below w.heap.size w w' := by
  obtain ⟨pp, c, rfl⟩ := h.len
  have HI : Hid (Prs w.heap.size w (.slice pp L.length c) L) := h
  have HP : Hid (∀ x ∈ L, ∀ W, Below w.heap.size w W → Calls Try.prog f (#[encP x] ++ caps) W fun e w' => e = .returned (.bool (p x)) ∧ Below W.heap.size W w') := hp
  clear h hp
  go_enter Try.func69, Try.ntmps69
  go_wp2
  go_loopw [8] (fun iv wr => ∃ j : Nat, j ≤ L.length ∧ iv = .int .i64 j ∧ Hid (∀ (i : Nat) (h1 : i < L.length), i < j → p L[i] = false) ∧ Below w.heap.size w wr) (fun i _ => L.length - (intOf i).toNat)
  case atStart => exact ⟨0, Nat.zero_le _, rfl, fun i _ h => by omega, Below.refl _ _⟩
  case round =>
    obtain ⟨j, hj, rfl, HS, hb⟩ := hrel
    by_cases hlt : j < L.length
    · have hjl : (j : Int) < (L.length : Int) := by omega
      obtain ⟨b, off, rfl, hbb, hcap, c0, c1⟩ := Prs.cellAt HI.out hlt
      replace c0 := (hb.cell (p := ⟨b, off + j * 2, none⟩) hbb).trans c0
      replace c1 := (hb.cell (p := ⟨b, off + j * 2 + 1, none⟩) hbb).trans c1
      have hcl := HP.out L[j] (List.getElem_mem hlt) wr hb
      unfold encP at hcl
      cases hv : p L[j] with
      | false =>
        have HS2 : Hid (∀ (i : Nat) (h1 : i < L.length), i < j + 1 → p L[i] = false) := fun i h1 h => by
          by_cases e : i = j
          · subst e; exact hv
          · exact HS.out i h1 (by omega)
        have HLT : Hid (j < L.length) := hlt
        rw [hv] at hcl
        generalize L[j] = x at c0 c1 hcl
        clear HS hlt hv
        go_wp2_with fail
        refine hcl.mono ?_
        clear hcl
        rintro e w2 ⟨rfl, hb2⟩
        have HB2 : Hid (Below w.heap.size w w2) := hb.trans (hb2.mono hb.size)
        clear hb hb2
        go_wp2
        exact ⟨⟨j + 1, HLT.out, by go_num, HS2.out, HB2.out⟩, by have := HLT.out; simp [intOf]; omega⟩
      | true =>
        have HE : Hid (idxQ p L = j) := idxQ_at hlt hv HS.out
        rw [hv] at hcl
        generalize L[j] = x at c0 c1 hcl
        clear HS hlt hv
        go_wp2_with fail
        refine hcl.mono ?_
        clear hcl
        rintro e w2 ⟨rfl, hb2⟩
        have HB2 : Hid (Below w.heap.size w w2) := hb.trans (hb2.mono hb.size)
        clear hb hb2
        go_wp2
        go_ret
        exact ⟨by rw [HE.out]; rfl, HB2.out⟩
    · obtain rfl : j = L.length := by omega
      have HE : Hid (idxQ p L = -1) := idxQ_no fun i hi => HS.out i hi hi
      clear HS
      go_wp2
      go_ret
      exact ⟨by rw [HE.out]; rfl, hb⟩

set_option maxRecDepth 100000 in
set_option maxHeartbeats 2000000 in
theorem containsQ_any (f : Nat) (caps : Array Value) (p : Int × Int → Bool) (hent : ∀ (args : Array Value) (W : World), (callFunc f args).run Try.prog W = .ok (.enter f args) W) (L : List (Int × Int)) (hL : L.length ≤ 2000000000000) (sv : Value) (w : World) (h : Prs w.heap.size w sv L)
    (hp : ∀ x ∈ L, ∀ W, Below w.heap.size w W → Calls Try.prog f (#[encP x] ++ caps) W fun e w' => e = .returned (.bool (p x)) ∧ Below W.heap.size W w') :
    Calls Try.prog 62 #[sv, .func (.func f) #[] caps] w fun e w' => e = .returned (.bool (L.any p)) ∧ Below w.heap.size w w' := by
  have hi := indexQ_any f caps p hent L hL sv w h hp
  obtain ⟨pp, c, rfl⟩ := h.len
  have HA : Hid (decide (0 ≤ idxQ p L) = L.any p) := idxQ_any p L
  clear h hp
  generalize idxQ p L = k at *
  go_enter Try.func62, Try.ntmps62
  go_wp2_with fail
  refine hi.mono ?_
  clear hi
  rintro e w2 ⟨rfl, hb2⟩
  go_wp2
  go_ret
  exact ⟨by rw [← HA.out]; rfl, hb2⟩
end Go.Proofs.Ytgjaikekpgdehaa
