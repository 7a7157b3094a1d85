/-
  Slices of one-cell elements (numbers, truth values), as lists.
-/
import Derived.Test.YtdadpfkoocpfaaaGRight
import Derived.Test.YtdadpfkoocpfaaaGSort
namespace Go.Proofs.Ytdadpfkoocpfaaa
open Go Go.Proofs Go.RowKit

def Vals {α : Type} (enc : α → Value) (n : Nat) (W : World) (sv : Value) (l : List α) : Prop :=
  ((∃ p c, sv = .slice p 0 c) ∧ l = []) ∨ ∃ b off cap, sv = .slice (some ⟨b, off, none⟩) l.length cap ∧ b < n ∧ l.length ≤ cap ∧ ∀ j x, l[j]? = some x → W.cell? ⟨b, off + j, none⟩ = some (enc x)
abbrev Ints (n : Nat) (W : World) (sv : Value) (l : List Int) : Prop := Vals (Value.int .i64) n W sv l
abbrev Bools (n : Nat) (W : World) (sv : Value) (l : List Bool) : Prop := Vals Value.bool n W sv l
section
variable {α : Type} {enc : α → Value}
theorem Vals.below {n : Nat} {W W' : World} {sv : Value} {l : List α} (h : Vals enc n W sv l) (hb : Below n W W') : Vals enc n W' sv l := by
  rcases h with h | ⟨b, off, cap, h1, h2, h3, h4⟩
  · exact .inl h
  · exact .inr ⟨b, off, cap, h1, h2, h3, fun j x hx => (hb.cell (p := ⟨b, _, none⟩) h2).trans (h4 j x hx)⟩
theorem Vals.mono {n m : Nat} {W : World} {sv : Value} {l : List α} (h : Vals enc n W sv l) (hb : n ≤ m) : Vals enc m W sv l := by
  rcases h with h | ⟨b, off, cap, h1, h2, h3, h4⟩
  · exact .inl h
  · exact .inr ⟨b, off, cap, h1, Nat.lt_of_lt_of_le h2 hb, h3, h4⟩
theorem Vals.go {W W' : World} {sv : Value} {l : List α} (h : Vals enc W.heap.size W sv l) (hb : Below W.heap.size W W') : Vals enc W'.heap.size W' sv l := (h.below hb).mono hb.size
theorem Vals.len {n : Nat} {W : World} {sv : Value} {l : List α} (h : Vals enc n W sv l) : ∃ p c, sv = .slice p l.length c := by
  rcases h with ⟨⟨p, c, rfl⟩, rfl⟩ | ⟨b, off, cap, rfl, _⟩ <;> exact ⟨_, _, rfl⟩
theorem Vals.nil (n : Nat) (W : World) (p : Option Addr) (c : Nat) : Vals enc n W (.slice p 0 c) [] := .inl ⟨⟨_, _, rfl⟩, rfl⟩
theorem Vals.open {w : World} {p : Option Addr} {c : Nat} {l : List α} {n : Nat} (h : Vals enc n w (.slice p l.length c) l) {j : Nat} (hj : j < l.length) :
    ∃ b off, p = some ⟨b, off, none⟩ ∧ b < n ∧ l.length ≤ c ∧ ∀ W', Below n w W' → ∀ i (hi : i < l.length), W'.cell? ⟨b, off + i, none⟩ = some (enc l[i]) := by
  rcases h with ⟨⟨p, c, h1⟩, rfl⟩ | ⟨b, off, cap, h1, h2, h3, h4⟩
  · simp at hj
  · simp only [Value.slice.injEq] at h1
    obtain ⟨rfl, _, rfl⟩ := h1
    exact ⟨b, off, rfl, h2, h3, fun W' hW i hi => (hW.cell (p := ⟨b, _, none⟩) h2).trans (h4 i l[i] (List.getElem?_eq_getElem hi))⟩
end

end Go.Proofs.Ytdadpfkoocpfaaa

namespace Go.Proofs.Ytdadpfkoocpfaaa
open Go Go.Proofs Go.RowKit

theorem take_snoc {α : Type} {a : List α} {j : Nat} (h : j < a.length) : a.take (j + 1) = a.take j ++ [a[j]] := by rw [List.take_add_one, List.getElem?_eq_getElem h]; rfl
def inB (a : List Int) (x : Int) : Bool := decide (x ∈ a)
theorem inB_true {a : List Int} {x : Int} : inB a x = true ↔ x ∈ a := by simp [inB]
theorem inB_false {a : List Int} {x : Int} : inB a x = false ↔ x ∉ a := by simp [inB]
theorem inB_snoc (a : List Int) (y x : Int) : inB (a ++ [y]) x = (inB a x || decide (x = y)) := by simp [inB]
set_option maxRecDepth 100000 in
theorem has_any (a : List Int) (ha : a.length ≤ 4194304) (x : Int) (sa : Value) (m : Nat) (w : World) (hA : Ints m w sa a) :
    Calls Try.prog 43 #[sa, .int .i64 x] w fun r w' => r = .returned (.bool (inB a x)) ∧ w' = w := by
  obtain ⟨p, c, rfl⟩ := hA.len
  go_enter Try.func43, Try.ntmps43
  go_wp2
  go_loop [5] (fun i => ∃ j : Nat, j ≤ a.length ∧ i = .int .i64 j ∧ Hid (inB (a.take j) x = false)) (fun i => a.length - (intOf i).toNat)
  case atStart => exact ⟨0, Nat.zero_le _, rfl, inB_false.2 (by simp)⟩
  case round =>
    obtain ⟨j, hj, rfl, hr⟩ := hrel
    by_cases hlt : j < a.length
    · obtain ⟨b, off, rfl, hbb, hcap, hc⟩ := hA.open hlt
      have c0 := hc w (Below.refl _ _) j hlt
      have hjl : (j : Int) < (a.length : Int) := by omega
      by_cases he : a[j] = x
      · have he' : (a[j] == x) = true := by simpa using he
        have HE : Hid (inB a x = true) := by
          unfold Hid; rw [inB_true, ← he]; exact List.getElem_mem hlt
        clear hc hr he
        go_wp2
        go_ret
        exact ⟨by rw [HE.out]; rfl, rfl⟩
      · have he' : (a[j] == x) = false := by simpa using he
        have HS : Hid (inB (a.take (j + 1)) x = false) := by
          unfold Hid
          rw [take_snoc hlt, inB_snoc, hr.out]
          simp
          exact fun h => he h.symm
        clear hc hr he
        go_wp2
        exact ⟨⟨j + 1, by omega, by go_num, HS⟩, by simp [intOf]; omega⟩
    · obtain rfl : j = a.length := by omega
      have HE : Hid (inB a x = false) := by have := hr.out; rwa [List.take_length] at this
      clear hr
      go_wp2
      go_ret
      exact ⟨by rw [HE.out]; rfl, rfl⟩

end Go.Proofs.Ytdadpfkoocpfaaa

namespace Go.Proofs.Ytdadpfkoocpfaaa
open Go Go.Proofs

/-- The edges at those of the first j places that stay. -/
def keepL (l : List Ed) (pred : Nat → Bool) : Nat → List Ed
  | 0 => []
  | j + 1 => keepL l pred j ++ (if pred j = true then l[j]?.toList else [])
theorem keepL_in {l : List Ed} {pred : Nat → Bool} {j : Nat} (h : j < l.length) (hp : pred j = true) : keepL l pred (j + 1) = keepL l pred j ++ [l[j]] := by
  rw [keepL, if_pos hp, List.getElem?_eq_getElem h]; rfl
theorem keepL_out {l : List Ed} {pred : Nat → Bool} {j : Nat} (hp : pred j = false) : keepL l pred (j + 1) = keepL l pred j := by
  rw [keepL, hp]; simp
theorem keepL_len (l : List Ed) (pred : Nat → Bool) : ∀ j, (keepL l pred j).length ≤ j
  | 0 => Nat.le_refl _
  | j + 1 => by
    rw [keepL, List.length_append]
    have := keepL_len l pred j
    split
    · cases l[j]? <;> simp <;> omega
    · simp; omega

def keptB (kp : List Bool) (v : Int) : Bool := decide (v < (kp.length : Int)) && kp[v.toNat]?.getD false
def onlyP (l : List Ed) (kp : List Bool) (i : Nat) : Bool := keptB kp (l[i]?.getD (0, 0, 0)).1 && keptB kp (l[i]?.getD (0, 0, 0)).2.1
theorem onlyP_at {l : List Ed} {kp : List Bool} {i : Nat} (h : i < l.length) : onlyP l kp i = (keptB kp l[i].1 && keptB kp l[i].2.1) := by simp [onlyP, h]
def lessP (a : List Int) (i : Nat) : Bool := !inB a (i : Int)
end Go.Proofs.Ytdadpfkoocpfaaa
