/-
  Lists of bytes, cut at a byte: what strings.Cut and strings.SplitN tell, over lists.
-/
import Derived.Lib.Split
import Derived.Lib.IndexBytes
namespace Go.Proofs.YthlkknfhganecaaGreatDoor
open Go Go.Proofs

theorem idx_none {c : UInt8} : ∀ {l : List UInt8}, c ∉ l → Lib.indexByte l c = -1
  | [], _ => rfl
  | b :: l, h => by
    have h1 : c ∉ l := fun hc => h (List.mem_cons_of_mem _ hc)
    have h2 : (b == c) = false := by
      rw [beq_eq_false_iff_ne]
      intro e
      exact h (by rw [e]; exact List.mem_cons_self ..)
    unfold Lib.indexByte
    rw [h2, idx_none h1]
    rfl
theorem idx_some {c : UInt8} : ∀ {a b : List UInt8}, c ∉ a → Lib.indexByte (a ++ c :: b) c = (a.length : Int)
  | [], b, _ => by
    show Lib.indexByte (c :: b) c = _
    unfold Lib.indexByte
    rw [if_pos (beq_self_eq_true c)]
    rfl
  | x :: a, b, h => by
    have h1 : c ∉ a := fun hc => h (List.mem_cons_of_mem _ hc)
    have h2 : (x == c) = false := by
      rw [beq_eq_false_iff_ne]
      intro e
      exact h (by rw [e]; exact List.mem_cons_self ..)
    have h3 := idx_some (a := a) (b := b) h1
    rw [List.cons_append]
    unfold Lib.indexByte
    rw [h2, h3]
    have h4 : ((a.length : Int) == -1) = false := by
      rw [beq_eq_false_iff_ne]; omega
    rw [h4]
    simp
theorem first_of_byte (c : UInt8) : ∀ (l : List UInt8), c ∉ l ∨ ∃ a b, l = a ++ c :: b ∧ c ∉ a
  | [] => .inl (by simp)
  | x :: l => by
    by_cases hx : c = x
    · exact .inr ⟨[], l, by rw [hx]; rfl, by simp⟩
    · rcases first_of_byte c l with h | ⟨a, b, rfl, h⟩
      · exact .inl (by simp [hx, h])
      · exact .inr ⟨x :: a, b, rfl, by simp [hx, h]⟩
theorem cut_no {c : UInt8} {l : List UInt8} (h : c ∉ l) : Lib.cut l [c] = (l, [], false) := by
  unfold Lib.cut
  rw [Lib.index_one, idx_none h, if_neg (by decide)]
theorem cut_at {c : UInt8} {a b : List UInt8} (h : c ∉ a) : Lib.cut (a ++ c :: b) [c] = (a, b, true) := by
  unfold Lib.cut
  rw [Lib.index_one, idx_some h, if_pos (by omega)]
  simp
theorem splitK_no {c : UInt8} {l : List UInt8} (k : Nat) (h : c ∉ l) : Lib.splitK [c] 0 k l = [l] := by
  cases k with
  | zero => rfl
  | succ k =>
    unfold Lib.splitK
    rw [Lib.index_one, idx_none h]
    rfl
theorem splitK_at {c : UInt8} {a b : List UInt8} (k : Nat) (h : c ∉ a) : Lib.splitK [c] 0 (k + 1) (a ++ c :: b) = a :: Lib.splitK [c] 0 k b := by
  rw [Lib.splitK, Lib.index_one, idx_some h]
  have h4 : ((a.length : Int) == -1) = false := by
    rw [beq_eq_false_iff_ne]; omega
  rw [h4]
  simp

/-- All words of a line: those between its blanks. -/
def wordsL : List UInt8 → List (List UInt8)
  | [] => [[]]
  | b :: l => if b = 32 then [] :: wordsL l else match wordsL l with
    | [] => [[b]]
    | w :: ws => (b :: w) :: ws
theorem wordsL_ne : ∀ (l : List UInt8), wordsL l ≠ []
  | [] => by simp [wordsL]
  | b :: l => by
    unfold wordsL
    split
    · simp
    · split <;> simp
theorem wordsL_no : ∀ {l : List UInt8}, 32 ∉ l → wordsL l = [l]
  | [], _ => rfl
  | b :: l, h => by
    have h1 : (32 : UInt8) ∉ l := fun hc => h (List.mem_cons_of_mem _ hc)
    have h2 : ¬ b = 32 := fun e => h (by rw [e]; exact List.mem_cons_self ..)
    rw [wordsL, if_neg h2, wordsL_no h1]
theorem wordsL_at : ∀ {a b : List UInt8}, 32 ∉ a → wordsL (a ++ 32 :: b) = a :: wordsL b
  | [], b, _ => by
    show wordsL (32 :: b) = _
    rw [wordsL, if_pos rfl]
  | x :: a, b, h => by
    have h1 : (32 : UInt8) ∉ a := fun hc => h (List.mem_cons_of_mem _ hc)
    have h2 : ¬ x = 32 := fun e => h (by rw [e]; exact List.mem_cons_self ..)
    rw [List.cons_append, wordsL, if_neg h2, wordsL_at h1]
theorem wordsL_len : ∀ (l : List UInt8), (wordsL l).length ≤ l.length + 1
  | [] => by simp [wordsL]
  | b :: l => by
    have := wordsL_len l
    unfold wordsL
    split
    · simpa using this
    · split
      · simp
      · rename_i h
        rw [h] at this
        simp at this ⊢
        omega
theorem wordsL_free : ∀ (l : List UInt8), ∀ x ∈ wordsL l, (32 : UInt8) ∉ x ∧ x.length ≤ l.length
  | [], x, hx => by
    have : x = [] := by simpa [wordsL] using hx
    subst this
    simp
  | b :: l, x, hx => by
    have ih := wordsL_free l
    unfold wordsL at hx
    split at hx
    · rcases List.mem_cons.1 hx with rfl | hx
      · simp
      · have := ih x hx
        exact ⟨this.1, by simp; omega⟩
    · rename_i hb
      split at hx
      · rename_i h
        exact absurd h (wordsL_ne l)
      · rename_i w ws h
        rcases List.mem_cons.1 hx with rfl | hx
        · have := ih w (by rw [h]; exact List.mem_cons_self ..)
          exact ⟨by simp only [List.mem_cons, not_or]; exact ⟨fun e => hb e.symm, this.1⟩, by simpa using this.2⟩
        · have := ih x (by rw [h]; exact List.mem_cons_of_mem _ hx)
          exact ⟨this.1, by simp; omega⟩
/-- Cut at so many blanks at most: all words, or one that has a blank in it. -/
theorem split_words : ∀ (k : Nat) (l : List UInt8), ((wordsL l).length ≤ k + 1 → Lib.splitK [32] 0 k l = wordsL l) ∧ (k + 1 < (wordsL l).length → (Lib.splitK [32] 0 k l).length = k + 1 ∧ ∃ x, (Lib.splitK [32] 0 k l)[k]? = some x ∧ 32 ∈ x)
  | 0, l => by
    rcases first_of_byte 32 l with h | ⟨a, b, rfl, h⟩
    · rw [wordsL_no h]
      exact ⟨fun _ => rfl, fun h => by simp at h⟩
    · rw [wordsL_at h]
      have := List.length_pos_iff.2 (wordsL_ne b)
      refine ⟨fun h => by simp only [List.length_cons] at h; omega, fun _ => ⟨rfl, _, rfl, by simp⟩⟩
  | k + 1, l => by
    rcases first_of_byte 32 l with h | ⟨a, b, rfl, h⟩
    · rw [wordsL_no h, splitK_no _ h]
      exact ⟨fun _ => rfl, fun h => by simp at h⟩
    · obtain ⟨i1, i2⟩ := split_words k b
      rw [wordsL_at h, splitK_at _ h]
      refine ⟨fun h => by rw [i1 (by simpa using h)], fun h => ?_⟩
      obtain ⟨j1, x, j2, j3⟩ := i2 (by simpa using h)
      exact ⟨by simp [j1], x, by simpa using j2, j3⟩
end Go.Proofs.YthlkknfhganecaaGreatDoor
