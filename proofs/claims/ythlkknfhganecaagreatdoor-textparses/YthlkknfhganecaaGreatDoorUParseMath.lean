/-
  Parse by lines: what the program's reader tells, over the list of a text's lines, as the reference goes over them.
-/
import Derived.Test.YthlkknfhganecaaGreatDoorUBackMath
import Derived.Test.YthlkknfhganecaaGreatDoorURefLines
namespace Go.Proofs.YthlkknfhganecaaGreatDoor
open Go Go.Proofs Go.RowKit

/-- One byte more: the lines that are ended, and what stands behind them. -/
def lstep (p : List (List UInt8) × List UInt8) (b : UInt8) : List (List UInt8) × List UInt8 := if b = 10 then (p.1 ++ [p.2], []) else (p.1, p.2 ++ [b])
def lin (l : List UInt8) : List (List UInt8) × List UInt8 := l.foldl lstep ([], [])
theorem lin_gen : ∀ (l : List UInt8) (P : List (List UInt8)) (c : List UInt8), l.foldl lstep (P, c) = (P ++ (l.foldl lstep ([], c)).1, (l.foldl lstep ([], c)).2)
  | [], P, c => by simp
  | b :: l, P, c => by
    rw [List.foldl_cons, List.foldl_cons]
    unfold lstep
    by_cases hb : b = 10
    · rw [if_pos hb, if_pos hb]
      show l.foldl lstep (P ++ [c], []) = (P ++ (l.foldl lstep ([] ++ [c], [])).1, (l.foldl lstep ([] ++ [c], [])).2)
      rw [lin_gen l (P ++ [c]) [], lin_gen l ([] ++ [c]) []]
      simp
    · rw [if_neg hb, if_neg hb]
      exact lin_gen l P (c ++ [b])
theorem lin_no : ∀ {l : List UInt8}, 10 ∉ l → ∀ (c : List UInt8), l.foldl lstep ([], c) = ([], c ++ l)
  | [], _, c => by simp
  | b :: l, h, c => by
    have h1 : (10 : UInt8) ∉ l := fun hc => h (List.mem_cons_of_mem _ hc)
    have h2 : ¬ b = 10 := fun e => h (by rw [e]; exact List.mem_cons_self ..)
    rw [List.foldl_cons]
    unfold lstep
    rw [if_neg h2]
    show l.foldl lstep ([], c ++ [b]) = _
    rw [lin_no h1]
    simp
theorem lin_at {a b : List UInt8} (h : 10 ∉ a) : lin (a ++ 10 :: b) = (a :: (lin b).1, (lin b).2) := by
  unfold lin
  rw [List.foldl_append, lin_no h, List.foldl_cons]
  have e : lstep ([], [] ++ a) 10 = ([a], []) := by simp [lstep]
  rw [e, lin_gen]
  rfl
theorem lin_cases (l : List UInt8) : (lin l = ([], l) ∧ 10 ∉ l) ∨ ∃ a b, l = a ++ 10 :: b ∧ 10 ∉ a ∧ lin l = (a :: (lin b).1, (lin b).2) := by
  rcases first_of_byte 10 l with h | ⟨a, b, rfl, h⟩
  · exact .inl ⟨by unfold lin; rw [lin_no h]; rfl, h⟩
  · exact .inr ⟨a, b, rfl, h, lin_at h⟩
def bytesL (xs : List Int) : List UInt8 := xs.map fun n => UInt8.ofNat n.toNat
theorem strOf_bytes (xs : List Int) : strOfNums xs = ofL (bytesL xs) := rfl
theorem bytesL_len (xs : List Int) : (bytesL xs).length = xs.length := List.length_map _
theorem byte_ten {x : Int} (h : 0 ≤ x ∧ x ≤ 255) : UInt8.ofNat x.toNat = 10 ↔ x = 10 := by
  constructor
  · intro e
    have h1 : (UInt8.ofNat x.toNat).toNat = 10 := by rw [e]; rfl
    rw [UInt8.toNat_ofNat_of_lt' (by show x.toNat < 256; omega)] at h1
    omega
  · intro e
    subst e
    rfl
theorem lnL_lin (xs : List Int) (hx : ∀ x ∈ xs, 0 ≤ x ∧ x ≤ 255) : ∀ i, i ≤ xs.length → (lnL xs i).1 = ((lin ((bytesL xs).take i)).1).map ofL ∧ (lin ((bytesL xs).take i)).2 = ((bytesL xs).drop (lnL xs i).2).take (i - (lnL xs i).2)
  | 0, _ => by simp [lnL, lin]
  | i + 1, h => by
    obtain ⟨h1, h2⟩ := lnL_lin xs hx i (by omega)
    have hle := (lnL_le xs i).1
    have hi : i < xs.length := by omega
    obtain ⟨x, hxi⟩ : ∃ x, xs[i]? = some x := ⟨_, List.getElem?_eq_getElem hi⟩
    have hbx := hx x (List.mem_of_getElem? hxi)
    have hb : (bytesL xs)[i]? = some (UInt8.ofNat x.toNat) := by
      unfold bytesL
      rw [List.getElem?_map, hxi]
      rfl
    have hl : lin ((bytesL xs).take (i + 1)) = lstep (lin ((bytesL xs).take i)) (UInt8.ofNat x.toNat) := by
      unfold lin
      rw [List.take_add_one, hb, List.foldl_append]
      rfl
    rw [hl]
    unfold lstep
    rw [lnL, hxi]
    by_cases h10 : x = 10
    · rw [if_pos ((byte_ten hbx).2 h10), if_pos (by rw [h10])]
      refine ⟨?_, by simp⟩
      rw [List.map_append, h1, h2]
      congr 1
      rw [strOf_bytes]
      unfold bytesL
      rw [List.map_take, List.map_drop]
      rfl
    · rw [if_neg (fun e => h10 ((byte_ten hbx).1 e)), if_neg (fun e => h10 (Option.some.inj e))]
      refine ⟨h1, ?_⟩
      rw [h2, show i + 1 - (lnL xs i).2 = (i - (lnL xs i).2) + 1 by omega, List.take_add_one, List.getElem?_drop, show (lnL xs i).2 + (i - (lnL xs i).2) = i by omega, hb]
      rfl
theorem lines_lin (xs : List Int) (hx : ∀ x ∈ xs, 0 ≤ x ∧ x ≤ 255) : (lnL xs xs.length).1 = (lin (bytesL xs)).1.map ofL ∧ (((lnL xs xs.length).2 : Int) == (xs.length : Int)) = decide ((lin (bytesL xs)).2 = []) := by
  obtain ⟨h1, h2⟩ := lnL_lin xs hx xs.length (Nat.le_refl _)
  have hle := (lnL_le xs xs.length).1
  rw [List.take_of_length_le (by rw [bytesL_len]; exact Nat.le_refl _)] at h1 h2
  refine ⟨h1, ?_⟩
  have hlen : (lin (bytesL xs)).2.length = xs.length - (lnL xs xs.length).2 := by
    rw [h2, List.length_take, List.length_drop, bytesL_len]
    omega
  rw [Bool.eq_iff_iff, beq_iff_eq, decide_eq_true_iff]
  constructor
  · intro e
    exact List.eq_nil_of_length_eq_zero (by omega)
  · intro e
    rw [e] at hlen
    simp at hlen
    omega

/-- The edges of m lines more. -/
def refEdges (n : Int) : Nat → List (List UInt8) → Nat → List Ed → Except (Int × Nat) (List Ed × List (List UInt8) × Nat)
  | 0, ls, k, acc => .ok (acc, ls, k)
  | _ + 1, [], k, _ => .error (3, k + 1)
  | m + 1, a :: ls, k, acc => match numsL a edgeB.data.toList 3 with
    | none => .error (3, k + 1)
    | some x => match edgeL n x with
      | .error e => .error (e, k + 1)
      | .ok e => refEdges n m ls (k + 1) (acc ++ [e])
theorem edges_lines {n : Int} : ∀ (m : Nat) (l : List UInt8) (k : Nat) (acc : List Ed), (∃ p, refEdges n m (lin l).1 k acc = .error p ∧ readEdges n m (ofL l) k acc = .error p) ∨ ∃ es l' k', refEdges n m (lin l).1 k acc = .ok (es, (lin l').1, k') ∧ readEdges n m (ofL l) k acc = .ok (es, ofL l', k') ∧ (lin l').2 = (lin l).2
  | 0, l, k, acc => .inr ⟨acc, l, k, rfl, rfl, rfl⟩
  | m + 1, l, k, acc => by
    rcases lin_cases l with ⟨e, h⟩ | ⟨a, b, rfl, h, e⟩
    · rw [e]
      refine .inl ⟨(3, k + 1), rfl, readEdges_err ?_⟩
      unfold edgeM
      rw [(numbers_no h edgeB 3).1]
    · obtain ⟨h1, h2⟩ := numbers_at (b := b) h edgeB 3 (by omega)
      rw [e]
      show (∃ p, refEdges n (m + 1) (a :: (lin b).1) k acc = _ ∧ _) ∨ ∃ es l' k', refEdges n (m + 1) (a :: (lin b).1) k acc = _ ∧ _ ∧ (lin l').2 = (lin b).2
      unfold refEdges
      cases hn : numsL a edgeB.data.toList 3 with
      | none =>
        refine .inl ⟨(3, k + 1), rfl, readEdges_err ?_⟩
        unfold edgeM
        rw [h1, hn]
      | some x =>
        cases he : edgeL n x with
        | error y =>
          refine .inl ⟨(y, k + 1), by simp only [he], readEdges_err ?_⟩
          unfold edgeM
          rw [h1, hn]
          exact he
        | ok y =>
          have hr : edgeM n (ofL (a ++ 10 :: b)) = .ok y := by
            unfold edgeM
            rw [h1, hn]
            exact he
          simp only [he]
          rw [readEdges_ok hr, h2]
          exact edges_lines m b (k + 1) (acc ++ [y])
def tailP (n : Int) (tl : List UInt8) : Except (Int × Nat) (List Ed × List (List UInt8) × Nat) → Parsed
  | .error (x, k) => ⟨0, [], some (lineB, (k : Int), x)⟩
  | .ok (es, ls, k) => if ls = [] ∧ tl = [] then ⟨makeN n es, makeL n es, if makeK n es = 0 then none else some (textB, 0, makeK n es)⟩ else ⟨0, [], some (lineB, ((k + 1 : Nat) : Int), 3)⟩
def headP2 (tl : List UInt8) (ls : List (List UInt8)) : Except Int (Int × Int) → Parsed
  | .error x => ⟨0, [], some (lineB, 1, x)⟩
  | .ok (n, m) => tailP n tl (refEdges n m.toNat ls 1 [])
def linesP (tl : List UInt8) : List (List UInt8) → Parsed
  | [] => ⟨0, [], some (lineB, 1, 3)⟩
  | a :: ls => match numsL a graphB.data.toList 2 with
    | none => ⟨0, [], some (lineB, 1, 3)⟩
    | some h => headP2 tl ls (headL h)
theorem end_nil (l : List UInt8) : endM (ofL l) = true ↔ (lin l).1 = [] ∧ (lin l).2 = [] := by
  unfold endM
  rw [ByteArray.toList_eq, ofL_data]
  rcases lin_cases l with ⟨e, h⟩ | ⟨a, b, rfl, h, e⟩
  · rw [e]
    simp
  · rw [e]
    simp
theorem parse_lines (xs : List Int) (hl : xs.length ≤ 134217728) : parseM xs = linesP (lin (bytesL xs)).2 (lin (bytesL xs)).1 := by
  unfold parseM
  rw [if_neg (by omega), strOf_bytes]
  generalize bytesL xs = l
  rcases lin_cases l with ⟨e, h⟩ | ⟨a, b, rfl, h, e⟩
  · have h1 : headM (ofL l) = .error 3 := by
      unfold headM
      rw [(numbers_no h graphB 2).1]
    unfold readM
    rw [h1, e]
    rfl
  · obtain ⟨h1, h2⟩ := numbers_at (b := b) h graphB 2 (by omega)
    have hL : linesP (lin (a ++ 10 :: b)).2 (lin (a ++ 10 :: b)).1 = linesP (lin b).2 (a :: (lin b).1) := by rw [e]
    rw [hL]
    cases hn : numsL a graphB.data.toList 2 with
    | none =>
      have h3 : headM (ofL (a ++ 10 :: b)) = .error 3 := by
        unfold headM
        rw [h1, hn]
      have h4 : linesP (lin b).2 (a :: (lin b).1) = ⟨0, [], some (lineB, 1, 3)⟩ := by simp only [linesP, hn]
      unfold readM
      rw [h3, h4]
      rfl
    | some x =>
      have h3 : headM (ofL (a ++ 10 :: b)) = headL x := by
        unfold headM
        rw [h1, hn]
      have h4 : linesP (lin b).2 (a :: (lin b).1) = headP2 (lin b).2 (lin b).1 (headL x) := by simp only [linesP, hn]
      unfold readM
      rw [h3, h4]
      cases hh : headL x with
      | error y => rfl
      | ok q =>
        obtain ⟨n, m⟩ := q
        have h5 : headP2 (lin b).2 (lin b).1 (.ok (n, m)) = tailP n (lin b).2 (refEdges n m.toNat (lin b).1 1 []) := rfl
        rw [h5, h2]
        dsimp only
        rcases edges_lines (n := n) m.toNat b 1 [] with ⟨p, g1, g2⟩ | ⟨es, l', k', g1, g2, g3⟩
        · rw [g1, g2]
          obtain ⟨x, k⟩ := p
          rfl
        · rw [g1, g2]
          have he := end_nil l'
          rw [g3] at he
          simp only [readTail, tailP]
          by_cases hz : (lin l').1 = [] ∧ (lin b).2 = []
          · rw [if_pos hz, if_pos (he.2 hz)]
          · rw [if_neg hz, if_neg (fun h => hz (he.1 h))]
end Go.Proofs.YthlkknfhganecaaGreatDoor
