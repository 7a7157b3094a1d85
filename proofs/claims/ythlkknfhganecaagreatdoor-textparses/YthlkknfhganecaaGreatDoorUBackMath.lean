/-
  What is printed is parsed as it was: the mathematics, over lists of bytes.
-/
import Derived.Test.YthlkknfhganecaaGreatDoorUNumMath
import Derived.Test.YthlkknfhganecaaGreatDoorUWords
import Derived.Test.YthlkknfhganecaaGreatDoorUParse
import Derived.Test.YthlkknfhganecaaGreatDoorUPrint
namespace Go.Proofs.YthlkknfhganecaaGreatDoor
open Go Go.Proofs Go.RowKit

def ofL (l : List UInt8) : ByteArray := ⟨l.toArray⟩
theorem ofL_data (l : List UInt8) : (ofL l).data.toList = l := rfl
theorem ofL_size (l : List UInt8) : (ofL l).size = l.length := by simp [ofL, ByteArray.size]
theorem of_data (s : ByteArray) : ofL s.data.toList = s := by
  cases s
  simp [ofL]
theorem strOf_map (l : List UInt8) : strOfNums (l.map fun b => (b.toNat : Int)) = ofL l := by
  unfold strOfNums ofL
  rw [List.map_map]
  congr 2
  have : ((fun n : Int => UInt8.ofNat n.toNat) ∘ fun b : UInt8 => (b.toNat : Int)) = id := by
    funext b
    simp
  rw [this, List.map_id]

/-- The numbers of a line, over lists: its first word is this one, so many words behind it, each a number. -/
def numsL (line word : List UInt8) (c : Nat) : Option (List Int) := if (wordsL line).length = c + 1 ∧ (wordsL line)[0]? = some word then ((wordsL line).drop 1).mapM refO else none
theorem mapM_ref : ∀ (F : List ByteArray), F.mapM numO = (F.map (·.data.toList)).mapM refO
  | [] => rfl
  | x :: F => by rw [List.map_cons, List.mapM_cons, List.mapM_cons, numO_ref, mapM_ref F]
theorem refO_blank {l : List UInt8} (h : 32 ∈ l) : refO l = none := by
  have h2 : (32 : UInt8) ∈ tailN l := by
    unfold tailN
    split
    · rename_i hn
      cases l with
      | nil => simp at h
      | cons b l =>
        simp only [negB, List.head?_cons, beq_iff_eq, Option.some.injEq] at hn
        subst hn
        rcases List.mem_cons.1 h with h | h
        · exact absurd h (by decide)
        · simpa using h
    · exact h
  have h3 : digB (tailN l) = false := by
    cases hd : digB (tailN l) with
    | false => rfl
    | true =>
      have := (digB_iff.1 hd 32 h2).1
      exact absurd this (by decide)
  unfold refO
  rw [h3]
  simp
theorem mapM_bad : ∀ {L : List (List UInt8)} {j : Nat} {x : List UInt8}, L[j]? = some x → refO x = none → L.mapM refO = none
  | [], j, x, hx, _ => by simp at hx
  | y :: L, 0, x, hx, h => by
    simp only [List.getElem?_cons_zero, Option.some.injEq] at hx
    subst hx
    rw [List.mapM_cons, h]
    rfl
  | y :: L, j + 1, x, hx, h => by
    have := mapM_bad (L := L) (j := j) (by simpa using hx) h
    rw [List.mapM_cons, this]
    cases refO y <;> rfl
theorem numsM_eq (line word : ByteArray) (c : Nat) (hc : 1 ≤ c) : numsM line word c = numsL line.data.toList word.data.toList c := by
  have hk : min (c + 1) (line.size + 1) - 1 = min c line.size := by omega
  have hF : (fieldsN line c).map (·.data.toList) = Lib.splitK [32] 0 (min c line.size) line.data.toList := by
    unfold fieldsN
    rw [Lib.splitB_data, hk]
  have hsz : line.data.toList.length = line.size := Array.length_toList
  have hlen : (fieldsN line c).length = (Lib.splitK [32] 0 (min c line.size) line.data.toList).length := by rw [← hF, List.length_map]
  have hhd : ((fieldsN line c)[0]?.map ByteArray.toList) = (Lib.splitK [32] 0 (min c line.size) line.data.toList)[0]? := by
    rw [← hF, List.getElem?_map]
    congr 1
    funext x
    exact ByteArray.toList_eq x
  have hmm : ((fieldsN line c).drop 1).mapM numO = ((Lib.splitK [32] 0 (min c line.size) line.data.toList).drop 1).mapM refO := by rw [mapM_ref, List.map_drop, hF]
  unfold numsM numsL
  rw [hlen, hhd, hmm, ByteArray.toList_eq]
  generalize line.data.toList = L at *
  obtain ⟨s1, s2⟩ := split_words (min c line.size) L
  by_cases h : (wordsL L).length ≤ min c line.size + 1
  · rw [s1 h]
  · obtain ⟨j1, x, j2, j3⟩ := s2 (by omega)
    have := wordsL_len L
    have hmc : min c line.size = c := by omega
    rw [hmc] at j1 j2 h ⊢
    rw [if_neg (fun e : (wordsL L).length = c + 1 ∧ (wordsL L)[0]? = some word.data.toList => h (by omega))]
    split
    · exact mapM_bad (j := c - 1) (by rw [List.getElem?_drop, show 1 + (c - 1) = c by omega]; exact j2) (refO_blank j3)
    · rfl
theorem numbers_at {a b : List UInt8} (h : 10 ∉ a) (word : ByteArray) (c : Nat) (hc : 1 ≤ c) : numbersM (ofL (a ++ 10 :: b)) word c = numsL a word.data.toList c ∧ lineR (ofL (a ++ 10 :: b)) = ofL b := by
  have hcut : cutN (ofL (a ++ 10 :: b)) = (a, b, true) := cut_at h
  unfold numbersM lineR
  rw [hcut, if_pos rfl, if_pos rfl, numsM_eq _ _ _ hc]
  exact ⟨rfl, rfl⟩
theorem numbers_no {l : List UInt8} (h : 10 ∉ l) (word : ByteArray) (c : Nat) : numbersM (ofL l) word c = none ∧ lineR (ofL l) = ofL l := by
  have hcut : cutN (ofL l) = (l, [], false) := cut_no h
  unfold numbersM lineR
  rw [hcut]
  exact ⟨rfl, rfl⟩
theorem itoa_free (n : Int) : ∀ b ∈ Lib.itoa n, b ≠ 32 ∧ b ≠ 10 := by
  intro b hb
  have hd : ∀ (m : Nat) (b : UInt8), b ∈ Lib.decDigits m → b ≠ 32 ∧ b ≠ 10 := fun m b hb => by
    have := (dec_value m).2 b hb
    refine ⟨fun e => ?_, fun e => ?_⟩ <;> (subst e; exact absurd this.1 (by decide))
  by_cases h : 0 ≤ n
  · rw [itoa_pos h] at hb
    exact hd _ _ hb
  · rw [itoa_neg (by omega)] at hb
    rcases List.mem_cons.1 hb with rfl | hb
    · decide
    · exact hd _ _ hb
theorem words_line : ∀ (ns : List Int) (word : List UInt8), 32 ∉ word → wordsL (word ++ ns.flatMap (fun n => 32 :: Lib.itoa n)) = word :: ns.map Lib.itoa
  | [], word, h => by simpa using wordsL_no h
  | n :: ns, word, h => by
    have ih := words_line ns (Lib.itoa n) (fun hb => (itoa_free n _ hb).1 rfl)
    rw [List.flatMap_cons, List.cons_append, wordsL_at h, ih]
    rfl
theorem mapM_back : ∀ (ns : List Int), (∀ x ∈ ns, In64 x) → (ns.map Lib.itoa).mapM refO = some ns
  | [], _ => rfl
  | n :: ns, h => by
    have ih := mapM_back ns (fun x hx => h x (List.mem_cons_of_mem _ hx))
    have h1 := num_ref (h n (List.mem_cons_self ..)).1 (h n (List.mem_cons_self ..)).2
    rw [List.map_cons, List.mapM_cons, h1, ih]
    rfl
theorem nums_line (word : List UInt8) (hw : 32 ∉ word) (ns : List Int) (h : ∀ x ∈ ns, In64 x) : numsL (word ++ ns.flatMap (fun n => 32 :: Lib.itoa n)) word ns.length = some ns := by
  unfold numsL
  rw [words_line ns word hw, if_pos (by simp)]
  simpa using mapM_back ns h
theorem line_free (word : List UInt8) (hw : 10 ∉ word) (ns : List Int) : 10 ∉ word ++ ns.flatMap (fun n => 32 :: Lib.itoa n) := by
  intro h
  rcases List.mem_append.1 h with h | h
  · exact hw h
  · obtain ⟨n, _, h⟩ := List.mem_flatMap.1 h
    rcases List.mem_cons.1 h with h | h
    · exact absurd h (by decide)
    · exact (itoa_free n _ h).2 rfl
theorem line_back (word : ByteArray) (h1 : 10 ∉ word.data.toList) (h2 : 32 ∉ word.data.toList) (ns : List Int) (h : ∀ x ∈ ns, In64 x) (hn : 1 ≤ ns.length) (R : List UInt8) : numbersM (ofL (lineL word ns ++ R)) word ns.length = some ns ∧ lineR (ofL (lineL word ns ++ R)) = ofL R := by
  have e : lineL word ns ++ R = (word.data.toList ++ ns.flatMap (fun n => 32 :: Lib.itoa n)) ++ 10 :: R := by simp [lineL]
  obtain ⟨a, b⟩ := numbers_at (b := R) (line_free _ h1 ns) word ns.length hn
  rw [e, a, b, nums_line _ h2 ns h]
  exact ⟨rfl, rfl⟩
theorem ok64 {n : Int} (hn : n ≤ 1048576) {e : Ed} (h : okE n e) : In64 e.1 ∧ In64 e.2.1 ∧ In64 e.2.2 := by
  unfold okE at h
  unfold In64
  omega
theorem edge_back {n : Int} (hn : n ≤ 1048576) {e : Ed} (h : okE n e) (R : List UInt8) : edgeM n (ofL (tellE e ++ R)) = .ok e ∧ lineR (ofL (tellE e ++ R)) = ofL R := by
  obtain ⟨i0, i1, i2⟩ := ok64 hn h
  obtain ⟨a, b⟩ := line_back edgeB (by decide) (by decide) [e.1, e.2.1, e.2.2] (by simp [i0, i1, i2]) (by simp) R
  refine ⟨?_, b⟩
  have a' : numbersM (ofL (tellE e ++ R)) edgeB 3 = some [e.1, e.2.1, e.2.2] := a
  unfold edgeM
  rw [a']
  have hk : edgeK n (e.1, e.2.1, e.2.2) = 0 := edge_of h
  show edgeL n [e.1, e.2.1, e.2.2] = _
  unfold edgeL
  exact if_pos hk
theorem edges_back {n : Int} (hn : n ≤ 1048576) (R : List UInt8) : ∀ (l : List Ed) (k : Nat) (acc : List Ed), (∀ e ∈ l, okE n e) → readEdges n l.length (ofL (l.flatMap tellE ++ R)) k acc = .ok (acc ++ l, ofL R, k + l.length)
  | [], k, acc, _ => by simp [readEdges]
  | e :: l, k, acc, h => by
    obtain ⟨a, b⟩ := edge_back hn (h e (List.mem_cons_self ..)) (l.flatMap tellE ++ R)
    rw [List.flatMap_cons, List.append_assoc, List.length_cons, readEdges_ok a, b, edges_back hn R l (k + 1) (acc ++ [e]) (fun x hx => h x (List.mem_cons_of_mem _ hx))]
    simp [Nat.add_assoc, Nat.add_comm 1]
theorem read_back {n : Int} (h0 : 0 ≤ n) (hn : n ≤ 1048576) {l : List Ed} (hl : l.length ≤ 4194304) (h : ∀ e ∈ l, okE n e) : readM (ofL (printL n l)) = .ok (n, l) := by
  have hi : ∀ x ∈ [n, (l.length : Int)], In64 x := by
    intro x hx
    simp at hx
    unfold In64
    omega
  obtain ⟨a, b⟩ := line_back graphB (by decide) (by decide) [n, (l.length : Int)] hi (by simp) (l.flatMap tellE)
  have a' : numbersM (ofL (printL n l)) graphB 2 = some [n, (l.length : Int)] := a
  have b' : lineR (ofL (printL n l)) = ofL (l.flatMap tellE) := b
  have hh : headM (ofL (printL n l)) = .ok (n, (l.length : Int)) := by
    unfold headM
    rw [a']
    show headL [n, (l.length : Int)] = _
    unfold headL
    have e0 : [n, (l.length : Int)].getD 0 0 = n := rfl
    have e1 : [n, (l.length : Int)].getD 1 0 = (l.length : Int) := rfl
    rw [e0, e1, if_neg (by omega), if_neg (by omega)]
  have he := edges_back hn [] l 1 [] h
  rw [List.append_nil] at he
  unfold readM
  rw [hh]
  show readTail n (readEdges n ((l.length : Int)).toNat (lineR (ofL (printL n l))) 1 []) = _
  rw [b', Int.toNat_natCast, he]
  have hend : endM (ofL []) = true := by
    unfold endM
    rw [ByteArray.toList_eq]
    rfl
  show (if endM (ofL []) = true then (Except.ok (n, [] ++ l) : Except (Int × Nat) (Int × List Ed)) else .error (3, 1 + l.length + 1)) = _
  rw [if_pos hend]
  rfl
theorem parse_back {n : Int} (h0 : 0 ≤ n) (hn : n ≤ 1048576) {l : List Ed} (hl : l.length ≤ 1000000) (h : ∀ e ∈ l, okE n e) : parseM ((printL n l).map fun b => (b.toNat : Int)) = ⟨makeN n l, makeL n l, if makeK n l = 0 then none else some (textB, 0, makeK n l)⟩ := by
  have h1 := edges_len l (fun e he => ok64 hn (h e he))
  have h2 := lineL_len graphB [n, (l.length : Int)] (by
    intro x hx
    simp at hx
    unfold In64
    omega)
  have h3 : (printL n l).length ≤ 134217728 := by
    have e1 : graphB.size = 5 := rfl
    have e2 : [n, (l.length : Int)].length = 2 := rfl
    rw [printL, List.length_append, tellH]
    omega
  unfold parseM
  rw [if_neg (by rw [List.length_map]; omega), strOf_map, read_back h0 hn (by omega) h]
theorem make_same {n : Int} {l : List Ed} (h : RightG n l) : makeK n l = 0 ∧ makeN n l = n ∧ makeL n l = l := by
  have e : l.map norm = l := by
    have : l.map norm = l.map id := List.map_congr_left fun e he => norm_id (h.each e he).2
    rw [this, List.map_id]
  obtain ⟨h1, h2⟩ := make_again h (by rw [e]) (fun e he => (h.each e he).1)
  unfold makeN makeL
  rw [if_pos h1, if_pos h1]
  exact ⟨h1, rfl, h2⟩
theorem parse_print {n : Int} {l : List Ed} (h : RightG n l) (hl : l.length ≤ 1000000) : parseM ((printL n l).map fun b => (b.toNat : Int)) = ⟨n, l, none⟩ := by
  obtain ⟨h1, h2, h3⟩ := make_same h
  rw [parse_back h.n0 h.n1 hl (fun e he => (h.each e he).1), h1, h2, h3]
  rfl

theorem line_less {rest : ByteArray} {word : ByteArray} {c : Nat} {ns : List Int} (h : numbersM rest word c = some ns) : (lineR rest).size + 1 ≤ rest.size := by
  rw [← of_data rest] at h ⊢
  generalize rest.data.toList = l at h ⊢
  rcases first_of_byte 10 l with hl | ⟨a, b, rfl, ha⟩
  · rw [(numbers_no hl word c).1] at h
    cases h
  · have hcut : cutN (ofL (a ++ 10 :: b)) = (a, b, true) := cut_at ha
    have : lineR (ofL (a ++ 10 :: b)) = ofL b := by
      unfold lineR
      rw [hcut]
      rfl
    rw [this, ofL_size, ofL_size]
    simp
theorem edges_few {n : Int} : ∀ (m : Nat) (rest : ByteArray) (k : Nat) (acc es : List Ed) (r : ByteArray) (j : Nat), readEdges n m rest k acc = .ok (es, r, j) → es.length ≤ acc.length + rest.size
  | 0, rest, k, acc, es, r, j, h => by
    cases h
    omega
  | m + 1, rest, k, acc, es, r, j, h => by
    rw [readEdges] at h
    split at h
    · cases h
    · rename_i e he
      have h1 := edges_few m _ _ _ _ _ _ h
      have h2 : (lineR rest).size + 1 ≤ rest.size := by
        unfold edgeM at he
        split at he
        · cases he
        · rename_i l hl
          exact line_less hl
      rw [List.length_append, List.length_singleton] at h1
      omega
theorem read_few {text : ByteArray} {n : Int} {es : List Ed} (h : readM text = .ok (n, es)) : es.length ≤ text.size := by
  unfold readM at h
  split at h
  · cases h
  · rename_i n' m _
    generalize hr : readEdges n' m.toNat (lineR text) 1 [] = r at h
    cases r with
    | error p => cases h
    | ok q =>
      obtain ⟨es', rest, j⟩ := q
      have h1 := edges_few _ _ _ _ _ _ _ hr
      have h2 := lineR_le text
      have h3 : (if endM rest = true then (Except.ok (n', es') : Except (Int × Nat) (Int × List Ed)) else .error (3, j + 1)) = .ok (n, es) := h
      split at h3
      · cases h3
        simp at h1
        omega
      · cases h3
/-- What Parse tells: a right graph with no more edges than bytes, or no graph and what is wrong. -/
theorem parse_told (xs : List Int) : (∃ n l, parseM xs = ⟨n, l, none⟩ ∧ RightG n l ∧ l.length ≤ xs.length) ∨ ∃ p, parseM xs = ⟨0, [], some p⟩ := by
  unfold parseM
  split
  · exact .inr ⟨_, rfl⟩
  · cases hr : readM (strOfNums xs) with
    | error p => exact .inr ⟨_, rfl⟩
    | ok q =>
      obtain ⟨n, es⟩ := q
      have h1 := read_few hr
      rw [strOfNums_size] at h1
      by_cases hk : makeK n es = 0
      · refine .inl ⟨n, srt (es.map norm), ?_, make_right hk, by rw [srt_len, List.length_map]; exact h1⟩
        simp only [makeN, makeL, if_pos hk]
      · refine .inr ⟨(textB, 0, makeK n es), ?_⟩
        simp only [makeN, makeL, if_neg hk]
end Go.Proofs.YthlkknfhganecaaGreatDoor
