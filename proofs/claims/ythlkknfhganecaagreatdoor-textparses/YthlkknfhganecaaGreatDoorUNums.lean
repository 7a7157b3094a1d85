/-
  The contract of (*reader).numbers.
-/
import Derived.OwnWalk
import Derived.Test.YthlkknfhganecaaGreatDoorULine
import Derived.Test.YthlkknfhganecaaGreatDoorGVals
namespace Go.Proofs.YthlkknfhganecaaGreatDoor
open Go Go.Proofs Go.RowKit

abbrev fieldsN (line : ByteArray) (c : Nat) : List ByteArray := Lib.splitB ⟨#[32]⟩ 0 (min (c + 1) (line.size + 1) - 1) line
/-- The numbers of a line of this word and so many of them. -/
def numsM (line word : ByteArray) (c : Nat) : Option (List Int) := if (fieldsN line c).length = c + 1 ∧ ((fieldsN line c)[0]?.map ByteArray.toList) = some word.toList then ((fieldsN line c).drop 1).mapM numO else none
def numbersM (rest word : ByteArray) (c : Nat) : Option (List Int) := if (cutN rest).2.2 then numsM ⟨(cutN rest).1.toArray⟩ word c else none

theorem extract_le (s : ByteArray) (a b : Nat) : (s.extract a b).size ≤ s.size := by
  rw [ByteArray.size_extract]; omega
theorem split_le (sep : ByteArray) : ∀ (k : Nat) (s : ByteArray), ∀ x ∈ Lib.splitB sep 0 k s, x.size ≤ s.size
  | 0, s, x, hx => by rw [Lib.splitB_zero] at hx; obtain rfl := List.mem_singleton.1 hx; exact Nat.le_refl _
  | k + 1, s, x, hx => by
    rw [Lib.splitB] at hx
    split at hx
    · obtain rfl := List.mem_singleton.1 hx; exact Nat.le_refl _
    · rcases List.mem_cons.1 hx with rfl | hx
      · exact extract_le _ _ _
      · exact Nat.le_trans (split_le sep k _ x hx) (extract_le _ _ _)
theorem split_len (sep : ByteArray) : ∀ (k : Nat) (s : ByteArray), (Lib.splitB sep 0 k s).length ≤ k + 1 ∧ 1 ≤ (Lib.splitB sep 0 k s).length
  | 0, s => by rw [Lib.splitB_zero]; exact ⟨Nat.le_refl _, Nat.le_refl _⟩
  | k + 1, s => by
    rw [Lib.splitB]
    split
    · exact ⟨by simp, by simp⟩
    · have := split_len sep k (s.extract ((Lib.indexB s sep).toNat + sep.size) s.size)
      simp only [List.length_cons]
      omega
theorem cut_le (l : List UInt8) : (Lib.cut l [10]).1.length ≤ l.length := by
  unfold Lib.cut
  split
  · simp only [List.length_take]; omega
  · exact Nat.le_refl _
theorem mapM_none {F : List ByteArray} {j : Nat} {x : ByteArray} (hx : F[j]? = some x) (h : numO x = none) : F.mapM numO = none := by
  induction F generalizing j with
  | nil => simp at hx
  | cons y F ih =>
    rw [List.mapM_cons]
    cases j with
    | zero => simp at hx; subst hx; rw [h]; rfl
    | succ j =>
      cases hy : numO y with
      | none => rfl
      | some v => rw [ih (j := j) (by simpa using hx)]; rfl
theorem mapM_some : ∀ {F : List ByteArray}, (∀ x ∈ F, (numO x).isSome) → F.mapM numO = some (F.map numV)
  | [], _ => rfl
  | x :: F, h => by
    rw [List.mapM_cons, mapM_some fun y hy => h y (List.mem_cons_of_mem _ hy)]
    have := h x (List.mem_cons_self ..)
    unfold numV
    cases hx : numO x with
    | none => rw [hx] at this; cases this
    | some v => simp [hx]
/-- The numbers that have been told, and zeros. -/
def toldL (F : List ByteArray) (c j : Nat) : List Int := (List.range c).map fun q => if q < j then ((F[q + 1]?).map numV).getD 0 else 0
theorem toldL_len (F : List ByteArray) (c j : Nat) : (toldL F c j).length = c := by simp [toldL]
theorem toldL_at {F : List ByteArray} {c j q : Nat} (h : q < c) : (toldL F c j)[q]? = some (if q < j then ((F[q + 1]?).map numV).getD 0 else 0) := by simp [toldL, h]
theorem toldL_zero (F : List ByteArray) (c : Nat) : toldL F c 0 = List.replicate c 0 := by apply List.ext_getElem <;> simp [toldL]
theorem toldL_step {F : List ByteArray} {c j : Nat} {x : ByteArray} (hj : j < c) (hx : F[j + 1]? = some x) : (toldL F c j).set j (numV x) = toldL F c (j + 1) := by
  apply List.ext_getElem?
  intro q
  rw [List.getElem?_set, toldL_len]
  by_cases hq : q < c
  · rw [toldL_at hq, toldL_at hq]
    by_cases he : j = q
    · subst he; rw [if_pos rfl, if_pos hj, if_pos (by omega), hx]; rfl
    · rw [if_neg he]
      by_cases h2 : q < j
      · rw [if_pos h2, if_pos (by omega)]
      · rw [if_neg h2, if_neg (by omega)]
  · rw [List.getElem?_eq_none (by rw [toldL_len]; omega), List.getElem?_eq_none (by rw [toldL_len]; omega)]
    split
    · rename_i e; omega
    · rfl
theorem toldL_full {F : List ByteArray} {c : Nat} (h : F.length = c + 1) : toldL F c c = (F.drop 1).map numV := by
  apply List.ext_getElem?
  intro q
  by_cases hq : q < c
  · rw [toldL_at hq, if_pos hq, List.getElem?_map, List.getElem?_drop, Nat.add_comm 1 q]
    have : q + 1 < F.length := by omega
    rw [List.getElem?_eq_getElem this]; rfl
  · rw [List.getElem?_eq_none (by rw [toldL_len]; omega), List.getElem?_eq_none (by simp; omega)]
theorem info64 : (Tryz.prog.info? 2).map (fun i => (i.zero, i.size, i.bytes)) = some (some (.int .i64 0), 1, 8) := by kernel_rfl
theorem ints_made64 (n : Nat) : (madeCells (Value.int .i64 0).cells (n * 1)).toList = (List.replicate n (0 : Int)).map (Value.int .i64) := by
  apply List.ext_getElem
  · simp [madeCells]
  · intro i h1 h2
    simp [madeCells, Value.cells, Nat.mod_one]
theorem Blk.ints64 {W : World} {g : Nat} {l : List Int} {t : TypeId} (h : Blk t W g (l.map (Value.int .i64))) : Ints W.heap.size W (.slice (some ⟨g, 0, none⟩) l.length l.length) l :=
  .inr ⟨g, 0, l.length, rfl, h.lt, Nat.le_refl _, fun j x hx => by rw [Nat.zero_add]; exact h.cell (by rw [List.getElem?_map, hx]; rfl)⟩

theorem Env.of_grown {A B : World} {rb : Nat} (h : Env A) (hrb : 9 ≤ rb) (hg : A.grownBy B (some rb)) : Env B :=
  h.below (n := 9) (Nat.le_refl _) ⟨hg.os, hg.tape, hg.output, hg.size, fun k hk => hg.block k (Nat.lt_of_lt_of_le hk h.all) (by simp only [ne_eq, Option.some.injEq]; omega)⟩
/-- What numbers ends with. -/
def NumsP (rb : Nat) (rest word : ByteArray) (c k : Nat) (w : World) (e : Ending) (w' : World) : Prop :=
  RB w' rb (lineR rest) (k + 1) ∧ w.grownBy w' (some rb) ∧ match numbersM rest word c with
    | some l => ∃ sv, e = .returned sv ∧ Ints w'.heap.size w' sv l ∧ l.length = c
    | none => e = kindP 3
theorem RB.below {W W' : World} {rb n k : Nat} {rest : ByteArray} (h : RB W rb rest k) (hb : Below n W W') (hn : rb < n) : RB W' rb rest k := Blk.below h hb hn

set_option maxRecDepth 100000 in
set_option maxHeartbeats 4000000 in
theorem numbers_any (rb : Nat) (rest word : ByteArray) (c k : Nat) (hc1 : 1 ≤ c) (hc3 : c ≤ 3) (hs : rest.size < 4294967000) (hk : k < 100000000) (w : World) (hE : Env w) (hrb : 9 ≤ rb) (hR : RB w rb rest k) :
    Calls Tryz.prog 71 #[.pointer (some ⟨rb, 0, none⟩), .string word, .int .i64 (c : Int)] w (NumsP rb rest word c k w) := by
  have hlc := line_any rb rest k (by omega) hk w hE hrb hR
  have HM : Hid (numbersM rest word c = if (cutN rest).2.2 then numsM ⟨(cutN rest).1.toArray⟩ word c else none) := rfl
  have hrl := Blk.lt hR
  have hle := cut_le rest.data.toList
  unfold lineE at hlc
  have HLR : Hid (∀ e W, RB W rb (lineR rest) (k + 1) → w.grownBy W (some rb) → (match numbersM rest word c with | some l => ∃ sv, e = .returned sv ∧ Ints W.heap.size W sv l ∧ l.length = c | none => e = kindP 3) → NumsP rb rest word c k w e W) := fun e W h1 h2 h3 => ⟨h1, h2, h3⟩
  cases hf : (cutN rest).2.2 with
  | false =>
    rw [hf] at hlc
    have HN : Hid (numbersM rest word c = none) := by rw [Hid, HM.out, hf]; rfl
    go_enter Tryz.func71, Tryz.ntmps71
    go_wp2_with fail
    refine hlc.mono ?_
    rintro e w2 ⟨rfl, hR2, hg2⟩
    exact ⟨rfl, HLR.out _ _ hR2 hg2 (by rw [HN.out]; rfl)⟩
  | true =>
    rw [hf, if_pos rfl] at hlc
    have HN : Hid (numbersM rest word c = numsM ⟨(cutN rest).1.toArray⟩ word c) := by rw [Hid, HM.out, hf]; rfl
    have hls : (⟨(cutN rest).1.toArray⟩ : ByteArray).size ≤ rest.size := by
      rw [Array.length_toList] at hle
      show (cutN rest).1.toArray.size ≤ rest.data.size
      rw [List.size_toArray]
      exact hle
    clear HM hf hle
    generalize (⟨(cutN rest).1.toArray⟩ : ByteArray) = ln at *
    have hF := split_len ⟨#[32]⟩ (min (c + 1) (ln.size + 1) - 1) ln
    have hFs := split_le ⟨#[32]⟩ (min (c + 1) (ln.size + 1) - 1) ln
    have HNM : Hid (numsM ln word c = if (fieldsN ln c).length = c + 1 ∧ ((fieldsN ln c)[0]?.map ByteArray.toList) = some word.toList then ((fieldsN ln c).drop 1).mapM numO else none) := rfl
    have hsp := fun W m hm => Tryz.strings_SplitN ln ⟨#[32]⟩ (c + 1) m W (by omega) hm (by decide) (by omega) (by omega)
    have hff : Lib.splitB ⟨#[32]⟩ 0 (min (c + 1) (ln.size + 1) - 1) ln = fieldsN ln c := rfl
    rw [hff] at hF hFs
    have hcap : 1 ≤ min (c + 1) (ln.size + 1) := by omega
    have hlen : (fieldsN ln c).length ≤ min (c + 1) (ln.size + 1) := by omega
    simp only [hff] at hsp
    clear hff
    generalize fieldsN ln c = F at *
    generalize min (c + 1) (ln.size + 1) = cap at *
    go_enter Tryz.func71, Tryz.ntmps71
    go_wp2_with fail
    refine hlc.mono ?_
    rintro e w2 ⟨rfl, hR2, hg2⟩
    clear hlc
    obtain ⟨m, hm⟩ := hE.max
    have hm2 : w2.cell? ⟨6, 0, none⟩ = some (.int .i64 m) := (World.cell?_of_block (hg2.block _ (by have := hE.all; simp only; omega) (by simp only [ne_eq, Option.some.injEq]; omega))).trans hm
    have hR2l := Blk.lt hR2
    go_wp2_with fail
    refine (hsp w2 m hm2).mono ?_
    rintro e w3 ⟨rfl, rfl⟩
    have hBF : Blk 9 (w2.alloc (.cells (Lib.cellsOf F cap) 9)) w2.heap.size (F.map Value.string ++ List.replicate (cap - F.length) (Value.string ByteArray.empty)) := heap_alloc_new w2 _
    have hfc : ∀ q x, F[q]? = some x → (w2.alloc (.cells (Lib.cellsOf F cap) 9)).cell? ⟨w2.heap.size, q, none⟩ = some (.string x) := fun q x hx => hBF.cell (by
      have hq := (List.getElem?_eq_some_iff.1 hx).1
      rw [List.getElem?_append_left (by simpa using hq), List.getElem?_map, hx]; rfl)
    have hb3 : Below w2.heap.size w2 (w2.alloc (.cells (Lib.cellsOf F cap) 9)) := (Below.refl _ _).alloc (Nat.le_refl _) _
    have hR3 := hR2.below hb3 hR2l
    have hg3 := grown_trans hg2 (grown_below hb3 (some rb))
    have hfl := hBF.lt
    generalize hw3 : w2.alloc (.cells (Lib.cellsOf F cap) 9) = w3 at hBF hfc hR3 hg3 hfl ⊢
    clear hw3 hm2 hsp hb3
    generalize w2.heap.size = fb at hBF hfc hfl hR2l
    by_cases hFl : F.length = c + 1
    · have hne : ((F.length : Int) != (c : Int) + 1) = false := by simp; omega
      obtain ⟨x0, hx0⟩ : ∃ x, F[0]? = some x := ⟨_, List.getElem?_eq_getElem (by omega)⟩
      have d0 := hfc 0 _ hx0
      have hd0 : (0 : Int) < (F.length : Int) := by omega
      by_cases hwd : x0.toList = word.toList
      · have hwe : (x0.toList == word.toList) = true := by simpa using hwd
        have HT : Hid (numsM ln word c = (F.drop 1).mapM numO) := by
          rw [Hid, HNM.out, if_pos ⟨hFl, by rw [hx0]; simp [hwd]⟩]
        have HNT : Hid (numbersM rest word c = (F.drop 1).mapM numO) := by rw [Hid, HN.out, HT.out]
        obtain ⟨i0, hi, hz0, hz1, hz2⟩ := info_parts info64
        have hc1' : ¬ cap = 1 := by omega
        have hl1 : F.length - 1 = c := by omega
        have hfl1 : (1 : Int) ≤ (F.length : Int) := by omega
        have h1cap : 1 ≤ cap := hcap
        have HFL : Hid (F.length = c + 1) := hFl
        clear HNM hwd HT HN hF hlen hFl hx0
        go_wp2_with (at_make; refine wpList_make_full _ rfl _ _ 66 rfl w3.heap.size 2 i0 (.int .i64 0) 1 Tryz.underlying66 hi hz0 hz1 .i64 .i64 _ _ c rfl rfl rfl rfl (by rw [hz2]; omega) (by unfold maxLen; omega) (Nat.le_refl _) ?_; intro w5 hown hgrow)
        have hb5 : Below w3.heap.size w3 w5 := (Below.refl _ _).grown hgrow (Nat.le_refl _) (fun k e => by cases e)
        have hrow := Blk.made hown
        rw [ints_made64, ← toldL_zero F c] at hrow
        have hg5 := grown_trans hg3 (grown_below hb5 (some rb))
        have hR5 := hR3.below hb5 (by omega)
        have hfc5 : ∀ q x, F[q]? = some x → w5.cell? ⟨fb, q, none⟩ = some (.string x) := fun q x hx => (hb5.cell (p := ⟨fb, q, none⟩) hfl).trans (hfc q x hx)
        have hE5 : Env w5 := hE.of_grown hrb hg5
        have hgl : w3.heap.size < w5.heap.size := hrow.lt
        have hgw0 : w.heap.size ≤ w3.heap.size := hg3.size
        clear hown hgrow hi hz0 hz1 hz2 d0 hfc hBF hR3 hg3 hg2 hR2 hb5 hm hwe hne
        generalize w3.heap.size = g at hrow hfl hgl hgw0
        go_loopw [36] (fun i wr => ∃ j : Nat, j ≤ c ∧ i = .int .i64 j ∧ Hid (∀ q x, q < j → F[q + 1]? = some x → (numO x).isSome) ∧ Blk 2 wr g ((toldL F c j).map (Value.int .i64)) ∧ Below g w5 wr) (fun i _ => c - (intOf i).toNat)
        case atStart => exact ⟨0, Nat.zero_le _, rfl, fun q x h => by omega, hrow, Below.refl _ _⟩
        case round =>
          obtain ⟨j, hj, rfl, hok, hB, hb⟩ := hrel
          have hgr := hB.lt
          have hRr := hR5.below hb (by omega)
          have hgw : w.grownBy wr (some rb) := ⟨hb.os.trans hg5.os, hb.tape.trans hg5.tape, hb.output.trans hg5.output, Nat.le_trans hg5.size hb.size, fun q hq hne => (hb.block q (by omega)).trans (hg5.block q hq hne)⟩
          by_cases hlt : j < c
          · obtain ⟨x, hx⟩ : ∃ x, F[j + 1]? = some x := ⟨_, List.getElem?_eq_getElem (by have := HFL.out; omega)⟩
            have e0 := (hb.cell (p := ⟨fb, 1 + j, none⟩) hfl).trans (hfc5 (1 + j) x (by rw [Nat.add_comm]; exact hx))
            have hxs := hFs x (List.mem_of_getElem? hx)
            have hjl : (j : Int) < (c : Int) := by omega
            have hnc := number_any x (by omega) wr (hE5.below (by have := hE5.all; omega) hb)
            have HX : Hid (F[j + 1]? = some x) := hx
            have HV : Hid (numV x = (numO x).getD 0) := rfl
            have hnk : numK x = if (numO x).isSome then 0 else 2 := rfl
            cases ho : (numO x).isSome with
            | true =>
              rw [ho, if_pos rfl] at hnk
              rw [hnk] at hnc
              have HO : Hid (∀ q y, q < j + 1 → F[q + 1]? = some y → (numO y).isSome) := fun q y hq hy => by
                by_cases he : q = j
                · subst he; rw [HX.out] at hy; cases hy; exact ho
                · exact hok.out q y (by omega) hy
              have HS : Hid _ := toldL_step (F := F) hlt hx
              clear hx ho hnk HV hok
              go_wp2_with fail
              refine hnc.mono ?_
              rintro e w6 ⟨rfl, hb6⟩
              have hB6 := hB.go hb6
              have f6 := hB6.frozen j
              have k6 := hB6.cell (j := j) (by rw [List.getElem?_map, toldL_at hlt]; rfl)
              have hB7 := hB6.set j (.int .i64 (numV x))
              rw [← List.map_set, HS.out] at hB7
              have hb7 : Below g w5 w6 := hb.trans (hb6.mono (by omega))
              generalize numV x = xv at *
              clear hnc e0
              go_wp2
              exact ⟨⟨j + 1, by omega, by go_num, HO, hB7, hb7.setCell (p := ⟨g, j, none⟩) (Nat.le_refl _) _⟩, by simp [intOf]; omega⟩
            | false =>
              rw [ho, if_neg (by simp)] at hnk
              rw [hnk] at hnc
              have HT : Hid (numbersM rest word c = none) := by
                rw [Hid, HNT.out]
                refine mapM_none (j := j) (x := x) (by rw [List.getElem?_drop, Nat.add_comm 1 j]; exact hx) ?_
                cases hn : numO x with
                | none => rfl
                | some v => rw [hn] at ho; cases ho
              clear hx ho hnk HV hok
              go_wp2_with fail
              refine hnc.mono ?_
              rintro e w6 ⟨rfl, hb6⟩
              have hR6 := hRr.below hb6 (by omega)
              have hg6 := grown_trans hgw (grown_below hb6 (some rb))
              clear hnc e0
              go_wp2
              exact ⟨rfl, HLR.out _ _ hR6 hg6 (by rw [HT.out]; rfl)⟩
          · obtain rfl : j = c := by omega
            have HT : Hid (numbersM rest word j = some ((F.drop 1).map numV)) := by
              rw [Hid, HNT.out]
              refine mapM_some fun x hx => ?_
              obtain ⟨q, hq⟩ := List.getElem?_of_mem hx
              rw [List.getElem?_drop, Nat.add_comm 1 q] at hq
              refine hok.out q x ?_ hq
              have := (List.getElem?_eq_some_iff.1 hq).1
              have := HFL.out
              omega
            have HFu : Hid _ := toldL_full HFL.out
            have hI := hB.ints64
            rw [toldL_len, HFu.out] at hI
            go_wp2
            go_ret
            refine HLR.out _ _ hRr hgw ?_
            rw [HT.out]
            exact ⟨_, rfl, hI, by have := HFL.out; simp; omega⟩
      · have hwe : (x0.toList == word.toList) = false := by simpa using hwd
        have HT : Hid (numbersM rest word c = none) := by
          rw [Hid, HN.out, HNM.out, if_neg]
          intro h
          rw [hx0] at h
          exact hwd (by simpa using h.2)
        clear HNM hwd HN hx0 hFl hfc
        go_wp2
        exact ⟨rfl, HLR.out _ _ hR3 hg3 (by rw [HT.out]; rfl)⟩
    · have hne : ((F.length : Int) != (c : Int) + 1) = true := by simp; omega
      have HT : Hid (numbersM rest word c = none) := by
        rw [Hid, HN.out, HNM.out, if_neg (fun h => hFl h.1)]
      clear HNM HN
      go_wp2
      exact ⟨rfl, HLR.out _ _ hR3 hg3 (by rw [HT.out]; rfl)⟩

end Go.Proofs.YthlkknfhganecaaGreatDoor
