/-
  slices.Backward at a list of steps: each loop over it visits them from the last to the first.
-/
import Derived.Test.YteekhofollaooaaCD
import Derived.Test.YteekhofollaooaaCB
import Derived.Test.YteekhofollaooaaCA
import Derived.Test.YteekhofollaooaaQL
namespace Go.Proofs.Yteekhofollaooaa
open Go Go.Proofs Go.RowKit Go.Maps Go.Shelf

attribute [local go_sem] Oper.semAt_some

/-- What has come when k rounds are over. -/
def downS (len k : Nat) : List Nat := (List.range k).map fun j => len - 1 - j
theorem downS_succ (len k : Nat) : downS len (k + 1) = downS len k ++ [len - 1 - k] := by simp [downS, List.range_succ]
theorem downS_length (len k : Nat) : (downS len k).length = k := by simp [downS]
/-- A step, as the loop gets it. -/
def encStp (ss : List StpM) (j : Nat) : Array Value := #[.int .i64 (j : Int), .agg #[.int .i64 (ss.getD j (0, .slice none 0 0, [], -1)).1, (ss.getD j (0, .slice none 0 0, [], -1)).2.1, .int .i64 (ss.getD j (0, .slice none 0 0, [], -1)).2.2.2]]
def StepsAt (W : World) (tb : Nat) (ss : List StpM) : Prop := ∀ j, j < ss.length → W.cell? ⟨tb, j * 3, none⟩ = some (.int .i64 (ss.getD j (0, .slice none 0 0, [], -1)).1) ∧ W.cell? ⟨tb, j * 3 + 1, none⟩ = some (ss.getD j (0, .slice none 0 0, [], -1)).2.1 ∧ W.cell? ⟨tb, j * 3 + 2, none⟩ = some (.int .i64 (ss.getD j (0, .slice none 0 0, [], -1)).2.2.2)
theorem stpC_at {ss : List StpM} {j : Nat} {s : StpM} (h : ss[j]? = some s) : (stpC ss)[j * 3]? = some (.int .i64 s.1) ∧ (stpC ss)[j * 3 + 1]? = some s.2.1 ∧ (stpC ss)[j * 3 + 2]? = some (.int .i64 s.2.2.2) := by
  induction ss generalizing j with
  | nil => simp at h
  | cons a ss ih =>
    have e : stpC (a :: ss) = .int .i64 a.1 :: a.2.1 :: .int .i64 a.2.2.2 :: stpC ss := by simp [stpC]
    rw [e]
    match j, h with
    | 0, h => simp at h; subst h; simp
    | j + 1, h =>
      rw [List.getElem?_cons_succ] at h
      obtain ⟨h1, h2, h3⟩ := ih h
      rw [show (j + 1) * 3 = j * 3 + 1 + 1 + 1 by omega, show j * 3 + 1 + 1 + 1 + 1 = (j * 3 + 1) + 1 + 1 + 1 by omega, show j * 3 + 1 + 1 + 1 + 2 = (j * 3 + 2) + 1 + 1 + 1 by omega]
      simp only [List.getElem?_cons_succ]
      exact ⟨h1, h2, h3⟩
/-- Two blocks lie as they lay. -/
def Keep2 (b c : Nat) (W W' : World) : Prop := W'.heap[b]? = W.heap[b]? ∧ W'.heap[c]? = W.heap[c]?
theorem Keep2.refl (b c : Nat) (W : World) : Keep2 b c W W := ⟨rfl, rfl⟩
theorem Keep2.trans {b c : Nat} {A B C : World} (h : Keep2 b c A B) (k : Keep2 b c B C) : Keep2 b c A C := ⟨k.1.trans h.1, k.2.trans h.2⟩
theorem Keep2.cell1 {b c : Nat} {A B : World} (h : Keep2 b c A B) (o : Nat) : B.cell? ⟨b, o, none⟩ = A.cell? ⟨b, o, none⟩ := World.cell?_of_block (w := A) h.1
theorem Keep2.cell2 {b c : Nat} {A B : World} (h : Keep2 b c A B) (o : Nat) : B.cell? ⟨c, o, none⟩ = A.cell? ⟨c, o, none⟩ := World.cell?_of_block (w := A) h.2

set_option maxRecDepth 100000 in
set_option maxHeartbeats 2000000 in
theorem back1s_in (F : Fence) (n : Nat) (hf : F.fn 63) (hro : F.round = none) (hn : 1 ≤ n) (l Bs tb cap : Nat) (ss : List StpM) (hlen : 0 < ss.length) (hreach : ss.length ≤ 1048576) (J Jx : List Nat → World → Prop)
    (hY : ∀ pre x W, J pre W → pre.length < ss.length → YieldAt F (n - 1) Try.prog l (encStp ss x) W fun e W' =>
      (e = .returned (.bool true) ∧ J (pre ++ [x]) W' ∧ Keep2 tb Bs W W') ∨ (e = .returned (.bool false) ∧ Jx (pre ++ [x]) W'))
    (W : World) (hBs : W.cell? ⟨Bs, 0, none⟩ = some (.slice (some ⟨tb, 0, none⟩) ss.length cap)) (hc : StepsAt W tb ss) (h0 : J [] W) :
    CallsIn F n Try.prog 63 #[.func (.yield l) #[] #[], .pointer (some ⟨Bs, 0, none⟩)] W fun e W' => (∃ v, e = .returned v) ∧
      ((∃ ys, ys = downS ss.length ss.length ∧ J ys W') ∨ (∃ pre, True ∧ Jx pre W')) := by
  refine callsIn_of_wp Try.func63 rfl hf ?_ hro
  simp only [Try.ntmps63, List.size_toArray, List.length_cons, List.length_nil, Nat.reduceAdd, Nat.reduceSub, Array.replicate_succ, Array.replicate_zero, List.push_toArray, List.append_toArray, List.nil_append, List.cons_append]
  have HC : Hid (StepsAt W tb ss) := hc
  clear hc
  gi_wp2
  gi_loopw [3] (fun i wr => ∃ k : Nat, k ≤ ss.length ∧ i = .int .i64 ((ss.length : Int) - 1 - k) ∧ J (downS ss.length k) wr ∧ Keep2 tb Bs W wr)
    (fun i _ => (intOf i + 1).toNat)
  case atStart => exact ⟨0, Nat.zero_le _, by simp, h0, Keep2.refl _ _ _⟩
  case round =>
    obtain ⟨k, hk, rfl, hJs, hnx⟩ := hrel
    by_cases hlt : k < ss.length
    · obtain ⟨m, hm⟩ : ∃ m : Nat, m = ss.length - 1 - k := ⟨_, rfl⟩
      obtain ⟨fn, tmps, assign, body, hy, hR⟩ := hY _ m wr hJs (by rw [downS_length]; exact hlt)
      have em : ((ss.length : Int) - 1 - k) = (m : Int) := by omega
      have hml : m < ss.length := by omega
      obtain ⟨hc0, hc1, hc2⟩ := HC.out m hml
      have hx0 := (hnx.cell1 _).trans hc0
      have hx1 := (hnx.cell1 _).trans hc1
      have hx2 := (hnx.cell1 _).trans hc2
      have hbx := (hnx.cell2 0).trans hBs
      unfold encStp at hy
      rw [em]
      have HM : Hid (m = ss.length - 1 - k) := hm
      clear hm em hc0 hc1 hc2
      generalize ss.getD m (0, .slice none 0 0, [], -1) = s at *
      gi_wp2
      refine hR.mono ?_
      rintro e W3 (⟨rfl, hJ3, hk3⟩ | ⟨rfl, hJx3⟩)
      · gi_wp2
        have := HM.out
        go_roundw
        case rel => exact ⟨k + 1, by omega, by go_num, by rw [downS_succ, ← HM.out]; exact hJ3, hnx.trans hk3⟩
        case measure => simp [intOf]
      · gi_wp2
        refine bodyPost_ret (results_none rfl _ _ _) rfl ?_
        exact ⟨⟨_, rfl⟩, .inr ⟨_, trivial, hJx3⟩⟩
    · obtain rfl : k = ss.length := by omega
      have em : ((ss.length : Int) - 1 - (ss.length : Int)) = -1 := by omega
      rw [em]
      gi_wp2
      go_end0
      exact ⟨⟨_, rfl⟩, .inl ⟨_, rfl, hJs⟩⟩

set_option maxRecDepth 100000 in
set_option maxHeartbeats 1000000 in
theorem back1s_nil_in (F : Fence) (n : Nat) (hf : F.fn 63) (hro : F.round = none) (l Bs : Nat) (a : Option Addr) (cap : Nat) (J : List Nat → World → Prop) (W : World) (hBs : W.cell? ⟨Bs, 0, none⟩ = some (.slice a 0 cap)) (h0 : J [] W) :
    CallsIn F n Try.prog 63 #[.func (.yield l) #[] #[], .pointer (some ⟨Bs, 0, none⟩)] W fun e W' => (∃ v, e = .returned v) ∧ J [] W' := by
  refine callsIn_of_wp Try.func63 rfl hf ?_ hro
  simp only [Try.ntmps63, List.size_toArray, List.length_cons, List.length_nil, Nat.reduceAdd, Nat.reduceSub, Array.replicate_succ, Array.replicate_zero, List.push_toArray, List.append_toArray, List.nil_append, List.cons_append]
  gi_wp2
  gi_loopw [3] (fun i wr => i = .int .i64 (-1) ∧ J [] wr) (fun _ _ => 0)
  case atStart => exact ⟨by simp, h0⟩
  case round =>
    obtain ⟨rfl, hJs⟩ := hrel
    gi_wp2
    go_end0
    exact ⟨⟨_, rfl⟩, hJs⟩

set_option maxRecDepth 100000 in
theorem backs_any (a : Option Addr) (len cap : Nat) (w : World) :
    Calls Try.prog 52 #[.slice a len cap] w fun e w' => e = .returned (.func (.func 63) #[] #[.pointer (some ⟨w.heap.size, 0, none⟩)]) ∧ w' = w.alloc (.cells #[.slice a len cap] 71) := by
  go_enter Try.func52, Try.ntmps52
  go_wp2
  go_ret
  exact ⟨rfl, rfl⟩

/-- slices.Backward hands back an iterator over all places from the last on. -/
theorem backs_stops (F : Fence) (n : Nat) (hf : F.fn 63) (hro : F.round = none) (hn : 1 ≤ n) (Bs h0 : Nat) (tv : Value) (ss : List StpM) (hreach : ss.length ≤ 1048576) (w : World) (hBs : Bs < w.heap.size)
    (hc : w.cell? ⟨Bs, 0, none⟩ = some tv) (hI : w.ownsRow h0 78 3 tv ss.length (stpC ss)) :
    SeqStopsK F n Try.prog 63 #[.pointer (some ⟨Bs, 0, none⟩)] (encStp ss) (Keep2 (tv.ownBlock.getD Bs) Bs) (fun ys => ys = downS ss.length ss.length) (fun _ => True) ss.length w := fun l J Jx W hW _ _ hY h0' => by
  have hc' := (hW.cell (p := ⟨Bs, 0, none⟩) hBs).trans hc
  rcases hI.2 with ⟨rfl, hz⟩ | ⟨tb, cap, cur, rfl, _, hg, hncap, _, hsz, htk⟩
  · refine (back1s_nil_in F n hf hro l Bs none 0 J W hc' h0').mono fun e W' ⟨he, hj⟩ => ⟨he, .inl ⟨[], ?_, hj⟩⟩
    rw [hz]
    rfl
  · by_cases hp : 0 < ss.length
    · refine back1s_in F n hf hro hn l Bs tb cap ss hp hreach J Jx hY W hc' (fun j hj => ?_) h0'
      have hs : ss[j]? = some (ss.getD j (0, .slice none 0 0, [], -1)) := by rw [List.getD_eq_getElem?_getD, List.getElem?_eq_getElem hj]; rfl
      obtain ⟨h1, h2, h3⟩ := stpC_at hs
      have hlt := (Array.getElem?_eq_some_iff.1 hg).1
      have hat : ∀ o, o < ss.length * 3 → W.cell? ⟨tb, o, none⟩ = (stpC ss)[o]? := fun o ho => ((hW.cell (p := ⟨tb, o, none⟩) hlt)).trans (hI.cellAt o ho)
      exact ⟨by rw [hat _ (by omega), h1], by rw [hat _ (by omega), h2], by rw [hat _ (by omega), h3]⟩
    · have hz : ss.length = 0 := by omega
      rw [hz] at hc'
      refine (back1s_nil_in F n hf hro l Bs _ cap J W hc' h0').mono fun e W' ⟨he, hj⟩ => ⟨he, .inl ⟨[], ?_, hj⟩⟩
      rw [hz]
      rfl
end Go.Proofs.Yteekhofollaooaa

namespace Go.Proofs.Yteekhofollaooaa
open Go Go.Proofs Go.RowKit Go.Maps Go.Shelf

attribute [local go_sem] Oper.semAt_some

/-- A step undone. -/
def und1 (q : List Int × List Int) (s : Int × List Int × Int) : List Int × List Int := if 0 ≤ s.2.2 then (q.1.set s.1.toNat (q.1.getD s.2.2.toNat 0), q.2) else (q.1.set s.1.toNat (hueL q.1 s.1.toNat q.2 s.2.1), markT q.1 s.1 q.2 s.2.1)
def undS (n : Nat) (R : List (Int × List Int × Int)) : List Int × List Int := R.foldl und1 (List.replicate n (-1), List.replicate 5 (-1))
theorem undS_take (n : Nat) {R : List (Int × List Int × Int)} {k : Nat} (h : k < R.length) : undS n (R.take (k + 1)) = und1 (undS n (R.take k)) R[k] := by
  unfold undS
  rw [List.take_add_one, List.getElem?_eq_getElem h, List.foldl_append]
  rfl
/-- What is to be undone can be (here: each went alone). -/
def StepOK (n : Nat) (s : StpM) : Prop := (∃ v : Nat, s.1 = (v : Int) ∧ v < n) ∧ s.2.2.2 = -1 ∧ s.2.2.1.length ≤ 8388608 ∧ ∀ u ∈ s.2.2.1, ∃ j : Nat, u = (j : Int) ∧ j < n
def revS (ss : List StpM) : List (Int × List Int × Int) := (ss.map fun s => (s.1, s.2.2)).reverse
theorem revS_at {ss : List StpM} {k : Nat} (h : k < ss.length) : (revS ss)[k]? = some ((ss.getD (ss.length - 1 - k) (0, .slice none 0 0, [], -1)).1, (ss.getD (ss.length - 1 - k) (0, .slice none 0 0, [], -1)).2.2) := by
  unfold revS
  rw [List.getElem?_reverse (by rw [List.length_map]; exact h), List.length_map, List.getElem?_map, List.getD_eq_getElem?_getD, List.getElem?_eq_getElem (by omega)]
  rfl
theorem hue_lt (C : List Int) (v : Nat) (T near : List Int) (h : 0 < T.length) : hueL C v T near < (T.length : Int) := by
  unfold hueL idxF
  cases hf : (markT C (v : Int) T near).findIdx? (fun t => t != (v : Int)) with
  | none => show (-1 : Int) < _; omega
  | some k =>
    rw [List.findIdx?_eq_some_iff_getElem] at hf
    obtain ⟨hk, _⟩ := hf
    rw [markT_len] at hk
    show (k : Int) < _
    omega
theorem getD_set_lt {C : List Int} (h : ∀ i, C.getD i 0 < 5) (v : Nat) {x : Int} (hx : x < 5) : ∀ i, (C.set v x).getD i 0 < 5 := by
  intro i
  rw [List.getD_eq_getElem?_getD, List.getElem?_set]
  by_cases e : v = i
  · rw [if_pos e]
    split
    · exact hx
    · show (0 : Int) < 5
      omega
  · rw [if_neg e, ← List.getD_eq_getElem?_getD]
    exact h i
theorem getD_or {α : Type} (l : List α) (x : Nat) (d : α) : l.getD x d ∈ l ∨ l.getD x d = d := by
  rw [List.getD_eq_getElem?_getD]
  cases h : l[x]? with
  | none => exact .inr rfl
  | some a => exact .inl (List.mem_of_getElem? h)
/-- What stands between two rounds. -/
def UndI (w : World) (pb gc gt n Bp lo : Nat) (ss : List StpM) (pre : List Nat) (W : World) : Prop :=
  ∃ C T, PT pb gc gt n 5 C T W ∧ (∀ i, C.getD i 0 < 5) ∧ (pre = downS ss.length pre.length → (C, T) = undS n ((revS ss).take pre.length)) ∧ Boxed W Bp 48 (.pointer (some ⟨pb, 0, none⟩)) ∧ Below w.heap.size w W ∧ lo ≤ W.heap.size
theorem blk_own {t : TypeId} {W W' : World} {g : Nat} {vs : List Value} {row : Option Nat} (h : Blk t W g vs) (hg : W.grownBy W' row) (hr : ∀ r, row = some r → ∃ o : Obj, W.heap[r]? = some o ∧ o.isCells = false) : Blk t W' g vs := by
  refine (hg.block g h.lt (fun e => ?_)).trans h
  obtain ⟨o, ho, hc⟩ := hr g e.symm
  rw [show W.heap[g]? = _ from h] at ho
  cases ho
  cases hc
theorem PT.own {pb gc gt n m : Nat} {C T : List Int} {W W' : World} {row : Option Nat} (h : PT pb gc gt n m C T W) (hg : W.grownBy W' row) (hr : ∀ r, row = some r → ∃ o : Obj, W.heap[r]? = some o ∧ o.isCells = false) : PT pb gc gt n m C T W' :=
  ⟨blk_own h.var hg hr, blk_own h.col hg hr, blk_own h.tak hg hr, h.lenC, h.lenT, h.apart⟩
theorem undI_own {w : World} {pb gc gt n Bp lo B : Nat} {ss : List StpM} (hB : w.heap.size ≤ B) : OwnFrom B (UndI w pb gc gt n Bp lo ss) := by
  rintro pre W W' row ⟨C, T, h1, h2, h3, h4, h5, h6⟩ hg hr
  have hr' : ∀ r, row = some r → ∃ o : Obj, W.heap[r]? = some o ∧ o.isCells = false := fun r e => (hr r e).2
  exact ⟨C, T, h1.own hg hr', h2, h3, blk_own (vs := [.pointer (some ⟨pb, 0, none⟩)]) h4 hg hr', h5.grown hg h5.size (fun k e => Nat.le_trans hB (hr k e).1), Nat.le_trans h6 hg.size⟩
theorem downS_next {len : Nat} {pre : List Nat} {x : Nat} (h : pre ++ [x] = downS len (pre ++ [x]).length) : pre = downS len pre.length ∧ x = len - 1 - pre.length := by
  rw [List.length_append, List.length_singleton, downS_succ] at h
  have h1 := List.append_inj' h rfl
  exact ⟨h1.1, by simpa using h1.2⟩
theorem owns_intsU {W : World} {h0 : Nat} {sv : Value} {L : List Int} (h : W.ownsRow h0 3 1 sv L.length (L.map (Value.int .i64))) : Ints W.heap.size W sv L := owns_intsP h

set_option maxRecDepth 100000 in
set_option maxHeartbeats 8000000 in
theorem undone_any (h0 sb n : Nat) (hn : n ≤ 1048576) (N : List (Option (List Int))) (F : List (List Int)) (ss : List StpM) (w : World) (hX : SX h0 sb N F ss w) (hNl : N.length = n) (hss : ss.length ≤ 1048576) (hU : ∀ s ∈ ss, StepOK n s) :
    Calls Try.prog 36 #[.pointer (some ⟨sb, 0, none⟩)] w fun e w' => ∃ g, e = .returned (.slice (some ⟨g, 0, none⟩) n n) ∧ w.heap.size ≤ g ∧ Blk 3 w' g ((undS n (revS ss)).1.map (Value.int .i64)) ∧ Below w.heap.size w w' := by
  subst hNl
  obtain ⟨gb, bs, fs, tv, tag, _, hM⟩ := hX
  have c0 := hM.row
  have c7 := hM.steps
  have hsbl := hM.var.lt
  obtain ⟨pt, mt, ct, rfl⟩ := owns_slice hM.stp
  have hmt : mt = ss.length := by
    rcases hM.stp.2 with ⟨h, h'⟩ | ⟨_, _, _, h, _⟩ <;> simp at h <;> omega
  subst hmt
  have HSTP : Hid (w.ownsRow h0 78 3 (.slice pt ss.length ct) ss.length (stpC ss)) := hM.stp
  have HINN : Hid (∀ s ∈ ss, w.ownsRow h0 3 1 s.2.1 s.2.2.1.length (s.2.2.1.map (Value.int .i64))) := hM.inn
  have HU : Hid (∀ s ∈ ss, StepOK N.length s) := hU
  clear hM hU
  refine (callsIn_wide (n := 6)).1 ?_
  refine callsIn_of_wp_N Try.func36 rfl trivial ?_ rfl
  simp only [Try.ntmps36, List.size_toArray, List.length_cons, List.length_nil, Nat.reduceAdd, Nat.reduceSub, Array.replicate_succ, Array.replicate_zero, List.push_toArray, List.append_toArray, List.nil_append, List.cons_append]
  have hpn := newPainter_any N.length 5 (by omega) (by omega) w
  gi_wp2_with (first
    | (refine ⟨trivial, ?_⟩; gi_at_call 26; refine (callsIn_wide.2 hpn).mono ?_; rintro e w1 ⟨pb, gc, gt, rfl, hpb, hgc, hgt, hPT, hb1⟩
       have c71 : (w1.alloc (.cells #[.pointer (some ⟨pb, 0, none⟩)] 48)).cell? ⟨sb, 7, none⟩ = some (.slice pt ss.length ct) := cell_keepK (hb1.alloc hb1.size _) c7)
    | (refine ⟨trivial, ?_⟩; gi_at_call 52; refine (callsIn_wide.2 (backs_any pt ss.length ct _)).mono ?_; rintro e w2 ⟨rfl, rfl⟩))
  generalize hw4 : (w1.alloc (.cells #[.pointer (some ⟨pb, 0, none⟩)] 48)).alloc (.cells #[.slice pt ss.length ct] 71) = w4
  have hs4 : w4.heap.size = w1.heap.size + 1 + 1 := by rw [← hw4]; simp
  have hb14 : Below w1.heap.size w1 w4 := by rw [← hw4]; exact ((Below.refl _ _).alloc (Nat.le_refl _) _).alloc (by simp) _
  have hbp : Boxed w4 w1.heap.size 48 (.pointer (some ⟨pb, 0, none⟩)) := by rw [← hw4]; exact (Boxed.new w1 _ _).alloc _
  have hbs : Boxed w4 (w1.heap.size + 1) 71 (.slice pt ss.length ct) := by rw [← hw4]; have h1 := Boxed.new (w1.alloc (.cells #[.pointer (some ⟨pb, 0, none⟩)] 48)) 71 (.slice pt ss.length ct); rwa [World.size_alloc] at h1
  have hb4 : Below w.heap.size w w4 := hb1.trans (hb14.mono hb1.size)
  have hsw := hb1.size
  have hstp4 : w4.ownsRow h0 78 3 (.slice pt ss.length ct) ss.length (stpC ss) := owns_agree HSTP.out (fun b hb => hb4.block b (World.ownsRow.lt HSTP.out b hb).2)
  have htb : ∀ b, (Value.slice pt ss.length ct).ownBlock = some b → b < w.heap.size := fun b hb => (World.ownsRow.lt HSTP.out b hb).2
  have hk2 : (Value.slice pt ss.length ct).ownBlock.getD (w1.heap.size + 1) < w4.heap.size := by
    cases h : (Value.slice pt ss.length ct).ownBlock with
    | none => show w1.heap.size + 1 < _; omega
    | some b => have := htb b h; show b < _; omega
  have hPT4 := hPT.go hb14
  have HSL : Hid (∀ x : Nat, ∃ p m c, (ss.getD x (0, .slice none 0 0, [], -1)).2.1 = .slice p m c) := fun x => by
    rcases getD_or ss x (0, .slice none 0 0, [], -1) with h | h
    · exact owns_slice (HINN.out _ h)
    · rw [h]; exact ⟨_, _, _, rfl⟩
  have HGS : Hid (0 < ss.length → ∀ x : Nat, StepOK N.length (ss.getD x (0, .slice none 0 0, [], -1)) ∧ Ints w.heap.size w (ss.getD x (0, .slice none 0 0, [], -1)).2.1 (ss.getD x (0, .slice none 0 0, [], -1)).2.2.1) := fun hp x => by
    rcases getD_or ss x (0, .slice none 0 0, [], -1) with h | h
    · exact ⟨HU.out _ h, owns_intsU (HINN.out _ h)⟩
    · rw [h]
      obtain ⟨⟨v, _, hv⟩, _⟩ := HU.out ss[0] (List.getElem_mem hp)
      exact ⟨⟨⟨0, rfl, by omega⟩, rfl, Nat.zero_le _, fun u hu => by cases hu⟩, .inl ⟨⟨_, _, rfl⟩, rfl⟩⟩
  clear hw4 c71 hpn
  refine wpIn_rangeFunc_ownH rfl (by omega) (gf := 63) (lb := #[.pointer (some ⟨w1.heap.size + 1, 0, none⟩)]) rfl trivial (enters_of Try.func63 (by kernel_rfl) rfl)
    (backs_stops Fence.wide _ trivial rfl (by omega) (w1.heap.size + 1) h0 (.slice pt ss.length ct) ss hss w4 (by omega) hbs.cell hstp4) (fun h k => Keep2.trans h k)
    (fun W l o o' hl ho h1 h2 => ⟨(belowK_b (n₀ := w4.heap.size) (Nat.le_refl _) W l o o' hl ho h1 h2).block _ hk2, (belowK_b (n₀ := w4.heap.size) (Nat.le_refl _) W l o o' hl ho h1 h2).block _ (by omega)⟩)
    (Below.refl _ _) (fun _ => rfl)
    (UndI w pb gc gt N.length w1.heap.size w4.heap.size ss) (fun _ _ _ => False) (undI_own (by omega)) (fun c s A B row h _ _ => h.elim)
    ⟨_, _, hPT4, fun i => ?_, fun _ => rfl, hbp, hb4, Nat.le_refl _⟩
    (fun x a' W => ∃ B5, w4.heap.size ≤ B5 ∧ Blk 78 W B5 [.int .i64 (ss.getD x (0, .slice none 0 0, [], -1)).1, (ss.getD x (0, .slice none 0 0, [], -1)).2.1, .int .i64 (ss.getD x (0, .slice none 0 0, [], -1)).2.2.2] ∧ a' = { tmps := #[.pointer (some ⟨sb, 0, none⟩), undef, .slice none 0 0, .pointer (some ⟨w1.heap.size, 0, none⟩), undef, .pointer (some ⟨B5, 0, none⟩), .pointer (some ⟨sb, 0, none⟩), .pointer (some ⟨sb, 0, none⟩), .pointer (some ⟨sb, 0, none⟩), .slice (some ⟨gb, 0, none⟩) N.length N.length, .int .i64 (N.length : Int), .pointer (some ⟨pb, 0, none⟩), .pointer (some ⟨sb, 0, none⟩), .pointer (some ⟨sb, 0, none⟩), .pointer (some ⟨sb, 7, none⟩), .slice pt ss.length ct, .func (.func 63) #[] #[.pointer (some ⟨w1.heap.size + 1, 0, none⟩)], .int .i64 (x : Int), .agg #[.int .i64 (ss.getD x (0, .slice none 0 0, [], -1)).1, (ss.getD x (0, .slice none 0 0, [], -1)).2.1, .int .i64 (ss.getD x (0, .slice none 0 0, [], -1)).2.2.2], undef, undef, undef, undef, undef, undef, undef, undef, undef, undef, undef, undef, undef, undef, undef, undef, undef, undef, undef, undef, undef, undef, undef, undef, undef, undef, undef, undef], defers := [] })
    (fun x a' s A B row h hg hr => ?_) ?assign ?body ?done ?stop
  · rw [List.getD_eq_getElem?_getD, List.getElem?_replicate]
    split <;> simp
  · obtain ⟨B5, h1, h2, h3⟩ := h
    exact ⟨B5, h1, blk_own h2 hg (fun r e => (hr r e).2), h3⟩
  case assign =>
    intro l pre x W K hI hK
    unfold encStp
    obtain ⟨p, m, c, hsx⟩ := HSL.out x
    generalize ss.getD x (0, .slice none 0 0, [], -1) = s at hK hsx ⊢
    obtain ⟨v, sv, L, y⟩ := s
    dsimp only at hsx hK ⊢
    subst hsx
    have HI : Hid _ := hI
    have HK : Hid _ := hK
    clear hI hK
    gi_wp2
    have hI' := undI_own (w := w) (pb := pb) (gc := gc) (gt := gt) (n := N.length) (Bp := w1.heap.size) (lo := w4.heap.size) (ss := ss) (Nat.le_refl w.heap.size) pre W _ none HI.out (World.grownBy_alloc W (.cells #[.int .i64 v, .slice p m c, .int .i64 y] 78) none) (fun r e => by cases e)
    have hlo : w4.heap.size ≤ W.heap.size := by obtain ⟨_, _, _, _, _, _, _, h⟩ := HI.out; exact h
    exact HK.out _ _ ((KeepsOthers.alloc W _).from _) ⟨Below.heap_alloc _ _ _ (by omega), Below.heap_alloc _ _ _ (by omega)⟩ hI' ⟨W.heap.size, hlo, heap_alloc_new W _, rfl⟩
  case body =>
    rintro l pre x a' W hl hrec ⟨C, T, hPTW, h5, hdn, hbx, hbl, hlo⟩ ⟨B5, hB5, hBlk, rfl⟩ hpl
    obtain ⟨hOK, hInt⟩ := HGS.out (by omega) x
    have HNX : Hid (∀ q : List Int × List Int, q = und1 (C, T) ((ss.getD x (0, .slice none 0 0, [], -1)).1, (ss.getD x (0, .slice none 0 0, [], -1)).2.2) → pre ++ [x] = downS ss.length (pre ++ [x]).length → q = undS N.length ((revS ss).take (pre ++ [x]).length)) := by
      rintro q rfl hpx
      obtain ⟨h1, h2⟩ := downS_next hpx
      have hlt : pre.length < (revS ss).length := by unfold revS; rw [List.length_reverse, List.length_map]; exact hpl
      rw [List.length_append, List.length_singleton, undS_take N.length hlt, ← hdn h1]
      congr 1
      have h3 := revS_at hpl
      rw [List.getElem?_eq_getElem hlt, ← h2] at h3
      simp only [Option.some.injEq] at h3
      exact h3.symm
    have hmx : Try.prog.follows .mixedOrders = true := by kernel_rfl
    generalize ss.getD x (0, .slice none 0 0, [], -1) = s at *
    obtain ⟨v, sv, L, y⟩ := s
    dsimp only at hOK hInt hBlk HNX ⊢
    obtain ⟨⟨k, rfl, hkn⟩, hy, hLl, hLu⟩ := hOK
    dsimp only at hkn hy hLl hLu
    have b0 := hBlk.cell (j := 0) rfl
    have b1 := hBlk.cell (j := 1) rfl
    have b2 := hBlk.cell (j := 2) rfl
    have cp := hbx.cell
    have p0 := hPTW.var.cell (j := 0) rfl
    have hkI : (k : Int) < (N.length : Int) := by omega
    obtain ⟨d0, f0⟩ := hPTW.atC hkn
    have hpl4 := hPT4.var.lt
    have hgl4 := hPT4.col.lt
    have htl4 := hPT4.tak.lt
    subst hy
    obtain ⟨ps, cs, rfl⟩ := hInt.len
    have hpt := paint_any pb gc gt N.length 5 (by omega) C T L k hkn hLl (fun u hu => by obtain ⟨j, h1, h2⟩ := hLu u hu; exact ⟨j, h1, h2, h5 j⟩) (.slice ps L.length cs) w.heap.size W hPTW (hInt.below hbl) (fun q hq => ⟨by omega, by omega⟩) hbl.size
    have hcl : gc < W.heap.size := hPTW.col.lt
    have htl : gt < W.heap.size := hPTW.tak.lt
    have hbpl := hbx.lt
    have HW : Hid (∀ W' : World, PT pb gc gt N.length 5 (C.set k (hueL C k T L)) (markT C (k : Int) T L) W' → (∀ q, q < W.heap.size → q ≠ gc → q ≠ gt → W'.heap[q]? = W.heap[q]?) → W'.os = W.os → W'.tape = W.tape → W'.output = W.output → W.heap.size ≤ W'.heap.size → KeepsFrom w4.heap.size W W' ∧ Keep2 ((Value.slice pt ss.length ct).ownBlock.getD (w1.heap.size + 1)) (w1.heap.size + 1) W W' ∧ UndI w pb gc gt N.length w1.heap.size w4.heap.size ss (pre ++ [x]) W') := by
      intro W' hP' hq ho ht hou hsz
      have hc1 := hPT.col.lt
      have ht1 := hPT.tak.lt
      refine ⟨⟨hsz, fun q o hB hq' ho' => ?_⟩, ⟨hq _ (by omega) ?_ ?_, hq _ (by omega) (by omega) (by omega)⟩, _, _, hP', getD_set_lt h5 k ?_, HNX.out _ ?_, (hq _ hbpl (by omega) (by omega)).trans hbx, ?_, Nat.le_trans hlo hsz⟩
      · have h1 : q < W.heap.size := (Array.getElem?_eq_some_iff.1 hq').1
        exact (hq q h1 (by omega) (by omega)).trans hq'
      · cases h : (Value.slice pt ss.length ct).ownBlock with
        | none => show w1.heap.size + 1 ≠ gc; omega
        | some b => have := htb b h; show b ≠ gc; omega
      · cases h : (Value.slice pt ss.length ct).ownBlock with
        | none => show w1.heap.size + 1 ≠ gt; omega
        | some b => have := htb b h; show b ≠ gt; omega
      · have h1 := hue_lt C k T L (by rw [hPTW.lenT]; omega)
        rw [hPTW.lenT] at h1
        exact h1
      · unfold und1
        simp
      · exact hbl.trans ⟨ho, ht, hou, hsz, fun q hq' => hq q (Nat.lt_of_lt_of_le hq' hbl.size) (by omega) (by omega)⟩
    have HPT : Hid _ := hpt
    clear HNX hPTW h5 hdn hbx hbl hInt hBlk hPT4 hb1 hb14 hbp hbs hb4 hstp4 htb hk2 HSL HGS HSTP HINN HU c0 c7 hPT hLu hrec hpt d0 f0 p0
    gi_wp2_with (refine ⟨trivial, ?_⟩; gi_at_call 27; refine (CallsIn.inRound l (callsIn_wide.2 HPT.out)).mono ?_; rintro e W' ⟨rfl, hP', hq, ho, ht, hou, hsz⟩)
    exact HW.out W' hP' hq ho ht hou hsz
  case done =>
    rintro D xs W hD rfl ⟨C, T, hPTW, h5, hdn, hbx, hbl, hlo⟩ hK
    have hfin := hdn (by rw [downS_length])
    rw [downS_length, List.take_of_length_le (by unfold revS; rw [List.length_reverse, List.length_map]; omega)] at hfin
    have cp := hbx.cell
    have p0 := hPTW.var.cell (j := 0) rfl
    have HF : Hid ((C, T) = undS N.length (revS ss)) := hfin
    have HC : Hid (Blk 3 W gc (C.map (Value.int .i64))) := hPTW.col
    clear hfin hPTW
    gi_wp2
    refine ⟨by simp, .inl ⟨_, _, rfl, run_takeDeferred hK, ?_⟩⟩
    refine ⟨.slice (some ⟨gc, 0, none⟩) N.length N.length, by simp [results, Try.results36, go_sem], gc, rfl, hgc, ?_, hbl.grown (grownBy_putObj' W D (.deferred none)) hbl.size (fun k e => by cases e; omega)⟩
    rw [← HF.out]
    exact blk_own HC.out (grownBy_putObj' W D (.deferred none)) (fun r e => by cases e; exact ⟨_, hK, rfl⟩)
  case stop =>
    rintro D c pre W hD hpre h hK
    exact h.elim
end Go.Proofs.Yteekhofollaooaa

namespace Go.Proofs.Yteekhofollaooaa

/-- How a vertex went: with these neighbours, alone (none), or into another one. -/
abbrev Stp5 := Nat × List Nat × Option Nat
def updC (g : Nat → Int) (v : Nat) (x : Int) : Nat → Int := fun u => if u = v then x else g u
theorem updC_same (g : Nat → Int) (v : Nat) (x : Int) : updC g v x v = x := if_pos rfl
theorem updC_other (g : Nat → Int) {v u : Nat} (x : Int) (h : u ≠ v) : updC g v x u = g u := if_neg h
/-- The least colour that none of these has. -/
def LeastG (g : Nat → Int) (near : List Nat) (k : Nat) : Prop := (∀ u ∈ near, g u ≠ (k : Int)) ∧ ∀ i, i < k → ∃ u ∈ near, g u = (i : Int)
/-- The colours that vertices get, the last one that went first. -/
def ColR : List Stp5 → (Nat → Int) → Prop
  | [], f => ∀ u, f u = -1
  | (v, near, none) :: rest, f => ∃ g k, ColR rest g ∧ LeastG g near k ∧ f = updC g v (k : Int)
  | (v, _, some y) :: rest, f => ∃ g, ColR rest g ∧ f = updC g v (g y)
/-- Two vertices have become one. -/
def mrg (adj : Nat → Nat → Prop) (x y : Nat) (a b : Nat) : Prop := a ≠ x ∧ b ≠ x ∧ (adj a b ∨ (a = y ∧ adj x b) ∨ (b = y ∧ adj a x))
def less1 (adj : Nat → Nat → Prop) (v : Nat) (a b : Nat) : Prop := adj a b ∧ a ≠ v ∧ b ≠ v
/-- So vertices may go: with four neighbours at most, or with five two of which become one at once. -/
def Shr : List Stp5 → (Nat → Nat → Prop) → List Nat → Prop
  | [], _, S => S = []
  | (v, near, none) :: rest, adj, S => v ∈ S ∧ near.Nodup ∧ (∀ u, u ∈ near ↔ u ∈ S ∧ adj v u) ∧ (near.length ≤ 4 ∨ (near.length ≤ 5 ∧ ∃ x y l rest', rest = (x, l, some y) :: rest' ∧ x ∈ near ∧ y ∈ near ∧ x ≠ y)) ∧ Shr rest (less1 adj v) (S.erase v)
  | (x, _, some y) :: rest, adj, S => x ∈ S ∧ y ∈ S ∧ x ≠ y ∧ ¬ adj x y ∧ Shr rest (mrg adj x y) (S.erase x)
theorem nodup_len5 : ∀ {A B : List Int}, A.Nodup → (∀ x ∈ A, x ∈ B) → A.length ≤ B.length
  | [], _, _, _ => Nat.zero_le _
  | a :: A, B, hn, h => by
    have hn' := List.nodup_cons.1 hn
    have ha := h a List.mem_cons_self
    have := nodup_len5 (A := A) (B := B.erase a) hn'.2 (fun x hx => (List.mem_erase_of_ne (fun e : x = a => hn'.1 (by rw [← e]; exact hx))).2 (h x (List.mem_cons_of_mem _ hx)))
    rw [List.length_erase_of_mem ha] at this
    have hp := List.length_pos_of_mem ha
    simp only [List.length_cons]
    omega
theorem least_few {g : Nat → Int} {near : List Nat} {k : Nat} (h : LeastG g near k) (B : List Nat) (hB : ∀ u ∈ near, ∃ w ∈ B, g w = g u) (hl : B.length ≤ 4) : k < 5 := by
  by_cases hk : k < 5
  · exact hk
  · exfalso
    have hA : ([0, 1, 2, 3, 4] : List Int).Nodup := by decide
    have hin : ∀ x ∈ ([0, 1, 2, 3, 4] : List Int), x ∈ B.map g := by
      intro x hx
      obtain ⟨i, hi, rfl⟩ : ∃ i : Nat, i < 5 ∧ x = (i : Int) := by
        simp only [List.mem_cons, List.not_mem_nil, or_false] at hx
        rcases hx with rfl | rfl | rfl | rfl | rfl
        · exact ⟨0, by omega, rfl⟩
        · exact ⟨1, by omega, rfl⟩
        · exact ⟨2, by omega, rfl⟩
        · exact ⟨3, by omega, rfl⟩
        · exact ⟨4, by omega, rfl⟩
      obtain ⟨u, hu, e⟩ := h.2 i (by omega)
      obtain ⟨w, hw, e'⟩ := hB u hu
      exact List.mem_map.2 ⟨w, hw, e'.trans e⟩
    have := nodup_len5 hA hin
    simp at this
    omega
theorem col_five : ∀ (st : List Stp5) (adj : Nat → Nat → Prop) (S : List Nat) (f : Nat → Int), (∀ a b, adj a b → adj b a) → (∀ a, ¬ adj a a) → S.Nodup → Shr st adj S → ColR st f → ∀ u ∈ S, (0 ≤ f u ∧ f u < 5) ∧ ∀ w ∈ S, adj u w → f u ≠ f w
  | [], _, S, _, _, _, _, hS, _ => by
    have : S = [] := hS
    subst this
    intro u hu
    simp at hu
  | (v, near, none) :: rest, adj, S, f, hsym, hirr, hn, hS, hC => by
    obtain ⟨hv, hnn, hnear, hfew, hS'⟩ := hS
    obtain ⟨g, k, hg, hk, rfl⟩ := hC
    have ih := col_five rest (less1 adj v) (S.erase v) g (fun a b h => ⟨hsym a b h.1, h.2.2, h.2.1⟩) (fun a h => hirr a h.1) (hn.sublist List.erase_sublist) hS' hg
    have hmem : ∀ u, u ∈ S → u ≠ v → u ∈ S.erase v := fun u hu hne => (List.mem_erase_of_ne hne).2 hu
    have hk5 : k < 5 := by
      rcases hfew with h4 | ⟨h5, x, y, l, rest', rfl, hx, hy, hxy⟩
      · exact least_few hk near (fun u hu => ⟨u, hu, rfl⟩) h4
      · obtain ⟨g', hg', rfl⟩ := hg
        refine least_few hk (near.erase x) (fun u hu => ?_) (by rw [List.length_erase_of_mem hx]; omega)
        by_cases e : u = x
        · subst e
          exact ⟨y, (List.mem_erase_of_ne (Ne.symm hxy)).2 hy, by rw [updC_same, updC_other _ _ (Ne.symm hxy)]⟩
        · exact ⟨u, (List.mem_erase_of_ne e).2 hu, rfl⟩
    intro u hu
    by_cases eu : u = v
    · subst eu
      refine ⟨by rw [updC_same]; omega, fun w hw ha => ?_⟩
      have hne : w ≠ u := fun e => hirr u (e ▸ ha)
      rw [updC_same, updC_other _ _ hne]
      exact Ne.symm (hk.1 w ((hnear w).2 ⟨hw, ha⟩))
    · have h1 := ih u (hmem u hu eu)
      refine ⟨by rw [updC_other _ _ eu]; exact h1.1, fun w hw ha => ?_⟩
      rw [updC_other _ _ eu]
      by_cases ew : w = v
      · subst ew
        rw [updC_same]
        exact hk.1 u ((hnear u).2 ⟨hu, hsym u w ha⟩)
      · rw [updC_other _ _ ew]
        exact h1.2 w (hmem w hw ew) ⟨ha, eu, ew⟩
  | (x, _, some y) :: rest, adj, S, f, hsym, hirr, hn, hS, hC => by
    obtain ⟨hx, hy, hxy, hna, hS'⟩ := hS
    obtain ⟨g, hg, rfl⟩ := hC
    have hmsym : ∀ a b, mrg adj x y a b → mrg adj x y b a := fun a b h => ⟨h.2.1, h.1, by
      rcases h.2.2 with h1 | ⟨h1, h2⟩ | ⟨h1, h2⟩
      · exact .inl (hsym a b h1)
      · exact .inr (.inr ⟨h1, hsym x b h2⟩)
      · exact .inr (.inl ⟨h1, hsym a x h2⟩)⟩
    have hmirr : ∀ a, ¬ mrg adj x y a a := fun a h => by
      rcases h.2.2 with h1 | ⟨h1, h2⟩ | ⟨h1, h2⟩
      · exact hirr a h1
      · subst h1; exact hna h2
      · subst h1; exact hna (hsym a x h2)
    have ih := col_five rest (mrg adj x y) (S.erase x) g hmsym hmirr (hn.sublist List.erase_sublist) hS' hg
    have hmem : ∀ u, u ∈ S → u ≠ x → u ∈ S.erase x := fun u hu hne => (List.mem_erase_of_ne hne).2 hu
    have hgy := ih y (hmem y hy (Ne.symm hxy))
    intro u hu
    by_cases eu : u = x
    · subst eu
      refine ⟨by rw [updC_same]; exact hgy.1, fun w hw ha => ?_⟩
      have hne : w ≠ u := fun e => hirr u (e ▸ ha)
      rw [updC_same, updC_other _ _ hne]
      exact hgy.2 w (hmem w hw hne) ⟨Ne.symm hxy, hne, .inr (.inl ⟨rfl, ha⟩)⟩
    · have h1 := ih u (hmem u hu eu)
      refine ⟨by rw [updC_other _ _ eu]; exact h1.1, fun w hw ha => ?_⟩
      rw [updC_other _ _ eu]
      by_cases ew : w = x
      · subst ew
        rw [updC_same]
        exact h1.2 y (hmem y hy (Ne.symm hxy)) ⟨eu, Ne.symm hxy, .inr (.inr ⟨rfl, ha⟩)⟩
      · rw [updC_other _ _ ew]
        exact h1.2 w (hmem w hw ew) ⟨eu, ew, .inl ha⟩
end Go.Proofs.Yteekhofollaooaa

namespace Go.Proofs.Yteekhofollaooaa
open Go Go.Proofs Go.RowKit Go.Maps

theorem file_grows {F : List (List Int)} {d : Nat} {k x : Int} {e : Nat} (h : x ∈ F.getD e []) : x ∈ (fileF F d k).getD e [] := by
  unfold fileF
  split
  · by_cases hd : d = e
    · subst hd
      by_cases hl : d < F.length
      · rw [getD_set_self hl]
        exact List.mem_append_left _ h
      · rw [List.getD_eq_getElem?_getD, List.getElem?_eq_none (by omega)] at h
        cases h
    · rw [getD_set_other hd]
      exact h
  · exact h
theorem file_has {F : List (List Int)} {d : Nat} {k : Int} (hF : F.length = 6) (hd : d ≤ 5) : k ∈ (fileF F d k).getD d [] := by
  unfold fileF
  rw [if_pos hd, getD_set_self (by omega)]
  simp
theorem file_len {F : List (List Int)} {d : Nat} {k : Int} : (fileF F d k).length = F.length := by
  unfold fileF
  split <;> simp

/-- What a drop leaves. -/
theorem dropF_all (v : Int) : ∀ (L : List Int) (q : List (Option (List Int)) × List (List Int)), L.Nodup → q.2.length = 6 → (∀ u ∈ L, ∃ (i : Nat) (T : List Int), u = (i : Int) ∧ q.1[i]? = some (some T)) →
    (∀ j : Nat, (L.foldl (drop1 v) q).1[j]? = if (j : Int) ∈ L then (q.1[j]?).map (Option.map fun T => T.erase v) else q.1[j]?) ∧
    (∀ (e : Nat) (x : Int), x ∈ q.2.getD e [] → x ∈ (L.foldl (drop1 v) q).2.getD e []) ∧
    (∀ (j : Nat) (T : List Int), (j : Int) ∈ L → (L.foldl (drop1 v) q).1[j]? = some (some T) → T.length ≤ 5 → (j : Int) ∈ (L.foldl (drop1 v) q).2.getD T.length [])
  | [], q, _, _, _ => ⟨fun j => by simp, fun e x h => h, fun j T h => by cases h⟩
  | u :: L, q, hn, h6, hu => by
    obtain ⟨hun, hn'⟩ := List.nodup_cons.1 hn
    obtain ⟨i, T0, rfl, hi⟩ := hu u List.mem_cons_self
    have hil := (List.getElem?_eq_some_iff.1 hi).1
    have hq : drop1 v q (i : Int) = (q.1.set i (some (T0.erase v)), fileF q.2 (T0.erase v).length (i : Int)) := by
      unfold drop1 nbN
      simp [hi]
    obtain ⟨h1, h2, h3⟩ := dropF_all v L (drop1 v q (i : Int)) hn' (by rw [hq]; show (fileF q.2 _ _).length = 6; rw [file_len]; exact h6) (fun x hx => by
      obtain ⟨j, T, rfl, hj⟩ := hu x (List.mem_cons_of_mem _ hx)
      have hne : i ≠ j := fun e => hun (by rw [e]; exact hx)
      exact ⟨j, T, rfl, by rw [hq]; show (q.1.set i _)[j]? = _; rw [List.getElem?_set_ne hne]; exact hj⟩)
    refine ⟨fun j => ?_, fun e x hx => ?_, fun j T hj hT h5 => ?_⟩
    · rw [List.foldl_cons, h1 j, hq]
      show (if (j : Int) ∈ L then ((q.1.set i (some (T0.erase v)))[j]?).map (Option.map fun T => T.erase v) else (q.1.set i (some (T0.erase v)))[j]?) = _
      by_cases e : i = j
      · subst e
        rw [if_neg hun, if_pos List.mem_cons_self, List.getElem?_set_self hil, hi]
        rfl
      · rw [List.getElem?_set_ne e]
        by_cases hj : (j : Int) ∈ L
        · rw [if_pos hj, if_pos (List.mem_cons_of_mem _ hj)]
        · rw [if_neg hj, if_neg (fun hm => by
            rcases List.mem_cons.1 hm with h | h
            · exact e (by omega)
            · exact hj h)]
    · rw [List.foldl_cons]
      refine h2 e x ?_
      rw [hq]
      exact file_grows hx
    · rw [List.foldl_cons] at hT ⊢
      rcases List.mem_cons.1 hj with h | h
      · have e : j = i := by omega
        subst e
        rw [h1 j, if_neg hun, hq] at hT
        have hT' : (q.1.set j (some (T0.erase v)))[j]? = some (some T) := hT
        rw [List.getElem?_set_self hil] at hT'
        simp only [Option.some.injEq] at hT'
        subst hT'
        refine h2 _ _ ?_
        rw [hq]
        exact file_has h6 h5
      · exact h3 j T h hT h5

/-- Who is left, and who is next to whom. -/
def leftL (N : List (Option (List Int))) : List Nat := (List.range N.length).filter fun v => (N.getD v none).isSome
def adjN (N : List (Option (List Int))) (a b : Nat) : Prop := ∃ S, N[a]? = some (some S) ∧ (b : Int) ∈ S
def conv (s : StpM) : Stp5 := (s.1.toNat, s.2.2.1.map Int.toNat, none)
theorem mem_left {N : List (Option (List Int))} {v : Nat} : v ∈ leftL N ↔ ∃ S, N[v]? = some (some S) := by
  unfold leftL
  rw [List.mem_filter, List.mem_range, List.getD_eq_getElem?_getD]
  constructor
  · rintro ⟨h1, h2⟩
    rw [List.getElem?_eq_getElem h1] at h2 ⊢
    cases h : N[v] with
    | none => rw [h] at h2; cases h2
    | some S => exact ⟨S, rfl⟩
  · rintro ⟨S, h⟩
    exact ⟨(List.getElem?_eq_some_iff.1 h).1, by rw [h]; rfl⟩
theorem left_nodup (N : List (Option (List Int))) : (leftL N).Nodup := List.nodup_range.filter _

/-- What stands between two drops. -/
structure FvI (n : Nat) (adj0 : Nat → Nat → Prop) (N : List (Option (List Int))) (F : List (List Int)) (ss : List StpM) : Prop where
  len : N.length = n
  sub : ∀ (v : Nat) (S : List Int), N[v]? = some (some S) → S.Nodup ∧ S.length ≤ 4 ∧ ∀ u ∈ S, ∃ j : Nat, u = (j : Int) ∧ j ≠ v ∧ ∃ T, N[j]? = some (some T) ∧ (v : Int) ∈ T
  bk : Bk N F (-1)
  fv : FV n (n + 4 * ss.length) F
  cnt : (leftL N).length + ss.length = n
  stp : ∀ s ∈ ss, StepOK n s ∧ s.2.2.1.length ≤ 4 ∧ N[s.1.toNat]? = some none
  nod : (ss.map fun s => s.1).Nodup
  shr : ∀ rest, Shr rest (adjN N) (leftL N) → Shr (ss.map conv ++ rest) adj0 (List.range n)

theorem FvI.step {n : Nat} {adj0 : Nat → Nat → Prop} {N : List (Option (List Int))} {F F1 : List (List Int)} {ss : List StpM} (h : FvI n adj0 N F ss) {k : Nat} {S : List Int} (hS : N[k]? = some (some S)) (hF1 : FV n (n + 4 * ss.length) F1) (hB1 : Bk N F1 (k : Int)) {L : List Int} (hp : L.Perm S) (sv : Value) :
    FvI n adj0 (dropQ (k : Int) L N F1).1 (dropQ (k : Int) L N F1).2 (ss ++ [((k : Int), sv, L, -1)]) := by
  obtain ⟨hSn, hS4, hSu⟩ := h.sub k S hS
  have hkN : k < N.length := (List.getElem?_eq_some_iff.1 hS).1
  have hLn : L.Nodup := hp.nodup_iff.2 hSn
  have hkL : (k : Int) ∉ L := fun hm => by
    obtain ⟨j, e, hne, _⟩ := hSu _ (hp.mem_iff.1 hm)
    exact hne (by omega)
  have hset : ∀ j : Nat, (N.set k none)[j]? = if j = k then some none else N[j]? := fun j => by
    by_cases e : j = k
    · subst e; rw [if_pos rfl, List.getElem?_set_self hkN]
    · rw [if_neg e, List.getElem?_set_ne (Ne.symm e)]
  obtain ⟨h1, h2, h3⟩ := dropF_all (k : Int) L (N.set k none, F1) hLn hF1.1 (fun u hu => by
    obtain ⟨j, e, hne, T, hT, _⟩ := hSu u (hp.mem_iff.1 hu)
    exact ⟨j, T, e, by show (N.set k none)[j]? = _; rw [hset, if_neg hne]; exact hT⟩)
  have hq : dropQ (k : Int) L N F1 = L.foldl (drop1 (k : Int)) (N.set k none, F1) := by unfold dropQ; rw [Int.toNat_natCast]
  rw [← hq] at h1 h2 h3
  -- each entry
  have hat : ∀ j : Nat, (dropQ (k : Int) L N F1).1[j]? = if j = k then some none else if (j : Int) ∈ L then (N[j]?).map (Option.map fun T => T.erase (k : Int)) else N[j]? := fun j => by
    rw [h1 j]
    show (if (j : Int) ∈ L then ((N.set k none)[j]?).map _ else (N.set k none)[j]?) = _
    rw [hset]
    by_cases e : j = k
    · subst e
      rw [if_neg hkL, if_pos rfl, if_pos rfl]
    · rw [if_neg e, if_neg e]
  have hin : ∀ {j : Nat} {T : List Int}, (dropQ (k : Int) L N F1).1[j]? = some (some T) → j ≠ k ∧ ∃ T0, N[j]? = some (some T0) ∧ T = T0.erase (k : Int) := by
    intro j T hT
    rw [hat j] at hT
    by_cases e : j = k
    · rw [if_pos e] at hT; cases hT
    · rw [if_neg e] at hT
      refine ⟨e, ?_⟩
      by_cases hj : (j : Int) ∈ L
      · rw [if_pos hj] at hT
        cases h' : N[j]? with
        | none => rw [h'] at hT; cases hT
        | some o =>
          cases o with
          | none => rw [h'] at hT; cases hT
          | some T0 =>
            rw [h'] at hT
            exact ⟨T0, rfl, by simpa using hT.symm⟩
      · rw [if_neg hj] at hT
        refine ⟨T, hT, ?_⟩
        rw [List.erase_of_not_mem]
        intro hm
        obtain ⟨j', e', _, T', hT', hjT⟩ := (h.sub j T hT).2.2 _ hm
        have e2 : k = j' := by omega
        subst e2
        rw [hS] at hT'
        simp only [Option.some.injEq] at hT'
        subst hT'
        exact hj (hp.mem_iff.2 hjT)
  have hout : ∀ {j : Nat} {T0 : List Int}, j ≠ k → N[j]? = some (some T0) → (dropQ (k : Int) L N F1).1[j]? = some (some (T0.erase (k : Int))) := by
    intro j T0 hne hT
    rw [hat j, if_neg hne]
    by_cases hj : (j : Int) ∈ L
    · rw [if_pos hj, hT]; rfl
    · rw [if_neg hj, hT, List.erase_of_not_mem]
      intro hm
      obtain ⟨j', e', _, T', hT', hjT⟩ := (h.sub j T0 hT).2.2 _ hm
      have e2 : k = j' := by omega
      subst e2
      rw [hS] at hT'
      simp only [Option.some.injEq] at hT'
      subst hT'
      exact hj (hp.mem_iff.2 hjT)
  have hlen : (dropQ (k : Int) L N F1).1.length = n := by
    rw [hq, dropF_len]
    show (N.set k none).length = n
    rw [List.length_set]
    exact h.len
  have hleft : leftL (dropQ (k : Int) L N F1).1 = (leftL N).erase k := by
    rw [(left_nodup N).erase_eq_filter]
    unfold leftL
    rw [List.filter_filter, hlen, h.len]
    refine List.filter_congr fun v hv => ?_
    rw [List.getD_eq_getElem?_getD, List.getD_eq_getElem?_getD, hat v]
    by_cases e : v = k
    · subst e; rw [if_pos rfl]; simp
    · rw [if_neg e]
      by_cases hj : (v : Int) ∈ L
      · rw [if_pos hj]
        cases h' : N[v]? with
        | none => simp
        | some o => cases o <;> simp [e]
      · rw [if_neg hj]
        simp [e]
  have hkl : k ∈ leftL N := mem_left.2 ⟨S, hS⟩
  have hL4 : L.length ≤ 4 := by rw [hp.length_eq]; exact hS4
  have hLu : ∀ u ∈ L, ∃ j : Nat, u = (j : Int) ∧ j < n := fun u hu => by
    obtain ⟨j, e, _, T, hT, _⟩ := hSu u (hp.mem_iff.1 hu)
    exact ⟨j, e, by rw [← h.len]; exact (List.getElem?_eq_some_iff.1 hT).1⟩
  refine ⟨hlen, fun v T hT => ?_, fun v T hT h5 _ => ?_, ?_, ?_, fun s hs => ?_, ?_, fun rest hr => ?_⟩
  · obtain ⟨hvk, T0, hT0, rfl⟩ := hin hT
    obtain ⟨g1, g2, g3⟩ := h.sub v T0 hT0
    refine ⟨g1.erase _, Nat.le_trans (List.length_erase_le) g2, fun u hu => ?_⟩
    obtain ⟨j, e, hne, T', hT', hv'⟩ := g3 u (List.mem_of_mem_erase hu)
    have hjk : j ≠ k := fun e' => by
      subst e'
      subst e
      exact (List.Nodup.not_mem_erase g1) hu
    exact ⟨j, e, hne, _, hout hjk hT', (List.mem_erase_of_ne (fun e' => hvk (by omega))).2 hv'⟩
  · obtain ⟨hvk, T0, hT0, e⟩ := hin hT
    by_cases hv : (v : Int) ∈ L
    · exact h3 v T hv hT h5
    · rw [hat v, if_neg hvk, if_neg hv] at hT
      exact h2 _ _ (hB1 v T hT h5 (by omega))
  · rw [List.length_append, List.length_singleton]
    have h4 := dropF_fv (k : Int) (n := n) L (N.set k none, F1) hLu hF1
    rw [← hq] at h4
    exact h4.mono (by omega)
  · rw [hleft, List.length_erase_of_mem hkl, List.length_append, List.length_singleton]
    have := h.cnt
    have := List.length_pos_of_mem hkl
    omega
  · rcases List.mem_append.1 hs with hs | hs
    · obtain ⟨g1, g2, g3⟩ := h.stp s hs
      refine ⟨g1, g2, ?_⟩
      rw [hat]
      split
      · rfl
      · rw [g3]
        split <;> rfl
    · rw [List.mem_singleton.1 hs]
      exact ⟨⟨⟨k, rfl, by rw [← h.len]; exact hkN⟩, rfl, by show L.length ≤ _; omega, hLu⟩, hL4, by show (dropQ (k : Int) L N F1).1[((k : Int)).toNat]? = _; rw [Int.toNat_natCast, hat, if_pos rfl]⟩
  · rw [List.map_append, List.nodup_append]
    refine ⟨h.nod, by simp, fun a ha b hb e => ?_⟩
    obtain ⟨s, hs, rfl⟩ := List.mem_map.1 ha
    simp only [List.map_cons, List.map_nil, List.mem_singleton] at hb
    have g3 := (h.stp s hs).2.2
    rw [e, hb, Int.toNat_natCast, hS] at g3
    cases g3
  · rw [List.map_append, List.append_assoc]
    refine h.shr _ ?_
    show Shr ((k, L.map Int.toNat, none) :: rest) (adjN N) (leftL N)
    refine ⟨hkl, ?_, fun u => ?_, .inl (by rw [List.length_map]; exact hL4), ?_⟩
    · refine List.pairwise_map.2 (List.Pairwise.imp_of_mem (fun {a b} ha hb hne e => ?_) hLn)
      obtain ⟨i, rfl, _⟩ := hLu a ha
      obtain ⟨j, rfl, _⟩ := hLu b hb
      simp at e
      exact hne (by rw [e])
    · rw [List.mem_map]
      constructor
      · rintro ⟨x, hx, rfl⟩
        obtain ⟨j, rfl, _, T, hT, _⟩ := hSu x (hp.mem_iff.1 hx)
        rw [Int.toNat_natCast]
        exact ⟨mem_left.2 ⟨T, hT⟩, S, hS, hp.mem_iff.1 hx⟩
      · rintro ⟨_, S', hS', hu⟩
        rw [hS] at hS'
        simp only [Option.some.injEq] at hS'
        subst hS'
        exact ⟨(u : Int), hp.mem_iff.2 hu, by simp⟩
    · have e : less1 (adjN N) k = adjN (dropQ (k : Int) L N F1).1 := by
        funext a b
        apply propext
        constructor
        · rintro ⟨⟨T, hT, hb⟩, ha, hbk⟩
          exact ⟨_, hout ha hT, (List.mem_erase_of_ne (fun e' => hbk (by omega))).2 hb⟩
        · rintro ⟨T, hT, hb⟩
          obtain ⟨hak, T0, hT0, rfl⟩ := hin hT
          refine ⟨⟨T0, hT0, List.mem_of_mem_erase hb⟩, hak, fun e' => ?_⟩
          subst e'
          exact (List.Nodup.not_mem_erase (h.sub a T0 hT0).1) hb
      rw [e, ← hleft]
      exact hr

/-- The colours of what has been undone. -/
theorem revS_cons (s : StpM) (ss : List StpM) : revS (s :: ss) = revS ss ++ [(s.1, s.2.2)] := by simp [revS]
theorem undS_snoc (n : Nat) (R : List (Int × List Int × Int)) (s : Int × List Int × Int) : undS n (R ++ [s]) = und1 (undS n R) s := by unfold undS; rw [List.foldl_append]; rfl
theorem undS_len (n : Nat) : ∀ R, (undS n R).1.length = n := by
  intro R
  unfold undS
  have key : ∀ (R : List (Int × List Int × Int)) (q : List Int × List Int), (R.foldl und1 q).1.length = q.1.length := by
    intro R
    induction R with
    | nil => intro q; rfl
    | cons s R ih =>
      intro q
      rw [List.foldl_cons, ih]
      unfold und1
      split <;> simp
  rw [key]
  simp
theorem colr_of (n : Nat) : ∀ (ss : List StpM), (∀ s ∈ ss, StepOK n s ∧ s.2.2.1.length ≤ 4) → (ss.map fun s => s.1).Nodup →
    ColR (ss.map conv) (fun u => (undS n (revS ss)).1.getD u (-1)) ∧ GS 5 (undS n (revS ss)).1 (undS n (revS ss)).2 ((revS ss).map fun s => s.1)
  | [], _, _ => by
    refine ⟨fun u => ?_, ?_⟩
    · show (List.replicate n (-1 : Int)).getD u (-1) = -1
      rw [List.getD_eq_getElem?_getD, List.getElem?_replicate]
      split <;> rfl
    · exact GS.start n 5 (by omega)
  | s :: ss, hs, hn => by
    rw [List.map_cons, List.nodup_cons] at hn
    obtain ⟨ih1, ih2⟩ := colr_of n ss (fun x hx => hs x (List.mem_cons_of_mem _ hx)) hn.2
    obtain ⟨⟨⟨v, hv, hvn⟩, hy, hl, hu⟩, h4⟩ := hs s List.mem_cons_self
    have hP : (v : Int) ∉ (revS ss).map fun s => s.1 := by
      intro hm
      obtain ⟨x, hx, e⟩ := List.mem_map.1 hm
      unfold revS at hx
      rw [List.mem_reverse, List.mem_map] at hx
      obtain ⟨y, hy', rfl⟩ := hx
      exact hn.1 (List.mem_map.2 ⟨y, hy', by rw [hv]; exact e⟩)
    have hlen := undS_len n (revS ss)
    rw [revS_cons, undS_snoc]
    generalize undS n (revS ss) = q at *
    obtain ⟨C, T⟩ := q
    have e1 : und1 (C, T) (s.1, s.2.2) = (C.set v (hueL C v T s.2.2.1), markT C (v : Int) T s.2.2.1) := by
      unfold und1
      dsimp only
      rw [hy, if_neg (by omega), hv, Int.toNat_natCast]
    rw [e1]
    dsimp only at *
    obtain ⟨c, hc, hc5, hL⟩ := hue_ok ih2.len (ih2.fresh hP) (near := s.2.2.1) (C := C) (by omega)
    refine ⟨?_, ?_⟩
    · rw [List.map_cons]
      have e2 : conv s = (v, s.2.2.1.map Int.toNat, none) := by unfold conv; rw [hv, Int.toNat_natCast]
      rw [e2]
      have hgd : ∀ u ∈ s.2.2.1, C.getD u.toNat (-1) = C.getD u.toNat 0 := fun u hu' => by
        obtain ⟨j, rfl, hj⟩ := hu u hu'
        rw [Int.toNat_natCast, List.getD_eq_getElem?_getD, List.getD_eq_getElem?_getD, List.getElem?_eq_getElem (by omega)]
        rfl
      refine ⟨fun u => C.getD u (-1), c, ih1, ⟨fun u hu' => ?_, fun i hi => ?_⟩, ?_⟩
      · obtain ⟨x, hx, rfl⟩ := List.mem_map.1 hu'
        show C.getD x.toNat (-1) ≠ (c : Int)
        rw [hgd x hx]
        exact hL.none x hx
      · obtain ⟨x, hx, e⟩ := hL.each i hi
        exact ⟨x.toNat, List.mem_map.2 ⟨x, hx, rfl⟩, by show C.getD x.toNat (-1) = (i : Int); rw [hgd x hx]; exact e⟩
      · funext u
        unfold updC
        rw [List.getD_eq_getElem?_getD, List.getElem?_set, hc]
        by_cases e : v = u
        · subst e
          rw [if_pos rfl, if_pos (by omega), if_pos rfl]
          rfl
        · rw [if_neg e, if_neg (Ne.symm e)]
          show _ = C.getD u (-1)
          rw [List.getD_eq_getElem?_getD]
    · have := ih2.paint hP (near := s.2.2.1) (by omega)
      rw [List.map_append]
      show GS 5 _ _ (_ ++ [s.1])
      rw [hv]
      exact this
/-- All have gone: five colours do. -/
theorem FvI.done {n : Nat} {adj0 : Nat → Nat → Prop} {N : List (Option (List Int))} {F : List (List Int)} {ss : List StpM} (h : FvI n adj0 N F ss) (hs : ∀ a b, adj0 a b → adj0 b a) (hi : ∀ a, ¬ adj0 a a) (hend : ∀ (v : Nat) (S : List Int), N[v]? = some (some S) → 5 < S.length) :
    ∀ u, u < n → (0 ≤ (undS n (revS ss)).1.getD u (-1) ∧ (undS n (revS ss)).1.getD u (-1) < 5) ∧ ∀ w, w < n → adj0 u w → (undS n (revS ss)).1.getD u (-1) ≠ (undS n (revS ss)).1.getD w (-1) := by
  have hl : leftL N = [] := by
    cases e : leftL N with
    | nil => rfl
    | cons v t =>
      obtain ⟨S, hS⟩ := mem_left.1 (show v ∈ leftL N by rw [e]; exact List.mem_cons_self)
      have h1 := (h.sub v S hS).2.1
      have h2 := hend v S hS
      omega
  have hshr := h.shr [] (by rw [hl]; rfl)
  rw [List.append_nil] at hshr
  have hcol := (colr_of n ss (fun s hs => ⟨(h.stp s hs).1, (h.stp s hs).2.1⟩) h.nod).1
  have := col_five (ss.map conv) adj0 (List.range n) _ hs hi List.nodup_range hshr hcol
  intro u hu
  obtain ⟨h1, h2⟩ := this u (List.mem_range.2 hu)
  exact ⟨h1, fun w hw ha => h2 w (List.mem_range.2 hw) ha⟩
end Go.Proofs.Yteekhofollaooaa

namespace Go.Proofs.Yteekhofollaooaa
open Go Go.Proofs Go.RowKit Go.Maps

theorem newF_len (l : List Ed) : ∀ i, (newF l i).length = 6
  | 0 => rfl
  | i + 1 => by rw [newF, file_len]; exact newF_len l i
theorem newF_has {l : List Ed} : ∀ {i v : Nat}, v < i → (nb l (v : Int)).length ≤ 5 → (v : Int) ∈ (newF l i).getD (nb l (v : Int)).length []
  | 0, _, h, _ => absurd h (Nat.not_lt_zero _)
  | i + 1, v, h, h5 => by
    rw [newF]
    by_cases e : v = i
    · subst e
      exact file_has (newF_len l v) h5
    · exact file_grows (newF_has (i := i) (by omega) h5)
theorem newN_some {n : Nat} {l : List Ed} {v : Nat} {S : List Int} (h : (newN n l n)[v]? = some (some S)) : v < n ∧ S = nb l (v : Int) := by
  have hv : v < n := by have := (List.getElem?_eq_some_iff.1 h).1; rwa [newN_len] at this
  rw [newN_all hv] at h
  simp only [Option.some.injEq] at h
  exact ⟨hv, h.symm⟩
theorem FvI.start {n : Nat} {l : List Ed} (hR : RightG (n : Int) l) (h4 : ∀ v, v < n → (nb l (v : Int)).length ≤ 4) : FvI n (adjN (newN n l n)) (newN n l n) (newF l n) [] := by
  have hleft : leftL (newN n l n) = List.range n := by
    unfold leftL
    rw [newN_len, List.filter_eq_self]
    intro v hv
    rw [List.getD_eq_getElem?_getD, newN_all (List.mem_range.1 hv)]
    rfl
  refine ⟨newN_len _ _ _, fun v S hS => ?_, fun v S hS h5 _ => ?_, ?_, ?_, fun s hs => (by cases hs), List.nodup_nil, fun rest hr => ?_⟩
  · obtain ⟨hv, rfl⟩ := newN_some hS
    refine ⟨(nb_rise hR (v : Int)).imp (fun h => Int.ne_of_lt h), h4 v hv, fun u hu => ?_⟩
    obtain ⟨h1, h2, h3, h4'⟩ := nb_mutual hR hu
    obtain ⟨j, rfl⟩ : ∃ j : Nat, u = (j : Int) := ⟨u.toNat, by omega⟩
    exact ⟨j, rfl, fun e => h4' (by rw [e]), _, newN_all (by omega), h1⟩
  · obtain ⟨hv, rfl⟩ := newN_some hS
    exact newF_has hv h5
  · exact newF_fv (Nat.le_refl n)
  · rw [hleft]; simp
  · rw [hleft] at hr
    exact hr
theorem chk_of {n : Nat} {l : List Ed} (hR : RightG (n : Int) l) {C : List Int} (hC : C.length = n) (h : ∀ u, u < n → (0 ≤ C.getD u (-1) ∧ C.getD u (-1) < 5) ∧ ∀ w, w < n → adjN (newN n l n) u w → C.getD u (-1) ≠ C.getD w (-1)) : chkK (n : Int) l C 5 = 0 := by
  unfold chkK
  rw [if_pos (right_iff.2 hR), if_pos (by omega)]
  have hgd : ∀ u, u < n → C.getD u (-1) = C.getD u 0 := fun u hu => by
    rw [List.getD_eq_getElem?_getD, List.getD_eq_getElem?_getD, List.getElem?_eq_getElem (by omega)]
    rfl
  have h1 : C.any (offB 5) = false := by
    rw [List.any_eq_false]
    intro x hx
    obtain ⟨i, hi, rfl⟩ := List.mem_iff_getElem.1 hx
    have := (h i (by omega)).1
    rw [List.getD_eq_getElem?_getD, List.getElem?_eq_getElem hi] at this
    simp only [Option.getD_some] at this
    simp [offB]
    omega
  have h2 : l.any (oneB C) = false := by
    rw [List.any_eq_false]
    intro e he
    obtain ⟨hok, huv⟩ := hR.each e he
    obtain ⟨g1, g2, g3, g4, g5, _⟩ := hok
    have ha : adjN (newN n l n) e.1.toNat e.2.1.toNat := ⟨_, newN_all (by omega), by
      rw [mem_nb]
      exact ⟨e, he, .inl ⟨by omega, by omega⟩⟩⟩
    have := (h e.1.toNat (by omega)).2 e.2.1.toNat (by omega) ha
    rw [hgd _ (by omega), hgd _ (by omega)] at this
    simpa [oneB] using this
  rw [h1, h2]
  rfl

set_option maxRecDepth 100000 in
set_option maxHeartbeats 8000000 in
theorem five_few (n : Nat) (hn : n ≤ 1048576) (l : List Ed) (hR : RightG (n : Int) l) (h4 : ∀ v, v < n → (nb l (v : Int)).length ≤ 4) (r : List (List Int)) (hS : SysR n l r) (hP : planeK (numsL n l r) = 0) (sv rv : Value) (w : World) (hl : Edges w.heap.size w sv l) (hr : Lsts w.heap.size w rv r) :
    Calls Try.prog 18 #[.agg #[.int .i64 (n : Int), sv], rv] w fun e w' => ∃ g C, e = .returned (.tuple #[.slice (some ⟨g, 0, none⟩) n n, .int .i64 0]) ∧ Blk 3 w' g (C.map (Value.int .i64)) ∧ C.length = n ∧ chkK (n : Int) l C 5 = 0 ∧ Below w.heap.size w w' := by
  obtain ⟨pe, ce, rfl⟩ := hl.len
  obtain ⟨pr, cr, rfl⟩ := hr.len
  have hbA : Below w.heap.size w (w.alloc (.cells #[.int .i64 (n : Int), .slice pe l.length ce] 24)) := (Below.refl _ _).alloc (Nat.le_refl _) _
  have hXA : Blk 24 (w.alloc (.cells #[.int .i64 (n : Int), .slice pe l.length ce] 24)) w.heap.size [.int .i64 (n : Int), .slice pe l.length ce] := heap_alloc_new w _
  have hpl := plane_any n l hR r hS (.slice pe l.length ce) (.slice pr r.length cr) _ (hl.go hbA) (hr.go hbA)
  rw [hP] at hpl
  have g0 := hXA.cell (j := 0) rfl
  have g1 := hXA.cell (j := 1) rfl
  have HL : Hid (Edges w.heap.size w (.slice pe l.length ce) l) := hl
  have HXA : Hid (Blk 24 (w.alloc (.cells #[.int .i64 (n : Int), .slice pe l.length ce] 24)) w.heap.size [.int .i64 (n : Int), .slice pe l.length ce]) := hXA
  have HBA : Hid (Below w.heap.size w (w.alloc (.cells #[.int .i64 (n : Int), .slice pe l.length ce] 24))) := hbA
  have HR : Hid (RightG (n : Int) l) := hR
  have HST : Hid (FvI n (adjN (newN n l n)) (newN n l n) (newF l n) []) := FvI.start hR h4
  clear hXA hbA hl hr hS hP hR h4
  go_enter Try.func18, Try.ntmps18
  go_wp2_with fail
  generalize w.alloc (.cells #[.int .i64 (n : Int), .slice pe l.length ce] 24) = w1 at *
  refine hpl.mono ?_
  clear hpl
  rintro e w2 ⟨rfl, hb2⟩
  have HB2 : Hid (Below w.heap.size w w2) := HBA.out.trans (hb2.mono HBA.out.size)
  have hX2 := HXA.out.go hb2
  clear g0 g1
  have g0 := hX2.cell (j := 0) rfl
  have g1 := hX2.cell (j := 1) rfl
  have hnw := new_any n hn l HR.out (.slice pe l.length ce) w2 (HL.out.go HB2.out)
  clear hX2 hb2 HXA HBA
  go_wp2_with fail
  refine hnw.mono ?_
  clear hnw
  rintro e w3 ⟨sb, rfl, hX3, hb3⟩
  have HB3 : Hid (Below w.heap.size w w3) := HB2.out.trans (hb3.mono HB2.out.size)
  have HH : Hid (w.heap.size ≤ w2.heap.size) := HB2.out.size
  have hnx := next_any w2.heap.size sb (n + 4 * 0) (by omega) _ _ [] w3 hX3 (by rw [newN_len]; exact HST.out.fv) HST.out.bk
  clear hX3 hb3 HB2 g0 g1
  go_wp2_with fail
  refine hnx.mono ?_
  clear hnx
  rintro e w4 ⟨r4, F4, rfl, hX4, hN4, hb4⟩
  rw [newN_len] at hN4
  have HB4 : Hid (Below w.heap.size w w4 ∧ w2.heap.size ≤ w4.heap.size) := ⟨HB3.out.trans (hb4.mono HH.out), by
    have h1 := hX4.lsb
    omega⟩
  have HST4 : Hid (∃ (N : List (Option (List Int))) (F0 F1 : List (List Int)) (ss : List StpM), (leftL N).length < n + 1 ∧ FvI n (adjN (newN n l n)) N F0 ss ∧ SX w2.heap.size sb N F1 ss w4 ∧ NextP n (n + 4 * ss.length) N r4 F1) := ⟨_, _, F4, [], by have := HST.out.cnt; omega, HST.out, hX4, hN4⟩
  clear hX4 hN4 hb4 HB3 HST
  go_wp2
  go_loopg [8] (n + 1) (fun k vv wr => ∃ rr : Int, vv = .int .i64 rr ∧ (∃ (N : List (Option (List Int))) (F0 F1 : List (List Int)) (ss : List StpM), (leftL N).length < k ∧ FvI n (adjN (newN n l n)) N F0 ss ∧ SX w2.heap.size sb N F1 ss wr ∧ NextP n (n + 4 * ss.length) N rr F1) ∧ Below w.heap.size w wr ∧ w2.heap.size ≤ wr.heap.size)
  case atStart => exact ⟨r4, rfl, HST4.out, HB4.out.1, HB4.out.2⟩
  case round =>
    clear HST4 HB4
    obtain ⟨rr, rfl, ⟨N, F0, F1, ss, hk, hI, hX, hNx⟩, hb, hsz⟩ := hrel
    obtain ⟨hFV, hBk, hcase⟩ := hNx
    rcases hcase with ⟨rfl, hend⟩ | ⟨k, S, rfl, hS, h5⟩
    · have hcol := hI.done (fun a b hab => by
        obtain ⟨S, hS, hbS⟩ := hab
        obtain ⟨ha, rfl⟩ := newN_some hS
        obtain ⟨g1, g2, g3, _⟩ := nb_mutual HR.out hbS
        exact ⟨_, newN_all (by omega), g1⟩) (fun a haa => by
        obtain ⟨S, hS, hbS⟩ := haa
        obtain ⟨ha, rfl⟩ := newN_some hS
        exact (nb_mutual HR.out hbS).2.2.2 rfl) hend
      have hun := undone_any w2.heap.size sb n hn N F1 ss wr hX hI.len (by have := hI.cnt; omega) (fun s hs => (hI.stp s hs).1)
      have HC : Hid (chkK (n : Int) l (undS n (revS ss)).1 5 = 0) := chk_of HR.out (undS_len n _) hcol
      have HL5 : Hid ((undS n (revS ss)).1.length = n) := undS_len n _
      have HB : Hid (Below w.heap.size w wr) := hb
      clear hI hX hFV hBk hend hcol hb
      go_wp2_with fail
      refine hun.mono ?_
      clear hun
      rintro e w6 ⟨g, rfl, hg, hB6, hb6⟩
      have HB6 : Hid (Below w.heap.size w w6) := HB.out.trans (hb6.mono HB.out.size)
      have HG6 : Hid (Blk 3 w6 g ((undS n (revS ss)).1.map (Value.int .i64))) := hB6
      clear hB6 hb6
      go_wp2
      go_ret2
      exact ⟨g, _, rfl, HG6.out, HL5.out, HC.out, HB6.out⟩
    · have hkN : k < N.length := (List.getElem?_eq_some_iff.1 hS).1
      obtain ⟨hSn, hS4, hSu⟩ := hI.sub k S hS
      have hcnt := hI.cnt
      have hdr := drop_few w2.heap.size sb k (n + 4 * ss.length) (by omega) N (by rw [hI.len]; exact hn) F1 ss S hS hS4 (fun u hu => by obtain ⟨j, h1, h2, T, h3, _⟩ := hSu u hu; exact ⟨j, h1, h2, T, h3⟩) (by omega) wr hX hsz (by rw [hI.len]; exact hFV)
      have HI : Hid (FvI n (adjN (newN n l n)) N F0 ss) := hI
      have HFB : Hid (FV n (n + 4 * ss.length) F1 ∧ Bk N F1 (k : Int) ∧ N[k]? = some (some S)) := ⟨hFV, hBk, hS⟩
      have HB : Hid (Below w.heap.size w wr ∧ w2.heap.size ≤ wr.heap.size) := ⟨hb, hsz⟩
      have HK : Hid ((leftL N).length < _) := hk
      have hk0 : (0 : Int) ≤ (k : Int) := by omega
      clear hI hFV hBk hS hX hb hsz hk hSn hS4 hSu hcnt
      go_wp2_with fail
      refine hdr.mono ?_
      clear hdr
      rintro e w5 ⟨rfl, sv5, L5, hp5, hX5, hb5⟩
      have hI5 := HI.out.step HFB.out.2.2 HFB.out.1 HFB.out.2.1 hp5 sv5
      have hl5 : (leftL (dropQ (k : Int) L5 N F1).1).length + 1 = (leftL N).length := by
        have h1 := hI5.cnt
        have h2 := HI.out.cnt
        rw [List.length_append, List.length_singleton] at h1
        omega
      have hcn := hI5.cnt
      have hnx := next_any w2.heap.size sb (n + 4 * (ss ++ [((k : Int), sv5, L5, -1)]).length) (by omega) _ _ _ w5 hX5 (by rw [hI5.len]; exact hI5.fv) hI5.bk
      rw [hI5.len] at hnx
      have HB5 : Hid (Below w.heap.size w w5 ∧ w2.heap.size ≤ w5.heap.size) := ⟨HB.out.1.trans (hb5.mono HH.out), by have := hX5.lsb; omega⟩
      have HI5 : Hid (FvI n (adjN (newN n l n)) (dropQ (k : Int) L5 N F1).1 (dropQ (k : Int) L5 N F1).2 (ss ++ [((k : Int), sv5, L5, -1)])) := hI5
      have HL5 : Hid ((leftL (dropQ (k : Int) L5 N F1).1).length + 1 = (leftL N).length) := hl5
      clear hI5 hX5 hb5 hl5 hp5 hcn
      generalize (dropQ (k : Int) L5 N F1).1 = N5 at *
      generalize (dropQ (k : Int) L5 N F1).2 = F5 at *
      generalize ss ++ [((k : Int), sv5, L5, -1)] = ss5 at *
      go_wp2_with fail
      refine hnx.mono ?_
      clear hnx
      rintro e w6 ⟨r6, F6, rfl, hX6, hN6, hb6⟩
      have HB6 : Hid (Below w.heap.size w w6 ∧ w2.heap.size ≤ w6.heap.size) := ⟨HB5.out.1.trans (hb6.mono HH.out), by have := hX6.lsb; omega⟩
      have HX6 : Hid (SX w2.heap.size sb N5 F6 ss5 w6 ∧ NextP n (n + 4 * ss5.length) N5 r6 F6) := ⟨hX6, hN6⟩
      clear hX6 hN6 hb6
      go_wp2
      go_roundg ((leftL N).length)
      case measure => exact HK.out
      case rel => exact ⟨r6, rfl, ⟨N5, F5, F6, ss5, by have := HL5.out; omega, HI5.out, HX6.out.1, HX6.out.2⟩, HB6.out.1, HB6.out.2⟩
end Go.Proofs.Yteekhofollaooaa
