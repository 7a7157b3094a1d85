import Derived.Test.YtalflecmadacaaaGreatZAH
import Derived.Deep.QuietTactic
import Derived.BigQuiet
import Derived.Test.YtalflecmadacaaaGreatZAJ
import Derived.Deep.RegionHeld3
import Derived.OwnWalk
import Derived.Laws.OwnMore
import Derived.Test.YtalflecmadacaaaGreatZAG
import Derived.Test.YtalflecmadacaaaGreatZAC
import Derived.Test.YtalflecmadacaaaGreatZAD
import Derived.Test.YtalflecmadacaaaGreatZAI
set_option maxRecDepth 100000
set_option maxHeartbeats 8000000
namespace Go.Proofs.YtalflecmadacaaaGreat
def RiseP (l : List Int) (n : Int) : Prop := (∀ x ∈ l, 0 ≤ x ∧ x < n) ∧ l.Pairwise (· < ·)
def rsB (l : List Int) (n : Int) : Bool := (l.all fun x => decide (0 ≤ x ∧ x < n)) && decide (l.Pairwise (· < ·))
theorem rs_iff {l : List Int} {n : Int} : rsB l n = true ↔ RiseP l n := by simp [rsB, RiseP]
theorem rs_not {l : List Int} {n : Int} (h : ¬ RiseP l n) : rsB l n = false := by rw [← Bool.not_eq_true, rs_iff]; exact h
def RIT (l : List Int) (n : Int) (k : Nat) (least : Int) : Prop := RiseP (l.take k) n ∧ 0 ≤ least ∧ (∀ x ∈ l.take k, x < least) ∧ (least = 0 ∨ ∃ j, j < k ∧ l[j]? = some (least - 1))
theorem RIT.start (l : List Int) (n : Int) : RIT l n 0 0 := ⟨⟨by simp, by simp⟩, Int.le_refl _, by simp, .inl rfl⟩
theorem RIT.next {l : List Int} {n : Int} {k : Nat} {least : Int} (h : RIT l n k least) (hk : k < l.length) (h1 : least ≤ l[k]) (h2 : l[k] < n) : RIT l n (k + 1) (l[k] + 1) := by
 obtain ⟨⟨a, b⟩, c, d, e⟩ := h
 refine ⟨⟨?_, ?_⟩, by omega, ?_, .inr ⟨k, by omega, by rw [List.getElem?_eq_getElem hk]; congr 1; omega⟩⟩
 ·intro x hx
  rw [List.take_succ_eq_append_getElem hk, List.mem_append] at hx
  rcases hx with hx | hx
  ·exact a x hx
  ·rw [List.mem_singleton.1 hx]; omega
 ·rw [List.take_succ_eq_append_getElem hk, List.pairwise_append]
  refine ⟨b, by simp, fun x hx y hy => ?_⟩
  rw [List.mem_singleton.1 hy]
  have := d x hx
  omega
 ·intro x hx
  rw [List.take_succ_eq_append_getElem hk, List.mem_append] at hx
  rcases hx with hx | hx
  ·have := d x hx; omega
  ·rw [List.mem_singleton.1 hx]; omega
theorem RIT.low {l : List Int} {n : Int} {k : Nat} {least : Int} (h : RIT l n k least) (hk : k < l.length) (h1 : l[k] < least) : rsB l n = false := by
 refine rs_not fun ⟨a, b⟩ => ?_
 obtain ⟨_, c, d, e⟩ := h
 rcases e with e | ⟨j, hj, e⟩
 ·have := (a l[k] (List.getElem_mem hk)).1; omega
 ·obtain ⟨hj', e⟩ := List.getElem?_eq_some_iff.1 e
  have := List.pairwise_iff_getElem.1 b j k hj' hk hj
  omega
theorem RIT.high {l : List Int} {n : Int} {k : Nat} (hk : k < l.length) (h1 : n ≤ l[k]) : rsB l n = false :=
 rs_not fun ⟨a, _⟩ => by have := (a l[k] (List.getElem_mem hk)).2; omega
theorem RIT.done {l : List Int} {n : Int} {least : Int} (h : RIT l n l.length least) : rsB l n = true := by
 rw [rs_iff]
 have := h.1
 rwa [List.take_length] at this
def edgeAt (L : List Eg) (i : Int) : Eg := L.getD i.toNat (0, 0, 0)
theorem edgeAt_of {L : List Eg} {i : Nat} {e : Eg} (h : L[i]? = some e) : edgeAt L (i : Int) = e := by simp [edgeAt, h]
def tog (e : Eg) (v : Nat) : Bool := (e.1 == v) ^^ (e.2.1 == v)
def oddA (L : List Eg) (B : List Int) (v : Nat) : Bool := B.foldr (fun i b => tog (edgeAt L i) v ^^ b) false
theorem oddA_nil (L : List Eg) (v : Nat) : oddA L [] v = false := rfl
theorem oddA_cons (L : List Eg) (i : Int) (B : List Int) (v : Nat) : oddA L (i :: B) v = (tog (edgeAt L i) v ^^ oddA L B v) := rfl
theorem oddA_append (L : List Eg) (A B : List Int) (v : Nat) : oddA L (A ++ B) v = (oddA L A v ^^ oddA L B v) := by
 induction A with
 | nil => simp [oddA_nil]
 | cons i A ih => rw [List.cons_append, oddA_cons, oddA_cons, ih, Bool.xor_assoc]
theorem oddA_perm {L : List Eg} {A B : List Int} (h : A.Perm B) (v : Nat) : oddA L A v = oddA L B v := by
 induction h with
 | nil => rfl
 | cons x _ ih => rw [oddA_cons, oddA_cons, ih]
 | swap x y l => rw [oddA_cons, oddA_cons, oddA_cons, oddA_cons, ← Bool.xor_assoc, ← Bool.xor_assoc, Bool.xor_comm (tog (edgeAt L y) v)]
 | trans _ _ h1 h2 => exact h1.trans h2
theorem oddA_reverse (L : List Eg) (A : List Int) (v : Nat) : oddA L A.reverse v = oddA L A v := oddA_perm (List.reverse_perm A) v
def oddT (N : Nat) (L : List Eg) (B : List Int) : List Bool := (List.range N).map (oddA L B)
theorem oddT_len (N : Nat) (L : List Eg) (B : List Int) : (oddT N L B).length = N := by simp [oddT]
theorem oddT_at {N : Nat} {L : List Eg} {B : List Int} {v : Nat} (h : v < N) : (oddT N L B)[v]? = some (oddA L B v) := by simp [oddT, h]
theorem oddT_nil (N : Nat) (L : List Eg) : oddT N L [] = List.replicate N false := by
 apply List.ext_getElem <;> simp [oddT, oddA_nil]
def bAt (T : List Bool) (v : Nat) : Bool := T.getD v false
theorem bAt_get? {T : List Bool} {v : Nat} (h : v < T.length) : T[v]? = some (bAt T v) := by simp [bAt, h]
theorem bAt_set {T : List Bool} {v : Nat} {x : Bool} (h : v < T.length) (u : Nat) : bAt (T.set v x) u = if u = v then x else bAt T u := by
 unfold bAt
 by_cases e : u = v
 ·subst e; simp [List.getD, h]
 ·rw [if_neg e]; simp [List.getD, List.getElem?_set_ne (Ne.symm e)]
theorem oddT_bAt {N : Nat} {L : List Eg} {B : List Int} {v : Nat} (h : v < N) : bAt (oddT N L B) v = oddA L B v := by
 unfold bAt
 rw [List.getD_eq_getElem?_getD, oddT_at h]; rfl
theorem bools_ext {A B : List Bool} (hl : A.length = B.length) (h : ∀ v, v < A.length → bAt A v = bAt B v) : A = B := by
 apply List.ext_getElem hl
 intro i h1 h2
 have := h i h1
 simpa [bAt, h1, h2] using this
def flipB (T : List Bool) (v : Nat) : List Bool := T.set v (!bAt T v)
theorem flipB_len (T : List Bool) (v : Nat) : (flipB T v).length = T.length := by simp [flipB]
theorem flipB_at {T : List Bool} {v : Nat} (h : v < T.length) (u : Nat) : bAt (flipB T v) u = (bAt T u ^^ (v == u)) := by
 unfold flipB
 rw [bAt_set h]
 by_cases e : u = v
 ·subst e; simp
 ·rw [if_neg e]
  have : (v == u) = false := by rw [beq_eq_false_iff_ne]; omega
  rw [this, Bool.xor_false]
theorem oddT_step {N : Nat} {L : List Eg} {B : List Int} {i : Int} (h1 : (edgeAt L i).1 < N) (h2 : (edgeAt L i).2.1 < N) : flipB (flipB (oddT N L B) (edgeAt L i).1) (edgeAt L i).2.1 = oddT N L (B ++ [i]) := by
 refine bools_ext (by rw [flipB_len, flipB_len, oddT_len, oddT_len]) fun v hv => ?_
 rw [flipB_len, flipB_len, oddT_len] at hv
 rw [flipB_at (by rw [flipB_len, oddT_len]; exact h2), flipB_at (by rw [oddT_len]; exact h1), oddT_bAt hv, oddT_bAt hv, oddA_append, oddA_cons, oddA_nil, Bool.xor_false]
 unfold tog
 rw [Bool.xor_assoc]
def trueK (T : List Bool) (k : Nat) : List Int := ((List.range k).filter fun i => bAt T i).map fun i : Nat => (i : Int)
def trueL (T : List Bool) : List Int := trueK T T.length
theorem trueK_succ (T : List Bool) (k : Nat) : trueK T (k + 1) = trueK T k ++ if bAt T k then [(k : Int)] else [] := by
 unfold trueK
 rw [List.range_succ, List.filter_append, List.map_append]
 by_cases h : bAt T k <;> simp [h]
theorem trueK_len (T : List Bool) (k : Nat) : (trueK T k).length ≤ k := by
 unfold trueK
 rw [List.length_map]
 have := List.length_filter_le (fun i => bAt T i) (List.range k)
 simpa using this
theorem trueK_mem {T : List Bool} {k : Nat} {x : Int} : x ∈ trueK T k ↔ ∃ i : Nat, x = i ∧ i < k ∧ bAt T i = true := by
 unfold trueK
 simp only [List.mem_map, List.mem_filter, List.mem_range]
 constructor
 ·rintro ⟨i, ⟨h1, h2⟩, rfl⟩; exact ⟨i, rfl, h1, h2⟩
 ·rintro ⟨i, rfl, h1, h2⟩; exact ⟨i, ⟨h1, h2⟩, rfl⟩
theorem trueK_rise (T : List Bool) : ∀ k : Nat, (trueK T k).Pairwise (· < ·)
 | 0 => by simp [trueK]
 | k + 1 => by
  rw [trueK_succ, List.pairwise_append]
  refine ⟨trueK_rise T k, by split <;> simp, fun x hx y hy => ?_⟩
  obtain ⟨i, rfl, h1, _⟩ := trueK_mem.1 hx
  split at hy
  ·rw [List.mem_singleton.1 hy]; omega
  ·simp at hy
theorem trueL_mem {T : List Bool} {x : Int} : x ∈ trueL T ↔ ∃ i : Nat, x = i ∧ i < T.length ∧ bAt T i = true := trueK_mem
def plcB (m : Nat) (B : List Int) : Bool := B.all fun x => decide (0 ≤ x ∧ x < (m : Int))
theorem plc_iff {m : Nat} {B : List Int} : plcB m B = true ↔ ∀ x ∈ B, 0 ≤ x ∧ x < (m : Int) := by simp [plcB]
def oddV (N : Nat) (L : List Eg) (B : List Int) : List Int := trueL (oddT N L B)
theorem rise_ext : ∀ {A B : List Int}, A.Pairwise (· < ·) → B.Pairwise (· < ·) → (∀ x, x ∈ A ↔ x ∈ B) → A = B
 | [], [], _, _, _ => rfl
 | [], b :: B, _, _, h => absurd ((h b).2 (by simp)) (by simp)
 | a :: A, [], _, _, h => absurd ((h a).1 (by simp)) (by simp)
 | a :: A, b :: B, ha, hb, h => by
  rw [List.pairwise_cons] at ha hb
  have hab : a = b := by
   have h1 := (h a).1 (by simp)
   have h2 := (h b).2 (by simp)
   rcases List.mem_cons.1 h1 with e | h1
   ·exact e
   ·rcases List.mem_cons.1 h2 with e | h2
    ·exact e.symm
    ·have := ha.1 b h2
     have := hb.1 a h1
     omega
  subst hab
  congr 1
  refine rise_ext ha.2 hb.2 fun x => ⟨fun hx => ?_, fun hx => ?_⟩
  ·have := ha.1 x hx
   rcases List.mem_cons.1 ((h x).1 (by simp [hx])) with e | e
   ·omega
   ·exact e
  ·have := hb.1 x hx
   rcases List.mem_cons.1 ((h x).2 (by simp [hx])) with e | e
   ·omega
   ·exact e
end Go.Proofs.YtalflecmadacaaaGreat
namespace Go.Proofs.YtalflecmadacaaaGreat
open Go Go.Proofs Go.RowKit
theorem rises_anyT (l : List Int) (n : Int) (h0 : 0 ≤ n) (hn : n ≤ 4194304) (hl : l.length ≤ 8388608) (sv : Value) (w : World) (hI : Ints w.heap.size w sv l) :
  Calls Tryz.prog 83 #[sv, .int .i64 n] w fun r w' => r = .returned (.bool (rsB l n)) ∧ w' = w := by
 obtain ⟨p, c, rfl, ho⟩ := hI.openW
 have HO : Hid _ := fun (j : Nat) (hj : j < l.length) => ho (j := j) hj
 clear ho hI
 go_enter Tryz.func83, Tryz.ntmps83
 go_wp2
 go_loopw [5, 10] (fun lv i wr => ∃ (k : Nat) (least : Int), k ≤ l.length ∧ i = .int .i64 k ∧ lv = .int .i64 least ∧ Hid (RIT l n k least) ∧ least ≤ n ∧ wr = w) (fun _ i _ => l.length - (intOf i).toNat)
 case atStart => exact ⟨0, 0, Nat.zero_le _, rfl, rfl, RIT.start l n, h0, rfl⟩
 case round =>
  obtain ⟨k, least, hk, rfl, rfl, HR, hln, rfl⟩ := hrel
  by_cases hlt : k < l.length
  ·have hkl : (k : Int) < (l.length : Int) := by omega
   obtain ⟨b, off, rfl, -, hc⟩ := HO.out k hlt
   have c0 := hc wr (Below.refl _ _) k hlt
   rw [at_get hlt] at c0
   have HLT : Hid (k < l.length) := hlt
   by_cases h1 : l[k] < least
   ·have HE : Hid (rsB l n = false) := RIT.low HR.out hlt h1
    generalize l[k] = x at c0 h1
    clear hlt hc
    go_wp2
    go_ret
    exact ⟨by rw [HE.out]; rfl, rfl⟩
   ·by_cases h2 : n ≤ l[k]
    ·have HE : Hid (rsB l n = false) := RIT.high hlt h2
     generalize l[k] = x at c0 h1 h2
     clear hlt hc
     go_wp2
     go_ret
     exact ⟨by rw [HE.out]; rfl, rfl⟩
    ·have HN : Hid _ := HR.out.next hlt (by omega) (by omega)
     have h3 := HR.out.2.1
     generalize l[k] = x at c0 h1 h2 HN
     clear hlt hc
     go_wp2
     exact ⟨⟨k + 1, x + 1, HLT.out, by go_num, rfl, HN, by omega, trivial⟩, by have := HLT.out; simp [intOf]; omega⟩
  ·obtain rfl : k = l.length := by omega
   have HE : Hid (rsB l n = true) := RIT.done HR.out
   go_wp2
   go_ret
   exact ⟨by rw [HE.out]; rfl, rfl⟩
theorem trueOnes_any (T : List Bool) (hT : T.length ≤ 4194304) (tv : Value) (w : World) (hI : Bools w.heap.size w tv T) :
  Calls Tryz.prog 64 #[tv] w fun r w' => ∃ lv, r = .returned lv ∧ w'.ownsRow w.heap.size 3 1 lv (trueL T).length ((trueL T).map (Value.int .i64)) ∧ Below w.heap.size w w' := by
 obtain ⟨i0, hi, hz0, hz1, hz2⟩ := info_parts infoI
 obtain ⟨p, c, rfl⟩ := hI.len
 have HI : Hid (Bools w.heap.size w (.slice p T.length c) T) := hI
 clear hI
 go_enter Tryz.func64, Tryz.ntmps64
 go_wp2
 go_loopw [3, 8] (fun lv iv wr => ∃ j : Nat, j ≤ T.length ∧ iv = .int .i64 j ∧ wr.ownsRow w.heap.size 3 1 lv (trueK T j).length ((trueK T j).map (Value.int .i64)) ∧ Below w.heap.size w wr) (fun _ i _ => T.length - (intOf i).toNat)
 case atStart => exact ⟨0, Nat.zero_le _, rfl, World.ownsRow_nil _ _ _ _, Below.refl _ _⟩
 case round =>
  obtain ⟨j, hj, rfl, hO, hb⟩ := hrel
  obtain ⟨pp, cc, rfl⟩ := owns_formPT hO
  by_cases hlt : j < T.length
  ·have hjl : (j : Int) < (T.length : Int) := by omega
   obtain ⟨b, off, rfl, hbb, hcap, hc⟩ := Vals.open (enc := Value.bool) HI.out hlt
   have c0 := hc wr hb j hlt
   have hlen := trueK_len T j
   have hst : Hid _ := trueK_succ T j
   have hbT : bAt T j = T[j] := by simp [bAt, hlt]
   rw [← hbT] at c0
   have HLT : Hid (j < T.length) := hlt
   clear hc hlt hbT
   cases hP : bAt T j with
   | false =>
    have HE : Hid (trueK T (j + 1) = trueK T j) := by unfold Hid; rw [hst.out, hP]; simp
    have HO2 : Hid _ := hO
    have HB2 : Hid _ := hb
    rw [hP] at c0
    clear hO hb hP
    go_wp2
    refine ⟨⟨j + 1, HLT.out, by go_num, ?_, HB2.out⟩, by have := HLT.out; simp [intOf]; omega⟩
    rw [HE.out]
    exact HO2.out
   | true =>
    have HE : Hid (trueK T (j + 1) = trueK T j ++ [(j : Int)]) := by unfold Hid; rw [hst.out, hP]; simp
    have hownA := hO.alloc (.cells #[.int .i64 (j : Int)] 3)
    have hnews := one_cellT wr (.int .i64 (j : Int)) 3
    have hone : ∀ u ∈ [Value.int .i64 (j : Int)], u.oneCell' = true := by intro u hu; rw [List.mem_singleton.1 hu]; rfl
    have hmx : (trueK T j).length + 1 ≤ maxLen := by unfold maxLen; omega
    have hby : ((trueK T j).length + 1) * 8 ≤ 140737488355328 := by omega
    have hbs : w.heap.size ≤ (wr.alloc (.cells #[.int .i64 (j : Int)] 3)).heap.size := by have := hb.size; simp; omega
    have hlow : ∀ k, (Value.slice pp (trueK T j).length cc).ownBlock = some k → w.heap.size ≤ k := fun k e => (hO.lt k e).1
    have HB2 : Hid _ := hb
    rw [hP] at c0
    clear hO hb hP
    go_wp2_with (at_builtin; refine wpList_append_own_at _ rfl _ _ 27 rfl w.heap.size 3 i0 (.int .i64 0) 1 8 Tryz.underlying27 hi hz0 hz1 hz2 rfl (by decide) (.slice pp (trueK T j).length cc) _ _ rfl hownA ⟨wr.heap.size, 0, none⟩ 1 1 [.int .i64 (j : Int)] rfl rfl hnews hone hmx hby hbs ?_)
    intro v6 w6 hown6 hg6 hnil6 hat6
    obtain ⟨a6, m6, c6, rfl⟩ := owns_sliceT hown6
    have HO6 : Hid _ := hown6
    have HB6 : Hid (Below w.heap.size w w6) := (HB2.out.alloc HB2.out.size _).grown hg6 hbs hlow
    clear hown6 hg6 hnil6 hat6 hownA hnews hone hmx hby hbs hlow
    go_wp2
    refine ⟨⟨j + 1, HLT.out, by go_num, ?_, HB6.out⟩, by have := HLT.out; simp [intOf]; omega⟩
    rw [HE.out, List.length_append, List.map_append]
    exact HO6.out
  ·obtain rfl : j = T.length := by omega
   have HO2 : Hid _ := hO
   clear hO
   go_wp2
   go_ret
   exact ⟨_, rfl, HO2.out, hb⟩
theorem ints_ownsT {W : World} {base : Nat} {v : Value} {l : List Int} {t : TypeId} (h : W.ownsRow base t 1 v l.length (l.map (Value.int .i64))) : Ints W.heap.size W v l := by
 rcases Nat.eq_zero_or_pos l.length with h0 | h0
 ·obtain rfl : l = [] := List.eq_nil_of_length_eq_zero h0
  obtain ⟨p, c, rfl⟩ := owns_formPT h
  exact Vals.nil _ _ _ _
 ·obtain ⟨g, cap, rfl⟩ := owns_posT h h0
  have hlt := h.lt g rfl
  have hcap : l.length ≤ cap := by
   rcases h.2 with ⟨h1, _⟩ | ⟨g', cap', cur, h1, _, _, h2, _⟩
   ·simp at h1
   ·simp only [Value.slice.injEq] at h1
    obtain ⟨_, _, rfl⟩ := h1
    exact h2
  refine .inr ⟨g, 0, cap, rfl, hlt.2, hcap, fun j x hx => ?_⟩
  have hj := (List.getElem?_eq_some_iff.1 hx).1
  rw [Nat.zero_add, h.cellAt j (by omega), List.getElem?_map, hx]
  rfl
theorem infoBT : (Tryz.prog.info? 4).map (fun i => (i.zero, i.size, i.bytes)) = some (some (.bool false), 1, 1) := by kernel_rfl
theorem bools_madeT (n : Nat) : (madeCells (Value.bool false).cells (n * 1)).toList = (List.replicate n false).map Value.bool := by
 apply List.ext_getElem
 ·simp [madeCells]
 ·intro i h1 h2
  simp [madeCells, Value.cells, Nat.mod_one]
theorem Blk.boolsT {W : World} {g : Nat} {l : List Bool} {t : TypeId} (h : Blk t W g (l.map Value.bool)) {n : Nat} (hn : l.length = n) : Bools W.heap.size W (.slice (some ⟨g, 0, none⟩) n n) l := by
 subst hn
 exact .inr ⟨g, 0, l.length, rfl, h.lt, Nat.le_refl _, fun j x hx => by rw [Nat.zero_add]; exact h.cell (by rw [List.getElem?_map, hx]; rfl)⟩
theorem Blk.bcell {W : World} {g : Nat} {T : List Bool} {t : TypeId} (h : Blk t W g (T.map Value.bool)) {v : Nat} (hv : v < T.length) : W.cell? ⟨g, v, none⟩ = some (.bool (bAt T v)) :=
 h.cell (by rw [List.getElem?_map, bAt_get? hv]; rfl)
theorem Blk.flip {W : World} {g : Nat} {T : List Bool} {t : TypeId} (h : Blk t W g (T.map Value.bool)) (v : Nat) : Blk t (W.setCell ⟨g, v, none⟩ (.bool (!bAt T v))) g ((flipB T v).map Value.bool) := by
 have := h.set v (.bool (!bAt T v))
 rw [← List.map_set] at this
 exact this
theorem plc_at {m : Nat} {B : List Int} (h : plcB m B = true) {k : Nat} (hk : k < B.length) : ∃ i : Nat, B[k] = (i : Int) ∧ i < m := by
 have := plc_iff.1 h B[k] (List.getElem_mem hk)
 exact ⟨B[k].toNat, by omega, by omega⟩
theorem oddOf_any (N : Nat) (L : List Eg) (B : List Int) (hN : N ≤ 1048576) (hE : ∀ e ∈ L, e.1 < N ∧ e.2.1 < N) (hB : plcB L.length B = true) (hBl : B.length ≤ 8388608) (sv bv : Value) (w : World) (hl : Edges w.heap.size w sv (L.map edE)) (hI : Ints w.heap.size w bv B) :
  Calls Tryz.prog 90 #[.agg #[.int .i64 (N : Int), sv], bv] w fun r w' => ∃ lv, r = .returned lv ∧ w'.ownsRow w.heap.size 3 1 lv (oddV N L B).length ((oddV N L B).map (Value.int .i64)) ∧ Below w.heap.size w w' := by
 have hmix := mixed
 obtain ⟨p, c, rfl⟩ := hl.lenG
 obtain ⟨pb, cb, rfl, ho⟩ := hI.openW
 have HO : Hid _ := fun (j : Nat) (hj : j < B.length) => ho (j := j) hj
 clear ho
 obtain ⟨i0, hi, hz0, hz1, hz2⟩ := info_parts infoBT
 have hg1 : Grew w (w.alloc (.cells #[.int .i64 (N : Int), .slice p L.length c] 24)) := (Grew.refl w).alloc _
 have E1 : Hid ((w.alloc (.cells #[.int .i64 (N : Int), .slice p L.length c] 24)).heap.size = w.heap.size + 1) := by show _ = _; simp
 go_enter Tryz.func90, Tryz.ntmps90
 go_wp2_with (at_make; refine wpList_make_full _ rfl _ _ 25 rfl w.heap.size 4 i0 (.bool false) 1 Tryz.underlying25 hi hz0 hz1 .i64 .i64 _ _ N rfl rfl rfl rfl (by rw [hz2]; omega) (by unfold maxLen; omega) (by simp) ?_; intro w3 hown hgrow; have hb3 : Below (w.alloc (.cells #[.int .i64 (N : Int), .slice p L.length c] 24)).heap.size (w.alloc (.cells #[.int .i64 (N : Int), .slice p L.length c] 24)) w3 := (Below.refl _ _).grown hgrow (Nat.le_refl _) (fun k e => by cases e); have q0 : w3.cell? ⟨w.heap.size, 0, none⟩ = some (.int .i64 (N : Int)) := (hb3.cell (p := ⟨w.heap.size, 0, none⟩) (by rw [E1.out]; exact Nat.lt_succ_self _)).trans (new_cell rfl rfl); have q1 : w3.cell? ⟨w.heap.size, 1, none⟩ = some (.slice p L.length c) := (hb3.cell (p := ⟨w.heap.size, 1, none⟩) (by rw [E1.out]; exact Nat.lt_succ_self _)).trans (new_cell rfl rfl); have hbw : Below w.heap.size w w3 := hg1.below.trans (hb3.mono (by rw [E1.out]; omega)); rw [E1.out] at hown; have hrow := Blk.made hown; have hsz := hrow.lt; rw [bools_madeT, ← oddT_nil N L] at hrow;  have HRow : Hid (Blk 4 w3 (w.heap.size + 1) ((oddT N L (B.take 0)).map Value.bool)) := hrow; clear hown hgrow hb3 hrow; have hl1 : w.heap.size < w3.heap.size := by omega)
 obtain ⟨x, hx⟩ : ∃ n, w.heap.size = n := ⟨_, rfl⟩
 have HBW : Hid (Below x w w3) := by rw [← hx]; exact hbw
 rw [hx] at HRow hl1 hsz q0 q1 ⊢
 clear hg1 hbw hi hz0 hz1 hz2 E1
 go_loopw [14] (fun i wr => ∃ j : Nat, j ≤ B.length ∧ i = .int .i64 j ∧ Hid (Blk 4 wr (x + 1) ((oddT N L (B.take j)).map Value.bool)) ∧ Hid (Tch (x + 1) w3 wr)) (fun i _ => B.length - (intOf i).toNat)
 case atStart => exact ⟨0, Nat.zero_le _, rfl, HRow, Tch.refl _ _⟩
 case round =>
  obtain ⟨j, hj, rfl, HR, HT⟩ := hrel
  have d0 := HT.out.cell q0 (by omega)
  have d1 := HT.out.cell q1 (by omega)
  have hbr : Below x w wr := HT.out.below HBW.out (by omega) (by omega)
  by_cases hlt : j < B.length
  ·have hjl : (j : Int) < (B.length : Int) := by omega
   obtain ⟨b2, off2, rfl, hb2, hc2⟩ := HO.out j hlt
   rw [hx] at hb2 hc2
   have c0 := hc2 wr hbr j hlt
   rw [at_get hlt] at c0
   obtain ⟨i, hi1, hi2⟩ := plc_at hB hlt
   rw [hi1] at c0
   obtain ⟨b, off, rfl, hb1, hcap, hc⟩ := hl.eg hi2
   rw [hx] at hc hb1
   obtain ⟨e0, e1, e2⟩ := hc wr hbr i hi2
   obtain ⟨hu, hv⟩ := hE L[i] (List.getElem_mem hi2)
   have heA : edgeAt L (i : Int) = L[i] := edgeAt_of (List.getElem?_eq_getElem hi2)
   have HST : Hid (flipB (flipB (oddT N L (B.take j)) L[i].1) L[i].2.1 = oddT N L (B.take (j + 1))) := by
    have h1 := oddT_step (N := N) (L := L) (B := B.take j) (i := (i : Int)) (by rw [heA]; exact hu) (by rw [heA]; exact hv)
    rw [heA] at h1
    have h2 : B.take (j + 1) = B.take j ++ [(i : Int)] := by rw [List.take_succ_eq_append_getElem hlt, hi1]
    show _ = _
    rw [h2]; exact h1
   have HLT : Hid (j < B.length) := hlt
   have hi3 : (i : Int) < (L.length : Int) := by omega
   have hwx := World.block_lt_of_cell? wr _ d0
   have hwx1 := HR.out.lt
   have HlT : Hid ((oddT N L (B.take j)).length = N) := oddT_len _ _ _
   generalize oddT N L (B.take j) = T at *
   generalize L[i] = e at *
   obtain ⟨u, v, wt⟩ := e
   simp only at hu hv e0 e1 e2 HST
   clear hc hc2 hi1 heA hlt hbr
   have HE6 : Hid (Blk 50 (wr.alloc (.cells #[.int .i64 (u : Int), .int .i64 (v : Int), .int .i64 (wt : Int)] 50)) wr.heap.size [.int .i64 (u : Int), .int .i64 (v : Int), .int .i64 (wt : Int)]) := heap_alloc_new wr _
   have HB6 : Hid (Below wr.heap.size wr (wr.alloc (.cells #[.int .i64 (u : Int), .int .i64 (v : Int), .int .i64 (wt : Int)] 50))) := (Below.refl _ _).alloc (Nat.le_refl _) _
   go_wp2
   obtain ⟨w6, hw6⟩ : ∃ W, wr.alloc (.cells #[.int .i64 (u : Int), .int .i64 (v : Int), .int .i64 (wt : Int)] 50) = W := ⟨_, rfl⟩
   rw [hw6] at HE6 HB6 ⊢
   clear hw6 e0 e1 e2 d0 d1 c0
   have HT6 : Hid (Tch (x + 1) w3 w6) := HT.out.trans (Tch.of_below HB6.out)
   have HR6 : Hid (Blk 4 w6 (x + 1) (T.map Value.bool)) := HR.out.go HB6.out
   have hne6 : wr.heap.size ≠ x + 1 := by omega
   obtain ⟨eb, heb⟩ : ∃ n, wr.heap.size = n := ⟨_, rfl⟩
   rw [heb] at HE6 hne6 ⊢
   clear HB6 HR HT
   have hu' : (u : Int) < (N : Int) := by omega
   have hv' : (v : Int) < (N : Int) := by omega
   have t0 := HR6.out.bcell (v := u) (by rw [HlT.out]; exact hu)
   have f0 := HR6.out.frozen u
   have x0 := HE6.out.cell (j := 0) rfl
   have HR7 : Hid _ := HR6.out.flip u
   have HT7 : Hid _ := HT6.out.set u (.bool (!bAt T u))
   have HE7 : Hid (Blk 50 (w6.setCell ⟨x + 1, u, none⟩ (.bool (!bAt T u))) eb [.int .i64 (u : Int), .int .i64 (v : Int), .int .i64 (wt : Int)]) := HE6.out.other hne6 _
   have HlT2 : Hid ((flipB T u).length = N) := by show _ = _; rw [flipB_len]; exact HlT.out
   clear HT6 HR6 HE6
   go_big_region_o
   obtain ⟨w7, hw7⟩ : ∃ W, (w6.setCell ⟨x + 1, u, none⟩ (.bool (!bAt T u))).drew = W := ⟨_, rfl⟩
   have HR8 : Hid (Blk 4 w7 (x + 1) ((flipB T u).map Value.bool)) := by rw [← hw7]; exact HR7.out
   have HT8 : Hid (Tch (x + 1) w3 w7) := by rw [← hw7]; exact HT7.out.drew
   have HE8 : Hid (Blk 50 w7 eb [.int .i64 (u : Int), .int .i64 (v : Int), .int .i64 (wt : Int)]) := by rw [← hw7]; exact HE7.out
   rw [hw7]
   clear hw7 HR7 HT7 HE7 t0 f0 x0
   generalize flipB T u = T2 at *
   have t0 := HR8.out.bcell (v := v) (by rw [HlT2.out]; exact hv)
   have f0 := HR8.out.frozen v
   have x1 := HE8.out.cell (j := 1) rfl
   have HR9 : Hid _ := HR8.out.flip v
   have HT9 : Hid _ := HT8.out.set v (.bool (!bAt T2 v))
   clear HT8 HR8 HE8
   go_wp2
   go_big_region_o
   go_wp2
   refine ⟨⟨j + 1, HLT.out, by go_num, ?_, HT9.out.drew⟩, by have := HLT.out; simp [intOf]; omega⟩
   rw [← HST.out]
   exact HR9.out
  ·obtain rfl : j = B.length := by omega
   have HF : Hid (Bools wr.heap.size wr (.slice (some ⟨x + 1, 0, none⟩) N N) (oddT N L B)) := by
    have h1 := HR.out
    rw [List.take_length] at h1
    exact h1.boolsT (oddT_len _ _ _)
   have htr := trueOnes_any (oddT N L B) (by rw [oddT_len]; omega) _ wr HF.out
   have HBr : Hid (Below x w wr) := hbr
   clear hbr HR HT d0 d1
   go_wp2_with fail
   refine htr.mono ?_
   rintro e w9 ⟨lv, rfl, ho9, hb9⟩
   have HO9 : Hid _ := ho9
   clear ho9 htr
   go_wp2
   go_ret
   rw [hx]
   exact ⟨lv, rfl, owns_baseT HO9.out (by have := HBr.out.size; omega), HBr.out.trans (hb9.mono (by have := HBr.out.size; omega))⟩
theorem WB.setPth {a : Lay} {lv pv pv' ov : Value} {s : WS} {A B : World} {P : List Stp} (h : WB a lv pv ov s A) (hL : LayOK a) (hA : Apart2 pv ov) (hg : A.grownBy B pv.ownBlock) (hlow : ∀ k, pv.ownBlock = some k → a.h0 ≤ k) (hB : B.ownsRow a.h0 144 5 pv' P.length (flatP P)) : WB a lv pv' ov { s with path := P } (B.setCell ⟨a.wb, 5, none⟩ pv') := by
 have hb : ∀ {t : TypeId} {b : Nat} {vs : List Value}, Blk t A b vs → b < a.h0 → Blk t B b vs := fun {t b vs} hB hlt => (hg.block b hB.lt (fun e => by have := hlow b e.symm; omega)).trans hB
 have hbl := (hb h.blk hL.w0).set 5 pv'
 exact ⟨hbl, (hb h.root hL.r0).other (Ne.symm hL.wr) _, (hb h.frm hL.f0).other (Ne.symm hL.wf) _, (hb h.dep hL.d0).other (Ne.symm hL.wd) _, (hb h.bls hL.k0).other (Ne.symm hL.wk) _, owns_lowset hB hL.w0 _, owns_lowset (owns_keep h.opn hg hA.2) hL.w0 _⟩
theorem apart_grown {pv pv' ov : Value} {n : Nat} (hA : Apart2 pv ov) (hat : pv'.ownBlock = pv.ownBlock ∨ pv'.ownBlock = some n) (hov : ∀ k, ov.ownBlock = some k → k < n) : Apart2 pv' ov := by
 rcases hat with h | h
 ·unfold Apart2; rw [h]; exact hA
 ·refine ⟨.inr ?_, ?_⟩
  ·rw [h]
   intro e
   have := hov n e.symm
   omega
  ·rw [h]
   cases ho : ov.ownBlock with
   | none => exact .inl rfl
   | some k =>
    have := hov k ho
    exact .inr (by simp; omega)
theorem apart_swap {pv ov : Value} (h : Apart2 pv ov) : Apart2 ov pv := ⟨h.2, h.1⟩
theorem infoSt : (Tryz.prog.info? 144).map (fun i => (i.zero, i.size, i.bytes)) = some (some (.agg #[.int .i64 0, .int .i64 0, .int .i64 0, .int .i64 0, .int .i64 0]), 5, 40) := by kernel_rfl
theorem news_step' (W : World) (y0 y1 y2 y3 y4 : Value) (h0 : y0.oneCell' = true) (h1 : y1.oneCell' = true) (h2 : y2.oneCell' = true) (h3 : y3.oneCell' = true) (h4 : y4.oneCell' = true) : Src (W.alloc (.cells #[y0, y1, y2, y3, y4] 144)) (.slice (some ⟨W.heap.size, 0, none⟩) 1 1) 1 5 [y0, y1, y2, y3, y4] := by
 refine .inr ⟨⟨W.heap.size, 0, none⟩, 1, rfl, rfl, fun j u hu => ?_, fun u hu => ?_⟩
 ·have hb : Blk 144 (W.alloc (.cells #[y0, y1, y2, y3, y4] 144)) W.heap.size [y0, y1, y2, y3, y4] := heap_alloc_new W _
  have e : (⟨W.heap.size, 0, none⟩ : Addr).add j = ⟨W.heap.size, j, none⟩ := by
   simp only [Addr.add]
   by_cases h : j = 0
   ·subst h; rfl
   ·simp [h]
  rw [e]
  exact hb.cell hu
 ·simp at hu
  rcases hu with rfl | rfl | rfl | rfl | rfl <;> assumption
def relax (L : List Int) (e : Ed) : List Int := (L.set e.1.toNat (min (L.getD e.1.toNat 0) (L.getD e.2.1.toNat 0))).set e.2.1.toNat (min (L.getD e.1.toNat 0) (L.getD e.2.1.toNat 0))
theorem relax_len (L : List Int) (e : Ed) : (relax L e).length = L.length := by simp [relax]
theorem fold_relax_len : ∀ (es : List Ed) (L : List Int), (es.foldl relax L).length = L.length
 | [], _ => rfl
 | e :: es, L => by rw [List.foldl_cons, fold_relax_len es, relax_len]
def idL (N : Nat) : List Int := (List.range N).map fun (v : Nat) => (v : Int)
def labAt (N : Nat) (es : List Ed) : Nat → List Int
 | 0 => idL N
 | i + 1 => es.foldl relax (labAt N es i)
theorem labAt_len (N : Nat) (es : List Ed) : ∀ i, (labAt N es i).length = N
 | 0 => by simp [labAt, idL]
 | i + 1 => by rw [labAt, fold_relax_len, labAt_len N es i]
end Go.Proofs.YtalflecmadacaaaGreat
