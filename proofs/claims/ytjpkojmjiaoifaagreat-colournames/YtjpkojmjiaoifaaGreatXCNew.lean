import Derived.Deep.DeepCutAuto
import Derived.Deep.CutBlock
import Derived.Test.YtjpkojmjiaoifaaGreatZAZ
import Derived.Test.YtjpkojmjiaoifaaGreatXRNear
namespace Go.Proofs.YtjpkojmjiaoifaaGreat
open Go Go.Proofs Go.RowKit Go.Maps
def newN (n : Nat) (l : List Ed) (i : Nat) : List (Option (List Int)) := (List.range n).map fun (v : Nat) => if v < i then some (nb l (v : Int)) else none
def newF (l : List Ed) : Nat → List (List Int)
 | 0 => List.replicate 6 []
 | i + 1 => fileF (newF l i) (nb l (i : Int)).length (i : Int)
theorem newN_len (n : Nat) (l : List Ed) (i : Nat) : (newN n l i).length = n := by simp [newN]
theorem newN_zero (n : Nat) (l : List Ed) : newN n l 0 = List.replicate n none := by
 apply List.ext_getElem
 ·simp [newN]
 ·intro i h1 h2
  simp [newN]
theorem newN_step {n : Nat} {l : List Ed} {i : Nat} (h : i < n) : (newN n l i).set i (some (nb l (i : Int))) = newN n l (i + 1) := by
 apply List.ext_getElem?
 intro j
 by_cases hj : j < n
 ·by_cases e : i = j
  ·subst e
   rw [List.getElem?_set_self (by rw [newN_len]; exact h)]
   simp [newN, h]
  ·rw [List.getElem?_set_ne e]
   simp only [newN, List.getElem?_map, List.getElem?_range hj, Option.map_some]
   congr 1
   by_cases h2 : j < i
   ·rw [if_pos h2, if_pos (by omega)]
   ·rw [if_neg h2, if_neg (by omega)]
 ·rw [List.getElem?_eq_none (by rw [List.length_set, newN_len]; omega), List.getElem?_eq_none (by rw [newN_len]; omega)]
theorem newN_all {n : Nat} {l : List Ed} {v : Nat} (h : v < n) : (newN n l n)[v]? = some (some (nb l (v : Int))) := by simp [newN, h]
theorem newF_fv {n : Nat} {l : List Ed} : ∀ {i : Nat}, i ≤ n → FV n i (newF l i)
 | 0, _ => ⟨rfl, fun L hL => by rw [List.eq_of_mem_replicate hL]; exact ⟨Nat.le_refl _, fun x hx => by cases hx⟩⟩
 | i + 1, h => (newF_fv (i := i) (by omega)).file (by omega)
theorem grow_set {L : List Int} (hn : L.Nodup) {i : Nat} (h : i < L.length) : (if L[i] ∈ L.take i then L.take i else L.take i ++ [L[i]]) = L.take (i + 1) := by
 have h1 : L[i] ∉ L.take i := by
  intro hm
  have h2 : L = L.take i ++ L[i] :: L.drop (i + 1) := by
   conv => lhs; rw [← List.take_append_drop i L]
   rw [List.drop_eq_getElem_cons h]
  have h3 := hn
  rw [h2, List.nodup_append] at h3
  exact h3.2.2 _ hm _ List.mem_cons_self rfl
 rw [if_neg h1, List.take_add_one, List.getElem?_eq_getElem h]
 rfl
theorem infoMp : (Tryz.prog.info? 71).map (fun i => (i.zero, i.size, i.bytes)) = some (some (.map none), 1, 8) := by kernel_rfl
theorem made_maps (n : Nat) : (madeCells (Value.map none).cells (n * 1)).toList = (List.replicate n (none : Option Nat)).map Value.map := by
 apply List.ext_getElem
 ·simp [madeCells]
 ·intro i h1 h2
  simp [madeCells, Value.cells, Nat.mod_one]
theorem SM.start {W : World} {h0 sb gb tb n : Nat} (hsb : Blk 70 W sb [.slice (some ⟨gb, 0, none⟩) n n, .slice none 0 0, .slice none 0 0, .slice none 0 0, .slice none 0 0, .slice none 0 0, .slice none 0 0, .slice (some ⟨tb, 0, none⟩) 0 n])
  (hgb : Blk 71 W gb ((List.replicate n (none : Option Nat)).map Value.map)) (htb : W.ownsRow h0 74 3 (.slice (some ⟨tb, 0, none⟩) 0 n) 0 []) (h1 : h0 ≤ sb) (h2 : h0 ≤ gb) (hne : sb ≠ gb ∧ sb ≠ tb ∧ gb ≠ tb) :
  ∃ tag, SM h0 sb gb (List.replicate n none) (List.replicate n none) (List.replicate 6 (.slice none 0 0, [])) (.slice (some ⟨tb, 0, none⟩) 0 n) [] tag W := by
 have hno : ∀ {v b : Nat}, (List.replicate n (none : Option Nat))[v]? ≠ some (some b) := by
  intro v b h
  have := List.mem_of_getElem? h
  simp at this
 have hfs : ∀ x : Value × List Int, x ∈ List.replicate 6 ((Value.slice none 0 0 : Value), ([] : List Int)) → x = (.slice none 0 0, []) := fun x hx => List.eq_of_mem_replicate hx
 refine ⟨fun k => if k = sb then 0 else if k = gb then 1 else 9, ?_, ⟨hgb, by simp, fun v S h => ?_, fun v h => ?_, fun u v b h => absurd h hno, fun v b h => absurd h hno⟩, by simp, fun x hx => ?_, htb, fun s hs => by simp at hs, by simp, ?_, fun v b h => absurd h hno, fun i x hx b hb => ?_, fun b hb => ?_, fun s hs => by simp at hs, h1, h2, fun v b h => absurd h hno⟩
 ·rw [List.length_replicate]
  exact hsb
 ·have := List.mem_of_getElem? h
  simp at this
 ·have hv := (List.getElem?_eq_some_iff.1 h).1
  rw [List.length_replicate] at hv
  rw [List.getElem?_replicate, if_pos hv]
 ·rw [hfs x hx]
  exact World.ownsRow_nil _ _ _ _
 ·show (if gb = sb then 0 else if gb = gb then 1 else 9) = 1
  rw [if_neg (Ne.symm hne.1), if_pos rfl]
 ·rw [hfs x (List.mem_of_getElem? hx)] at hb
  cases hb
 ·have e : b = tb := by simpa [Value.ownBlock] using hb.symm
  subst e
  show (if b = sb then 0 else if b = gb then 1 else 9) = 9
  rw [if_neg (Ne.symm hne.2.1), if_neg (Ne.symm hne.2.2)]
theorem run_makeHint (m : Nat) (W : World) : (Instr.makeMap 71 (some (.int .i64 (m : Int)))).run Tryz.prog W = .ok (.map (some W.heap.size)) (W.alloc (.map #[] 0)) := by
 simp [Instr.makeMap, go_sem]
def NewI (h0 sb gb n : Nat) (tv : Value) (N : List (Option (List Int))) (F : List (List Int)) (lo : Nat) (w w3 wr : World) : Prop :=
 ∃ bs fs tag, fs.map Prod.snd = F ∧ SM h0 sb gb bs N fs tv [] tag wr ∧ (∀ j, lo ≤ j → j < w3.heap.size → tag j = 11 ∧ wr.heap[j]? = w3.heap[j]?) ∧ w3.heap.size ≤ wr.heap.size ∧ N.length = n ∧ Below h0 w wr
set_option maxRecDepth 100000 in
set_option maxHeartbeats 8000000 in
theorem new_any (n : Nat) (hn : n ≤ 1048576) (l : List Ed) (hR : RightG (n : Int) l) (sv : Value) (w : World) (hl : Edges w.heap.size w sv l) :
  Calls Tryz.prog 18 #[.agg #[.int .i64 (n : Int), sv]] w fun e w' => ∃ sb, e = .returned (.pointer (some ⟨sb, 0, none⟩)) ∧ SX w.heap.size sb (newN n l n) (newF l n) [] w' ∧ Below w.heap.size w w' := by
 obtain ⟨pe, ce, rfl⟩ := hl.len
 obtain ⟨i0, hi, hz0, hz1, hz2⟩ := info_parts infoStp
 obtain ⟨j0, hj, hy0, hy1, hy2⟩ := info_parts infoMp
 have hbA : Below w.heap.size w (w.alloc (.cells #[.int .i64 (n : Int), .slice pe l.length ce] 24)) := (Below.refl _ _).alloc (Nat.le_refl _) _
 have hXA : Blk 24 (w.alloc (.cells #[.int .i64 (n : Int), .slice pe l.length ce] 24)) w.heap.size [.int .i64 (n : Int), .slice pe l.length ce] := heap_alloc_new w _
 have g0 := hXA.cell (j := 0) rfl
 have HXA : Hid _ := hXA
 have HBA : Hid (Below w.heap.size w (w.alloc (.cells #[.int .i64 (n : Int), .slice pe l.length ce] 24))) := hbA
 clear hXA
 go_enter Tryz.func18, Tryz.ntmps18
 go_wp2_with fail
 generalize hw1 : w.alloc (.cells #[.int .i64 (n : Int), .slice pe l.length ce] 24) = w1 at *
 have hs1 : w.heap.size < w1.heap.size := by rw [← hw1]; simp
 have HMT : Hid (∀ W : World, w.heap.size ≤ W.heap.size → ∃ W', (Instr.makeSlice 67 (.int .i64 0) (.int .i64 (n : Int))).run Tryz.prog W = .ok (.slice (some ⟨W.heap.size, 0, none⟩) 0 n) W' ∧ W'.ownsRow w.heap.size 74 3 (.slice (some ⟨W.heap.size, 0, none⟩) 0 n) 0 [] ∧ W.grownBy W' none) := fun W hW =>
  run_make_own (P := Tryz.prog) W w.heap.size 67 74 i0 _ 3 Tryz.underlying67 hi hz0 hz1 .i64 .i64 n (by rw [hz2]; omega) (by unfold maxLen; omega) hW
 have HMG : Hid (∀ W : World, w.heap.size ≤ W.heap.size → ∃ W', (Instr.makeSlice 66 (.int .i64 (n : Int)) (.int .i64 (n : Int))).run Tryz.prog W = .ok (.slice (some ⟨W.heap.size, 0, none⟩) n n) W' ∧ Blk 71 W' W.heap.size ((List.replicate n (none : Option Nat)).map Value.map) ∧ W.grownBy W' none) := fun W hW => by
  obtain ⟨W', h1, h2, h3⟩ := run_make_full (P := Tryz.prog) W w.heap.size 66 71 j0 (.map none) 1 Tryz.underlying66 hj hy0 hy1 .i64 .i64 n (by rw [hy2]; omega) (by unfold maxLen; omega) hW
  exact ⟨W', h1, by rw [← made_maps]; exact Blk.made h2, h3⟩
 clear hbA hw1
 go_cut [3] (fun t wx => ∃ sb gb tb tag, t = .pointer (some ⟨sb, 0, none⟩) ∧ SM w.heap.size sb gb (List.replicate n none) (List.replicate n none) (List.replicate 6 (.slice none 0 0, [])) (.slice (some ⟨tb, 0, none⟩) 0 n) [] tag wx ∧ Below w1.heap.size w1 wx)
 case first =>
  refine wp_region_held_drew (S := (fun w' : World => w'.cell? ⟨w.heap.size, 0, none⟩ = some (.int .i64 (n : Int)))) (by kernel_rfl) g0 (fun hHeld => ?_)
  refine wpAnyH_take (i := 0) (v := ?_) rfl (by kernel_rfl) (by kernel_rfl) (by kernel_rfl) (fun _ _ _ h => h) (Or.inl ⟨by rfl, ?_⟩) (by assumption) ?_
  rotate_left
  ·intro w hSw; (try dsimp only at hSw); go_simp; (try with_reducible rfl)
  try simp only [Act.put, List.setIfInBounds_toArray]
  refine wpAnyH_take (i := 1) (v := ?_) rfl (by kernel_rfl) (by kernel_rfl) (by kernel_rfl) (fun _ _ _ h => h) (Or.inl ⟨by rfl, ?_⟩) (by assumption) ?_
  rotate_left
  ·intro w hSw; (try dsimp only at hSw); go_simp; (try with_reducible rfl)
  try simp only [Act.put]
  refine wpAnyH_take (i := 3) (v := ?_) rfl (by kernel_rfl) (by kernel_rfl) (by kernel_rfl) (fun _ _ _ h => h) (Or.inl ⟨by rfl, ?_⟩) (by assumption) ?_
  rotate_left
  ·intro w hSw; (try dsimp only at hSw); go_simp; (try with_reducible rfl)
  try simp only [Act.put]
  refine wpAnyH_take (i := 4) (v := ?_) rfl (by kernel_rfl) (by kernel_rfl) (by kernel_rfl) (fun _ _ _ h => h) (Or.inl ⟨by rfl, ?_⟩) (by assumption) ?_
  rotate_left
  ·intro w hSw; (try dsimp only at hSw); go_simp; (try with_reducible rfl)
  try simp only [Act.put]
  try simp only [List.getElem_toArray, List.getElem_cons_zero, List.getElem_cons_succ, List.setIfInBounds_toArray, List.set_cons_zero, List.set_cons_succ]
  have hbd : Below w1.heap.size w1 w1.drew := below_drewN (Below.refl _ _) 1
  have hsd : w1.drew.heap.size = w1.heap.size := rfl
  refine wpAnyH_ready (rs := [2, 5]) (by kernel_rfl) (by simp) ?_
  refine AllReadyH.cons rfl (fun K hK => ?_) (AllReadyH.cons rfl (fun K hK => ?_) AllReadyH.nil)
  ·obtain ⟨w2, hr2, hB2, hg2⟩ := HMG.out w1.drew (by rw [hsd]; omega)
   have hb2 : Below w1.heap.size w1 w2 := hbd.grown hg2 (Nat.le_refl _) (fun k e => by cases e)
   have hl2 := hB2.lt
   rw [hsd] at *
   go_simp
   refine hK.out _ _ (cell_keepK hb2 g0) (fun hHeld1 => ?_)
   clear hK K hr2 hg2
   try simp only [Act.put, List.setIfInBounds_toArray, List.set_cons_zero, List.set_cons_succ]
   obtain ⟨w3, hr3, hO3, hg3⟩ := HMT.out w2 (by omega)
   have hb3 : Below w1.heap.size w1 w3 := hb2.grown hg3 hb2.size (fun k e => by cases e)
   have hB3 := hB2.grown hg3 (by simp)
   have hl3 := (hO3.lt w2.heap.size rfl).2
   refine wpAnyH_ready (rs := [5]) (by kernel_rfl) (by simp) ?_
   refine AllReadyH.cons rfl (fun K hK => ?_) AllReadyH.nil
   go_simp
   refine hK.out _ _ (cell_keepK hb3 g0) (fun hHeld2 => ?_)
   clear hK K hr3 hg3
   try simp only [Act.put, List.setIfInBounds_toArray, List.set_cons_zero, List.set_cons_succ]
   refine wpAnyH_take (i := 6) (v := ?_) rfl (by kernel_rfl) (by kernel_rfl) (by kernel_rfl) (fun _ _ _ h => h) (Or.inl ⟨by rfl, ?_⟩) (by assumption) ?_
   rotate_left
   ·intro w hSw; (try dsimp only at hSw); go_simp; (try with_reducible rfl)
   try simp only [Act.put]
   try simp only [List.getElem_toArray, List.getElem_cons_zero, List.getElem_cons_succ, List.setIfInBounds_toArray, List.set_cons_zero, List.set_cons_succ]
   have hSB : Blk 70 (w3.alloc (.cells #[.slice (some ⟨w1.heap.size, 0, none⟩) n n, .slice none 0 0, .slice none 0 0, .slice none 0 0, .slice none 0 0, .slice none 0 0, .slice none 0 0, .slice (some ⟨w2.heap.size, 0, none⟩) 0 n] 70)) w3.heap.size [.slice (some ⟨w1.heap.size, 0, none⟩) n n, .slice none 0 0, .slice none 0 0, .slice none 0 0, .slice none 0 0, .slice none 0 0, .slice none 0 0, .slice (some ⟨w2.heap.size, 0, none⟩) 0 n] := heap_alloc_new w3 _
   have hbS : Below w3.heap.size w3 (w3.alloc (.cells #[.slice (some ⟨w1.heap.size, 0, none⟩) n n, .slice none 0 0, .slice none 0 0, .slice none 0 0, .slice none 0 0, .slice none 0 0, .slice none 0 0, .slice (some ⟨w2.heap.size, 0, none⟩) 0 n] 70)) := (Below.refl _ _).alloc (Nat.le_refl _) _
   have hbw3 := hb3.size
   have hgl3 := hB3.lt
   obtain ⟨tagS, hSM⟩ := SM.start hSB (hB3.go hbS) (World.ownsRow.alloc hO3 _) (by omega) (by omega) ⟨by omega, by omega, by omega⟩
   have hbS1 := hb3.trans (hbS.mono hb3.size)
   refine wpAnyH_ready (rs := [7]) (by kernel_rfl) (by simp) ?_
   refine AllReadyH.cons rfl (fun K hK => ?_) AllReadyH.nil
   go_simp
   refine hK.out _ _ (cell_keepK hbS1 g0) (fun hHeld3 => ?_)
   clear hK K
   try simp only [Act.put, List.setIfInBounds_toArray, List.set_cons_zero, List.set_cons_succ]
   refine wpAnyH_take (i := 8) (v := ?_) rfl (by kernel_rfl) (by kernel_rfl) (by kernel_rfl) (fun _ _ _ h => h) (Or.inl ⟨by rfl, ?_⟩) (by assumption) ?_
   rotate_left
   ·intro w hSw; (try dsimp only at hSw); go_simp; (try with_reducible rfl)
   try simp only [Act.put]
   refine wpAnyH_done (by kernel_rfl) ?_ _
   go_wp2
   go_meet
   exact ⟨w3.heap.size, _, _, tagS, rfl, hSM, hbS1⟩
  ·obtain ⟨w2, hr2, hO2, hg2⟩ := HMT.out w1.drew (by rw [hsd]; omega)
   have hb2 : Below w1.heap.size w1 w2 := hbd.grown hg2 (Nat.le_refl _) (fun k e => by cases e)
   rw [hsd] at *
   have hl2 := (hO2.lt w1.heap.size rfl).2
   go_simp
   refine hK.out _ _ (cell_keepK hb2 g0) (fun hHeld1 => ?_)
   clear hK K hr2 hg2
   try simp only [Act.put, List.setIfInBounds_toArray, List.set_cons_zero, List.set_cons_succ]
   obtain ⟨w3, hr3, hB3, hg3⟩ := HMG.out w2 (by omega)
   have hb3 : Below w1.heap.size w1 w3 := hb2.grown hg3 hb2.size (fun k e => by cases e)
   have hO3 := hO2.kept hg3 (.inr (by simp [Value.ownBlock]))
   have hl3 := (hO3.lt w1.heap.size rfl).2
   refine wpAnyH_ready (rs := [2]) (by kernel_rfl) (by simp) ?_
   refine AllReadyH.cons rfl (fun K hK => ?_) AllReadyH.nil
   go_simp
   refine hK.out _ _ (cell_keepK hb3 g0) (fun hHeld2 => ?_)
   clear hK K hr3 hg3
   try simp only [Act.put, List.setIfInBounds_toArray, List.set_cons_zero, List.set_cons_succ]
   refine wpAnyH_take (i := 6) (v := ?_) rfl (by kernel_rfl) (by kernel_rfl) (by kernel_rfl) (fun _ _ _ h => h) (Or.inl ⟨by rfl, ?_⟩) (by assumption) ?_
   rotate_left
   ·intro w hSw; (try dsimp only at hSw); go_simp; (try with_reducible rfl)
   try simp only [Act.put]
   try simp only [List.getElem_toArray, List.getElem_cons_zero, List.getElem_cons_succ, List.setIfInBounds_toArray, List.set_cons_zero, List.set_cons_succ]
   have hSB : Blk 70 (w3.alloc (.cells #[.slice (some ⟨w2.heap.size, 0, none⟩) n n, .slice none 0 0, .slice none 0 0, .slice none 0 0, .slice none 0 0, .slice none 0 0, .slice none 0 0, .slice (some ⟨w1.heap.size, 0, none⟩) 0 n] 70)) w3.heap.size [.slice (some ⟨w2.heap.size, 0, none⟩) n n, .slice none 0 0, .slice none 0 0, .slice none 0 0, .slice none 0 0, .slice none 0 0, .slice none 0 0, .slice (some ⟨w1.heap.size, 0, none⟩) 0 n] := heap_alloc_new w3 _
   have hbS : Below w3.heap.size w3 (w3.alloc (.cells #[.slice (some ⟨w2.heap.size, 0, none⟩) n n, .slice none 0 0, .slice none 0 0, .slice none 0 0, .slice none 0 0, .slice none 0 0, .slice none 0 0, .slice (some ⟨w1.heap.size, 0, none⟩) 0 n] 70)) := (Below.refl _ _).alloc (Nat.le_refl _) _
   have hbw3 := hb3.size
   have hgl3 := hB3.lt
   obtain ⟨tagS, hSM⟩ := SM.start hSB (hB3.go hbS) (World.ownsRow.alloc hO3 _) (by omega) (by omega) ⟨by omega, by omega, by omega⟩
   have hbS1 := hb3.trans (hbS.mono hb3.size)
   refine wpAnyH_ready (rs := [7]) (by kernel_rfl) (by simp) ?_
   refine AllReadyH.cons rfl (fun K hK => ?_) AllReadyH.nil
   go_simp
   refine hK.out _ _ (cell_keepK hbS1 g0) (fun hHeld3 => ?_)
   clear hK K
   try simp only [Act.put, List.setIfInBounds_toArray, List.set_cons_zero, List.set_cons_succ]
   refine wpAnyH_take (i := 8) (v := ?_) rfl (by kernel_rfl) (by kernel_rfl) (by kernel_rfl) (fun _ _ _ h => h) (Or.inl ⟨by rfl, ?_⟩) (by assumption) ?_
   rotate_left
   ·intro w hSw; (try dsimp only at hSw); go_simp; (try with_reducible rfl)
   try simp only [Act.put]
   refine wpAnyH_done (by kernel_rfl) ?_ _
   go_wp2
   go_meet
   exact ⟨w3.heap.size, _, _, tagS, rfl, hSM, hbS1⟩
 case rest =>
  obtain ⟨sb, gb, tb, tag, rfl, hSM, hb⟩ := hcut
  have hbw : Below w.heap.size w wc := HBA.out.trans (hb.mono (by omega))
  have hXc : Blk 24 wc w.heap.size [.int .i64 (n : Int), .slice pe l.length ce] := Blk.go (vs := [.int .i64 (n : Int), .slice pe l.length ce]) HXA.out hb
  have e0 := hXc.cell (j := 0) rfl
  have e1 := hXc.cell (j := 1) rfl
  have hnr := near_at n l hR (.slice pe l.length ce) wc ((hl.below hbw).mono hbw.size)
  have HSM : Hid _ := hSM.retag 11
  have HBW : Hid (Below w.heap.size w wc) := hbw
  clear hSM hb hbw hXc HMT HMG g0 HXA HBA hs1
  go_wp2_with fail
  refine hnr.mono ?_
  clear hnr
  rintro e w3 ⟨gn, hn0, bsn, deg, rfl, hNI, hgn, hb3⟩
  have hstart : NewI w.heap.size sb gb n (.slice (some ⟨tb, 0, none⟩) 0 n) (newN n l 0) (newF l 0) wc.heap.size w w3 w3 := by
   refine ⟨_, _, _, ?_, by rw [newN_zero]; exact SM.go HSM.out hb3, fun j h1 _ => ⟨if_neg (by omega), rfl⟩, Nat.le_refl _, newN_len _ _ _, HBW.out.trans (hb3.mono HBW.out.size)⟩
   rw [List.map_replicate]
   rfl
  have HNI : Hid (NearI n gn hn0 bsn deg (fun v => nb l (v : Int)) w3) := hNI
  have HST : Hid (NewI w.heap.size sb gb n (.slice (some ⟨tb, 0, none⟩) 0 n) (newN n l 0) (newF l 0) wc.heap.size w w3 w3) := hstart
  clear hstart hNI HSM HBW hb3 e0 e1
  go_wp2
  go_loopw [19] (fun iv wr => ∃ i : Nat, i ≤ n ∧ iv = .int .i64 i ∧ NewI w.heap.size sb gb n (.slice (some ⟨tb, 0, none⟩) 0 n) (newN n l i) (newF l i) wc.heap.size w w3 wr) (fun iv _ => n - (intOf iv).toNat)
  case atStart => exact ⟨0, Nat.zero_le _, rfl, HST.out⟩
  case round =>
   clear HST
   obtain ⟨i, hi', rfl, hI⟩ := hrel
   by_cases hlt : i < n
   ·have hil : (i : Int) < (n : Int) := by omega
    obtain ⟨bs, fs, tagi, hfs, hM, hk, hsz, hNl, hbi⟩ := hI
    have hgn3 := HNI.out.row.lt
    have c0 : wr.cell? ⟨gn, i, none⟩ = some (.slice (some ⟨bsn.getD i 0, 0, none⟩) (nb l (i : Int)).length (deg i)) := by
     rw [World.cell?_of_block (a := ⟨gn, i, none⟩) (hk gn hgn hgn3).2]
     exact HNI.out.row.cell (rowsV_at hlt)
    have c1 := hM.row
    rw [newN_len] at c1
    have hgbl := hM.nm.row.lt
    obtain ⟨zc, hzc⟩ : ∃ z, wr.cell? ⟨gb, i, none⟩ = some z := ⟨_, hM.nm.row.cell (List.getElem?_eq_getElem (by rw [List.length_map, hM.nm.len, newN_len]; exact hlt))⟩
    have fzc := hM.nm.row.frozen i
    obtain ⟨tagm, hMm, hkm⟩ := (hM.go (below_drewN (Below.refl _ _) 1 : Below wr.heap.size wr wr.drew)).enter (Nat.le_trans hbi.size (Nat.le_refl _)) (v := i) (by rw [newN_len]; exact hlt)
    have HMm : Hid (SM w.heap.size sb gb (bs.set i (some wr.heap.size)) ((newN n l i).set i (some [])) fs (.slice (some ⟨tb, 0, none⟩) 0 n) [] tagm ((wr.drew.alloc (.map #[] 0)).setCell ⟨gb, i, none⟩ (.map (some wr.heap.size)))) := hMm
    have HKm : Hid (∀ j, wc.heap.size ≤ j → j < w3.heap.size → tagm j = 11 ∧ ((wr.drew.alloc (.map #[] 0)).setCell ⟨gb, i, none⟩ (.map (some wr.heap.size))).heap[j]? = w3.heap[j]?) := fun j h1 h2 => ⟨(hkm j (by show j < wr.heap.size; omega) (hk j h1 h2).1).1, (hkm j (by show j < wr.heap.size; omega) (hk j h1 h2).1).2.trans (hk j h1 h2).2⟩
    have HBm : Hid (Below w.heap.size w ((wr.drew.alloc (.map #[] 0)).setCell ⟨gb, i, none⟩ (.map (some wr.heap.size)))) := ((below_drewN hbi 1).alloc hbi.size _).setCell (p := ⟨gb, i, none⟩) hM.lg _
    have HFS : Hid (fs.map Prod.snd = newF l i) := hfs
    have HSZ : Hid (w3.heap.size ≤ wr.heap.size) := hsz
    have HOW : Hid (w3.ownsRow hn0 3 1 (.slice (some ⟨bsn.getD i 0, 0, none⟩) (nb l (i : Int)).length (deg i)) (nb l (i : Int)).length ((nb l (i : Int)).map (Value.int .i64)) ∧ wc.heap.size ≤ bsn.getD i 0) := ⟨HNI.out.own i hlt, by have h1 := HNI.out.low i hlt; have h2 := HNI.out.out; omega⟩
    have HNS : Hid ((newN n l i).set i (some (nb l (i : Int))) = newN n l (i + 1)) := newN_step hlt
    have HNF : Hid (newF l (i + 1) = fileF (newF l i) (nb l (i : Int)).length (i : Int)) := rfl
    have HLN : Hid ((nb l (i : Int)).Nodup) := (nb_rise hR (i : Int)).imp (fun h => Int.ne_of_lt h)
    have HLW : Hid (∀ x ∈ nb l (i : Int), (Lit.int .i64 x).wf = true) := fun x hx => by
     obtain ⟨_, h1, h2, _⟩ := nb_mutual hR hx
     obtain ⟨k, rfl⟩ : ∃ k : Nat, x = (k : Int) := ⟨x.toNat, by omega⟩
     exact wf_nat (by omega)
    have hLl : (nb l (i : Int)).length ≤ 4194304 := Nat.le_trans (nb_len (i : Int) l) hR.m1
    have HF1 : Hid (FV n i (newF l i)) := newF_fv hi'
    clear hM hMm hkm hk hfs hbi hsz hNl
    generalize bsn.getD i 0 = bn at *
    generalize nb l (i : Int) = L at *
    generalize deg i = dg at *
    go_wp2_with fail
    refine wp_region_last (S := (fun w' : World => w'.cell? ⟨sb, 0, none⟩ = some (.slice (some ⟨gb, 0, none⟩) n n))) (by kernel_rfl) c1 (fun hHeld => ?_)
    refine wpAnyL_take (i := 0) (v := ?_) rfl (by kernel_rfl) (by kernel_rfl) (by kernel_rfl) (by kernel_rfl) (fun _ _ _ h => h) (Or.inl ⟨by rfl, ?_⟩) (by assumption) ?_
    rotate_left
    ·intro w hSw; (try dsimp only at hSw); go_simp; (try with_reducible rfl)
    try simp only [Act.put, List.setIfInBounds_toArray]
    refine wpAnyL_take (i := 1) (v := ?_) rfl (by kernel_rfl) (by kernel_rfl) (by kernel_rfl) (by kernel_rfl) (fun _ _ _ h => h) (Or.inl ⟨by rfl, ?_⟩) (by assumption) ?_
    rotate_left
    ·intro w hSw; (try dsimp only at hSw); go_simp; (try with_reducible rfl)
    try simp only [Act.put]
    refine wpAnyL_take (i := 2) (v := ?_) rfl (by kernel_rfl) (by kernel_rfl) (by kernel_rfl) (by kernel_rfl) (fun _ _ _ h => h) (Or.inl ⟨by rfl, ?_⟩) (by assumption) ?_
    rotate_left
    ·intro w hSw; (try dsimp only at hSw); go_simp; (try with_reducible rfl)
    try simp only [Act.put]
    refine wpAnyL_take (i := 3) (v := ?_) rfl (by kernel_rfl) (by kernel_rfl) (by kernel_rfl) (by kernel_rfl) (fun _ _ _ h => h) (Or.inl ⟨by rfl, ?_⟩) (by assumption) ?_
    rotate_left
    ·intro w hSw; (try dsimp only at hSw); go_simp; (try with_reducible rfl)
    try simp only [Act.put]
    refine wpAnyL_take (i := 4) (v := ?_) rfl (by kernel_rfl) (by kernel_rfl) (by kernel_rfl) (by kernel_rfl) (fun _ _ _ h => h) (Or.inl ⟨by rfl, ?_⟩) (by assumption) ?_
    rotate_left
    ·intro w hSw; (try dsimp only at hSw); go_simp; (try with_reducible rfl)
    try simp only [Act.put]
    refine wpAnyL_take (i := 5) (v := ?_) rfl (by kernel_rfl) (by kernel_rfl) (by kernel_rfl) (by kernel_rfl) (fun _ _ _ h => h) (Or.inl ⟨by rfl, ?_⟩) (by assumption) ?_
    rotate_left
    ·intro w hSw; (try dsimp only at hSw); go_simp; (try with_reducible rfl)
    try simp only [Act.put]
    refine wpAnyL_take (i := 6) (v := ?_) rfl (by kernel_rfl) (by kernel_rfl) (by kernel_rfl) (by kernel_rfl) (fun _ _ _ h => h) (Or.inl ⟨by rfl, ?_⟩) (by assumption) ?_
    rotate_left
    ·intro w hSw; (try dsimp only at hSw); go_simp; (try with_reducible rfl)
    try simp only [Act.put]
    try simp only [List.getElem_toArray, List.getElem_cons_zero, List.getElem_cons_succ, List.setIfInBounds_toArray, List.set_cons_zero, List.set_cons_succ]
    have hbA : Below wr.heap.size wr (wr.drew.alloc (.map #[] 0)) := (below_drewN (Below.refl _ _) 1).alloc (Nat.le_refl _) _
    have hmk := run_makeHint L.length wr.drew
    have hsd : wr.drew.heap.size = wr.heap.size := rfl
    rw [hsd] at hmk
    have hzA := cell_keepK hbA hzc
    have hfA : (wr.drew.alloc (.map #[] 0)).frozen? ⟨gb, i, none⟩ = false := (hbA.frozen (p := ⟨gb, i, none⟩) hgbl).trans fzc
    have hc1A := cell_keepK hbA c1
    generalize wr.drew.alloc (.map #[] 0) = w5 at *
    refine wpAnyL_ready (rs := [7]) (by kernel_rfl) (by simp) ?_
    refine AllReadyL.cons rfl (fun K hK => ?_) AllReadyL.nil
    go_simp
    refine hK.out _ _ hc1A (fun hHeld1 => ?_)
    clear hK K hmk
    try simp only [Act.put, List.setIfInBounds_toArray, List.set_cons_zero, List.set_cons_succ]
    refine wpAnyL_take (i := 8) (v := ?_) rfl (by kernel_rfl) (by kernel_rfl) (by kernel_rfl) (by kernel_rfl) (fun _ _ _ h => h) (Or.inl ⟨by rfl, ?_⟩) (by assumption) ?_
    rotate_left
    ·intro w hSw; (try dsimp only at hSw); go_simp; (try with_reducible rfl)
    try simp only [Act.put]
    refine wpAnyL_ready (rs := [9]) (by kernel_rfl) (by simp) ?_
    refine AllReadyL.last rfl (by kernel_rfl) (fun K hK => ?_)
    go_simp
    refine hK.out _ _ ?_
    clear hK K
    try simp only [Act.put, List.setIfInBounds_toArray, List.set_cons_zero, List.set_cons_succ]
    refine wpAnyL_done (by kernel_rfl) ?_ _
    have HZ6 : Hid (w3.heap.size ≤ (w5.setCell ⟨gb, i, none⟩ (.map (some wr.heap.size))).heap.size) := by
     have h1 := hbA.size
     have h2 := HSZ.out
     unfold Hid
     simp
     omega
    clear hHeld hHeld1 hc1A hzA hfA hbA hsd hzc fzc c0 c1 hgbl HSZ
    generalize hwz : wr.heap.size = bm at *
    generalize w5.setCell ⟨gb, i, none⟩ (.map (some bm)) = w6 at *
    clear hwz
    go_wp2
    go_loopw [35] (fun iv ws => ∃ j : Nat, j ≤ L.length ∧ iv = .int .i64 j ∧ SM w.heap.size sb gb (bs.set i (some bm)) ((newN n l i).set i (some (L.take j))) fs (.slice (some ⟨tb, 0, none⟩) 0 n) [] tagm ws ∧ (∀ k, wc.heap.size ≤ k → k < w3.heap.size → ws.heap[k]? = w3.heap[k]?) ∧ w3.heap.size ≤ ws.heap.size ∧ Below w.heap.size w ws) (fun iv _ => L.length - (intOf iv).toNat)
    case atStart => exact ⟨0, Nat.zero_le _, rfl, HMm.out, fun k h1 h2 => (HKm.out k h1 h2).2, HZ6.out, HBm.out⟩
    case round =>
     clear HMm HBm HZ6
     obtain ⟨j, hj', rfl, hMj, hkj, hzj, hbj⟩ := hrel
     by_cases hjt : j < L.length
     ·have hjl : (j : Int) < (L.length : Int) := by omega
      have hbn3 := (World.ownsRow.lt HOW.out.1 bn rfl).2
      have cx : wr.cell? ⟨bn, j, none⟩ = some (.int .i64 L[j]) := by
       rw [World.cell?_of_block (a := ⟨bn, j, none⟩) (hkj bn HOW.out.2 hbn3), World.ownsRow.cellAt HOW.out.1 j (by omega), List.getElem?_map, List.getElem?_eq_getElem hjt]
       rfl
      have hib : i < bs.length := by have h1 := hMj.nm.len; rw [List.length_set, List.length_set, newN_len] at h1; omega
      have hat : (bs.set i (some bm))[i]? = some (some bm) := List.getElem?_set_self hib
      obtain ⟨S0, hS0, hSM0⟩ := hMj.nm.holds hat
      rw [List.getElem?_set_self (by rw [newN_len]; exact hlt)] at hS0
      simp only [Option.some.injEq] at hS0
      subst hS0
      obtain ⟨w7, hrs, hSM7, ht7⟩ := hSM0.store (by rw [List.length_take]; unfold maxLen; omega) (HLW.out L[j] (List.getElem_mem hjt))
      rw [grow_set HLN.out hjt] at hSM7
      have hM7 := hMj.turn hat ht7 hSM7
      rw [List.set_set] at hM7
      have ctab := hMj.row
      rw [List.length_set, newN_len] at ctab
      have ccell : wr.cell? ⟨gb, i, none⟩ = some (.map (some bm)) := hMj.nm.row.cell (by rw [List.getElem?_map, hat]; rfl)
      have HM7 : Hid (SM w.heap.size sb gb (bs.set i (some bm)) ((newN n l i).set i (some (L.take (j + 1)))) fs (.slice (some ⟨tb, 0, none⟩) 0 n) [] tagm w7) := hM7
      have HK7 : Hid ((∀ k, wc.heap.size ≤ k → k < w3.heap.size → w7.heap[k]? = w3.heap[k]?) ∧ w3.heap.size ≤ w7.heap.size ∧ Below w.heap.size w w7) := ⟨fun k h1 h2 => (turned_other ht7 (fun e => by have h3 := (HKm.out k h1 h2).1; have h4 := hMj.tm i bm hat; rw [e] at h3; omega)).trans (hkj k h1 h2), by rw [turned_size ht7]; exact hzj, turned_below hbj ht7 (hMj.lm i bm hat)⟩
      generalize L[j] = x at *
      clear hMj hkj hzj hbj hSM0 hSM7 ht7 hM7 hat
      go_wp2
      exact ⟨⟨j + 1, hjt, by go_num, HM7.out, HK7.out.1, HK7.out.2.1, HK7.out.2.2⟩, by simp [intOf]; omega⟩
     ·have hjl : ¬ (j : Int) < (L.length : Int) := by omega
      have hj2 : j = L.length := by omega
      rw [hj2, List.take_length] at hMj
      have hfl := file_sm w.heap.size sb i gb _ _ fs _ [] tagm L (List.getElem?_set_self (by rw [newN_len]; exact hlt)) wr hMj (Nat.le_trans hbj.size (Nat.le_refl _)) (fun L' hL' => by rw [HFS.out] at hL'; have := (HF1.out.2 L' hL').1; omega)
      have HKJ : Hid ((∀ k, wc.heap.size ≤ k → k < w3.heap.size → wr.heap[k]? = w3.heap[k]?) ∧ w3.heap.size ≤ wr.heap.size ∧ Below w.heap.size w wr) := ⟨hkj, hzj, hbj⟩
      clear hMj hkj hzj hbj hj2
      go_wp2_with fail
      refine hfl.mono ?_
      clear hfl
      rintro e w8 ⟨rfl, ⟨fs8, tag8, hfs8, hM8, hk8⟩, hb8⟩
      have HFIN : Hid (NewI w.heap.size sb gb n (.slice (some ⟨tb, 0, none⟩) 0 n) (newN n l (i + 1)) (newF l (i + 1)) wc.heap.size w w3 w8) := by
       refine ⟨_, fs8, tag8, by rw [hfs8, HNF.out, HFS.out], by rw [← HNS.out]; exact hM8, fun k h1 h2 => ?_, Nat.le_trans HKJ.out.2.1 hb8.size, newN_len _ _ _, HKJ.out.2.2.trans hb8⟩
       have h3 := hk8 k (Nat.lt_of_lt_of_le h2 HKJ.out.2.1) (HKm.out k h1 h2).1
       exact ⟨h3.1, h3.2.trans (HKJ.out.1 k h1 h2)⟩
      clear hfs8 hM8 hk8 hb8
      go_wp2
      exact ⟨⟨i + 1, hlt, by go_num, HFIN.out⟩, by simp [intOf]; omega⟩
   ·have hil : ¬ (i : Int) < (n : Int) := by omega
    obtain rfl : i = n := by omega
    obtain ⟨bs, fs, tagi, hfs, hM, hk, hsz, hNl, hbi⟩ := hI
    have HFIN : Hid (SX w.heap.size sb (newN i l i) (newF l i) [] wr ∧ Below w.heap.size w wr) := ⟨⟨gb, bs, fs, _, tagi, hfs, hM⟩, hbi⟩
    clear hfs hM hk hsz hNl hbi
    go_wp2
    go_ret
    exact ⟨sb, rfl, HFIN.out.1, HFIN.out.2⟩
end Go.Proofs.YtjpkojmjiaoifaaGreat
