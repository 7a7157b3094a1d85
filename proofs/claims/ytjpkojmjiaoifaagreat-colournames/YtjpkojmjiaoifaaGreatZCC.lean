/-
  PROVED: filigreelaw11.ColourNames returns true for any arguments, and each argument reads afterwards as it read before. No condition.
-/
import Derived.Test.YtjpkojmjiaoifaaGreatZCA
import Derived.Test.YtjpkojmjiaoifaaGreatZCB
import Derived.Test.YtjpkojmjiaoifaaGreatZBW
import Derived.Test.YtjpkojmjiaoifaaGreatZBX
import Derived.Test.YtjpkojmjiaoifaaGreatZAV
import Derived.Test.YtjpkojmjiaoifaaGreatZBU
import Derived.Test.YtjpkojmjiaoifaaGreatZBT
import Derived.Test.YtjpkojmjiaoifaaGreatZBZ
import Derived.Test.YtjpkojmjiaoifaaGreatZAY
import Derived.BigQuiet
import Derived.Laws.Append
import Derived.Test.YtjpkojmjiaoifaaGreatZBM
import Derived.OwnWalk
import Derived.Laws.ResultCell
import Derived.Test.YtjpkojmjiaoifaaGreatZAC
import Derived.Deep.DeepCutAuto
import Derived.Deep.CutBlock
import Derived.Test.YtjpkojmjiaoifaaGreatXPLinked
import Derived.Test.YtjpkojmjiaoifaaGreatZAM
import Derived.Test.YtjpkojmjiaoifaaGreatZAA
import Derived.BigRegion
import Derived.Test.YtjpkojmjiaoifaaGreatZAG
namespace Go.Proofs.YtjpkojmjiaoifaaGreat
open Go Go.Proofs Go.RowKit
theorem planeK_no {L : List Int} {i : Nat} (hi : i < L.length) (h : L[i] ≠ 2) : planeK L = 12 := by
 unfold planeK
 rw [if_pos]
 rw [List.any_eq_true]
 exact ⟨L[i], List.getElem_mem hi, by simpa using h⟩
theorem planeK_yes {L : List Int} (h : ∀ (i : Nat) (hi : i < L.length), L[i] = 2) : planeK L = 0 := by
 unfold planeK
 rw [if_neg]
 rw [List.any_eq_true]
 rintro ⟨x, hx, h2⟩
 obtain ⟨i, hi, rfl⟩ := List.getElem_of_mem hx
 simp at h2
 exact h2 (h i hi)
set_option maxRecDepth 100000 in
set_option maxHeartbeats 4000000 in
theorem refPlane_any (N : Nat) (l : List Ed) (hR : RightG (N : Int) l) (r : List (List Int)) (hS : SysR N l r) (hN : N ≤ 1000) (hm : l.length ≤ 4000) (sv rv : Value) (w : World) (hl : Edges w.heap.size w sv l) (hr : Lsts w.heap.size w rv r) :
  Calls Tryz.prog 8 #[.agg #[.int .i64 (N : Int), sv], rv] w fun e w' => e = .returned (.int .i64 (planeK (numsL N l r))) ∧ Below w.heap.size w w' := by
 have hb1 : Below w.heap.size w (w.alloc (.cells #[.int .i64 (N : Int), sv] 24)) := (Below.refl _ _).alloc (Nat.le_refl _) _
 have hX1 : Blk 24 (w.alloc (.cells #[.int .i64 (N : Int), sv] 24)) w.heap.size [.int .i64 (N : Int), sv] := heap_alloc_new w _
 have q0 := hX1.cell (j := 0) rfl
 have q1 := hX1.cell (j := 1) rfl
 have hrc := refSys_any (N : Int) l r sv rv _ (hl.go hb1) (hr.go hb1)
 rw [sysK_ok hR hS] at hrc
 have HRE : Hid (∀ W, Edges W.heap.size W sv l → Lsts W.heap.size W rv r → _) := fun W h1 h2 => refEuler_any N l hR r hS hN hm sv rv W h1 h2
 have HL : Hid (Edges w.heap.size w sv l) := hl
 have HR : Hid (Lsts w.heap.size w rv r) := hr
 have HB1 : Hid (Below w.heap.size w (w.alloc (.cells #[.int .i64 (N : Int), sv] 24))) := hb1
 have HX1 : Hid (Blk 24 (w.alloc (.cells #[.int .i64 (N : Int), sv] 24)) w.heap.size [.int .i64 (N : Int), sv]) := hX1
 have HNL : Hid ((numsL N l r).length ≤ 1000) := by have := numsL_len N l r; have := (comps_ok hR).few; unfold Hid; omega
 clear hb1 hX1 hl hr hR hS
 generalize numsL N l r = nums at *
 go_enter Tryz.func8, Tryz.ntmps8
 go_wp2_with fail
 generalize w.alloc (.cells #[.int .i64 (N : Int), sv] 24) = w1 at *
 refine hrc.mono ?_
 clear hrc
 rintro e w2 ⟨rfl, hb2⟩
 have HB2 : Hid (Below w.heap.size w w2) := HB1.out.trans (hb2.mono HB1.out.size)
 have HX2 : Hid (Blk 24 w2 w.heap.size [.int .i64 (N : Int), sv]) := HX1.out.go hb2
 clear hb2 q0 q1 HB1 HX1
 have q0 := HX2.out.cell (j := 0) rfl
 have q1 := HX2.out.cell (j := 1) rfl
 have hre := HRE.out w2 (HL.out.go HB2.out) (HR.out.go HB2.out)
 go_wp2_with fail
 refine hre.mono ?_
 clear hre
 rintro e w3 ⟨lv, rfl, hI3, hb3⟩
 obtain ⟨pn, cn, rfl⟩ := hI3.len
 have HI3 : Hid (Ints w3.heap.size w3 (.slice pn nums.length cn) nums) := hI3
 have HB3 : Hid (Below w.heap.size w w3) := HB2.out.trans (hb3.mono HB2.out.size)
 have hnl := HNL.out
 clear hI3 hb3 q0 q1 HB2 HX2
 go_wp2
 go_loop [7] (fun i => ∃ j : Nat, j ≤ nums.length ∧ i = .int .i64 j ∧ Hid (∀ (k : Nat) (hk : k < nums.length), k < j → nums[k] = 2)) (fun i => nums.length - (intOf i).toNat)
 case atStart => exact ⟨0, Nat.zero_le _, rfl, fun k _ h => by omega⟩
 case round =>
  obtain ⟨j, hj, rfl, HS⟩ := hrel
  by_cases hlt : j < nums.length
  ·have hjl : (j : Int) < (nums.length : Int) := by omega
   obtain ⟨b, off, rfl, hbb, hcap, hc⟩ := HI3.out.open hlt
   have c0 := hc w3 (Below.refl _ _) j hlt
   by_cases he : nums[j] = 2
   ·have HS2 : Hid (∀ (k : Nat) (hk : k < nums.length), k < j + 1 → nums[k] = 2) := fun k hk h => by
     by_cases e : k = j
     ·subst e; exact he
     ·exact HS.out k hk (by omega)
    rw [he] at c0
    have HLT : Hid (j < nums.length) := hlt
    clear hc HS he hlt
    go_wp2
    exact ⟨⟨j + 1, HLT.out, by go_num, HS2.out⟩, by have := HLT.out; simp [intOf]; omega⟩
   ·have HE : Hid (planeK nums = 12) := planeK_no hlt he
    have he' : (nums[j] != 2) = true := by simpa using he
    generalize nums[j] = x at *
    clear hc HS he hlt
    go_wp2
    go_ret
    exact ⟨by rw [HE.out]; rfl, HB3.out⟩
  ·have hjn : ¬ (j : Int) < (nums.length : Int) := by omega
   have HE : Hid (planeK nums = 0) := planeK_yes (fun k hk => HS.out k hk (by omega))
   clear HS
   go_wp2
   go_ret
   exact ⟨by rw [HE.out]; rfl, HB3.out⟩
end Go.Proofs.YtjpkojmjiaoifaaGreat

namespace Go.Proofs.YtjpkojmjiaoifaaGreat
open Go Go.Proofs Go.RowKit
set_option maxRecDepth 100000 in
set_option maxHeartbeats 2000000 in
theorem refPlaneC_bad (n : Int) (l : List Ed) (r : List (List Int)) (hk : sysK n l r ≠ 0) (sv rv : Value) (w : World) (hl : Edges w.heap.size w sv l) (hr : Lsts w.heap.size w rv r) :
  Calls Tryz.prog 8 #[.agg #[.int .i64 n, sv], rv] w fun e w' => e = .returned (.int .i64 (sysK n l r)) ∧ Below w.heap.size w w' := by
 have hbA : Below w.heap.size w (w.alloc (.cells #[.int .i64 n, sv] 24)) := (Below.refl _ _).alloc (Nat.le_refl _) _
 have hX : Blk 24 (w.alloc (.cells #[.int .i64 n, sv] 24)) w.heap.size [.int .i64 n, sv] := heap_alloc_new w _
 have q0 := hX.cell (j := 0) rfl
 have q1 := hX.cell (j := 1) rfl
 have hrc := refSys_any n l r sv rv _ (hl.go hbA) (hr.go hbA)
 have HBA : Hid _ := hbA
 clear hX hl hr hbA
 generalize sysK n l r = k at *
 go_enter Tryz.func8, Tryz.ntmps8
 go_wp2_with fail
 generalize w.alloc (.cells #[.int .i64 n, sv] 24) = w1 at *
 refine hrc.mono ?_
 clear hrc
 rintro e w2 ⟨rfl, hb2⟩
 have HB2 : Hid (Below w.heap.size w w2) := HBA.out.trans (hb2.mono HBA.out.size)
 clear hb2 q0 q1
 go_wp2
 go_ret
 exact ⟨rfl, HB2.out⟩
set_option maxRecDepth 100000 in
set_option maxHeartbeats 2000000 in
theorem five_no (n : Int) (k : Int) (hk : k ≠ 0) (sv rv : Value) (w : World) (hpl : ∀ W, Below w.heap.size w W → Calls Tryz.prog 17 #[.agg #[.int .i64 n, sv], rv] W fun e w' => e = .returned (.int .i64 k) ∧ Below W.heap.size W w') :
  Calls Tryz.prog 7 #[.agg #[.int .i64 n, sv], rv] w fun e w' => e = .returned (.tuple #[.slice none 0 0, .int .i64 k]) ∧ Below w.heap.size w w' := by
 have hbA : Below w.heap.size w (w.alloc (.cells #[.int .i64 n, sv] 24)) := (Below.refl _ _).alloc (Nat.le_refl _) _
 have hX : Blk 24 (w.alloc (.cells #[.int .i64 n, sv] 24)) w.heap.size [.int .i64 n, sv] := heap_alloc_new w _
 have q0 := hX.cell (j := 0) rfl
 have q1 := hX.cell (j := 1) rfl
 have hrc := hpl _ hbA
 have hk' : (k == 0) = false := by rw [beq_eq_false_iff_ne]; exact hk
 have HBA : Hid _ := hbA
 clear hX hbA hpl hk
 go_enter Tryz.func7, Tryz.ntmps7
 go_wp2_with fail
 generalize w.alloc (.cells #[.int .i64 n, sv] 24) = w1 at *
 refine hrc.mono ?_
 clear hrc
 rintro e w2 ⟨rfl, hb2⟩
 have HB2 : Hid (Below w.heap.size w w2) := HBA.out.trans (hb2.mono HBA.out.size)
 clear hb2 q0 q1
 go_wp2
 refine bodyPost_ret (results_tmp2 rfl _ _ _) rfl ?_
 exact ⟨rfl, HB2.out⟩
theorem five_or (n : Int) (l : List Ed) (r : List (List Int)) (hn : n ≤ 1000) (hl4 : l.length ≤ 4000) (sv rv : Value) (w : World) (hl : Edges w.heap.size w sv l) (hr : Lsts w.heap.size w rv r) :
  (∃ k : Int, k ≠ 0 ∧ (∀ W, Below w.heap.size w W → Calls Tryz.prog 7 #[.agg #[.int .i64 n, sv], rv] W fun e w' => e = .returned (.tuple #[.slice none 0 0, .int .i64 k]) ∧ Below W.heap.size W w') ∧ (∀ W, Below w.heap.size w W → Calls Tryz.prog 8 #[.agg #[.int .i64 n, sv], rv] W fun e w' => e = .returned (.int .i64 k) ∧ Below W.heap.size W w')) ∨
  (∃ N : Nat, n = (N : Int) ∧ RightG (N : Int) l ∧ SysR N l r ∧ planeK (numsL N l r) = 0 ∧ (∀ W, Below w.heap.size w W → Calls Tryz.prog 8 #[.agg #[.int .i64 n, sv], rv] W fun e w' => e = .returned (.int .i64 0) ∧ Below W.heap.size W w')) := by
 by_cases hk : sysK n l r = 0
 ·obtain ⟨N, rfl, hR, hS⟩ := sysK_nought hk
  by_cases hp : planeK (numsL N l r) = 0
  ·refine .inr ⟨N, rfl, hR, hS, hp, fun W hW => ?_⟩
   have h := refPlane_any N l hR r hS (by omega) hl4 sv rv W (hl.go hW) (hr.go hW)
   rw [hp] at h
   exact h
  ·refine .inl ⟨_, hp, fun W hW => five_no (N : Int) _ hp sv rv W (fun W' hW' => plane_any N l hR r hS sv rv W' ((hl.go hW).go hW') ((hr.go hW).go hW')), fun W hW => refPlane_any N l hR r hS (by omega) hl4 sv rv W (hl.go hW) (hr.go hW)⟩
 ·exact .inl ⟨_, hk, fun W hW => five_no n _ hk sv rv W (fun W' hW' => plane_bad n l r hk sv rv W' ((hl.go hW).go hW') ((hr.go hW).go hW')), fun W hW => refPlaneC_bad n l r hk sv rv W (hl.go hW) (hr.go hW)⟩
end Go.Proofs.YtjpkojmjiaoifaaGreat

namespace Go.Proofs.YtjpkojmjiaoifaaGreat
open Go Go.Proofs Go.RowKit
def uptoL (n : Nat) : List Int := (List.range n).map fun (k : Nat) => (k : Int)
theorem uptoL_succ (n : Nat) : uptoL (n + 1) = uptoL n ++ [(n : Int)] := by simp [uptoL, List.range_succ]
theorem uptoL_len (n : Nat) : (uptoL n).length = n := by simp [uptoL]
set_option maxRecDepth 100000 in
set_option maxHeartbeats 2000000 in
theorem upto_any (n : Nat) (hn : n ≤ 1048576) (w : World) :
  Calls Tryz.prog 10 #[.int .i64 (n : Int)] w fun e w' => ∃ v, e = .returned v ∧ w'.ownsRow w.heap.size 3 1 v n ((uptoL n).map (Value.int .i64)) ∧ Below w.heap.size w w' := by
 obtain ⟨i0, hi, hz0, hz1, hz2⟩ := info_parts infoI
 go_enter Tryz.func10, Tryz.ntmps10
 go_wp2
 go_loopw [3, 4] (fun ov iv wr => ∃ i : Nat, i ≤ n ∧ iv = .int .i64 i ∧ wr.ownsRow w.heap.size 3 1 ov i ((uptoL i).map (Value.int .i64)) ∧ Below w.heap.size w wr) (fun _ iv _ => n - (intOf iv).toNat)
 case atStart => exact ⟨0, Nat.zero_le _, rfl, World.ownsRow_nil _ _ _ _, Below.refl _ _⟩
 case round =>
  obtain ⟨i, hi', rfl, ho, hb⟩ := hrel
  obtain ⟨po, mo, co, rfl⟩ := owns_slice ho
  by_cases hlt : i < n
  ·have hil : (i : Int) < (n : Int) := by omega
   have hbA : Below w.heap.size w (wr.alloc (.cells #[.int .i64 (i : Int)] 3)) := hb.alloc hb.size _
   have HOA : Hid ((wr.alloc (.cells #[.int .i64 (i : Int)] 3)).ownsRow w.heap.size 3 1 (.slice po mo co) i ((uptoL i).map (Value.int .i64))) := World.ownsRow.alloc ho _
   have HBA : Hid (Below w.heap.size w (wr.alloc (.cells #[.int .i64 (i : Int)] 3))) := hbA
   have HNEW : Hid (∀ j u, [Value.int .i64 (i : Int)][j]? = some u → (wr.alloc (.cells #[.int .i64 (i : Int)] 3)).cell? ((⟨wr.heap.size, 0, none⟩ : Addr).add j) = some u) := one_cellF wr (.int .i64 (i : Int)) 3
   have hmx : i + 1 ≤ maxLen := by unfold maxLen; omega
   have hby : (i + 1) * 8 ≤ 140737488355328 := by omega
   have hbs : w.heap.size ≤ (wr.alloc (.cells #[.int .i64 (i : Int)] 3)).heap.size := hbA.size
   clear ho hb hbA
   go_wp2_with (at_builtin; refine wpList_append_own_at _ rfl _ _ 28 rfl w.heap.size 3 i0 (.int .i64 0) 1 8 Tryz.underlying28 hi hz0 hz1 hz2 rfl (by decide) (.slice po mo co) _ _ rfl HOA.out ⟨wr.heap.size, 0, none⟩ 1 1 [.int .i64 (i : Int)] rfl rfl HNEW.out (by simp [Value.oneCell']) hmx hby hbs ?_)
   intro v6 w6 ho6 hg6 hnil6 hat6
   obtain ⟨a6, m6, c6, rfl⟩ := owns_slice ho6
   have HB6 : Hid (Below w.heap.size w w6) := Below.grown HBA.out hg6 hbs (fun q hq => (World.ownsRow.lt HOA.out q hq).1)
   have HO6 : Hid (w6.ownsRow w.heap.size 3 1 (.slice a6 m6 c6) (i + 1) ((uptoL (i + 1)).map (Value.int .i64))) := by unfold Hid; rw [uptoL_succ, List.map_append]; exact ho6
   clear ho6 hg6 hnil6 hat6 HOA HBA HNEW hbs
   go_wp2
   exact ⟨⟨i + 1, hlt, by go_num, HO6.out, HB6.out⟩, by simp [intOf]; omega⟩
  ·have hil : ¬ (i : Int) < (n : Int) := by omega
   obtain rfl : i = n := by omega
   have HO : Hid (wr.ownsRow w.heap.size 3 1 (.slice po mo co) i ((uptoL i).map (Value.int .i64))) := ho
   have HB : Hid (Below w.heap.size w wr) := hb
   clear ho hb
   go_wp2
   go_ret
   exact ⟨_, rfl, HO.out, HB.out⟩
def FewI (n : Nat) (ov : Value) (w wr : World) : Prop := ∃ Q : List Int, wr.ownsRow w.heap.size 3 1 ov n (Q.map (Value.int .i64)) ∧ Q.Perm (uptoL n) ∧ Below w.heap.size w wr
theorem swap_perm {Q : List Int} {x y : Nat} (hx : x < Q.length) (hy : y < Q.length) : ((Q.set x Q[y]).set y Q[x]).Perm Q := by
 by_cases e : x = y
 ·subst e
  rw [List.set_set, List.set_getElem_self]
 ·refine List.perm_iff_count.2 fun a => ?_
  have h1 : (Q.set x Q[y])[y]'(by rw [List.length_set]; exact hy) = Q[y] := by rw [List.getElem_set_ne e]
  rw [List.count_set (by rw [List.length_set]; exact hy), h1, List.count_set hx]
  have hc1 : 0 < Q.count Q[x] := List.count_pos_iff.2 (List.getElem_mem hx)
  by_cases ha : Q[x] = a
  ·rw [ha] at hc1
   by_cases hb : Q[y] = a
   ·simp [ha, hb]
    omega
   ·simp [ha, hb]
    omega
  ·by_cases hb : Q[y] = a <;> simp [ha, hb]
end Go.Proofs.YtjpkojmjiaoifaaGreat

namespace Go.Proofs.YtjpkojmjiaoifaaGreat
open Go Go.Proofs
structure NmP (N : Nat) (Q : List Int) : Prop where
 len : Q.length = N
 lt : ∀ v, v < N → ∃ u : Nat, Q.getD v 0 = (u : Int) ∧ u < N
 inj : ∀ u v, u < N → v < N → Q.getD u 0 = Q.getD v 0 → u = v
 onto : ∀ u : Nat, u < N → ∃ v, v < N ∧ Q.getD v 0 = (u : Int)
theorem nmP_of {N : Nat} {Q : List Int} (h : Q.Perm (uptoL N)) : NmP N Q := by
 have hl : Q.length = N := by rw [h.length_eq, uptoL_len]
 have hg : ∀ v, v < N → ∃ hv : v < Q.length, Q.getD v 0 = Q[v] := fun v hv => ⟨by omega, by rw [List.getD_eq_getElem?_getD, List.getElem?_eq_getElem (by omega)]; rfl⟩
 have hn : Q.Nodup := h.nodup_iff.2 (List.pairwise_map.2 (List.nodup_range.imp fun h e => h (by omega)))
 refine ⟨hl, fun v hv => ?_, fun u v hu hv e => ?_, fun u hu => ?_⟩
 ·obtain ⟨h1, h2⟩ := hg v hv
  obtain ⟨k, hk, e⟩ := List.mem_map.1 (h.mem_iff.1 (List.getElem_mem h1))
  exact ⟨k, by rw [h2, ← e], List.mem_range.1 hk⟩
 ·obtain ⟨h1, h2⟩ := hg u hu
  obtain ⟨h3, h4⟩ := hg v hv
  rw [h2, h4] at e
  exact (List.getElem_inj hn).1 e
 ·have hm : (u : Int) ∈ Q := h.mem_iff.2 (List.mem_map.2 ⟨u, List.mem_range.2 hu, rfl⟩)
  obtain ⟨v, hv, e⟩ := List.mem_iff_getElem.1 hm
  exact ⟨v, by omega, by rw [List.getD_eq_getElem?_getD, List.getElem?_eq_getElem hv]; exact e⟩
def nmI (Q : List Int) (z : Int) : Int := Q.getD z.toNat 0
def nmE (Q : List Int) (e : Ed) : Ed := (nmI Q e.1, nmI Q e.2.1, e.2.2)
section
variable {N : Nat} {l : List Ed} {r : List (List Int)} {Q : List Int}
theorem NmP.at (h : NmP N Q) {z : Int} (h0 : 0 ≤ z) (h1 : z < (N : Int)) : ∃ u : Nat, nmI Q z = (u : Int) ∧ u < N := h.lt z.toNat (by omega)
theorem NmP.eq (h : NmP N Q) {y z : Int} (h0 : 0 ≤ y) (h1 : y < (N : Int)) (h2 : 0 ≤ z) (h3 : z < (N : Int)) (e : nmI Q y = nmI Q z) : y = z := by
 have := h.inj y.toNat z.toNat (by omega) (by omega) e
 omega
theorem nm_ok (h : NmP N Q) (hR : RightG (N : Int) l) : ∀ e ∈ l.map (nmE Q), okE (N : Int) e := by
 intro e he
 obtain ⟨f, hf, rfl⟩ := List.mem_map.1 he
 have hok := (hR.each f hf).1
 obtain ⟨h1, h2, h3, h4, h5, h6⟩ := hok
 obtain ⟨u, eu, hu⟩ := h.at h1 h2
 obtain ⟨v, ev, hv⟩ := h.at h3 h4
 refine ⟨?_, ?_, ?_, ?_, fun e => h5 (h.eq h1 h2 h3 h4 e), h6⟩
 ·show 0 ≤ nmI Q f.1; omega
 ·show nmI Q f.1 < _; omega
 ·show 0 ≤ nmI Q f.2.1; omega
 ·show nmI Q f.2.1 < _; omega
theorem nm_make (h : NmP N Q) (hR : RightG (N : Int) l) : makeK (N : Int) (l.map (nmE Q)) = 0 := by
 have h0 : manyK (N : Int) (l.map (nmE Q)).length = 0 := by
  have := hR.n0; have := hR.n1; have := hR.m1
  unfold manyK
  rw [List.length_map, if_neg (by omega), if_neg (by omega)]
 have ha : Alone ((l.map (nmE Q)).map norm) := by
  rw [List.map_map]
  refine List.pairwise_map.2 (hR.rise.imp_of_mem fun {a b} ha hb hlo hab => ?_)
  obtain ⟨a1, a2, a3, a4, a5, _⟩ := (hR.each a ha).1
  obtain ⟨b1, b2, b3, b4, b5, _⟩ := (hR.each b hb).1
  have ha' := (hR.each a ha).2
  have hb' := (hR.each b hb).2
  rw [lo_iff] at hlo
  simp only [Function.comp, norm, nmE] at hab
  have key : (nmI Q a.1 = nmI Q b.1 ∧ nmI Q a.2.1 = nmI Q b.2.1) ∨ (nmI Q a.1 = nmI Q b.2.1 ∧ nmI Q a.2.1 = nmI Q b.1) := by omega
  rcases key with ⟨k1, k2⟩ | ⟨k1, k2⟩
  ·have := h.eq a1 a2 b1 b2 k1
   have := h.eq a3 a4 b3 b4 k2
   omega
  ·have := h.eq a1 a2 b3 b4 k1
   have := h.eq a3 a4 b1 b2 k2
   omega
 unfold makeK
 rw [if_pos h0, if_pos (first_of (nm_ok h hR)), if_pos ha]
theorem nm_right (h : NmP N Q) (hR : RightG (N : Int) l) : RightG (N : Int) (srt ((l.map (nmE Q)).map norm)) := make_right (nm_make h hR)
theorem ends_of {a b u v : Nat} (h : ((min (a : Int) (b : Int)).toNat = u ∧ (max (a : Int) (b : Int)).toNat = v) ∨ ((min (a : Int) (b : Int)).toNat = v ∧ (max (a : Int) (b : Int)).toNat = u)) : (a = u ∧ b = v) ∨ (a = v ∧ b = u) := by omega
theorem ends_to {a b u v : Nat} (h : (a = u ∧ b = v) ∨ (a = v ∧ b = u)) : ((min (a : Int) (b : Int)).toNat = u ∧ (max (a : Int) (b : Int)).toNat = v) ∨ ((min (a : Int) (b : Int)).toNat = v ∧ (max (a : Int) (b : Int)).toNat = u) := by omega
theorem nm_adj (h : NmP N Q) (hR : RightG (N : Int) l) {u v u' v' : Nat} (hu : u < N) (hv : v < N) (eu : Q.getD u 0 = (u' : Int)) (ev : Q.getD v 0 = (v' : Int)) : (v' : Int) ∈ nb (srt ((l.map (nmE Q)).map norm)) (u' : Int) ↔ (v : Int) ∈ nb l (u : Int) := by
 rw [← adj_nb (nm_right h hR), ← adj_nb hR]
 have hq : ∀ e ∈ l, ∃ a b a' b' : Nat, e.1 = (a : Int) ∧ e.2.1 = (b : Int) ∧ a < N ∧ b < N ∧ nmI Q e.1 = (a' : Int) ∧ nmI Q e.2.1 = (b' : Int) ∧ (∀ x x' : Nat, x < N → Q.getD x 0 = (x' : Int) → (a' = x' ↔ a = x)) ∧ ∀ x x' : Nat, x < N → Q.getD x 0 = (x' : Int) → (b' = x' ↔ b = x) := fun e he => by
  obtain ⟨h1, h2, h3, h4, h5, _⟩ := (hR.each e he).1
  obtain ⟨a', ea, _⟩ := h.at h1 h2
  obtain ⟨b', eb, _⟩ := h.at h3 h4
  refine ⟨e.1.toNat, e.2.1.toNat, a', b', by omega, by omega, by omega, by omega, ea, eb, fun x x' hx ex => ⟨fun e1 => ?_, fun e1 => ?_⟩, fun x x' hx ex => ⟨fun e1 => ?_, fun e1 => ?_⟩⟩
  ·refine h.inj _ _ (by omega) hx ?_
   rw [ex, ← e1]
   exact ea
  ·unfold nmI at ea
   rw [e1, ex] at ea
   omega
  ·refine h.inj _ _ (by omega) hx ?_
   rw [ex, ← e1]
   exact eb
  ·unfold nmI at eb
   rw [e1, ex] at eb
   omega
 constructor
 ·rintro ⟨f, hf, hc⟩
  have hf' := (srt_perm _).mem_iff.1 hf
  rw [List.map_map] at hf'
  obtain ⟨e, he, rfl⟩ := List.mem_map.1 hf'
  obtain ⟨a, b, a', b', e1, e2, ha, hb, e3, e4, k1, k2⟩ := hq e he
  simp only [Function.comp, norm, nmE, e3, e4] at hc
  have k1u := k1 u u' hu eu
  have k1v := k1 v v' hv ev
  have k2u := k2 u u' hu eu
  have k2v := k2 v v' hv ev
  refine ⟨e, he, ?_⟩
  rw [e1, e2]
  simp only [Int.toNat_natCast]
  rcases ends_of hc with ⟨q1, q2⟩ | ⟨q1, q2⟩
  ·exact .inl ⟨k1u.1 q1, k2v.1 q2⟩
  ·exact .inr ⟨k1v.1 q1, k2u.1 q2⟩
 ·rintro ⟨e, he, hc⟩
  obtain ⟨a, b, a', b', e1, e2, ha, hb, e3, e4, k1, k2⟩ := hq e he
  have k1u := k1 u u' hu eu
  have k1v := k1 v v' hv ev
  have k2u := k2 u u' hu eu
  have k2v := k2 v v' hv ev
  refine ⟨norm (nmE Q e), (srt_perm _).mem_iff.2 (by rw [List.map_map]; exact List.mem_map.2 ⟨e, he, rfl⟩), ?_⟩
  rw [e1, e2] at hc
  simp only [Int.toNat_natCast] at hc
  simp only [norm, nmE, e3, e4]
  refine ends_to ?_
  rcases hc with ⟨q1, q2⟩ | ⟨q1, q2⟩
  ·exact .inl ⟨k1u.2 q1, k2v.2 q2⟩
  ·exact .inr ⟨k1v.2 q1, k2u.2 q2⟩
structure NmS (N : Nat) (Q : List Int) (r S : List (List Int)) : Prop where
 len : S.length = N
 at' : ∀ v w : Nat, v < N → Q.getD v 0 = (w : Int) → S.getD w [] = (r.getD v []).map (nmI Q)
theorem nm_sys (h : NmP N Q) (hR : RightG (N : Int) l) (hS : SysR N l r) {S : List (List Int)} (hN : NmS N Q r S) : SysR N (srt ((l.map (nmE Q)).map norm)) S := by
 refine ⟨hN.len, fun w hw => ?_⟩
 obtain ⟨v, hv, ev⟩ := h.onto w hw
 rw [hN.at' v w hv ev]
 have hSy := sy_of hR hS
 have hR2 := nm_right h hR
 refine (List.perm_ext_iff_of_nodup ?_ ((nb_rise hR2 (w : Int)).imp fun {a b} (h : a < b) => (show a ≠ b by omega))).2 fun y => ?_
 ·have hn : (r.getD v []).Pairwise (· ≠ ·) := hSy.nod v hv
  refine List.pairwise_map.2 ((List.Pairwise.and_mem.1 hn).imp fun {a b} hab e => ?_)
  obtain ⟨x, rfl, hx, _⟩ := hSy.both v hv a hab.1
  obtain ⟨z, rfl, hz, _⟩ := hSy.both v hv b hab.2.1
  exact hab.2.2 (h.eq (by omega) (by omega) (by omega) (by omega) e)
 ·rw [List.mem_map]
  constructor
  ·rintro ⟨z, hz, rfl⟩
   obtain ⟨x, rfl, hx, _⟩ := hSy.both v hv z hz
   obtain ⟨x', ex, hx'⟩ := h.lt x hx
   have : nmI Q (x : Int) = (x' : Int) := by unfold nmI; rw [Int.toNat_natCast]; exact ex
   rw [this]
   exact (nm_adj h hR hv hx ev ex).2 ((hS.perm v hv).mem_iff.1 hz)
  ·intro hy
   obtain ⟨_, h1, h2, _⟩ := nb_mutual hR2 hy
   obtain ⟨x, hx, ex⟩ := h.onto y.toNat (by omega)
   have hyy : ((y.toNat : Nat) : Int) = y := by omega
   refine ⟨(x : Int), (hS.perm v hv).mem_iff.2 ((nm_adj h hR hv hx ev ex).1 (by rw [hyy]; exact hy)), ?_⟩
   unfold nmI
   rw [Int.toNat_natCast, ex, hyy]
theorem sumI_perm {A B : List Int} (h : A.Perm B) : A.sum = B.sum := by
 induction h with
 | nil => rfl
 | cons x _ ih => rw [List.sum_cons, List.sum_cons, ih]
 | swap x y l => rw [List.sum_cons, List.sum_cons, List.sum_cons, List.sum_cons]; omega
 | trans _ _ ih1 ih2 => exact ih1.trans ih2
theorem sumZ_list (f : Nat → Int) : ∀ n, sumZ n f = ((List.range n).map f).sum
 | 0 => rfl
 | n + 1 => by
  show sumZ n f + f n = _
  rw [sumZ_list f n, List.range_succ, List.map_append, List.sum_append]
  simp
theorem nm_plan (h : NmP N Q) (hP : PlR N r) {S : List (List Int)} (hN : NmS N Q r S) (hSy2 : Sy N S) : PlR N S := by
 obtain ⟨hSy, C, R, hD, hco, hle⟩ := hP
 have hq : ∀ u : Nat, u < N → ∃ u' : Nat, nmI Q (u : Int) = (u' : Int) ∧ Q.getD u 0 = (u' : Int) ∧ u' < N := fun u hu => by
  obtain ⟨u', e, h1⟩ := h.lt u hu
  exact ⟨u', by unfold nmI; rw [Int.toNat_natCast]; exact e, e, h1⟩
 have hinj : ∀ b, b < N → ∀ x ∈ r.getD b [], ∀ y ∈ r.getD b [], nmI Q x = nmI Q y → x = y := fun b hb x hx y hy e => by
  obtain ⟨x', rfl, hx', _⟩ := hSy.both b hb x hx
  obtain ⟨y', rfl, hy', _⟩ := hSy.both b hb y hy
  exact h.eq (by omega) (by omega) (by omega) (by omega) e
 have D2 := hD.map (nx' := nxD S) (P' := DD N S) (g := fun d => (nmI Q d.1, nmI Q d.2)) (fun d e hd he e1 => by
  obtain ⟨a, b, rfl, ha, hb, _⟩ := hd
  obtain ⟨a', b', rfl, ha', hb', _⟩ := he
  have g1 := h.eq (by omega) (by omega) (by omega) (by omega) (congrArg Prod.fst e1)
  have g2 := h.eq (by omega) (by omega) (by omega) (by omega) (congrArg Prod.snd e1)
  simp only at g1 g2
  rw [g1, g2]) (fun d hd => by
  obtain ⟨a, b, rfl, ha, hb, hab⟩ := hd
  obtain ⟨b', e1, e2, hb'⟩ := hq b hb
  show nxD S (nmI Q (a : Int), nmI Q (b : Int)) = _
  rw [e1, nxD_at, hN.at' b b' hb e2, nxt_map (hinj b hb) (hSy.lt hab).2.2.2 (hSy.nod b hb), nxD_at]
  simp only [e1]) (fun z => by
  constructor
  ·rintro ⟨u, v, rfl, hu, hv, hm⟩
   obtain ⟨a, ha, ea⟩ := h.onto u hu
   rw [hN.at' a u ha ea] at hm
   obtain ⟨y, hy, e⟩ := List.mem_map.1 hm
   obtain ⟨b, rfl, hb, _⟩ := hSy.both a ha y hy
   refine ⟨((a : Int), (b : Int)), ⟨a, b, rfl, ha, hb, hy⟩, ?_⟩
   simp only [e]
   unfold nmI
   rw [Int.toNat_natCast, ea]
  ·rintro ⟨d, ⟨a, b, rfl, ha, hb, hab⟩, rfl⟩
   obtain ⟨a', e1, e2, ha'⟩ := hq a ha
   obtain ⟨b', e3, _, hb'⟩ := hq b hb
   refine ⟨a', b', by simp only [e1, e3], ha', hb', ?_⟩
   rw [hN.at' a a' ha e2]
   exact List.mem_map.2 ⟨_, hab, e3⟩)
 have hcn : ∀ {u w : Nat}, CnR r u w → ∀ u' w' : Nat, u < N → w < N → Q.getD u 0 = (u' : Int) → Q.getD w 0 = (w' : Int) → CnR S u' w' := by
  intro u w hc
  induction hc using CnR.ind with
  | refl v =>
   intro u' w' _ _ e1 e2
   have : u' = w' := by omega
   rw [this]
   exact .refl _
  | @step a b c hab _ ih =>
   intro u' w' hu hw e1 e2
   have hb := (hSy.lt hab).2.1
   obtain ⟨b', e3, e4, hb'⟩ := hq b hb
   refine .step (v := b') ?_ (ih b' w' hb hw e4 e2)
   rw [hN.at' a u' hu e1]
   exact List.mem_map.2 ⟨_, hab, e3⟩
 have hlt : ∀ {u w : Nat}, CnR r u w → u < N → w < N := by
  intro u w hc
  induction hc using CnR.ind with
  | refl v => exact fun h => h
  | step hab _ ih => exact fun _ => ih (hSy.lt hab).2.1
 refine ⟨hSy2, _, R.map fun q => (Q.getD q 0).toNat, D2, fun v hv => ?_, ?_⟩
 ·obtain ⟨a, ha, ea⟩ := h.onto v hv
  obtain ⟨q, hq1, hc⟩ := hco a ha
  have hqN := hlt hc ha
  obtain ⟨q', e1, e2, hq'⟩ := hq q hqN
  refine ⟨q', List.mem_map.2 ⟨q, hq1, by rw [e2, Int.toNat_natCast]⟩, hcn hc v q' ha hqN ea e2⟩
 ·have hsum : sumH N S = sumH N r := by
   unfold sumH
   rw [sumZ_list, sumZ_list]
   have hperm : ((List.range N).map fun v => (Q.getD v 0).toNat).Perm (List.range N) := by
    refine (List.perm_ext_iff_of_nodup (List.pairwise_map.2 ((List.Pairwise.and_mem.1 (show (List.range N).Pairwise (· ≠ ·) from List.nodup_range)).imp fun {a b} hab e => ?_)) List.nodup_range).2 fun u => ?_
    ·have ha := List.mem_range.1 hab.1
     have hb := List.mem_range.1 hab.2.1
     obtain ⟨a', e1, _⟩ := h.lt a ha
     obtain ⟨b', e2, _⟩ := h.lt b hb
     exact hab.2.2 (h.inj a b ha hb (by omega))
    ·rw [List.mem_map, List.mem_range]
     constructor
     ·rintro ⟨v, hv, rfl⟩
      obtain ⟨a', e1, h1⟩ := h.lt v (List.mem_range.1 hv)
      omega
     ·intro hu
      obtain ⟨v, hv, e⟩ := h.onto u hu
      exact ⟨v, List.mem_range.2 hv, by omega⟩
   refine (sumI_perm (hperm.map fun u => hL (S.getD u []))).symm.trans ?_
   rw [List.map_map]
   congr 1
   refine List.map_congr_left fun v hv => ?_
   obtain ⟨v', e1, e2, h1⟩ := hq v (List.mem_range.1 hv)
   show hL (S.getD (Q.getD v 0).toNat []) = hL (r.getD v [])
   rw [e2, Int.toNat_natCast, hN.at' v v' (List.mem_range.1 hv) e2]
   unfold hL
   rw [List.length_map]
   by_cases h4 : r.getD v [] = []
   ·rw [h4, List.map_nil]
   ·rw [if_neg h4, if_neg (fun e => h4 (List.map_eq_nil_iff.1 e))]
  rw [hsum, List.length_map, List.length_map]
  exact hle
theorem plane_from (hR : RightG (N : Int) l) (hS : SysR N l r) (hP : PlR N r) : planeK (numsL N l r) = 0 := by
 obtain ⟨hSy, C, R, hD, hco, hle⟩ := hP
 have hmem : ∀ (u : Nat) (y : Int), u < N → (y ∈ r.getD u [] ↔ y ∈ nb l (u : Int)) := fun u y hu => (hS.perm u hu).mem_iff
 have hconn : ∀ {u v : Nat}, CnR r u v → Conn l u v := by
  intro u v h
  induction h using CnR.ind with
  | refl => exact .refl _
  | step h1 _ ih => exact .step ((adj_nb hR).2 ((hmem _ _ (hSy.lt h1).1).1 h1)) ih
 have hD2 : Dec (nxD r) (DD N r) (facesL N l r) := by
  have h := faces_dec hR hS
  refine ⟨h.rnd, h.nodup, fun x => (h.mem x).trans ?_⟩
  rw [dartsL_mem]
  constructor
  ·rintro ⟨u, hu, h1, h2⟩
   have h3 := (nb_mutual hR h2).2
   refine ⟨u, x.2.toNat, ?_, hu, by omega, (hmem _ _ hu).2 ?_⟩
   ·rw [show ((x.2.toNat : Nat) : Int) = x.2 by omega, ← h1]
   ·rw [show ((x.2.toNat : Nat) : Int) = x.2 by omega]
    exact h2
  ·rintro ⟨u, w, rfl, hu, hw, h⟩
   exact ⟨u, hu, rfl, (hmem _ _ hu).1 h⟩
 rw [hD.len hD2] at hle
 have hrep : ∀ i, i < (compC N l).length → ∃ v q : Nat, v ∈ KC N l i ∧ q ∈ R ∧ Conn l v q := fun i hi => by
  obtain ⟨q0, _, hq0, _, hm⟩ := kc_root hR hi
  obtain ⟨q, hq, hc⟩ := hco q0 hq0
  exact ⟨q0, q, (hm q0).2 ⟨hq0, .refl _⟩, hq, hconn hc⟩
 have hmany : (compC N l).length ≤ R.length := by
  have key : ∀ m, m ≤ (compC N l).length → ∃ A : List Nat, A.Nodup ∧ A.length = m ∧ ∀ q ∈ A, q ∈ R ∧ ∃ i v, i < m ∧ v ∈ KC N l i ∧ Conn l v q := by
   intro m
   induction m with
   | zero => exact fun _ => ⟨[], List.nodup_nil, rfl, fun q h => by cases h⟩
   | succ m ih =>
    intro hm
    obtain ⟨A, h1, h2, h3⟩ := ih (by omega)
    obtain ⟨v, q, hv, hq, hc⟩ := hrep m (by omega)
    refine ⟨q :: A, List.nodup_cons.2 ⟨fun hqA => ?_, h1⟩, by rw [List.length_cons, h2], fun p hp => ?_⟩
    ·obtain ⟨_, i, v', hi, hv', hc'⟩ := h3 q hqA
     obtain ⟨q0, _, _, _, hmi⟩ := kc_root hR (show i < (compC N l).length by omega)
     have hvi : v ∈ KC N l i := (hmi v).2 ⟨kc_lt hR (by omega) v hv, (hc.trans hc'.symm).trans ((hmi v').1 hv').2⟩
     have := kc_one hR (show i < (compC N l).length by omega) (show m < (compC N l).length by omega) hvi hv
     omega
    ·rcases List.mem_cons.1 hp with rfl | hp
     ·exact ⟨hq, m, v, by omega, hv, hc⟩
     ·obtain ⟨h4, i, v', hi, h5⟩ := h3 p hp
      exact ⟨h4, i, v', by omega, h5⟩
  obtain ⟨A, h1, h2, h3⟩ := key _ (Nat.le_refl _)
  have := nodup_le h1 (fun q hq => (h3 q hq).1)
  omega
 have hdeg := sumZ_deg l (r := r) (n := N) (fun v hv => (hS.perm v hv).length_eq)
 rw [degS_all (fun e he => (hR.each e he).1)] at hdeg
 have hiso : ((List.range N).filter fun u => (r.getD u []).isEmpty).length = isoN N l := by
  unfold isoN
  rw [List.countP_eq_length_filter]
  congr 1
  refine List.filter_congr fun v hv => ?_
  have h := hS.perm v (List.mem_range.1 hv)
  rw [Bool.eq_iff_iff, List.isEmpty_iff, List.isEmpty_iff]
  constructor
  ·intro e
   rw [e] at h
   exact List.nil_perm.1 h
  ·intro e
   rw [e] at h
   exact List.perm_nil.1 h
 rw [sumH_iso, hdeg, hiso] at hle
 have e1 := sum_verts hR
 have e2 := sum_edges hR
 have e3 := sum_faces hR hS
 have e4 := sum_iso hR
 have hall : ∀ m, m ≤ (compC N l).length → (∀ i, i < m → (numsL N l r).getD i 0 ≤ 2) → sumK m (fun i => (((compC N l).getD i []).length + (facesK (facesL N l r) (KC N l i)).length) + isoK l (KC N l i)) ≤ sumK m (fun i => eK l (KC N l i) + 2) ∧ ((∃ i, i < m ∧ (numsL N l r).getD i 0 ≠ 2) → sumK m (fun i => (((compC N l).getD i []).length + (facesK (facesL N l r) (KC N l i)).length) + isoK l (KC N l i)) < sumK m (fun i => eK l (KC N l i) + 2)) := by
  intro m
  induction m with
  | zero => exact fun _ _ => ⟨Nat.le_refl _, fun ⟨i, hi, _⟩ => absurd hi (Nat.not_lt_zero _)⟩
  | succ m ih =>
   intro hm h2
   obtain ⟨i1, i2⟩ := ih (by omega) (fun i hi => h2 i (by omega))
   have hl := h2 m (by omega)
   have hn := nums_at hR hS (show m < (compC N l).length by omega)
   rw [(kc_iso hR hS (show m < (compC N l).length by omega)).1] at hn
   rw [sumK_succ, sumK_succ]
   refine ⟨by omega, fun ⟨i, hi, hne⟩ => ?_⟩
   by_cases e : i = m
   ·subst e
    omega
   ·have := i2 ⟨i, by omega, hne⟩
    omega
 obtain ⟨_, h2⟩ := hall _ (Nat.le_refl _) (fun i hi => (nums_le hR hS hi).2)
 unfold planeK
 rw [if_neg]
 rw [List.any_eq_true]
 rintro ⟨x, hx, hne⟩
 obtain ⟨i, hi, rfl⟩ := List.getElem_of_mem hx
 have hi' : i < (compC N l).length := by rw [numsL_len] at hi; exact hi
 have h3 := h2 ⟨i, hi', fun e => by
  rw [List.getD_eq_getElem?_getD, List.getElem?_eq_getElem hi, Option.getD_some] at e
  simp [e] at hne⟩
 rw [sumK_add, sumK_add, sumK_add, sumK_twoP] at h3
 omega
end
end Go.Proofs.YtjpkojmjiaoifaaGreat

namespace Go.Proofs.YtjpkojmjiaoifaaGreat
open Go Go.Proofs Go.RowKit
theorem Grp.made {h0 g N : Nat} {W : World} (h : W.ownsRow h0 28 1 (.slice (some ⟨g, 0, none⟩) N N) N (madeCells (Value.slice none 0 0).cells (N * 1)).toList) : Grp h0 (.slice (some ⟨g, 0, none⟩) N N) (List.replicate N (.slice none 0 0)) (List.replicate N []) W := by
 rw [slices_madeK] at h
 have hnil : ∀ {k : Nat} {sv : Value}, (List.replicate N (Value.slice none 0 0))[k]? = some sv → sv = .slice none 0 0 := fun {k sv} hk => by
  have := List.mem_of_getElem? hk
  exact (List.mem_replicate.1 this).2
 refine ⟨by simp, by rw [List.length_replicate]; exact h, fun k sv xs h1 h2 => ?_, fun k j sv sv' h1 h2 _ => .inl (by rw [hnil h1]; rfl), fun k sv h1 => .inl (by rw [hnil h1]; rfl)⟩
 have e1 := hnil h1
 have e2 : xs = [] := (List.mem_replicate.1 (List.mem_of_getElem? h2)).2
 subst e1; subst e2
 exact World.ownsRow_nil _ _ _ _
end Go.Proofs.YtjpkojmjiaoifaaGreat

namespace Go.Proofs.YtjpkojmjiaoifaaGreat
open Go Go.Proofs Go.RowKit
def swD (d : Dt) : Dt := (d.2, d.1)
theorem swD_swD (d : Dt) : swD (swD d) = d := rfl
theorem aft_rev {L : List Int} (hn : L.Nodup) {u : Int} (hu : u ∈ L) : aft L.reverse (L.reverse.idxOf u) ∈ L ∧ aft L (L.idxOf (aft L.reverse (L.reverse.idxOf u))) = u := by
 obtain ⟨P, Q, rfl⟩ := List.append_of_mem hu
 have huP : u ∉ P := fun h => (List.nodup_append.1 hn).2.2 u h u (by simp) rfl
 have huQ : u ∉ Q := (List.nodup_cons.1 (List.nodup_append.1 hn).2.1).1
 have er : (P ++ u :: Q).reverse = Q.reverse ++ u :: P.reverse := by simp
 rw [er, aft_split (P := Q.reverse) (Q := P.reverse) (by simpa using huQ)]
 rcases List.eq_nil_or_concat P with rfl | ⟨P', t, rfl⟩
 ·rcases List.eq_nil_or_concat Q with rfl | ⟨Q', t, rfl⟩
  ·refine ⟨by simp, ?_⟩
   have := aft_split (P := []) (Q := []) (x := u) (by simp)
   simpa using this
  ·have e : (([] : List Int).reverse ++ ((Q' ++ [t]).reverse ++ [u])).getD 0 0 = t := by simp
   rw [List.concat_eq_append] at huQ hn ⊢
   rw [e]
   refine ⟨by simp, ?_⟩
   have ht : t ∉ u :: Q' := fun h => by
    have h1 : (u :: Q' ++ [t]).Nodup := by simpa using hn
    exact (List.nodup_append.1 h1).2.2 t h t (by simp) rfl
   have := aft_split (P := u :: Q') (Q := []) (x := t) ht
   have e2 : [] ++ u :: (Q' ++ [t]) = (u :: Q') ++ t :: [] := by simp
   rw [e2, this]
   simp
 ·rw [List.concat_eq_append] at huP hn ⊢
  have e : ((P' ++ [t]).reverse ++ (Q.reverse ++ [u])).getD 0 0 = t := by simp
  rw [e]
  refine ⟨by simp, ?_⟩
  have ht : t ∉ P' := fun h => by
   have h1 := (List.nodup_append.1 hn).1
   exact (List.nodup_append.1 h1).2.2 t h t (by simp) rfl
  have := aft_split (P := P') (Q := u :: Q) (x := t) ht
  have e2 : P' ++ [t] ++ u :: Q = P' ++ t :: (u :: Q) := by simp
  rw [e2, this]
  simp
section
variable {N : Nat} {l : List Ed} {r : List (List Int)}
def mirL (r : List (List Int)) : List (List Int) := r.map List.reverse
theorem mirL_at (r : List (List Int)) (v : Nat) : (mirL r).getD v [] = (r.getD v []).reverse := by
 unfold mirL
 rw [List.getD_eq_getElem?_getD, List.getD_eq_getElem?_getD, List.getElem?_map]
 cases r[v]? <;> rfl
theorem mir_sys (hS : SysR N l r) : SysR N l (mirL r) := by
 refine ⟨by unfold mirL; rw [List.length_map]; exact hS.len, fun v hv => ?_⟩
 rw [mirL_at]
 exact (List.reverse_perm _).trans (hS.perm v hv)
theorem sw_dart (hR : RightG (N : Int) l) {d : Dt} (h : d ∈ dartsL N l) : swD d ∈ dartsL N l := by
 obtain ⟨u, v, rfl, hu, hv, h1, h2⟩ := dart_ends hR h
 exact dartsL_mem.2 ⟨v, hv, rfl, h1⟩
theorem mir_nx (hR : RightG (N : Int) l) (hS : SysR N l r) {x : Dt} (hx : x ∈ dartsL N l) : nxD r (swD (nxD (mirL r) x)) = swD x := by
 obtain ⟨u, v, rfl, hu, hv, h1, h2⟩ := dart_ends hR hx
 have hm : (u : Int) ∈ r.getD v [] := (hS.perm v hv).mem_iff.2 h1
 have h3 := (aft_rev (hS.nodup hR hv) hm).2
 unfold swD nxD
 simp only [Int.toNat_natCast]
 rw [mirL_at]
 rw [h3]
theorem mir_step (hR : RightG (N : Int) l) (hS : SysR N l r) {d e : Dt} (hd : d ∈ dartsL N l) (he : e ∈ dartsL N l) (h : nxD r d = e) : nxD (mirL r) (swD e) = swD d := by
 have hm := sw_dart hR he
 have h1 := mir_nx hR hS hm
 rw [swD_swD] at h1
 have h2 := sw_dart hR (nx_mem hR (mir_sys hS) hm)
 have h3 := nx_inj hR hS h2 hd (h1.trans h.symm)
 rw [← h3, swD_swD]
theorem way_of {nx : Dt → Dt} : ∀ (L : List Dt) (hne : L ≠ []) (e : Dt), (∀ (j : Nat) (h : j + 1 < L.length), nx L[j] = L[j + 1]) → nx (L.getLast hne) = e → Way nx e (L.head hne) L
 | [], h, _, _, _ => absurd rfl h
 | [x], _, e, _, h => ⟨rfl, h⟩
 | x :: y :: L, _, e, hc, h => by
  refine ⟨rfl, ?_⟩
  have h0 : nx x = y := hc 0 (by simp)
  show Way nx e (nx x) (y :: L)
  rw [h0]
  exact way_of (y :: L) (by simp) e (fun j hj => by
   have := hc (j + 1) (by simpa using hj)
   simpa using this) (by simpa using h)
def mirF (f : List Dt) : List Dt := (f.map swD).reverse
theorem mirF_len (f : List Dt) : (mirF f).length = f.length := by simp [mirF]
theorem mirF_at {f : List Dt} {j : Nat} (h : j < (mirF f).length) : (mirF f)[j] = swD (f[f.length - 1 - j]'(by rw [mirF_len] at h; omega)) := by
 simp [mirF]
theorem mir_rnd (hR : RightG (N : Int) l) (hS : SysR N l r) {f : List Dt} (hf : Rnd (nxD r) f) (hin : ∀ x ∈ f, x ∈ dartsL N l) : Rnd (nxD (mirL r)) (mirF f) := by
 have hlen := mirF_len f
 have hp := List.length_pos_iff.2 hf.1
 have hne : mirF f ≠ [] := fun e => by rw [e] at hlen; simp at hlen; omega
 have step : ∀ (i k : Nat) (hi : i < f.length) (hk : k < f.length), nxD r f[i] = f[k] → nxD (mirL r) (swD f[k]) = swD f[i] := fun i k hi hk h => mir_step hR hS (hin _ (List.getElem_mem hi)) (hin _ (List.getElem_mem hk)) h
 refine ⟨hne, (mirF f).head hne, way_of _ hne _ (fun j hj => ?_) ?_⟩
 ·rw [mirF_at, mirF_at]
  have h1 := hf.at (f.length - 1 - (j + 1)) (by omega)
  have h2 : (f.length - 1 - (j + 1) + 1) % f.length = f.length - 1 - j := by
   rw [Nat.mod_eq_of_lt (by omega)]
   omega
  simp only [h2] at h1
  exact step _ _ (by omega) (by omega) h1
 ·rw [List.getLast_eq_getElem, List.head_eq_getElem, mirF_at, mirF_at]
  have h1 := hf.at (f.length - 1) (by omega)
  have h2 : (f.length - 1 + 1) % f.length = 0 := by
   rw [Nat.sub_add_cancel hp, Nat.mod_self]
  simp only [h2] at h1
  have e1 : f.length - 1 - ((mirF f).length - 1) = 0 := by omega
  simp only [e1, Nat.sub_zero]
  exact step _ _ (by omega) (by omega) h1
theorem mir_mem (C : List (List Dt)) (x : Dt) : x ∈ (C.map mirF).flatten ↔ swD x ∈ C.flatten := by
 constructor
 ·intro h
  obtain ⟨g, hg, hx⟩ := List.mem_flatten.1 h
  obtain ⟨f, hf, rfl⟩ := List.mem_map.1 hg
  unfold mirF at hx
  rw [List.mem_reverse] at hx
  obtain ⟨y, hy, rfl⟩ := List.mem_map.1 hx
  exact List.mem_flatten.2 ⟨f, hf, hy⟩
 ·intro h
  obtain ⟨f, hf, hx⟩ := List.mem_flatten.1 h
  refine List.mem_flatten.2 ⟨mirF f, List.mem_map.2 ⟨f, hf, rfl⟩, ?_⟩
  unfold mirF
  rw [List.mem_reverse]
  exact List.mem_map.2 ⟨swD x, hx, swD_swD x⟩
theorem mir_nodup : ∀ (C : List (List Dt)), C.flatten.Nodup → (C.map mirF).flatten.Nodup
 | [], _ => by simp
 | f :: C, h => by
  rw [List.flatten_cons] at h
  rw [List.map_cons, List.flatten_cons]
  refine List.nodup_append.2 ⟨?_, mir_nodup C (List.nodup_append.1 h).2.1, fun x hx y hy e => ?_⟩
  ·unfold mirF
   refine (List.reverse_perm _).nodup_iff.2 ?_
   refine List.Pairwise.map _ (fun a b hab e => hab ?_) (List.nodup_append.1 h).1
   rw [← swD_swD a, e, swD_swD]
  ·subst e
   have h2 := (mir_mem C x).1 hy
   have h1 : swD x ∈ f := by
    unfold mirF at hx
    rw [List.mem_reverse] at hx
    obtain ⟨z, hz, rfl⟩ := List.mem_map.1 hx
    exact hz
   exact (List.nodup_append.1 h).2.2 _ h1 _ h2 rfl
theorem mir_dec (hR : RightG (N : Int) l) (hS : SysR N l r) {K : List Nat} (hKN : ∀ v ∈ K, v < N) (hsh : ShutK l K) {C : List (List Dt)} (hD : Dec (nxD r) (PK l K) C) : Dec (nxD (mirL r)) (PK l K) (C.map mirF) := by
 have hpd : ∀ x, PK l K x → x ∈ dartsL N l := fun x ⟨u, hu, h1, h2⟩ => dartsL_mem.2 ⟨u, hKN u hu, h1, h2⟩
 have hsw : ∀ x, PK l K x → PK l K (swD x) := fun x hx => by
  obtain ⟨u, hu, h1, h2⟩ := hx
  obtain ⟨h3, h4, h5, _⟩ := nb_mutual hR h2
  have e : x.2 = ((x.2.toNat : Nat) : Int) := by omega
  refine ⟨x.2.toNat, hsh u hu _ (by rw [← e]; exact h2), e, ?_⟩
  show x.1 ∈ nb l (x.2.toNat : Int)
  rw [← e, h1]
  exact h3
 refine ⟨fun g hg => ?_, mir_nodup C hD.nodup, fun x => (mir_mem C x).trans ⟨fun h => ?_, fun h => (hD.mem _).2 (hsw x h)⟩⟩
 ·obtain ⟨f, hf, rfl⟩ := List.mem_map.1 hg
  exact mir_rnd hR hS (hD.rnd f hf) (fun x hx => hpd x ((hD.mem x).1 (List.mem_flatten.2 ⟨f, hf, hx⟩)))
 ·have := hsw _ ((hD.mem _).1 h)
  rwa [swD_swD] at this
theorem mir_nums (hR : RightG (N : Int) l) (hS : SysR N l r) : numsL N l (mirL r) = numsL N l r := by
 have hM := mir_sys hS
 apply List.ext_getElem
 ·rw [numsL_len, numsL_len]
 ·intro i h1 h2
  have hi : i < (compC N l).length := by rw [numsL_len] at h1; exact h1
  have e1 := nums_chi hR hM hi
  have e2 := nums_chi hR hS hi
  have hD := facesK_dec hR (kc_lt hR hi) (kc_shut hR hi) (faces_dec hR hS)
  have hD' := facesK_dec hR (kc_lt hR hi) (kc_shut hR hi) (faces_dec hR hM)
  have hlen := hD'.len (mir_dec hR hS (kc_lt hR hi) (kc_shut hR hi) hD)
  rw [List.length_map] at hlen
  rw [List.getD_eq_getElem?_getD, List.getElem?_eq_getElem h1] at e1
  rw [List.getD_eq_getElem?_getD, List.getElem?_eq_getElem h2] at e2
  simp only [Option.getD_some] at e1 e2
  rw [e1, e2]
  unfold chi
  rw [hlen]
end
end Go.Proofs.YtjpkojmjiaoifaaGreat

namespace Go.Proofs.YtjpkojmjiaoifaaGreat
open Go Go.Proofs Go.RowKit
theorem Grp.pushed {h0 g N k c : Nat} {p : Option Addr} {svs : List Value} {pre : List (List Int)} {W B : World} {o : Obj} {sv' : Value} {xs : List Int} {y : Int} (h : Grp h0 (.slice (some ⟨g, 0, none⟩) N N) svs pre W) (hN : svs.length = N) (hk : svs[k]? = some (.slice p xs.length c)) (hp : pre[k]? = some xs)
  (hB : B.ownsRow h0 3 1 sv' (xs.length + 1) (xs.map (Value.int .i64) ++ [.int .i64 y])) (hg : (W.alloc o).grownBy B (Value.slice p xs.length c).ownBlock) (hat : sv'.ownBlock = (Value.slice p xs.length c).ownBlock ∨ sv'.ownBlock = some (W.alloc o).heap.size) :
  B.cell? ⟨g, k, none⟩ = some (.slice p xs.length c) ∧ B.frozen? ⟨g, k, none⟩ = false ∧ Grp h0 (.slice (some ⟨g, 0, none⟩) N N) (svs.set k sv') (pre.set k (xs ++ [y])) (B.setCell ⟨g, k, none⟩ sv') := by
 subst hN
 have hne : (Value.slice (some ⟨g, 0, none⟩) svs.length svs.length).ownBlock = none ∨ (Value.slice (some ⟨g, 0, none⟩) svs.length svs.length).ownBlock ≠ (Value.slice p xs.length c).ownBlock := by
  refine .inr fun e => ?_
  rcases h.outer k _ hk with h1 | h1
  ·rw [h1] at e; cases e
  ·exact h1 e.symm
 have h2 := owns_keep (World.ownsRow.alloc h.own o) hg hne
 refine ⟨?_, h2.frozenAt k, h.push hk hp hB hg hat⟩
 have h3 := h2.cells (g := g) rfl k _ hk
 rwa [Go.WideShapes.add_plain, Nat.zero_add] at h3
def eachF (F : List Int → List Int) (L : List Int) : List Int := if L = [] then [] else F L
def eachL (F : List Int → List Int) (r : List (List Int)) (j : Nat) : List (List Int) := (r.take j).map (eachF F) ++ List.replicate (r.length - j) []
theorem eachL_zero (F : List Int → List Int) (r : List (List Int)) : eachL F r 0 = List.replicate r.length [] := by simp [eachL]
theorem eachL_full (F : List Int → List Int) (r : List (List Int)) : eachL F r r.length = r.map (eachF F) := by simp [eachL]
theorem eachL_set {F : List Int → List Int} {r : List (List Int)} {j : Nat} (h : j < r.length) : (eachL F r j).set j (eachF F r[j]) = eachL F r (j + 1) := by
 unfold eachL
 obtain ⟨m, hm⟩ : ∃ m, r.length - j = m + 1 := ⟨r.length - j - 1, by omega⟩
 have e1 : ((r.take j).map (eachF F)).length = j := by rw [List.length_map, List.length_take]; omega
 rw [List.set_append_right _ _ (by omega), e1, Nat.sub_self, hm, List.replicate_succ, List.set_cons_zero, take_snoc h, List.map_append, List.append_assoc]
 have : r.length - (j + 1) = m := by omega
 rw [this]
 rfl
theorem mirror_map (r : List (List Int)) : r.map (eachF List.reverse) = mirL r := by
 unfold mirL
 refine List.map_congr_left fun L _ => ?_
 unfold eachF
 split
 ·rename_i h; rw [h]; rfl
 ·rfl
theorem eachL_at {F : List Int → List Int} {r : List (List Int)} {j : Nat} (h : j < r.length) : (eachL F r j)[j]? = some [] := by
 unfold eachL
 have e1 : ((r.take j).map (eachF F)).length = j := by rw [List.length_map, List.length_take]; omega
 rw [List.getElem?_append_right (by omega), e1, Nat.sub_self]
 obtain ⟨m, hm⟩ : ∃ m, r.length - j = m + 1 := ⟨r.length - j - 1, by omega⟩
 rw [hm]
 rfl
theorem eachL_len (F : List Int → List Int) (r : List (List Int)) {j : Nat} (h : j ≤ r.length) : (eachL F r j).length = r.length := by
 unfold eachL
 rw [List.length_append, List.length_map, List.length_take, List.length_replicate]
 omega
end Go.Proofs.YtjpkojmjiaoifaaGreat

namespace Go.Proofs.YtjpkojmjiaoifaaGreat
open Go Go.Proofs Go.RowKit
theorem drop_rev {X : List Int} {k : Nat} (h : k < X.length) : (X.drop (k + 1)).reverse ++ [X[k]] = (X.drop k).reverse := by
 rw [List.drop_eq_getElem_cons h, List.reverse_cons]
set_option maxRecDepth 100000 in
set_option maxHeartbeats 8000000 in
theorem refMirror_any (r : List (List Int)) (hr1 : r.length ≤ 1048576) (hin : ∀ x ∈ r, x.length ≤ 4194304) (rv : Value) (w : World) (hr : Lsts w.heap.size w rv r) :
  Calls Tryz.prog 12 #[rv] w fun e w' => ∃ lv svs, e = .returned lv ∧ Grp w.heap.size lv svs (mirL r) w' ∧ Below w.heap.size w w' := by
 obtain ⟨p, c, rfl⟩ := hr.len
 obtain ⟨i0, hi, hz0, hz1, hz2⟩ := info_parts infoSl
 obtain ⟨j0, hj, hy0, hy1, hy2⟩ := info_parts infoI
 have hmix := mixed
 have HL : Hid (Lsts w.heap.size w (.slice p r.length c) r) := hr
 have HIN : Hid (∀ x ∈ r, x.length ≤ 4194304) := hin
 have HMM : Hid (r.map (eachF List.reverse) = mirL r) := mirror_map r
 clear hr hin
 go_enter Tryz.func12, Tryz.ntmps12
 go_wp2_with (at_make; refine wpList_make_full _ rfl _ _ 25 rfl w.heap.size 28 i0 (.slice none 0 0) 1 Tryz.underlying25 hi hz0 hz1 .i64 .i64 _ _ r.length rfl rfl rfl rfl (by rw [hz2]; omega) (by unfold maxLen; omega) (Nat.le_refl _) ?_; intro w2 hown hgrow)
 have hb2 : Below w.heap.size w w2 := (Below.refl _ _).grown hgrow (Nat.le_refl _) (fun k e => by cases e)
 have hG2 := Grp.made hown
 rw [← eachL_zero List.reverse r] at hG2
 clear hown hgrow hi hz0 hz1 hz2
 go_wp2
 go_loopw [4] (fun iv wr => ∃ (v : Nat) (svs : List Value), v ≤ r.length ∧ iv = .int .i64 v ∧ Grp w.heap.size (.slice (some ⟨w.heap.size, 0, none⟩) r.length r.length) svs (eachL List.reverse r v) wr ∧ Below w.heap.size w wr) (fun iv _ => r.length - (intOf iv).toNat)
 case atStart => exact ⟨0, _, Nat.zero_le _, rfl, hG2, hb2⟩
 case round =>
  clear hG2 hb2
  obtain ⟨v, svs, hv, rfl, hG, hb⟩ := hrel
  by_cases hlt : v < r.length
  ·have hvl : (v : Int) < (r.length : Int) := by omega
   obtain ⟨bc, oc, rfl, hbc, hcc, px, kx, hIx, c0⟩ := (HL.out.below hb).cellAt hlt
   have hxl := HIN.out _ (List.getElem_mem hlt)
   have HSET : Hid ((eachL List.reverse r v).set v (eachF List.reverse r[v]) = eachL List.reverse r (v + 1)) := eachL_set hlt
   have HE0 : Hid ((eachL List.reverse r v).set v [] = eachL List.reverse r v) := by
    have h1 := eachL_at (F := List.reverse) hlt
    unfold Hid
    apply List.ext_getElem?
    intro k
    rw [List.getElem?_set]
    by_cases e : v = k
    ·subst e
     rw [if_pos rfl, if_pos (by rw [eachL_len _ _ hv]; exact hlt), h1]
    ·rw [if_neg e]
   have HLN : Hid ((eachL List.reverse r v).length = r.length) := eachL_len _ _ hv
   have HLT : Hid (v < r.length) := hlt
   have hIx' : Ints w.heap.size wr (.slice px r[v].length kx) r[v] := hIx
   generalize r[v] = X at *
   generalize eachL List.reverse r v = E at *
   have HIX : Hid (Ints w.heap.size wr (.slice px X.length kx) X) := hIx'
   have HG : Hid (Grp w.heap.size (.slice (some ⟨w.heap.size, 0, none⟩) r.length r.length) svs (E.set v (X.drop X.length).reverse) wr) := by
    unfold Hid
    rw [List.drop_length, List.reverse_nil, HE0.out]
    exact hG
   have HB : Hid (Below w.heap.size w wr) := hb
   have HC0 : Hid (wr.cell? ⟨bc, oc + v, none⟩ = some (.slice px X.length kx)) := c0
   clear hIx hIx' hG hb hlt HE0
   generalize wr = w3 at *
   go_wp2
   go_loopw [5] (fun iv wr => ∃ (k : Nat) (svs : List Value), k ≤ X.length ∧ iv = .int .i64 ((k : Int) - 1) ∧ Grp w.heap.size (.slice (some ⟨w.heap.size, 0, none⟩) r.length r.length) svs (E.set v (X.drop k).reverse) wr ∧ Below w.heap.size w wr ∧ Below w.heap.size w3 wr) (fun iv _ => (intOf iv + 1).toNat)
   case atStart => exact ⟨X.length, svs, Nat.le_refl _, rfl, HG.out, HB.out, Below.refl _ _⟩
   case round =>
    clear HG HB
    obtain ⟨k, svs, hk, rfl, hG, hb, hb3⟩ := hrel
    match k with
    | 0 =>
     have hneg : ¬ (((0 : Nat) : Int) - 1) ≥ 0 := by omega
     have HGN : Hid (Grp w.heap.size (.slice (some ⟨w.heap.size, 0, none⟩) r.length r.length) svs (eachL List.reverse r (v + 1)) wr) := by
      unfold Hid
      have e : eachF List.reverse X = (X.drop 0).reverse := by
       unfold eachF
       split
       ·rename_i h; rw [h]; rfl
       ·simp
      rw [← HSET.out, e]
      exact hG
     have HB : Hid (Below w.heap.size w wr) := hb
     clear hG hb hb3 HSET
     go_wp2
     exact ⟨⟨v + 1, svs, HLT.out, by go_num, HGN.out, HB.out⟩, by have := HLT.out; simp [intOf]; omega⟩
    | k + 1 =>
     have hkx : k < X.length := by omega
     have hge : (((k + 1 : Nat) : Int) - 1) ≥ 0 := by omega
     have hidx : (((k + 1 : Nat) : Int) - 1) = (k : Int) := by omega
     obtain ⟨bx, ox, rfl, hbx, hcx, hcl⟩ := (HIX.out.below hb3).open hkx
     have x0 := hcl wr (Below.refl _ _) k hkx
     have c1 := (hb3.cell (p := ⟨bc, oc + v, none⟩) hbc).trans HC0.out
     have HDR : Hid ((X.drop (k + 1)).reverse ++ [X[k]] = (X.drop k).reverse) := drop_rev hkx
     have hxk : (X.drop (k + 1)).reverse.length ≤ 4194304 := by rw [List.length_reverse, List.length_drop]; omega
     have hsl : svs.length = r.length := by have := hG.len; rw [List.length_set, HLN.out] at this; exact this
     have hvr := HLT.out
     have HAT : Hid ((E.set v (X.drop (k + 1)).reverse)[v]? = some (X.drop (k + 1)).reverse) := List.getElem?_set_self (by rw [HLN.out]; exact hvr)
     have HSS : Hid (∀ a b : List Int, (E.set v a).set v b = E.set v b) := fun a b => by rw [List.set_set]
     obtain ⟨su, hsu⟩ : ∃ su, svs[v]? = some su := ⟨_, List.getElem?_eq_getElem (by omega)⟩
     rw [hidx]
     generalize X[k] = y at *
     generalize (X.drop (k + 1)).reverse = xs at *
     have hinn := hG.inn v su xs hsu HAT.out
     obtain ⟨ps, cs, rfl⟩ := owns_formP hinn
     have s0 : wr.cell? ⟨w.heap.size, v, none⟩ = some (.slice ps xs.length cs) := by
      have h1 := hG.own.cells (g := w.heap.size) rfl v _ hsu
      rwa [Go.WideShapes.add_plain, Nat.zero_add] at h1
     have HG : Hid (Grp w.heap.size (.slice (some ⟨w.heap.size, 0, none⟩) r.length r.length) svs (E.set v xs) wr) := hG
     have HB : Hid (Below w.heap.size w wr) := hb
     have HB3 : Hid (Below w.heap.size w3 wr) := hb3
     have HKX : Hid (k < X.length) := hkx
     have hkl : (k : Int) < (X.length : Int) := by omega
     have hk0 : ¬ (k : Int) < 0 := by omega
     have HBC : Hid (bc < w.heap.size ∧ bx < w.heap.size) := ⟨hbc, hbx⟩
     clear hG hb hb3 hinn hcl hge
     go_wp2_with fail
     generalize hgb : w.heap.size = gb at s0
     refine wp_region_last (S := (fun w' : World => w'.cell? ⟨gb, v, none⟩ = some (.slice ps xs.length cs) ∧ w'.cell? ⟨bc, oc + v, none⟩ = some (.slice (some ⟨bx, ox, none⟩) X.length kx) ∧ w'.cell? ⟨bx, ox + k, none⟩ = some (.int .i64 y))) (by kernel_rfl) ?_ (fun hHeld => ?_)
     ·(try dsimp only); go_keep
     refine wpAnyL_take (i := 0) (v := ?_) rfl (by kernel_rfl) (by kernel_rfl) (by kernel_rfl) (by kernel_rfl) (fun _ _ _ h => h) (Or.inl ⟨by rfl, ?_⟩) (by assumption) ?_
     rotate_left
     ·intro w hSw; (try dsimp only at hSw); go_simp; (try with_reducible rfl)
     try simp only [Act.put, List.setIfInBounds_toArray]
     refine wpAnyL_take (i := 1) (v := ?_) rfl (by kernel_rfl) (by kernel_rfl) (by kernel_rfl) (by kernel_rfl) (fun _ _ _ h => h) (Or.inl ⟨by rfl, ?_⟩) (by assumption) ?_
     rotate_left
     ·intro w hSw; (try dsimp only at hSw); go_simp; (try with_reducible rfl)
     try simp only [Act.put]
     refine wpAnyL_take (i := 2) (v := ?_) rfl (by kernel_rfl) (by kernel_rfl) (by kernel_rfl) (by kernel_rfl) (fun _ _ _ h => h) (Or.inl ⟨by rfl, ?_⟩) (by assumption) ?_
     rotate_left
     ·intro w hSw; (try dsimp only at hSw); go_simp; (try with_reducible rfl)
     try simp only [Act.put]
     refine wpAnyL_take (i := 3) (v := ?_) rfl (by kernel_rfl) (by kernel_rfl) (by kernel_rfl) (by kernel_rfl) (fun _ _ _ h => h) (Or.inl ⟨by rfl, ?_⟩) (by assumption) ?_
     rotate_left
     ·intro w hSw; (try dsimp only at hSw); go_simp; (try with_reducible rfl)
     try simp only [Act.put]
     refine wpAnyL_take (i := 4) (v := ?_) rfl (by kernel_rfl) (by kernel_rfl) (by kernel_rfl) (by kernel_rfl) (fun _ _ _ h => h) (Or.inl ⟨by rfl, ?_⟩) (by assumption) ?_
     rotate_left
     ·intro w hSw; (try dsimp only at hSw); go_simp; (try with_reducible rfl)
     try simp only [Act.put]
     try simp only [List.getElem_toArray, List.getElem_cons_zero, List.getElem_cons_succ, List.setIfInBounds_toArray, List.set_cons_zero, List.set_cons_succ]
     refine wpAnyL_take (i := 5) (v := ?_) rfl (by kernel_rfl) (by kernel_rfl) (by kernel_rfl) (by kernel_rfl) (fun _ _ _ h => h) (Or.inl ⟨by rfl, ?_⟩) (by assumption) ?_
     rotate_left
     ·intro w hSw; (try dsimp only at hSw); go_simp; (try with_reducible rfl)
     try simp only [Act.put]
     refine wpAnyL_take (i := 6) (v := ?_) rfl (by kernel_rfl) (by kernel_rfl) (by kernel_rfl) (by kernel_rfl) (fun _ _ _ h => h) (Or.inl ⟨by rfl, ?_⟩) (by assumption) ?_
     rotate_left
     ·intro w hSw; (try dsimp only at hSw); go_simp; (try with_reducible rfl)
     try simp only [Act.put]
     refine wpAnyL_take (i := 7) (v := ?_) rfl (by kernel_rfl) (by kernel_rfl) (by kernel_rfl) (by kernel_rfl) (fun _ _ _ h => h) (Or.inl ⟨by rfl, ?_⟩) (by assumption) ?_
     rotate_left
     ·intro w hSw; (try dsimp only at hSw); go_simp; (try with_reducible rfl)
     try simp only [Act.put]
     refine wpAnyL_take (i := 8) (v := ?_) rfl (by kernel_rfl) (by kernel_rfl) (by kernel_rfl) (by kernel_rfl) (fun _ _ _ h => h) (Or.inl ⟨by rfl, ?_⟩) (by assumption) ?_
     rotate_left
     ·intro w hSw; (try dsimp only at hSw); go_simp; (try with_reducible rfl)
     try simp only [Act.put]
     try simp only [List.getElem_toArray, List.getElem_cons_zero, List.getElem_cons_succ, List.setIfInBounds_toArray, List.set_cons_zero, List.set_cons_succ]
     refine wpAnyL_take (i := 9) (v := ?_) rfl (by kernel_rfl) (by kernel_rfl) (by kernel_rfl) (by kernel_rfl) (fun _ _ _ h => h) (Or.inl ⟨by rfl, ?_⟩) (by assumption) ?_
     rotate_left
     ·intro w hSw; (try dsimp only at hSw); go_simp; (try with_reducible rfl)
     try simp only [Act.put]
     refine wpAnyL_take (i := 10) (v := ?_) rfl (by kernel_rfl) (by kernel_rfl) (by kernel_rfl) (by kernel_rfl) (fun _ _ _ h => h) (Or.inl ⟨by rfl, ?_⟩) (by assumption) ?_
     rotate_left
     ·intro w hSw; (try dsimp only at hSw); go_simp; (try with_reducible rfl)
     try simp only [Act.put]
     refine wpAnyL_take (i := 11) (v := ?_) rfl (by kernel_rfl) (by kernel_rfl) (by kernel_rfl) (by kernel_rfl) (fun _ _ _ h => h) (Or.inl ⟨by rfl, ?_⟩) (by assumption) ?_
     rotate_left
     ·intro w hSw; (try dsimp only at hSw); go_simp; (try with_reducible rfl)
     try simp only [Act.put]
     refine wpAnyL_take (i := 12) (v := ?_) rfl (by kernel_rfl) (by kernel_rfl) (by kernel_rfl) (by kernel_rfl) (fun _ _ _ h => h) (Or.inl ⟨by rfl, ?_⟩) (by assumption) ?_
     rotate_left
     ·intro w hSw; (try dsimp only at hSw); go_simp; (try with_reducible rfl)
     try simp only [Act.put]
     try simp only [List.getElem_toArray, List.getElem_cons_zero, List.getElem_cons_succ, List.setIfInBounds_toArray, List.set_cons_zero, List.set_cons_succ]
     have hbd : Below wr.heap.size wr wr.drew := below_drewN (Below.refl _ _) 1
     have hG5 := HG.out.go hbd
     have hB5 := HB.out.trans (hbd.mono HB.out.size)
     have hB35 := HB3.out.trans (hbd.mono (Nat.le_trans HB.out.size (Nat.le_refl _)))
     clear hbd s0 x0 c1
     generalize wr.drew = w5 at *
     have hbA : Below w5.heap.size w5 (w5.alloc (.cells #[.int .i64 y] 3)) := (Below.refl _ _).alloc (Nat.le_refl _) _
     have hGA := hG5.go hbA
     have hBA := hB5.trans (hbA.mono hB5.size)
     have hownA := hGA.inn v _ xs hsu HAT.out
     have hnw : Src (w5.alloc (.cells #[.int .i64 y] 3)) (.slice (some ⟨w5.heap.size, 0, none⟩) 1 1) 1 1 [.int .i64 y] := .inr ⟨⟨w5.heap.size, 0, none⟩, 1, rfl, rfl, one_cell w5 (.int .i64 y) 3, fun z hz => by rw [List.mem_singleton.1 hz]; rfl⟩
     have hmx : xs.length + 1 ≤ maxLen := by unfold maxLen; omega
     have hby : (xs.length + 1) * 8 ≤ 140737488355328 := by omega
     have hsA : w.heap.size ≤ (w5.alloc (.cells #[.int .i64 y] 3)).heap.size := hBA.size
     refine wpAnyL_ready (rs := [13]) (by kernel_rfl) (by simp) ?_
     refine AllReadyL.cons rfl (fun K hK => ?_) AllReadyL.nil
     go_simp
     refine hK.out _ _ ⟨cell_keepK hbA hHeld.1, cell_keepK hbA hHeld.2.1, cell_keepK hbA hHeld.2.2⟩ (fun hHeld6 => ?_)
     clear hK K
     try simp only [Act.put, List.setIfInBounds_toArray, List.set_cons_zero, List.set_cons_succ]
     refine wpAnyL_ready (rs := [14]) (by kernel_rfl) (by simp) ?_
     refine AllReadyL.cons rfl (fun K hK => ?_) AllReadyL.nil
     refine step_append_src rfl _ _ 28 rfl w.heap.size 3 j0 (.int .i64 0) 1 8 Tryz.underlying28 hj hy0 hy1 hy2 rfl (by decide) (.slice ps xs.length cs) xs.length (xs.map (Value.int .i64)) rfl hownA (.slice (some ⟨w5.heap.size, 0, none⟩) 1 1) 1 [.int .i64 y] rfl hnw hmx hby hsA ?_
     intro v8 w7 ho8 hg8 hat8
     obtain ⟨a8, m8, k8, rfl⟩ := owns_slice ho8
     obtain ⟨c7, f7, hP7⟩ := hG5.pushed hsl hsu HAT.out ho8 hg8 hat8
     rw [HSS.out, HDR.out] at hP7
     have hlow : ∀ q, (Value.slice ps xs.length cs).ownBlock = some q → w.heap.size ≤ q := fun q hq => (hownA.lt q hq).1
     have hB7 := hBA.grown hg8 hsA hlow
     have hB37 := (hB35.trans (hbA.mono (by have := hB5.size; omega))).grown hg8 hsA hlow
     have HP7 : Hid (Grp w.heap.size (.slice (some ⟨w.heap.size, 0, none⟩) r.length r.length) (svs.set v (.slice a8 m8 k8)) (E.set v (X.drop k).reverse) (w7.setCell ⟨gb, v, none⟩ (.slice a8 m8 k8))) := by
      unfold Hid
      rw [← hgb]
      exact hP7
     have HB7 : Hid (Below w.heap.size w (w7.setCell ⟨gb, v, none⟩ (.slice a8 m8 k8))) := hB7.setCell (p := ⟨gb, v, none⟩) (by simp only; omega) _
     have HB37 : Hid (Below w.heap.size w3 (w7.setCell ⟨gb, v, none⟩ (.slice a8 m8 k8))) := hB37.setCell (p := ⟨gb, v, none⟩) (by simp only; omega) _
     rw [hgb] at c7 f7
     have hA7 : Below w.heap.size (w5.alloc (.cells #[.int .i64 y] 3)) w7 := (Below.refl _ _).grown hg8 hsA hlow
     refine hK.out _ _ ⟨c7, (hA7.cell (p := ⟨bc, oc + v, none⟩) HBC.out.1).trans hHeld6.2.1, (hA7.cell (p := ⟨bx, ox + k, none⟩) HBC.out.2).trans hHeld6.2.2⟩ (fun hHeld7 => ?_)
     clear hK K
     try simp only [Act.put, List.setIfInBounds_toArray]
     clear ho8 hg8 hat8 hP7 hownA hnw hGA hBA hbA hG5 hB5 hB35 hHeld hHeld6 hB7 hB37 hA7 HG HB HB3
     refine wpAnyL_take (i := 15) (v := ?_) rfl (by kernel_rfl) (by kernel_rfl) (by kernel_rfl) (by kernel_rfl) (fun _ _ _ h => h) (Or.inl ⟨by rfl, ?_⟩) (by assumption) ?_
     rotate_left
     ·intro w hSw; (try dsimp only at hSw); go_simp; (try with_reducible rfl)
     try simp only [Act.put]
     refine wpAnyL_ready (rs := [16]) (by kernel_rfl) (by simp) ?_
     refine AllReadyL.last rfl (by kernel_rfl) (fun K hK => ?_)
     go_simp
     refine hK.out _ _ ?_
     clear hK K
     try simp only [Act.put, List.setIfInBounds_toArray, List.set_cons_zero, List.set_cons_succ]
     refine wpAnyL_done (by kernel_rfl) ?_ _
     clear hHeld7 c7 f7
     generalize w7.setCell ⟨gb, v, none⟩ (.slice a8 m8 k8) = w8 at *
     subst hgb
     go_wp2
     exact ⟨⟨k, svs.set v (.slice a8 m8 k8), by have := HKX.out; omega, by go_num, HP7.out, HB7.out, HB37.out⟩, by simp [intOf]⟩
  ·have hvn : ¬ (v : Int) < (r.length : Int) := by omega
   have HF : Hid (Grp w.heap.size (.slice (some ⟨w.heap.size, 0, none⟩) r.length r.length) svs (mirL r) wr ∧ Below w.heap.size w wr) := by
    refine ⟨?_, hb⟩
    have e : v = r.length := by omega
    rw [e, eachL_full, HMM.out] at hG
    exact hG
   clear hG hb hlt HMM
   go_wp2
   go_ret
   exact ⟨.slice (some ⟨w.heap.size, 0, none⟩) r.length r.length, rfl, ⟨svs, HF.out.1⟩, HF.out.2⟩
end Go.Proofs.YtjpkojmjiaoifaaGreat

namespace Go.Proofs.YtjpkojmjiaoifaaGreat
open Go Go.Proofs Go.RowKit
theorem firstK_end {n : Int} {l : List Ed} : firstK n (l.drop l.length) = 0 := by simp [firstK]
theorem ret_graph {fn : Func} {p u : Tmp} (h : fn.results = #[.cell p 24, .tmp u]) {tmps : Array Value} {w : World} {b : Nat} {x y : Value} (hp : tmps.getD p undef = .pointer (some ⟨b, 0, none⟩)) (h0 : w.cell? ⟨b, 0, none⟩ = some x) (h1 : w.cell? ⟨b, 1, none⟩ = some y) :
  (results fn tmps).run Tryz.prog w = .ok (.tuple #[.agg #[x, y], tmps.getD u undef]) w := by
 rw [results_cell_tmp h, hp]
 have a1 := Tryz.isAgg24
 have a2 := Tryz.sizeOf24
 go_simp
end Go.Proofs.YtjpkojmjiaoifaaGreat

namespace Go.Proofs.YtjpkojmjiaoifaaGreat
open Go Go.Proofs Go.RowKit
structure MkI (w : World) (n : Int) (l : List Ed) (j : Nat) (tw : Bool) (s : List Ed) (sv : Value) (W : World) : Prop where
 res : Blk 24 W w.heap.size [.int .i64 0, .slice none 0 0]
 gc : Blk 24 W (w.heap.size + 1) [.int .i64 n, sv]
 own : W.ownsRow (w.heap.size + 2) 37 3 sv s.length (flat s)
 bel : Below w.heap.size w W
 weak : Weak s
 perm : s.Perm ((l.take j).map norm)
 tws : tw = false ↔ Alone s
 fst : firstK n (l.drop j) = firstK n l
theorem MkI.go {w : World} {n : Int} {l : List Ed} {j : Nat} {tw : Bool} {s : List Ed} {sv : Value} {A B : World} (h : MkI w n l j tw s sv A) (hb : Below A.heap.size A B) : MkI w n l j tw s sv B :=
 ⟨h.res.go hb, h.gc.go hb, owns_below h.own hb, h.bel.trans (hb.mono h.bel.size), h.weak, h.perm, h.tws, h.fst⟩
theorem MkI.put {w : World} {n : Int} {l : List Ed} {j : Nat} {tw : Bool} {s : List Ed} {sv : Value} {A : World} (h : MkI w n l j tw s sv A) {p : Addr} (h1 : w.heap.size + 2 ≤ p.block) (h2 : ∀ k, sv.ownBlock = some k → k < p.block) (v : Value) : MkI w n l j tw s sv (A.setCell p v) := by
 refine ⟨h.res.other (by omega) v, h.gc.other (by omega) v, ?_, h.bel.setCell (by omega) v, h.weak, h.perm, h.tws, h.fst⟩
 obtain ⟨h3, h4⟩ := h.own
 refine ⟨h3, ?_⟩
 rcases h4 with h4 | ⟨g, cap, cur, hv, hb, hg, r⟩
 ·exact .inl h4
 ·exact .inr ⟨g, cap, cur, hv, hb, (Below.heap_setCell _ _ _ _ (by have := h2 g (by rw [hv]; rfl); omega)).trans hg, r⟩
def EdB (W : World) (eb : Nat) (e : Ed) : Prop := Blk 37 W eb [.int .i64 e.1, .int .i64 e.2.1, .int .i64 e.2.2]
theorem EdB.cells {W : World} {eb : Nat} {e : Ed} (h : EdB W eb e) : W.cell? ⟨eb, 0, none⟩ = some (.int .i64 e.1) ∧ W.cell? ⟨eb, 1, none⟩ = some (.int .i64 e.2.1) ∧ W.cell? ⟨eb, 2, none⟩ = some (.int .i64 e.2.2) := ⟨Blk.cell h rfl, Blk.cell h rfl, Blk.cell h rfl⟩
theorem EdB.grown {W : World} {eb : Nat} {e : Ed} (h : EdB W eb e) : (∀ n os, (Go.Sort.grow (W.drewN n) os).cell? ⟨eb, 0, none⟩ = some (.int .i64 e.1)) ∧ (∀ n os, (Go.Sort.grow (W.drewN n) os).cell? ⟨eb, 1, none⟩ = some (.int .i64 e.2.1)) ∧ ∀ n os, (Go.Sort.grow (W.drewN n) os).cell? ⟨eb, 2, none⟩ = some (.int .i64 e.2.2) :=
 ⟨cell_grown (a := ⟨eb, 0, none⟩) (Blk.lt h) h.cells.1, cell_grown (a := ⟨eb, 1, none⟩) (Blk.lt h) h.cells.2.1, cell_grown (a := ⟨eb, 2, none⟩) (Blk.lt h) h.cells.2.2⟩
def twB (tw : Bool) (s : List Ed) (m : Nat) (e : Ed) : Bool := tw || (match s[m - 1]? with | some x => decide (0 < m) && !lo x e | none => false)
theorem twB_false {tw : Bool} {s : List Ed} {m : Nat} {e : Ed} (h : tw = false ↔ Alone s) : twB tw s m e = false ↔ Alone s ∧ ¬ (0 < m ∧ ∃ x, s[m - 1]? = some x ∧ lo x e = false) := by
 unfold twB
 rw [Bool.or_eq_false_iff, h]
 refine and_congr_right fun _ => ?_
 cases hx : s[m - 1]? with
 | none => simp
 | some x =>
  simp only [Bool.and_eq_false_imp, decide_eq_true_eq, Bool.not_eq_false', Option.some.injEq, exists_eq_left', not_and]
  constructor
  ·intro h1 h2; rw [h1 h2]; simp
  ·intro h1 h2; have := h1 h2; simpa using this
theorem take_norm {l : List Ed} {j : Nat} (h : j < l.length) : (l.take (j + 1)).map norm = (l.take j).map norm ++ [norm l[j]] := by
 rw [List.take_add_one, List.getElem?_eq_getElem h, List.map_append]; rfl
theorem owns_base2 {W : World} {a b : Nat} {e : TypeId} {size : Nat} {v : Value} {n : Nat} {xs : List Value} (h : W.ownsRow b e size v n xs) (hab : a ≤ b) : W.ownsRow a e size v n xs := by
 obtain ⟨h1, h2⟩ := h
 refine ⟨h1, ?_⟩
 rcases h2 with h2 | ⟨g, cap, cur, hv, hb, r⟩
 ·exact .inl h2
 ·exact .inr ⟨g, cap, cur, hv, Nat.le_trans hab hb, r⟩
theorem MkI.step {w : World} {n : Int} {l : List Ed} {j : Nat} {tw : Bool} {s : List Ed} {sv v' : Value} {A B : World} {m : Nat} {e : Ed} (h : MkI w n l j tw s sv A) (hj : j < l.length) (he : norm l[j] = e) (hm : m ≤ s.length)
  (hbig : ∀ i x, m ≤ i → s[i]? = some x → lo e x = true) (hsm : m = 0 ∨ ∃ x, s[m - 1]? = some x ∧ lo e x = false) (hf : firstK n (l.drop (j + 1)) = firstK n l)
  (hown : B.ownsRow A.heap.size 37 3 v' (s.take m ++ [e] ++ s.drop m).length (flat (s.take m ++ [e] ++ s.drop m))) (hb : Below A.heap.size A B) :
  MkI w n l (j + 1) (twB tw s m e) (s.take m ++ [e] ++ s.drop m) v' (B.setCell ⟨w.heap.size + 1, 1, none⟩ v') := by
 obtain ⟨h1, h2, h3⟩ := ins_facts h.weak hm hbig hsm
 have hz : s.take m ++ [e] ++ s.drop m = s.take m ++ e :: s.drop m := by simp
 have hg := h.gc.lt
 refine ⟨(h.res.go hb).other (by simp) _, (h.gc.go hb).set 1 v', owns_set (owns_base2 hown (by omega)) (by simp) _, (h.bel.trans (hb.mono h.bel.size)).setCell (by simp) _, by rw [hz]; exact h1, ?_, ?_, hf⟩
 ·rw [hz, take_norm hj, he]
  exact (h2.trans (h.perm.cons e)).trans (List.perm_append_singleton _ _).symm
 ·rw [twB_false h.tws, ← h3, hz]
  exact (alone_perm h2).symm
section
variable {ops : Array Oper} {o : Oper} {a : Act} {w : World} {K : Act → World → Prop} {Q : Exit → Act → World → Prop} {E : Prop}
theorem step_app (hgd : o.guard = none) (s x : Operand) (ho : o.op = .call { callee := .builtin .append, args := #[s, x], argTypes := #[22, 22] })
  (base : Nat) (hbase : base ≤ w.heap.size) (xs : List Ed) (v : Value) (hs : a.eval s = v) (hown : w.ownsRow base 37 3 v xs.length (flat xs))
  (ys : List Ed) (yv : Value) (hx : a.eval x = yv) (hy : Src w yv ys.length 3 (flat ys)) (hlen : xs.length + ys.length ≤ 1000000) (zs : List Ed) (hz : xs ++ ys = zs) (L : Nat) (hL : zs.length = L)
  (h : ∀ p c w', w'.ownsRow base 37 3 (.slice p L c) zs.length (flat zs) → Below base w w' → (∀ t k vs, Blk t w k vs → v.ownBlock ≠ some k → Blk t w' k vs ∧ (Value.slice p L c).ownBlock ≠ some k) → K (a.put o.dst (.slice p L c)) w') :
  if Region.wanted o (yielded ops a.tmps) = true then Oper.wp Tryz.prog o a w K Q else E := by
 subst hz hL
 obtain ⟨i0, hi, hz0, hz1, hz2⟩ := info_parts infoE
 refine step_append_src hgd s x 22 ho base 37 i0 (.agg #[.int .i64 0, .int .i64 0, .int .i64 0]) 3 24 Tryz.underlying22 hi hz0 hz1 hz2 (by simp [Value.cells]) (by decide) v xs.length (flat xs) hs hown yv ys.length (flat ys) hx hy (by unfold maxLen; omega) (by omega) hbase ?_
 intro v' w' h1 h2 h3
 rw [← show flat (xs ++ ys) = flat xs ++ flat ys by simp [flat], ← List.length_append] at h1
 obtain ⟨p, c, rfl⟩ := owns_form h1
 refine h p c w' h1 ((Below.refl _ _).grown h2 hbase (fun k e => (hown.lt k e).1)) (fun t k vs hB hne => ⟨hB.grown h2 (Ne.symm hne), fun e => ?_⟩)
 rcases h3 with h3 | h3
 ·exact hne (h3 ▸ e)
 ·rw [h3] at e
  have := hB.lt
  simp only [Option.some.injEq] at e
  omega
end
theorem keepS5 {wr W : World} {a0 a1 a2 a3 : Addr} {v0 v1 v2 v3 : Value} (d0 : wr.cell? a0 = some v0) (d1 : wr.cell? a1 = some v1) (d2 : wr.cell? a2 = some v2) (d3 : wr.cell? a3 = some v3) (h : Below wr.heap.size wr W) : W.cell? a0 = some v0 ∧ W.cell? a1 = some v1 ∧ W.cell? a2 = some v2 ∧ W.cell? a3 = some v3 ∧ Below wr.heap.size wr W := ⟨cell_keepK h d0, cell_keepK h d1, cell_keepK h d2, cell_keepK h d3, h⟩
theorem flat_take : ∀ (s : List Ed) (m : Nat), flat (s.take m) = (flat s).take (m * 3)
 | [], m => by simp [flat]
 | e :: s, 0 => by simp [flat]
 | e :: s, m + 1 => by rw [List.take_succ_cons, flat_cons, flat_cons, flat_take s m, show (m + 1) * 3 = m * 3 + 1 + 1 + 1 by omega]; simp
theorem flat_drop : ∀ (s : List Ed) (m : Nat), flat (s.drop m) = (flat s).drop (m * 3)
 | [], m => by simp [flat]
 | e :: s, 0 => by simp
 | e :: s, m + 1 => by rw [List.drop_succ_cons, flat_cons, flat_drop s m, show (m + 1) * 3 = m * 3 + 1 + 1 + 1 by omega]; simp
theorem flat_one2 (l : List Ed) : ∀ u ∈ flat l, u.oneCell' = true := by
 intro u hu
 obtain ⟨e, _, he⟩ := List.mem_flatMap.1 hu
 exact one3 e u he
theorem owns_cells {W : World} {base b n c : Nat} {e : TypeId} {xs : List Value} (h : W.ownsRow base e 3 (.slice (some ⟨b, 0, none⟩) n c) n xs) : ∀ (j : Nat) (u : Value), xs[j]? = some u → W.cell? ⟨b, j, none⟩ = some u := fun j u hu => by
 have h1 := h.cells (g := b) rfl j u hu
 rw [Go.WideShapes.add_plain, Nat.zero_add] at h1
 exact h1
theorem take_src {W : World} {b : Nat} {s : List Ed} {m c : Nat} (hm : m ≤ s.length) (hB : ∀ (j : Nat) (u : Value), (flat s)[j]? = some u → W.cell? ⟨b, j, none⟩ = some u) : Src W (.slice (some ⟨b, 0, none⟩) m c) (s.take m).length 3 (flat (s.take m)) := by
 refine .inr ⟨⟨b, 0, none⟩, c, by rw [List.length_take, Nat.min_eq_left hm], flat_len _, fun j u hu => ?_, flat_one2 _⟩
 rw [Go.WideShapes.add_plain, Nat.zero_add]
 rw [flat_take, List.getElem?_take] at hu
 split at hu
 ·exact hB _ _ hu
 ·cases hu
theorem drop_src {W : World} {b : Nat} {s : List Ed} {m c : Nat} (hB : ∀ (j : Nat) (u : Value), (flat s)[j]? = some u → W.cell? ⟨b, j, none⟩ = some u) : Src W (.slice (some ⟨b, m * 3, none⟩) (s.length - m) c) (s.drop m).length 3 (flat (s.drop m)) := by
 refine .inr ⟨⟨b, m * 3, none⟩, c, by rw [List.length_drop], flat_len _, fun j u hu => ?_, flat_one2 _⟩
 rw [Go.WideShapes.add_plain]
 rw [flat_drop, List.getElem?_drop] at hu
 exact hB _ _ hu
theorem drop_src2 {W : World} {b : Nat} {s : List Ed} {m c : Nat} (hm : m ≤ s.length) (hc : s.length ≤ c) (hB : ∀ (j : Nat) (u : Value), (flat s)[j]? = some u → W.cell? ⟨b, j, none⟩ = some u) : Src W (.slice (if c = m then some ⟨b, 0, none⟩ else some ⟨b, m * 3, none⟩) (s.length - m) (c - m)) (s.drop m).length 3 (flat (s.drop m)) := by
 by_cases h : c = m
 ·rw [if_pos h]
  have hd : s.drop m = [] := List.drop_eq_nil_of_le (by omega)
  refine .inr ⟨⟨b, 0, none⟩, c - m, by rw [List.length_drop], flat_len _, fun j u hu => ?_, flat_one2 _⟩
  rw [hd] at hu
  simp [flat] at hu
 ·rw [if_neg h]
  exact drop_src hB
theorem one_src {W : World} {b : Nat} {e : Ed} (h : EdB W b e) : Src W (.slice (some ⟨b, 0, none⟩) 1 1) [e].length 3 (flat [e]) := by
 refine .inr ⟨⟨b, 0, none⟩, 1, rfl, flat_len _, fun j u hu => ?_, flat_one2 _⟩
 rw [Go.WideShapes.add_plain, Nat.zero_add]
 exact Blk.cell h hu
theorem owns_empty2 {w : World} {base : Nat} {e : TypeId} {k : Nat} (h : w.heap[k]? = some (.cells #[] e (0, 0))) (hb : base ≤ k) : w.ownsRow base e 3 (.slice (some ⟨k, 0, none⟩) 0 0) ([] : List Ed).length (flat []) :=
 ⟨rfl, .inr ⟨k, 0, #[], rfl, hb, h, Nat.le_refl _, Nat.zero_le _, rfl, rfl⟩⟩
set_option maxRecDepth 100000 in
set_option maxHeartbeats 8000000 in
theorem refMake_any (n : Int) (l : List Ed) (hl5 : l.length ≤ 500) (sv : Value) (w : World) (hl : Edges w.heap.size w sv l) :
  Calls Tryz.prog 11 #[.int .i64 n, sv] w fun r w' => ∃ gv, r = .returned (.tuple #[.agg #[.int .i64 (makeN n l), gv], .int .i64 (makeK n l)]) ∧ Edges w'.heap.size w' gv (makeL n l) ∧ Below w.heap.size w w' := by
 obtain ⟨p, c, rfl⟩ := hl.len
 have hmix := mixed
 obtain ⟨i0, hi, hz0, hz1, hz2⟩ := info_parts infoE
 by_cases hm : manyK n l.length = 0
 ·obtain ⟨hn0, hn1, hlen⟩ := many_ok hm
  have hS := fun W => refMany_any n l.length W
  have HM : Hid (manyK n l.length = 0) := hm
  rw [hm] at hS
  have hst : MkI w n l 0 false [] (.slice none 0 0) ((w.alloc (.cells #[.int .i64 0, .slice none 0 0] 24)).alloc (.cells #[.int .i64 n, .slice none 0 0] 24)) := by
   have h1 : Blk 24 (w.alloc (.cells #[.int .i64 0, .slice none 0 0] 24)) w.heap.size [.int .i64 0, .slice none 0 0] := heap_alloc_new w _
   have h2 := heap_alloc_new (w.alloc (.cells #[.int .i64 0, .slice none 0 0] 24)) (.cells #[.int .i64 n, .slice none 0 0] 24)
   exact ⟨h1.go (((Grew.refl _).alloc _).below), by simpa [Blk] using h2, owns_none _ _ _, (((Grew.refl w).alloc _).alloc _).below, List.Pairwise.nil, List.Perm.nil, ⟨fun _ => List.Pairwise.nil, fun _ => rfl⟩, rfl⟩
  go_enter Tryz.func11, Tryz.ntmps11
  go_wp2_with fail
  refine (hS _).mono ?_
  rintro e w1 ⟨rfl, rfl⟩
  clear hS hm
  go_wp2
  go_loopw [8, 9] (fun t i wr => ∃ (j : Nat) (tw : Bool) (s : List Ed) (sv : Value), j ≤ l.length ∧ i = .int .i64 j ∧ t = .bool tw ∧ MkI w n l j tw s sv wr) (fun _ i _ => l.length - (intOf i).toNat)
  case atStart => exact ⟨0, false, [], _, Nat.zero_le _, rfl, rfl, hst⟩
  case round =>
   obtain ⟨j, tw, s, sv, hj, rfl, rfl, hI⟩ := hrel
   clear hst
   have hs5 : s.length ≤ 500 := by have := hI.perm.length_eq; simp at this; omega
   have hrl := hI.res.lt
   have hgl := hI.gc.lt
   by_cases hlt : j < l.length
   ·obtain ⟨b, off, rfl, hbb, hcap, hc, -⟩ := hl.open hlt
    obtain ⟨c0, c1, c2⟩ := hc wr hI.bel j hlt
    have hjl : (j : Int) < (l.length : Int) := by omega
    have hst := hI.fst
    rw [firstK_step hlt] at hst
    have HST : Hid _ := hst
    clear hc hst
    have hed := fun W => refEdge_any n l[j] W
    go_wp2_with fail
    refine (hed _).mono ?_
    rintro e w7 ⟨rfl, hg7⟩
    have hgr : Grew wr w7 := ((Grew.refl wr).alloc _).trans hg7
    have hE7 : EdB w7 wr.heap.size l[j] := Blk.go (A := wr.alloc (.cells #[.int .i64 l[j].1, .int .i64 l[j].2.1, .int .i64 l[j].2.2] 37)) (heap_alloc_new wr _) hg7.below
    have hI7 := hI.go hgr.below
    have hsvl : ∀ k, sv.ownBlock = some k → k < wr.heap.size := fun k hk => (hI.own.lt k hk).2
    have heb : w.heap.size + 2 ≤ wr.heap.size := hgl
    clear hed c0 c1 c2 hgr hg7 hI hrl hgl
    generalize wr.heap.size = eb at hE7 hsvl heb
    clear wr
    by_cases hk : edgeK n l[j] = 0
    ·rw [hk]
     have hok := edge_ok hk
     unfold okE at hok
     have HS : Hid (firstK n (l.drop (j + 1)) = firstK n l) := by
      have h2 := HST.out
      rw [hk, if_pos rfl] at h2
      exact h2
     have HN : Hid (l[j]? = some l[j]) := List.getElem?_eq_getElem hlt
     clear HST hk
     obtain ⟨e0, e1, e2⟩ := hE7.cells
     have hEl := Blk.lt hE7
     have f0 := Blk.frozen hE7 0
     have f1 := Blk.frozen hE7 1
     have f2 := Blk.frozen hE7 2
     go_upto_if 44 with fail
     go_cut [12] (fun _ wx => MkI w n l j tw s sv wx ∧ EdB wx eb (norm l[j]))
     case first =>
      by_cases huv : l[j].2.1 < l[j].1
      ·have HM2 : Hid (norm l[j] = (l[j].2.1, l[j].1, l[j].2.2)) := by
        unfold Hid norm; rw [Int.min_eq_right (by omega), Int.max_eq_left (by omega)]
       have hI8 := ((hI7.put (p := ⟨eb, 0, none⟩) heb hsvl (.int .i64 l[j].2.1)).put (p := ⟨eb, 1, none⟩) heb hsvl (.int .i64 l[j].1)).put (p := ⟨eb, 2, none⟩) heb hsvl (.int .i64 l[j].2.2)
       have hE8 := ((Blk.set hE7 0 (.int .i64 l[j].2.1)).set 1 (.int .i64 l[j].1)).set 2 (.int .i64 l[j].2.2)
       go_wp2
       go_meet
       exact ⟨hI8, by rw [HM2.out]; exact hE8⟩
      ·have HM2 : Hid (norm l[j] = l[j]) := norm_id (by omega)
       go_wp2
       go_meet
       exact ⟨hI7, by rw [HM2.out]; exact hE7⟩
     case rest =>
      obtain ⟨hI8, hE8⟩ := hcut
      have HEN : Hid (∃ e, norm l[j] = e) := ⟨_, rfl⟩
      clear hI7 hE7 e0 e1 e2 hEl f0 f1 f2 hok
      generalize hen : norm l[j] = e at hE8
      clear HEN
      obtain ⟨psv, csv, rfl⟩ := owns_form hI8.own
      have g1 := hI8.gc.cell (j := 1) rfl
      have HEN : Hid _ := hen
      clear hen
      go_upto_block 2 with fail
      go_cut [12] (fun k wx => ∃ m : Nat, k = .int .i64 m ∧ m ≤ s.length ∧ Hid (∀ i x, m ≤ i → s[i]? = some x → lo e x = true) ∧ Hid (m = 0 ∨ ∃ x, s[m - 1]? = some x ∧ lo e x = false) ∧ MkI w n l j tw s (.slice psv s.length csv) wx ∧ EdB wx eb e)
      case first =>
       go_wp2_with fail
       go_loopw [12] (fun k wx => ∃ m : Nat, m ≤ s.length ∧ k = .int .i64 m ∧ Hid (∀ i x, m ≤ i → s[i]? = some x → lo e x = true) ∧ Grew wc wx) (fun k _ => (intOf k).toNat)
       case atStart => exact ⟨s.length, Nat.le_refl _, rfl, fun i x h hx => by have := (List.getElem?_eq_some_iff.1 hx).1; omega, Grew.refl _⟩
       case round =>
        obtain ⟨m, hm, rfl, hbig, hg⟩ := hrel
        have hIr := hI8.go hg.below
        have hEr : EdB wr eb e := Blk.go hE8 hg.below
        by_cases hm0 : m = 0
        ·subst hm0
         have hneg : decide ((0 : Int) < ((0 : Nat) : Int)) = false := by simp
         have hI9 := hIr.go (below_drewN (Below.refl _ wr) 1)
         have hE9 : EdB (wr.drewN 1) eb e := Blk.go hEr (below_drewN (Below.refl _ wr) 1)
         go_wp2
         go_big_region_o
         go_wp2
         go_meet
         exact ⟨0, rfl, Nat.zero_le _, hbig, .inl rfl, hI9, hE9⟩
        ·obtain ⟨i, rfl⟩ : ∃ i, m = i + 1 := ⟨m - 1, by omega⟩
         have his : i < s.length := by omega
         obtain ⟨b2, off2, rfl, hbb2, hcap2, -, hcg⟩ := (Edges.of_owns hIr.own).open his
         obtain ⟨d0, d1, d2⟩ := hcg wr (Below.refl _ _) i his
         obtain ⟨e0, e1, e2⟩ := hEr.grown
         have g1g := cell_grown (a := ⟨w.heap.size + 1, 1, none⟩) hIr.gc.lt (hIr.gc.cell (j := 1) rfl)
         have hwi := wrap_i i (by omega) (by omega)
         have hii : (i : Int) < (s.length : Int) := by omega
         have hpos : decide ((0 : Int) < ((i + 1 : Nat) : Int)) = true := by simp
         have hpos2 : (0 : Int) < (i : Int) + 1 := by omega
         clear hcg
         go_wp2
         go_quiet_grown (first | (go_at_call 27; refine Calls.grown_of (refBelow_any e s[i] _)))
         have hgq := hg.trans ⟨nq, osq, rfl⟩
         generalize Go.Sort.grow (wr.drewN nq) osq = w9 at hgq ⊢
         have hI9 := hI8.go hgq.below
         have hE9 : EdB w9 eb e := Blk.go hE8 hgq.below
         clear d0 d1 d2 e0 e1 e2 g1g hIr hEr hg nq osq
         cases hlo : lo e s[i] with
         | true =>
          have HB : Hid (∀ k x, i ≤ k → s[k]? = some x → lo e x = true) := fun k x hk hx => by
           by_cases hki : k = i
           ·subst hki; rw [List.getElem?_eq_getElem his] at hx; cases hx; exact hlo
           ·exact hbig.out k x (by omega) hx
          clear hlo hbig hI9 hE9
          go_wp2
          exact ⟨⟨i, by omega, by go_num, HB, hgq⟩, by simp [intOf]⟩
         | false =>
          have HB : Hid (i + 1 = 0 ∨ ∃ x, s[i + 1 - 1]? = some x ∧ lo e x = false) := .inr ⟨_, List.getElem?_eq_getElem his, hlo⟩
          clear hlo
          go_wp2
          go_meet
          exact ⟨i + 1, by go_num, hm, hbig, HB, hI9, hE9⟩
      case rest =>
       obtain ⟨m, rfl, hm, hbig, hsm, hI9, hE9⟩ := hcut
       clear hI8 hE8 g1
       go_upto_region 18 with fail
       go_cut [8] (fun t wx => t = .bool (twB tw s m e) ∧ MkI w n l j tw s (.slice psv s.length csv) wx ∧ EdB wx eb e)
       case first =>
        cases tw with
        | true =>
         have hI10 := hI9.go (below_drewN (Below.refl _ wc) 1)
         have hE10 : EdB (wc.drewN 1) eb e := Blk.go hE9 (below_drewN (Below.refl _ wc) 1)
         go_big_region_o
         go_wp2
         go_meet
         exact ⟨rfl, hI10, hE10⟩
        | false =>
         by_cases hm0 : m = 0
         ·subst hm0
          have hneg : decide ((0 : Int) < ((0 : Nat) : Int)) = false := by simp
          have HT : Hid (twB false s 0 e = false) := by
           unfold Hid twB
           cases s[0 - 1]? <;> simp
          have hI10 := hI9.go (below_drewN (Below.refl _ wc) 1)
          have hE10 : EdB (wc.drewN 1) eb e := Blk.go hE9 (below_drewN (Below.refl _ wc) 1)
          go_big_region_o
          go_wp2
          go_meet
          exact ⟨by rw [HT.out], hI10, hE10⟩
         ·obtain ⟨i, rfl⟩ : ∃ i, m = i + 1 := ⟨m - 1, by omega⟩
          have his : i < s.length := by omega
          have HT : Hid (twB false s (i + 1) e = !lo s[i] e) := by
           unfold Hid twB
           rw [show s[i + 1 - 1]? = some s[i] from List.getElem?_eq_getElem his]
           simp
          obtain ⟨b2, off2, rfl, hbb2, hcap2, -, hcg⟩ := (Edges.of_owns hI9.own).open his
          obtain ⟨d0, d1, d2⟩ := hcg wc (Below.refl _ _) i his
          obtain ⟨e0, e1, e2⟩ := hE9.grown
          have g1g := cell_grown (a := ⟨w.heap.size + 1, 1, none⟩) hI9.gc.lt (hI9.gc.cell (j := 1) rfl)
          have hwi := wrap_i i (by omega) (by omega)
          have hii : (i : Int) < (s.length : Int) := by omega
          have hpos2 : (0 : Int) < (i : Int) + 1 := by omega
          clear hcg
          go_quiet_grown (first | (go_at_call 27; refine Calls.grown_of (refBelow_any s[i] e _)))
          have hgq : Grew wc _ := ⟨nq, osq, rfl⟩
          generalize Go.Sort.grow (wc.drewN nq) osq = w9 at hgq ⊢
          have hI10 := hI9.go hgq.below
          have hE10 : EdB w9 eb e := Blk.go hE9 hgq.below
          clear d0 d1 d2 e0 e1 e2 g1g
          generalize lo s[i] e = bl at HT ⊢
          go_wp2
          go_meet
          exact ⟨by rw [HT.out], hI10, hE10⟩
       case rest =>
        obtain ⟨rfl, hI10, hE10⟩ := hcut
        clear hI9 hE9
        obtain ⟨e0, e1, e2⟩ := hE10.cells
        have g1 := hI10.gc.cell (j := 1) rfl
        go_upto_region 19 with fail
        rcases hI10.own.2 with ⟨hnil, h0⟩ | ⟨b2, cap2, cur, hv2, hb2, _, hn2, _⟩
        ·have hs0 : s = [] := List.eq_nil_of_length_eq_zero h0
         subst hs0
         obtain rfl : m = 0 := by simpa using hm
         simp only [Value.slice.injEq] at hnil
         obtain ⟨rfl, -, rfl⟩ := hnil
         simp only [List.length_nil] at g1
         have hT : ∀ W, Below wc.heap.size wc W → Src W (.slice none 0 0) (([] : List Ed).take 0).length 3 (flat (([] : List Ed).take 0)) := fun W _ => .inl ⟨⟨0, rfl⟩, rfl, rfl⟩
         have hD : ∀ W, Below wc.heap.size wc W → Src W (.slice none 0 0) (([] : List Ed).drop 0).length 3 (flat (([] : List Ed).drop 0)) := fun W _ => .inl ⟨⟨0, rfl⟩, rfl, rfl⟩
         have hbA : Below wc.heap.size wc (wc.alloc (.cells #[] 37)).drew := below_drewN ((Below.refl _ wc).alloc (Nat.le_refl _) _) 1
         have hbB : Below wc.heap.size wc (wc.alloc (.cells #[.int .i64 e.1, .int .i64 e.2.1, .int .i64 e.2.2] 37)).drew := below_drewN ((Below.refl _ wc).alloc (Nat.le_refl _) _) 1
         have hbAB : Below wc.heap.size wc ((wc.alloc (.cells #[] 37)).alloc (.cells #[.int .i64 e.1, .int .i64 e.2.1, .int .i64 e.2.2] 37)).drew := below_drewN (((Below.refl _ wc).alloc (Nat.le_refl _) _).alloc (by simp) _) 1
         have hbBA : Below wc.heap.size wc ((wc.alloc (.cells #[.int .i64 e.1, .int .i64 e.2.1, .int .i64 e.2.2] 37)).alloc (.cells #[] 37)).drew := below_drewN (((Below.refl _ wc).alloc (Nat.le_refl _) _).alloc (by simp) _) 1
         have hoA : (wc.alloc (.cells #[] 37)).drew.ownsRow wc.heap.size 37 3 (.slice (some ⟨wc.heap.size, 0, none⟩) 0 0) ([] : List Ed).length (flat []) := owns_empty2 (w := (wc.alloc (.cells #[] 37)).drew) (heap_alloc_new wc _) (Nat.le_refl _)
         have hoAB : ((wc.alloc (.cells #[] 37)).alloc (.cells #[.int .i64 e.1, .int .i64 e.2.1, .int .i64 e.2.2] 37)).drew.ownsRow wc.heap.size 37 3 (.slice (some ⟨wc.heap.size, 0, none⟩) 0 0) ([] : List Ed).length (flat []) := (owns_empty2 (w := wc.alloc (.cells #[] 37)) (heap_alloc_new wc _) (Nat.le_refl _)).alloc _
         have hoBA : ((wc.alloc (.cells #[.int .i64 e.1, .int .i64 e.2.1, .int .i64 e.2.2] 37)).alloc (.cells #[] 37)).drew.ownsRow wc.heap.size 37 3 (.slice (some ⟨wc.heap.size + 1, 0, none⟩) 0 0) ([] : List Ed).length (flat []) := by
          have h1 := heap_alloc_new (wc.alloc (.cells #[.int .i64 e.1, .int .i64 e.2.1, .int .i64 e.2.2] 37)) (.cells #[] 37)
          rw [World.size_alloc] at h1
          exact owns_empty2 (w := ((wc.alloc (.cells #[.int .i64 e.1, .int .i64 e.2.1, .int .i64 e.2.2] 37)).alloc (.cells #[] 37)).drew) h1 (by omega)
         have hEAB : EdB ((wc.alloc (.cells #[] 37)).alloc (.cells #[.int .i64 e.1, .int .i64 e.2.1, .int .i64 e.2.2] 37)).drew (wc.heap.size + 1) e := by
          have h1 := heap_alloc_new (wc.alloc (.cells #[] 37)) (.cells #[.int .i64 e.1, .int .i64 e.2.1, .int .i64 e.2.2] 37)
          rw [World.size_alloc] at h1
          exact h1
         have hEBA : EdB ((wc.alloc (.cells #[.int .i64 e.1, .int .i64 e.2.1, .int .i64 e.2.2] 37)).alloc (.cells #[] 37)).drew wc.heap.size e := Blk.go (A := wc.alloc (.cells #[.int .i64 e.1, .int .i64 e.2.1, .int .i64 e.2.2] 37)) (heap_alloc_new wc _) (below_drewN ((Below.refl _ _).alloc (Nat.le_refl _) _) 1)
         refine wp_region_last (S := (fun w' : World => w'.cell? ⟨w.heap.size + 1, 1, none⟩ = some (.slice none 0 0) ∧ w'.cell? ⟨eb, 0, none⟩ = some (.int .i64 e.1) ∧ w'.cell? ⟨eb, 1, none⟩ = some (.int .i64 e.2.1) ∧ w'.cell? ⟨eb, 2, none⟩ = some (.int .i64 e.2.2) ∧ Below wc.heap.size wc w')) (by assumption) ?_ (fun hHeld => ?_)
         ·exact ⟨g1, e0, e1, e2, below_drewN (Below.refl _ wc) 1⟩
         refine wpAnyL_take (i := 1) (v := ?_) rfl (by kernel_rfl) (by kernel_rfl) (by kernel_rfl) (by kernel_rfl) (fun _ _ _ h => h) (Or.inl ⟨by rfl, ?_⟩) (by assumption) ?_
         rotate_left
         ·intro w hSw; (try dsimp only at hSw); go_simp; (try with_reducible rfl)
         refine wpAnyL_take (i := 2) (v := ?_) rfl (by kernel_rfl) (by kernel_rfl) (by kernel_rfl) (by kernel_rfl) (fun _ _ _ h => h) (Or.inl ⟨by rfl, ?_⟩) (by assumption) ?_
         rotate_left
         ·intro w hSw; (try dsimp only at hSw); go_simp; (try with_reducible rfl)
         refine wpAnyL_take (i := 3) (v := ?_) rfl (by kernel_rfl) (by kernel_rfl) (by kernel_rfl) (by kernel_rfl) (fun _ _ _ h => h) (Or.inl ⟨by rfl, ?_⟩) (by assumption) ?_
         rotate_left
         ·intro w hSw; (try dsimp only at hSw); go_simp; (try with_reducible rfl)
         refine wpAnyL_take (i := 4) (v := ?_) rfl (by kernel_rfl) (by kernel_rfl) (by kernel_rfl) (by kernel_rfl) (fun _ _ _ h => h) (Or.inl ⟨by rfl, ?_⟩) (by assumption) ?_
         rotate_left
         ·intro w hSw; (try dsimp only at hSw); go_simp; (try with_reducible rfl)
         refine wpAnyL_take (i := 6) (v := ?_) rfl (by kernel_rfl) (by kernel_rfl) (by kernel_rfl) (by kernel_rfl) (fun _ _ _ h => h) (Or.inl ⟨by rfl, ?_⟩) (by assumption) ?_
         rotate_left
         ·intro w hSw; (try dsimp only at hSw); go_simp; (try with_reducible rfl)
         refine wpAnyL_take (i := 9) (v := ?_) rfl (by kernel_rfl) (by kernel_rfl) (by kernel_rfl) (by kernel_rfl) (fun _ _ _ h => h) (Or.inl ⟨by rfl, ?_⟩) (by assumption) ?_
         rotate_left
         ·intro w hSw; (try dsimp only at hSw); go_simp; (try with_reducible rfl)
         refine wpAnyL_take (i := 10) (v := ?_) rfl (by kernel_rfl) (by kernel_rfl) (by kernel_rfl) (by kernel_rfl) (fun _ _ _ h => h) (Or.inl ⟨by rfl, ?_⟩) (by assumption) ?_
         rotate_left
         ·intro w hSw; (try dsimp only at hSw); go_simp; (try with_reducible rfl)
         refine wpAnyL_take (i := 11) (v := ?_) rfl (by kernel_rfl) (by kernel_rfl) (by kernel_rfl) (by kernel_rfl) (fun _ _ _ h => h) (Or.inl ⟨by rfl, ?_⟩) (by assumption) ?_
         rotate_left
         ·intro w hSw; (try dsimp only at hSw); go_simp; (try with_reducible rfl)
         refine wpAnyL_take (i := 12) (v := ?_) rfl (by kernel_rfl) (by kernel_rfl) (by kernel_rfl) (by kernel_rfl) (fun _ _ _ h => h) (Or.inl ⟨by rfl, ?_⟩) (by assumption) ?_
         rotate_left
         ·intro w hSw; (try dsimp only at hSw); go_simp; (try with_reducible rfl)
         refine wpAnyL_ready (rs := [0, 7]) (by kernel_rfl) (by simp) ?_
         refine AllReadyL.cons rfl (fun K hK => ?_) (AllReadyL.cons rfl (fun K hK => ?_) AllReadyL.nil)
         ·go_simp
          refine hK.out _ _ ?_ (fun hHeld => ?_)
          ·exact keepS5 g1 e0 e1 e2 hbA
          clear hK K
          refine wpAnyL_ready (rs := [5, 7]) (by kernel_rfl) (by simp) ?_
          refine AllReadyL.cons rfl (fun K hK => ?_) (AllReadyL.cons rfl (fun K hK => ?_) AllReadyL.nil)
          ·refine step_app rfl _ _ rfl wc.heap.size hHeld.2.2.2.2.size [] (.slice (some ⟨wc.heap.size, 0, none⟩) 0 0) rfl hoA (([] : List Ed).take 0) (.slice none 0 0) rfl (hT _ hHeld.2.2.2.2) (by simp) (([] : List Ed).take 0) (by simp) 0 (by simp) ?_
           intro p1 c1 w1 ho1 hb1 hk1
           refine hK.out _ _ ?_ (fun hHeld1 => ?_)
           ·exact keepS5 g1 e0 e1 e2 (hHeld.2.2.2.2.trans hb1)
           clear hK K
           refine wpAnyL_ready (rs := [7]) (by kernel_rfl) (by simp) ?_
           refine AllReadyL.cons rfl (fun K hK => ?_) AllReadyL.nil
           have ho1a := ho1.alloc (.cells #[.int .i64 e.1, .int .i64 e.2.1, .int .i64 e.2.2] 37)
           have hb1a := (hHeld1.2.2.2.2).alloc hHeld1.2.2.2.2.size (.cells #[.int .i64 e.1, .int .i64 e.2.1, .int .i64 e.2.2] 37)
           have hEX : EdB (w1.alloc (.cells #[.int .i64 e.1, .int .i64 e.2.1, .int .i64 e.2.2] 37)) w1.heap.size e := heap_alloc_new w1 _
           go_simp
           refine hK.out _ _ ?_ (fun hHeld1 => ?_)
           ·exact keepS5 g1 e0 e1 e2 hb1a
           clear hK K ho1
           have ho1 := ho1a
           refine wpAnyL_ready (rs := [8]) (by kernel_rfl) (by simp) ?_
           refine AllReadyL.cons rfl (fun K hK => ?_) AllReadyL.nil
           refine step_app rfl _ _ rfl wc.heap.size hHeld1.2.2.2.2.size (([] : List Ed).take 0) (.slice p1 0 c1) rfl ho1 [e] (.slice (some ⟨w1.heap.size, 0, none⟩) 1 1) rfl (one_src hEX) (by simp) (([] : List Ed).take 0 ++ [e]) rfl 1 (by simp) ?_
           intro p2 c2 w2 ho2 hb2' hk2
           refine hK.out _ _ ?_ (fun hHeld2 => ?_)
           ·exact keepS5 g1 e0 e1 e2 (hHeld1.2.2.2.2.trans hb2')
           clear hK K
           refine wpAnyL_ready (rs := [13]) (by kernel_rfl) (by simp) ?_
           refine AllReadyL.cons rfl (fun K hK => ?_) AllReadyL.nil
           refine step_app rfl _ _ rfl wc.heap.size hHeld2.2.2.2.2.size (([] : List Ed).take 0 ++ [e]) (.slice p2 1 c2) rfl ho2 (([] : List Ed).drop 0) (.slice none 0 0) rfl (hD _ hHeld2.2.2.2.2) (by simp) (([] : List Ed).take 0 ++ [e] ++ ([] : List Ed).drop 0) rfl 1 (by simp) ?_
           intro p3 c3 w3 ho3 hb3 hk3
           have hb4 := hHeld2.2.2.2.2.trans hb3
           refine hK.out _ _ ?_ (fun hHeld3 => ?_)
           ·exact keepS5 g1 e0 e1 e2 hb4
           clear hK K
           refine wpAnyL_take (i := 14) (v := ?_) rfl (by kernel_rfl) (by kernel_rfl) (by kernel_rfl) (by kernel_rfl) (fun _ _ _ h => h) (Or.inl ⟨by rfl, ?_⟩) (by assumption) ?_
           rotate_left
           ·intro w hSw; (try dsimp only at hSw); go_simp; (try with_reducible rfl)
           refine wpAnyL_ready (rs := [15]) (by kernel_rfl) (by simp) ?_
           refine AllReadyL.last rfl (by kernel_rfl) (fun K hK => ?_)
           have hgF := hI10.gc.go hb4
           have gF1 := hgF.cell (j := 1) rfl
           have fF1 := hgF.frozen 1
           go_simp
           refine hK.out _ _ ?_
           clear hK K
           refine wpAnyL_done (by kernel_rfl) ?_ _
           have hIF := hI10.step hlt HEN.out hm hbig.out hsm.out HS.out ho3 hb4
           go_wp2
           exact ⟨⟨j + 1, _, _, _, by omega, by go_num, rfl, hIF⟩, by simp [intOf]; omega⟩
          ·go_simp
           refine hK.out _ _ ?_ (fun hHeld => ?_)
           ·exact keepS5 g1 e0 e1 e2 hbAB
           clear hK K
           refine wpAnyL_ready (rs := [5]) (by kernel_rfl) (by simp) ?_
           refine AllReadyL.cons rfl (fun K hK => ?_) AllReadyL.nil
           refine step_app rfl _ _ rfl wc.heap.size hHeld.2.2.2.2.size [] (.slice (some ⟨wc.heap.size, 0, none⟩) 0 0) rfl hoAB (([] : List Ed).take 0) (.slice none 0 0) rfl (hT _ hHeld.2.2.2.2) (by simp) (([] : List Ed).take 0) (by simp) 0 (by simp) ?_
           intro p1 c1 w1 ho1 hb1 hk1
           refine hK.out _ _ ?_ (fun hHeld1 => ?_)
           ·exact keepS5 g1 e0 e1 e2 (hHeld.2.2.2.2.trans hb1)
           clear hK K
           have hEX := (hk1 _ _ _ hEAB (by simp [Value.ownBlock])).1
           refine wpAnyL_ready (rs := [8]) (by kernel_rfl) (by simp) ?_
           refine AllReadyL.cons rfl (fun K hK => ?_) AllReadyL.nil
           refine step_app rfl _ _ rfl wc.heap.size hHeld1.2.2.2.2.size (([] : List Ed).take 0) (.slice p1 0 c1) rfl ho1 [e] (.slice (some ⟨wc.heap.size + 1, 0, none⟩) 1 1) rfl (one_src hEX) (by simp) (([] : List Ed).take 0 ++ [e]) rfl 1 (by simp) ?_
           intro p2 c2 w2 ho2 hb2' hk2
           refine hK.out _ _ ?_ (fun hHeld2 => ?_)
           ·exact keepS5 g1 e0 e1 e2 (hHeld1.2.2.2.2.trans hb2')
           clear hK K
           refine wpAnyL_ready (rs := [13]) (by kernel_rfl) (by simp) ?_
           refine AllReadyL.cons rfl (fun K hK => ?_) AllReadyL.nil
           refine step_app rfl _ _ rfl wc.heap.size hHeld2.2.2.2.2.size (([] : List Ed).take 0 ++ [e]) (.slice p2 1 c2) rfl ho2 (([] : List Ed).drop 0) (.slice none 0 0) rfl (hD _ hHeld2.2.2.2.2) (by simp) (([] : List Ed).take 0 ++ [e] ++ ([] : List Ed).drop 0) rfl 1 (by simp) ?_
           intro p3 c3 w3 ho3 hb3 hk3
           have hb4 := hHeld2.2.2.2.2.trans hb3
           refine hK.out _ _ ?_ (fun hHeld3 => ?_)
           ·exact keepS5 g1 e0 e1 e2 hb4
           clear hK K
           refine wpAnyL_take (i := 14) (v := ?_) rfl (by kernel_rfl) (by kernel_rfl) (by kernel_rfl) (by kernel_rfl) (fun _ _ _ h => h) (Or.inl ⟨by rfl, ?_⟩) (by assumption) ?_
           rotate_left
           ·intro w hSw; (try dsimp only at hSw); go_simp; (try with_reducible rfl)
           refine wpAnyL_ready (rs := [15]) (by kernel_rfl) (by simp) ?_
           refine AllReadyL.last rfl (by kernel_rfl) (fun K hK => ?_)
           have hgF := hI10.gc.go hb4
           have gF1 := hgF.cell (j := 1) rfl
           have fF1 := hgF.frozen 1
           go_simp
           refine hK.out _ _ ?_
           clear hK K
           refine wpAnyL_done (by kernel_rfl) ?_ _
           have hIF := hI10.step hlt HEN.out hm hbig.out hsm.out HS.out ho3 hb4
           go_wp2
           exact ⟨⟨j + 1, _, _, _, by omega, by go_num, rfl, hIF⟩, by simp [intOf]; omega⟩
         ·go_simp
          refine hK.out _ _ ?_ (fun hHeld => ?_)
          ·exact keepS5 g1 e0 e1 e2 hbB
          clear hK K
          refine wpAnyL_ready (rs := [0]) (by kernel_rfl) (by simp) ?_
          refine AllReadyL.cons rfl (fun K hK => ?_) AllReadyL.nil
          go_simp
          refine hK.out _ _ ?_ (fun hHeld => ?_)
          ·exact keepS5 g1 e0 e1 e2 hbBA
          clear hK K
          refine wpAnyL_ready (rs := [5]) (by kernel_rfl) (by simp) ?_
          refine AllReadyL.cons rfl (fun K hK => ?_) AllReadyL.nil
          refine step_app rfl _ _ rfl wc.heap.size hHeld.2.2.2.2.size [] (.slice (some ⟨wc.heap.size + 1, 0, none⟩) 0 0) rfl hoBA (([] : List Ed).take 0) (.slice none 0 0) rfl (hT _ hHeld.2.2.2.2) (by simp) (([] : List Ed).take 0) (by simp) 0 (by simp) ?_
          intro p1 c1 w1 ho1 hb1 hk1
          refine hK.out _ _ ?_ (fun hHeld1 => ?_)
          ·exact keepS5 g1 e0 e1 e2 (hHeld.2.2.2.2.trans hb1)
          clear hK K
          have hEX := (hk1 _ _ _ hEBA (by simp [Value.ownBlock])).1
          refine wpAnyL_ready (rs := [8]) (by kernel_rfl) (by simp) ?_
          refine AllReadyL.cons rfl (fun K hK => ?_) AllReadyL.nil
          refine step_app rfl _ _ rfl wc.heap.size hHeld1.2.2.2.2.size (([] : List Ed).take 0) (.slice p1 0 c1) rfl ho1 [e] (.slice (some ⟨wc.heap.size, 0, none⟩) 1 1) rfl (one_src hEX) (by simp) (([] : List Ed).take 0 ++ [e]) rfl 1 (by simp) ?_
          intro p2 c2 w2 ho2 hb2' hk2
          refine hK.out _ _ ?_ (fun hHeld2 => ?_)
          ·exact keepS5 g1 e0 e1 e2 (hHeld1.2.2.2.2.trans hb2')
          clear hK K
          refine wpAnyL_ready (rs := [13]) (by kernel_rfl) (by simp) ?_
          refine AllReadyL.cons rfl (fun K hK => ?_) AllReadyL.nil
          refine step_app rfl _ _ rfl wc.heap.size hHeld2.2.2.2.2.size (([] : List Ed).take 0 ++ [e]) (.slice p2 1 c2) rfl ho2 (([] : List Ed).drop 0) (.slice none 0 0) rfl (hD _ hHeld2.2.2.2.2) (by simp) (([] : List Ed).take 0 ++ [e] ++ ([] : List Ed).drop 0) rfl 1 (by simp) ?_
          intro p3 c3 w3 ho3 hb3 hk3
          have hb4 := hHeld2.2.2.2.2.trans hb3
          refine hK.out _ _ ?_ (fun hHeld3 => ?_)
          ·exact keepS5 g1 e0 e1 e2 hb4
          clear hK K
          refine wpAnyL_take (i := 14) (v := ?_) rfl (by kernel_rfl) (by kernel_rfl) (by kernel_rfl) (by kernel_rfl) (fun _ _ _ h => h) (Or.inl ⟨by rfl, ?_⟩) (by assumption) ?_
          rotate_left
          ·intro w hSw; (try dsimp only at hSw); go_simp; (try with_reducible rfl)
          refine wpAnyL_ready (rs := [15]) (by kernel_rfl) (by simp) ?_
          refine AllReadyL.last rfl (by kernel_rfl) (fun K hK => ?_)
          have hgF := hI10.gc.go hb4
          have gF1 := hgF.cell (j := 1) rfl
          have fF1 := hgF.frozen 1
          go_simp
          refine hK.out _ _ ?_
          clear hK K
          refine wpAnyL_done (by kernel_rfl) ?_ _
          have hIF := hI10.step hlt HEN.out hm hbig.out hsm.out HS.out ho3 hb4
          go_wp2
          exact ⟨⟨j + 1, _, _, _, by omega, by go_num, rfl, hIF⟩, by simp [intOf]; omega⟩
        ·simp only [Value.slice.injEq] at hv2
         obtain ⟨rfl, -, rfl⟩ := hv2
         have hcs := owns_cells hI10.own
         have hmc : m ≤ csv := by omega
         have hT : ∀ W, Below wc.heap.size wc W → Src W (.slice (some ⟨b2, 0, none⟩) m csv) (s.take m).length 3 (flat (s.take m)) := fun W hb => take_src hm (fun j u hu => cell_keepK hb (hcs j u hu))
         have hD : ∀ W, Below wc.heap.size wc W → Src W (.slice (if csv = m then some ⟨b2, 0, none⟩ else some ⟨b2, m * 3, none⟩) (s.length - m) (csv - m)) (s.drop m).length 3 (flat (s.drop m)) := fun W hb => drop_src2 hm hn2 (fun j u hu => cell_keepK hb (hcs j u hu))
         clear hcs
         have hbA : Below wc.heap.size wc (wc.alloc (.cells #[] 37)).drew := below_drewN ((Below.refl _ wc).alloc (Nat.le_refl _) _) 1
         have hbB : Below wc.heap.size wc (wc.alloc (.cells #[.int .i64 e.1, .int .i64 e.2.1, .int .i64 e.2.2] 37)).drew := below_drewN ((Below.refl _ wc).alloc (Nat.le_refl _) _) 1
         have hbAB : Below wc.heap.size wc ((wc.alloc (.cells #[] 37)).alloc (.cells #[.int .i64 e.1, .int .i64 e.2.1, .int .i64 e.2.2] 37)).drew := below_drewN (((Below.refl _ wc).alloc (Nat.le_refl _) _).alloc (by simp) _) 1
         have hbBA : Below wc.heap.size wc ((wc.alloc (.cells #[.int .i64 e.1, .int .i64 e.2.1, .int .i64 e.2.2] 37)).alloc (.cells #[] 37)).drew := below_drewN (((Below.refl _ wc).alloc (Nat.le_refl _) _).alloc (by simp) _) 1
         have hoA : (wc.alloc (.cells #[] 37)).drew.ownsRow wc.heap.size 37 3 (.slice (some ⟨wc.heap.size, 0, none⟩) 0 0) ([] : List Ed).length (flat []) := owns_empty2 (w := (wc.alloc (.cells #[] 37)).drew) (heap_alloc_new wc _) (Nat.le_refl _)
         have hoAB : ((wc.alloc (.cells #[] 37)).alloc (.cells #[.int .i64 e.1, .int .i64 e.2.1, .int .i64 e.2.2] 37)).drew.ownsRow wc.heap.size 37 3 (.slice (some ⟨wc.heap.size, 0, none⟩) 0 0) ([] : List Ed).length (flat []) := (owns_empty2 (w := wc.alloc (.cells #[] 37)) (heap_alloc_new wc _) (Nat.le_refl _)).alloc _
         have hoBA : ((wc.alloc (.cells #[.int .i64 e.1, .int .i64 e.2.1, .int .i64 e.2.2] 37)).alloc (.cells #[] 37)).drew.ownsRow wc.heap.size 37 3 (.slice (some ⟨wc.heap.size + 1, 0, none⟩) 0 0) ([] : List Ed).length (flat []) := by
          have h1 := heap_alloc_new (wc.alloc (.cells #[.int .i64 e.1, .int .i64 e.2.1, .int .i64 e.2.2] 37)) (.cells #[] 37)
          rw [World.size_alloc] at h1
          exact owns_empty2 (w := ((wc.alloc (.cells #[.int .i64 e.1, .int .i64 e.2.1, .int .i64 e.2.2] 37)).alloc (.cells #[] 37)).drew) h1 (by omega)
         have hEAB : EdB ((wc.alloc (.cells #[] 37)).alloc (.cells #[.int .i64 e.1, .int .i64 e.2.1, .int .i64 e.2.2] 37)).drew (wc.heap.size + 1) e := by
          have h1 := heap_alloc_new (wc.alloc (.cells #[] 37)) (.cells #[.int .i64 e.1, .int .i64 e.2.1, .int .i64 e.2.2] 37)
          rw [World.size_alloc] at h1
          exact h1
         have hEBA : EdB ((wc.alloc (.cells #[.int .i64 e.1, .int .i64 e.2.1, .int .i64 e.2.2] 37)).alloc (.cells #[] 37)).drew wc.heap.size e := Blk.go (A := wc.alloc (.cells #[.int .i64 e.1, .int .i64 e.2.1, .int .i64 e.2.2] 37)) (heap_alloc_new wc _) (below_drewN ((Below.refl _ _).alloc (Nat.le_refl _) _) 1)
         refine wp_region_last (S := (fun w' : World => w'.cell? ⟨w.heap.size + 1, 1, none⟩ = some (.slice (some ⟨b2, 0, none⟩) s.length csv) ∧ w'.cell? ⟨eb, 0, none⟩ = some (.int .i64 e.1) ∧ w'.cell? ⟨eb, 1, none⟩ = some (.int .i64 e.2.1) ∧ w'.cell? ⟨eb, 2, none⟩ = some (.int .i64 e.2.2) ∧ Below wc.heap.size wc w')) (by assumption) ?_ (fun hHeld => ?_)
         ·exact ⟨g1, e0, e1, e2, below_drewN (Below.refl _ wc) 1⟩
         refine wpAnyL_take (i := 1) (v := ?_) rfl (by kernel_rfl) (by kernel_rfl) (by kernel_rfl) (by kernel_rfl) (fun _ _ _ h => h) (Or.inl ⟨by rfl, ?_⟩) (by assumption) ?_
         rotate_left
         ·intro w hSw; (try dsimp only at hSw); go_simp; (try with_reducible rfl)
         refine wpAnyL_take (i := 2) (v := ?_) rfl (by kernel_rfl) (by kernel_rfl) (by kernel_rfl) (by kernel_rfl) (fun _ _ _ h => h) (Or.inl ⟨by rfl, ?_⟩) (by assumption) ?_
         rotate_left
         ·intro w hSw; (try dsimp only at hSw); go_simp; (try with_reducible rfl)
         refine wpAnyL_take (i := 3) (v := ?_) rfl (by kernel_rfl) (by kernel_rfl) (by kernel_rfl) (by kernel_rfl) (fun _ _ _ h => h) (Or.inl ⟨by rfl, ?_⟩) (by assumption) ?_
         rotate_left
         ·intro w hSw; (try dsimp only at hSw); go_simp; (try with_reducible rfl)
         refine wpAnyL_take (i := 4) (v := ?_) rfl (by kernel_rfl) (by kernel_rfl) (by kernel_rfl) (by kernel_rfl) (fun _ _ _ h => h) (Or.inl ⟨by rfl, ?_⟩) (by assumption) ?_
         rotate_left
         ·intro w hSw; (try dsimp only at hSw); go_simp; (try with_reducible rfl)
         refine wpAnyL_take (i := 6) (v := ?_) rfl (by kernel_rfl) (by kernel_rfl) (by kernel_rfl) (by kernel_rfl) (fun _ _ _ h => h) (Or.inl ⟨by rfl, ?_⟩) (by assumption) ?_
         rotate_left
         ·intro w hSw; (try dsimp only at hSw); go_simp; (try with_reducible rfl)
         refine wpAnyL_take (i := 9) (v := ?_) rfl (by kernel_rfl) (by kernel_rfl) (by kernel_rfl) (by kernel_rfl) (fun _ _ _ h => h) (Or.inl ⟨by rfl, ?_⟩) (by assumption) ?_
         rotate_left
         ·intro w hSw; (try dsimp only at hSw); go_simp; (try with_reducible rfl)
         refine wpAnyL_take (i := 10) (v := ?_) rfl (by kernel_rfl) (by kernel_rfl) (by kernel_rfl) (by kernel_rfl) (fun _ _ _ h => h) (Or.inl ⟨by rfl, ?_⟩) (by assumption) ?_
         rotate_left
         ·intro w hSw; (try dsimp only at hSw); go_simp; (try with_reducible rfl)
         refine wpAnyL_take (i := 11) (v := ?_) rfl (by kernel_rfl) (by kernel_rfl) (by kernel_rfl) (by kernel_rfl) (fun _ _ _ h => h) (Or.inl ⟨by rfl, ?_⟩) (by assumption) ?_
         rotate_left
         ·intro w hSw; (try dsimp only at hSw); go_simp; (try with_reducible rfl)
         refine wpAnyL_take (i := 12) (v := ?_) rfl (by kernel_rfl) (by kernel_rfl) (by kernel_rfl) (by kernel_rfl) (fun _ _ _ h => h) (Or.inl ⟨by rfl, ?_⟩) (by assumption) ?_
         rotate_left
         ·intro w hSw; (try dsimp only at hSw); go_simp; (try with_reducible rfl)
         refine wpAnyL_ready (rs := [0, 7]) (by kernel_rfl) (by simp) ?_
         refine AllReadyL.cons rfl (fun K hK => ?_) (AllReadyL.cons rfl (fun K hK => ?_) AllReadyL.nil)
         ·go_simp
          refine hK.out _ _ ?_ (fun hHeld => ?_)
          ·exact keepS5 g1 e0 e1 e2 hbA
          clear hK K
          refine wpAnyL_ready (rs := [5, 7]) (by kernel_rfl) (by simp) ?_
          refine AllReadyL.cons rfl (fun K hK => ?_) (AllReadyL.cons rfl (fun K hK => ?_) AllReadyL.nil)
          ·refine step_app rfl _ _ rfl wc.heap.size hHeld.2.2.2.2.size [] (.slice (some ⟨wc.heap.size, 0, none⟩) 0 0) rfl hoA (s.take m) (.slice (some ⟨b2, 0, none⟩) m csv) rfl (hT _ hHeld.2.2.2.2) (by simp; omega) (s.take m) (by simp) m (by simp; omega) ?_
           intro p1 c1 w1 ho1 hb1 hk1
           refine hK.out _ _ ?_ (fun hHeld1 => ?_)
           ·exact keepS5 g1 e0 e1 e2 (hHeld.2.2.2.2.trans hb1)
           clear hK K
           refine wpAnyL_ready (rs := [7]) (by kernel_rfl) (by simp) ?_
           refine AllReadyL.cons rfl (fun K hK => ?_) AllReadyL.nil
           have ho1a := ho1.alloc (.cells #[.int .i64 e.1, .int .i64 e.2.1, .int .i64 e.2.2] 37)
           have hb1a := (hHeld1.2.2.2.2).alloc hHeld1.2.2.2.2.size (.cells #[.int .i64 e.1, .int .i64 e.2.1, .int .i64 e.2.2] 37)
           have hEX : EdB (w1.alloc (.cells #[.int .i64 e.1, .int .i64 e.2.1, .int .i64 e.2.2] 37)) w1.heap.size e := heap_alloc_new w1 _
           go_simp
           refine hK.out _ _ ?_ (fun hHeld1 => ?_)
           ·exact keepS5 g1 e0 e1 e2 hb1a
           clear hK K ho1
           have ho1 := ho1a
           refine wpAnyL_ready (rs := [8]) (by kernel_rfl) (by simp) ?_
           refine AllReadyL.cons rfl (fun K hK => ?_) AllReadyL.nil
           refine step_app rfl _ _ rfl wc.heap.size hHeld1.2.2.2.2.size (s.take m) (.slice p1 m c1) rfl ho1 [e] (.slice (some ⟨w1.heap.size, 0, none⟩) 1 1) rfl (one_src hEX) (by simp; omega) (s.take m ++ [e]) rfl (m + 1) (by simp; omega) ?_
           intro p2 c2 w2 ho2 hb2' hk2
           refine hK.out _ _ ?_ (fun hHeld2 => ?_)
           ·exact keepS5 g1 e0 e1 e2 (hHeld1.2.2.2.2.trans hb2')
           clear hK K
           refine wpAnyL_ready (rs := [13]) (by kernel_rfl) (by simp) ?_
           refine AllReadyL.cons rfl (fun K hK => ?_) AllReadyL.nil
           refine step_app rfl _ _ rfl wc.heap.size hHeld2.2.2.2.2.size (s.take m ++ [e]) (.slice p2 (m + 1) c2) rfl ho2 (s.drop m) (.slice (if csv = m then some ⟨b2, 0, none⟩ else some ⟨b2, m * 3, none⟩) (s.length - m) (csv - m)) rfl (hD _ hHeld2.2.2.2.2) (by simp; omega) (s.take m ++ [e] ++ s.drop m) rfl (s.length + 1) (by simp; omega) ?_
           intro p3 c3 w3 ho3 hb3 hk3
           have hb4 := hHeld2.2.2.2.2.trans hb3
           refine hK.out _ _ ?_ (fun hHeld3 => ?_)
           ·exact keepS5 g1 e0 e1 e2 hb4
           clear hK K
           refine wpAnyL_take (i := 14) (v := ?_) rfl (by kernel_rfl) (by kernel_rfl) (by kernel_rfl) (by kernel_rfl) (fun _ _ _ h => h) (Or.inl ⟨by rfl, ?_⟩) (by assumption) ?_
           rotate_left
           ·intro w hSw; (try dsimp only at hSw); go_simp; (try with_reducible rfl)
           refine wpAnyL_ready (rs := [15]) (by kernel_rfl) (by simp) ?_
           refine AllReadyL.last rfl (by kernel_rfl) (fun K hK => ?_)
           have hgF := hI10.gc.go hb4
           have gF1 := hgF.cell (j := 1) rfl
           have fF1 := hgF.frozen 1
           go_simp
           refine hK.out _ _ ?_
           clear hK K
           refine wpAnyL_done (by kernel_rfl) ?_ _
           have hIF := hI10.step hlt HEN.out hm hbig.out hsm.out HS.out ho3 hb4
           go_wp2
           exact ⟨⟨j + 1, _, _, _, by omega, by go_num, rfl, hIF⟩, by simp [intOf]; omega⟩
          ·go_simp
           refine hK.out _ _ ?_ (fun hHeld => ?_)
           ·exact keepS5 g1 e0 e1 e2 hbAB
           clear hK K
           refine wpAnyL_ready (rs := [5]) (by kernel_rfl) (by simp) ?_
           refine AllReadyL.cons rfl (fun K hK => ?_) AllReadyL.nil
           refine step_app rfl _ _ rfl wc.heap.size hHeld.2.2.2.2.size [] (.slice (some ⟨wc.heap.size, 0, none⟩) 0 0) rfl hoAB (s.take m) (.slice (some ⟨b2, 0, none⟩) m csv) rfl (hT _ hHeld.2.2.2.2) (by simp; omega) (s.take m) (by simp) m (by simp; omega) ?_
           intro p1 c1 w1 ho1 hb1 hk1
           refine hK.out _ _ ?_ (fun hHeld1 => ?_)
           ·exact keepS5 g1 e0 e1 e2 (hHeld.2.2.2.2.trans hb1)
           clear hK K
           have hEX := (hk1 _ _ _ hEAB (by simp [Value.ownBlock])).1
           refine wpAnyL_ready (rs := [8]) (by kernel_rfl) (by simp) ?_
           refine AllReadyL.cons rfl (fun K hK => ?_) AllReadyL.nil
           refine step_app rfl _ _ rfl wc.heap.size hHeld1.2.2.2.2.size (s.take m) (.slice p1 m c1) rfl ho1 [e] (.slice (some ⟨wc.heap.size + 1, 0, none⟩) 1 1) rfl (one_src hEX) (by simp; omega) (s.take m ++ [e]) rfl (m + 1) (by simp; omega) ?_
           intro p2 c2 w2 ho2 hb2' hk2
           refine hK.out _ _ ?_ (fun hHeld2 => ?_)
           ·exact keepS5 g1 e0 e1 e2 (hHeld1.2.2.2.2.trans hb2')
           clear hK K
           refine wpAnyL_ready (rs := [13]) (by kernel_rfl) (by simp) ?_
           refine AllReadyL.cons rfl (fun K hK => ?_) AllReadyL.nil
           refine step_app rfl _ _ rfl wc.heap.size hHeld2.2.2.2.2.size (s.take m ++ [e]) (.slice p2 (m + 1) c2) rfl ho2 (s.drop m) (.slice (if csv = m then some ⟨b2, 0, none⟩ else some ⟨b2, m * 3, none⟩) (s.length - m) (csv - m)) rfl (hD _ hHeld2.2.2.2.2) (by simp; omega) (s.take m ++ [e] ++ s.drop m) rfl (s.length + 1) (by simp; omega) ?_
           intro p3 c3 w3 ho3 hb3 hk3
           have hb4 := hHeld2.2.2.2.2.trans hb3
           refine hK.out _ _ ?_ (fun hHeld3 => ?_)
           ·exact keepS5 g1 e0 e1 e2 hb4
           clear hK K
           refine wpAnyL_take (i := 14) (v := ?_) rfl (by kernel_rfl) (by kernel_rfl) (by kernel_rfl) (by kernel_rfl) (fun _ _ _ h => h) (Or.inl ⟨by rfl, ?_⟩) (by assumption) ?_
           rotate_left
           ·intro w hSw; (try dsimp only at hSw); go_simp; (try with_reducible rfl)
           refine wpAnyL_ready (rs := [15]) (by kernel_rfl) (by simp) ?_
           refine AllReadyL.last rfl (by kernel_rfl) (fun K hK => ?_)
           have hgF := hI10.gc.go hb4
           have gF1 := hgF.cell (j := 1) rfl
           have fF1 := hgF.frozen 1
           go_simp
           refine hK.out _ _ ?_
           clear hK K
           refine wpAnyL_done (by kernel_rfl) ?_ _
           have hIF := hI10.step hlt HEN.out hm hbig.out hsm.out HS.out ho3 hb4
           go_wp2
           exact ⟨⟨j + 1, _, _, _, by omega, by go_num, rfl, hIF⟩, by simp [intOf]; omega⟩
         ·go_simp
          refine hK.out _ _ ?_ (fun hHeld => ?_)
          ·exact keepS5 g1 e0 e1 e2 hbB
          clear hK K
          refine wpAnyL_ready (rs := [0]) (by kernel_rfl) (by simp) ?_
          refine AllReadyL.cons rfl (fun K hK => ?_) AllReadyL.nil
          go_simp
          refine hK.out _ _ ?_ (fun hHeld => ?_)
          ·exact keepS5 g1 e0 e1 e2 hbBA
          clear hK K
          refine wpAnyL_ready (rs := [5]) (by kernel_rfl) (by simp) ?_
          refine AllReadyL.cons rfl (fun K hK => ?_) AllReadyL.nil
          refine step_app rfl _ _ rfl wc.heap.size hHeld.2.2.2.2.size [] (.slice (some ⟨wc.heap.size + 1, 0, none⟩) 0 0) rfl hoBA (s.take m) (.slice (some ⟨b2, 0, none⟩) m csv) rfl (hT _ hHeld.2.2.2.2) (by simp; omega) (s.take m) (by simp) m (by simp; omega) ?_
          intro p1 c1 w1 ho1 hb1 hk1
          refine hK.out _ _ ?_ (fun hHeld1 => ?_)
          ·exact keepS5 g1 e0 e1 e2 (hHeld.2.2.2.2.trans hb1)
          clear hK K
          have hEX := (hk1 _ _ _ hEBA (by simp [Value.ownBlock])).1
          refine wpAnyL_ready (rs := [8]) (by kernel_rfl) (by simp) ?_
          refine AllReadyL.cons rfl (fun K hK => ?_) AllReadyL.nil
          refine step_app rfl _ _ rfl wc.heap.size hHeld1.2.2.2.2.size (s.take m) (.slice p1 m c1) rfl ho1 [e] (.slice (some ⟨wc.heap.size, 0, none⟩) 1 1) rfl (one_src hEX) (by simp; omega) (s.take m ++ [e]) rfl (m + 1) (by simp; omega) ?_
          intro p2 c2 w2 ho2 hb2' hk2
          refine hK.out _ _ ?_ (fun hHeld2 => ?_)
          ·exact keepS5 g1 e0 e1 e2 (hHeld1.2.2.2.2.trans hb2')
          clear hK K
          refine wpAnyL_ready (rs := [13]) (by kernel_rfl) (by simp) ?_
          refine AllReadyL.cons rfl (fun K hK => ?_) AllReadyL.nil
          refine step_app rfl _ _ rfl wc.heap.size hHeld2.2.2.2.2.size (s.take m ++ [e]) (.slice p2 (m + 1) c2) rfl ho2 (s.drop m) (.slice (if csv = m then some ⟨b2, 0, none⟩ else some ⟨b2, m * 3, none⟩) (s.length - m) (csv - m)) rfl (hD _ hHeld2.2.2.2.2) (by simp; omega) (s.take m ++ [e] ++ s.drop m) rfl (s.length + 1) (by simp; omega) ?_
          intro p3 c3 w3 ho3 hb3 hk3
          have hb4 := hHeld2.2.2.2.2.trans hb3
          refine hK.out _ _ ?_ (fun hHeld3 => ?_)
          ·exact keepS5 g1 e0 e1 e2 hb4
          clear hK K
          refine wpAnyL_take (i := 14) (v := ?_) rfl (by kernel_rfl) (by kernel_rfl) (by kernel_rfl) (by kernel_rfl) (fun _ _ _ h => h) (Or.inl ⟨by rfl, ?_⟩) (by assumption) ?_
          rotate_left
          ·intro w hSw; (try dsimp only at hSw); go_simp; (try with_reducible rfl)
          refine wpAnyL_ready (rs := [15]) (by kernel_rfl) (by simp) ?_
          refine AllReadyL.last rfl (by kernel_rfl) (fun K hK => ?_)
          have hgF := hI10.gc.go hb4
          have gF1 := hgF.cell (j := 1) rfl
          have fF1 := hgF.frozen 1
          go_simp
          refine hK.out _ _ ?_
          clear hK K
          refine wpAnyL_done (by kernel_rfl) ?_ _
          have hIF := hI10.step hlt HEN.out hm hbig.out hsm.out HS.out ho3 hb4
          go_wp2
          exact ⟨⟨j + 1, _, _, _, by omega, by go_num, rfl, hIF⟩, by simp [intOf]; omega⟩
    ·have HF : Hid (firstK n l = edgeK n l[j]) := by
      have h2 := HST.out
      rw [if_neg hk] at h2
      exact h2.symm
     have HE : Hid (makeK n l = edgeK n l[j]) := by unfold Hid makeK; rw [if_pos HM.out, HF.out, if_neg hk]
     have HN : Hid (makeN n l = 0) := by unfold Hid makeN; rw [HE.out, if_neg hk]
     have HL : Hid (makeL n l = []) := by unfold Hid makeL; rw [HE.out, if_neg hk]
     have hb7 := hI7.res
     have f0 := hb7.frozen 0
     have f1 := hb7.frozen 1
     have d0 := hb7.cell (j := 0) rfl
     have d1 := hb7.cell (j := 1) rfl
     generalize edgeK n l[j] = k at HE hk
     have hk' : (k == 0) = false := by simpa using hk
     clear HST hk HF
     go_wp2
     have hbf := (hb7.set 0 (.int .i64 0)).set 1 (.slice none 0 0)
     (try simp only [Exit.inBlock, Exit.then])
     refine bodyPost_ret (ret_graph rfl (by rfl) (hbf.cell (j := 0) rfl) (hbf.cell (j := 1) rfl)) rfl ?_
     exact ⟨.slice none 0 0, by rw [HE.out, HN.out]; rfl, by rw [HL.out]; exact Edges.nil _ _ _ _, (hI7.bel.setCell (p := ⟨w.heap.size, 0, none⟩) (Nat.le_refl _) _).setCell (p := ⟨w.heap.size, 1, none⟩) (Nat.le_refl _) _⟩
   ·obtain rfl : j = l.length := by omega
    have HF : Hid (firstK n l = 0) := by have := hI.fst; rw [firstK_end] at this; exact this.symm
    have hpm := hI.perm
    rw [List.take_length] at hpm
    have hb7 := hI.res
    have f0 := hb7.frozen 0
    have f1 := hb7.frozen 1
    have d0 := hb7.cell (j := 0) rfl
    have d1 := hb7.cell (j := 1) rfl
    cases tw with
    | true =>
     have hna : ¬ Alone (l.map norm) := fun h => by
      have h2 := hI.tws.2 ((alone_perm hpm).2 h)
      cases h2
     have HE : Hid (makeK n l = 7) := by unfold Hid makeK; rw [if_pos HM.out, if_pos HF.out, if_neg hna]
     have HN : Hid (makeN n l = 0) := by unfold Hid makeN; rw [HE.out]; rfl
     have HL : Hid (makeL n l = []) := by unfold Hid makeL; rw [HE.out]; rfl
     clear hna hpm
     go_wp2
     have hbf := (hb7.set 0 (.int .i64 0)).set 1 (.slice none 0 0)
     (try simp only [Exit.inBlock, Exit.then])
     refine bodyPost_ret (ret_graph rfl (by rfl) (hbf.cell (j := 0) rfl) (hbf.cell (j := 1) rfl)) rfl ?_
     exact ⟨.slice none 0 0, by rw [HE.out, HN.out]; rfl, by rw [HL.out]; exact Edges.nil _ _ _ _, (hI.bel.setCell (p := ⟨w.heap.size, 0, none⟩) (Nat.le_refl _) _).setCell (p := ⟨w.heap.size, 1, none⟩) (Nat.le_refl _) _⟩
    | false =>
     have has := hI.tws.1 rfl
     have HA : Hid (Alone (l.map norm)) := (alone_perm hpm).1 has
     have HE : Hid (makeK n l = 0) := by unfold Hid makeK; rw [if_pos HM.out, if_pos HF.out, if_pos HA.out]
     have HN : Hid (makeN n l = n) := by unfold Hid makeN; rw [HE.out]; rfl
     have HL : Hid (makeL n l = s) := by unfold Hid makeL; rw [HE.out, if_pos rfl]; exact (srt_eq hpm (weak_strict hI.weak has)).symm
     obtain ⟨psv, csv, rfl⟩ := owns_form hI.own
     have k0 := hI.gc.cell (j := 0) rfl
     have k1 := hI.gc.cell (j := 1) rfl
     have hEd := Edges.of_owns hI.own
     have hAb := Above.of_owns hI.own
     clear has hpm
     go_wp2
     have hbf := (hb7.set 0 (.int .i64 n)).set 1 (.slice psv s.length csv)
     (try simp only [Exit.inBlock, Exit.then])
     refine bodyPost_ret (ret_graph rfl (by rfl) (hbf.cell (j := 0) rfl) (hbf.cell (j := 1) rfl)) rfl ?_
     refine ⟨.slice psv s.length csv, by rw [HE.out, HN.out]; rfl, ?_, (hI.bel.setCell (p := ⟨w.heap.size, 0, none⟩) (Nat.le_refl _) _).setCell (p := ⟨w.heap.size, 1, none⟩) (Nat.le_refl _) _⟩
     rw [HL.out]
     exact (hEd.setLow hAb (by simp) _).setLow hAb (by simp) _
 ·have hS := fun W => refMany_any n l.length W
  have HE : Hid (makeK n l = manyK n l.length) := by unfold Hid makeK; rw [if_neg hm]
  have HN : Hid (makeN n l = 0) := by unfold Hid makeN; rw [HE.out, if_neg hm]
  have HL : Hid (makeL n l = []) := by unfold Hid makeL; rw [HE.out, if_neg hm]
  generalize manyK n l.length = k at hS hm HE
  have hk' : (k == 0) = false := by simpa using hm
  clear hm
  have hB1 : Blk 24 (w.alloc (.cells #[.int .i64 0, .slice none 0 0] 24)) w.heap.size [.int .i64 0, .slice none 0 0] := heap_alloc_new w _
  go_enter Tryz.func11, Tryz.ntmps11
  go_wp2_with fail
  refine (hS _).mono ?_
  rintro e w1 ⟨rfl, rfl⟩
  clear hS
  go_wp2
  (try simp only [Exit.inBlock, Exit.then])
  refine bodyPost_ret (ret_graph rfl (by rfl) (hB1.cell (j := 0) rfl) (hB1.cell (j := 1) rfl)) rfl ?_
  exact ⟨.slice none 0 0, by rw [HE.out, HN.out]; rfl, by rw [HL.out]; exact Edges.nil _ _ _ _, ((Grew.refl w).alloc _).below⟩
end Go.Proofs.YtjpkojmjiaoifaaGreat

namespace Go.Proofs.YtjpkojmjiaoifaaGreat
open Go Go.Proofs Go.RowKit
theorem nmI_at {Q : List Int} {x : Nat} (h : x < Q.length) : Q[x]? = some (nmI Q (x : Int)) := by
 simp [nmI, List.getD_eq_getElem?_getD, List.getElem?_eq_getElem h]
theorem nm_cell {W : World} {base m c : Nat} {bo : Nat} {Q : List Int} (ho : W.ownsRow base 3 1 (.slice (some ⟨bo, 0, none⟩) m c) m (Q.map (Value.int .i64))) (hl : Q.length = m) {x : Nat} (hx : x < m) : W.cell? ⟨bo, x, none⟩ = some (.int .i64 (nmI Q (x : Int))) := by
 rw [ho.cellAt x (by omega), List.getElem?_map, nmI_at (by omega)]; rfl
def nmR (Q : List Int) (r : List (List Int)) (N : Nat) : Nat → List (List Int)
 | 0 => List.replicate N []
 | v + 1 => (nmR Q r N v).set (nmI Q (v : Int)).toNat ((r.getD v []).map (nmI Q))
theorem nmR_len (Q : List Int) (r : List (List Int)) (N : Nat) : ∀ v, (nmR Q r N v).length = N
 | 0 => List.length_replicate
 | v + 1 => by unfold nmR; rw [List.length_set]; exact nmR_len Q r N v
theorem nmR_at {N : Nat} {Q : List Int} (r : List (List Int)) (h : NmP N Q) : ∀ v, v ≤ N → ∀ u, u < N → (nmR Q r N v)[(nmI Q (u : Int)).toNat]? = some (if u < v then (r.getD u []).map (nmI Q) else [])
 | 0, _, u, hu => by
  obtain ⟨k, hk, hkN⟩ := h.at (z := (u : Int)) (by omega) (by omega)
  rw [hk]
  unfold nmR
  rw [if_neg (by omega), List.getElem?_replicate, if_pos (by omega)]
 | v + 1, hv, u, hu => by
  have ih := nmR_at r h v (by omega) u hu
  obtain ⟨k, hk, hkN⟩ := h.at (z := (v : Int)) (by omega) (by omega)
  obtain ⟨j, hj, hjN⟩ := h.at (z := (u : Int)) (by omega) (by omega)
  unfold nmR
  rw [List.getElem?_set]
  by_cases e : v = u
  ·subst e
   rw [if_pos rfl, if_pos (by rw [nmR_len, hk]; omega), if_pos (by omega)]
  ·have hne : ¬ (nmI Q (v : Int)).toNat = (nmI Q (u : Int)).toNat := fun e2 => by
    have h3 := h.eq (y := (v : Int)) (z := (u : Int)) (by omega) (by omega) (by omega) (by omega) (by omega)
    omega
   rw [if_neg hne, ih]
   by_cases h1 : u < v
   ·rw [if_pos h1, if_pos (by omega)]
   ·rw [if_neg h1, if_neg (by omega)]
theorem nmR_full {N : Nat} {Q : List Int} (r : List (List Int)) (h : NmP N Q) : NmS N Q r (nmR Q r N N) := by
 refine ⟨nmR_len Q r N N, fun v w hv hw => ?_⟩
 have h1 := nmR_at r h N (Nat.le_refl _) v hv
 have h2 : (nmI Q (v : Int)).toNat = w := by show (Q.getD v 0).toNat = w; rw [hw]; rfl
 rw [h2, if_pos hv] at h1
 rw [List.getD_eq_getElem?_getD, h1]
 rfl
set_option maxRecDepth 100000 in
set_option maxHeartbeats 8000000 in
theorem colourNames_law (n : Int) (l : List Ed) (r : List (List Int)) (hr1 : r.length ≤ 9223372036854775807) (a b : List Int) (sv rv av bv : Value) (w : World) (hl : Edges w.heap.size w sv l) (hr : Lsts w.heap.size w rv r) (ha : Ints w.heap.size w av a) (hb : Ints w.heap.size w bv b) :
  Calls Tryz.prog 4 #[.agg #[.int .i64 n, sv], rv, av, bv] w fun e w' => e = .returned (.bool true) ∧ Below w.heap.size w w' := by
 obtain ⟨p, c, rfl⟩ := hl.len
 obtain ⟨pr, cr, rfl⟩ := hr.len
 obtain ⟨pa, ca, rfl⟩ := ha.len
 obtain ⟨pb, cb, rfl⟩ := hb.len
 have hb1 : Below w.heap.size w (w.alloc (.cells #[.int .i64 n, .slice p l.length c] 24)) := (Below.refl _ _).alloc (Nat.le_refl _) _
 have hX1 : Blk 24 (w.alloc (.cells #[.int .i64 n, .slice p l.length c] 24)) w.heap.size [.int .i64 n, .slice p l.length c] := heap_alloc_new w _
 have hlt := lightR_any n l r hr1 40 (by decide) (by decide) (.slice p l.length c) (.slice pr r.length cr) _ (hl.go hb1) (hr.go hb1)
 have q0 := hX1.cell (j := 0) rfl
 have q1 := hX1.cell (j := 1) rfl
 have HL : Hid (Edges w.heap.size w (.slice p l.length c) l) := hl
 have HR : Hid (Lsts w.heap.size w (.slice pr r.length cr) r) := hr
 have HA : Hid (Ints w.heap.size w (.slice pa a.length ca) a) := ha
 have HBb : Hid (Ints w.heap.size w (.slice pb b.length cb) b) := hb
 have HB1 : Hid (Below w.heap.size w (w.alloc (.cells #[.int .i64 n, .slice p l.length c] 24))) := hb1
 have HX1 : Hid (Blk 24 (w.alloc (.cells #[.int .i64 n, .slice p l.length c] 24)) w.heap.size [.int .i64 n, .slice p l.length c]) := hX1
 clear hb1 hX1 hl hr ha hb
 have hmix := mixed
 go_enter Tryz.func4, Tryz.ntmps4
 go_wp2_with fail
 generalize w.alloc (.cells #[.int .i64 n, .slice p l.length c] 24) = w2 at *
 refine hlt.mono ?_
 clear hlt
 rintro e w3 ⟨bb, rfl, hbb, hb3⟩
 have HB3 : Hid (Below w.heap.size w w3) := HB1.out.trans (hb3.mono HB1.out.size)
 have HX3 : Hid (Blk 24 w3 w.heap.size [.int .i64 n, .slice p l.length c]) := HX1.out.go hb3
 have HBB : Hid (bb = true → lightB n l 40 = true ∧ (r.length : Int) ≤ 2 * 40) := hbb
 clear HB1 HX1 hb3 q0 q1 hbb
 cases bb with
 | false =>
  go_wp2_with fail
  refine (alive_any w3).mono ?_
  rintro e w4 ⟨rfl, hb4⟩
  have HB4 : Hid (Below w.heap.size w w4) := HB3.out.trans (hb4.mono HB3.out.size)
  clear hb4
  go_wp2
  go_ret
  exact ⟨rfl, HB4.out⟩
 | true =>
  by_cases h1 : (100 : Int) < (a.length : Int)
  ·go_wp2_with fail
   refine (alive_any w3).mono ?_
   rintro e w4 ⟨rfl, hb4⟩
   have HB4 : Hid (Below w.heap.size w w4) := HB3.out.trans (hb4.mono HB3.out.size)
   clear hb4
   go_wp2
   go_ret
   exact ⟨rfl, HB4.out⟩
  ·have h1d : decide ((100 : Int) < (a.length : Int)) = false := by simp; omega
   have hlb := lightB_true (HBB.out rfl).1
   have hor := five_or n l r (by omega) (by omega) (.slice p l.length c) (.slice pr r.length cr) w HL.out HR.out
   have q0 := HX3.out.cell (j := 0) rfl
   have q1 := HX3.out.cell (j := 1) rfl
   rcases hor with ⟨k, hk, _, hpl⟩ | ⟨N, rfl, hRg, hS, hP, hpl⟩
   ·have hp3 := hpl w3 HB3.out
    have hk' : (k == 0) = false := by rw [beq_eq_false_iff_ne]; exact hk
    clear hpl hlb HBB hk
    go_wp2_with fail
    refine hp3.mono ?_
    clear hp3
    rintro e w4 ⟨rfl, hb4⟩
    have HB4 : Hid (Below w.heap.size w w4) := HB3.out.trans (hb4.mono HB3.out.size)
    clear q0 q1 hb4 HX3 HB3
    go_wp2_with fail
    refine (alive_any w4).mono ?_
    rintro e w5 ⟨rfl, hb5⟩
    have HB5 : Hid (Below w.heap.size w w5) := HB4.out.trans (hb5.mono HB4.out.size)
    clear hb5
    go_wp2
    go_ret
    exact ⟨rfl, HB5.out⟩
   ·have hp3 := hpl w3 HB3.out
    have hN40 : N ≤ 40 := by omega
    have HL160 : Hid (l.length ≤ 160) := by unfold Hid; omega
    have HRG : Hid (RightG (N : Int) l) := hRg
    have HS : Hid (SysR N l r) := hS
    have HP : Hid (planeK (numsL N l r) = 0) := hP
    clear hpl hlb HBB hRg hS hP
    go_wp2_with fail
    refine hp3.mono ?_
    clear hp3
    rintro e w4 ⟨rfl, hb4⟩
    have HB4 : Hid (Below w.heap.size w w4) := HB3.out.trans (hb4.mono HB3.out.size)
    have HX4 : Hid (Blk 24 w4 w.heap.size [.int .i64 (N : Int), .slice p l.length c]) := HX3.out.go hb4
    clear q0 q1 hb4 HX3 HB3
    have q0 := HX4.out.cell (j := 0) rfl
    have q1 := HX4.out.cell (j := 1) rfl
    have hup := upto_any N (by omega) w4
    go_wp2_with fail
    refine hup.mono ?_
    clear hup
    rintro e w5 ⟨ov, rfl, ho5, hb5⟩
    obtain ⟨po, mo, co, rfl⟩ := owns_slice ho5
    have hmo : mo = N := by
     rcases ho5.2 with ⟨h, h'⟩ | ⟨_, _, _, h, _⟩ <;> simp at h <;> omega
    subst hmo
    have HST : Hid (FewI mo (.slice po mo co) w4 w5) := ⟨_, ho5, List.Perm.refl _, hb5⟩
    have hwb : w.heap.size < w4.heap.size := HX4.out.lt
    clear ho5 hb5 q0 q1
    go_upto_block 0 with fail
    go_cut [10, 11, 12] (fun i x y wx => FewI mo (.slice po mo co) w4 wx)
    case first =>
     go_wp2_with fail
     go_loopw [10] (fun iv wr => ∃ i : Nat, i ≤ a.length ∧ iv = .int .i64 i ∧ FewI mo (.slice po mo co) w4 wr) (fun iv _ => a.length - (intOf iv).toNat)
     case atStart => exact ⟨0, Nat.zero_le _, rfl, HST.out⟩
     case round =>
      clear HST
      obtain ⟨i, hi, rfl, Q, hoQ, hpQ, hbQ⟩ := hrel
      have s0 := (hbQ.cell (p := ⟨w.heap.size, 0, none⟩) hwb).trans (HX4.out.cell (j := 0) rfl)
      have s1 := (hbQ.cell (p := ⟨w.heap.size, 1, none⟩) hwb).trans (HX4.out.cell (j := 1) rfl)
      by_cases hcont : i < a.length ∧ i < b.length ∧ 0 < mo
      ·obtain ⟨hia, hib, hm0⟩ := hcont
       have hiaI : (i : Int) < (a.length : Int) := by omega
       have hibI : (i : Int) < (b.length : Int) := by omega
       have hm0I : (0 : Int) < (mo : Int) := by omega
       have hmne : ¬ (mo : Int) = 0 := by omega
       have hbw : Below w.heap.size w wr := HB4.out.trans (hbQ.mono HB4.out.size)
       obtain ⟨ba, oa, rfl, _, hcapa, hcca⟩ := HA.out.open hia
       obtain ⟨bb, ob, rfl, _, hcapb, hccb⟩ := HBb.out.open hib
       have ca0 := hcca _ hbw i hia
       have cb0 := hccb _ hbw i hib
       generalize a[i] = av at *
       generalize b[i] = bv at *
       have HQ : Hid (wr.ownsRow w4.heap.size 3 1 (.slice po mo co) mo (Q.map (Value.int .i64)) ∧ Q.Perm (uptoL mo) ∧ Below w4.heap.size w4 wr) := ⟨hoQ, hpQ, hbQ⟩
       clear hcca hccb hbw hoQ hpQ hbQ
       have hX1 : av.tmod (mo : Int) < (mo : Int) := Int.tmod_lt_of_pos av hm0I
       have hY1 : bv.tmod (mo : Int) < (mo : Int) := Int.tmod_lt_of_pos bv hm0I
       go_wp2
       go_quiet (fail)
       generalize av.tmod (mo : Int) = X at *
       generalize bv.tmod (mo : Int) = Y at *
       have HD : Hid (wr.drewN nq = wr.drewN nq) := rfl
       by_cases hX : 0 ≤ X
       ·by_cases hY : 0 ≤ Y
        ·obtain ⟨x, rfl⟩ : ∃ x : Nat, X = (x : Int) := ⟨X.toNat, by omega⟩
         obtain ⟨y, rfl⟩ : ∃ y : Nat, Y = (y : Int) := ⟨Y.toNat, by omega⟩
         have hxm : x < mo := by omega
         have hym : y < mo := by omega
         have hQl : Q.length = mo := by rw [HQ.out.2.1.length_eq, uptoL_len]
         obtain ⟨bo, rfl⟩ : ∃ bo, po = some ⟨bo, 0, none⟩ := by
          rcases HQ.out.1.2 with ⟨_, h⟩ | ⟨bo, _, _, h, _⟩
          ·omega
          ·simp at h; exact ⟨bo, h.1⟩
         have hoD : (wr.drewN nq).ownsRow w4.heap.size 3 1 (.slice (some ⟨bo, 0, none⟩) mo co) mo (Q.map (Value.int .i64)) := HQ.out.1
         have cx : (wr.drewN nq).cell? ⟨bo, x, none⟩ = some (.int .i64 Q[x]) := by rw [hoD.cellAt x (by omega), List.getElem?_map, List.getElem?_eq_getElem (by omega)]; rfl
         have cy : (wr.drewN nq).cell? ⟨bo, y, none⟩ = some (.int .i64 Q[y]) := by rw [hoD.cellAt y (by omega), List.getElem?_map, List.getElem?_eq_getElem (by omega)]; rfl
         have fx := hoD.frozenAt x
         have fy := hoD.frozenAt y
         have HN : Hid (FewI mo (.slice (some ⟨bo, 0, none⟩) mo co) w4 (((wr.drewN nq).setCell ⟨bo, x, none⟩ (.int .i64 Q[y])).setCell ⟨bo, y, none⟩ (.int .i64 Q[x])).drew) := by
          obtain ⟨h1, _⟩ := hoD.stored x (.int .i64 Q[y])
          obtain ⟨h2, _⟩ := h1.stored y (.int .i64 Q[x])
          have hbo := (hoD.lt bo rfl).1
          refine ⟨(Q.set x Q[y]).set y Q[x], ?_, (swap_perm (by omega) (by omega)).trans HQ.out.2.1, below_drewN (((below_drewN HQ.out.2.2 nq).setCell (p := ⟨bo, x, none⟩) hbo _).setCell (p := ⟨bo, y, none⟩) hbo _) 1⟩
          rw [List.map_set, List.map_set]
          exact h2
         generalize Q[x] = vx at *
         generalize Q[y] = vy at *
         generalize wr.drewN nq = w5 at *
         clear hoD HQ HD ca0 cb0 s0 s1 HA HBb
         by_cases hxy : x = y
         ·subst hxy
          obtain rfl : vx = vy := by rw [cx] at cy; simpa using cy
          clear hX1 hY1 hcapa hcapb hibI hQl hmne hm0I cy fy hym hY
          go_wp2
          go_big_region_o
          go_wp2
          exact ⟨⟨i + 1, by omega, by go_num, HN.out⟩, by simp [intOf]; omega⟩
         ·have hyx : ¬ y = x := fun e => hxy e.symm
          clear hX1 hY1 hcapa hcapb hibI hQl hmne hm0I
          go_wp2
          go_big_region_o
          go_wp2
          exact ⟨⟨i + 1, by omega, by go_num, HN.out⟩, by simp [intOf]; omega⟩
        ·go_wp2
         exact ⟨⟨i + 1, by omega, by go_num, Q, HQ.out.1, HQ.out.2.1, below_drewN HQ.out.2.2 nq⟩, by simp [intOf]; omega⟩
       ·go_wp2
        exact ⟨⟨i + 1, by omega, by go_num, Q, HQ.out.1, HQ.out.2.1, below_drewN HQ.out.2.2 nq⟩, by simp [intOf]; omega⟩
      ·have HQ : Hid (FewI mo (.slice po mo co) w4 wr) := ⟨Q, hoQ, hpQ, hbQ⟩
       clear hoQ hpQ hbQ
       by_cases hA1 : i < a.length
       ·have hA1I : (i : Int) < (a.length : Int) := by omega
        by_cases hB1 : i < b.length
        ·have hB1I : (i : Int) < (b.length : Int) := by omega
         have hmz0 : ¬ (0 : Int) < (mo : Int) := by omega
         go_wp2
         go_meet
         exact HQ.out
        ·have hB1I : ¬ (i : Int) < (b.length : Int) := by omega
         go_wp2
         go_meet
         exact HQ.out
       ·have hA1I : ¬ (i : Int) < (a.length : Int) := by omega
        go_wp2
        go_meet
        exact HQ.out
    case rest =>
     obtain ⟨Q, hoQ, hpQ, hbQ⟩ := hcut
     have HNP : Hid (NmP mo Q) := nmP_of hpQ
     have HQL : Hid (Q.length = mo) := by unfold Hid; rw [hpQ.length_eq, uptoL_len]
     have HW : Hid (Below w.heap.size w wc) := HB4.out.trans (hbQ.mono HB4.out.size)
     have HXc : Hid (Blk 24 wc w.heap.size [.int .i64 (mo : Int), .slice p l.length c]) := HX4.out.go hbQ
     have HQc : Hid (wc.ownsRow w4.heap.size 3 1 (.slice po mo co) mo (Q.map (Value.int .i64))) := hoQ
     have hsc : w4.heap.size ≤ wc.heap.size := hbQ.size
     have HM : Hid (l.length ≤ 160) := HL160.out
     clear HST HB4 HX4 hoQ hpQ hbQ HA HBb h1d h1
     go_wp2_with fail
     go_loopw [13, 14] (fun lv iv wr => ∃ i : Nat, i ≤ l.length ∧ iv = .int .i64 i ∧ wr.ownsRow wc.heap.size 37 3 lv ((l.take i).map (nmE Q)).length (flat ((l.take i).map (nmE Q))) ∧ Below wc.heap.size wc wr) (fun _ iv _ => l.length - (intOf iv).toNat)
     case atStart => exact ⟨0, Nat.zero_le _, rfl, owns_none _ _ _, Below.refl _ _⟩
     case round =>
      obtain ⟨i, hi, rfl, hown, hb⟩ := hrel
      have hbwr : Below w.heap.size w wr := HW.out.trans (hb.mono HW.out.size)
      have d1 := (hb.cell (p := ⟨w.heap.size, 1, none⟩) (by simp only; omega)).trans (HXc.out.cell (j := 1) rfl)
      obtain ⟨pp, cc, rfl⟩ := owns_form hown
      by_cases hlt : i < l.length
      ·obtain ⟨b, off, rfl, hbb, hcap, hc, -⟩ := HL.out.open hlt
       obtain ⟨c0, c1, c2⟩ := hc wr hbwr i hlt
       obtain ⟨⟨h1, h2, h3, h4, h5, h6⟩, _⟩ := HRG.out.each l[i] (List.getElem_mem hlt)
       obtain ⟨x, hx⟩ : ∃ x : Nat, l[i].1 = (x : Int) := ⟨l[i].1.toNat, by omega⟩
       obtain ⟨y, hy⟩ : ∃ y : Nat, l[i].2.1 = (y : Int) := ⟨l[i].2.1.toNat, by omega⟩
       have hil : (i : Int) < (l.length : Int) := by omega
       have hi160 : i ≤ 160 := by have := HM.out; omega
       have hxm : x < mo := by omega
       have hym : y < mo := by omega
       have hQl := HQL.out
       obtain ⟨bo, rfl⟩ : ∃ bo, po = some ⟨bo, 0, none⟩ := by
        rcases HQc.out.2 with ⟨_, h⟩ | ⟨bo, _, _, h, _⟩
        ·omega
        ·simp at h; exact ⟨bo, h.1⟩
       have hoQ := owns_below HQc.out hb
       have cx := nm_cell hoQ hQl hxm
       have cy := nm_cell hoQ hQl hym
       have HSN : Hid ((l.take (i + 1)).map (nmE Q) = (l.take i).map (nmE Q) ++ [(nmI Q (x : Int), nmI Q (y : Int), l[i].2.2)]) := by
        unfold Hid
        rw [List.take_succ_eq_append_getElem hlt, List.map_append]
        simp [nmE, hx, hy]
       have HDl : Hid (((l.take i).map (nmE Q)).length ≤ 160) := by unfold Hid; rw [List.length_map, List.length_take]; have := HM.out; omega
       rw [hx] at c0
       rw [hy] at c1
       have HOW : Hid (wr.ownsRow wc.heap.size 37 3 (.slice pp ((l.take i).map (nmE Q)).length cc) ((l.take i).map (nmE Q)).length (flat ((l.take i).map (nmE Q)))) := hown
       have HB : Hid (Below wc.heap.size wc wr) := hb
       clear hc hown hb hoQ hbwr h1 h2 h3 h4 h5 h6 hx hy
       generalize (l.take i).map (nmE Q) = D at *
       generalize nmI Q (x : Int) = qx at *
       generalize nmI Q (y : Int) = qy at *
       generalize l[i].2.2 = ec at *
       go_wp2_with fail
       refine wp_region_last (S := (fun w' : World => w'.cell? ⟨w.heap.size, 1, none⟩ = some (.slice (some ⟨b, off, none⟩) l.length c) ∧ w'.cell? ⟨b, off + i * 3, none⟩ = some (.int .i64 (x : Int)) ∧ w'.cell? ⟨b, off + i * 3 + 1, none⟩ = some (.int .i64 (y : Int)) ∧ w'.cell? ⟨b, off + i * 3 + 2, none⟩ = some (.int .i64 ec) ∧ w'.cell? ⟨bo, x, none⟩ = some (.int .i64 qx) ∧ w'.cell? ⟨bo, y, none⟩ = some (.int .i64 qy))) (by kernel_rfl) ⟨d1, c0, c1, c2, cx, cy⟩ (fun hHeld => ?_)
       refine wpAnyL_take (i := 0) (v := ?_) rfl (by kernel_rfl) (by kernel_rfl) (by kernel_rfl) (by kernel_rfl) (fun _ _ _ h => h) (Or.inl ⟨by rfl, ?_⟩) (by assumption) ?_
       rotate_left
       ·intro w hSw; (try dsimp only at hSw); go_simp; (try with_reducible rfl)
       try simp only [Act.put, List.setIfInBounds_toArray]
       refine wpAnyL_take (i := 1) (v := ?_) rfl (by kernel_rfl) (by kernel_rfl) (by kernel_rfl) (by kernel_rfl) (fun _ _ _ h => h) (Or.inl ⟨by rfl, ?_⟩) (by assumption) ?_
       rotate_left
       ·intro w hSw; (try dsimp only at hSw); go_simp; (try with_reducible rfl)
       try simp only [Act.put]
       refine wpAnyL_take (i := 2) (v := ?_) rfl (by kernel_rfl) (by kernel_rfl) (by kernel_rfl) (by kernel_rfl) (fun _ _ _ h => h) (Or.inl ⟨by rfl, ?_⟩) (by assumption) ?_
       rotate_left
       ·intro w hSw; (try dsimp only at hSw); go_simp; (try with_reducible rfl)
       try simp only [Act.put]
       refine wpAnyL_take (i := 3) (v := ?_) rfl (by kernel_rfl) (by kernel_rfl) (by kernel_rfl) (by kernel_rfl) (fun _ _ _ h => h) (Or.inl ⟨by rfl, ?_⟩) (by assumption) ?_
       rotate_left
       ·intro w hSw; (try dsimp only at hSw); go_simp; (try with_reducible rfl)
       try simp only [Act.put]
       refine wpAnyL_take (i := 4) (v := ?_) rfl (by kernel_rfl) (by kernel_rfl) (by kernel_rfl) (by kernel_rfl) (fun _ _ _ h => h) (Or.inl ⟨by rfl, ?_⟩) (by assumption) ?_
       rotate_left
       ·intro w hSw; (try dsimp only at hSw); go_simp; (try with_reducible rfl)
       try simp only [Act.put]
       try simp only [List.getElem_toArray, List.getElem_cons_zero, List.getElem_cons_succ, List.setIfInBounds_toArray, List.set_cons_zero, List.set_cons_succ]
       refine wpAnyL_take (i := 5) (v := ?_) rfl (by kernel_rfl) (by kernel_rfl) (by kernel_rfl) (by kernel_rfl) (fun _ _ _ h => h) (Or.inl ⟨by rfl, ?_⟩) (by assumption) ?_
       rotate_left
       ·intro w hSw; (try dsimp only at hSw); go_simp; (try with_reducible rfl)
       try simp only [Act.put]
       refine wpAnyL_take (i := 6) (v := ?_) rfl (by kernel_rfl) (by kernel_rfl) (by kernel_rfl) (by kernel_rfl) (fun _ _ _ h => h) (Or.inl ⟨by rfl, ?_⟩) (by assumption) ?_
       rotate_left
       ·intro w hSw; (try dsimp only at hSw); go_simp; (try with_reducible rfl)
       try simp only [Act.put]
       refine wpAnyL_take (i := 7) (v := ?_) rfl (by kernel_rfl) (by kernel_rfl) (by kernel_rfl) (by kernel_rfl) (fun _ _ _ h => h) (Or.inl ⟨by rfl, ?_⟩) (by assumption) ?_
       rotate_left
       ·intro w hSw; (try dsimp only at hSw); go_simp; (try with_reducible rfl)
       try simp only [Act.put]
       refine wpAnyL_take (i := 8) (v := ?_) rfl (by kernel_rfl) (by kernel_rfl) (by kernel_rfl) (by kernel_rfl) (fun _ _ _ h => h) (Or.inl ⟨by rfl, ?_⟩) (by assumption) ?_
       rotate_left
       ·intro w hSw; (try dsimp only at hSw); go_simp; (try with_reducible rfl)
       try simp only [Act.put]
       refine wpAnyL_take (i := 9) (v := ?_) rfl (by kernel_rfl) (by kernel_rfl) (by kernel_rfl) (by kernel_rfl) (fun _ _ _ h => h) (Or.inl ⟨by rfl, ?_⟩) (by assumption) ?_
       rotate_left
       ·intro w hSw; (try dsimp only at hSw); go_simp; (try with_reducible rfl)
       try simp only [Act.put]
       try simp only [List.getElem_toArray, List.getElem_cons_zero, List.getElem_cons_succ, List.setIfInBounds_toArray, List.set_cons_zero, List.set_cons_succ]
       refine wpAnyL_take (i := 10) (v := ?_) rfl (by kernel_rfl) (by kernel_rfl) (by kernel_rfl) (by kernel_rfl) (fun _ _ _ h => h) (Or.inl ⟨by rfl, ?_⟩) (by assumption) ?_
       rotate_left
       ·intro w hSw; (try dsimp only at hSw); go_simp; (try with_reducible rfl)
       try simp only [Act.put]
       refine wpAnyL_take (i := 11) (v := ?_) rfl (by kernel_rfl) (by kernel_rfl) (by kernel_rfl) (by kernel_rfl) (fun _ _ _ h => h) (Or.inl ⟨by rfl, ?_⟩) (by assumption) ?_
       rotate_left
       ·intro w hSw; (try dsimp only at hSw); go_simp; (try with_reducible rfl)
       try simp only [Act.put]
       refine wpAnyL_take (i := 12) (v := ?_) rfl (by kernel_rfl) (by kernel_rfl) (by kernel_rfl) (by kernel_rfl) (fun _ _ _ h => h) (Or.inl ⟨by rfl, ?_⟩) (by assumption) ?_
       rotate_left
       ·intro w hSw; (try dsimp only at hSw); go_simp; (try with_reducible rfl)
       try simp only [Act.put]
       refine wpAnyL_take (i := 13) (v := ?_) rfl (by kernel_rfl) (by kernel_rfl) (by kernel_rfl) (by kernel_rfl) (fun _ _ _ h => h) (Or.inl ⟨by rfl, ?_⟩) (by assumption) ?_
       rotate_left
       ·intro w hSw; (try dsimp only at hSw); go_simp; (try with_reducible rfl)
       try simp only [Act.put]
       refine wpAnyL_take (i := 14) (v := ?_) rfl (by kernel_rfl) (by kernel_rfl) (by kernel_rfl) (by kernel_rfl) (fun _ _ _ h => h) (Or.inl ⟨by rfl, ?_⟩) (by assumption) ?_
       rotate_left
       ·intro w hSw; (try dsimp only at hSw); go_simp; (try with_reducible rfl)
       try simp only [Act.put]
       try simp only [List.getElem_toArray, List.getElem_cons_zero, List.getElem_cons_succ, List.setIfInBounds_toArray, List.set_cons_zero, List.set_cons_succ]
       refine wpAnyL_take (i := 15) (v := ?_) rfl (by kernel_rfl) (by kernel_rfl) (by kernel_rfl) (by kernel_rfl) (fun _ _ _ h => h) (Or.inl ⟨by rfl, ?_⟩) (by assumption) ?_
       rotate_left
       ·intro w hSw; (try dsimp only at hSw); go_simp; (try with_reducible rfl)
       try simp only [Act.put]
       refine wpAnyL_take (i := 16) (v := ?_) rfl (by kernel_rfl) (by kernel_rfl) (by kernel_rfl) (by kernel_rfl) (fun _ _ _ h => h) (Or.inl ⟨by rfl, ?_⟩) (by assumption) ?_
       rotate_left
       ·intro w hSw; (try dsimp only at hSw); go_simp; (try with_reducible rfl)
       try simp only [Act.put]
       refine wpAnyL_take (i := 17) (v := ?_) rfl (by kernel_rfl) (by kernel_rfl) (by kernel_rfl) (by kernel_rfl) (fun _ _ _ h => h) (Or.inl ⟨by rfl, ?_⟩) (by assumption) ?_
       rotate_left
       ·intro w hSw; (try dsimp only at hSw); go_simp; (try with_reducible rfl)
       try simp only [Act.put]
       refine wpAnyL_take (i := 18) (v := ?_) rfl (by kernel_rfl) (by kernel_rfl) (by kernel_rfl) (by kernel_rfl) (fun _ _ _ h => h) (Or.inl ⟨by rfl, ?_⟩) (by assumption) ?_
       rotate_left
       ·intro w hSw; (try dsimp only at hSw); go_simp; (try with_reducible rfl)
       try simp only [Act.put]
       refine wpAnyL_take (i := 19) (v := ?_) rfl (by kernel_rfl) (by kernel_rfl) (by kernel_rfl) (by kernel_rfl) (fun _ _ _ h => h) (Or.inl ⟨by rfl, ?_⟩) (by assumption) ?_
       rotate_left
       ·intro w hSw; (try dsimp only at hSw); go_simp; (try with_reducible rfl)
       try simp only [Act.put]
       try simp only [List.getElem_toArray, List.getElem_cons_zero, List.getElem_cons_succ, List.setIfInBounds_toArray, List.set_cons_zero, List.set_cons_succ]
       refine wpAnyL_take (i := 20) (v := ?_) rfl (by kernel_rfl) (by kernel_rfl) (by kernel_rfl) (by kernel_rfl) (fun _ _ _ h => h) (Or.inl ⟨by rfl, ?_⟩) (by assumption) ?_
       rotate_left
       ·intro w hSw; (try dsimp only at hSw); go_simp; (try with_reducible rfl)
       try simp only [Act.put]
       refine wpAnyL_take (i := 21) (v := ?_) rfl (by kernel_rfl) (by kernel_rfl) (by kernel_rfl) (by kernel_rfl) (fun _ _ _ h => h) (Or.inl ⟨by rfl, ?_⟩) (by assumption) ?_
       rotate_left
       ·intro w hSw; (try dsimp only at hSw); go_simp; (try with_reducible rfl)
       try simp only [Act.put]
       refine wpAnyL_take (i := 22) (v := ?_) rfl (by kernel_rfl) (by kernel_rfl) (by kernel_rfl) (by kernel_rfl) (fun _ _ _ h => h) (Or.inl ⟨by rfl, ?_⟩) (by assumption) ?_
       rotate_left
       ·intro w hSw; (try dsimp only at hSw); go_simp; (try with_reducible rfl)
       try simp only [Act.put]
       refine wpAnyL_take (i := 23) (v := ?_) rfl (by kernel_rfl) (by kernel_rfl) (by kernel_rfl) (by kernel_rfl) (fun _ _ _ h => h) (Or.inl ⟨by rfl, ?_⟩) (by assumption) ?_
       rotate_left
       ·intro w hSw; (try dsimp only at hSw); go_simp; (try with_reducible rfl)
       try simp only [Act.put]
       refine wpAnyL_take (i := 24) (v := ?_) rfl (by kernel_rfl) (by kernel_rfl) (by kernel_rfl) (by kernel_rfl) (fun _ _ _ h => h) (Or.inl ⟨by rfl, ?_⟩) (by assumption) ?_
       rotate_left
       ·intro w hSw; (try dsimp only at hSw); go_simp; (try with_reducible rfl)
       try simp only [Act.put]
       try simp only [List.getElem_toArray, List.getElem_cons_zero, List.getElem_cons_succ, List.setIfInBounds_toArray, List.set_cons_zero, List.set_cons_succ]
       refine wpAnyL_take (i := 25) (v := ?_) rfl (by kernel_rfl) (by kernel_rfl) (by kernel_rfl) (by kernel_rfl) (fun _ _ _ h => h) (Or.inl ⟨by rfl, ?_⟩) (by assumption) ?_
       rotate_left
       ·intro w hSw; (try dsimp only at hSw); go_simp; (try with_reducible rfl)
       try simp only [Act.put]
       have hbA : Below wr.heap.size wr (wr.drew.alloc (.cells #[.int .i64 qx, .int .i64 qy, .int .i64 ec] 37)) := (below_drewN (Below.refl _ _) 1).alloc (Nat.le_refl _) _
       have hownA := owns_below HOW.out hbA
       have hgbA : Below wc.heap.size wc (wr.drew.alloc (.cells #[.int .i64 qx, .int .i64 qy, .int .i64 ec] 37)) := HB.out.trans (hbA.mono HB.out.size)
       have hnw : Src (wr.drew.alloc (.cells #[.int .i64 qx, .int .i64 qy, .int .i64 ec] 37)) (.slice (some ⟨wr.heap.size, 0, none⟩) 1 1) 1 3 (encE (qx, qy, ec)) := .inr ⟨⟨wr.heap.size, 0, none⟩, 1, rfl, rfl, news3 (w := wr.drew) (qx, qy, ec), one3 _⟩
       have hDl := HDl.out
       have hmx : D.length + 1 ≤ maxLen := by unfold maxLen; omega
       have hby : (D.length + 1) * 24 ≤ 140737488355328 := by omega
       have hsA : wc.heap.size ≤ (wr.drew.alloc (.cells #[.int .i64 qx, .int .i64 qy, .int .i64 ec] 37)).heap.size := hgbA.size
       obtain ⟨i0, hi0, hz0, hz1, hz2⟩ := info_parts infoE
       refine wpAnyL_ready (rs := [26]) (by kernel_rfl) (by simp) ?_
       refine AllReadyL.cons rfl (fun K hK => ?_) AllReadyL.nil
       go_simp
       refine hK.out _ _ ⟨cell_keepK hbA d1, cell_keepK hbA c0, cell_keepK hbA c1, cell_keepK hbA c2, cell_keepK hbA cx, cell_keepK hbA cy⟩ (fun hHeld8 => ?_)
       clear hK K
       try simp only [Act.put, List.setIfInBounds_toArray, List.set_cons_zero, List.set_cons_succ]
       refine wpAnyL_ready (rs := [27]) (by kernel_rfl) (by simp) ?_
       refine AllReadyL.cons rfl (fun K hK => ?_) AllReadyL.nil
       refine step_append_src rfl _ _ 22 rfl wc.heap.size 37 i0 (.agg #[.int .i64 0, .int .i64 0, .int .i64 0]) 3 24 Tryz.underlying22 hi0 hz0 hz1 hz2 (by simp [Value.cells]) (by decide) (.slice pp D.length cc) D.length (flat D) rfl hownA (.slice (some ⟨wr.heap.size, 0, none⟩) 1 1) 1 (encE (qx, qy, ec)) rfl hnw hmx hby hsA ?_
       intro v9 w9 ho9 hg9 hat9
       obtain ⟨a9, m9, k9, rfl⟩ := owns_slice ho9
       have hlow : ∀ q, (Value.slice pp D.length cc).ownBlock = some q → wc.heap.size ≤ q := fun q hq => (hownA.lt q hq).1
       have hA9 : Below wc.heap.size (wr.drew.alloc (.cells #[.int .i64 qx, .int .i64 qy, .int .i64 ec] 37)) w9 := (Below.refl _ _).grown hg9 hsA hlow
       have hbn : Below wc.heap.size wc w9 := hgbA.trans hA9
       have HBN : Hid _ := hbn
       have HWN : Hid _ := ho9
       have hwW := HW.out.size
       have hk9 : ∀ q : Addr, q.block < wc.heap.size → ∀ v, (wr.drew.alloc (.cells #[.int .i64 qx, .int .i64 qy, .int .i64 ec] 37)).cell? q = some v → w9.cell? q = some v := fun q hq v h => (hA9.cell hq).trans h
       have hboc : bo < wc.heap.size := (HQc.out.lt bo rfl).2
       refine hK.out _ _ ⟨hk9 _ (by simp only; omega) _ hHeld8.1, hk9 _ (by simp only; omega) _ hHeld8.2.1, hk9 _ (by simp only; omega) _ hHeld8.2.2.1, hk9 _ (by simp only; omega) _ hHeld8.2.2.2.1, hk9 _ (by simp only; omega) _ hHeld8.2.2.2.2.1, hk9 _ (by simp only; omega) _ hHeld8.2.2.2.2.2⟩ (fun hHeld9 => ?_)
       clear hK K
       try simp only [Act.put, List.setIfInBounds_toArray]
       clear ho9 hg9 hat9 hownA hnw hbA hgbA hHeld hHeld8 hA9 hbn hk9 hsA
       refine wpAnyL_ready (rs := [28]) (by kernel_rfl) (by simp) ?_
       refine AllReadyL.last rfl (by kernel_rfl) (fun K hK => ?_)
       go_simp
       refine hK.out _ _ ?_
       clear hK K
       try simp only [Act.put, List.setIfInBounds_toArray, List.set_cons_zero, List.set_cons_succ]
       refine wpAnyL_done (by kernel_rfl) ?_ _
       clear hHeld9
       go_wp2
       refine ⟨⟨i + 1, by omega, by go_num, ?_, HBN.out⟩, by simp [intOf]; omega⟩
       rw [HSN.out, flat_snoc, List.length_append]
       exact HWN.out
      ·obtain rfl : i = l.length := by omega
       have hjl : ¬ (l.length : Int) < (l.length : Int) := by omega
       simp only [List.take_length] at hown ⊢
       have hEd := Edges.of_owns hown
       have hmk := refMake_any (mo : Int) (l.map (nmE Q)) (by rw [List.length_map]; have := HM.out; omega) _ wr hEd
       have hK : makeK (mo : Int) (l.map (nmE Q)) = 0 := nm_make HNP.out HRG.out
       have hN' : makeN (mo : Int) (l.map (nmE Q)) = (mo : Int) := by simp [makeN, hK]
       have hL' : makeL (mo : Int) (l.map (nmE Q)) = srt ((l.map (nmE Q)).map norm) := by simp [makeL, hK]
       have HR2 : Hid (RightG (mo : Int) (srt ((l.map (nmE Q)).map norm))) := nm_right HNP.out HRG.out
       have HLl : Hid ((srt ((l.map (nmE Q)).map norm)).length = l.length) := by unfold Hid; rw [(srt_perm _).length_eq, List.length_map, List.length_map]
       rw [hK, hN', hL'] at hmk
       have HBr : Hid (Below w.heap.size w wr) := hbwr
       have HXr : Hid (Blk 24 wr w.heap.size [.int .i64 (mo : Int), .slice p l.length c]) := by have hw := HW.out.size; exact (hb.block _ (by have := HXc.out.lt; omega)).trans HXc.out
       have HQr : Hid (wr.ownsRow w4.heap.size 3 1 (.slice po mo co) mo (Q.map (Value.int .i64))) := owns_below HQc.out hb
       have q0 := HXr.out.cell (j := 0) rfl
       have hw4 : w4.heap.size ≤ wr.heap.size := Nat.le_trans hsc hb.size
       clear hown hEd hK hN' hL' hb hbwr HQc HXc HW
       generalize hll : srt ((l.map (nmE Q)).map norm) = l2 at *
       have HLL : Hid (srt ((l.map (nmE Q)).map norm) = l2) := hll
       clear hll
       generalize ((l.map (nmE Q))).length = ln at *
       go_wp2_with fail
       refine hmk.mono ?_
       clear hmk
       rintro e w6 ⟨gv, rfl, hE6, hb6⟩
       have HE6 : Hid (Edges w6.heap.size w6 gv l2) := hE6
       have HB6 : Hid (Below w.heap.size w w6) := HBr.out.trans (hb6.mono HBr.out.size)
       have HX6 : Hid (Blk 24 w6 w.heap.size [.int .i64 (mo : Int), .slice p l.length c]) := HXr.out.go hb6
       have HQ6 : Hid (w6.ownsRow w4.heap.size 3 1 (.slice po mo co) mo (Q.map (Value.int .i64))) := owns_below HQr.out hb6
       have hw6 := hb6.size
       clear hb6 q0 HBr HXr HQr d1
       obtain ⟨pg, cg, rfl⟩ := hE6.len
       have hbA : Below w6.heap.size w6 (w6.alloc (.cells #[.int .i64 (mo : Int), .slice pg l2.length cg] 24)) := (Below.refl _ _).alloc (Nat.le_refl _) _
       have hYA : Blk 24 (w6.alloc (.cells #[.int .i64 (mo : Int), .slice pg l2.length cg] 24)) w6.heap.size [.int .i64 (mo : Int), .slice pg l2.length cg] := heap_alloc_new w6 _
       have HY7 : Hid (Blk _ _ w6.heap.size [.int .i64 (mo : Int), .slice pg l2.length cg]) := hYA
       have HX7 : Hid (Blk 24 _ w.heap.size [.int .i64 (mo : Int), .slice p l.length c]) := HX6.out.go hbA
       have HE7 : Hid (Edges _ _ (.slice pg l2.length cg) l2) := hE6.go hbA
       have HB7 : Hid (Below w.heap.size w _) := HB6.out.trans (hbA.mono HB6.out.size)
       have HQ7 : Hid (World.ownsRow _ w4.heap.size 3 1 (.slice po mo co) mo (Q.map (Value.int .i64))) := owns_below HQ6.out hbA
       have q0 := HX7.out.cell (j := 0) rfl
       have hwA := hbA.size
       have hb67 := hbA
       have HS6 : Hid (Edges w6.heap.size w6 (.slice pg l2.length cg) l2) := hE6
       clear hE6 hbA hYA HE6 HB6 HX6 HQ6
       obtain ⟨i0, hi0, hz0, hz1, hz2⟩ := info_parts infoSl
       obtain ⟨j0, hj0, hy0, hy1, hy2⟩ := info_parts infoI
       go_wp2_with (at_make; generalize (w6.alloc (.cells #[.int .i64 (mo : Int), .slice pg l2.length cg] 24)) = w7 at *; refine wpList_make_full _ rfl _ _ 25 rfl w7.heap.size 28 i0 (.slice none 0 0) 1 Tryz.underlying25 hi0 hz0 hz1 .i64 .i64 _ _ mo rfl rfl rfl rfl (by rw [hz2]; omega) (by unfold maxLen; omega) (Nat.le_refl _) ?_; intro w8 hown hgrow)
       have hb8 : Below w7.heap.size w7 w8 := (Below.refl _ _).grown hgrow (Nat.le_refl _) (fun k e => by cases e)
       have hG8 := Grp.made hown
       have HB8 : Hid (Below w.heap.size w w8) := HB7.out.trans (hb8.mono HB7.out.size)
       have HX8 : Hid (Blk 24 w8 w.heap.size [.int .i64 (mo : Int), .slice p l.length c]) := HX7.out.go hb8
       have HY8 : Hid (Blk 24 w8 w6.heap.size [.int .i64 (mo : Int), .slice pg l2.length cg]) := HY7.out.go hb8
       have HE8 : Hid (Edges w8.heap.size w8 (.slice pg l2.length cg) l2) := HE7.out.go hb8
       have HQ8 : Hid (w8.ownsRow w4.heap.size 3 1 (.slice po mo co) mo (Q.map (Value.int .i64))) := owns_below HQ7.out hb8
       have hw8 := hb8.size
       have HB68 : Hid (Below w6.heap.size w6 w8) := hb67.trans (hb8.mono hb67.size)
       have hYl := HY7.out.lt
       have HBO : Hid (∀ bo, po = some ⟨bo, 0, none⟩ → bo < w7.heap.size) := fun bo e => by subst e; exact (HQ7.out.lt bo rfl).2
       clear hown hgrow hi0 hz0 hz1 hz2 q0 HB7 HX7 HY7 HE7 HQ7 hb8 hb67
       generalize w7.heap.size = h7 at *
       rw [show List.replicate mo [] = nmR Q r mo 0 from rfl] at hG8
       have hwh : w.heap.size ≤ h7 := by omega
       have HRL : Hid (r.length = mo) := HS.out.len
       have hSy := sy_of HRG.out HS.out
       have HXN : Hid (∀ v, v < mo → ∀ z ∈ r.getD v [], ∃ u : Nat, z = (u : Int) ∧ u < mo) := fun v hv z hz => by obtain ⟨u, e, h, _⟩ := hSy.both v hv z hz; exact ⟨u, e, h⟩
       have HXL : Hid (∀ v, v < mo → (r.getD v []).length ≤ 160) := fun v hv => by
        rw [(HS.out.perm v hv).length_eq]
        exact Nat.le_trans (nb_len _ l) HM.out
       have HSTP : Hid (∀ v, v < mo → (nmR Q r mo v).set (nmI Q (v : Int)).toNat ((r.getD v []).map (nmI Q)) = nmR Q r mo (v + 1) ∧ (nmR Q r mo v).set (nmI Q (v : Int)).toNat [] = nmR Q r mo v) := fun v hv => by
        refine ⟨rfl, ?_⟩
        have h1 := nmR_at r HNP.out v (by omega) v hv
        rw [if_neg (by omega)] at h1
        apply List.ext_getElem?
        intro k
        rw [List.getElem?_set]
        by_cases e : (nmI Q (v : Int)).toNat = k
        ·subst e
         rw [if_pos rfl, if_pos (List.getElem?_eq_some_iff.1 h1).1, h1]
        ·rw [if_neg e]
       clear hSy
       go_loopw [18] (fun iv wr => ∃ (v : Nat) (svs : List Value), v ≤ mo ∧ iv = .int .i64 v ∧ Grp h7 (.slice (some ⟨h7, 0, none⟩) mo mo) svs (nmR Q r mo v) wr ∧ Below h7 w8 wr) (fun iv _ => mo - (intOf iv).toNat)
       case atStart => exact ⟨0, _, Nat.zero_le _, rfl, hG8, Below.refl _ _⟩
       case round =>
        clear hG8
        obtain ⟨v, svs, hv, rfl, hG, hb⟩ := hrel
        have hbw : Below w.heap.size w wr := HB8.out.trans (hb.mono (by omega))
        have q0 := (hb.cell (p := ⟨w.heap.size, 0, none⟩) (by simp only; omega)).trans (HX8.out.cell (j := 0) rfl)
        by_cases hlt : v < mo
        ·have hvl : (v : Int) < (mo : Int) := by omega
         have hlr : v < r.length := by have := HRL.out; omega
         obtain ⟨bc, oc, rfl, hbc, hcc, -⟩ := (HR.out.below hbw).cellAt hlr
         obtain ⟨bo, rfl⟩ : ∃ bo, po = some ⟨bo, 0, none⟩ := by
          rcases HQ8.out.2 with ⟨_, h⟩ | ⟨bo, _, _, h, _⟩
          ·omega
          ·simp at h; exact ⟨bo, h.1⟩
         have hboh := HBO.out bo rfl
         obtain ⟨x, hx, hxm⟩ := HNP.out.at (z := (v : Int)) (by omega) (by omega)
         obtain ⟨hset, hset0⟩ := HSTP.out v hlt
         have hgv : r.getD v [] = r[v] := by rw [List.getD_eq_getElem?_getD, List.getElem?_eq_getElem hlr]; rfl
         have hxn := HXN.out v hlt
         have hxl := HXL.out v hlt
         rw [hgv] at hset hxn hxl
         have hx' : (nmI Q (v : Int)).toNat = x := by omega
         rw [hx'] at hset hset0
         have HSET : Hid ((nmR Q r mo v).set x (r[v].map (nmI Q)) = nmR Q r mo (v + 1)) := hset
         have HLN : Hid ((nmR Q r mo v).length = mo) := nmR_len _ _ _ _
         have HCX : Hid (nmI Q (v : Int) = (x : Int)) := hx
         have HXN' : Hid (∀ z ∈ r[v], ∃ u : Nat, z = (u : Int) ∧ u < mo) := hxn
         have HROW : Hid (∀ W, Below w.heap.size w W → ∃ px kx, Ints w.heap.size W (.slice px r[v].length kx) r[v] ∧ W.cell? ⟨bc, oc + v, none⟩ = some (.slice px r[v].length kx)) := fun W hW => by
          obtain ⟨bc', oc', e, _, _, px, kx, h1, h2⟩ := (HR.out.below hW).cellAt hlr
          simp at e
          obtain ⟨rfl, rfl⟩ := e
          exact ⟨px, kx, h1, h2⟩
         have HG : Hid (Grp h7 (.slice (some ⟨h7, 0, none⟩) mo mo) svs ((nmR Q r mo v).set x ((r[v].take 0).map (nmI Q))) wr) := by
          unfold Hid
          rw [List.take_zero, List.map_nil, hset0]
          exact hG
         have HB : Hid (Below h7 w8 wr) := hb
         have HLT : Hid (v < r.length) := hlr
         clear hG hb hbw hset hset0 hgv hx hx' hxn
         generalize r[v] = X at *
         generalize nmR Q r mo v = E at *
         generalize wr = w9 at *
         go_wp2_with fail
         clear q0
         go_loopw [19] (fun iv wr => ∃ (k : Nat) (svs : List Value), k ≤ X.length ∧ iv = .int .i64 (k : Int) ∧ Grp h7 (.slice (some ⟨h7, 0, none⟩) mo mo) svs (E.set x ((X.take k).map (nmI Q))) wr ∧ Below h7 w8 wr) (fun iv _ => X.length - (intOf iv).toNat)
         case atStart => exact ⟨0, svs, Nat.zero_le _, rfl, HG.out, HB.out⟩
         case round =>
          clear HG HB
          obtain ⟨k, svs, hk, rfl, hG, hb⟩ := hrel
          have hbw : Below w.heap.size w wr := HB8.out.trans (hb.mono (by omega))
          obtain ⟨px, kx, hIx, c1⟩ := HROW.out wr hbw
          have hlr := HLT.out
          by_cases hkx : k < X.length
          ·have hkl : (k : Int) < (X.length : Int) := by omega
           have hvr : (v : Int) < (r.length : Int) := by omega
           obtain ⟨bx, ox, rfl, hbx, hcx, hcl⟩ := hIx.open hkx
           have x0 := hcl wr (Below.refl _ _) k hkx
           obtain ⟨y, hy, hym⟩ := HXN'.out X[k] (List.getElem_mem hkx)
           rw [hy] at x0
           have cqx := (hb.cell (p := ⟨bo, v, none⟩) hboh).trans (nm_cell HQ8.out HQL.out hlt)
           have cqy := (hb.cell (p := ⟨bo, y, none⟩) hboh).trans (nm_cell HQ8.out HQL.out hym)
           rw [HCX.out] at cqx
           have HTK : Hid ((X.take (k + 1)).map (nmI Q) = (X.take k).map (nmI Q) ++ [nmI Q (y : Int)]) := by
            unfold Hid
            rw [List.take_succ_eq_append_getElem hkx, List.map_append, hy]
            rfl
           have hsl : svs.length = mo := by have := hG.len; rw [List.length_set, HLN.out] at this; exact this
           have hxk : ((X.take k).map (nmI Q)).length ≤ 160 := by rw [List.length_map, List.length_take]; omega
           have HAT : Hid ((E.set x ((X.take k).map (nmI Q)))[x]? = some ((X.take k).map (nmI Q))) := List.getElem?_set_self (by rw [HLN.out]; exact hxm)
           have HSS : Hid (∀ a b : List Int, (E.set x a).set x b = E.set x b) := fun a b => by rw [List.set_set]
           obtain ⟨su, hsu⟩ : ∃ su, svs[x]? = some su := ⟨_, List.getElem?_eq_getElem (by omega)⟩
           generalize nmI Q (y : Int) = qy at *
           generalize (X.take k).map (nmI Q) = xs at *
           have hinn := hG.inn x su xs hsu HAT.out
           obtain ⟨ps, cs, rfl⟩ := owns_formP hinn
           have s0 : wr.cell? ⟨h7, x, none⟩ = some (.slice ps xs.length cs) := by
            have h1 := hG.own.cells (g := h7) rfl x _ hsu
            rwa [Go.WideShapes.add_plain, Nat.zero_add] at h1
           have HG : Hid (Grp h7 (.slice (some ⟨h7, 0, none⟩) mo mo) svs (E.set x xs) wr) := hG
           have HB : Hid (Below h7 w8 wr) := hb
           have HKX : Hid (k < X.length) := hkx
           have HBC : Hid (bc < h7 ∧ bx < h7 ∧ bo < h7) := ⟨by omega, by omega, hboh⟩
           have hym' : (y : Int) < (mo : Int) := by omega
           have hxm' : (x : Int) < (mo : Int) := by omega
           clear hG hb hinn hcl hIx hy
           go_wp2_with fail
           refine wp_region_last (S := (fun w' : World => w'.cell? ⟨bo, v, none⟩ = some (.int .i64 (x : Int)) ∧ w'.cell? ⟨h7, x, none⟩ = some (.slice ps xs.length cs) ∧ w'.cell? ⟨bc, oc + v, none⟩ = some (.slice (some ⟨bx, ox, none⟩) X.length kx) ∧ w'.cell? ⟨bx, ox + k, none⟩ = some (.int .i64 (y : Int)) ∧ w'.cell? ⟨bo, y, none⟩ = some (.int .i64 qy))) (by kernel_rfl) ⟨cqx, s0, c1, x0, cqy⟩ (fun hHeld => ?_)
           refine wpAnyL_take (i := 0) (v := ?_) rfl (by kernel_rfl) (by kernel_rfl) (by kernel_rfl) (by kernel_rfl) (fun _ _ _ h => h) (Or.inl ⟨by rfl, ?_⟩) (by assumption) ?_
           rotate_left
           ·intro w hSw; (try dsimp only at hSw); go_simp; (try with_reducible rfl)
           try simp only [Act.put, List.setIfInBounds_toArray]
           refine wpAnyL_take (i := 1) (v := ?_) rfl (by kernel_rfl) (by kernel_rfl) (by kernel_rfl) (by kernel_rfl) (fun _ _ _ h => h) (Or.inl ⟨by rfl, ?_⟩) (by assumption) ?_
           rotate_left
           ·intro w hSw; (try dsimp only at hSw); go_simp; (try with_reducible rfl)
           try simp only [Act.put]
           refine wpAnyL_take (i := 2) (v := ?_) rfl (by kernel_rfl) (by kernel_rfl) (by kernel_rfl) (by kernel_rfl) (fun _ _ _ h => h) (Or.inl ⟨by rfl, ?_⟩) (by assumption) ?_
           rotate_left
           ·intro w hSw; (try dsimp only at hSw); go_simp; (try with_reducible rfl)
           try simp only [Act.put]
           refine wpAnyL_take (i := 3) (v := ?_) rfl (by kernel_rfl) (by kernel_rfl) (by kernel_rfl) (by kernel_rfl) (fun _ _ _ h => h) (Or.inl ⟨by rfl, ?_⟩) (by assumption) ?_
           rotate_left
           ·intro w hSw; (try dsimp only at hSw); go_simp; (try with_reducible rfl)
           try simp only [Act.put]
           refine wpAnyL_take (i := 4) (v := ?_) rfl (by kernel_rfl) (by kernel_rfl) (by kernel_rfl) (by kernel_rfl) (fun _ _ _ h => h) (Or.inl ⟨by rfl, ?_⟩) (by assumption) ?_
           rotate_left
           ·intro w hSw; (try dsimp only at hSw); go_simp; (try with_reducible rfl)
           try simp only [Act.put]
           try simp only [List.getElem_toArray, List.getElem_cons_zero, List.getElem_cons_succ, List.setIfInBounds_toArray, List.set_cons_zero, List.set_cons_succ]
           refine wpAnyL_take (i := 5) (v := ?_) rfl (by kernel_rfl) (by kernel_rfl) (by kernel_rfl) (by kernel_rfl) (fun _ _ _ h => h) (Or.inl ⟨by rfl, ?_⟩) (by assumption) ?_
           rotate_left
           ·intro w hSw; (try dsimp only at hSw); go_simp; (try with_reducible rfl)
           try simp only [Act.put]
           refine wpAnyL_take (i := 6) (v := ?_) rfl (by kernel_rfl) (by kernel_rfl) (by kernel_rfl) (by kernel_rfl) (fun _ _ _ h => h) (Or.inl ⟨by rfl, ?_⟩) (by assumption) ?_
           rotate_left
           ·intro w hSw; (try dsimp only at hSw); go_simp; (try with_reducible rfl)
           try simp only [Act.put]
           refine wpAnyL_take (i := 7) (v := ?_) rfl (by kernel_rfl) (by kernel_rfl) (by kernel_rfl) (by kernel_rfl) (fun _ _ _ h => h) (Or.inl ⟨by rfl, ?_⟩) (by assumption) ?_
           rotate_left
           ·intro w hSw; (try dsimp only at hSw); go_simp; (try with_reducible rfl)
           try simp only [Act.put]
           refine wpAnyL_take (i := 8) (v := ?_) rfl (by kernel_rfl) (by kernel_rfl) (by kernel_rfl) (by kernel_rfl) (fun _ _ _ h => h) (Or.inl ⟨by rfl, ?_⟩) (by assumption) ?_
           rotate_left
           ·intro w hSw; (try dsimp only at hSw); go_simp; (try with_reducible rfl)
           try simp only [Act.put]
           refine wpAnyL_take (i := 9) (v := ?_) rfl (by kernel_rfl) (by kernel_rfl) (by kernel_rfl) (by kernel_rfl) (fun _ _ _ h => h) (Or.inl ⟨by rfl, ?_⟩) (by assumption) ?_
           rotate_left
           ·intro w hSw; (try dsimp only at hSw); go_simp; (try with_reducible rfl)
           try simp only [Act.put]
           try simp only [List.getElem_toArray, List.getElem_cons_zero, List.getElem_cons_succ, List.setIfInBounds_toArray, List.set_cons_zero, List.set_cons_succ]
           refine wpAnyL_take (i := 10) (v := ?_) rfl (by kernel_rfl) (by kernel_rfl) (by kernel_rfl) (by kernel_rfl) (fun _ _ _ h => h) (Or.inl ⟨by rfl, ?_⟩) (by assumption) ?_
           rotate_left
           ·intro w hSw; (try dsimp only at hSw); go_simp; (try with_reducible rfl)
           try simp only [Act.put]
           refine wpAnyL_take (i := 11) (v := ?_) rfl (by kernel_rfl) (by kernel_rfl) (by kernel_rfl) (by kernel_rfl) (fun _ _ _ h => h) (Or.inl ⟨by rfl, ?_⟩) (by assumption) ?_
           rotate_left
           ·intro w hSw; (try dsimp only at hSw); go_simp; (try with_reducible rfl)
           try simp only [Act.put]
           refine wpAnyL_take (i := 12) (v := ?_) rfl (by kernel_rfl) (by kernel_rfl) (by kernel_rfl) (by kernel_rfl) (fun _ _ _ h => h) (Or.inl ⟨by rfl, ?_⟩) (by assumption) ?_
           rotate_left
           ·intro w hSw; (try dsimp only at hSw); go_simp; (try with_reducible rfl)
           try simp only [Act.put]
           refine wpAnyL_take (i := 13) (v := ?_) rfl (by kernel_rfl) (by kernel_rfl) (by kernel_rfl) (by kernel_rfl) (fun _ _ _ h => h) (Or.inl ⟨by rfl, ?_⟩) (by assumption) ?_
           rotate_left
           ·intro w hSw; (try dsimp only at hSw); go_simp; (try with_reducible rfl)
           try simp only [Act.put]
           try simp only [List.getElem_toArray, List.getElem_cons_zero, List.getElem_cons_succ, List.setIfInBounds_toArray, List.set_cons_zero, List.set_cons_succ]
           refine wpAnyL_take (i := 14) (v := ?_) rfl (by kernel_rfl) (by kernel_rfl) (by kernel_rfl) (by kernel_rfl) (fun _ _ _ h => h) (Or.inl ⟨by rfl, ?_⟩) (by assumption) ?_
           rotate_left
           ·intro w hSw; (try dsimp only at hSw); go_simp; (try with_reducible rfl)
           try simp only [Act.put]
           refine wpAnyL_take (i := 15) (v := ?_) rfl (by kernel_rfl) (by kernel_rfl) (by kernel_rfl) (by kernel_rfl) (fun _ _ _ h => h) (Or.inl ⟨by rfl, ?_⟩) (by assumption) ?_
           rotate_left
           ·intro w hSw; (try dsimp only at hSw); go_simp; (try with_reducible rfl)
           try simp only [Act.put]
           refine wpAnyL_take (i := 16) (v := ?_) rfl (by kernel_rfl) (by kernel_rfl) (by kernel_rfl) (by kernel_rfl) (fun _ _ _ h => h) (Or.inl ⟨by rfl, ?_⟩) (by assumption) ?_
           rotate_left
           ·intro w hSw; (try dsimp only at hSw); go_simp; (try with_reducible rfl)
           try simp only [Act.put]
           refine wpAnyL_take (i := 17) (v := ?_) rfl (by kernel_rfl) (by kernel_rfl) (by kernel_rfl) (by kernel_rfl) (fun _ _ _ h => h) (Or.inl ⟨by rfl, ?_⟩) (by assumption) ?_
           rotate_left
           ·intro w hSw; (try dsimp only at hSw); go_simp; (try with_reducible rfl)
           try simp only [Act.put]
           try simp only [List.getElem_toArray, List.getElem_cons_zero, List.getElem_cons_succ, List.setIfInBounds_toArray, List.set_cons_zero, List.set_cons_succ]
           refine wpAnyL_take (i := 18) (v := ?_) rfl (by kernel_rfl) (by kernel_rfl) (by kernel_rfl) (by kernel_rfl) (fun _ _ _ h => h) (Or.inl ⟨by rfl, ?_⟩) (by assumption) ?_
           rotate_left
           ·intro w hSw; (try dsimp only at hSw); go_simp; (try with_reducible rfl)
           try simp only [Act.put]
           refine wpAnyL_take (i := 19) (v := ?_) rfl (by kernel_rfl) (by kernel_rfl) (by kernel_rfl) (by kernel_rfl) (fun _ _ _ h => h) (Or.inl ⟨by rfl, ?_⟩) (by assumption) ?_
           rotate_left
           ·intro w hSw; (try dsimp only at hSw); go_simp; (try with_reducible rfl)
           try simp only [Act.put]
           refine wpAnyL_take (i := 20) (v := ?_) rfl (by kernel_rfl) (by kernel_rfl) (by kernel_rfl) (by kernel_rfl) (fun _ _ _ h => h) (Or.inl ⟨by rfl, ?_⟩) (by assumption) ?_
           rotate_left
           ·intro w hSw; (try dsimp only at hSw); go_simp; (try with_reducible rfl)
           try simp only [Act.put]
           refine wpAnyL_take (i := 21) (v := ?_) rfl (by kernel_rfl) (by kernel_rfl) (by kernel_rfl) (by kernel_rfl) (fun _ _ _ h => h) (Or.inl ⟨by rfl, ?_⟩) (by assumption) ?_
           rotate_left
           ·intro w hSw; (try dsimp only at hSw); go_simp; (try with_reducible rfl)
           try simp only [Act.put]
           try simp only [List.getElem_toArray, List.getElem_cons_zero, List.getElem_cons_succ, List.setIfInBounds_toArray, List.set_cons_zero, List.set_cons_succ]
           have hbd : Below wr.heap.size wr wr.drew := below_drewN (Below.refl _ _) 1
           have hG5 := HG.out.go hbd
           have hB5 := HB.out.trans (hbd.mono (Nat.le_trans hw8 HB.out.size))
           clear hbd s0 x0 c1 cqx cqy
           generalize wr.drew = w5 at *
           have hbA : Below w5.heap.size w5 (w5.alloc (.cells #[.int .i64 qy] 3)) := (Below.refl _ _).alloc (Nat.le_refl _) _
           have hGA := hG5.go hbA
           have hBA := hB5.trans (hbA.mono (Nat.le_trans hw8 hB5.size))
           have hownA := hGA.inn x _ xs hsu HAT.out
           have hnw : Src (w5.alloc (.cells #[.int .i64 qy] 3)) (.slice (some ⟨w5.heap.size, 0, none⟩) 1 1) 1 1 [.int .i64 qy] := .inr ⟨⟨w5.heap.size, 0, none⟩, 1, rfl, rfl, one_cell w5 (.int .i64 qy) 3, fun z hz => by rw [List.mem_singleton.1 hz]; rfl⟩
           have hmx : xs.length + 1 ≤ maxLen := by unfold maxLen; omega
           have hby : (xs.length + 1) * 8 ≤ 140737488355328 := by omega
           have hsA : h7 ≤ (w5.alloc (.cells #[.int .i64 qy] 3)).heap.size := Nat.le_trans hw8 hBA.size
           refine wpAnyL_ready (rs := [22]) (by kernel_rfl) (by simp) ?_
           refine AllReadyL.cons rfl (fun K hK => ?_) AllReadyL.nil
           go_simp
           refine hK.out _ _ ⟨cell_keepK hbA hHeld.1, cell_keepK hbA hHeld.2.1, cell_keepK hbA hHeld.2.2.1, cell_keepK hbA hHeld.2.2.2.1, cell_keepK hbA hHeld.2.2.2.2⟩ (fun hHeld6 => ?_)
           clear hK K
           try simp only [Act.put, List.setIfInBounds_toArray, List.set_cons_zero, List.set_cons_succ]
           refine wpAnyL_ready (rs := [23]) (by kernel_rfl) (by simp) ?_
           refine AllReadyL.cons rfl (fun K hK => ?_) AllReadyL.nil
           refine step_append_src rfl _ _ 28 rfl h7 3 j0 (.int .i64 0) 1 8 Tryz.underlying28 hj0 hy0 hy1 hy2 rfl (by decide) (.slice ps xs.length cs) xs.length (xs.map (Value.int .i64)) rfl hownA (.slice (some ⟨w5.heap.size, 0, none⟩) 1 1) 1 [.int .i64 qy] rfl hnw hmx hby hsA ?_
           intro v8 w10 ho8 hg8 hat8
           obtain ⟨a8, m8, k8, rfl⟩ := owns_slice ho8
           obtain ⟨c7, f7, hP7⟩ := hG5.pushed hsl hsu HAT.out ho8 hg8 hat8
           rw [HSS.out, ← HTK.out] at hP7
           have hlow : ∀ q, (Value.slice ps xs.length cs).ownBlock = some q → h7 ≤ q := fun q hq => (hownA.lt q hq).1
           have hB7 := hBA.grown hg8 hsA hlow
           have HP7 : Hid (Grp h7 (.slice (some ⟨h7, 0, none⟩) mo mo) (svs.set x (.slice a8 m8 k8)) (E.set x ((X.take (k + 1)).map (nmI Q))) (w10.setCell ⟨h7, x, none⟩ (.slice a8 m8 k8))) := hP7
           have HB7 : Hid (Below h7 w8 (w10.setCell ⟨h7, x, none⟩ (.slice a8 m8 k8))) := hB7.setCell (p := ⟨h7, x, none⟩) (Nat.le_refl _) _
           have hA7 : Below h7 (w5.alloc (.cells #[.int .i64 qy] 3)) w10 := (Below.refl _ _).grown hg8 hsA hlow
           refine hK.out _ _ ⟨(hA7.cell (p := ⟨bo, v, none⟩) HBC.out.2.2).trans hHeld6.1, c7, (hA7.cell (p := ⟨bc, oc + v, none⟩) HBC.out.1).trans hHeld6.2.2.1, (hA7.cell (p := ⟨bx, ox + k, none⟩) HBC.out.2.1).trans hHeld6.2.2.2.1, (hA7.cell (p := ⟨bo, y, none⟩) HBC.out.2.2).trans hHeld6.2.2.2.2⟩ (fun hHeld7 => ?_)
           clear hK K
           try simp only [Act.put, List.setIfInBounds_toArray]
           clear ho8 hg8 hat8 hP7 hownA hnw hGA hBA hbA hG5 hB5 hHeld hHeld6 hB7 hA7 HG HB
           refine wpAnyL_take (i := 24) (v := ?_) rfl (by kernel_rfl) (by kernel_rfl) (by kernel_rfl) (by kernel_rfl) (fun _ _ _ h => h) (Or.inl ⟨by rfl, ?_⟩) (by assumption) ?_
           rotate_left
           ·intro w hSw; (try dsimp only at hSw); go_simp; (try with_reducible rfl)
           try simp only [Act.put]
           refine wpAnyL_ready (rs := [25]) (by kernel_rfl) (by simp) ?_
           refine AllReadyL.last rfl (by kernel_rfl) (fun K hK => ?_)
           go_simp
           refine hK.out _ _ ?_
           clear hK K
           try simp only [Act.put, List.setIfInBounds_toArray, List.set_cons_zero, List.set_cons_succ]
           refine wpAnyL_done (by kernel_rfl) ?_ _
           clear hHeld7 c7 f7
           generalize w10.setCell ⟨h7, x, none⟩ (.slice a8 m8 k8) = w11 at *
           go_wp2
           exact ⟨⟨k + 1, svs.set x (.slice a8 m8 k8), by have := HKX.out; omega, by go_num, HP7.out, HB7.out⟩, by have := HKX.out; simp [intOf]; omega⟩
          ·obtain rfl : k = X.length := by omega
           have hkl : ¬ (X.length : Int) < (X.length : Int) := by omega
           have hvr : (v : Int) < (r.length : Int) := by omega
           rw [List.take_length, HSET.out] at hG
           have HG : Hid (Grp h7 (.slice (some ⟨h7, 0, none⟩) mo mo) svs (nmR Q r mo (v + 1)) wr) := hG
           have HB : Hid (Below h7 w8 wr) := hb
           clear hG hb hIx
           go_wp2
           exact ⟨⟨v + 1, svs, by omega, by go_num, HG.out, HB.out⟩, by simp [intOf]; omega⟩
        ·obtain rfl : v = mo := by omega
         have hvl : ¬ (v : Int) < (v : Int) := by omega
         have HG : Hid (Grp h7 (.slice (some ⟨h7, 0, none⟩) v v) svs (nmR Q r v v) wr) := hG
         have HB : Hid (Below w.heap.size w wr) := hbw
         have HXw : Hid (Blk 24 wr w.heap.size [.int .i64 (v : Int), .slice p l.length c]) := (hb.block _ (by omega)).trans HX8.out
         have HYw : Hid (Blk 24 wr w6.heap.size [.int .i64 (v : Int), .slice pg l2.length cg]) := (hb.block _ hYl).trans HY8.out
         have HB6w : Hid (Below w6.heap.size w6 wr) := HB68.out.trans (hb.mono hwA)
         have HSl : Hid ((nmR Q r v v).length = v) := nmR_len _ _ _ _
         have hS2 : SysR v l2 (nmR Q r v v) := by have h := nm_sys HNP.out HRG.out HS.out (nmR_full r HNP.out); rwa [HLL.out] at h
         have hP2 : planeK (numsL v l2 (nmR Q r v v)) = 0 := plane_from HR2.out hS2 (nm_plan HNP.out (plan_of HRG.out HS.out HP.out) (nmR_full r HNP.out) (sy_of HR2.out hS2))
         have hf := five_any v (by omega) l2 HR2.out (nmR Q r v v) hS2 hP2 (.slice pg l2.length cg) (.slice (some ⟨h7, 0, none⟩) v v) wr (HS6.out.go HB6w.out) (Grp.lsts hG)
         have d0 := HYw.out.cell (j := 0) rfl
         have d1 := HYw.out.cell (j := 1) rfl
         clear hG hb hbw hS2 hP2 HX8 HY8 HE8 HQ8 HB8 HB68 HSTP HXN HXL HG HSl
         go_wp2_with fail
         refine hf.mono ?_
         clear hf
         rintro e w12 ⟨g, C, rfl, hC, hCl, hchk, hb12⟩
         have HB12 : Hid (Below w.heap.size w w12) := HB.out.trans (hb12.mono HB.out.size)
         have HX12 : Hid (Blk 24 w12 w.heap.size [.int .i64 (v : Int), .slice p l.length c]) := HXw.out.go hb12
         have HY12 : Hid (Blk 24 w12 w6.heap.size [.int .i64 (v : Int), .slice pg l2.length cg]) := HYw.out.go hb12
         have HE12 : Hid (Below w6.heap.size w6 w12) := HB6w.out.trans (hb12.mono HB6w.out.size)
         have HC12 : Hid (Blk 3 w12 g (C.map (Value.int .i64))) := hC
         have HCL : Hid (C.length = v) := hCl
         have HCK : Hid (chkK (v : Int) l2 C 5 = 0) := hchk
         clear hC hCl hchk hb12 d0 d1 HB HXw HYw HB6w
         have d0 := HX12.out.cell (j := 0) rfl
         have d1 := HX12.out.cell (j := 1) rfl
         go_wp2_with fail
         refine wp_region_last (S := (fun w' : World => w'.cell? ⟨w.heap.size, 0, none⟩ = some (.int .i64 (v : Int)) ∧ w'.cell? ⟨w.heap.size, 1, none⟩ = some (.slice p l.length c))) (by kernel_rfl) ⟨d0, d1⟩ (fun hHeld => ?_)
         refine wpAnyL_take (i := 0) (v := ?_) rfl (by kernel_rfl) (by kernel_rfl) (by kernel_rfl) (by kernel_rfl) (fun _ _ _ h => h) (Or.inl ⟨by rfl, ?_⟩) (by assumption) ?_
         rotate_left
         ·intro w hSw; (try dsimp only at hSw); go_simp; (try with_reducible rfl)
         try simp only [Act.put, List.setIfInBounds_toArray]
         refine wpAnyL_take (i := 1) (v := ?_) rfl (by kernel_rfl) (by kernel_rfl) (by kernel_rfl) (by kernel_rfl) (fun _ _ _ h => h) (Or.inl ⟨by rfl, ?_⟩) (by assumption) ?_
         rotate_left
         ·intro w hSw; (try dsimp only at hSw); go_simp; (try with_reducible rfl)
         try simp only [Act.put]
         have hbd : Below w12.heap.size w12 w12.drew := below_drewN (Below.refl _ _) 1
         have hB13 := HB12.out.trans (hbd.mono HB12.out.size)
         have hm := refMirror_any r (by have := HRL.out; omega) (fun z hz => by
          obtain ⟨u, hu, rfl⟩ := List.mem_iff_getElem.1 hz
          have h1 := (HS.out.perm u (by have := HRL.out; omega)).length_eq
          have h2 := nb_len (u : Int) l
          have h3 := HM.out
          rw [List.getD_eq_getElem?_getD, List.getElem?_eq_getElem hu] at h1
          simp only [Option.getD_some] at h1
          omega) (.slice pr r.length cr) w12.drew (HR.out.go hB13)
         refine wpAnyL_ready (rs := [2]) (by kernel_rfl) (by simp) ?_
         refine AllReadyL.cons rfl (fun K hK => ?_) AllReadyL.nil
         go_simp
         refine hm.mono ?_
         clear hm
         rintro e w14 ⟨lv, svs2, rfl, hG14, hb14⟩
         refine hK.out _ _ ⟨cell_keepK hb14 hHeld.1, cell_keepK hb14 hHeld.2⟩ (fun hHeld14 => ?_)
         clear hK K
         try simp only [Act.put, List.setIfInBounds_toArray, List.set_cons_zero, List.set_cons_succ]
         have hB14 := hB13.trans (hb14.mono hB13.size)
         have hf := five_any v (by omega) l HRG.out (mirL r) (mir_sys HS.out) (by rw [mir_nums HRG.out HS.out]; exact HP.out) (.slice p l.length c) lv w14 (HL.out.go hB14) (Grp.lsts hG14)
         refine wpAnyL_ready (rs := [3]) (by kernel_rfl) (by simp) ?_
         refine AllReadyL.cons rfl (fun K hK => ?_) AllReadyL.nil
         go_simp
         refine hf.mono ?_
         clear hf
         rintro e w15 ⟨g2, C2, rfl, hC2, hCl2, hchk2, hb15⟩
         refine hK.out _ _ ⟨cell_keepK hb15 hHeld14.1, cell_keepK hb15 hHeld14.2⟩ (fun hHeld15 => ?_)
         clear hK K
         try simp only [Act.put, List.setIfInBounds_toArray, List.set_cons_zero, List.set_cons_succ]
         have hb125 : Below w12.heap.size w12 w15 := hbd.trans ((hb14.mono hbd.size).trans (hb15.mono (Nat.le_trans hbd.size hb14.size)))
         have HB15 : Hid (Below w.heap.size w w15) := hB14.trans (hb15.mono hB14.size)
         have HX15 : Hid (Blk 24 w15 w.heap.size [.int .i64 (v : Int), .slice p l.length c]) := HX12.out.go hb125
         have HY15 : Hid (Blk 24 w15 w6.heap.size [.int .i64 (v : Int), .slice pg l2.length cg]) := HY12.out.go hb125
         have HE15 : Hid (Below w6.heap.size w6 w15) := HE12.out.trans (hb125.mono HE12.out.size)
         have HC15 : Hid (Blk 3 w15 g (C.map (Value.int .i64))) := HC12.out.go hb125
         have HD15 : Hid (Blk 3 w15 g2 (C2.map (Value.int .i64))) := hC2
         have HDL : Hid (C2.length = v) := hCl2
         have HDK : Hid (chkK (v : Int) l C2 5 = 0) := hchk2
         clear hbd hB13 hG14 hb14 hB14 hC2 hCl2 hchk2 hb15 hb125 HB12 HX12 HY12 HE12 HC12 hHeld hHeld14 d0 d1
         refine wpAnyL_take (i := 4) (v := ?_) rfl (by kernel_rfl) (by kernel_rfl) (by kernel_rfl) (by kernel_rfl) (fun _ _ _ h => h) (Or.inl ⟨by rfl, ?_⟩) (by assumption) ?_
         rotate_left
         ·intro w hSw; (try dsimp only at hSw); go_simp; (try with_reducible rfl)
         try simp only [Act.put]
         refine wpAnyL_take (i := 5) (v := ?_) rfl (by kernel_rfl) (by kernel_rfl) (by kernel_rfl) (by kernel_rfl) (fun _ _ _ h => h) (Or.inl ⟨by rfl, ?_⟩) (by assumption) ?_
         rotate_left
         ·intro w hSw; (try dsimp only at hSw); go_simp; (try with_reducible rfl)
         try simp only [Act.put]
         refine wpAnyL_take (i := 6) (v := ?_) rfl (by kernel_rfl) (by kernel_rfl) (by kernel_rfl) (by kernel_rfl) (fun _ _ _ h => h) (Or.inl ⟨by rfl, ?_⟩) (by assumption) ?_
         rotate_left
         ·intro w hSw; (try dsimp only at hSw); go_simp; (try with_reducible rfl)
         try simp only [Act.put]
         refine wpAnyL_take (i := 7) (v := ?_) rfl (by kernel_rfl) (by kernel_rfl) (by kernel_rfl) (by kernel_rfl) (fun _ _ _ h => h) (Or.inl ⟨by rfl, ?_⟩) (by assumption) ?_
         rotate_left
         ·intro w hSw; (try dsimp only at hSw); go_simp; (try with_reducible rfl)
         try simp only [Act.put]
         refine wpAnyL_ready (rs := [8]) (by kernel_rfl) (by simp) ?_
         refine AllReadyL.last rfl (by kernel_rfl) (fun K hK => ?_)
         go_simp
         refine hK.out _ _ ?_
         clear hK K
         try simp only [Act.put, List.setIfInBounds_toArray, List.set_cons_zero, List.set_cons_succ]
         refine wpAnyL_done (by kernel_rfl) ?_ _
         clear hHeld15
         have d0 := HY15.out.cell (j := 0) rfl
         have d1 := HY15.out.cell (j := 1) rfl
         have e0 := HX15.out.cell (j := 0) rfl
         have e1 := HX15.out.cell (j := 1) rfl
         have hID : Ints w15.heap.size w15 (.slice (some ⟨g, 0, none⟩) v v) C := by have h := Blk.ints HC15.out; rw [HCL.out] at h; exact h
         have hck := refCheck_any (v : Int) l2 C (by rw [HCL.out]; omega) 5 (.slice pg l2.length cg) _ w15 (HS6.out.go HE15.out) hID
         rw [HCK.out] at hck
         go_wp2_with fail
         refine hck.mono ?_
         clear hck
         rintro e w16 ⟨rfl, hg16⟩
         have hb16 := hg16.below
         have HB16 : Hid (Below w.heap.size w w16) := HB15.out.trans (hb16.mono HB15.out.size)
         have HX16 : Hid (Blk 24 w16 w.heap.size [.int .i64 (v : Int), .slice p l.length c]) := HX15.out.go hb16
         have hD16 := Blk.go (vs := C2.map (Value.int .i64)) HD15.out hb16
         have hIE : Ints w16.heap.size w16 (.slice (some ⟨g2, 0, none⟩) v v) C2 := by have h := Blk.ints hD16; rw [HDL.out] at h; exact h
         have hck := refCheck_any (v : Int) l C2 (by rw [HDL.out]; omega) 5 (.slice p l.length c) _ w16 (HL.out.go HB16.out) hIE
         rw [HDK.out] at hck
         clear hID d0 d1 e0 e1 HB15 HX15 HY15 HE15 HC15 HD15 hD16 hIE hg16 hb16
         have e0 := HX16.out.cell (j := 0) rfl
         have e1 := HX16.out.cell (j := 1) rfl
         go_wp2_with fail
         refine hck.mono ?_
         clear hck
         rintro e w17 ⟨rfl, hg17⟩
         have HB17 : Hid (Below w.heap.size w w17) := HB16.out.trans (hg17.below.mono HB16.out.size)
         clear hg17 e0 e1
         go_wp2_with fail
         refine (alive_any w17).mono ?_
         rintro e w18 ⟨rfl, hb18⟩
         have HB18 : Hid (Below w.heap.size w w18) := HB17.out.trans (hb18.mono HB17.out.size)
         clear hb18
         go_wp2
         go_ret
         exact ⟨rfl, HB18.out⟩
end Go.Proofs.YtjpkojmjiaoifaaGreat

namespace Go.Proofs.YtjpkojmjiaoifaaGreat.colourNames
open Go Go.ChangeShapes Go.WideShapes Go.ChangeAt Go.RowKit
set_option maxRecDepth 100000 in
set_option maxHeartbeats 1000000 in
theorem lifted (os : Os) (started : os.Started) (H : Type) (enc : TypeId × Value → H) :
  ReturnsInHanded {} Tryz.checked os 4 .any (Rows.colourNamesSpec.pre6 enc Tryz.prog Tryz.f4 Rows.colourNamesRow.domain false) (Rows.colourNamesSpec.post enc Tryz.prog Tryz.f4 false true false false) := by
 refine returnsInHanded_of_change (C := Tryz.checked) own started (by kernel_rfl) Tryz.func4
  (ChangeSpec.witness6 (enc := enc) (C := Tryz.checked) false ⟨#[], #[.agg #[.int .i64 0, .slice none 0 0], .slice none 0 0, .slice none 0 0, .slice none 0 0], []⟩ 8 (by kernel_rfl) (by kernel_rfl) (by kernel_rfl) (by kernel_rfl)) ?_
 intro W base args ds gs before hval0 hW hcnd _
 have hval : ∀ (j : Nat) t v, Tryz.f4.params[j]? = some t → args[j]? = some v → Value.okWide Tryz.prog W .any base t v := hval0
 have hW' := hW
 obtain ⟨p, q, hA0, hV, rfl, hfz, hnd⟩ := hW
 have hA : DataW.TrodAll enc Tryz.prog W 0 (fun _ => true) true Tryz.f4.params.toList args.toList ds p := hA0
 rw [Tryz.params4] at hA hval
 obtain ⟨v0, vs0, d0, ds0, p0, q0, hargs, rfl, rfl, h0, r0⟩ := trodAll_cons hA
 obtain ⟨v1, vs1, d1, ds1, p1, q1, rfl, rfl, rfl, h1, r1⟩ := trodAll_cons r0
 obtain ⟨v2, vs2, d2, ds2, p2, q2, rfl, rfl, rfl, h2, r2⟩ := trodAll_cons r1
 obtain ⟨v3, vs3, d3, ds3, p3, q3, rfl, rfl, rfl, h3, r3⟩ := trodAll_cons r2
 obtain ⟨rfl, rfl, rfl⟩ := trodAll_nil r3
 obtain rfl : args = #[v0, v1, v2, v3] := by cases args; simp_all
 obtain ⟨rfl, rfl⟩ := trodVars_none hV
 have k0 := h0
 have lt0 : ∀ x ∈ p0, x.block < W.heap.size := by obtain ⟨m, hm⟩ := k0; exact DataW.trod_lt m _ _ _ hm
 have k1 := h1
 have lt1 : ∀ x ∈ p1, x.block < W.heap.size := by obtain ⟨m, hm⟩ := k1; exact DataW.trod_lt m _ _ _ hm
 have k2 := h2
 have lt2 : ∀ x ∈ p2, x.block < W.heap.size := by obtain ⟨m, hm⟩ := k2; exact DataW.trod_lt m _ _ _ hm
 have k3 := h3
 have lt3 : ∀ x ∈ p3, x.block < W.heap.size := by obtain ⟨m, hm⟩ := k3; exact DataW.trod_lt m _ _ _ hm
 obtain ⟨n0, s0, l0, rfl, e0⟩ := graph_in (hval 0 24 v0 rfl rfl) h0
 obtain ⟨l1, e1, m1, x1⟩ := lsts_in (hval 1 25 v1 rfl rfl) h1
 obtain ⟨l2, e2⟩ := ints_in (hval 2 28 v2 rfl rfl) h2
 obtain ⟨l3, e3⟩ := ints_in (hval 3 28 v3 rfl rfl) h3
 clear hA0 hval0
 refine (colourNames_law n0 l0 l1 m1 l2 l3 _ _ _ _ W e0 e1 e2 e3).mono fun e W' ⟨he, bel⟩ => ?_
 subst he
 exact ⟨_, rfl, _, _, _, [], _, [], hW', trodAll_mk1 (shut_bool Tryz.underlying4 _), (trodAll_cons_mk (Below.trod laidOut (by kernel_rfl) (of_decide_eq_true (by kernel_rfl)) k0 bel lt0) (trodAll_cons_mk (Below.trod laidOut (by kernel_rfl) (of_decide_eq_true (by kernel_rfl)) k1 bel lt1) (trodAll_cons_mk (Below.trod laidOut (by kernel_rfl) (of_decide_eq_true (by kernel_rfl)) k2 bel lt2) (trodAll_cons_mk (Below.trod laidOut (by kernel_rfl) (of_decide_eq_true (by kernel_rfl)) k3 bel lt3) trodAll_mk0)))), rfl, bel.frame _, fun h => by cases h⟩
end Go.Proofs.YtjpkojmjiaoifaaGreat.colourNames
namespace Go.Proofs.YtjpkojmjiaoifaaGreat
open Go
theorem colourNames_holds : Rows.ColourNamesSaid :=
 OpenClaim.holds_of_wide 4 Tryz.f4 rfl rfl rfl rfl rfl rfl rfl ⟨rfl, rfl, rfl, rfl, rfl⟩ rfl rfl rfl rfl rfl (by kernel_rfl) Tryz.func4 (by kernel_rfl)
  (of_decide_eq_true (by kernel_rfl)) (by unfold Func.isWrapper; first | (rw [if_pos (by decide +kernel)]; kernel_rfl) | (rw [if_neg (by decide +kernel)]; exact ⟨rfl, rfl⟩))
  (fun os started H enc _ => colourNames.lifted os started H enc)
#print axioms colourNames_holds
end Go.Proofs.YtjpkojmjiaoifaaGreat
