import Derived.Laws.CopyOwn
import Derived.Test.YtjpkojmjiaoifaaGreatZAG
import Derived.Test.YtjpkojmjiaoifaaGreatZAC
import Derived.Test.YtjpkojmjiaoifaaGreatZAA
import Derived.ProofKit
import Derived.Test.YtjpkojmjiaoifaaGreatXPGather
import Derived.Test.YtjpkojmjiaoifaaGreatXPGrp
import Derived.Deep.QuietTactic
import Derived.BigQuiet
namespace Go.Proofs.YtjpkojmjiaoifaaGreat
open Go Go.Proofs Go.RowKit
def repH (n j : Nat) (v : Int) : List Value := List.replicate j (.int .i64 v) ++ List.replicate (n - j) (.int .i64 0)
theorem repH_len {n j : Nat} (h : j ≤ n) (v : Int) : (repH n j v).length = n := by simp [repH]; omega
theorem repH_zero (n : Nat) (v : Int) : repH n 0 v = List.replicate n (.int .i64 0) := by simp [repH]
theorem repH_full (n : Nat) (v : Int) : repH n n v = List.replicate n (.int .i64 v) := by simp [repH]
theorem repH_splice {n j m : Nat} (h : j + m ≤ n) (v : Int) : splice (repH n j v) j (List.replicate m (.int .i64 v)) = repH n (j + m) v := by
 unfold splice repH
 apply List.ext_getElem?
 intro i
 rw [List.take_append, List.drop_append]
 simp only [List.length_replicate]
 rw [Nat.sub_self, List.take_zero, List.append_nil, List.take_of_length_le (by simp)]
 rw [List.drop_of_length_le (by simp), List.nil_append, List.drop_replicate]
 rw [← List.append_assoc, List.replicate_append_replicate]
 congr 3
 omega
theorem infoI1 : (Tryz.prog.info? 3).map (·.size) = some 1 := by kernel_rfl
theorem rep_row {w3 : World} {base g n : Nat} (v : Int) (hown : w3.ownsRow base 3 1 (.slice (some ⟨g, 0, none⟩) n n) n (madeCells (Value.int .i64 0).cells (n * 1)).toList) : w3.heap[g]? = some (.cells (repH n 0 v).toArray 3 (0, 0)) := by
 have h1 := Blk.made hown
 rw [ints_made, List.map_replicate, ← repH_zero n v] at h1
 exact h1
theorem rep_src {w3 : World} {b m g off o : Nat} {v : Int} (hc : ∀ j, j < m → w3.cell? ⟨b, o + j, none⟩ = some (.int .i64 v)) : 0 < (List.replicate m (Value.int .i64 v)).length → (some ⟨g, off, none⟩ : Option Addr) = some ⟨g, off, none⟩ ∧ ∃ ad, (some ⟨b, o, none⟩ : Option Addr) = some ad ∧ ∀ j u, (List.replicate m (Value.int .i64 v))[j]? = some u → w3.cell? (ad.add j) = some u := fun _ => ⟨rfl, _, rfl, fun j u hu => by
 have hj := (List.getElem?_eq_some_iff.1 hu).1
 rw [List.length_replicate] at hj
 rw [List.eq_of_mem_replicate (List.mem_of_getElem? hu), Go.WideShapes.add_plain]
 exact hc j hj⟩
theorem rep_fit {n j m : Nat} {v : Int} (h : j + m ≤ n) : j + (List.replicate m (Value.int .i64 v)).length ≤ (repH n j v).length := by
 rw [repH_len (by omega), List.length_replicate]
 exact h
theorem rep_one (m : Nat) (v : Int) : ∀ u ∈ List.replicate m (Value.int .i64 v), u.oneCell' = true := fun u hu => by rw [List.eq_of_mem_replicate hu]; rfl
theorem rep_one_src {w3 : World} {b : Nat} {v : Int} (h : w3.cell? ⟨b, 0, none⟩ = some (.int .i64 v)) : ∀ j u, [Value.int .i64 v][j]? = some u → w3.cell? ((⟨b, 0, none⟩ : Addr).add j) = some u := fun j u hu => by
 have hj := (List.getElem?_eq_some_iff.1 hu).1
 have hj0 : j = 0 := by simpa using hj
 subst hj0
 rw [Go.WideShapes.add_plain]
 cases hu
 exact h
theorem repH_first {n : Nat} (h : 0 < n) (v : Int) : Value.int .i64 v :: (repH n 0 v).tail = repH n 1 v := by
 obtain ⟨m, rfl⟩ : ∃ m, n = m + 1 := ⟨n - 1, by omega⟩
 simp [repH, List.replicate_succ]
theorem repH_at {n j i : Nat} {v : Int} (h : i < j) : (repH n j v)[i]? = some (.int .i64 v) := by
 unfold repH
 rw [List.getElem?_append_left (by simpa using h), List.getElem?_replicate, if_pos h]
set_option maxRecDepth 100000 in
set_option maxHeartbeats 4000000 in
theorem repeat_any (v : Int) (n : Nat) (hn : n ≤ 8388608) (b : Nat) (w : World) (hb : w.cell? ⟨b, 0, none⟩ = some (.int .i64 v)) :
  Calls Tryz.prog 53 #[.slice (some ⟨b, 0, none⟩) 1 1, .int .i64 (n : Int)] w fun e w' => ∃ g, e = .returned (.slice (some ⟨g, 0, none⟩) n n) ∧ w.heap.size ≤ g ∧ Blk 3 w' g (List.replicate n (.int .i64 v)) ∧ Below w.heap.size w w' := by
 obtain ⟨i0, hi, hz0, hz1, hz2⟩ := info_parts infoI
 have hmul := Tryz.bits_Mul 1 n (by decide) (by omega) w
 rw [Nat.one_mul, Nat.div_eq_of_lt (by omega), Nat.mod_eq_of_lt (by omega)] at hmul
 have hn0 : ¬ (n : Int) < 0 := by omega
 go_enter Tryz.func53, Tryz.ntmps53
 go_wp2_with fail
 refine hmul.mono ?_
 clear hmul
 rintro e w2 ⟨rfl, rfl⟩
 have hnb : decide ((9223372036854775807 : Int) < (n : Int)) = false := decide_eq_false (by omega)
 have hbl := World.block_lt_of_cell? w2 _ hb
 by_cases hz : n = 0
 ·subst hz
  go_wp2_with (at_make; refine wpList_make_full _ rfl _ _ 28 rfl w2.heap.size 3 i0 (.int .i64 0) 1 Tryz.underlying28 hi hz0 hz1 .i64 .i64 _ _ 0 rfl rfl rfl rfl (by rw [hz2]; omega) (by unfold maxLen; omega) (Nat.le_refl _) ?_; intro w3 hown hgrow; have hb3 : Below w2.heap.size w2 w3 := (Below.refl _ _).grown hgrow (Nat.le_refl _) (fun k e => by cases e); have HB3 : Hid (Below w2.heap.size w2 w3) := hb3; have HRW : Hid _ := rep_row v hown; have hcp := run_copy_none (P := Tryz.prog) w3 28 28 3 3 (some ⟨w2.heap.size, 0, none⟩) (some ⟨b, 0, none⟩) 0 0 1 1 Tryz.underlying28 infoI1 rfl; clear hown hgrow hb3)
  go_wp2
  clear hcp
  go_loopw [8] (fun jv wr => jv = .int .i64 0 ∧ Hid (wr.heap[w2.heap.size]? = some (.cells (repH 0 0 v).toArray 3 (0, 0))) ∧ Below w2.heap.size w2 wr) (fun _ _ => 0)
  case atStart => exact ⟨rfl, HRW, HB3.out⟩
  case round =>
   obtain ⟨rfl, HRJ, hbj⟩ := hrel
   have HRF : Hid (Blk 3 wr w2.heap.size (List.replicate 0 (.int .i64 v))) := HRJ.out
   have HB : Hid (Below w2.heap.size w2 wr) := hbj
   clear HRJ hbj
   go_wp2
   go_ret
   exact ⟨w2.heap.size, rfl, Nat.le_refl _, HRF.out, HB.out⟩
 ·have hmn : Nat.min 1 n = 1 := Nat.min_eq_left (by omega)
  have HMN : Hid _ := hmn
  clear hmn
  go_wp2_with (at_make; refine wpList_make_full _ rfl _ _ 28 rfl w2.heap.size 3 i0 (.int .i64 0) 1 Tryz.underlying28 hi hz0 hz1 .i64 .i64 _ _ n rfl rfl rfl rfl (by rw [hz2]; omega) (by unfold maxLen; omega) (Nat.le_refl _) ?_; intro w3 hown hgrow; have hb3 : Below w2.heap.size w2 w3 := (Below.refl _ _).grown hgrow (Nat.le_refl _) (fun k e => by cases e); have HB3 : Hid (Below w2.heap.size w2 w3) := hb3; have HRW : Hid _ := rep_row v hown; have hcp := run_copy_row (P := Tryz.prog) w3 28 28 3 3 w2.heap.size 0 n n ⟨b, 0, none⟩ 1 1 (repH n 0 v).toArray 3 [.int .i64 v] Tryz.underlying28 infoI1 HRW.out HMN.out.symm (rep_one_src ((hb3.cell (p := ⟨b, 0, none⟩) hbl).trans hb)) (by rw [List.size_toArray, repH_len (Nat.zero_le _)]; simp; omega) (rep_one 1 v); clear hown hgrow hb3)
  obtain ⟨w4, hw4⟩ : ∃ W, w3.setRow w2.heap.size (Value.int .i64 v :: (repH n 0 v).tail).toArray = W := ⟨_, rfl⟩
  have HR4 : Hid (w4.heap[w2.heap.size]? = some (.cells (repH n 1 v).toArray 3 (0, 0))) := by
   rw [← hw4, ← repH_first (by omega) v]
   exact setRow_heap w3 w2.heap.size _ _ 3 (0, 0) HRW.out
  have HB4 : Hid (Below w2.heap.size w2 w4) := by
   rw [← hw4]
   exact below_setRow HB3.out (Nat.le_refl _) _
  rw [hw4]
  clear hw4 hcp
  go_loopw [8] (fun jv wr => ∃ j : Nat, j ≤ n ∧ (0 < n → 0 < j) ∧ jv = .int .i64 j ∧ Hid (wr.heap[w2.heap.size]? = some (.cells (repH n j v).toArray 3 (0, 0))) ∧ Below w2.heap.size w2 wr) (fun jv _ => n - (intOf jv).toNat)
  case atStart => exact ⟨1, by omega, fun _ => by omega, rfl, HR4, HB4.out⟩
  case round =>
   obtain ⟨j, hj, hjp, rfl, HRJ, hbj⟩ := hrel
   by_cases hlt : j < n
   ·have hjl : (j : Int) < ((n : Nat) : Int) := by omega
    have hj0 := hjp (by omega)
    have hm1 : Nat.min j (n - j) ≤ n - j := Nat.min_le_right _ _
    have hm2 : Nat.min j (n - j) ≤ j := Nat.min_le_left _ _
    have hm3 : 0 < Nat.min j (n - j) := Nat.lt_min.2 ⟨hj0, by omega⟩
    have HMM : Hid _ := And.intro hm1 (And.intro hm2 hm3)
    have HSP : Hid _ := repH_splice (n := n) (j := j) (m := Nat.min j (n - j)) (by omega) v
    have HLN : Hid ((List.replicate (Nat.min j (n - j)) (Value.int .i64 v)).length = Nat.min j (n - j)) := List.length_replicate ..
    have HB : Hid (Below w2.heap.size w2 wr) := hbj
    have HFT : Hid _ := rep_fit (n := n) (j := j) (m := Nat.min j (n - j)) (v := v) (by omega)
    have HSR : Hid (∀ i, i < Nat.min j (n - j) → wr.drew.cell? ⟨w2.heap.size, 0 + i, none⟩ = some (.int .i64 v)) := fun i hi => by
     have h1 : Blk 3 wr w2.heap.size (repH n j v) := HRJ.out
     rw [Nat.zero_add]
     exact h1.cell (repH_at (by omega))
    have HLT : Hid (j < n) := hlt
    clear hbj hjp hm1 hm2 hm3
    go_wp2_with fail
    refine wp_region_held_drew (S := (fun _ : World => True)) (by kernel_rfl) trivial (fun hHeld => ?_)
    refine wpAnyH_take (i := 0) (v := ?_) rfl (by kernel_rfl) (by kernel_rfl) (by kernel_rfl) (fun _ _ _ h => h) (Or.inl ⟨by rfl, ?_⟩) (by assumption) ?_
    rotate_left
    ·intro w hSw; (try dsimp only at hSw); go_simp; (try with_reducible rfl)
    try simp only [Act.put, List.setIfInBounds_toArray]
    refine wpAnyH_take (i := 1) (v := ?_) rfl (by kernel_rfl) (by kernel_rfl) (by kernel_rfl) (fun _ _ _ h => h) (Or.inl ⟨by rfl, ?_⟩) (by assumption) ?_
    rotate_left
    ·intro w hSw; (try dsimp only at hSw); go_simp; (try with_reducible rfl)
    try simp only [Act.put]
    refine wpAnyH_take (i := 2) (v := ?_) rfl (by kernel_rfl) (by kernel_rfl) (by kernel_rfl) (fun _ _ _ h => h) (Or.inl ⟨by rfl, ?_⟩) (by assumption) ?_
    rotate_left
    ·intro w hSw; (try dsimp only at hSw); go_simp; (try with_reducible rfl)
    try simp only [Act.put]
    refine wpAnyH_take (i := 3) (v := ?_) rfl (by kernel_rfl) (by kernel_rfl) (by kernel_rfl) (fun _ _ _ h => h) (Or.inl ⟨by rfl, ?_⟩) (by assumption) ?_
    rotate_left
    ·intro w hSw; (try dsimp only at hSw); go_simp; (try with_reducible rfl)
    try simp only [Act.put]
    try simp only [List.getElem_toArray, List.getElem_cons_zero, List.getElem_cons_succ, List.setIfInBounds_toArray, List.set_cons_zero, List.set_cons_succ]
    refine wpAnyH_take (i := 4) (v := ?_) rfl (by kernel_rfl) (by kernel_rfl) (by kernel_rfl) (fun _ _ _ h => h) (Or.inl ⟨by rfl, ?_⟩) (by assumption) ?_
    rotate_left
    ·intro w hSw; (try dsimp only at hSw); go_simp; (try with_reducible rfl)
    try simp only [Act.put]
    refine wpAnyH_take (i := 5) (v := ?_) rfl (by kernel_rfl) (by kernel_rfl) (by kernel_rfl) (fun _ _ _ h => h) (Or.inl ⟨by rfl, ?_⟩) (by assumption) ?_
    rotate_left
    ·intro w hSw; (try dsimp only at hSw); go_simp; (try with_reducible rfl)
    try simp only [Act.put]
    refine wpAnyH_take (i := 6) (v := ?_) rfl (by kernel_rfl) (by kernel_rfl) (by kernel_rfl) (fun _ _ _ h => h) (Or.inl ⟨by rfl, ?_⟩) (by assumption) ?_
    rotate_left
    ·intro w hSw; (try dsimp only at hSw); go_simp; (try with_reducible rfl)
    try simp only [Act.put]
    try simp only [List.getElem_toArray, List.getElem_cons_zero, List.getElem_cons_succ, List.setIfInBounds_toArray, List.set_cons_zero, List.set_cons_succ]
    refine wpAnyH_ready (rs := [7]) (by kernel_rfl) (by simp) ?_
    refine AllReadyH.cons rfl (fun K hK => ?_) AllReadyH.nil
    refine step_copy_splice rfl _ _ 28 28 rfl 3 Tryz.underlying28 infoI1 (some ⟨w2.heap.size, j, none⟩) (some ⟨w2.heap.size, 0, none⟩) (n - j) (n - j) j n ?hd ?hs w2.heap.size j (repH n j v) 3 HRJ.out (List.replicate (Nat.min j (n - j)) (.int .i64 v)) HLN.out (rep_src HSR.out) HFT.out (rep_one _ v) w2.heap.size w2 (below_drewN HB.out 1) (Nat.le_refl _) ?_
    case hd =>
     show Value.slice (if n = j then some _ else some _) _ _ = _
     rw [if_neg (by have := HLT.out; omega)]
    case hs => rfl
    intro w5 hr5 hb5
    rw [HLN.out]
    have HR5 : Hid (w5.heap[w2.heap.size]? = some (.cells (repH n (j + Nat.min j (n - j)) v).toArray 3 (0, 0))) := by
     have h1 := hr5.out
     rw [HSP.out] at h1
     exact h1
    have HB5 : Hid (Below w2.heap.size w2 w5) := hb5
    refine hK.out _ _ trivial (fun _ => ?_)
    clear hK K hr5 hb5 HSP HLN HFT HSR HRJ HB hHeld
    have hmm := HMM.out
    clear HMM
    generalize Nat.min j (n - j) = m at *
    obtain ⟨hm1, hm2, hm3⟩ := hmm
    have hwr := wrap_i ((j : Int) + (m : Int)) (by omega) (by have := HLT.out; omega)
    try simp only [Act.put, List.setIfInBounds_toArray]
    refine wpAnyH_take (i := 8) (v := ?_) rfl (by kernel_rfl) (by kernel_rfl) (by kernel_rfl) (fun _ _ _ h => h) (Or.inl ⟨by rfl, ?_⟩) (by assumption) ?_
    rotate_left
    ·intro w hSw; (try dsimp only at hSw); go_simp; (try with_reducible rfl)
    try simp only [Act.put]
    refine wpAnyH_take (i := 9) (v := ?_) rfl (by kernel_rfl) (by kernel_rfl) (by kernel_rfl) (fun _ _ _ h => h) (Or.inl ⟨by rfl, ?_⟩) (by assumption) ?_
    rotate_left
    ·intro w hSw; (try dsimp only at hSw); go_simp; (try with_reducible rfl)
    try simp only [Act.put]
    refine wpAnyH_done (by kernel_rfl) ?_ _
    go_wp2
    have hlt2 := HLT.out
    exact ⟨⟨j + m, by omega, fun _ => by omega, by go_num, HR5, HB5.out⟩, by simp [intOf]; omega⟩
   ·have hjn : j = n := by omega
    have hjl : ¬ (j : Int) < ((n : Nat) : Int) := by omega
    have HRF : Hid (Blk 3 wr w2.heap.size (List.replicate n (.int .i64 v))) := by
     have h1 := HRJ.out
     rw [hjn, repH_full] at h1
     exact h1
    clear hjn
    have HB : Hid (Below w2.heap.size w2 wr) := hbj
    clear HRJ hbj hjp
    go_wp2
    go_ret
    exact ⟨w2.heap.size, rfl, Nat.le_refl _, HRF.out, HB.out⟩
end Go.Proofs.YtjpkojmjiaoifaaGreat

namespace Go.Proofs.YtjpkojmjiaoifaaGreat
open Go Go.Proofs
def linkOf (v : Int) : Nat → List Ed → List (Int × Int)
 | _, [] => []
 | p, e :: l => (if e.1 = v then [(e.2.1, (p : Int))] else if e.2.1 = v then [(e.1, (p : Int))] else []) ++ linkOf v (p + 1) l
def linksL (N : Nat) (l : List Ed) : List (List (Int × Int)) := (List.range N).map fun (v : Nat) => linkOf (v : Int) 0 l
structure Stp where
 v : Int
 by_ : Int
 next : Nat
 low : Int
 opn : Nat
structure WS where
 root : List Int
 from_ : List Int
 depth : List Int
 block : List Int
 path : List Stp
 opn : List Int
def at_ (l : List Int) (v : Int) : Int := l.getD v.toNat 0
def lookW (s : WS) (init : List Stp) (top : Stp) (lk : Int × Int) : WS :=
 if at_ s.depth lk.1 < 0 then { s with root := s.root.set lk.1.toNat (at_ s.root top.v), from_ := s.from_.set lk.1.toNat top.v, depth := s.depth.set lk.1.toNat (at_ s.depth top.v + 1), path := init ++ [top] ++ [⟨lk.1, lk.2, 0, at_ s.depth top.v, s.opn.length⟩] }
 else if at_ s.depth lk.1 < at_ s.depth top.v then { s with path := init ++ [{ top with low := min top.low (at_ s.depth lk.1) }], opn := s.opn ++ [lk.2] }
 else { s with path := init ++ [top] }
def leaveW (s : WS) (init : List Stp) (last : Stp) : WS :=
 match init.getLast? with
 | none => { s with path := [] }
 | some top => if last.low < at_ s.depth top.v then { s with path := init.dropLast ++ [{ top with low := min top.low last.low }] }
  else { s with path := init, block := (s.opn.drop last.opn).foldl (fun b p => b.set p.toNat last.by_) s.block, opn := s.opn.take last.opn }
def stepW (lk : List (List (Int × Int))) (s : WS) : WS :=
 match s.path.getLast? with
 | none => s
 | some top => if top.next = (lk.getD top.v.toNat []).length then leaveW s s.path.dropLast top else lookW s s.path.dropLast { top with next := top.next + 1 } ((lk.getD top.v.toNat []).getD top.next (0, 0))
def runW (lk : List (List (Int × Int))) : Nat → WS → WS
 | 0, s => s
 | k + 1, s => runW lk k (stepW lk s)
def startW (lk : List (List (Int × Int))) (fuel : Nat) (s : WS) (r : Nat) : WS :=
 if 0 ≤ s.depth.getD r 0 then s else runW lk fuel { s with root := s.root.set r (r : Int), from_ := s.from_.set r (-1), depth := s.depth.set r 0, path := s.path ++ [⟨(r : Int), -1, 0, 0, 0⟩] }
def freshW (N M : Nat) : WS := ⟨List.replicate N 0, List.replicate N 0, List.replicate N (-1), List.replicate M 0, [], []⟩
def walkW (N : Nat) (l : List Ed) : WS := (List.range N).foldl (startW (linksL N l) (4 * (N + l.length) + 4)) (freshW N l.length)
end Go.Proofs.YtjpkojmjiaoifaaGreat

namespace Go.Proofs.YtjpkojmjiaoifaaGreat
open Go Go.Proofs Go.RowKit
def encS (t : Stp) : List Value := [.int .i64 t.v, .int .i64 t.by_, .int .i64 (t.next : Int), .int .i64 t.low, .int .i64 (t.opn : Int)]
def flatP (P : List Stp) : List Value := P.flatMap encS
theorem flatP_len : ∀ P : List Stp, (flatP P).length = P.length * 5
 | [] => rfl
 | t :: P => by
  have := flatP_len P
  simp only [flatP, List.flatMap_cons, List.length_append, List.length_cons] at this ⊢
  have h : (encS t).length = 5 := rfl
  omega
theorem flatP_app (P Q : List Stp) : flatP (P ++ Q) = flatP P ++ flatP Q := by simp [flatP]
structure Lay where
 N : Nat
 M : Nat
 wb : Nat
 rb : Nat
 fb : Nat
 db : Nat
 kb : Nat
 h0 : Nat
structure LayOK (a : Lay) : Prop where
 w0 : a.wb < a.h0
 r0 : a.rb < a.h0
 f0 : a.fb < a.h0
 d0 : a.db < a.h0
 k0 : a.kb < a.h0
 wr : a.wb ≠ a.rb
 wf : a.wb ≠ a.fb
 wd : a.wb ≠ a.db
 wk : a.wb ≠ a.kb
 rf : a.rb ≠ a.fb
 rd : a.rb ≠ a.db
 rk : a.rb ≠ a.kb
 fd : a.fb ≠ a.db
 fk : a.fb ≠ a.kb
 dk : a.db ≠ a.kb
def cellsW (a : Lay) (lv pv ov : Value) : List Value := [lv, .slice (some ⟨a.rb, 0, none⟩) a.N a.N, .slice (some ⟨a.fb, 0, none⟩) a.N a.N, .slice (some ⟨a.db, 0, none⟩) a.N a.N, .slice (some ⟨a.kb, 0, none⟩) a.M a.M, pv, ov]
structure WB (a : Lay) (lv pv ov : Value) (s : WS) (W : World) : Prop where
 blk : Blk 115 W a.wb (cellsW a lv pv ov)
 root : Blk 3 W a.rb (s.root.map (Value.int .i64))
 frm : Blk 3 W a.fb (s.from_.map (Value.int .i64))
 dep : Blk 3 W a.db (s.depth.map (Value.int .i64))
 bls : Blk 3 W a.kb (s.block.map (Value.int .i64))
 way : W.ownsRow a.h0 149 5 pv s.path.length (flatP s.path)
 opn : W.ownsRow a.h0 3 1 ov s.opn.length (s.opn.map (Value.int .i64))
theorem WB.go {a : Lay} {lv pv ov : Value} {s : WS} {A B : World} (h : WB a lv pv ov s A) (hb : Below A.heap.size A B) : WB a lv pv ov s B := by
 have hk : ∀ {e : TypeId} {size : Nat} {v : Value} {n : Nat} {xs : List Value}, A.ownsRow a.h0 e size v n xs → B.ownsRow a.h0 e size v n xs := fun {e size v n xs} ho => by
  refine owns_keep ho (grown_below' hb none) ?_
  cases v.ownBlock with
  | none => exact .inl rfl
  | some k => exact .inr (by simp)
 exact ⟨h.blk.go hb, h.root.go hb, h.frm.go hb, h.dep.go hb, h.bls.go hb, hk h.way, hk h.opn⟩
theorem WB.setRoot {a : Lay} {lv pv ov : Value} {s : WS} {W : World} (h : WB a lv pv ov s W) (hL : LayOK a) (i : Nat) (x : Int) : WB a lv pv ov { s with root := s.root.set i x } (W.setCell ⟨a.rb, i, none⟩ (.int .i64 x)) := by
 have hr := h.root.set i (.int .i64 x)
 rw [← List.map_set] at hr
 exact ⟨h.blk.other hL.wr _, hr, h.frm.other (Ne.symm hL.rf) _, h.dep.other (Ne.symm hL.rd) _, h.bls.other (Ne.symm hL.rk) _, owns_lowset h.way hL.r0 _, owns_lowset h.opn hL.r0 _⟩
theorem WB.setFrom {a : Lay} {lv pv ov : Value} {s : WS} {W : World} (h : WB a lv pv ov s W) (hL : LayOK a) (i : Nat) (x : Int) : WB a lv pv ov { s with from_ := s.from_.set i x } (W.setCell ⟨a.fb, i, none⟩ (.int .i64 x)) := by
 have hr := h.frm.set i (.int .i64 x)
 rw [← List.map_set] at hr
 exact ⟨h.blk.other hL.wf _, h.root.other hL.rf _, hr, h.dep.other (Ne.symm hL.fd) _, h.bls.other (Ne.symm hL.fk) _, owns_lowset h.way hL.f0 _, owns_lowset h.opn hL.f0 _⟩
theorem WB.setDepth {a : Lay} {lv pv ov : Value} {s : WS} {W : World} (h : WB a lv pv ov s W) (hL : LayOK a) (i : Nat) (x : Int) : WB a lv pv ov { s with depth := s.depth.set i x } (W.setCell ⟨a.db, i, none⟩ (.int .i64 x)) := by
 have hr := h.dep.set i (.int .i64 x)
 rw [← List.map_set] at hr
 exact ⟨h.blk.other hL.wd _, h.root.other hL.rd _, h.frm.other hL.fd _, hr, h.bls.other (Ne.symm hL.dk) _, owns_lowset h.way hL.d0 _, owns_lowset h.opn hL.d0 _⟩
theorem WB.setBlock {a : Lay} {lv pv ov : Value} {s : WS} {W : World} (h : WB a lv pv ov s W) (hL : LayOK a) (i : Nat) (x : Int) : WB a lv pv ov { s with block := s.block.set i x } (W.setCell ⟨a.kb, i, none⟩ (.int .i64 x)) := by
 have hr := h.bls.set i (.int .i64 x)
 rw [← List.map_set] at hr
 exact ⟨h.blk.other hL.wk _, h.root.other hL.rk _, h.frm.other hL.fk _, h.dep.other hL.dk _, hr, owns_lowset h.way hL.k0 _, owns_lowset h.opn hL.k0 _⟩
end Go.Proofs.YtjpkojmjiaoifaaGreat

namespace Go.Proofs.YtjpkojmjiaoifaaGreat
open Go Go.Proofs Go.RowKit
theorem WB.top {a : Lay} {lv ov : Value} {s : WS} {W : World} {pb cap : Nat} {init : List Stp} {top : Stp} (h : WB a lv (.slice (some ⟨pb, 0, none⟩) s.path.length cap) ov s W) (hp : s.path = init ++ [top]) :
  W.cell? ⟨pb, init.length * 5, none⟩ = some (.int .i64 top.v) ∧ W.cell? ⟨pb, init.length * 5 + 1, none⟩ = some (.int .i64 top.by_) ∧ W.cell? ⟨pb, init.length * 5 + 2, none⟩ = some (.int .i64 (top.next : Int)) ∧ W.cell? ⟨pb, init.length * 5 + 3, none⟩ = some (.int .i64 top.low) ∧ W.cell? ⟨pb, init.length * 5 + 4, none⟩ = some (.int .i64 (top.opn : Int)) := by
 have hl : s.path.length = init.length + 1 := by rw [hp]; simp
 have hx : flatP s.path = flatP init ++ encS top := by rw [hp, flatP_app]; simp [flatP]
 have hfl := flatP_len init
 have at5 : ∀ (j : Nat) (u : Value), (encS top)[j]? = some u → W.cell? ⟨pb, init.length * 5 + j, none⟩ = some u := fun j u hu => by
  have hj := (List.getElem?_eq_some_iff.1 hu).1
  have h5 : (encS top).length = 5 := rfl
  have := h.way.cellAt (init.length * 5 + j) (by omega)
  rw [this, hx, List.getElem?_append_right (by omega), hfl, Nat.add_sub_cancel_left]
  exact hu
 exact ⟨at5 0 _ rfl, at5 1 _ rfl, at5 2 _ rfl, at5 3 _ rfl, at5 4 _ rfl⟩
set_option maxRecDepth 100000 in
set_option maxHeartbeats 4000000 in
theorem look_idle (a : Lay) (lv ov : Value) (s : WS) (init : List Stp) (top : Stp) (pb cap v u : Nat) (pl : Int) (hp : s.path = init ++ [top]) (hv : top.v = (v : Int)) (hvN : v < a.N) (huN : u < a.N) (hN : a.N ≤ 1048576) (hD : s.depth.length = a.N) (h1 : 0 ≤ s.depth.getD u 0) (h2 : s.depth.getD v 0 ≤ s.depth.getD u 0) (w : World) (h : WB a lv (.slice (some ⟨pb, 0, none⟩) s.path.length cap) ov s w) :
  Calls Tryz.prog 103 #[.pointer (some ⟨a.wb, 0, none⟩), .pointer (some ⟨pb, init.length * 5, none⟩), .agg #[.int .i64 (u : Int), .int .i64 pl]] w fun e w' => e = .returned (.tuple #[]) ∧ Below w.heap.size w w' := by
 have hmix := mixed
 have hb1 : Below w.heap.size w (w.alloc (.cells #[.int .i64 (u : Int), .int .i64 pl] 147)) := (Below.refl _ _).alloc (Nat.le_refl _) _
 have hX : Blk 147 (w.alloc (.cells #[.int .i64 (u : Int), .int .i64 pl] 147)) w.heap.size [.int .i64 (u : Int), .int .i64 pl] := heap_alloc_new w _
 have h' := h.go hb1
 have b3 := h'.blk.cell (j := 3) rfl
 obtain ⟨p0, -, -, -, -⟩ := h'.top hp
 rw [hv] at p0
 have x0 := hX.cell (j := 0) rfl
 have hvN' : (v : Int) < (a.N : Int) := by omega
 have huN' : (u : Int) < (a.N : Int) := by omega
 have t0 : (w.alloc (.cells #[.int .i64 (u : Int), .int .i64 pl] 147)).cell? ⟨a.db, v, none⟩ = some (.int .i64 (s.depth.getD v 0)) := h'.dep.cell (by rw [List.getElem?_map, List.getElem?_eq_getElem (by omega)]; simp [show v < s.depth.length by omega])
 have t1 : (w.alloc (.cells #[.int .i64 (u : Int), .int .i64 pl] 147)).cell? ⟨a.db, u, none⟩ = some (.int .i64 (s.depth.getD u 0)) := h'.dep.cell (by rw [List.getElem?_map, List.getElem?_eq_getElem (by omega)]; simp [show u < s.depth.length by omega])
 obtain ⟨N, M, wb, rb, fb, db, kb, h0⟩ := a
 simp only at *
 generalize s.depth.getD u 0 = du at *
 generalize s.depth.getD v 0 = dv at *
 have h1' : ¬ du < 0 := by omega
 have h2' : ¬ du < dv := by omega
 generalize init.length * 5 = off at *
 clear h h' hD hX hp hv
 go_enter Tryz.func103, Tryz.ntmps103
 go_wp2
 go_quiet (fail)
 have hbq : Below w.heap.size w ((w.alloc (.cells #[.int .i64 (u : Int), .int .i64 pl] 147)).drewN nq) := below_drewN hb1 nq
 generalize (w.alloc (.cells #[.int .i64 (u : Int), .int .i64 pl] 147)).drewN nq = w5 at hbq ⊢
 go_wp2
 refine bodyPost_end (results_none rfl _ _ _) rfl ?_
 exact ⟨rfl, hbq⟩
end Go.Proofs.YtjpkojmjiaoifaaGreat

namespace Go.Proofs.YtjpkojmjiaoifaaGreat
open Go Go.Proofs Go.RowKit
theorem flatP_low (init : List Stp) (top : Stp) (x : Int) : (flatP (init ++ [top])).set (init.length * 5 + 3) (.int .i64 x) = flatP (init ++ [{ top with low := x }]) := by
 rw [flatP_app, flatP_app, List.set_append_right _ _ (by rw [flatP_len]; omega), flatP_len, Nat.add_sub_cancel_left]
 rfl
theorem flatP_next (init : List Stp) (top : Stp) (x : Nat) : (flatP (init ++ [top])).set (init.length * 5 + 2) (.int .i64 (x : Int)) = flatP (init ++ [{ top with next := x }]) := by
 rw [flatP_app, flatP_app, List.set_append_right _ _ (by rw [flatP_len]; omega), flatP_len, Nat.add_sub_cancel_left]
 rfl
def Apart2 (pv ov : Value) : Prop := (pv.ownBlock = none ∨ pv.ownBlock ≠ ov.ownBlock) ∧ (ov.ownBlock = none ∨ ov.ownBlock ≠ pv.ownBlock)
theorem WB.setWay {a : Lay} {lv ov : Value} {s : WS} {W : World} {pb cap : Nat} (h : WB a lv (.slice (some ⟨pb, 0, none⟩) s.path.length cap) ov s W) (hL : LayOK a) (hA : Apart2 (.slice (some ⟨pb, 0, none⟩) s.path.length cap) ov) {j : Nat} {u : Value} {P : List Stp} (hP : (flatP s.path).set j u = flatP P) (hl : P.length = s.path.length) : WB a lv (.slice (some ⟨pb, 0, none⟩) P.length cap) ov { s with path := P } (W.setCell ⟨pb, j, none⟩ u) := by
 obtain ⟨h1, h2⟩ := h.way.stored j u
 have hb := h.way.lt pb rfl
 rw [hP] at h1
 have hlo : ∀ {t : TypeId} {b : Nat} {vs : List Value}, Blk t W b vs → b < a.h0 → Blk t (W.setCell ⟨pb, j, none⟩ u) b vs := fun hB hlt => hB.other (by simp only; omega) _
 refine ⟨hlo h.blk hL.w0 |> fun x => ?_, hlo h.root hL.r0, hlo h.frm hL.f0, hlo h.dep hL.d0, hlo h.bls hL.k0, by rw [hl]; exact h1, owns_keep h.opn h2 hA.2⟩
 rw [hl]
 exact x
theorem WB.setOpn {a : Lay} {lv pv ov ov' : Value} {s : WS} {A B : World} {P : List Int} (h : WB a lv pv ov s A) (hL : LayOK a) (hA : Apart2 pv ov) (hg : A.grownBy B ov.ownBlock) (hlow : ∀ k, ov.ownBlock = some k → a.h0 ≤ k) (hB : B.ownsRow a.h0 3 1 ov' P.length (P.map (Value.int .i64))) : WB a lv pv ov' { s with opn := P } (B.setCell ⟨a.wb, 6, none⟩ ov') := by
 have hb : ∀ {t : TypeId} {b : Nat} {vs : List Value}, Blk t A b vs → b < a.h0 → Blk t B b vs := fun {t b vs} hB hlt => (hg.block b hB.lt (fun e => by have := hlow b e.symm; omega)).trans hB
 have hbl := (hb h.blk hL.w0).set 6 ov'
 exact ⟨hbl, (hb h.root hL.r0).other (Ne.symm hL.wr) _, (hb h.frm hL.f0).other (Ne.symm hL.wf) _, (hb h.dep hL.d0).other (Ne.symm hL.wd) _, (hb h.bls hL.k0).other (Ne.symm hL.wk) _, owns_lowset (owns_keep h.way hg hA.1) hL.w0 _, owns_lowset hB hL.w0 _⟩
end Go.Proofs.YtjpkojmjiaoifaaGreat

namespace Go.Proofs.YtjpkojmjiaoifaaGreat
open Go Go.Proofs Go.RowKit
def Lay.five (a : Lay) (k : Nat) : Prop := k = a.wb ∨ k = a.rb ∨ k = a.fb ∨ k = a.db ∨ k = a.kb
structure Wk (a : Lay) (A B : World) : Prop where
 os : B.os = A.os
 tape : B.tape = A.tape
 output : B.output = A.output
 size : A.heap.size ≤ B.heap.size
 block : ∀ k, k < a.h0 → ¬ a.five k → B.heap[k]? = A.heap[k]?
theorem Wk.refl (a : Lay) (A : World) : Wk a A A := ⟨rfl, rfl, rfl, Nat.le_refl _, fun _ _ _ => rfl⟩
theorem Wk.trans {a : Lay} {A B C : World} (h : Wk a A B) (k : Wk a B C) : Wk a A C :=
 ⟨k.os.trans h.os, k.tape.trans h.tape, k.output.trans h.output, Nat.le_trans h.size k.size, fun i hi hn => (k.block i hi hn).trans (h.block i hi hn)⟩
theorem Wk.of_below {a : Lay} {n : Nat} {A B : World} (h : Below n A B) (hn : a.h0 ≤ n) : Wk a A B := ⟨h.os, h.tape, h.output, h.size, fun k hk _ => h.block k (by omega)⟩
theorem Wk.grown {a : Lay} {A B : World} {row : Option Nat} (h : A.grownBy B row) (hs : a.h0 ≤ A.heap.size) (hr : ∀ k, row = some k → a.h0 ≤ k) : Wk a A B :=
 ⟨h.os, h.tape, h.output, h.size, fun k hk _ => h.block k (by omega) (fun e => by have := hr k e.symm; omega)⟩
theorem Wk.set {a : Lay} {A B : World} (h : Wk a A B) {p : Addr} (hp : a.five p.block ∨ a.h0 ≤ p.block) (u : Value) : Wk a A (B.setCell p u) :=
 h.trans ⟨rfl, rfl, rfl, by simp, fun k hk hn => Below.heap_setCell _ _ _ _ (fun e => by
  rcases hp with h1 | h1
  ·exact hn (e ▸ h1)
  ·omega)⟩
theorem Wk.below {a : Lay} {n : Nat} {A B : World} (h : Wk a A B) (hn : n ≤ a.h0) (h5 : ∀ k, k < n → ¬ a.five k) : Below n A B := ⟨h.os, h.tape, h.output, h.size, fun k hk => h.block k (by omega) (h5 k hk)⟩
theorem Wk.blk {a : Lay} {A B : World} {t : TypeId} {g : Nat} {vs : List Value} (h : Wk a A B) (hB : Blk t A g vs) (hg : g < a.h0) (hn : ¬ a.five g) : Blk t B g vs := (h.block g hg hn).trans hB
structure LK (a : Lay) (lv : Value) (lk : List (List (Int × Int))) (W : World) : Prop where
 ex : ∃ (lb sb : Nat) (svs cs : List Value), lv = .slice (some ⟨lb, 0, none⟩) a.N a.N ∧ lb < a.h0 ∧ ¬ a.five lb ∧ sb < a.h0 ∧ ¬ a.five sb ∧ lk.length = a.N ∧ Blk 145 W lb svs ∧ Blk 147 W sb cs ∧
  ∀ (v : Nat) (xs : List (Int × Int)), lk[v]? = some xs → ∃ off c, svs[v]? = some (.slice (some ⟨sb, off, none⟩) xs.length c) ∧ ∀ (j : Nat) (x : Int × Int), xs[j]? = some x → cs[off + j * 2]? = some (.int .i64 x.1) ∧ cs[off + j * 2 + 1]? = some (.int .i64 x.2)
theorem LK.go {a : Lay} {lv : Value} {lk : List (List (Int × Int))} {A B : World} (h : LK a lv lk A) (k : Wk a A B) : LK a lv lk B := by
 obtain ⟨lb, sb, svs, cs, h1, h2, h3, h4, h5, h6, h7, h8, h9⟩ := h.ex
 exact ⟨lb, sb, svs, cs, h1, h2, h3, h4, h5, h6, k.blk h7 h2 h3, k.blk h8 h4 h5, h9⟩
end Go.Proofs.YtjpkojmjiaoifaaGreat
