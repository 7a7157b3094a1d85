import Derived.Test.YtalflecmadacaaaGreatZAK
import Derived.Test.YtalflecmadacaaaGreatZBL
import Derived.Shelf.Bits.Mul64
import Derived.Ground.Names2Prog
import Derived.Ground.SlgnProg
import Derived.Test.YtalflecmadacaaaGreatProg
import Derived.Laws.CopyOwn
import Derived.Test.YtalflecmadacaaaGreatZAB
import Derived.Test.YtalflecmadacaaaGreatZAA
import Derived.Test.YtalflecmadacaaaGreatZAC
import Derived.Test.YtalflecmadacaaaGreatZAH
import Derived.Test.YtalflecmadacaaaGreatZAI
set_option maxRecDepth 100000
set_option maxHeartbeats 8000000
namespace Go.Proofs.YtalflecmadacaaaGreat
open Go Go.Proofs Go.RowKit
theorem bAt_true {T : List Bool} : T.contains true = true ↔ ∃ v, v < T.length ∧ bAt T v = true := by
 rw [List.contains_iff_mem]
 constructor
 ·intro h
  obtain ⟨i, hi, e⟩ := List.getElem_of_mem h
  exact ⟨i, hi, by simp [bAt, hi, e]⟩
 ·rintro ⟨v, hv, e⟩
  rw [bAt, List.getD_eq_getElem?_getD, List.getElem?_eq_getElem hv] at e
  have e2 : T[v] = true := e
  rw [← e2]; exact List.getElem_mem hv
theorem indexB_any (T : List Bool) (hT : T.length ≤ 4194304) (tv : Value) (w : World) (hI : Bools w.heap.size w tv T) :
  Calls Tryz.prog 109 #[tv, .bool true] w fun r w' => (∃ k : Nat, k < T.length ∧ bAt T k = true ∧ r = .returned (.int .i64 (k : Int)) ∨ (∀ v, v < T.length → bAt T v = false) ∧ r = .returned (.int .i64 (-1))) ∧ w' = w := by
 obtain ⟨p, c, rfl⟩ := hI.len
 have HI : Hid (Bools w.heap.size w (.slice p T.length c) T) := hI
 clear hI
 go_enter Tryz.func109, Tryz.ntmps109
 go_wp2
 go_loopw [8] (fun iv wr => ∃ j : Nat, j ≤ T.length ∧ iv = .int .i64 j ∧ (∀ v, v < j → bAt T v = false) ∧ wr = w) (fun i _ => T.length - (intOf i).toNat)
 case atStart => exact ⟨0, Nat.zero_le _, rfl, fun v hv => absurd hv (by omega), rfl⟩
 case round =>
  obtain ⟨j, hj, rfl, hA, rfl⟩ := hrel
  have HA : Hid (∀ v, v < j → bAt T v = false) := hA
  clear hA
  by_cases hlt : j < T.length
  ·have hjl : (j : Int) < (T.length : Int) := by omega
   obtain ⟨b, off, rfl, hbb, hcap, hc⟩ := Vals.open (enc := Value.bool) HI.out hlt
   have c0 := hc wr (Below.refl _ _) j hlt
   have hbT : bAt T j = T[j] := by simp [bAt, hlt]
   rw [← hbT] at c0
   have HLT : Hid (j < T.length) := hlt
   clear hc hlt hbT
   cases hP : bAt T j with
   | false =>
    have HP : Hid (bAt T j = false) := hP
    rw [hP] at c0
    clear hP
    go_wp2
    exact ⟨⟨j + 1, HLT.out, by go_num, fun v hv => by
     by_cases e : v = j
     ·rw [e]; exact HP.out
     ·exact HA.out v (by omega), trivial⟩, by have := HLT.out; simp [intOf]; omega⟩
   | true =>
    have HP : Hid (bAt T j = true) := hP
    rw [hP] at c0
    clear hP
    go_wp2
    go_ret
    exact ⟨⟨j, .inl ⟨HLT.out, HP.out, rfl⟩⟩, rfl⟩
  ·obtain rfl : j = T.length := by omega
   go_wp2
   go_ret
   exact ⟨⟨0, .inr ⟨HA.out, rfl⟩⟩, rfl⟩
theorem containsB_any (T : List Bool) (hT : T.length ≤ 4194304) (tv : Value) (w : World) (hI : Bools w.heap.size w tv T) :
  Calls Tryz.prog 85 #[tv, .bool true] w fun r w' => r = .returned (.bool (T.contains true)) ∧ w' = w := by
 have hx := indexB_any T hT tv w hI
 clear hI
 go_enter Tryz.func85, Tryz.ntmps85
 go_wp2_with fail
 refine hx.mono ?_
 clear hx
 rintro e w1 ⟨⟨k, ⟨hk, hb, rfl⟩ | ⟨hA, rfl⟩⟩, rfl⟩
 ·have HE : Hid (T.contains true = true) := bAt_true.2 ⟨k, hk, hb⟩
  go_wp2
  go_ret
  refine ⟨?_, rfl⟩
  rw [HE.out]
  simp
 ·have HE : Hid (T.contains true = false) := by
   show _ = _
   cases h : T.contains true with
   | false => rfl
   | true => obtain ⟨v, hv, e⟩ := bAt_true.1 h; rw [hA v hv] at e; cases e
  go_wp2
  go_ret
  refine ⟨?_, rfl⟩
  rw [HE.out]
  rfl
def turnT (R : Nat → Nat) (T : List Bool) (B : List Int) : List Bool := B.foldl (fun T v => flipB T (R v.toNat)) T
theorem turnT_len (R : Nat → Nat) : ∀ (B : List Int) (T : List Bool), (turnT R T B).length = T.length
 | [], _ => rfl
 | x :: B, T => by show (turnT R (flipB T (R x.toNat)) B).length = _; rw [turnT_len R B, flipB_len]
theorem turnT_snoc (R : Nat → Nat) (T : List Bool) (B : List Int) (x : Int) : turnT R T (B ++ [x]) = flipB (turnT R T B) (R x.toNat) := by simp [turnT]
theorem isOdd_any (N : Nat) (R : Nat → Nat) (B : List Int) (hN : N ≤ 1048576) (hR : ∀ v, v < N → R v < N) (hB : plcB N B = true) (hBl : B.length ≤ 8388608) (g : Nat) (bv : Value) (w : World) (hG : Blk 3 w g (natsV (leadL N R))) (hI : Ints w.heap.size w bv B) :
  Calls Tryz.prog 61 #[.slice (some ⟨g, 0, none⟩) N N, bv] w fun r w' => r = .returned (.bool ((turnT R (List.replicate N false) B).contains true)) ∧ Below w.heap.size w w' := by
 have hmix := mixed
 obtain ⟨pb, cb, rfl, ho⟩ := hI.openW
 have HO : Hid _ := fun (j : Nat) (hj : j < B.length) => ho (j := j) hj
 clear ho
 obtain ⟨i0, hi, hz0, hz1, hz2⟩ := info_parts infoBT
 have HG : Hid (Blk 3 w g (natsV (leadL N R))) := hG
 have hgl := hG.lt
 clear hG
 go_enter Tryz.func61, Tryz.ntmps61
 go_wp2_with (at_make; refine wpList_make_full _ rfl _ _ 25 rfl w.heap.size 4 i0 (.bool false) 1 Tryz.underlying25 hi hz0 hz1 .i64 .i64 _ _ N rfl rfl rfl rfl (by rw [hz2]; omega) (by unfold maxLen; omega) (by simp) ?_; intro w3 hown hgrow; have hb3 : Below w.heap.size w w3 := (Below.refl _ _).grown hgrow (Nat.le_refl _) (fun k e => by cases e); have hrow := Blk.made hown; have hsz := hrow.lt; rw [bools_madeT] at hrow; have HRow : Hid (Blk 4 w3 w.heap.size ((turnT R (List.replicate N false) (B.take 0)).map Value.bool)) := hrow; have HB3 : Hid (Below w.heap.size w w3) := hb3; clear hown hgrow hb3 hrow)
 obtain ⟨x, hx⟩ : ∃ n, w.heap.size = n := ⟨_, rfl⟩
 rw [hx] at HRow hsz HB3 hgl ⊢
 clear hi hz0 hz1 hz2
 go_loopw [13] (fun i wr => ∃ j : Nat, j ≤ B.length ∧ i = .int .i64 j ∧ Hid (Blk 4 wr x ((turnT R (List.replicate N false) (B.take j)).map Value.bool)) ∧ Hid (Below x w wr)) (fun i _ => B.length - (intOf i).toNat)
 case atStart => exact ⟨0, Nat.zero_le _, rfl, HRow, HB3⟩
 case round =>
  obtain ⟨j, hj, rfl, HR, HB⟩ := hrel
  by_cases hlt : j < B.length
  ·have hjl : (j : Int) < (B.length : Int) := by omega
   obtain ⟨b2, off2, rfl, hb2, hc2⟩ := HO.out j hlt
   rw [hx] at hb2 hc2
   have c0 := hc2 wr HB.out j hlt
   rw [at_get hlt] at c0
   obtain ⟨v, hv1, hv2⟩ := plc_at hB hlt
   have HST : Hid (flipB (turnT R (List.replicate N false) (B.take j)) (R v) = turnT R (List.replicate N false) (B.take (j + 1))) := by
    show _ = _
    rw [List.take_succ_eq_append_getElem hlt, turnT_snoc, hv1, Int.toNat_natCast]
   rw [hv1] at c0
   have hvl : (v : Int) < (N : Int) := by omega
   have hrl := hR v hv2
   have hrl' : ((R v : Nat) : Int) < (N : Int) := by omega
   have g0 : wr.cell? ⟨g, v, none⟩ = some (.int .i64 (R v : Int)) := (HG.out.go (by rw [hx]; exact HB.out)).cell (leadL_at hv2)
   have hlT : (turnT R (List.replicate N false) (B.take j)).length = N := by rw [turnT_len, List.length_replicate]
   have HLT : Hid (j < B.length) := hlt
   generalize turnT R (List.replicate N false) (B.take j) = T at *
   generalize R v = rv at *
   have t0 := HR.out.bcell (v := rv) (by rw [hlT]; exact hrl)
   have f0 := HR.out.frozen rv
   have HR2 : Hid _ := HR.out.flip rv
   have HB2 : Hid (Below x w (wr.setCell ⟨x, rv, none⟩ (.bool (!bAt T rv)))) := HB.out.setCell (p := ⟨x, rv, none⟩) (Nat.le_refl _) _
   clear HR HB hc2 hlt hv1 hlT
   go_wp2
   go_big_region_o
   go_wp2
   refine ⟨⟨j + 1, HLT.out, by go_num, ?_, below_drewN HB2.out 1⟩, by have := HLT.out; simp [intOf]; omega⟩
   rw [← HST.out]
   exact HR2.out
  ·obtain rfl : j = B.length := by omega
   have h1 := HR.out
   rw [List.take_length] at h1
   have hcb := containsB_any (turnT R (List.replicate N false) B) (by rw [turnT_len, List.length_replicate]; omega) (.slice (some ⟨x, 0, none⟩) N N) wr (h1.boolsT (by rw [turnT_len, List.length_replicate]))
   clear HR h1
   go_wp2_with fail
   refine hcb.mono ?_
   rintro e w9 ⟨rfl, rfl⟩
   clear hcb
   go_wp2
   go_ret
   rw [hx]
   exact ⟨by simp, HB.out⟩
end Go.Proofs.YtalflecmadacaaaGreat
namespace Go.Proofs
open Go.Shelf
def Tryz.lays212_ren : Go.Shelf.Ren := ⟨fun | 212 => 159 | 263 => 172 | 264 => 173 | n => n, fun | 46 => 67 | 51 => 205 | 146 => 206 | 53 => 208 | 148 => 209 | n => n, fun | n => n⟩
theorem Tryz.lays212 : Go.Proofs.Lays.n212 Tryz.prog Tryz.lays212_ren := {
  mixed := by kernel_rfl
  f212 := Tryz.func159.trans (congrArg some (by kernel_rfl))
  f263 := Tryz.func172.trans (congrArg some (by kernel_rfl))
  f264 := Tryz.func173.trans (congrArg some (by kernel_rfl))
  t46 := Tryz.underlying67
  a46 := Tryz.isAgg67
  z46 := Tryz.sizeOf67
  v46 := Tryz.zeroValue67
  t51 := Tryz.underlying205
  a51 := Tryz.isAgg205
  z51 := Tryz.sizeOf205
  v51 := Tryz.zeroValue205
  t53 := Tryz.underlying208
  a53 := Tryz.isAgg208
  z53 := Tryz.sizeOf208
  v53 := Tryz.zeroValue208
  t146 := Tryz.underlying206
  a146 := Tryz.isAgg206
  z146 := Tryz.sizeOf206
  v146 := Tryz.zeroValue206
  t148 := Tryz.underlying209
  a148 := Tryz.isAgg209
  z148 := Tryz.sizeOf209
  v148 := Tryz.zeroValue209 }
open Go.RowKit Go.Lib in
theorem Tryz.bits_Mul (x y : Nat) (hx : x < 18446744073709551616) (hy : y < 18446744073709551616) (w : World) :
    Calls Tryz.prog 159 #[.int .u64 x, .int .u64 y] w fun e w' => e = .returned (.tuple #[.int .u64 ((x * y / 18446744073709551616 : Nat) : Int), .int .u64 ((x * y % 18446744073709551616 : Nat) : Int)]) ∧ w' = w := Any.bits_Mul Tryz.lays212 x y hx hy w
end Go.Proofs
namespace Go.Proofs.YtalflecmadacaaaGreat
open Go Go.Proofs Go.RowKit
def repH (n j : Nat) (v : Int) : List Value := List.replicate j (.int .i64 v) ++ List.replicate (n - j) (.int .i64 0)
theorem repH_len {n j : Nat} (h : j ≤ n) (v : Int) : (repH n j v).length = n := by simp [repH]; omega
theorem repH_zero (n : Nat) (v : Int) : repH n 0 v = List.replicate n (.int .i64 0) := by simp [repH]
theorem repH_full (n : Nat) (v : Int) : repH n n v = List.replicate n (.int .i64 v) := by simp [repH]
theorem repH_splice {n j m : Nat} (h : j + m ≤ n) (v : Int) : splice (repH n j v) j (List.replicate m (.int .i64 v)) = repH n (j + m) v := by
 unfold splice repH
 apply List.ext_getElem?
 intro i
 rw [List.take_append, List.drop_append]
 simp only [List.length_replicate]
 rw [Nat.sub_self, List.take_zero, List.append_nil, List.take_of_length_le (by simp)]
 rw [List.drop_of_length_le (by simp), List.nil_append, List.drop_replicate]
 rw [← List.append_assoc, List.replicate_append_replicate]
 congr 3
 omega
theorem infoI1 : (Tryz.prog.info? 3).map (·.size) = some 1 := by kernel_rfl
theorem rep_row {w3 : World} {base g n : Nat} (v : Int) (hown : w3.ownsRow base 3 1 (.slice (some ⟨g, 0, none⟩) n n) n (madeCells (Value.int .i64 0).cells (n * 1)).toList) : w3.heap[g]? = some (.cells (repH n 0 v).toArray 3 (0, 0)) := by
 have h1 := Blk.made hown
 rw [ints_made, List.map_replicate, ← repH_zero n v] at h1
 exact h1
theorem rep_src {w3 : World} {b m g off o : Nat} {v : Int} (hc : ∀ j, j < m → w3.cell? ⟨b, o + j, none⟩ = some (.int .i64 v)) : 0 < (List.replicate m (Value.int .i64 v)).length → (some ⟨g, off, none⟩ : Option Addr) = some ⟨g, off, none⟩ ∧ ∃ ad, (some ⟨b, o, none⟩ : Option Addr) = some ad ∧ ∀ j u, (List.replicate m (Value.int .i64 v))[j]? = some u → w3.cell? (ad.add j) = some u := fun _ => ⟨rfl, _, rfl, fun j u hu => by
 have hj := (List.getElem?_eq_some_iff.1 hu).1
 rw [List.length_replicate] at hj
 rw [List.eq_of_mem_replicate (List.mem_of_getElem? hu), Go.WideShapes.add_plain]
 exact hc j hj⟩
theorem rep_fit {n j m : Nat} {v : Int} (h : j + m ≤ n) : j + (List.replicate m (Value.int .i64 v)).length ≤ (repH n j v).length := by
 rw [repH_len (by omega), List.length_replicate]
 exact h
theorem rep_one (m : Nat) (v : Int) : ∀ u ∈ List.replicate m (Value.int .i64 v), u.oneCell' = true := fun u hu => by rw [List.eq_of_mem_replicate hu]; rfl
theorem rep_one_src {w3 : World} {b : Nat} {v : Int} (h : w3.cell? ⟨b, 0, none⟩ = some (.int .i64 v)) : ∀ j u, [Value.int .i64 v][j]? = some u → w3.cell? ((⟨b, 0, none⟩ : Addr).add j) = some u := fun j u hu => by
 have hj := (List.getElem?_eq_some_iff.1 hu).1
 have hj0 : j = 0 := by simpa using hj
 subst hj0
 rw [Go.WideShapes.add_plain]
 cases hu
 exact h
theorem repH_first {n : Nat} (h : 0 < n) (v : Int) : Value.int .i64 v :: (repH n 0 v).tail = repH n 1 v := by
 obtain ⟨m, rfl⟩ : ∃ m, n = m + 1 := ⟨n - 1, by omega⟩
 simp [repH, List.replicate_succ]
theorem repH_at {n j i : Nat} {v : Int} (h : i < j) : (repH n j v)[i]? = some (.int .i64 v) := by
 unfold repH
 rw [List.getElem?_append_left (by simpa using h), List.getElem?_replicate, if_pos h]
theorem repeat_any (v : Int) (n : Nat) (hn : n ≤ 8388608) (b : Nat) (w : World) (hb : w.cell? ⟨b, 0, none⟩ = some (.int .i64 v)) :
  Calls Tryz.prog 135 #[.slice (some ⟨b, 0, none⟩) 1 1, .int .i64 (n : Int)] w fun e w' => ∃ g, e = .returned (.slice (some ⟨g, 0, none⟩) n n) ∧ w.heap.size ≤ g ∧ Blk 3 w' g (List.replicate n (.int .i64 v)) ∧ Below w.heap.size w w' := by
 obtain ⟨i0, hi, hz0, hz1, hz2⟩ := info_parts infoI
 have hmul := Tryz.bits_Mul 1 n (by decide) (by omega) w
 rw [Nat.one_mul, Nat.div_eq_of_lt (by omega), Nat.mod_eq_of_lt (by omega)] at hmul
 have hn0 : ¬ (n : Int) < 0 := by omega
 go_enter Tryz.func135, Tryz.ntmps135
 go_wp2_with fail
 refine hmul.mono ?_
 clear hmul
 rintro e w2 ⟨rfl, rfl⟩
 have hnb : decide ((9223372036854775807 : Int) < (n : Int)) = false := decide_eq_false (by omega)
 have hbl := World.block_lt_of_cell? w2 _ hb
 by_cases hz : n = 0
 ·subst hz
  go_wp2_with (at_make; refine wpList_make_full _ rfl _ _ 27 rfl w2.heap.size 3 i0 (.int .i64 0) 1 Tryz.underlying27 hi hz0 hz1 .i64 .i64 _ _ 0 rfl rfl rfl rfl (by rw [hz2]; omega) (by unfold maxLen; omega) (Nat.le_refl _) ?_; intro w3 hown hgrow; have hb3 : Below w2.heap.size w2 w3 := (Below.refl _ _).grown hgrow (Nat.le_refl _) (fun k e => by cases e); have HB3 : Hid (Below w2.heap.size w2 w3) := hb3; have HRW : Hid _ := rep_row v hown; have hcp := run_copy_none (P := Tryz.prog) w3 27 27 3 3 (some ⟨w2.heap.size, 0, none⟩) (some ⟨b, 0, none⟩) 0 0 1 1 Tryz.underlying27 infoI1 rfl; clear hown hgrow hb3)
  go_wp2
  clear hcp
  go_loopw [8] (fun jv wr => jv = .int .i64 0 ∧ Hid (wr.heap[w2.heap.size]? = some (.cells (repH 0 0 v).toArray 3 (0, 0))) ∧ Below w2.heap.size w2 wr) (fun _ _ => 0)
  case atStart => exact ⟨rfl, HRW, HB3.out⟩
  case round =>
   obtain ⟨rfl, HRJ, hbj⟩ := hrel
   have HRF : Hid (Blk 3 wr w2.heap.size (List.replicate 0 (.int .i64 v))) := HRJ.out
   have HB : Hid (Below w2.heap.size w2 wr) := hbj
   clear HRJ hbj
   go_wp2
   go_ret
   exact ⟨w2.heap.size, rfl, Nat.le_refl _, HRF.out, HB.out⟩
 ·have hmn : Nat.min 1 n = 1 := Nat.min_eq_left (by omega)
  have HMN : Hid _ := hmn
  clear hmn
  go_wp2_with (at_make; refine wpList_make_full _ rfl _ _ 27 rfl w2.heap.size 3 i0 (.int .i64 0) 1 Tryz.underlying27 hi hz0 hz1 .i64 .i64 _ _ n rfl rfl rfl rfl (by rw [hz2]; omega) (by unfold maxLen; omega) (Nat.le_refl _) ?_; intro w3 hown hgrow; have hb3 : Below w2.heap.size w2 w3 := (Below.refl _ _).grown hgrow (Nat.le_refl _) (fun k e => by cases e); have HB3 : Hid (Below w2.heap.size w2 w3) := hb3; have HRW : Hid _ := rep_row v hown; have hcp := run_copy_row (P := Tryz.prog) w3 27 27 3 3 w2.heap.size 0 n n ⟨b, 0, none⟩ 1 1 (repH n 0 v).toArray 3 [.int .i64 v] Tryz.underlying27 infoI1 HRW.out HMN.out.symm (rep_one_src ((hb3.cell (p := ⟨b, 0, none⟩) hbl).trans hb)) (by rw [List.size_toArray, repH_len (Nat.zero_le _)]; simp; omega) (rep_one 1 v); clear hown hgrow hb3)
  obtain ⟨w4, hw4⟩ : ∃ W, w3.setRow w2.heap.size (Value.int .i64 v :: (repH n 0 v).tail).toArray = W := ⟨_, rfl⟩
  have HR4 : Hid (w4.heap[w2.heap.size]? = some (.cells (repH n 1 v).toArray 3 (0, 0))) := by
   rw [← hw4, ← repH_first (by omega) v]
   exact setRow_heap w3 w2.heap.size _ _ 3 (0, 0) HRW.out
  have HB4 : Hid (Below w2.heap.size w2 w4) := by
   rw [← hw4]
   exact below_setRow HB3.out (Nat.le_refl _) _
  rw [hw4]
  clear hw4 hcp
  go_loopw [8] (fun jv wr => ∃ j : Nat, j ≤ n ∧ (0 < n → 0 < j) ∧ jv = .int .i64 j ∧ Hid (wr.heap[w2.heap.size]? = some (.cells (repH n j v).toArray 3 (0, 0))) ∧ Below w2.heap.size w2 wr) (fun jv _ => n - (intOf jv).toNat)
  case atStart => exact ⟨1, by omega, fun _ => by omega, rfl, HR4, HB4.out⟩
  case round =>
   obtain ⟨j, hj, hjp, rfl, HRJ, hbj⟩ := hrel
   by_cases hlt : j < n
   ·have hjl : (j : Int) < ((n : Nat) : Int) := by omega
    have hj0 := hjp (by omega)
    have hm1 : Nat.min j (n - j) ≤ n - j := Nat.min_le_right _ _
    have hm2 : Nat.min j (n - j) ≤ j := Nat.min_le_left _ _
    have hm3 : 0 < Nat.min j (n - j) := Nat.lt_min.2 ⟨hj0, by omega⟩
    have HMM : Hid _ := And.intro hm1 (And.intro hm2 hm3)
    have HSP : Hid _ := repH_splice (n := n) (j := j) (m := Nat.min j (n - j)) (by omega) v
    have HLN : Hid ((List.replicate (Nat.min j (n - j)) (Value.int .i64 v)).length = Nat.min j (n - j)) := List.length_replicate ..
    have HB : Hid (Below w2.heap.size w2 wr) := hbj
    have HFT : Hid _ := rep_fit (n := n) (j := j) (m := Nat.min j (n - j)) (v := v) (by omega)
    have HSR : Hid (∀ i, i < Nat.min j (n - j) → wr.drew.cell? ⟨w2.heap.size, 0 + i, none⟩ = some (.int .i64 v)) := fun i hi => by
     have h1 : Blk 3 wr w2.heap.size (repH n j v) := HRJ.out
     rw [Nat.zero_add]
     exact h1.cell (repH_at (by omega))
    have HLT : Hid (j < n) := hlt
    clear hbj hjp hm1 hm2 hm3
    go_wp2_with fail
    refine wp_region_held_drew (S := (fun _ : World => True)) (by kernel_rfl) trivial (fun hHeld => ?_)
    refine tkH 0 ?_ rfl (by kernel_rfl) rfl (.inl ⟨by rfl, ?_⟩) (by assumption) ?_
    rotate_left
    ·intro w h; (try dsimp only at h); go_simp; (try rfl)
    try simp only [Act.put, z4]
    refine tkH 1 ?_ rfl (by kernel_rfl) rfl (.inl ⟨by rfl, ?_⟩) (by assumption) ?_
    rotate_left
    ·intro w h; (try dsimp only at h); go_simp; (try rfl)
    try simp only [Act.put]
    refine tkH 2 ?_ rfl (by kernel_rfl) rfl (.inl ⟨by rfl, ?_⟩) (by assumption) ?_
    rotate_left
    ·intro w h; (try dsimp only at h); go_simp; (try rfl)
    try simp only [Act.put]
    refine tkH 3 ?_ rfl (by kernel_rfl) rfl (.inl ⟨by rfl, ?_⟩) (by assumption) ?_
    rotate_left
    ·intro w h; (try dsimp only at h); go_simp; (try rfl)
    try simp only [Act.put]
    try simp only [z1, z2, z3, z4, z5, z6]
    refine tkH 4 ?_ rfl (by kernel_rfl) rfl (.inl ⟨by rfl, ?_⟩) (by assumption) ?_
    rotate_left
    ·intro w h; (try dsimp only at h); go_simp; (try rfl)
    try simp only [Act.put]
    refine tkH 5 ?_ rfl (by kernel_rfl) rfl (.inl ⟨by rfl, ?_⟩) (by assumption) ?_
    rotate_left
    ·intro w h; (try dsimp only at h); go_simp; (try rfl)
    try simp only [Act.put]
    refine tkH 6 ?_ rfl (by kernel_rfl) rfl (.inl ⟨by rfl, ?_⟩) (by assumption) ?_
    rotate_left
    ·intro w h; (try dsimp only at h); go_simp; (try rfl)
    try simp only [Act.put]
    try simp only [z1, z2, z3, z4, z5, z6]
    refine wpAnyH_ready (rs := [7]) (by kernel_rfl) (by simp) ?_
    refine AllReadyH.cons rfl (fun K hK => ?_) AllReadyH.nil
    refine step_copy_splice rfl _ _ 27 27 rfl 3 Tryz.underlying27 infoI1 (some ⟨w2.heap.size, j, none⟩) (some ⟨w2.heap.size, 0, none⟩) (n - j) (n - j) j n ?hd ?hs w2.heap.size j (repH n j v) 3 HRJ.out (List.replicate (Nat.min j (n - j)) (.int .i64 v)) HLN.out (rep_src HSR.out) HFT.out (rep_one _ v) w2.heap.size w2 (below_drewN HB.out 1) (Nat.le_refl _) ?_
    case hd =>
     show Value.slice (if n = j then some _ else some _) _ _ = _
     rw [if_neg (by have := HLT.out; omega)]
    case hs => rfl
    intro w5 hr5 hb5
    rw [HLN.out]
    have HR5 : Hid (w5.heap[w2.heap.size]? = some (.cells (repH n (j + Nat.min j (n - j)) v).toArray 3 (0, 0))) := by
     have h1 := hr5.out
     rw [HSP.out] at h1
     exact h1
    have HB5 : Hid (Below w2.heap.size w2 w5) := hb5
    refine hK.out _ _ trivial (fun _ => ?_)
    clear hK K hr5 hb5 HSP HLN HFT HSR HRJ HB hHeld
    have hmm := HMM.out
    clear HMM
    generalize Nat.min j (n - j) = m at *
    obtain ⟨hm1, hm2, hm3⟩ := hmm
    have hwr := wrap_i ((j : Int) + (m : Int)) (by omega) (by have := HLT.out; omega)
    try simp only [Act.put, z4]
    refine tkH 8 ?_ rfl (by kernel_rfl) rfl (.inl ⟨by rfl, ?_⟩) (by assumption) ?_
    rotate_left
    ·intro w h; (try dsimp only at h); go_simp; (try rfl)
    try simp only [Act.put]
    refine tkH 9 ?_ rfl (by kernel_rfl) rfl (.inl ⟨by rfl, ?_⟩) (by assumption) ?_
    rotate_left
    ·intro w h; (try dsimp only at h); go_simp; (try rfl)
    try simp only [Act.put]
    refine wpAnyH_done (by kernel_rfl) ?_ _
    go_wp2
    have hlt2 := HLT.out
    exact ⟨⟨j + m, by omega, fun _ => by omega, by go_num, HR5, HB5.out⟩, by simp [intOf]; omega⟩
   ·have hjn : j = n := by omega
    have hjl : ¬ (j : Int) < ((n : Nat) : Int) := by omega
    have HRF : Hid (Blk 3 wr w2.heap.size (List.replicate n (.int .i64 v))) := by
     have h1 := HRJ.out
     rw [hjn, repH_full] at h1
     exact h1
    clear hjn
    have HB : Hid (Below w2.heap.size w2 wr) := hbj
    clear HRJ hbj hjp
    go_wp2
    go_ret
    exact ⟨w2.heap.size, rfl, Nat.le_refl _, HRF.out, HB.out⟩
theorem infoL8 : (Tryz.prog.info? 2).map (fun i => (i.zero, i.size, i.bytes)) = some (some (.int .i64 0), 1, 8) := by kernel_rfl
theorem infoL1 : (Tryz.prog.info? 2).map (·.size) = some 1 := by kernel_rfl
theorem rep_row8 {w3 : World} {base g n : Nat} (v : Int) (hown : w3.ownsRow base 2 1 (.slice (some ⟨g, 0, none⟩) n n) n (madeCells (Value.int .i64 0).cells (n * 1)).toList) : w3.heap[g]? = some (.cells (repH n 0 v).toArray 2 (0, 0)) := by
 have h1 := Blk.made hown
 rw [ints_made, List.map_replicate, ← repH_zero n v] at h1
 exact h1
theorem repeat8_any (v : Int) (n : Nat) (hn : n ≤ 8388608) (b : Nat) (w : World) (hb : w.cell? ⟨b, 0, none⟩ = some (.int .i64 v)) :
  Calls Tryz.prog 133 #[.slice (some ⟨b, 0, none⟩) 1 1, .int .i64 (n : Int)] w fun e w' => ∃ g, e = .returned (.slice (some ⟨g, 0, none⟩) n n) ∧ w.heap.size ≤ g ∧ Blk 2 w' g (List.replicate n (.int .i64 v)) ∧ Below w.heap.size w w' := by
 obtain ⟨i0, hi, hz0, hz1, hz2⟩ := info_parts infoL8
 have hmul := Tryz.bits_Mul 1 n (by decide) (by omega) w
 rw [Nat.one_mul, Nat.div_eq_of_lt (by omega), Nat.mod_eq_of_lt (by omega)] at hmul
 have hn0 : ¬ (n : Int) < 0 := by omega
 go_enter Tryz.func133, Tryz.ntmps133
 go_wp2_with fail
 refine hmul.mono ?_
 clear hmul
 rintro e w2 ⟨rfl, rfl⟩
 have hnb : decide ((9223372036854775807 : Int) < (n : Int)) = false := decide_eq_false (by omega)
 have hbl := World.block_lt_of_cell? w2 _ hb
 by_cases hz : n = 0
 ·subst hz
  go_wp2_with (at_make; refine wpList_make_full _ rfl _ _ 48 rfl w2.heap.size 2 i0 (.int .i64 0) 1 Tryz.underlying48 hi hz0 hz1 .i64 .i64 _ _ 0 rfl rfl rfl rfl (by rw [hz2]; omega) (by unfold maxLen; omega) (Nat.le_refl _) ?_; intro w3 hown hgrow; have hb3 : Below w2.heap.size w2 w3 := (Below.refl _ _).grown hgrow (Nat.le_refl _) (fun k e => by cases e); have HB3 : Hid (Below w2.heap.size w2 w3) := hb3; have HRW : Hid _ := rep_row8 v hown; have hcp := run_copy_none (P := Tryz.prog) w3 48 48 3 2 (some ⟨w2.heap.size, 0, none⟩) (some ⟨b, 0, none⟩) 0 0 1 1 Tryz.underlying48 infoL1 rfl; clear hown hgrow hb3)
  go_wp2
  clear hcp
  go_loopw [8] (fun jv wr => jv = .int .i64 0 ∧ Hid (wr.heap[w2.heap.size]? = some (.cells (repH 0 0 v).toArray 2 (0, 0))) ∧ Below w2.heap.size w2 wr) (fun _ _ => 0)
  case atStart => exact ⟨rfl, HRW, HB3.out⟩
  case round =>
   obtain ⟨rfl, HRJ, hbj⟩ := hrel
   have HRF : Hid (Blk 2 wr w2.heap.size (List.replicate 0 (.int .i64 v))) := HRJ.out
   have HB : Hid (Below w2.heap.size w2 wr) := hbj
   clear HRJ hbj
   go_wp2
   go_ret
   exact ⟨w2.heap.size, rfl, Nat.le_refl _, HRF.out, HB.out⟩
 ·have hmn : Nat.min 1 n = 1 := Nat.min_eq_left (by omega)
  have HMN : Hid _ := hmn
  clear hmn
  go_wp2_with (at_make; refine wpList_make_full _ rfl _ _ 48 rfl w2.heap.size 2 i0 (.int .i64 0) 1 Tryz.underlying48 hi hz0 hz1 .i64 .i64 _ _ n rfl rfl rfl rfl (by rw [hz2]; omega) (by unfold maxLen; omega) (Nat.le_refl _) ?_; intro w3 hown hgrow; have hb3 : Below w2.heap.size w2 w3 := (Below.refl _ _).grown hgrow (Nat.le_refl _) (fun k e => by cases e); have HB3 : Hid (Below w2.heap.size w2 w3) := hb3; have HRW : Hid _ := rep_row8 v hown; have hcp := run_copy_row (P := Tryz.prog) w3 48 48 3 2 w2.heap.size 0 n n ⟨b, 0, none⟩ 1 1 (repH n 0 v).toArray 2 [.int .i64 v] Tryz.underlying48 infoL1 HRW.out HMN.out.symm (rep_one_src ((hb3.cell (p := ⟨b, 0, none⟩) hbl).trans hb)) (by rw [List.size_toArray, repH_len (Nat.zero_le _)]; simp; omega) (rep_one 1 v); clear hown hgrow hb3)
  obtain ⟨w4, hw4⟩ : ∃ W, w3.setRow w2.heap.size (Value.int .i64 v :: (repH n 0 v).tail).toArray = W := ⟨_, rfl⟩
  have HR4 : Hid (w4.heap[w2.heap.size]? = some (.cells (repH n 1 v).toArray 2 (0, 0))) := by
   rw [← hw4, ← repH_first (by omega) v]
   exact setRow_heap w3 w2.heap.size _ _ 2 (0, 0) HRW.out
  have HB4 : Hid (Below w2.heap.size w2 w4) := by
   rw [← hw4]
   exact below_setRow HB3.out (Nat.le_refl _) _
  rw [hw4]
  clear hw4 hcp
  go_loopw [8] (fun jv wr => ∃ j : Nat, j ≤ n ∧ (0 < n → 0 < j) ∧ jv = .int .i64 j ∧ Hid (wr.heap[w2.heap.size]? = some (.cells (repH n j v).toArray 2 (0, 0))) ∧ Below w2.heap.size w2 wr) (fun jv _ => n - (intOf jv).toNat)
  case atStart => exact ⟨1, by omega, fun _ => by omega, rfl, HR4, HB4.out⟩
  case round =>
   obtain ⟨j, hj, hjp, rfl, HRJ, hbj⟩ := hrel
   by_cases hlt : j < n
   ·have hjl : (j : Int) < ((n : Nat) : Int) := by omega
    have hj0 := hjp (by omega)
    have hm1 : Nat.min j (n - j) ≤ n - j := Nat.min_le_right _ _
    have hm2 : Nat.min j (n - j) ≤ j := Nat.min_le_left _ _
    have hm3 : 0 < Nat.min j (n - j) := Nat.lt_min.2 ⟨hj0, by omega⟩
    have HMM : Hid _ := And.intro hm1 (And.intro hm2 hm3)
    have HSP : Hid _ := repH_splice (n := n) (j := j) (m := Nat.min j (n - j)) (by omega) v
    have HLN : Hid ((List.replicate (Nat.min j (n - j)) (Value.int .i64 v)).length = Nat.min j (n - j)) := List.length_replicate ..
    have HB : Hid (Below w2.heap.size w2 wr) := hbj
    have HFT : Hid _ := rep_fit (n := n) (j := j) (m := Nat.min j (n - j)) (v := v) (by omega)
    have HSR : Hid (∀ i, i < Nat.min j (n - j) → wr.drew.cell? ⟨w2.heap.size, 0 + i, none⟩ = some (.int .i64 v)) := fun i hi => by
     have h1 : Blk 2 wr w2.heap.size (repH n j v) := HRJ.out
     rw [Nat.zero_add]
     exact h1.cell (repH_at (by omega))
    have HLT : Hid (j < n) := hlt
    clear hbj hjp hm1 hm2 hm3
    go_wp2_with fail
    refine wp_region_held_drew (S := (fun _ : World => True)) (by kernel_rfl) trivial (fun hHeld => ?_)
    refine tkH 0 ?_ rfl (by kernel_rfl) rfl (.inl ⟨by rfl, ?_⟩) (by assumption) ?_
    rotate_left
    ·intro w h; (try dsimp only at h); go_simp; (try rfl)
    try simp only [Act.put, z4]
    refine tkH 1 ?_ rfl (by kernel_rfl) rfl (.inl ⟨by rfl, ?_⟩) (by assumption) ?_
    rotate_left
    ·intro w h; (try dsimp only at h); go_simp; (try rfl)
    try simp only [Act.put]
    refine tkH 2 ?_ rfl (by kernel_rfl) rfl (.inl ⟨by rfl, ?_⟩) (by assumption) ?_
    rotate_left
    ·intro w h; (try dsimp only at h); go_simp; (try rfl)
    try simp only [Act.put]
    refine tkH 3 ?_ rfl (by kernel_rfl) rfl (.inl ⟨by rfl, ?_⟩) (by assumption) ?_
    rotate_left
    ·intro w h; (try dsimp only at h); go_simp; (try rfl)
    try simp only [Act.put]
    try simp only [z1, z2, z3, z4, z5, z6]
    refine tkH 4 ?_ rfl (by kernel_rfl) rfl (.inl ⟨by rfl, ?_⟩) (by assumption) ?_
    rotate_left
    ·intro w h; (try dsimp only at h); go_simp; (try rfl)
    try simp only [Act.put]
    refine tkH 5 ?_ rfl (by kernel_rfl) rfl (.inl ⟨by rfl, ?_⟩) (by assumption) ?_
    rotate_left
    ·intro w h; (try dsimp only at h); go_simp; (try rfl)
    try simp only [Act.put]
    refine tkH 6 ?_ rfl (by kernel_rfl) rfl (.inl ⟨by rfl, ?_⟩) (by assumption) ?_
    rotate_left
    ·intro w h; (try dsimp only at h); go_simp; (try rfl)
    try simp only [Act.put]
    try simp only [z1, z2, z3, z4, z5, z6]
    refine wpAnyH_ready (rs := [7]) (by kernel_rfl) (by simp) ?_
    refine AllReadyH.cons rfl (fun K hK => ?_) AllReadyH.nil
    refine step_copy_splice rfl _ _ 48 48 rfl 2 Tryz.underlying48 infoL1 (some ⟨w2.heap.size, j, none⟩) (some ⟨w2.heap.size, 0, none⟩) (n - j) (n - j) j n ?hd ?hs w2.heap.size j (repH n j v) 2 HRJ.out (List.replicate (Nat.min j (n - j)) (.int .i64 v)) HLN.out (rep_src HSR.out) HFT.out (rep_one _ v) w2.heap.size w2 (below_drewN HB.out 1) (Nat.le_refl _) ?_
    case hd =>
     show Value.slice (if n = j then some _ else some _) _ _ = _
     rw [if_neg (by have := HLT.out; omega)]
    case hs => rfl
    intro w5 hr5 hb5
    rw [HLN.out]
    have HR5 : Hid (w5.heap[w2.heap.size]? = some (.cells (repH n (j + Nat.min j (n - j)) v).toArray 2 (0, 0))) := by
     have h1 := hr5.out
     rw [HSP.out] at h1
     exact h1
    have HB5 : Hid (Below w2.heap.size w2 w5) := hb5
    refine hK.out _ _ trivial (fun _ => ?_)
    clear hK K hr5 hb5 HSP HLN HFT HSR HRJ HB hHeld
    have hmm := HMM.out
    clear HMM
    generalize Nat.min j (n - j) = m at *
    obtain ⟨hm1, hm2, hm3⟩ := hmm
    have hwr := wrap_i ((j : Int) + (m : Int)) (by omega) (by have := HLT.out; omega)
    try simp only [Act.put, z4]
    refine tkH 8 ?_ rfl (by kernel_rfl) rfl (.inl ⟨by rfl, ?_⟩) (by assumption) ?_
    rotate_left
    ·intro w h; (try dsimp only at h); go_simp; (try rfl)
    try simp only [Act.put]
    refine tkH 9 ?_ rfl (by kernel_rfl) rfl (.inl ⟨by rfl, ?_⟩) (by assumption) ?_
    rotate_left
    ·intro w h; (try dsimp only at h); go_simp; (try rfl)
    try simp only [Act.put]
    refine wpAnyH_done (by kernel_rfl) ?_ _
    go_wp2
    have hlt2 := HLT.out
    exact ⟨⟨j + m, by omega, fun _ => by omega, by go_num, HR5, HB5.out⟩, by simp [intOf]; omega⟩
   ·have hjn : j = n := by omega
    have hjl : ¬ (j : Int) < ((n : Nat) : Int) := by omega
    have HRF : Hid (Blk 2 wr w2.heap.size (List.replicate n (.int .i64 v))) := by
     have h1 := HRJ.out
     rw [hjn, repH_full] at h1
     exact h1
    clear hjn
    have HB : Hid (Below w2.heap.size w2 wr) := hbj
    clear HRJ hbj hjp
    go_wp2
    go_ret
    exact ⟨w2.heap.size, rfl, Nat.le_refl _, HRF.out, HB.out⟩
def rowsKT (n k : Nat) (bs : Nat → Nat) : List Value := (List.range n).map fun i => if i < k then Value.slice (some ⟨bs i, 0, none⟩) n n else .slice none 0 0
theorem rowsK_lenT (n k : Nat) (bs : Nat → Nat) : (rowsKT n k bs).length = n := by simp [rowsKT]
theorem rowsK_atT {n k : Nat} {bs : Nat → Nat} {i : Nat} (h : i < n) : (rowsKT n k bs)[i]? = some (if i < k then Value.slice (some ⟨bs i, 0, none⟩) n n else .slice none 0 0) := by simp [rowsKT, h]
theorem rowsK_zero (n : Nat) (bs : Nat → Nat) : rowsKT n 0 bs = List.replicate n (.slice none 0 0) := by
 apply List.ext_getElem <;> simp [rowsKT]
def updN (bs : Nat → Nat) (k b : Nat) : Nat → Nat := fun i => if i = k then b else bs i
theorem rowsK_set {n k : Nat} {bs : Nat → Nat} (h : k < n) (b : Nat) : (rowsKT n k bs).set k (.slice (some ⟨b, 0, none⟩) n n) = rowsKT n (k + 1) (updN bs k b) := by
 apply List.ext_getElem?
 intro i
 by_cases hi : i < n
 ·rw [List.getElem?_set, rowsK_atT hi, rowsK_atT hi, rowsK_lenT]
  by_cases e : k = i
  ·subst e; simp [updN, h]
  ·have h1 : (i < k + 1) = (i < k) := by
    apply propext; omega
   have h2 : updN bs k b i = bs i := by unfold updN; rw [if_neg (by omega)]
   rw [if_neg e, h2]
   simp only [h1]
 ·rw [List.getElem?_eq_none (by simp [rowsK_lenT]; omega), List.getElem?_eq_none (by rw [rowsK_lenT]; omega)]
structure SQ (t tr : TypeId) (n k : Nat) (row : List Value) (rb : Nat) (bs : Nat → Nat) (W : World) : Prop where
 rows : Blk tr W rb (rowsKT n k bs)
 row : ∀ i, i < k → Blk t W (bs i) row
 gt : ∀ i, i < k → rb < bs i
 rise : ∀ i j, i < j → j < k → bs i < bs j
theorem SQ.next {t tr : TypeId} {n k : Nat} {row : List Value} {rb : Nat} {bs : Nat → Nat} {W W' : World} (h : SQ t tr n k row rb bs W) (hk : k < n) (hb : Below W.heap.size W W') {b : Nat} (hB : Blk t W' b row) (hlt : W.heap.size ≤ b) : SQ t tr n (k + 1) row rb (updN bs k b) (W'.setCell ⟨rb, k, none⟩ (.slice (some ⟨b, 0, none⟩) n n)) := by
 have hrb := h.rows.lt
 have hu : ∀ i, i < k → updN bs k b i = bs i := fun i hi => by unfold updN; rw [if_neg (by omega)]
 have hk' : updN bs k b k = b := by simp [updN]
 refine ⟨?_, fun i hi => ?_, fun i hi => ?_, fun i j hij hj => ?_⟩
 ·rw [← rowsK_set hk]
  exact (h.rows.go hb).set k _
 ·by_cases e : i = k
  ·subst e; rw [hk']; exact hB.other (by show b ≠ rb; omega) _
  ·rw [hu i (by omega)]
   have h1 := h.gt i (by omega)
   exact ((h.row i (by omega)).go hb).other (by show bs i ≠ rb; omega) _
 ·by_cases e : i = k
  ·subst e; rw [hk']; omega
  ·rw [hu i (by omega)]; exact h.gt i (by omega)
 ·by_cases e : j = k
  ·subst e
   rw [hk', hu i hij]
   have := (h.row i hij).lt
   omega
  ·rw [hu i (by omega), hu j (by omega)]; exact h.rise i j hij (by omega)
theorem squareI_any (v : Int) (n : Nat) (hn0 : 0 < n) (hn : n ≤ 4194304) (w : World) :
  Calls Tryz.prog 160 #[.int .i64 (n : Int), .int .i64 v] w fun e w' => ∃ rb bs, e = .returned (.slice (some ⟨rb, 0, none⟩) n n) ∧ SQ 3 27 n n (List.replicate n (.int .i64 v)) rb bs w' ∧ Below w.heap.size w w' ∧ w.heap.size ≤ rb := by
 obtain ⟨i0, hi, hz0, hz1, hz2⟩ := info_parts infoSlT
 go_enter Tryz.func160, Tryz.ntmps160
 go_wp2_with (at_make; refine wpList_make_full _ rfl _ _ 35 rfl w.heap.size 27 i0 (.slice none 0 0) 1 Tryz.underlying35 hi hz0 hz1 .i64 .i64 _ _ n rfl rfl rfl rfl (by rw [hz2]; omega) (by unfold maxLen; omega) (by simp) ?_; intro w3 hown hgrow)
 have hbw : Below w.heap.size w w3 := (Below.refl _ _).grown hgrow (Nat.le_refl _) (fun k e => by cases e)
 have hrow := Blk.made hown
 have hsz := hrow.lt
 rw [slices_madeKT, ← rowsK_zero n id] at hrow
 have HSQ : Hid (SQ 3 27 n 0 (List.replicate n (.int .i64 v)) w.heap.size id w3) := ⟨hrow, fun i hi => absurd hi (by omega), fun i hi => absurd hi (by omega), fun i j _ hj => absurd hj (by omega)⟩
 have HBW : Hid (Below w.heap.size w w3) := hbw
 clear hown hgrow hrow hbw hi hz0 hz1 hz2
 obtain ⟨x, hx⟩ : ∃ x, w.heap.size = x := ⟨_, rfl⟩
 rw [hx] at HSQ HBW hsz ⊢
 go_wp2
 go_loopw [11] (fun i wr => ∃ (k : Nat) (bs : Nat → Nat), k ≤ n ∧ i = .int .i64 k ∧ Hid (SQ 3 27 n k (List.replicate n (.int .i64 v)) x bs wr) ∧ Hid (Tch x w3 wr)) (fun i _ => n - (intOf i).toNat)
 case atStart => exact ⟨0, id, Nat.zero_le _, rfl, HSQ, Tch.refl _ _⟩
 case round =>
  obtain ⟨k, bs, hk, rfl, HS, HT⟩ := hrel
  by_cases hlt : k < n
  ·have hkl : (k : Int) < (n : Int) := by omega
   have t0 : wr.cell? ⟨x, k, none⟩ = some (.slice none 0 0) := HS.out.rows.cell (by rw [rowsK_atT hlt, if_neg (by omega)])
   have hal : Below wr.heap.size wr (wr.alloc (.cells #[.int .i64 v] 3)) := (Below.refl _ _).alloc (Nat.le_refl _) _
   have hrp := repeat_any v n (by omega) wr.heap.size (wr.alloc (.cells #[.int .i64 v] 3)) (new_cell rfl rfl)
   have hs1 : (wr.alloc (.cells #[.int .i64 v] 3)).heap.size = wr.heap.size + 1 := by simp
   rw [hs1] at hrp
   have HAL : Hid _ := hal
   have HS1 : Hid _ := hs1
   have hxl : x < wr.heap.size := HS.out.rows.lt
   have hfz := HS.out.rows.frozen k
   clear hal hs1
   go_wp2_with fail
   refine hrp.mono ?_
   rintro e w5 ⟨g, rfl, hg, hB5, hb5⟩
   have hb6 : Below wr.heap.size wr w5 := HAL.out.trans (hb5.mono (by omega))
   have HN : Hid _ := HS.out.next hlt hb6 hB5 (by omega)
   have HTN : Hid (Tch x w3 (w5.setCell ⟨x, k, none⟩ (.slice (some ⟨g, 0, none⟩) n n))) := (HT.out.trans (Tch.of_below hb6)).set k _
   have t1 := (hb6.cell (p := ⟨x, k, none⟩) hxl).trans t0
   have f1 : w5.frozen? ⟨x, k, none⟩ = false := (HS.out.rows.go hb6).frozen k
   clear hrp hB5 hb5 hb6 HS HT t0 HAL HS1 hfz
   go_wp2
   exact ⟨⟨k + 1, _, by omega, by go_num, HN, HTN⟩, by simp [intOf]; omega⟩
  ·obtain rfl : k = n := by omega
   have HBf : Hid (Below x w wr) := HT.out.below HBW.out (by omega) (by omega)
   have HSf : Hid _ := HS.out
   clear HT HS
   go_wp2
   go_ret
   exact ⟨x, bs, rfl, HSf.out, by rw [hx]; exact HBf.out, by omega⟩
end Go.Proofs.YtalflecmadacaaaGreat
