import Derived.Test.YtjpkojmjiaoifaaGreatZBD
import Derived.Test.YtjpkojmjiaoifaaGreatXRNear
import Derived.Test.YtjpkojmjiaoifaaGreatZBS
namespace Go.Proofs.YtjpkojmjiaoifaaGreat
open Go Go.Proofs Go.RowKit
def mostN (LL : List (List Int)) : Nat := LL.foldl (fun a x => if a < x.length + 1 then x.length + 1 else a) 0
theorem mostN_take {LL : List (List Int)} {j : Nat} (h : j < LL.length) : mostN (LL.take (j + 1)) = if mostN (LL.take j) < LL[j].length + 1 then LL[j].length + 1 else mostN (LL.take j) := by
 rw [List.take_add_one, List.getElem?_eq_getElem h]
 unfold mostN
 rw [List.foldl_append]
 rfl
theorem mostN_le {B : Nat} {LL : List (List Int)} (hB : ∀ x ∈ LL, x.length + 1 ≤ B) : ∀ j, mostN (LL.take j) ≤ B := by
 intro j
 induction j with
 | zero => simp [mostN]
 | succ j ih =>
  by_cases h : j < LL.length
  ·rw [mostN_take h]
   have := hB _ (List.getElem_mem h)
   split <;> omega
  ·rw [List.take_of_length_le (by omega)]
   rw [List.take_of_length_le (by omega)] at ih
   exact ih
theorem mostN_ge {LL : List (List Int)} : ∀ j (i : Nat) (hi : i < LL.length), i < j → LL[i].length < mostN (LL.take j) := by
 intro j
 induction j with
 | zero => intro i _ h; omega
 | succ j ih =>
  intro i hi hij
  by_cases h : j < LL.length
  ·rw [mostN_take h]
   by_cases e : i = j
   ·subst e; split <;> omega
   ·have := ih i hi (by omega)
    split <;> omega
  ·rw [List.take_of_length_le (by omega)]
   have := ih i hi (by omega)
   rw [List.take_of_length_le (by omega)] at this
   exact this
def grS (l : List Ed) (st : List Int × List Int) (v : Int) : List Int × List Int := (st.1.set v.toNat (hueL st.1 v.toNat st.2 (nb l v)), markT st.1 v st.2 (nb l v))
def grA (N : Nat) (l : List Ed) (m : Nat) (P : List Int) : List Int × List Int := P.foldl (grS l) (List.replicate N (-1), List.replicate m (-1))
theorem grA_take (N : Nat) (l : List Ed) (m : Nat) {P : List Int} {j : Nat} (h : j < P.length) : grA N l m (P.take (j + 1)) = grS l (grA N l m (P.take j)) P[j] := by
 rw [List.take_add_one, List.getElem?_eq_getElem h]
 unfold grA
 rw [List.foldl_append]
 rfl
theorem take_not {L : List Int} (hn : L.Nodup) {j : Nat} (h : j < L.length) : L[j] ∉ L.take j := fun hm => by
 have h1 : (L.take j ++ L.drop j).Nodup := by rw [List.take_append_drop]; exact hn
 have h2 : L[j] ∈ L.drop j := List.mem_of_getElem? (i := 0) (by rw [List.getElem?_drop, Nat.add_zero, List.getElem?_eq_getElem h])
 exact (List.nodup_append.1 h1).2.2 _ hm _ h2 rfl
set_option maxRecDepth 100000 in
set_option maxHeartbeats 8000000 in
theorem greedy_any (N : Nat) (l : List Ed) (hR : RightG (N : Int) l) (P : List Int) (hP : Ord P (N : Int)) (sv ov : Value) (w : World) (hl : Edges w.heap.size w sv l) (ho : Ints w.heap.size w ov P) :
  Calls Tryz.prog 14 #[.agg #[.int .i64 (N : Int), sv], ov] w fun e w' => ∃ g, e = .returned (.tuple #[.slice (some ⟨g, 0, none⟩) N N, .int .i64 0]) ∧ w.heap.size ≤ g ∧ Blk 3 w' g ((grA N l (mostN (nearL N l)) P).1.map (Value.int .i64)) ∧ Below w.heap.size w w' := by
 obtain ⟨p, c, rfl⟩ := hl.len
 obtain ⟨q, d, rfl⟩ := ho.len
 have hn1 := hR.n1
 have hm1 := hR.m1
 have hbA : Below w.heap.size w (w.alloc (.cells #[.int .i64 (N : Int), .slice p l.length c] 24)) := (Below.refl _ _).alloc (Nat.le_refl _) _
 have hX : Blk 24 (w.alloc (.cells #[.int .i64 (N : Int), .slice p l.length c] 24)) w.heap.size [.int .i64 (N : Int), .slice p l.length c] := heap_alloc_new w _
 have q0 := hX.cell (j := 0) rfl
 have q1 := hX.cell (j := 1) rfl
 have hrc := right_any (N : Int) l (.slice p l.length c) _ (hl.go hbA)
 rw [right_iff.2 hR] at hrc
 have HL : Hid (Edges w.heap.size w (.slice p l.length c) l) := hl
 have HO : Hid (Ints w.heap.size w (.slice q P.length d) P) := ho
 have HR : Hid (RightG (N : Int) l) := hR
 have HP : Hid (Ord P (N : Int)) := hP
 have HX : Hid (Blk 24 (w.alloc (.cells #[.int .i64 (N : Int), .slice p l.length c] 24)) w.heap.size [.int .i64 (N : Int), .slice p l.length c]) := hX
 have HBA : Hid (Below w.heap.size w (w.alloc (.cells #[.int .i64 (N : Int), .slice p l.length c] 24))) := hbA
 clear hl ho hR hX hbA hP
 go_enter Tryz.func14, Tryz.ntmps14
 go_wp2_with fail
 generalize w.alloc (.cells #[.int .i64 (N : Int), .slice p l.length c] 24) = w1 at *
 refine hrc.mono ?_
 clear hrc
 rintro e w2 ⟨rfl, hg2⟩
 have HB2 : Hid (Below w.heap.size w w2) := HBA.out.trans (hg2.below.mono HBA.out.size)
 have HX2 : Hid (Blk 24 w2 w.heap.size [.int .i64 (N : Int), .slice p l.length c]) := HX.out.go hg2.below
 clear q0 q1 HBA HX hg2
 have q0 := HX2.out.cell (j := 0) rfl
 have hio := isOrderC_any P N (by omega) (.slice q P.length d) w2 (HO.out.go HB2.out)
 rw [(ordB_iff P (N : Int)).2 HP.out] at hio
 go_wp2_with fail
 refine hio.mono ?_
 clear hio
 rintro e w3 ⟨rfl, hb3⟩
 have HB3 : Hid (Below w.heap.size w w3) := HB2.out.trans (hb3.mono HB2.out.size)
 have HX3 : Hid (Blk 24 w3 w.heap.size [.int .i64 (N : Int), .slice p l.length c]) := HX2.out.go hb3
 clear q0 HB2 HX2 hb3
 have q0 := HX3.out.cell (j := 0) rfl
 have q1 := HX3.out.cell (j := 1) rfl
 have hnr := near_any N l HR.out (.slice p l.length c) w3 (HL.out.go HB3.out)
 go_wp2_with fail
 refine hnr.mono ?_
 clear hnr
 rintro e w4 ⟨nv, rfl, hL4, hb4⟩
 obtain ⟨pn, cn, rfl⟩ := hL4.len
 have HB4 : Hid (Below w.heap.size w w4) := HB3.out.trans (hb4.mono HB3.out.size)
 have HX4 : Hid (Blk 24 w4 w.heap.size [.int .i64 (N : Int), .slice p l.length c]) := HX3.out.go hb4
 have HL4 : Hid (Lsts w4.heap.size w4 (.slice pn (nearL N l).length cn) (nearL N l)) := hL4
 have HNL : Hid ((nearL N l).length = N) := nearL_len N l
 have HSM : Hid (∀ x ∈ nearL N l, x.length + 1 ≤ 4194305) := fun x hx => by
  unfold nearL at hx
  obtain ⟨v, _, rfl⟩ := List.mem_map.1 hx
  have := nb_len (v : Int) l
  omega
 have HAT : Hid (∀ v, v < N → (nearL N l)[v]? = some (nb l (v : Int))) := fun v hv => nearL_at hv
 have hnl : (nearL N l).length ≤ 1048576 := by have := nearL_len N l; omega
 clear q0 q1 HB3 HX3 hb4 hL4
 generalize hLL : nearL N l = LL at *
 have HLL : Hid (nearL N l = LL) := hLL
 clear hLL
 go_wp2
 go_loop [7, 27] (fun mv iv => ∃ j : Nat, j ≤ LL.length ∧ mv = .int .i64 (mostN (LL.take j) : Nat) ∧ iv = .int .i64 j) (fun _ iv => LL.length - (intOf iv).toNat)
 case atStart => exact ⟨0, Nat.zero_le _, rfl, rfl⟩
 case round =>
  obtain ⟨j, hj, rfl, rfl⟩ := hrel
  have hml := mostN_le HSM.out j
  by_cases hlt : j < LL.length
  ·have hjl : (j : Int) < (LL.length : Int) := by omega
   obtain ⟨bc, oc, rfl, hbc, hcc, px, kx, hIx, c0⟩ := HL4.out.cellAt hlt
   have hx := HSM.out _ (List.getElem_mem hlt)
   have HS : Hid _ := mostN_take hlt
   generalize mostN (LL.take j) = g at *
   generalize LL[j].length = x at *
   clear hIx
   have hxI : ((x : Int) + 1) = ((x + 1 : Nat) : Int) := by omega
   rcases Nat.lt_trichotomy g (x + 1) with h1 | h1 | h1
   ·have HM : Hid (mostN (LL.take (j + 1)) = x + 1) := HS.out.trans (if_pos h1)
    have h1I : (g : Int) < (x : Int) + 1 := by omega
    clear HS h1 hxI
    go_wp2
    exact ⟨⟨j + 1, by omega, by rw [HM.out]; first | rfl | (congr 1; omega), by go_num⟩, by simp [intOf]; omega⟩
   ·subst h1
    have HM : Hid (mostN (LL.take (j + 1)) = x + 1) := HS.out.trans (if_neg (by omega))
    clear HS hxI
    go_wp2
    exact ⟨⟨j + 1, by omega, by rw [HM.out]; first | rfl | (congr 1; omega), by go_num⟩, by simp [intOf]; omega⟩
   ·have HM : Hid (mostN (LL.take (j + 1)) = g) := HS.out.trans (if_neg (by omega))
    have h1I : (x : Int) + 1 < (g : Int) := by omega
    clear HS h1 hxI
    go_wp2
    exact ⟨⟨j + 1, by omega, by first | (rw [HM.out]; done) | (rw [HM.out]; congr 1; omega), by go_num⟩, by simp [intOf]; omega⟩
  ·have hjn : j = LL.length := by omega
   have hjl : ¬ (j : Int) < (LL.length : Int) := by omega
   have HMO : Hid (mostN (LL.take j) = mostN LL) := by
    unfold Hid
    rw [hjn, List.take_length]
   have HBG : Hid (∀ v, v < N → (nb l (v : Int)).length < mostN LL) := fun v hv => by
    have h1 := HAT.out v hv
    obtain ⟨h2, h3⟩ := List.getElem?_eq_some_iff.1 h1
    have h4 := mostN_ge (LL := LL) LL.length v h2 h2
    rw [List.take_length] at h4
    rw [h3] at h4
    exact h4
   have hml2 : mostN LL ≤ 4194305 := by rw [← HMO.out]; exact hml
   rw [HMO.out]
   clear hml
   clear hjn
   generalize hmm : mostN LL = m at *
   have HMM : Hid (mostN LL = m) := hmm
   clear hmm
   have q0 := HX4.out.cell (j := 0) rfl
   have hnp := newPainter_any N m (by omega) (by omega) w4
   go_wp2_with fail
   refine hnp.mono ?_
   clear hnp
   rintro e w5 ⟨pb, gc, gt, rfl, hpb, hgc, hgt, hPT, hb5⟩
   have HB5 : Hid (Below w.heap.size w w5) := HB4.out.trans (hb5.mono HB4.out.size)
   have HO5 : Hid (Ints w4.heap.size w4 (.slice q P.length d) P) := HO.out.go HB4.out
   have hPl : P.length = N := by have := HP.out.1; omega
   have hPb : P.length ≤ 1048576 := by omega
   have HGS : Hid (0 < N → GS m (grA N l m []).1 (grA N l m []).2 []) := fun h => GS.start N m (by have := HBG.out 0 h; omega)
   have HPT : Hid (PT pb gc gt N m (grA N l m []).1 (grA N l m []).2 w5) := hPT
   have HB45 : Hid (Below w4.heap.size w4 w5) := hb5
   have hws := HB4.out.size
   have HGT : Hid (w4.heap.size ≤ gc ∧ w4.heap.size ≤ gt) := ⟨hgc, hgt⟩
   have HWG : Hid (w.heap.size ≤ gc) := Nat.le_trans hws hgc
   clear q0 hPT hb5 hgt hgc hPl
   go_wp2
   go_loopw [43] (fun iv wr => ∃ j : Nat, j ≤ P.length ∧ iv = .int .i64 j ∧ PT pb gc gt N m (grA N l m (P.take j)).1 (grA N l m (P.take j)).2 wr ∧ Hid (0 < N → GS m (grA N l m (P.take j)).1 (grA N l m (P.take j)).2 (P.take j)) ∧ Below w4.heap.size w4 wr) (fun iv _ => P.length - (intOf iv).toNat)
   case atStart => exact ⟨0, Nat.zero_le _, rfl, HPT.out, HGS, HB45.out⟩
   case round =>
    clear HPT HGS HB45
    obtain ⟨j, hj, rfl, hPj, HGj, hbj⟩ := hrel
    by_cases hlt : j < P.length
    ·have hjl : (j : Int) < (P.length : Int) := by omega
     obtain ⟨b, off, rfl, hbb, hcap, hcc⟩ := HO5.out.open hlt
     have c0 := hcc wr hbj j hlt
     have hrng := HP.out.2.1 _ (List.getElem_mem hlt)
     have hnot := take_not HP.out.2.2 hlt
     obtain ⟨v, hv⟩ : ∃ v : Nat, P[j] = (v : Int) := ⟨P[j].toNat, by omega⟩
     have hvN : v < N := by omega
     have hvL : v < LL.length := by rw [HNL.out]; exact hvN
     have hnb : LL[v] = nb l (v : Int) := by
      have h1 := HAT.out v hvN
      rw [List.getElem?_eq_getElem hvL] at h1
      exact Option.some.inj h1
     obtain ⟨bc, oc, rfl, hbc, hcc2, px, kx, hIx, d0⟩ := (HL4.out.below hbj).cellAt hvL
     rw [hnb] at hIx d0
     have hgs := HGj.out (by omega)
     rw [hv] at hnot
     have hfew := HBG.out v hvN
     have HTK : Hid (P.take (j + 1) = P.take j ++ [(v : Int)]) := by
      unfold Hid
      rw [List.take_add_one, List.getElem?_eq_getElem hlt, hv]
      rfl
     have HGA : Hid (grA N l m (P.take (j + 1)) = ((grA N l m (P.take j)).1.set v (hueL (grA N l m (P.take j)).1 v (grA N l m (P.take j)).2 (nb l (v : Int))), markT (grA N l m (P.take j)).1 (v : Int) (grA N l m (P.take j)).2 (nb l (v : Int)))) := by
      unfold Hid
      rw [grA_take N l m hlt, hv]
      rfl
     have HGN : Hid (GS m ((grA N l m (P.take j)).1.set v (hueL (grA N l m (P.take j)).1 v (grA N l m (P.take j)).2 (nb l (v : Int)))) (markT (grA N l m (P.take j)).1 (v : Int) (grA N l m (P.take j)).2 (nb l (v : Int))) (P.take j ++ [(v : Int)])) := hgs.paint hnot hfew
     have hpt := paint_any pb gc gt N m (by omega) (grA N l m (P.take j)).1 (grA N l m (P.take j)).2 (nb l (v : Int)) v hvN (by omega) (fun u hu => by
      obtain ⟨_, h1, h2, _⟩ := nb_mutual HR.out hu
      exact ⟨u.toNat, by omega, by omega, hgs.small u.toNat⟩) _ w4.heap.size wr hPj hIx (fun x hx => by have := HGT.out; omega) hbj.size
     rw [hv] at c0
     have hvI : (v : Int) < (LL.length : Int) := by omega
     have HBJ : Hid (Below w4.heap.size w4 wr) := hbj
     clear hcc hrng hnot hv hnb hgs hfew hIx hPj HGj hbj
     go_wp2_with fail
     refine hpt.mono ?_
     clear hpt
     rintro e w6 ⟨rfl, hP6, hk6, ho6, ht6, hu6, hs6⟩
     have HB6 : Hid (Below w4.heap.size w4 w6) := HBJ.out.trans ⟨ho6, ht6, hu6, Nat.le_trans (by have := HBJ.out.size; omega) hs6, fun x hx => hk6 x (by have := HBJ.out.size; omega) (by have := HGT.out; omega) (by have := HGT.out; omega)⟩
     have HP6 : Hid (PT pb gc gt N m (grA N l m (P.take (j + 1))).1 (grA N l m (P.take (j + 1))).2 w6) := by
      rw [HGA.out]
      exact hP6
     have HG6 : Hid (0 < N → GS m (grA N l m (P.take (j + 1))).1 (grA N l m (P.take (j + 1))).2 (P.take (j + 1))) := fun _ => by
      rw [HGA.out, HTK.out]
      exact HGN.out
     clear hP6 hk6 ho6 ht6 hu6 hs6 HGA HGN HTK
     go_wp2
     exact ⟨⟨j + 1, by omega, by go_num, HP6.out, HG6, HB6.out⟩, by simp [intOf]; omega⟩
    ·have hjn : j = P.length := by omega
     have hjl : ¬ (j : Int) < (P.length : Int) := by omega
     rw [hjn, List.take_length] at hPj
     have p0 := hPj.var.cell (j := 0) rfl
     have HF : Hid (Blk 3 wr gc ((grA N l m P).1.map (Value.int .i64)) ∧ Below w.heap.size w wr) := ⟨hPj.col, HB4.out.trans (hbj.mono hws)⟩
     clear hPj hbj HGj hjn
     go_wp2
     refine bodyPost_ret (results_tmp2 rfl _ _ _) rfl ?_
     refine ⟨gc, rfl, HWG.out, ?_, HF.out.2⟩
     rw [HLL.out, HMM.out]
     exact HF.out.1
end Go.Proofs.YtjpkojmjiaoifaaGreat

namespace Go.Proofs.YtjpkojmjiaoifaaGreat
open Go Go.Proofs Go.RowKit
def exT : List Ed := [(0, 1, 0), (0, 2, 0), (1, 2, 0)]
def exR : List (List Int) := [[1, 2], [2, 0], [0, 1]]
theorem ex_right : RightG (3 : Int) exT := right_iff.1 (by decide)
theorem ex_sys : SysR 3 exT exR := by
 refine ⟨rfl, fun v hv => ?_⟩
 match v, hv with
 | 0, _ => decide
 | 1, _ => decide
 | 2, _ => decide
theorem ex_nums : numsL 3 exT exR = [2] := by kernel_rfl
end Go.Proofs.YtjpkojmjiaoifaaGreat
