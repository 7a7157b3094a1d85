import Derived.Test.YtalflecmadacaaaGreatZAU
import Derived.Test.YtalflecmadacaaaGreatZAQ
import Derived.Deep.QuietTactic
import Derived.BigQuiet
import Derived.Deep.RegionHeld3
import Derived.Test.YtalflecmadacaaaGreatZAR
import Derived.Test.YtalflecmadacaaaGreatZAA
set_option maxRecDepth 100000
set_option maxHeartbeats 8000000
namespace Go.Proofs.YtalflecmadacaaaGreat
open Go Go.Proofs Go.RowKit
theorem QpF:(Tryz.prog.info? 2).map (fun i=>(i.zero,i.size,i.bytes))=some (some (.int .i64 0),1,8):=by kernel_rfl
theorem QlK:(Tryz.prog.info? 2).map (·.size)=some 1:=by kernel_rfl
theorem Qis {w3:World}{base g n:Nat}(v:Int)(hown:w3.ownsRow base 2 1 (.slice (some ⟨g,0,none⟩) n n) n (madeCells (Value.int .i64 0).cells (n*1)).toList):w3.heap[g]? = some (.cells (repH n 0 v).toArray 2 (0,0)):=by
 have h1:=Blk.made hown
 rw [QaK,List.map_replicate,← Qeg n v] at h1
 exact h1
theorem Qed (v:Int)(n:Nat)(hn:n≤8388608)(b:Nat)(w:World)(hb:w.cell? ⟨b,0,none⟩=some (.int .i64 v)):
  Calls Tryz.prog 133 #[.slice (some ⟨b,0,none⟩) 1 1,.int .i64 (n:Int)] w fun e w'=>∃ g,e = .returned (.slice (some ⟨g,0,none⟩) n n)∧w.heap.size≤g∧Blk 2 w' g (List.replicate n (.int .i64 v))∧Below w.heap.size w w':=by
 obtain⟨i0,hi,hz0,hz1,hz2⟩:=info_parts QpF
 have hmul:=Tryz.bits_Mul 1 n (by decide) (by omega) w
 rw [Nat.one_mul,Nat.div_eq_of_lt (by omega),Nat.mod_eq_of_lt (by omega)] at hmul
 have hn0:¬ (n:Int)<0:=by omega
 go_enter Tryz.func133,Tryz.ntmps133
 go_wp2_with fail
 refine hmul.mono ?_
 clear hmul
 rintro e w2 ⟨rfl,rfl⟩
 have hnb:decide ((9223372036854775807:Int)<(n:Int))=false:=decide_eq_false (by omega)
 have hbl:=World.block_lt_of_cell? w2 _ hb
 by_cases hz:n=0
 ·subst hz
  go_wp2_with (at_make;refine wpList_make_full _ rfl _ _ 48 rfl w2.heap.size 2 i0 (.int .i64 0) 1 Tryz.underlying48 hi hz0 hz1 .i64 .i64 _ _ 0 rfl rfl rfl rfl (by rw [hz2];omega) (by unfold maxLen;omega) YA ?_;intro w3 hown hgrow;have hb3:Below w2.heap.size w2 w3:=YD.grown hgrow YA (fun k e=>by cases e);have HB3:Hid (Below w2.heap.size w2 w3):=hb3;have HRW:Hid _:=Qis v hown;have hcp:=run_copy_none (P:=Tryz.prog) w3 48 48 3 2 (some ⟨w2.heap.size,0,none⟩) (some ⟨b,0,none⟩) 0 0 1 1 Tryz.underlying48 QlK rfl;clear hown hgrow hb3)
  go_wp2
  clear hcp
  go_loopw [8] (fun jv wr=>jv = .int .i64 0∧Hid (wr.heap[w2.heap.size]? = some (.cells (repH 0 0 v).toArray 2 (0,0)))∧Below w2.heap.size w2 wr) (fun _ _=>0)
  case atStart=>exact⟨rfl,HRW,HB3.out⟩
  case round=>
   obtain⟨rfl,HRJ,hbj⟩:=hrel
   have HRF:Hid (Blk 2 wr w2.heap.size (List.replicate 0 (.int .i64 v))):=HRJ.out
   have HB:Hid (Below w2.heap.size w2 wr):=hbj
   clear HRJ hbj
   go_wp2
   go_ret
   exact⟨w2.heap.size,rfl,YA,HRF.out,HB.out⟩
 ·have hmn:Nat.min 1 n=1:=Nat.min_eq_left (by omega)
  have HMN:Hid _:=hmn
  clear hmn
  go_wp2_with (at_make;refine wpList_make_full _ rfl _ _ 48 rfl w2.heap.size 2 i0 (.int .i64 0) 1 Tryz.underlying48 hi hz0 hz1 .i64 .i64 _ _ n rfl rfl rfl rfl (by rw [hz2];omega) (by unfold maxLen;omega) YA ?_;intro w3 hown hgrow;have hb3:Below w2.heap.size w2 w3:=YD.grown hgrow YA (fun k e=>by cases e);have HB3:Hid (Below w2.heap.size w2 w3):=hb3;have HRW:Hid _:=Qis v hown;have hcp:=run_copy_row (P:=Tryz.prog) w3 48 48 3 2 w2.heap.size 0 n n ⟨b,0,none⟩ 1 1 (repH n 0 v).toArray 2 [.int .i64 v] Tryz.underlying48 QlK HRW.out HMN.out.symm (Qee ((hb3.cell (p:=⟨b,0,none⟩) hbl).trans hb)) (by rw [List.size_toArray,QdQ YN];simp;omega) (Qef 1 v);clear hown hgrow hb3)
  obtain⟨w4,hw4⟩:∃ W,w3.setRow w2.heap.size (Value.int .i64 v :: (repH n 0 v).tail).toArray=W:=⟨_,rfl⟩
  have HR4:Hid (w4.heap[w2.heap.size]? = some (.cells (repH n 1 v).toArray 2 (0,0))):=by
   rw [← hw4,← Qe2 (by omega) v]
   exact setRow_heap w3 w2.heap.size _ _ 2 (0,0) HRW.out
  have HB4:Hid (Below w2.heap.size w2 w4):=by
   rw [← hw4]
   exact below_setRow HB3.out YA _
  rw [hw4]
  clear hw4 hcp
  go_loopw [8] (fun jv wr=>∃ j:Nat,j≤n∧(0<n→0<j)∧jv = .int .i64 j∧Hid (wr.heap[w2.heap.size]? = some (.cells (repH n j v).toArray 2 (0,0)))∧Below w2.heap.size w2 wr) (fun jv _=>n-(intOf jv).toNat)
  case atStart=>exact⟨1,by omega,fun _=>by omega,rfl,HR4,HB4.out⟩
  case round=>
   obtain⟨j,hj,hjp,rfl,HRJ,hbj⟩:=hrel
   by_cases hlt:j<n
   ·have hjl:(j:Int)<((n:Nat):Int):=by omega
    have hj0:=hjp (by omega)
    have hm1:Nat.min j (n-j)≤n-j:=Nat.min_le_right _ _
    have hm2:Nat.min j (n-j)≤j:=Nat.min_le_left _ _
    have hm3:0<Nat.min j (n-j):=Nat.lt_min.2 ⟨hj0,by omega⟩
    have HMM:Hid _:=And.intro hm1 (And.intro hm2 hm3)
    have HSP:Hid _:=QbM (n:=n) (j:=j) (m:=Nat.min j (n-j)) (by omega) v
    have HLN:Hid ((List.replicate (Nat.min j (n-j)) (Value.int .i64 v)).length=Nat.min j (n-j)):=List.length_replicate ..
    have HB:Hid (Below w2.heap.size w2 wr):=hbj
    have HFT:Hid _:=Qhv (n:=n) (j:=j) (m:=Nat.min j (n-j)) (v:=v) (by omega)
    have HSR:Hid (∀ i,i<Nat.min j (n-j)→wr.drew.cell? ⟨w2.heap.size,0+i,none⟩=some (.int .i64 v)):=fun i hi=>by
     have h1:Blk 2 wr w2.heap.size (repH n j v):=HRJ.out
     rw [Nat.zero_add]
     exact h1.cell (Qhx (by omega))
    have HLT:Hid (j<n):=hlt
    clear hbj hjp hm1 hm2 hm3
    go_wp2_with fail
    refine wp_region_held_drew (S:=(fun _:World=>True)) (by kernel_rfl) trivial (fun hHeld=>?_)
    refine tH 0 ?_
    try simp only [YS]
    refine tH 1 ?_
    refine tH 2 ?_
    refine tH 3 ?_
    try simp only [YS,YT,YU]
    refine tH 4 ?_
    refine tH 5 ?_
    refine tH 6 ?_
    try simp only [YS,YT,YU]
    refine wpAnyH_ready (rs:=[7]) (by kernel_rfl) (by simp) ?_
    refine AllReadyH.cons rfl (fun K hK=>?_) AllReadyH.nil
    refine step_copy_splice rfl _ _ 48 48 rfl 2 Tryz.underlying48 QlK (some ⟨w2.heap.size,j,none⟩) (some ⟨w2.heap.size,0,none⟩) (n-j) (n-j) j n ?hd ?hs w2.heap.size j (repH n j v) 2 HRJ.out (List.replicate (Nat.min j (n-j)) (.int .i64 v)) HLN.out (QkF HSR.out) HFT.out (Qef _ v) w2.heap.size w2 (Qaa HB.out 1) YA ?_
    case hd=>
     show Value.slice (if n=j then some _ else some _) _ _=_
     rw [if_neg (by have:=HLT.out;omega)]
    case hs=>rfl
    intro w5 hr5 hb5
    rw [HLN.out]
    have HR5:Hid (w5.heap[w2.heap.size]? = some (.cells (repH n (j+Nat.min j (n-j)) v).toArray 2 (0,0))):=by
     have h1:=hr5.out
     rw [HSP.out] at h1
     exact h1
    have HB5:Hid (Below w2.heap.size w2 w5):=hb5
    refine hK.out _ _ trivial (fun _=>?_)
    clear hK K hr5 hb5 HSP HLN HFT HSR HRJ HB hHeld
    have hmm:=HMM.out
    clear HMM
    generalize Nat.min j (n-j)=m at *
    obtain⟨hm1,hm2,hm3⟩:=hmm
    have hwr:=QaU ((j:Int)+(m:Int)) (by omega) (by have:=HLT.out;omega)
    try simp only [Act.put,YS]
    refine tH 8 ?_
    refine tH 9 ?_
    refine wpAnyH_done (by kernel_rfl) ?_ _
    go_wp2
    have hlt2:=HLT.out
    exact⟨⟨j+m,by omega,fun _=>by omega,by go_num,HR5,HB5.out⟩,by simp [intOf];omega⟩
   ·have hjn:j=n:=by omega
    have hjl:¬ (j:Int)<((n:Nat):Int):=by omega
    have HRF:Hid (Blk 2 wr w2.heap.size (List.replicate n (.int .i64 v))):=by
     have h1:=HRJ.out
     rw [hjn,Qeh] at h1
     exact h1
    clear hjn
    have HB:Hid (Below w2.heap.size w2 wr):=hbj
    clear HRJ hbj hjp
    go_wp2
    go_ret
    exact⟨w2.heap.size,rfl,YA,HRF.out,HB.out⟩
def Qb3 (n k:Nat)(bs:Nat→Nat):List Value:=(List.range n).map fun i=>if i<k then Value.slice (some ⟨bs i,0,none⟩) n n else .slice none 0 0
theorem Qdj (n k:Nat)(bs:Nat→Nat):(Qb3 n k bs).length=n:=by simp [Qb3]
theorem Qb2 {n k:Nat}{bs:Nat→Nat}{i:Nat}(h:i<n):(Qb3 n k bs)[i]? = some (if i<k then Value.slice (some ⟨bs i,0,none⟩) n n else .slice none 0 0):=by simp [Qb3,h]
theorem Qdi (n:Nat)(bs:Nat→Nat):Qb3 n 0 bs=List.replicate n (.slice none 0 0):=by
 apply List.ext_getElem <;> simp [Qb3]
def updN (bs:Nat→Nat)(k b:Nat):Nat→Nat:=fun i=>if i=k then b else bs i
theorem QkC {n k:Nat}{bs:Nat→Nat}(h:k<n)(b:Nat):(Qb3 n k bs).set k (.slice (some ⟨b,0,none⟩) n n)=Qb3 n (k+1) (updN bs k b):=by
 apply List.ext_getElem?
 intro i
 by_cases hi:i<n
 ·rw [List.getElem?_set,Qb2 hi,Qb2 hi,Qdj]
  by_cases e:k=i
  ·subst e;simp [updN,h]
  ·have h1:(i<k+1)=(i<k):=by
    apply propext;omega
   have h2:updN bs k b i=bs i:=by unfold updN;rw [if_neg (by omega)]
   rw [if_neg e,h2]
   simp only [h1]
 ·rw [YL (by simp [Qdj];omega),YL (by rw [Qdj];omega)]
structure SQ (t tr:TypeId)(n k:Nat)(row:List Value)(rb:Nat)(bs:Nat→Nat)(W:World):Prop where
 rows:Blk tr W rb (Qb3 n k bs)
 row:∀ i,i<k→Blk t W (bs i) row
 gt:∀ i,i<k→rb<bs i
 rise:∀ i j,i<j→j<k→bs i<bs j
theorem SQ.next {t tr:TypeId}{n k:Nat}{row:List Value}{rb:Nat}{bs:Nat→Nat}{W W':World}(h:SQ t tr n k row rb bs W)(hk:k<n)(hb:Below W.heap.size W W'){b:Nat}(hB:Blk t W' b row)(hlt:W.heap.size≤b):SQ t tr n (k+1) row rb (updN bs k b) (W'.setCell ⟨rb,k,none⟩ (.slice (some ⟨b,0,none⟩) n n)):=by
 have hrb:=h.rows.lt
 have hu:∀ i,i<k→updN bs k b i=bs i:=fun i hi=>by unfold updN;rw [if_neg (by omega)]
 have hk':updN bs k b k=b:=by simp [updN]
 refine⟨?_,fun i hi=>?_,fun i hi=>?_,fun i j hij hj=>?_⟩
 ·rw [← QkC hk]
  exact (h.rows.go hb).set k _
 ·by_cases e:i=k
  ·subst e;rw [hk'];exact hB.other (by show b≠rb;omega) _
  ·rw [hu i (by omega)]
   have h1:=h.gt i (by omega)
   exact ((h.row i (by omega)).go hb).other (by show bs i≠rb;omega) _
 ·by_cases e:i=k
  ·subst e;rw [hk'];omega
  ·rw [hu i (by omega)];exact h.gt i (by omega)
 ·by_cases e:j=k
  ·subst e
   rw [hk',hu i hij]
   have:=(h.row i hij).lt
   omega
  ·rw [hu i (by omega),hu j (by omega)];exact h.rise i j hij (by omega)
theorem Qhr (v:Int)(n:Nat)(hn0:0<n)(hn:n≤4194304)(w:World):
  Calls Tryz.prog 160 #[.int .i64 (n:Int),.int .i64 v] w fun e w'=>∃ rb bs,e = .returned (.slice (some ⟨rb,0,none⟩) n n)∧SQ 3 27 n n (List.replicate n (.int .i64 v)) rb bs w'∧Below w.heap.size w w'∧w.heap.size≤rb:=by
 obtain⟨i0,hi,hz0,hz1,hz2⟩:=info_parts QlH
 go_enter Tryz.func160,Tryz.ntmps160
 go_wp2_with (at_make;refine wpList_make_full _ rfl _ _ 35 rfl w.heap.size 27 i0 (.slice none 0 0) 1 Tryz.underlying35 hi hz0 hz1 .i64 .i64 _ _ n rfl rfl rfl rfl (by rw [hz2];omega) (by unfold maxLen;omega) (by simp) ?_;intro w3 hown hgrow)
 have hbw:Below w.heap.size w w3:=YD.grown hgrow YA (fun k e=>by cases e)
 have hrow:=Blk.made hown
 have hsz:=hrow.lt
 rw [Qbb,← Qdi n id] at hrow
 have HSQ:Hid (SQ 3 27 n 0 (List.replicate n (.int .i64 v)) w.heap.size id w3):=⟨hrow,fun i hi=>absurd hi (by omega),fun i hi=>absurd hi (by omega),fun i j _ hj=>absurd hj (by omega)⟩
 have HBW:Hid (Below w.heap.size w w3):=hbw
 clear hown hgrow hrow hbw hi hz0 hz1 hz2
 obtain⟨x,hx⟩:∃ x,w.heap.size=x:=⟨_,rfl⟩
 rw [hx] at HSQ HBW hsz ⊢
 go_wp2
 go_loopw [11] (fun i wr=>∃ (k:Nat) (bs:Nat→Nat),k≤n∧i = .int .i64 k∧Hid (SQ 3 27 n k (List.replicate n (.int .i64 v)) x bs wr)∧Hid (Tch x w3 wr)) (fun i _=>n-(intOf i).toNat)
 case atStart=>exact⟨0,id,YN,rfl,HSQ,Tch.refl _ _⟩
 case round=>
  obtain⟨k,bs,hk,rfl,HS,HT⟩:=hrel
  by_cases hlt:k<n
  ·have hkl:(k:Int)<(n:Int):=by omega
   have t0:wr.cell? ⟨x,k,none⟩=some (.slice none 0 0):=HS.out.rows.cell (by rw [Qb2 hlt,if_neg (by omega)])
   have hal:Below wr.heap.size wr (wr.alloc (.cells #[.int .i64 v] 3)):=YD.alloc YA _
   have hrp:=Qe1 v n (by omega) wr.heap.size (wr.alloc (.cells #[.int .i64 v] 3)) (Qam rfl rfl)
   have hs1:(wr.alloc (.cells #[.int .i64 v] 3)).heap.size=wr.heap.size+1:=by simp
   rw [hs1] at hrp
   have HAL:Hid _:=hal
   have HS1:Hid _:=hs1
   have hxl:x<wr.heap.size:=HS.out.rows.lt
   have hfz:=HS.out.rows.frozen k
   clear hal hs1
   go_wp2_with fail
   refine hrp.mono ?_
   rintro e w5 ⟨g,rfl,hg,hB5,hb5⟩
   have hb6:Below wr.heap.size wr w5:=HAL.out.trans (hb5.mono (by omega))
   have HN:Hid _:=HS.out.next hlt hb6 hB5 (by omega)
   have HTN:Hid (Tch x w3 (w5.setCell ⟨x,k,none⟩ (.slice (some ⟨g,0,none⟩) n n))):=(HT.out.trans (Tch.of_below hb6)).set k _
   have t1:=(hb6.cell (p:=⟨x,k,none⟩) hxl).trans t0
   have f1:w5.frozen? ⟨x,k,none⟩=false:=(HS.out.rows.go hb6).frozen k
   clear hrp hB5 hb5 hb6 HS HT t0 HAL HS1 hfz
   go_wp2
   exact⟨⟨k+1,_,by omega,by go_num,HN,HTN⟩,by simp [intOf];omega⟩
  ·obtain rfl:k=n:=by omega
   have HBf:Hid (Below x w wr):=HT.out.below HBW.out (by omega) (by omega)
   have HSf:Hid _:=HS.out
   clear HT HS
   go_wp2
   go_ret
   exact⟨x,bs,rfl,HSf.out,by rw [hx];exact HBf.out,by omega⟩
theorem Qo0:(Tryz.prog.info? 48).map (fun i=>(i.zero,i.size,i.bytes))=some (some (.slice none 0 0),1,24):=by kernel_rfl
theorem Qhs (v:Int)(n:Nat)(hn0:0<n)(hn:n≤4194304)(w:World):
  Calls Tryz.prog 137 #[.int .i64 (n:Int),.int .i64 v] w fun e w'=>∃ rb bs,e = .returned (.slice (some ⟨rb,0,none⟩) n n)∧SQ 2 48 n n (List.replicate n (.int .i64 v)) rb bs w'∧Below w.heap.size w w'∧w.heap.size≤rb:=by
 obtain⟨i0,hi,hz0,hz1,hz2⟩:=info_parts Qo0
 go_enter Tryz.func137,Tryz.ntmps137
 go_wp2_with (at_make;refine wpList_make_full _ rfl _ _ 166 rfl w.heap.size 48 i0 (.slice none 0 0) 1 Tryz.underlying166 hi hz0 hz1 .i64 .i64 _ _ n rfl rfl rfl rfl (by rw [hz2];omega) (by unfold maxLen;omega) (by simp) ?_;intro w3 hown hgrow)
 have hbw:Below w.heap.size w w3:=YD.grown hgrow YA (fun k e=>by cases e)
 have hrow:=Blk.made hown
 have hsz:=hrow.lt
 rw [Qbb,← Qdi n id] at hrow
 have HSQ:Hid (SQ 2 48 n 0 (List.replicate n (.int .i64 v)) w.heap.size id w3):=⟨hrow,fun i hi=>absurd hi (by omega),fun i hi=>absurd hi (by omega),fun i j _ hj=>absurd hj (by omega)⟩
 have HBW:Hid (Below w.heap.size w w3):=hbw
 clear hown hgrow hrow hbw hi hz0 hz1 hz2
 obtain⟨x,hx⟩:∃ x,w.heap.size=x:=⟨_,rfl⟩
 rw [hx] at HSQ HBW hsz ⊢
 go_wp2
 go_loopw [11] (fun i wr=>∃ (k:Nat) (bs:Nat→Nat),k≤n∧i = .int .i64 k∧Hid (SQ 2 48 n k (List.replicate n (.int .i64 v)) x bs wr)∧Hid (Tch x w3 wr)) (fun i _=>n-(intOf i).toNat)
 case atStart=>exact⟨0,id,YN,rfl,HSQ,Tch.refl _ _⟩
 case round=>
  obtain⟨k,bs,hk,rfl,HS,HT⟩:=hrel
  by_cases hlt:k<n
  ·have hkl:(k:Int)<(n:Int):=by omega
   have t0:wr.cell? ⟨x,k,none⟩=some (.slice none 0 0):=HS.out.rows.cell (by rw [Qb2 hlt,if_neg (by omega)])
   have hal:Below wr.heap.size wr (wr.alloc (.cells #[.int .i64 v] 2)):=YD.alloc YA _
   have hrp:=Qed v n (by omega) wr.heap.size (wr.alloc (.cells #[.int .i64 v] 2)) (Qam rfl rfl)
   have hs1:(wr.alloc (.cells #[.int .i64 v] 2)).heap.size=wr.heap.size+1:=by simp
   rw [hs1] at hrp
   have HAL:Hid _:=hal
   have HS1:Hid _:=hs1
   have hxl:x<wr.heap.size:=HS.out.rows.lt
   have hfz:=HS.out.rows.frozen k
   clear hal hs1
   go_wp2_with fail
   refine hrp.mono ?_
   rintro e w5 ⟨g,rfl,hg,hB5,hb5⟩
   have hb6:Below wr.heap.size wr w5:=HAL.out.trans (hb5.mono (by omega))
   have HN:Hid _:=HS.out.next hlt hb6 hB5 (by omega)
   have HTN:Hid (Tch x w3 (w5.setCell ⟨x,k,none⟩ (.slice (some ⟨g,0,none⟩) n n))):=(HT.out.trans (Tch.of_below hb6)).set k _
   have t1:=(hb6.cell (p:=⟨x,k,none⟩) hxl).trans t0
   have f1:w5.frozen? ⟨x,k,none⟩=false:=(HS.out.rows.go hb6).frozen k
   clear hrp hB5 hb5 hb6 HS HT t0 HAL HS1 hfz
   go_wp2
   exact⟨⟨k+1,_,by omega,by go_num,HN,HTN⟩,by simp [intOf];omega⟩
  ·obtain rfl:k=n:=by omega
   have HBf:Hid (Below x w wr):=HT.out.below HBW.out (by omega) (by omega)
   have HSf:Hid _:=HS.out
   clear HT HS
   go_wp2
   go_ret
   exact⟨x,bs,rfl,HSf.out,by rw [hx];exact HBf.out,by omega⟩
theorem QpE:(Tryz.prog.info? 171).map (fun i=>(i.zero,i.size,i.bytes))=some (some (.agg #[.int .i64 0,.int .i64 0]),2,16):=by kernel_rfl
theorem QlJ:(Tryz.prog.info? 171).map (·.size)=some 2:=by kernel_rfl
theorem QoU (n:Nat):(madeCells (Value.agg #[.int .i64 0,.int .i64 0]).cells (n*2)).toList=List.replicate (n*2) (Value.int .i64 0):=by
 apply List.ext_getElem
 ·simp [madeCells]
 ·intro i h1 h2
  simp [madeCells,Value.cells]
  rcases Nat.mod_two_eq_zero_or_one i with e | e <;> simp [e]
theorem Qgn {P:Program}(w:World)(dT sT ty elem:TypeId)(g o dLen dCap:Nat)(a:Addr)(sLen sCap:Nat)(cur:Array Value)(t:TypeId)(cs:List Value)
  (hu:P.underlying dT=some (.slice elem)) (hs:(P.info? elem).map (·.size)=some 2)
  (hg:w.heap[g]? = some (.cells cur t (0,0))) (m:Nat) (hm:m=Nat.min sLen dLen) (hn:cs.length=m*2)
  (hsrc:∀ j v,cs[j]? = some v→w.cell? (a.add j)=some v) (hfit:o+cs.length≤cur.size) (h1:∀ v∈cs,v.oneCell'=true) :
  (Builtin.copy_ #[dT,sT] ty #[.slice (some ⟨g,o,none⟩) dLen dCap,.slice (some a) sLen sCap]).run P w =
   .ok (goInt m) (w.setRow g (splice cur.toList o cs).toArray):=by
 have hl:=run_loadCells_list (P:=P) w a cs hsrc
 have hst:=run_storeCells_at P g o t cs 0 cur w hg (by simpa using hfit) h1
 cases hq:P.info? elem with
 | none=>simp [hq] at hs
 | some i=>
  have hi:i.size=2:=by simpa [hq] using hs
  rw [hn] at hl
  simp [Builtin.copy_,run_underlying hu,Builtin.lenOf,Builtin.firstCells,sizeOf,typeInfo,hq,hi,← hm,hl,hst,splice]
theorem Qi9 {P:Program}{ops:Array Oper}{o:Oper}{a:Act}{w:World}{K:Act→World→Prop}{Q:Exit→Act→World→Prop}{E:Prop}(hgd:o.guard=none)(d s:Operand)(dT sT:TypeId)
  (ho:o.op = .call { callee:=.builtin .copy,args:=#[d,s],argTypes:=#[dT,sT] }) (elem:TypeId) (hu:P.underlying dT=some (.slice elem)) (hsz:(P.info? elem).map (·.size)=some 2)
  (ad:Addr) (dLen dCap sLen sCap:Nat) (g off:Nat) (hd:a.eval d = .slice (some ⟨g,off,none⟩) dLen dCap) (hs:a.eval s = .slice (some ad) sLen sCap)
  (cur:List Value) (t:TypeId) (hg:w.heap[g]? = some (.cells cur.toArray t (0,0))) (cs:List Value) (m:Nat) (hm:m=Nat.min sLen dLen) (hn:cs.length=m*2)
  (hsrc:∀ j v,cs[j]? = some v→w.cell? (ad.add j)=some v)
  (hfit:off+cs.length≤cur.length) (h1:∀ v∈cs,v.oneCell'=true) (B:Nat) (w0:World) (hb:RowKit.Below B w0 w) (hBg:B≤g)
  (h:∀ w',Hid (w'.heap[g]? = some (.cells (splice cur off cs).toArray t (0,0)))→RowKit.Below B w0 w'→K (a.put o.dst (goInt m)) w') :
  if Region.wanted o (yielded ops a.tmps)=true then Oper.wp P o a w K Q else E:=by
 have hw:Region.wanted o (yielded ops a.tmps)=true:=by simp [Region.wanted,hgd]
 rw [if_pos hw]
 have hrun:=Qgn (P:=P) w dT sT o.type elem g off dLen dCap ad sLen sCap cur.toArray t cs hu hsz hg m hm hn hsrc (by simpa using hfit) h1
 unfold Oper.wp
 simp [execOp,ho,resolve,invoke,builtin,hd,hs,hrun,Result.andThen]
 exact h _ (by show _=_;simpa using setRow_heap w g _ _ t _ hg) (below_setRow hb hBg _)
theorem QmI {w3:World}{base g n:Nat}(v:Int)(hown:w3.ownsRow base 171 2 (.slice (some ⟨g,0,none⟩) n n) n (madeCells (Value.agg #[.int .i64 0,.int .i64 0]).cells (n*2)).toList):w3.heap[g]? = some (.cells (repH (n*2) 0 v).toArray 171 (0,0)):=by
 have h1:=Blk.made hown
 rw [QoU,← Qeg (n*2) v] at h1
 exact h1
theorem QmH {w3:World}{b:Nat}{v:Int}(h0:w3.cell? ⟨b,0,none⟩=some (.int .i64 v))(h1:w3.cell? ⟨b,1,none⟩=some (.int .i64 v)):∀ j u,[Value.int .i64 v,Value.int .i64 v][j]? = some u→w3.cell? ((⟨b,0,none⟩:Addr).add j)=some u:=fun j u hu=>by
 have hj:=(YE hu).1
 rw [Go.WideShapes.add_plain]
 have hj2:j=0∨j=1:=by simp at hj;omega
 rcases hj2 with rfl | rfl
 ·cases hu;exact h0
 ·cases hu;exact h1
theorem Qjl {n:Nat}(h:0<n)(v:Int):splice (repH (n*2) 0 v) 0 [.int .i64 v,.int .i64 v]=repH (n*2) 2 v:=by
 obtain⟨m,rfl⟩:∃ m,n=m+1:=⟨n-1,by omega⟩
 have:=QbM (n:=(m+1)*2) (j:=0) (m:=2) (by omega) v
 simpa [List.replicate_succ] using this
theorem QkH {w3:World}{b m:Nat}{v:Int}(hc:∀ j,j<m*2→w3.cell? ⟨b,0+j,none⟩=some (.int .i64 v)):∀ j u,(List.replicate (m*2) (Value.int .i64 v))[j]? = some u→w3.cell? ((⟨b,0,none⟩:Addr).add j)=some u:=fun j u hu=>by
 have hj:=(YE hu).1
 rw [List.length_replicate] at hj
 rw [List.eq_of_mem_replicate (YK hu),Go.WideShapes.add_plain]
 exact hc j hj
theorem Qhu (v:Int)(n:Nat)(hn0:0<n)(hn:n≤4194304)(b:Nat)(w:World)(hb:w.cell? ⟨b,0,none⟩=some (.int .i64 v))(hb1:w.cell? ⟨b,1,none⟩=some (.int .i64 v)):
  Calls Tryz.prog 161 #[.slice (some ⟨b,0,none⟩) 1 1,.int .i64 (n:Int)] w fun e w'=>∃ g,e = .returned (.slice (some ⟨g,0,none⟩) n n)∧w.heap.size≤g∧Blk 171 w' g (List.replicate (n*2) (.int .i64 v))∧Below w.heap.size w w':=by
 obtain⟨i0,hi,hz0,hz1,hz2⟩:=info_parts QpE
 have hmul:=Tryz.bits_Mul 1 n (by decide) (by omega) w
 rw [Nat.one_mul,Nat.div_eq_of_lt (by omega),Nat.mod_eq_of_lt (by omega)] at hmul
 have hn0':¬ (n:Int)<0:=by omega
 go_enter Tryz.func161,Tryz.ntmps161
 go_wp2_with fail
 refine hmul.mono ?_
 clear hmul
 rintro e w2 ⟨rfl,rfl⟩
 have hnb:decide ((9223372036854775807:Int)<(n:Int))=false:=decide_eq_false (by omega)
 have hbl:=World.block_lt_of_cell? w2 _ hb
 have hmn:Nat.min 1 n=1:=Nat.min_eq_left (by omega)
 have HMN:Hid _:=hmn
 clear hmn
 go_wp2_with (at_make;refine wpList_make_full _ rfl _ _ 176 rfl w2.heap.size 171 i0 (.agg #[.int .i64 0,.int .i64 0]) 2 Tryz.underlying176 hi hz0 hz1 .i64 .i64 _ _ n rfl rfl rfl rfl (by rw [hz2];omega) (by unfold maxLen;omega) YA ?_;intro w3 hown hgrow;have hb3:Below w2.heap.size w2 w3:=YD.grown hgrow YA (fun k e=>by cases e);have HB3:Hid (Below w2.heap.size w2 w3):=hb3;have HRW:Hid _:=QmI v hown;have hcp:=Qgn (P:=Tryz.prog) w3 176 176 3 171 w2.heap.size 0 n n ⟨b,0,none⟩ 1 1 (repH (n*2) 0 v).toArray 171 [.int .i64 v,.int .i64 v] Tryz.underlying176 QlJ HRW.out 1 HMN.out.symm rfl (QmH ((hb3.cell (p:=⟨b,0,none⟩) hbl).trans hb) ((hb3.cell (p:=⟨b,1,none⟩) hbl).trans hb1)) (by rw [List.size_toArray,QdQ YN];simp;omega) (by intro u hu;simp at hu;subst hu;rfl);clear hown hgrow hb3)
 obtain⟨w4,hw4⟩:∃ W,w3.setRow w2.heap.size (splice (repH (n*2) 0 v) 0 [Value.int .i64 v,Value.int .i64 v]).toArray=W:=⟨_,rfl⟩
 have HR4:Hid (w4.heap[w2.heap.size]? = some (.cells (repH (n*2) (1*2) v).toArray 171 (0,0))):=by
  rw [← hw4,Qjl hn0 v]
  exact setRow_heap w3 w2.heap.size _ _ 171 (0,0) HRW.out
 have HB4:Hid (Below w2.heap.size w2 w4):=by
  rw [← hw4]
  exact below_setRow HB3.out YA _
 rw [hw4]
 clear hw4 hcp HRW HB3
 go_loopw [8] (fun jv wr=>∃ j:Nat,j≤n∧0<j∧jv = .int .i64 j∧Hid (wr.heap[w2.heap.size]? = some (.cells (repH (n*2) (j*2) v).toArray 171 (0,0)))∧Below w2.heap.size w2 wr) (fun jv _=>n-(intOf jv).toNat)
 case atStart=>exact⟨1,by omega,by omega,rfl,HR4,HB4.out⟩
 case round=>
  obtain⟨j,hj,hj0,rfl,HRJ,hbj⟩:=hrel
  by_cases hlt:j<n
  ·have hjl:(j:Int)<((n:Nat):Int):=by omega
   have hm1:Nat.min j (n-j)≤n-j:=Nat.min_le_right _ _
   have hm2:Nat.min j (n-j)≤j:=Nat.min_le_left _ _
   have hm3:0<Nat.min j (n-j):=Nat.lt_min.2 ⟨hj0,by omega⟩
   have HMM:Hid _:=And.intro hm1 (And.intro hm2 hm3)
   have HSP:Hid (splice (repH (n*2) (j*2) v) (j*2) (List.replicate (Nat.min j (n-j)*2) (.int .i64 v))=repH (n*2) ((j+Nat.min j (n-j))*2) v):=by
    have:=QbM (n:=n*2) (j:=j*2) (m:=Nat.min j (n-j)*2) (by omega) v
    rw [← Nat.add_mul] at this
    exact this
   have HLN:Hid ((List.replicate (Nat.min j (n-j)*2) (Value.int .i64 v)).length=Nat.min j (n-j)*2):=List.length_replicate ..
   have HB:Hid (Below w2.heap.size w2 wr):=hbj
   have HFT:Hid _:=Qhv (n:=n*2) (j:=j*2) (m:=Nat.min j (n-j)*2) (v:=v) (by omega)
   have HSR:Hid (∀ i,i<Nat.min j (n-j)*2→wr.drew.cell? ⟨w2.heap.size,0+i,none⟩=some (.int .i64 v)):=fun i hi=>by
    have h1:Blk 171 wr w2.heap.size (repH (n*2) (j*2) v):=HRJ.out
    rw [Nat.zero_add]
    exact h1.cell (Qhx (by omega))
   have HLT:Hid (j<n):=hlt
   clear hbj hm1 hm2 hm3
   go_wp2_with fail
   refine wp_region_held_drew (S:=(fun _:World=>True)) (by kernel_rfl) trivial (fun hHeld=>?_)
   refine tH 0 ?_
   try simp only [YS]
   refine tH 1 ?_
   refine tH 2 ?_
   refine tH 3 ?_
   try simp only [YS,YT,YU]
   refine tH 4 ?_
   refine tH 5 ?_
   refine tH 6 ?_
   try simp only [YS,YT,YU]
   refine wpAnyH_ready (rs:=[7]) (by kernel_rfl) (by simp) ?_
   refine AllReadyH.cons rfl (fun K hK=>?_) AllReadyH.nil
   refine Qi9 rfl _ _ 176 176 rfl 171 Tryz.underlying176 QlJ ⟨w2.heap.size,0,none⟩ (n-j) (n-j) j n w2.heap.size (j*2) ?hd ?hs (repH (n*2) (j*2) v) 171 HRJ.out (List.replicate (Nat.min j (n-j)*2) (.int .i64 v)) (Nat.min j (n-j)) rfl HLN.out (QkH HSR.out) HFT.out (Qef _ v) w2.heap.size w2 (Qaa HB.out 1) YA ?_
   case hd=>
    show Value.slice (if n=j then some _ else some _) _ _=_
    rw [if_neg (by have:=HLT.out;omega)]
   case hs=>rfl
   intro w5 hr5 hb5
   have HR5:Hid (w5.heap[w2.heap.size]? = some (.cells (repH (n*2) ((j+Nat.min j (n-j))*2) v).toArray 171 (0,0))):=by
    have h1:=hr5.out
    rw [HSP.out] at h1
    exact h1
   have HB5:Hid (Below w2.heap.size w2 w5):=hb5
   refine hK.out _ _ trivial (fun _=>?_)
   clear hK K hr5 hb5 HSP HLN HFT HSR HRJ HB hHeld
   have hmm:=HMM.out
   clear HMM
   generalize Nat.min j (n-j)=m at *
   obtain⟨hm1,hm2,hm3⟩:=hmm
   have hwr:=QaU ((j:Int)+(m:Int)) (by omega) (by have:=HLT.out;omega)
   try simp only [Act.put,YS]
   refine tH 8 ?_
   refine tH 9 ?_
   refine wpAnyH_done (by kernel_rfl) ?_ _
   go_wp2
   have hlt2:=HLT.out
   exact⟨⟨j+m,by omega,by omega,by go_num,HR5,HB5.out⟩,by simp [intOf];omega⟩
  ·have hjn:j=n:=by omega
   have hjl:¬ (j:Int)<((n:Nat):Int):=by omega
   have HRF:Hid (Blk 171 wr w2.heap.size (List.replicate (n*2) (.int .i64 v))):=by
    have h1:=HRJ.out
    rw [hjn,Qeh] at h1
    exact h1
   clear hjn
   have HB:Hid (Below w2.heap.size w2 wr):=hbj
   clear HRJ hbj
   go_wp2
   go_ret
   exact⟨w2.heap.size,rfl,YA,HRF.out,HB.out⟩
theorem QoZ:(Tryz.prog.info? 176).map (fun i=>(i.zero,i.size,i.bytes))=some (some (.slice none 0 0),1,24):=by kernel_rfl
theorem Qhq (v:Int)(n:Nat)(hn0:0<n)(hn:n≤4194304)(w:World):
  Calls Tryz.prog 138 #[.int .i64 (n:Int),.agg #[.int .i64 v,.int .i64 v]] w fun e w'=>∃ rb bs,e = .returned (.slice (some ⟨rb,0,none⟩) n n)∧SQ 171 176 n n (List.replicate (n*2) (.int .i64 v)) rb bs w'∧Below w.heap.size w w'∧w.heap.size≤rb:=by
 obtain⟨i0,hi,hz0,hz1,hz2⟩:=info_parts QoZ
 have E1:Hid ((w.alloc (.cells #[.int .i64 v,.int .i64 v] 171)).heap.size=w.heap.size+1):=by show _=_;simp
 go_enter Tryz.func138,Tryz.ntmps138
 go_wp2_with (at_make;refine wpList_make_full _ rfl _ _ 168 rfl w.heap.size 176 i0 (.slice none 0 0) 1 Tryz.underlying168 hi hz0 hz1 .i64 .i64 _ _ n rfl rfl rfl rfl (by rw [hz2];omega) (by unfold maxLen;omega) (by simp) ?_;intro w3 hown hgrow)
 have hb3:Below (w.alloc (.cells #[.int .i64 v,.int .i64 v] 171)).heap.size (w.alloc (.cells #[.int .i64 v,.int .i64 v] 171)) w3:=YD.grown hgrow YA (fun k e=>by cases e)
 have q0:w3.cell? ⟨w.heap.size,0,none⟩=some (.int .i64 v):=(hb3.cell (p:=⟨w.heap.size,0,none⟩) (by rw [E1.out];exact Nat.lt_succ_self _)).trans (Qam rfl rfl)
 have q1:w3.cell? ⟨w.heap.size,1,none⟩=some (.int .i64 v):=(hb3.cell (p:=⟨w.heap.size,1,none⟩) (by rw [E1.out];exact Nat.lt_succ_self _)).trans (Qam rfl rfl)
 have hbw:Below w.heap.size w w3:=(YD.alloc YA _).trans (hb3.mono (by rw [E1.out];omega))
 rw [E1.out] at hown
 have hrow:=Blk.made hown
 have hsz:=hrow.lt
 rw [Qbb,← Qdi n id] at hrow
 have HSQ:Hid (SQ 171 176 n 0 (List.replicate (n*2) (.int .i64 v)) (w.heap.size+1) id w3):=⟨hrow,fun i hi=>absurd hi (by omega),fun i hi=>absurd hi (by omega),fun i j _ hj=>absurd hj (by omega)⟩
 have HBW:Hid (Below w.heap.size w w3):=hbw
 clear hown hgrow hb3 hrow hbw hi hz0 hz1 hz2 E1
 obtain⟨x,hx⟩:∃ x,w.heap.size=x:=⟨_,rfl⟩
 rw [hx] at HSQ HBW hsz q0 q1 ⊢
 go_wp2
 go_loopw [11] (fun i wr=>∃ (k:Nat) (bs:Nat→Nat),k≤n∧i = .int .i64 k∧Hid (SQ 171 176 n k (List.replicate (n*2) (.int .i64 v)) (x+1) bs wr)∧Hid (Tch (x+1) w3 wr)) (fun i _=>n-(intOf i).toNat)
 case atStart=>exact⟨0,id,YN,rfl,HSQ,Tch.refl _ _⟩
 case round=>
  obtain⟨k,bs,hk,rfl,HS,HT⟩:=hrel
  have c0:=HT.out.cell q0 (by omega)
  have c1:=HT.out.cell q1 (by omega)
  by_cases hlt:k<n
  ·have hkl:(k:Int)<(n:Int):=by omega
   have t0:wr.cell? ⟨x+1,k,none⟩=some (.slice none 0 0):=HS.out.rows.cell (by rw [Qb2 hlt,if_neg (by omega)])
   have hal:Below wr.heap.size wr (wr.alloc (.cells #[.int .i64 v,.int .i64 v] 171)):=YD.alloc YA _
   have hrp:=Qhu v n hn0 (by omega) wr.heap.size (wr.alloc (.cells #[.int .i64 v,.int .i64 v] 171)) (Qam rfl rfl) (Qam rfl rfl)
   have hs1:(wr.alloc (.cells #[.int .i64 v,.int .i64 v] 171)).heap.size=wr.heap.size+1:=by simp
   rw [hs1] at hrp
   have HAL:Hid _:=hal
   have HS1:Hid _:=hs1
   have hxl:x+1<wr.heap.size:=HS.out.rows.lt
   have hfz:=HS.out.rows.frozen k
   clear hal hs1
   go_wp2_with fail
   refine hrp.mono ?_
   rintro e w5 ⟨g,rfl,hg,hB5,hb5⟩
   have hb6:Below wr.heap.size wr w5:=HAL.out.trans (hb5.mono (by omega))
   have HN:Hid _:=HS.out.next hlt hb6 hB5 (by omega)
   have HTN:Hid (Tch (x+1) w3 (w5.setCell ⟨x+1,k,none⟩ (.slice (some ⟨g,0,none⟩) n n))):=(HT.out.trans (Tch.of_below hb6)).set k _
   have t1:=(hb6.cell (p:=⟨x+1,k,none⟩) hxl).trans t0
   have f1:w5.frozen? ⟨x+1,k,none⟩=false:=(HS.out.rows.go hb6).frozen k
   clear hrp hB5 hb5 hb6 HS HT t0 c0 c1 HAL HS1 hfz
   go_wp2
   exact⟨⟨k+1,_,by omega,by go_num,HN,HTN⟩,by simp [intOf];omega⟩
  ·obtain rfl:k=n:=by omega
   have HBf:Hid (Below x w wr):=HT.out.below HBW.out (by omega) (by omega)
   have HSf:Hid _:=HS.out
   clear HT HS c0 c1
   go_wp2
   go_ret
   exact⟨x+1,bs,rfl,HSf.out,by rw [hx];exact HBf.out,by omega⟩
def L2 (c:Nat):List Eg:=[(1,0,c)]
theorem QnR {p:Option Addr}{q c:Nat}{w:World}(h:Edges w.heap.size w (.slice p 1 q) ((L2 c).map edE)):∃ b off,p=some ⟨b,off,none⟩∧b<w.heap.size∧1≤q∧∀ W',Below w.heap.size w W'→W'.cell? ⟨b,off,none⟩=some (.int .i64 1)∧W'.cell? ⟨b,off+1,none⟩=some (.int .i64 0)∧W'.cell? ⟨b,off+2,none⟩=some (.int .i64 (c:Int)):=by
 obtain⟨b,off,h1,h2,h3,h4⟩:=Edges.eg (L:=L2 c) (j:=0) h (by simp [L2])
 refine⟨b,off,h1,h2,h3,fun W' hW=>?_⟩
 have:=h4 W' hW 0 (by simp [L2])
 simpa [L2] using this
theorem QfK (v:Int)(sv:Value)(w:World)(h0:0≤v)(h1:v<2)(hs:∃ p k c,sv = .slice p k c):Calls Tryz.prog 158 #[.agg #[.int .i64 2,sv],.int .i64 v] w fun r w'=>r = .returned (.bool true)∧Grew w w':=by
 obtain⟨p,k,c,rfl⟩:=hs
 have hg1:Grew w (w.alloc (.cells #[.int .i64 2,.slice p k c] 24)):=(Grew.refl w).alloc _
 go_enter Tryz.func158,Tryz.ntmps158
 go_wp2
 go_ret
 exact⟨rfl,hg1⟩
theorem Qgc {w W':World}{a0 a1 b0 b1 b2:Value}{ta tb:TypeId}(h:Grew ((w.alloc (.cells #[a0,a1] ta)).alloc (.cells #[b0,b1,b2] tb)) W'):W'.cell? ⟨w.heap.size,0,none⟩=some a0∧W'.cell? ⟨w.heap.size,1,none⟩=some a1∧W'.cell? ⟨w.heap.size+1,0,none⟩=some b0∧W'.cell? ⟨w.heap.size+1,1,none⟩=some b1∧W'.cell? ⟨w.heap.size+1,2,none⟩=some b2:=by
 have h1:Blk ta (w.alloc (.cells #[a0,a1] ta)) w.heap.size [a0,a1]:=heap_alloc_new w _
 have h2:Blk tb ((w.alloc (.cells #[a0,a1] ta)).alloc (.cells #[b0,b1,b2] tb)) (w.alloc (.cells #[a0,a1] ta)).heap.size [b0,b1,b2]:=heap_alloc_new _ _
 have h3:=(h1.go (YD.alloc YA _:Below _ _ ((w.alloc (.cells #[a0,a1] ta)).alloc (.cells #[b0,b1,b2] tb)))).go h.below
 have h4:=h2.go h.below
 have e:(w.alloc (.cells #[a0,a1] ta)).heap.size=w.heap.size+1:=by simp
 rw [e] at h4
 exact⟨h3.cell (j:=0) rfl,h3.cell (j:=1) rfl,h4.cell (j:=0) rfl,h4.cell (j:=1) rfl,h4.cell (j:=2) rfl⟩
theorem Qlq (c:Nat)(hc:c<1099511627776)(sv:Value)(w:World)(hs:∃ p k c,sv = .slice p k c):Calls Tryz.prog 132 #[.agg #[.int .i64 2,sv],.agg #[.int .i64 1,.int .i64 0,.int .i64 (c:Int)]] w fun r w'=>r = .returned (.int .i64 0)∧Below w.heap.size w w':=by
 obtain⟨p,k,q,rfl⟩:=hs
 have hg1:Grew w ((w.alloc (.cells #[.int .i64 2,.slice p k q] 24)).alloc (.cells #[.int .i64 1,.int .i64 0,.int .i64 (c:Int)] 50)):=((Grew.refl w).alloc _).alloc _
 have hv:=fun v W a b=>QfK v (.slice p k q) W a b ⟨p,k,q,rfl⟩
 have hc1:decide ((c:Int)≤-1099511627776)=false:=decide_eq_false (by omega)
 have hc2:decide ((1099511627776:Int)≤(c:Int))=false:=decide_eq_false (by omega)
 go_enter Tryz.func132,Tryz.ntmps132
 go_wp2_with fail
 refine (hv 1 _ (by omega) (by omega)).mono ?_
 rintro e w2 ⟨rfl,hg2⟩
 obtain⟨x0,x1,y0,y1,y2⟩:=Qgc hg2
 go_wp2_with fail
 refine (hv 0 _ (by omega) (by omega)).mono ?_
 rintro e w3 ⟨rfl,hg3⟩
 have hg4:=hg2.trans hg3
 clear x0 x1 y0 y1 y2
 obtain⟨x0,x1,y0,y1,y2⟩:=Qgc hg4
 go_wp2
 go_ret
 exact⟨rfl,(hg1.trans hg4).below⟩
theorem Qjw (c:Nat)(hc:c<1099511627776)(p:Option Addr)(q:Nat)(w:World)(hl:Edges w.heap.size w (.slice p 1 q) ((L2 c).map edE)):Calls Tryz.prog 111 #[.agg #[.int .i64 2,.slice p 1 q]] w fun r w'=>r = .returned (.int .i64 0)∧Below w.heap.size w w':=by
 obtain⟨b,off,rfl,hb,hq,hcl⟩:=QnR hl
 have hx:Blk 24 (w.alloc (.cells #[.int .i64 2,.slice (some ⟨b,off,none⟩) 1 q] 24)) w.heap.size [.int .i64 2,.slice (some ⟨b,off,none⟩) 1 q]:=heap_alloc_new w _
 have hg1:Below w.heap.size w (w.alloc (.cells #[.int .i64 2,.slice (some ⟨b,off,none⟩) 1 q] 24)):=YD.alloc YA _
 have HX:Hid (Blk 24 (w.alloc (.cells #[.int .i64 2,.slice (some ⟨b,off,none⟩) 1 q] 24)) w.heap.size [.int .i64 2,.slice (some ⟨b,off,none⟩) 1 q]):=hx
 have HG:Hid _:=hg1
 have HC:Hid _:=hcl
 clear hx hg1 hcl hl
 go_enter Tryz.func111,Tryz.ntmps111
 go_wp2
 go_loopw [21] (fun i wr=>∃ j:Nat,j≤1∧i = .int .i64 j∧Below (w.alloc (.cells #[.int .i64 2,.slice (some ⟨b,off,none⟩) 1 q] 24)).heap.size (w.alloc (.cells #[.int .i64 2,.slice (some ⟨b,off,none⟩) 1 q] 24)) wr) (fun i _=>1-(intOf i).toNat)
 case atStart=>exact⟨0,by omega,rfl,YD⟩
 case round=>
  obtain⟨j,hj,rfl,hbr⟩:=hrel
  have hX:=HX.out.go hbr
  have x0:=hX.cell (j:=0) rfl
  have x1:=hX.cell (j:=1) rfl
  have hbw:=HG.out.trans (hbr.mono HG.out.size)
  by_cases hlt:j=0
  ·subst hlt
   obtain⟨c0,c1,c2⟩:=HC.out wr hbw
   have hf:=Qlq c hc (.slice (some ⟨b,off,none⟩) 1 q) (wr.alloc (.cells #[.int .i64 1,.int .i64 0,.int .i64 (c:Int)] 50)) ⟨_,_,_,rfl⟩
   have hbx:=hX.lt
   have HA:Hid (Below wr.heap.size wr (wr.alloc (.cells #[.int .i64 1,.int .i64 0,.int .i64 (c:Int)] 50))):=YD.alloc YA _
   clear hX
   go_wp2_with fail
   refine hf.mono ?_
   rintro e w3 ⟨rfl,hb3⟩
   have HB3:Hid (Below (w.alloc (.cells #[.int .i64 2,.slice (some ⟨b,off,none⟩) 1 q] 24)).heap.size (w.alloc (.cells #[.int .i64 2,.slice (some ⟨b,off,none⟩) 1 q] 24)) w3):=hbr.trans ((HA.out.trans (hb3.mono HA.out.size)).mono hbr.size)
   clear hf hb3 hbr x0 x1 c0 c1 c2
   go_wp2
   exact⟨⟨1,by omega,rfl,HB3.out⟩,by simp [intOf]⟩
  ·obtain rfl:j=1:=by omega
   have HBf:Hid _:=hbw
   clear hbw hX
   go_wp2
   go_ret
   exact⟨rfl,HBf.out⟩
theorem QhY (c:Nat)(hc:c<1099511627776)(p:Option Addr)(q:Nat)(w:World)(hl:Edges w.heap.size w (.slice p 1 q) ((L2 c).map edE)):Calls Tryz.prog 134 #[.agg #[.int .i64 2,.slice p 1 q]] w fun r w'=>r = .returned (.int .i64 (-(c:Int)))∧Below w.heap.size w w':=by
 obtain⟨b,off,rfl,hb,hq,hcl⟩:=QnR hl
 have hx:Blk 24 (w.alloc (.cells #[.int .i64 2,.slice (some ⟨b,off,none⟩) 1 q] 24)) w.heap.size [.int .i64 2,.slice (some ⟨b,off,none⟩) 1 q]:=heap_alloc_new w _
 have hg1:Below w.heap.size w (w.alloc (.cells #[.int .i64 2,.slice (some ⟨b,off,none⟩) 1 q] 24)):=YD.alloc YA _
 have HX:Hid (Blk 24 (w.alloc (.cells #[.int .i64 2,.slice (some ⟨b,off,none⟩) 1 q] 24)) w.heap.size [.int .i64 2,.slice (some ⟨b,off,none⟩) 1 q]):=hx
 have HG:Hid _:=hg1
 have HC:Hid _:=hcl
 have hm1:(-1099511627776:Int)≤-(c:Int):=by omega
 have hm2:(-1099511627776:Int) < -(c:Int):=by omega
 clear hx hg1 hcl hl
 go_enter Tryz.func134,Tryz.ntmps134
 go_wp2
 go_loopw [3,9] (fun mv i wr=>((i = .int .i64 0∧mv = .int .i64 (-1099511627776))∨(i = .int .i64 1∧mv = .int .i64 (-(c:Int))))∧Below (w.alloc (.cells #[.int .i64 2,.slice (some ⟨b,off,none⟩) 1 q] 24)).heap.size (w.alloc (.cells #[.int .i64 2,.slice (some ⟨b,off,none⟩) 1 q] 24)) wr) (fun _ i _=>1-(intOf i).toNat)
 case atStart=>exact⟨.inl ⟨rfl,rfl⟩,YD⟩
 case round=>
  obtain⟨hor,hbr⟩:=hrel
  have hX:=HX.out.go hbr
  have x0:=hX.cell (j:=0) rfl
  have x1:=hX.cell (j:=1) rfl
  have hbw:=HG.out.trans (hbr.mono HG.out.size)
  rcases hor with ⟨rfl,rfl⟩ | ⟨rfl,rfl⟩
  ·obtain⟨c0,c1,c2⟩:=HC.out wr hbw
   have hbx:=hX.lt
   have HB3:Hid (Below (w.alloc (.cells #[.int .i64 2,.slice (some ⟨b,off,none⟩) 1 q] 24)).heap.size (w.alloc (.cells #[.int .i64 2,.slice (some ⟨b,off,none⟩) 1 q] 24)) (wr.alloc (.cells #[.int .i64 1,.int .i64 0,.int .i64 (c:Int)] 50))):=hbr.alloc hbr.size _
   clear hX hbw hbr
   go_wp2
   exact⟨⟨.inr ⟨rfl,rfl⟩,HB3.out⟩,by simp [intOf]⟩
  ·have HBf:Hid _:=hbw
   clear hbw hX
   go_wp2
   go_ret
   exact⟨rfl,HBf.out⟩
end Go.Proofs.YtalflecmadacaaaGreat
