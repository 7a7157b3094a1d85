import Derived.Deep.QuietTactic
import Derived.BigQuiet
import Derived.OwnWalk
import Derived.Deep.LoopGhost
import Derived.Test.YtalflecmadacaaaGreatZAM
import Derived.WalkMore
import Derived.Test.YtalflecmadacaaaGreatZAA
import Derived.Test.YtalflecmadacaaaGreatZAK
import Derived.Test.YtalflecmadacaaaGreatZAH
import Derived.Test.YtalflecmadacaaaGreatZAI
set_option maxRecDepth 100000
set_option maxHeartbeats 8000000
namespace Go.Proofs.YtalflecmadacaaaGreat
open Go Go.Proofs Go.RowKit
def esS (l:List Ed)(SD:List Bool):List Ed:=l.filter fun e=>bAt SD e.1.toNat != bAt SD e.2.1.toNat
theorem esS_adj {l:List Ed}{SD:List Bool}{a b:Nat}:Adj (esS l SD) a b↔Adj l a b∧bAt SD a≠bAt SD b:=by
 constructor
 ·rintro⟨e,he,h⟩
  unfold esS at he
  obtain⟨h1,h4⟩:=List.mem_filter.1 he
  have h4:bAt SD e.1.toNat≠bAt SD e.2.1.toNat:=by simpa using h4
  rcases h with ⟨h5,h6⟩ | ⟨h5,h6⟩
  ·rw [h5,h6] at h4
   exact⟨⟨e,h1,.inl ⟨h5,h6⟩⟩,h4⟩
  ·rw [h5,h6] at h4
   exact⟨⟨e,h1,.inr ⟨h5,h6⟩⟩,Ne.symm h4⟩
 ·rintro⟨⟨e,h1,h⟩,h4⟩
  refine⟨e,?_,h⟩
  unfold esS
  refine List.mem_filter.2 ⟨h1,?_⟩
  rcases h with ⟨h5,h6⟩ | ⟨h5,h6⟩
  ·rw [h5,h6];simpa using h4
  ·rw [h5,h6];simpa using Ne.symm h4
theorem QnF {l:List Ed}{v:Int}{i:Nat}(hi:i<l.length)(h:l[i].1=v∨l[i].2.1=v):(i:Int)∈plOf v l:=by
 have hall:∀ k,k≤l.length→i<k→(i:Int)∈plOf v (l.take k):=by
  intro k
  induction k with
  | zero=>intro _ h;omega
  | succ k ih=>
   intro hk hik
   rw [Qes (by omega)]
   refine List.mem_append.2 ?_
   by_cases e:i=k
   ·subst e
    refine .inr ?_
    by_cases e1:l[i].1=v
    ·rw [if_pos e1];simp
    ·rw [if_neg e1,if_pos (h.resolve_left e1)];simp
   ·exact .inl (ih (by omega) (by omega))
 have:=hall l.length YA hi
 rwa [List.take_length] at this
theorem Qj4 {l:List Ed}{i v u u':Nat}(h:Joins l i v u)(h':Joins l i v u'):u=u':=by
 obtain⟨e,h1,h2⟩:=h
 obtain⟨e',h1',h2'⟩:=h'
 rw [h1] at h1'
 obtain rfl:=Option.some.inj h1'
 rcases h2 with ⟨a,b⟩ | ⟨a,b⟩ <;> rcases h2' with ⟨c,d⟩ | ⟨c,d⟩ <;> omega
def DoneP (l:List Ed)(P:List Int)(v q:Nat)(MT:List Bool):Prop:=∀ (q' i:Nat),q'<q→P[q']? = some (i:Int)→∀ u,Joins l i v u→bAt MT u=true
theorem Qm8 {T:List Bool}{u v:Nat}(hu:u<T.length)(h:bAt T v=true):bAt (T.set u true) v=true:=by
 rw [Qax hu]
 split
 ·rfl
 ·exact h
theorem DoneP.step {l:List Ed}{P:List Int}{v q:Nat}{MT MT':List Bool}(h:DoneP l P v q MT)(hm:∀ x,bAt MT x=true→bAt MT' x=true){i u:Nat}(hi:P[q]? = some (i:Int))(hj:Joins l i v u)(hu:bAt MT' u=true):DoneP l P v (q+1) MT':=by
 intro q' i' hq hP u' hj'
 by_cases e:q'=q
 ·subst e
  rw [hi] at hP
  have e2:i=i':=by
   have:=Option.some.inj hP
   omega
  subst e2
  rw [← Qj4 hj hj']
  exact hu
 ·exact hm _ (h q' i' (by omega) hP u' hj')
theorem DoneP.all {N:Nat}{l:List Ed}(hR:RightG (N:Int) l){v:Nat}{MT:List Bool}(h:DoneP l (plOf (v:Int) l) v (plOf (v:Int) l).length MT):∀ u,Adj l v u→bAt MT u=true:=by
 intro u hu
 obtain⟨i,e,h1,h2⟩:=Qdz hR hu
 obtain⟨hi,he⟩:=YE h1
 have hm:(i:Int)∈plOf (v:Int) l:=QnF hi (by rw [he];rcases h2 with ⟨a,_⟩ | ⟨_,b⟩;exact .inl a;exact .inr b)
 obtain⟨q,hq,hqe⟩:=List.getElem_of_mem hm
 exact h q i hq (by rw [YB hq,hqe]) u ⟨e,h1,h2⟩
theorem QhL (N:Nat)(l:List Ed)(hR:RightG (N:Int) l)(f:Nat)(caps:Array Value)(hent:∀ (args:Array Value) (W:World),(callFunc f args).run Tryz.prog W = .ok (.enter f args) W)(sv:Value)(w:World)(hl:Edges w.heap.size w sv l)(hf:∀ i:Nat,i<l.length→∀ W,Below w.heap.size w W→Calls Tryz.prog f (#[.int .i64 (i:Int)]++caps) W fun e w'=>e = .returned (.bool false)∧Below W.heap.size W w'):
  Calls Tryz.prog 35 #[.agg #[.int .i64 (N:Int),sv],.func (.func f) #[] caps] w fun r w'=>∃ (g:Nat) (SD:List Bool),r = .returned (.slice (some ⟨g,0,none⟩) N N)∧w.heap.size≤g∧Blk 4 w' g (SD.map Value.bool)∧SD.length=N∧(∀ u v,Adj l u v→Conn (esS l SD) u v)∧Below w.heap.size w w':=by
 have hmix:=mixed
 obtain⟨p,c,rfl⟩:=hl.len
 have hN:=hR.n1
 have hM:=hR.m1
 have HR:Hid (RightG (N:Int) l):=hR
 have HF:Hid _:=hf
 have HL:Hid (Edges w.heap.size w (.slice p l.length c) l):=hl
 obtain⟨w1,hw1⟩:∃ W,(w.alloc (.cells #[.int .i64 (N:Int),.slice p l.length c] 24))=W:=⟨_,rfl⟩
 have hb1:Below w.heap.size w w1:=by rw [← hw1];exact YD.alloc YA _
 have hX1:Blk 24 w1 w.heap.size [.int .i64 (N:Int),.slice p l.length c]:=by rw [← hw1];exact heap_alloc_new w _
 have hpl:=QdK N l hR (.slice p l.length c) w1 (hl.go hb1)
 have x0:=hX1.cell (j:=0) rfl
 have x1:=hX1.cell (j:=1) rfl
 have HX1:Hid (Blk 24 w1 w.heap.size [.int .i64 (N:Int),.slice p l.length c]):=hX1
 have HB1:Hid (Below w.heap.size w w1):=hb1
 have hlx1:=hX1.lt
 clear hf hl hb1 hX1 hR
 go_enter Tryz.func35,Tryz.ntmps35
 go_wp2_with fail
 refine hpl.mono ?_
 rintro e w2 ⟨lb,sb,rfl,hlb,hsb,hls,hP2,hb2⟩
 clear hpl x0 x1 hw1
 have hX2:=HX1.out.go hb2
 have x0:=hX2.cell (j:=0) rfl
 have HX2:Hid (Blk 24 w2 w.heap.size [.int .i64 (N:Int),.slice p l.length c]):=hX2
 have HB2:Hid (Below w.heap.size w w2):=HB1.out.trans (hb2.mono HB1.out.size)
 have HP2:Hid (PlsI N lb sb (2*l.length) (offR l (2*l.length)) (fun v=>(nb l (v:Int)).length) (fun v=>plOf (v:Int) l) w2):=hP2
 have hlb2:=hP2.row.lt
 have hsb2:sb<w2.heap.size:=by obtain⟨cs,h,_⟩:=hP2.cur;exact h.lt
 clear hX2 hb2 hP2 HX1 HB1
 obtain⟨i0,hi,hz0,hz1,hz2⟩:=info_parts Qg6
 have hmk:True:=trivial
 go_wp2_with (first | (at_make;clear hmk;refine wpList_make_full _ rfl _ _ 25 rfl 0 4 i0 (.bool false) 1 Tryz.underlying25 hi hz0 hz1 .i64 .i64 _ _ N rfl rfl rfl rfl (by rw [hz2];omega) (by unfold maxLen;omega) YN ?_;intro w3 hown hgrow;have hb3:Below w2.heap.size w2 w3:=YD.grown hgrow YA (fun k e=>by cases e);have hrow:=Blk.made hown;rw [QaR] at hrow;have HS3:Hid (Blk 4 w3 w2.heap.size ((List.replicate N false).map Value.bool)):=hrow;have HX3:Hid (Blk 24 w3 w.heap.size [.int .i64 (N:Int),.slice p l.length c]):=HX2.out.go hb3;have HB3:Hid (Below w2.heap.size w2 w3):=hb3;have hs3:=hrow.lt;clear hown hgrow hrow hb3 x0;have x0:=HX3.out.cell (j:=0) rfl) | (at_make;refine wpList_make_full _ rfl _ _ 25 rfl 0 4 i0 (.bool false) 1 Tryz.underlying25 hi hz0 hz1 .i64 .i64 _ _ N rfl rfl rfl rfl (by rw [hz2];omega) (by unfold maxLen;omega) YN ?_;intro w4 hown hgrow;have hb4:Below w3.heap.size w3 w4:=YD.grown hgrow YA (fun k e=>by cases e);have hrow:=Blk.made hown;rw [QaR] at hrow;have HM4:Hid (Blk 4 w4 w3.heap.size ((List.replicate N false).map Value.bool)):=hrow;have HS4:Hid (Blk 4 w4 w2.heap.size ((List.replicate N false).map Value.bool)):=HS3.out.go hb4;have HX4:Hid (Blk 24 w4 w.heap.size [.int .i64 (N:Int),.slice p l.length c]):=HX3.out.go hb4;have HB4:Hid (Below w2.heap.size w2 w4):=HB3.out.trans (hb4.mono HB3.out.size);have hs4:=hrow.lt;clear hown hgrow hrow hb4 x0;have x0:=HX4.out.cell (j:=0) rfl))
 have HS:Hid (SpS N w.heap.size lb sb (2*l.length) w2.heap.size w3.heap.size w4.heap.size (offR l (2*l.length)) (fun v=>(nb l (v:Int)).length) (fun v=>plOf (v:Int) l) [.int .i64 (N:Int),.slice p l.length c] w (List.replicate N false) (List.replicate N false) w4):=
  ⟨HX4.out,HP2.out.go HB4.out,HS4.out,HM4.out,List.length_replicate,List.length_replicate,HB2.out.trans (HB4.out.mono HB2.out.size),by omega⟩
 have hz4:w2.heap.size<w4.heap.size:=by omega
 clear HX2 HP2 HB2 HS3 HX3 HB3 HM4 HS4 HX4 HB4 hi hz0 hz1 hz2 hlb hsb hls hlb2 hsb2 hlx1
 obtain⟨x,hx⟩:∃ n,w.heap.size=n:=⟨_,rfl⟩
 obtain⟨sx,hsx⟩:∃ n,w2.heap.size=n:=⟨_,rfl⟩
 obtain⟨mx,hmx⟩:∃ n,w3.heap.size=n:=⟨_,rfl⟩
 obtain⟨z,hz⟩:∃ n,w4.heap.size=n:=⟨_,rfl⟩
 have HZ:Hid (w4.heap.size=z):=hz
 have HXX:Hid (w.heap.size=x):=hx
 rw [hx,hsx,hmx,hz] at HS
 rw [hx] at x0
 rw [hsx,hmx] at *
 rw [hx] at HF ⊢
 clear hx hsx hmx hz hs3 hs4 hz4 x0
 go_loopw [24] (fun i wr=>∃ (j:Nat) (SD MT:List Bool),j≤N∧i = .int .i64 (j:Int)∧z≤wr.heap.size∧Hid (SpS N x lb sb (2*l.length) sx mx z (offR l (2*l.length)) (fun v=>(nb l (v:Int)).length) (fun v=>plOf (v:Int) l) [.int .i64 (N:Int),.slice p l.length c] w SD MT wr)∧Hid (ClI l SD MT∧∀ v,v<j→bAt MT v=true)) (fun i _=>N-(intOf i).toNat)
 case atStart=>exact⟨0,_,_,YN,rfl,by rw [HZ.out];exact YA,HS,ClI.start,fun v h=>absurd h (by omega)⟩
 case round=>
  clear HS
  obtain⟨j,SD,MT,hj,rfl,hzw,HS,HI⟩:=hrel
  by_cases hlt:j<N
  ·have hjl:(j:Int)<(N:Int):=by omega
   have hml:=HS.out.ml
   have m0:=HS.out.mt.bcell (v:=j) (by omega)
   have mf:=HS.out.mt.frozen j
   have HLT:Hid (j<N):=hlt
   cases hm:bAt MT j with
   | true=>
    rw [hm] at m0
    have HI2:Hid (ClI l SD MT∧∀ v,v<j+1→bAt MT v=true):=⟨HI.out.1,fun v hv=>by
     by_cases e:v=j
     ·rw [e];exact hm
     ·exact HI.out.2 v (by omega)⟩
    clear hm hlt hml
    go_wp2
    exact⟨⟨j+1,SD,MT,HLT.out,by go_num,hzw,HS,HI2⟩,by have:=HLT.out;simp [intOf];omega⟩
   | false=>
    rw [hm] at m0
    have hget:MT[j]? = some false:=by rw [bAt_get? (by omega),hm]
    have hun:=Qec hget
    have hul:=QoA MT
    have HSM:Hid _:=HS.out.setM j true
    have HI2:Hid (PhI l MT SD (MT.set j true) j (fun y=>y∈[j])∧(∀ v,v<j+1→bAt (MT.set j true) v=true)∧bAt MT j=false):=⟨HI.out.1.enter (by omega) hm,fun v hv=>by
     rw [Qax (by omega)]
     split
     ·rfl
     ·exact HI.out.2 v (by omega),hm⟩
    have HU:Hid (unm (MT.set j true)+1≤N):=by show _≤N;omega
    clear hm hlt hml hget hun hul HS HI
    generalize MT.set j true=MT1 at *
    go_wp2
    have hb6:Below z (wr.setCell ⟨mx,j,none⟩ (.bool true)) ((wr.setCell ⟨mx,j,none⟩ (.bool true)).alloc (.cells #[.int .i64 (j:Int)] 3)):=YD.alloc (by simpa using hzw) _
    have HS6:Hid _:=HSM.out.hi hb6
    have HO6:Hid (((wr.setCell ⟨mx,j,none⟩ (.bool true)).alloc (.cells #[.int .i64 (j:Int)] 3)).ownsRow z 3 1 (.slice (some ⟨wr.heap.size,0,none⟩) 1 1) [j].length (natsV [j])):=by
     have h1:=QiY (A:=wr.setCell ⟨mx,j,none⟩ (.bool true)) (t:=3) (v:=.int .i64 (j:Int)) (h:=z) (by simpa using hzw)
     have h2:(wr.setCell ⟨mx,j,none⟩ (.bool true)).heap.size=wr.heap.size:=by simp
     rw [h2] at h1
     exact h1
    have hz6:z≤((wr.setCell ⟨mx,j,none⟩ (.bool true)).alloc (.cells #[.int .i64 (j:Int)] 3)).heap.size:=by simp;omega
    clear hb6 HSM
    obtain⟨w6,hw6⟩:∃ W,((wr.setCell ⟨mx,j,none⟩ (.bool true)).alloc (.cells #[.int .i64 (j:Int)] 3))=W:=⟨_,rfl⟩
    rw [hw6] at HS6 HO6 hz6 ⊢
    clear hw6
    obtain⟨kk,hkk⟩:∃ kk,wr.heap.size=kk:=⟨_,rfl⟩
    rw [hkk] at HO6 ⊢
    clear hkk m0 mf
    go_loopg [9] (2*unm MT1+1) (fun k sv wq=>∃ (SD2 MT2:List Bool) (ST:List Nat),2*unm MT2+ST.length≤k∧z≤wq.heap.size∧Hid (SpS N x lb sb (2*l.length) sx mx z (offR l (2*l.length)) (fun v=>(nb l (v:Int)).length) (fun v=>plOf (v:Int) l) [.int .i64 (N:Int),.slice p l.length c] w SD2 MT2 wq)∧Hid (wq.ownsRow z 3 1 sv ST.length (natsV ST))∧Hid ((∀ v∈ST,v<N∧bAt MT2 v=true∧bAt MT v=false)∧PhI l MT SD2 MT2 j (fun y=>y∈ST)∧(∀ v,v<j+1→bAt MT2 v=true)∧unm MT2+ST.length≤N))
    case atStart=>exact⟨SD,MT1,[j],by simp,hz6,HS6,HO6,fun v hv=>by rw [YF hv];exact⟨HLT.out,HI2.out.2.1 j (by omega),HI2.out.2.2⟩,HI2.out.1,HI2.out.2.1,HU.out⟩
    case round=>
     clear HS6 HO6 hz6 HI2 HU hzw
     obtain⟨SD2,MT2,ST,hk,hzw,HS,HO,HI⟩:=hrel
     by_cases h0:ST=[]
     ·subst h0
      obtain⟨pa,ca,rfl⟩:=Qag HO.out
      clear hk
      have HI3:Hid (ClI l SD2 MT2∧∀ v,v<j+1→bAt MT2 v=true):=⟨HI.out.2.1.leave (fun v hv=>by simp at hv),HI.out.2.2.1⟩
      go_wp2
      exact⟨⟨j+1,SD2,MT2,HLT.out,by go_num,hzw,HS,HI3⟩,by have:=HLT.out;simp [intOf];omega⟩
     ·obtain⟨S0,v,rfl⟩:∃ S0 v,ST=S0++[v]:=⟨ST.dropLast,ST.getLast h0,(List.dropLast_concat_getLast h0).symm⟩
      have hlen:(S0++[v]).length=S0.length+1:=by simp
      obtain⟨g,cap,hsv,hgz,hcap,hgl,hgc⟩:=QiM HO.out (by omega)
      subst hsv
      have c0:=hgc S0.length v (by simp)
      have hvN:v<N:=(HI.out.1 v (by simp)).1
      have HVM:Hid (bAt MT2 v=true∧bAt MT v=false):=(HI.out.1 v (by simp)).2
      have hN4:=HI.out.2.2.2
      have HO2:Hid (wr.ownsRow z 3 1 (.slice (some ⟨g,0,none⟩) S0.length cap) S0.length (natsV S0)):=by
       have h1:=QbP HO.out (m:=S0.length) (by omega)
       have h2:(natsV (S0++[v])).take (S0.length*1)=natsV S0:=by simp [natsV]
       rw [h2] at h1
       exact h1
      have HI3:Hid ((∀ u∈S0,u<N∧bAt MT2 u=true∧bAt MT u=false)∧PhI l MT SD2 MT2 j (fun y=>y∈S0∨y=v)∧(∀ v,v<j+1→bAt MT2 v=true)∧unm MT2+S0.length+1≤N):=⟨fun u hu=>HI.out.1 u (by simp [hu]),HI.out.2.1.less (fun y h1 h2=>absurd (by simpa using h2) h1),HI.out.2.2.1,by omega⟩
      have o1:=HS.out.pl.row.cell (Qch hvN)
      rw [hlen] at hk hcap ⊢
      have hvl:(v:Int)<(N:Int):=by omega
      have hcap1:(S0.length:Int)≤(cap:Int):=by omega
      have hS9:(S0.length:Int)≤1048576:=by omega
      have HK:Hid (2*unm MT2+(S0.length+1)≤gk):=hk
      have HV:Hid (v<N):=hvN
      clear hgc h0 HO HI hlen hk hN4
      have hpl4:=QdY (v:Int) l
      have hnbl:=QaX (v:Int) l
      obtain⟨n0,hn0⟩:∃ n0,S0.length=n0:=⟨_,rfl⟩
      have HN0:Hid (S0.length=n0):=hn0
      rw [hn0] at c0 hcap1 hS9 ⊢
      obtain⟨P,hP⟩:∃ P,plOf (v:Int) l=P:=⟨_,rfl⟩
      have HP:Hid (plOf (v:Int) l=P):=hP
      rw [hP] at o1 hpl4
      rw [← hpl4] at hnbl o1
      clear hn0 hP hpl4
      go_wp2
      go_loopw [9,55] (fun sv iv wq=>∃ (q:Nat) (SD3 MT3:List Bool) (ST:List Nat),q≤P.length∧iv = .int .i64 (q:Int)∧Hid (2*unm MT3+ST.length+1≤gk)∧z≤wq.heap.size∧Hid (SpS N x lb sb (2*l.length) sx mx z (offR l (2*l.length)) (fun v=>(nb l (v:Int)).length) (fun v=>plOf (v:Int) l) [.int .i64 (N:Int),.slice p l.length c] w SD3 MT3 wq)∧Hid (wq.ownsRow z 3 1 sv ST.length (natsV ST))∧Hid ((∀ u∈ST,u<N∧bAt MT3 u=true∧bAt MT u=false)∧PhI l MT SD3 MT3 j (fun y=>y∈ST∨y=v)∧(∀ v,v<j+1→bAt MT3 v=true)∧unm MT3+ST.length≤N)∧Hid (bAt MT3 v=true∧bAt MT v=false∧DoneP l P v q MT3)) (fun _ iv _=>P.length-(intOf iv).toNat)
      case atStart=>
       refine⟨0,SD2,MT2,S0,YN,rfl,HK,hzw,HS,?_,⟨HI3.out.1,HI3.out.2.1,HI3.out.2.2.1,by have:=HI3.out.2.2.2;omega⟩,HVM.out.1,HVM.out.2,fun _ _ h=>absurd h (by omega)⟩
       have h:=HO2.out
       rw [HN0.out] at h
       unfold Hid
       rw [HN0.out]
       exact h
      case round=>
       clear HS HO2 HI3 hzw c0 o1 HK HVM
       obtain⟨q,SD3,MT3,ST,hq,rfl,HK3,hzw,HS,HO,HI3,HVM⟩:=hrel
       obtain⟨pa,ca,rfl⟩:=Qag HO.out
       by_cases hlt:q<P.length
       ·have hql:(q:Int)<(P.length:Int):=by omega
        have hPm:P[q]∈plOf (v:Int) l:=by rw [HP.out];exact YG hlt
        obtain⟨i,hi1,hil,hiv⟩:=QiW hPm
        have c0:=HS.out.pl.at HV.out (j:=q) (x:=P[q]) (by show (plOf (v:Int) l)[q]? = _;rw [HP.out];exact YB hlt)
        rw [hi1] at c0
        obtain⟨b,off,rfl,hbb,hcap,hc,-⟩:=HL.out.open hil
        obtain⟨e0,e1,e2⟩:=hc _ (by rw [HXX.out];exact HS.out.bel) i hil
        have hok:=(HR.out.each l[i] (YG hil)).1
        unfold okE at hok
        obtain⟨U,hU⟩:∃ U:Nat,l[i].1=(U:Int):=⟨l[i].1.toNat,by omega⟩
        obtain⟨V,hV⟩:∃ V:Nat,l[i].2.1=(V:Int):=⟨l[i].2.1.toNat,by omega⟩
        rw [hU] at e0
        rw [hV] at e1
        obtain⟨u,huN,hus,hJu⟩:∃ u:Nat,u<N∧(U:Int)+(V:Int)-(v:Int)=(u:Int)∧Joins l i v u:=by
         rcases hiv with h | h
         ·exact⟨V,by omega,by omega,l[i],YB hil,.inl ⟨h,hV⟩⟩
         ·exact⟨U,by omega,by omega,l[i],YB hil,.inr ⟨hU,h⟩⟩
        have HJU:Hid (Joins l i v u∧P[q]? = some (i:Int)):=⟨hJu,by rw [YB hlt,hi1]⟩
        have hw1:IntKind.i64.wrap ((U:Int)+(V:Int))=(U:Int)+(V:Int):=QaM _ (by omega) (by omega)
        have hw2:IntKind.i64.wrap ((U:Int)+(V:Int)-(v:Int))=(u:Int):=by rw [hus];exact QaM _ (by omega) (by omega)
        have x1:=HS.out.gr.cell (j:=1) rfl
        have hil2:(i:Int)<(l.length:Int):=by omega
        have huN2:(u:Int)<(N:Int):=by omega
        have HLT:Hid (q<P.length):=hlt
        have HIL:Hid (i<l.length):=hil
        have HUL:Hid (u<N):=huN
        clear hlt hPm hi1 hiv hc hbb hcap hok hU hV e2 hus hJu
        go_wp2
        go_quiet (fail)
        have hbq:Below wr.heap.size wr (wr.drewN nq):=Qab YD nq
        have HS5:Hid (SpS N x lb sb (2*l.length) sx mx z (offR l (2*l.length)) (fun v=>(nb l (v:Int)).length) (fun v=>plOf (v:Int) l) [.int .i64 (N:Int),.slice (some ⟨b,off,none⟩) l.length c] w SD3 MT3 (wr.drewN nq)):=HS.out.hi (hbq.mono hzw)
        have HO5:Hid ((wr.drewN nq).ownsRow z 3 1 (.slice pa ST.length ca) ST.length (natsV ST)):=QbQ HO.out hbq
        have hz5:z≤(wr.drewN nq).heap.size:=hzw
        clear HS HO hbq c0 e0 e1 x1 hw1 hw2
        obtain⟨w5,hw5⟩:∃ W,wr.drewN nq=W:=⟨_,rfl⟩
        rw [hw5] at HS5 HO5 hz5 ⊢
        clear hw5 hzw
        have hml:=HS5.out.ml
        have hsl:=HS5.out.sl
        have ho5:=HS5.out.o
        have m0:=HS5.out.mt.bcell (v:=u) (by omega)
        have mf:=HS5.out.mt.frozen u
        cases hm:bAt MT3 u with
        | true=>
         rw [hm] at m0
         have HVM2:Hid (bAt MT3 v=true∧bAt MT v=false∧DoneP l P v (q+1) MT3):=⟨HVM.out.1,HVM.out.2.1,HVM.out.2.2.step (fun _ h=>h) HJU.out.2 HJU.out.1 hm⟩
         clear hm hml hsl ho5
         go_wp2
         exact⟨⟨q+1,SD3,MT3,ST,HLT.out,by go_num,HK3,hz5,HS5,HO5,HI3,HVM2⟩,by have:=HLT.out;simp [intOf];omega⟩
        | false=>
         rw [hm] at m0
         have hget:MT3[u]? = some false:=by rw [bAt_get? (by omega),hm]
         have HUN:Hid (unm (MT3.set u true)+1=unm MT3):=Qec hget
         have HNEW:Hid ((∀ y∈ST++[u],y<N∧bAt (MT3.set u true) y=true∧bAt MT y=false)∧PhI l MT (SD3.set u (!bAt SD3 v)) (MT3.set u true) j (fun y=>y∈ST++[u]∨y=v)∧(∀ y,y<j+1→bAt (MT3.set u true) y=true)∧(bAt (MT3.set u true) v=true∧bAt MT v=false∧DoneP l P v (q+1) (MT3.set u true))):=by
          have hul:u<MT3.length:=by omega
          have hkp:∀ x,bAt MT3 x=true→bAt (MT3.set u true) x=true:=fun x h=>Qm8 hul h
          have hself:bAt (MT3.set u true) u=true:=by rw [Qax hul,if_pos rfl]
          refine⟨fun y hy=>?_,HI3.out.2.1.meet (Qc4 HJU.out.1) HVM.out.1 HVM.out.2.1 hm (by rw [hsl];exact HUL.out) hul (fun x hx=>?_) (.inl (by simp)),fun y hy=>hkp y (HI3.out.2.2.1 y hy),hkp v HVM.out.1,HVM.out.2.1,HVM.out.2.2.step hkp HJU.out.2 HJU.out.1 hself⟩
          ·rcases YJ hy with h | h
           ·obtain⟨h1,h2,h3⟩:=HI3.out.1 y h
            exact⟨h1,hkp y h2,h3⟩
           ·rw [YF h]
            exact⟨HUL.out,hself,HI3.out.2.1.fresh hm⟩
          ·rcases hx with h | h
           ·exact .inl (List.mem_append.2 (.inl h))
           ·exact .inr h
         have hvu:v≠u:=fun e=>by have h1:=HVM.out.1;rw [e,hm] at h1;cases h1
         have HE8:Hid ((SD3.set u (bAt SD3 v)).set u (!bAt (SD3.set u (bAt SD3 v)) v)=SD3.set u (!bAt SD3 v)):=by
          show _=_
          rw [Qax (by rw [hsl];exact HUL.out),if_neg hvu,List.set_set]
         have HS6:=HS5.out.setM u true
         have HO6:=Qaf HO5.out (p:=⟨mx,u,none⟩) ho5.2.2.2.2.2 (.bool true)
         have s0:=HS6.sd.bcell (v:=v) (by rw [hsl];exact HV.out)
         have s1:=HS6.sd.bcell (v:=u) (by rw [hsl];exact HUL.out)
         have sf:=HS6.sd.frozen u
         have HS7:=HS6.setS u (bAt SD3 v)
         have HO7:=Qaf HO6 (p:=⟨sx,u,none⟩) (by show sx<z;omega) (.bool (bAt SD3 v))
         have hcl:=HF.out i HIL.out _ HS7.bel
         have HS7h:Hid _:=HS7
         have HO7h:Hid _:=HO7
         have hz7:z≤((w5.setCell ⟨mx,u,none⟩ (.bool true)).setCell ⟨sx,u,none⟩ (.bool (bAt SD3 v))).heap.size:=by simpa using hz5
         have hN40:=HI3.out.2.2.2
         have hvl:=HV.out
         clear hm hml hsl ho5 hget hvu HS6 HO6 HS7 HO7 HS5 HO5 hz5
         generalize SD3.set u (!bAt SD3 v)=SDN at *
         generalize SD3.set u (bAt SD3 v)=SD7 at *
         generalize bAt SD3 v=bv at *
         go_wp2_with fail
         refine hcl.mono ?_
         rintro e w7 ⟨rfl,hb7⟩
         clear hcl
         have HS8:Hid _:=HS7h.out.hi (hb7.mono hz7)
         have HO8:Hid (w7.ownsRow z 3 1 (.slice pa ST.length ca) ST.length (natsV ST)):=QbQ HO7h.out hb7
         have hz8:z≤w7.heap.size:=Nat.le_trans hz7 hb7.size
         clear HS7h HO7h hb7 hz7 m0 mf s0 s1 sf
         have hsl:=HS8.out.sl
         have ho8:=HS8.out.o
         have s0:=HS8.out.sd.bcell (v:=v) (by rw [hsl];exact HV.out)
         have s1:=HS8.out.sd.bcell (v:=u) (by rw [hsl];exact HUL.out)
         have sf:=HS8.out.sd.frozen u
         have HS8b:Hid _:=HS8.out.setS u (!bAt SD7 v)
         have HO8b:Hid _:=Qaf HO8.out (p:=⟨sx,u,none⟩) (by show sx<z;omega) (.bool (!bAt SD7 v))
         have hz8b:z≤(w7.setCell ⟨sx,u,none⟩ (.bool (!bAt SD7 v))).heap.size:=by simpa using hz8
         clear hsl ho8 HS8 HO8 hz8
         rw [HE8.out] at HS8b
         clear HE8
         generalize bAt SD7 v=bw at *
         have HS8:Hid _:=HS8b.out
         have HO8:Hid ((w7.setCell ⟨sx,u,none⟩ (.bool (!bw))).ownsRow z 3 1 (.slice pa ST.length ca) ST.length (natsV ST)):=HO8b.out
         have hz8:z≤(w7.setCell ⟨sx,u,none⟩ (.bool (!bw))).heap.size:=hz8b
         clear HS8b HO8b hz8b
         obtain⟨i2,hi,hz0,hz1,hz2⟩:=info_parts Qjb
         have hbA:Below (w7.setCell ⟨sx,u,none⟩ (.bool (!bw))).heap.size (w7.setCell ⟨sx,u,none⟩ (.bool (!bw))) ((w7.setCell ⟨sx,u,none⟩ (.bool (!bw))).alloc (.cells #[.int .i64 (u:Int)] 3)):=YD.alloc YA _
         have hOA:=World.ownsRow.alloc HO8.out (.cells #[.int .i64 (u:Int)] 3)
         have hnews:=Qeu (w7.setCell ⟨sx,u,none⟩ (.bool (!bw))) (.int .i64 (u:Int)) 3
         have hszW:(w7.setCell ⟨sx,u,none⟩ (.bool (!bw))).heap.size=w7.heap.size:=by simp
         rw [hszW] at hnews
         have hone:∀ y∈[Value.int .i64 (u:Int)],y.oneCell'=true:=YO
         have hmx:ST.length+1≤maxLen:=by unfold maxLen;omega
         have hby:(ST.length+1)*8≤140737488355328:=by omega
         have hbs:z≤((w7.setCell ⟨sx,u,none⟩ (.bool (!bw))).alloc (.cells #[.int .i64 (u:Int)] 3)).heap.size:=Nat.le_trans hz8 hbA.size
         have hlow:∀ q,(Value.slice pa ST.length ca).ownBlock=some q→z≤q:=fun q hq=>(HO8.out.lt q hq).1
         go_wp2_with (at_builtin;refine wpList_append_own_at _ rfl _ _ 27 rfl z 3 i2 (.int .i64 0) 1 8 Tryz.underlying27 hi hz0 hz1 hz2 rfl (by decide) (.slice pa ST.length ca) _ _ rfl hOA ⟨w7.heap.size,0,none⟩ 1 1 [.int .i64 (u:Int)] rfl rfl hnews hone hmx hby hbs ?_)
         intro v9 w9 hown9 hg9 hnil9 hat9
         obtain⟨a9,c9,rfl⟩:=Qag hown9
         have hb9:Below z (w7.setCell ⟨sx,u,none⟩ (.bool (!bw))) w9:=(hbA.mono hz8).grown hg9 hbs (fun q hq=>hlow q hq)
         have HS9:Hid _:=HS8.out.hi hb9
         have HO9:Hid (w9.ownsRow z 3 1 (.slice a9 (ST.length+1) c9) (ST++[u]).length (natsV (ST++[u]))):=by
          have e1:natsV (ST++[u])=natsV ST++[.int .i64 (u:Int)]:=by simp [natsV]
          have e2:(ST++[u]).length=ST.length+1:=by simp
          show World.ownsRow _ _ _ _ _ _ _
          rw [e1,e2]
          exact hown9
         have hz9:z≤w9.heap.size:=Nat.le_trans hz8 hb9.size
         clear hbA hOA hnews hone hmx hby hbs hlow hown9 hg9 hnil9 hat9 hb9 hi hz0 hz1 hz2 HS8 HO8
         go_wp2
         exact⟨⟨q+1,_,MT3.set u true,ST++[u],HLT.out,by go_num,by show _≤_;have:=HUN.out;have:=HK3.out;simp;omega,hz9,HS9,HO9,⟨HNEW.out.1,HNEW.out.2.1,HNEW.out.2.2.1,by have:=HUN.out;have:=HI3.out.2.2.2;simp;omega⟩,HNEW.out.2.2.2⟩,by have:=HLT.out;simp [intOf];omega⟩
       ·obtain rfl:q=P.length:=by omega
        go_wp2
        go_roundg (gk-1)
        case measure=>have:=HK3.out;omega
        case rel=>exact⟨SD3,MT3,ST,by have:=HK3.out;omega,hzw,HS,HO,HI3.out.1,HI3.out.2.1.less (fun y h1 h2=>by
         rcases h2 with h | h
         ·exact absurd h h1
         ·rw [h]
          have hd:=HVM.out.2.2
          rw [← HP.out] at hd
          exact hd.all HR.out),HI3.out.2.2.1,HI3.out.2.2.2⟩
  ·obtain rfl:N=j:=by omega
   go_wp2
   go_ret
   rw [HXX.out]
   refine⟨sx,SD,rfl,by have:=HS.out.o;omega,HS.out.sd,HS.out.sl,fun u v huv=>?_,HS.out.bel⟩
   have hu:=(QaY (Qaw HR.out) huv).1
   exact QbG (fun a b h=>esS_adj.2 ⟨(esP_adj.1 h).1,(esP_adj.1 h).2.2.2⟩) (HI.out.1.con u v huv (HI.out.2 u hu))
def idxE (p:Ed→Bool)(L:List Ed):Int:=match L.findIdx? p with
 | some i=>i
 | none=>-1
theorem Qpt {p:Ed→Bool}{L:List Ed}{j:Nat}(hj:j<L.length)(h:p L[j]=true)(hno:∀ (i:Nat) (h1:i<L.length),i<j→p L[i]=false):idxE p L=j:=by
 unfold idxE
 have:L.findIdx? p=some j:=by
  rw [List.findIdx?_eq_some_iff_getElem]
  exact⟨hj,h,fun i hi=>by rw [hno i (by omega) hi];simp⟩
 rw [this]
theorem Qps {p:Ed→Bool}{L:List Ed}(hno:∀ (i:Nat) (h1:i<L.length),p L[i]=false):idxE p L = -1:=by
 unfold idxE
 have:L.findIdx? p=none:=by
  rw [List.findIdx?_eq_none_iff]
  intro x hx
  obtain⟨i,hi,rfl⟩:=List.getElem_of_mem hx
  exact hno i hi
 rw [this]
theorem Qod (p:Ed→Bool)(L:List Ed):decide (0≤idxE p L)=L.any p:=by
 unfold idxE
 cases h:L.findIdx? p with
 | none=>
  rw [List.findIdx?_eq_none_iff] at h
  have:L.any p=false:=by rw [List.any_eq_false];intro x hx;rw [h x hx];simp
  rw [this]
  rfl
 | some i=>
  have h1:=h
  rw [List.findIdx?_eq_some_iff_getElem] at h1
  obtain⟨hi,hp,_⟩:=h1
  have:L.any p=true:=by rw [List.any_eq_true];exact⟨L[i],YG hi,hp⟩
  rw [this]
  simp
theorem Qkd (f:Nat)(caps:Array Value)(p:Ed→Bool)(hent:∀ (args:Array Value) (W:World),(callFunc f args).run Tryz.prog W = .ok (.enter f args) W)(L:List Ed)(hL:L.length≤8388608)(sv:Value)(w:World)(h:Edges w.heap.size w sv L)
  (hp:∀ x∈L,∀ W,Grew w W→Calls Tryz.prog f (#[edV x]++caps) W fun e w'=>e = .returned (.bool (p x))∧Grew W w') :
  Calls Tryz.prog 79 #[sv,.func (.func f) #[] caps] w fun e w'=>e = .returned (.int .i64 (idxE p L))∧Grew w w':=by
 obtain⟨pp,c,rfl⟩:=h.len
 have HI:Hid (Edges w.heap.size w (.slice pp L.length c) L):=h
 have HP:Hid (∀ x∈L,∀ W,Grew w W→Calls Tryz.prog f (#[edV x]++caps) W fun e w'=>e = .returned (.bool (p x))∧Grew W w'):=hp
 clear h hp
 go_enter Tryz.func79,Tryz.ntmps79
 go_wp2
 go_loopw [8] (fun iv wr=>∃ j:Nat,j≤L.length∧iv = .int .i64 j∧Hid (∀ (i:Nat) (h1:i<L.length),i<j→p L[i]=false)∧Grew w wr) (fun i _=>L.length-(intOf i).toNat)
 case atStart=>exact⟨0,YN,rfl,fun i _ h=>by omega,Grew.refl _⟩
 case round=>
  obtain⟨j,hj,rfl,HS,hg⟩:=hrel
  by_cases hlt:j<L.length
  ·have hjl:(j:Int)<(L.length:Int):=by omega
   obtain⟨b,off,rfl,hbb,hcap,hc,-⟩:=HI.out.open hlt
   obtain⟨c0,c1,c2⟩:=hc wr hg.below j hlt
   have hcl:=HP.out L[j] (YG hlt) wr hg
   have HG:Hid (Grew w wr):=hg
   cases hv:p L[j] with
   | false=>
    have HS2:Hid (∀ (i:Nat) (h1:i<L.length),i<j+1→p L[i]=false):=fun i h1 h=>by
     by_cases e:i=j
     ·subst e;exact hv
     ·exact HS.out i h1 (by omega)
    have HLT:Hid (j<L.length):=hlt
    rw [hv] at hcl
    unfold edV at hcl
    clear HS hc hv hg
    generalize L[j].1=x at c0 hcl
    generalize L[j].2.1=y at c1 hcl
    generalize L[j].2.2=z at c2 hcl
    clear hlt
    go_wp2_with fail
    refine hcl.mono ?_
    clear hcl
    rintro e w2 ⟨rfl,hg2⟩
    have HG2:Hid (Grew w w2):=HG.out.trans hg2
    clear hg2 HG c0 c1 c2
    go_wp2
    exact⟨⟨j+1,HLT.out,by go_num,HS2.out,HG2.out⟩,by have:=HLT.out;simp [intOf];omega⟩
   | true=>
    have HE:Hid (idxE p L=j):=Qpt hlt hv HS.out
    rw [hv] at hcl
    unfold edV at hcl
    clear HS hc hv hg
    generalize L[j].1=x at c0 hcl
    generalize L[j].2.1=y at c1 hcl
    generalize L[j].2.2=z at c2 hcl
    clear hlt
    go_wp2_with fail
    refine hcl.mono ?_
    clear hcl
    rintro e w2 ⟨rfl,hg2⟩
    have HG2:Hid (Grew w w2):=HG.out.trans hg2
    clear hg2 HG c0 c1 c2
    go_wp2
    go_ret
    exact⟨by rw [HE.out];rfl,HG2.out⟩
  ·obtain rfl:j=L.length:=by omega
   have HE:Hid (idxE p L = -1):=Qps fun i hi=>HS.out i hi hi
   have HG:Hid (Grew w wr):=hg
   clear HS hg
   go_wp2
   go_ret
   exact⟨by rw [HE.out];rfl,HG.out⟩
theorem Qga (f:Nat)(caps:Array Value)(p:Ed→Bool)(hent:∀ (args:Array Value) (W:World),(callFunc f args).run Tryz.prog W = .ok (.enter f args) W)(L:List Ed)(hL:L.length≤8388608)(sv:Value)(w:World)(h:Edges w.heap.size w sv L)
  (hp:∀ x∈L,∀ W,Grew w W→Calls Tryz.prog f (#[edV x]++caps) W fun e w'=>e = .returned (.bool (p x))∧Grew W w') :
  Calls Tryz.prog 55 #[sv,.func (.func f) #[] caps] w fun e w'=>e = .returned (.bool (L.any p))∧Grew w w':=by
 have hi:=Qkd f caps p hent L hL sv w h hp
 obtain⟨pp,c,rfl⟩:=h.len
 have HA:Hid (decide (0≤idxE p L)=L.any p):=Qod p L
 clear h hp
 generalize idxE p L=k at *
 go_enter Tryz.func55,Tryz.ntmps55
 go_wp2_with fail
 refine hi.mono ?_
 clear hi
 rintro e w2 ⟨rfl,hg2⟩
 have HG2:Hid (Grew w w2):=hg2
 clear hg2
 go_wp2
 go_ret
 exact⟨by rw [← HA.out];rfl,HG2.out⟩
theorem Qkb (f:Nat)(caps:Array Value)(p:Int→Bool)(hent:∀ (args:Array Value) (W:World),(callFunc f args).run Tryz.prog W = .ok (.enter f args) W)(L:List Int)(hL:L.length≤8388608)(sv:Value)(w:World)(h:Ints w.heap.size w sv L)
  (hp:∀ x∈L,∀ W,Grew w W→Calls Tryz.prog f (#[.int .i64 x]++caps) W fun e w'=>e = .returned (.bool (p x))∧Grew W w') :
  Calls Tryz.prog 74 #[sv,.func (.func f) #[] caps] w fun e w'=>e = .returned (.int .i64 (idxF p L))∧Grew w w':=by
 obtain⟨pp,c,rfl⟩:=h.len
 have HI:Hid (Ints w.heap.size w (.slice pp L.length c) L):=h
 have HP:Hid (∀ x∈L,∀ W,Grew w W→Calls Tryz.prog f (#[.int .i64 x]++caps) W fun e w'=>e = .returned (.bool (p x))∧Grew W w'):=hp
 clear h hp
 go_enter Tryz.func74,Tryz.ntmps74
 go_wp2
 go_loopw [8] (fun iv wr=>∃ j:Nat,j≤L.length∧iv = .int .i64 j∧Hid (∀ (i:Nat) (h1:i<L.length),i<j→p L[i]=false)∧Grew w wr) (fun i _=>L.length-(intOf i).toNat)
 case atStart=>exact⟨0,YN,rfl,fun i _ h=>by omega,Grew.refl _⟩
 case round=>
  obtain⟨j,hj,rfl,HS,hg⟩:=hrel
  by_cases hlt:j<L.length
  ·have hjl:(j:Int)<(L.length:Int):=by omega
   obtain⟨b,off,rfl,hbb,hcap,hc⟩:=HI.out.open hlt
   have c0:=hc wr hg.below j hlt
   have hcl:=HP.out L[j] (YG hlt) wr hg
   have HG:Hid (Grew w wr):=hg
   cases hv:p L[j] with
   | false=>
    have HS2:Hid (∀ (i:Nat) (h1:i<L.length),i<j+1→p L[i]=false):=fun i h1 h=>by
     by_cases e:i=j
     ·subst e;exact hv
     ·exact HS.out i h1 (by omega)
    have HLT:Hid (j<L.length):=hlt
    rw [hv] at hcl
    generalize L[j]=x at c0 hcl
    clear HS hlt hc hv hg
    go_wp2_with fail
    refine hcl.mono ?_
    clear hcl
    rintro e w2 ⟨rfl,hg2⟩
    have HG2:Hid (Grew w w2):=HG.out.trans hg2
    clear hg2 HG c0
    go_wp2
    exact⟨⟨j+1,HLT.out,by go_num,HS2.out,HG2.out⟩,by have:=HLT.out;simp [intOf];omega⟩
   | true=>
    have HE:Hid (idxF p L=j):=Qms hlt hv HS.out
    rw [hv] at hcl
    generalize L[j]=x at c0 hcl
    clear HS hlt hc hv hg
    go_wp2_with fail
    refine hcl.mono ?_
    clear hcl
    rintro e w2 ⟨rfl,hg2⟩
    have HG2:Hid (Grew w w2):=HG.out.trans hg2
    clear hg2 HG c0
    go_wp2
    go_ret
    exact⟨by rw [HE.out];rfl,HG2.out⟩
  ·obtain rfl:j=L.length:=by omega
   have HE:Hid (idxF p L = -1):=Qmr fun i hi=>HS.out i hi hi
   have HG:Hid (Grew w wr):=hg
   clear HS hg
   go_wp2
   go_ret
   exact⟨by rw [HE.out];rfl,HG.out⟩
theorem Qf9 (f:Nat)(caps:Array Value)(p:Int→Bool)(hent:∀ (args:Array Value) (W:World),(callFunc f args).run Tryz.prog W = .ok (.enter f args) W)(L:List Int)(hL:L.length≤8388608)(sv:Value)(w:World)(h:Ints w.heap.size w sv L)
  (hp:∀ x∈L,∀ W,Grew w W→Calls Tryz.prog f (#[.int .i64 x]++caps) W fun e w'=>e = .returned (.bool (p x))∧Grew W w') :
  Calls Tryz.prog 46 #[sv,.func (.func f) #[] caps] w fun e w'=>e = .returned (.bool (L.any p))∧Grew w w':=by
 have hi:=Qkb f caps p hent L hL sv w h hp
 obtain⟨pp,c,rfl⟩:=h.len
 have HA:Hid (decide (0≤idxF p L)=L.any p):=Qjc p L
 clear h hp
 generalize idxF p L=k at *
 go_enter Tryz.func46,Tryz.ntmps46
 go_wp2_with fail
 refine hi.mono ?_
 clear hi
 rintro e w2 ⟨rfl,hg2⟩
 have HG2:Hid (Grew w w2):=hg2
 clear hg2
 go_wp2
 go_ret
 exact⟨by rw [← HA.out];rfl,HG2.out⟩
theorem QlS (x:Int)(W:World):Calls Tryz.prog 43 #[.int .i64 x] W fun e w'=>e = .returned (.bool false)∧Below W.heap.size W w':=by
 go_enter Tryz.func43,Tryz.ntmps43
 go_wp2
 go_ret
 exact⟨rfl,YD⟩
theorem Qn6 (N:Nat)(l:List Ed)(hR:RightG (N:Int) l)(SD:List Bool)(hSl:SD.length=N)(q:Nat)(hq:q<l.length)(g bs bg:Nat)(p:Option Addr)(c:Nat)(w W:World)(hg:Grew w W)
  (hbs:w.cell? ⟨bs,0,none⟩=some (.slice (some ⟨g,0,none⟩) N N)) (hbg:w.cell? ⟨bg,1,none⟩=some (.slice p l.length c)) (hl:Edges w.heap.size w (.slice p l.length c) l) (hS:Blk 4 w g (SD.map Value.bool)) :
  Calls Tryz.prog 44 #[.int .i64 (q:Int),.pointer (some ⟨bs,0,none⟩),.pointer (some ⟨bg,0,none⟩)] W fun e w'=>e = .returned (.bool (keptE l SD (q:Int)))∧Grew W w':=by
 have hmix:=mixed
 have y0:=Qaa hg.below hbs
 have y1:=Qaa hg.below hbg
 obtain⟨b,off,rfl,hbb,hcap,hc,-⟩:=hl.open hq
 obtain⟨e0,e1,e2⟩:=hc W hg.below q hq
 obtain⟨⟨a1,a2,a3,a4,_,_⟩,_⟩:=hR.each l[q] (YG hq)
 obtain⟨u,hu⟩:∃ u:Nat,l[q].1=(u:Int):=⟨l[q].1.toNat,by omega⟩
 obtain⟨v,hv⟩:∃ v:Nat,l[q].2.1=(v:Int):=⟨l[q].2.1.toNat,by omega⟩
 have hSW:=hS.go hg.below
 have s0:=hSW.bcell (v:=u) (by omega)
 have s1:=hSW.bcell (v:=v) (by omega)
 have HE:Hid (keptE l SD (q:Int)=(bAt SD u==bAt SD v)):=by
  show _=_
  unfold keptE
  have h4:l.getD ((q:Int)).toNat (0,0,0)=l[q]:=by simp [hq]
  rw [h4,hu,hv]
  rfl
 have hql:(q:Int)<(l.length:Int):=by omega
 have hul:(u:Int)<(N:Int):=by omega
 have hvl:(v:Int)<(N:Int):=by omega
 rw [hu] at e0
 rw [hv] at e1
 rw [HE.out]
 clear hc hl hS hSW hbs hbg hg HE hu hv a1 a2 a3 a4 e2
 generalize bAt SD u=x at *
 generalize bAt SD v=y at *
 go_enter Tryz.func44,Tryz.ntmps44
 go_wp2
 go_quiet (fail)
 have HG:Hid (Grew W (W.drewN nq)):=Grew.drewN (Grew.refl W) nq
 generalize W.drewN nq=W2 at *
 go_wp2
 go_ret
 exact⟨rfl,HG.out⟩
theorem Qmc (n:Int)(l:List Ed)(b:List Int)(hb0:b≠[])(hbl:b.length≤4194304)(hb:∀ x∈b,∃ k:Nat,x=(k:Int)∧k<l.length)(sv bv:Value)(w:World)(hl:Edges w.heap.size w sv l)(hI:Ints w.heap.size w bv b):
  Calls Tryz.prog 47 #[.agg #[.int .i64 n,sv],bv] w fun r w'=>r = .returned (.int .i64 (lowW l b))∧Below w.heap.size w w':=by
 have hmix:=mixed
 obtain⟨p,c,rfl⟩:=hl.len
 obtain⟨pb,cb,rfl⟩:=hI.len
 have hpos:0<b.length:=List.length_pos_iff.2 hb0
 obtain⟨w1,hw1⟩:∃ W,(w.alloc (.cells #[.int .i64 n,.slice p l.length c] 24))=W:=⟨_,rfl⟩
 have hb1:Below w.heap.size w w1:=by rw [← hw1];exact YD.alloc YA _
 have hX1:Blk 24 w1 w.heap.size [.int .i64 n,.slice p l.length c]:=by rw [← hw1];exact heap_alloc_new w _
 have x1:=hX1.cell (j:=1) rfl
 obtain⟨bb,ob,rfl,hbb,hcapb,hcb⟩:=hI.open hpos
 have d0:=hcb w1 hb1 0 hpos
 obtain⟨k0,hk0,hkl0⟩:=hb b[0] (YG hpos)
 obtain⟨be,oe,rfl,hbe,hcape,hce,-⟩:=hl.open hkl0
 obtain⟨e0,e1,e2⟩:=hce w1 hb1 k0 hkl0
 have hw0:lowW l b=lowF l l[k0].2.2 (b.take b.length):=by
  unfold lowW
  rw [List.take_length]
  congr 1
  have:b.headD 0=b[0]:=by cases b with | nil=>simp at hpos | cons a t=>rfl
  rw [this,hk0]
  unfold wtI
  rw [YM,YC,YB hkl0]
  rfl
 rw [hw0]
 have HL:Hid (Edges w.heap.size w (.slice (some ⟨be,oe,none⟩) l.length c) l):=hl
 have HI:Hid (Ints w.heap.size w (.slice (some ⟨bb,ob,none⟩) b.length cb) b):=hI
 have HB:Hid (∀ x∈b,∃ k:Nat,x=(k:Int)∧k<l.length):=hb
 have HB1:Hid (Below w.heap.size w w1):=hb1
 have HX1:Hid (Blk 24 w1 w.heap.size [.int .i64 n,.slice (some ⟨be,oe,none⟩) l.length c]):=hX1
 have hkl:(k0:Int)<(l.length:Int):=by omega
 have hpl:(0:Int)<(b.length:Int):=by omega
 rw [hk0,Nat.add_zero] at d0
 clear hl hI hb hb0 hX1 hb1 hcb hce hk0 hw0
 generalize l[k0].2.2=a0 at *
 generalize l[k0].1=u0 at *
 generalize l[k0].2.1=v0 at *
 go_enter Tryz.func47,Tryz.ntmps47
 go_wp2
 go_quiet (fail)
 have HB2:Hid (Below w.heap.size w (w1.drewN nq)):=Qab HB1.out nq
 have HX2:Hid (Blk 24 (w1.drewN nq) w.heap.size [.int .i64 n,.slice (some ⟨be,oe,none⟩) l.length c]):=HX1.out
 clear HB1 HX1 x1 d0 e0 e1 e2 hw1
 generalize w1.drewN nq=w2 at *
 go_wp2
 go_loopw [5,18] (fun cv iv wr=>∃ j:Nat,j≤b.length∧cv = .int .i64 (lowF l a0 (b.take j))∧iv = .int .i64 (j:Int)∧Grew w2 wr) (fun _ i _=>b.length-(intOf i).toNat)
 case atStart=>exact⟨0,YN,rfl,rfl,Grew.refl _⟩
 case round=>
  obtain⟨j,hj,rfl,rfl,hg⟩:=hrel
  have HB3:Hid (Below w.heap.size w wr):=HB2.out.trans (hg.below.mono HB2.out.size)
  have HG:Hid (Grew w2 wr):=hg
  by_cases hlt:j<b.length
  ·have x1:=(HX2.out.go hg.below).cell (j:=1) rfl
   have d0:=(HI.out.open hlt)
   obtain⟨b2,o2,h2,_,_,hc2⟩:=d0
   simp only [Option.some.injEq,Addr.mk.injEq] at h2
   obtain⟨rfl,rfl,_⟩:=h2
   have d1:=hc2 wr HB3.out j hlt
   obtain⟨k,hk,hkl1⟩:=HB.out b[j] (YG hlt)
   obtain⟨b3,o3,h3,_,_,hc3,-⟩:=HL.out.open hkl1
   simp only [Option.some.injEq,Addr.mk.injEq] at h3
   obtain⟨rfl,rfl,_⟩:=h3
   obtain⟨e0,e1,e2⟩:=hc3 wr HB3.out k hkl1
   have HST:Hid (lowF l a0 (b.take (j+1))=min (lowF l a0 (b.take j)) l[k].2.2):=by
    show _=_
    rw [List.take_succ_eq_append_getElem hlt,QgX,hk]
    unfold wtI
    rw [YM,YC,YB hkl1]
    rfl
   have hjl:(j:Int)<(b.length:Int):=by omega
   have hkl2:(k:Int)<(l.length:Int):=by omega
   have HLT:Hid (j<b.length):=hlt
   rw [hk] at d1
   clear hc2 hc3 hk hg hlt
   generalize l[k].2.2=wt at *
   generalize l[k].1=u at *
   generalize l[k].2.1=v at *
   generalize lowF l a0 (b.take j)=m at *
   have HG2:Hid (Grew w2 wr):=HG.out
   clear HG
   go_wp2
   refine⟨⟨j+1,HLT.out,?_,by go_num,HG2.out⟩,by have:=HLT.out;simp [intOf];omega⟩
   rw [HST.out]
   congr 1
   rw [Int.min_def]
   split <;> split <;> omega
  ·obtain rfl:j=b.length:=by omega
   clear hg
   go_wp2
   go_ret
   exact⟨rfl,HB3.out⟩
def unE (e:Ed):Eg:=(e.1.toNat,e.2.1.toNat,e.2.2.toNat)
theorem QoU (L:List Eg):(L.map edE).map unE=L:=by
 rw [List.map_map]
 have:(unE ∘ edE)=id:=by funext e;simp [unE,edE]
 rw [this,List.map_id]
def oddK (n:Int)(l:List Ed)(B:List Int):List Int:=if rgtW n l=0∧plcB l.length B=true then oddV n.toNat (l.map unE) B else []
theorem Qpi {N:Nat}{L:List Eg}{B:List Int}(h:rgtW (N:Int) (L.map edE)=0)(hB:plcB L.length B=true):oddK (N:Int) (L.map edE) B=oddV N L B:=by
 unfold oddK
 rw [if_pos ⟨h,by rw [List.length_map];exact hB⟩,QoU,YM]
theorem QnJ {n:Int}{l:List Ed}{B:List Int}(h:rgtW n l≠0):oddK n l B=[]:=if_neg fun e=>h e.1
theorem QlJ {n:Int}{l:List Ed}{B:List Int}(h:plcB l.length B=false):oddK n l B=[]:=if_neg fun e=>by rw [h] at e;exact absurd e.2 (by simp)
def noneB (m:Nat)(x:Int):Bool:=decide (x<0) || decide ((m:Int)≤x)
theorem Qi4 (m:Nat)(B:List Int):B.any (noneB m) = !plcB m B:=by
 cases h:plcB m B with
 | true=>
  rw [Bool.not_true,List.any_eq_false]
  intro x hx
  have:=plc_iff.1 h x hx
  simp [noneB];omega
 | false=>
  rw [Bool.not_false,List.any_eq_true]
  have h2:¬ ∀ x∈B,0≤x∧x<(m:Int):=fun h3=>by rw [plc_iff.2 h3] at h;cases h
  rw [Classical.not_forall] at h2
  obtain⟨x,h3⟩:=h2
  rw [Classical.not_imp] at h3
  exact⟨x,h3.1,by simp [noneB];omega⟩
theorem Qi3 (x:Int)(p:Option Addr)(m c mb:Nat)(w:World)(h1:w.cell? ⟨mb,1,none⟩=some (.slice p m c)):
  Calls Tryz.prog 89 #[.int .i64 x,.pointer (some ⟨mb,0,none⟩)] w fun e w'=>e = .returned (.bool (noneB m x))∧w'=w:=by
 by_cases hx:x<0
 ·have HE:Hid (noneB m x=true):=by simp [Hid,noneB,hx]
  go_enter Tryz.func89,Tryz.ntmps89
  go_wp2
  go_ret
  exact⟨by rw [HE.out];rfl,rfl⟩
 ·have HE:Hid (noneB m x=decide ((m:Int)≤x)):=by simp [Hid,noneB,hx]
  go_enter Tryz.func89,Tryz.ntmps89
  go_wp2
  go_ret
  exact⟨by rw [HE.out];rfl,rfl⟩
theorem Qpg (n:Int)(l:List Ed)(B:List Int)(hBl:B.length≤8388608)(sv bv:Value)(w:World)(hl:Edges w.heap.size w sv l)(hI:Ints w.heap.size w bv B):
  Calls Tryz.prog 65 #[.agg #[.int .i64 n,sv],bv] w fun r w'=>∃ rv,r = .returned rv∧Ints w'.heap.size w' rv (oddK n l B)∧Below w.heap.size w w':=by
 obtain⟨p,c,rfl⟩:=hl.len
 have hg1:Grew w (w.alloc (.cells #[.int .i64 n,.slice p l.length c] 24)):=(Grew.refl w).alloc _
 have hrt:=Qdm n l _ _ (hl.go hg1.below)
 by_cases hk:rgtW n l=0
 ·obtain⟨N,L,rfl,hN,rfl,hm,hE,hW⟩:=QgM hk
  rw [hk] at hrt
  rw [List.length_map] at hrt hg1 ⊢
  have hent:∀ (args:Array Value) (W:World),(callFunc 89 args).run Tryz.prog W = .ok (.enter 89 args) W:=fun args W=>by kernel_rfl
  cases hP:plcB L.length B with
  | false=>
   have HE:Hid (oddK (N:Int) (L.map edE) B=[]):=QlJ (by rw [List.length_map];exact hP)
   have HA:Hid (B.any (noneB L.length)=true):=by show _=_;rw [Qi4,hP];rfl
   have HI:Hid (Ints w.heap.size w bv B):=hI
   obtain⟨pb,cb,rfl⟩:=hI.len
   clear hk hI hl
   go_enter Tryz.func65,Tryz.ntmps65
   go_wp2_with fail
   refine hrt.mono ?_
   rintro e w1 ⟨rfl,hg2⟩
   clear hrt
   have q1:=(box2 _ hg2).2
   have hbw:Below w.heap.size w w1:=(hg1.trans hg2).below
   have hcf:=Qdd 89 #[.pointer (some ⟨w.heap.size,0,none⟩)] (noneB L.length) hent B hBl (.slice pb B.length cb) w1.heap.size w1 (HI.out.below hbw |>.mono hbw.size) (fun x _=>Qi3 x p L.length c w.heap.size w1 q1)
   rw [HA.out] at hcf
   go_wp2_with fail
   refine hcf.mono ?_
   rintro e w2 ⟨rfl,rfl⟩
   clear hcf
   go_wp2
   go_ret
   exact⟨_,rfl,by rw [HE.out];exact Vals.nil _ _ _ _,hbw⟩
  | true=>
   have HE:Hid (oddK (N:Int) (L.map edE) B=oddV N L B):=Qpi hk hP
   have HA:Hid (B.any (noneB L.length)=false):=by show _=_;rw [Qi4,hP];rfl
   have HI:Hid (Ints w.heap.size w bv B):=hI
   have HLe:Hid (Edges w.heap.size w (.slice p L.length c) (L.map edE)):=by rw [List.length_map] at hl;exact hl
   obtain⟨pb,cb,rfl⟩:=hI.len
   clear hk hI hl
   go_enter Tryz.func65,Tryz.ntmps65
   go_wp2_with fail
   refine hrt.mono ?_
   rintro e w1 ⟨rfl,hg2⟩
   clear hrt
   have q0:=(box2 _ hg2).1
   have q1:=(box2 _ hg2).2
   have hbw:Below w.heap.size w w1:=(hg1.trans hg2).below
   have hcf:=Qdd 89 #[.pointer (some ⟨w.heap.size,0,none⟩)] (noneB L.length) hent B hBl (.slice pb B.length cb) w1.heap.size w1 (HI.out.below hbw |>.mono hbw.size) (fun x _=>Qi3 x p L.length c w.heap.size w1 q1)
   rw [HA.out] at hcf
   have hod:=QlI N L B hN hE hP hBl _ _ w1 ((HLe.out.below hbw).mono hbw.size) ((HI.out.below hbw).mono hbw.size)
   go_wp2_with fail
   refine hcf.mono ?_
   rintro e w2 ⟨rfl,rfl⟩
   clear hcf
   go_wp2_with fail
   refine hod.mono ?_
   rintro e w3 ⟨lv,rfl,ho,hb3⟩
   have HO:Hid _:=ho
   clear hod ho
   go_wp2
   go_ret
   exact⟨_,rfl,by rw [HE.out];exact Qcl HO.out,hbw.trans (hb3.mono hbw.size)⟩
 ·have HE:Hid (oddK n l B=[]):=QnJ hk
  generalize rgtW n l=k at hrt hk
  have hk':(k==0)=false:=by simpa using hk
  go_enter Tryz.func65,Tryz.ntmps65
  go_wp2_with fail
  refine hrt.mono ?_
  rintro e w1 ⟨rfl,hg2⟩
  clear hrt
  go_wp2
  go_ret
  exact⟨_,rfl,by rw [HE.out];exact Vals.nil _ _ _ _,(hg1.trans hg2).below⟩
end Go.Proofs.YtalflecmadacaaaGreat
