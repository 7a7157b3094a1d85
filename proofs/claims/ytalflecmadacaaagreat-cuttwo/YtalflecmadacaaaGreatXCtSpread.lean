import Derived.Deep.QuietTactic
import Derived.BigQuiet
import Derived.OwnWalk
import Derived.Deep.LoopGhost
import Derived.Test.YtalflecmadacaaaGreatZBC
set_option maxRecDepth 100000
set_option maxHeartbeats 8000000
namespace Go.Proofs.YtalflecmadacaaaGreat
open Go Go.Proofs Go.RowKit
theorem Qjb (N:Nat)(l:List Ed)(hR:RightG (N:Int) l)(f:Nat)(caps:Array Value)(hent:∀ (args:Array Value) (W:World),(callFunc f args).run Tryz.prog W = .ok (.enter f args) W)(sv:Value)(w:World)(hl:Edges w.heap.size w sv l)(hf:∀ i:Nat,i<l.length→∀ W,Below w.heap.size w W→Calls Tryz.prog f (#[.int .i64 (i:Int)]++caps) W fun e w'=>∃ b,e = .returned (.bool b)∧Below W.heap.size W w'):
  Calls Tryz.prog 35 #[.agg #[.int .i64 (N:Int),sv],.func (.func f) #[] caps] w fun r w'=>∃ (g:Nat) (SD:List Bool),r = .returned (.slice (some ⟨g,0,none⟩) N N)∧w.heap.size≤g∧Blk 4 w' g (SD.map Value.bool)∧SD.length=N∧bAt SD 0=false∧Below w.heap.size w w':=by
 have hmix:=mixed
 obtain⟨p,c,rfl⟩:=hl.len
 have hN:=hR.n1
 have hM:=hR.m1
 have HR:Hid (RightG (N:Int) l):=hR
 have HF:Hid _:=hf
 have HL:Hid (Edges w.heap.size w (.slice p l.length c) l):=hl
 obtain⟨w1,hw1⟩:∃ W,(w.alloc (.cells #[.int .i64 (N:Int),.slice p l.length c] 24))=W:=⟨_,rfl⟩
 have hb1:Below w.heap.size w w1:=by rw [← hw1];exact YD.alloc YA _
 have hX1:Blk 24 w1 w.heap.size [.int .i64 (N:Int),.slice p l.length c]:=by rw [← hw1];exact heap_alloc_new w _
 have hpl:=Qgz N l hR (.slice p l.length c) w1 (hl.go hb1)
 have x0:=hX1.cell (j:=0) rfl
 have x1:=hX1.cell (j:=1) rfl
 have HX1:Hid (Blk 24 w1 w.heap.size [.int .i64 (N:Int),.slice p l.length c]):=hX1
 have HB1:Hid (Below w.heap.size w w1):=hb1
 have hlx1:=hX1.lt
 clear hf hl hb1 hX1 hR
 go_enter Tryz.func35,Tryz.ntmps35
 go_wp2_with fail
 refine hpl.mono ?_
 rintro e w2 ⟨lb,sb,rfl,hlb,hsb,hls,hP2,hb2⟩
 clear hpl x0 x1 hw1
 have hX2:=HX1.out.go hb2
 have x0:=hX2.cell (j:=0) rfl
 have HX2:Hid (Blk 24 w2 w.heap.size [.int .i64 (N:Int),.slice p l.length c]):=hX2
 have HB2:Hid (Below w.heap.size w w2):=HB1.out.trans (hb2.mono HB1.out.size)
 have HP2:Hid (PlsI N lb sb (2*l.length) (offR l (2*l.length)) (fun v=>(nb l (v:Int)).length) (fun v=>plOf (v:Int) l) w2):=hP2
 have hlb2:=hP2.row.lt
 have hsb2:sb<w2.heap.size:=by obtain⟨cs,h,_⟩:=hP2.cur;exact h.lt
 clear hX2 hb2 hP2 HX1 HB1
 obtain⟨i0,hi,hz0,hz1,hz2⟩:=info_parts Qff
 have hmk:True:=trivial
 go_wp2_with (first | (at_make;clear hmk;refine wpList_make_full _ rfl _ _ 25 rfl 0 4 i0 (.bool false) 1 Tryz.underlying25 hi hz0 hz1 .i64 .i64 _ _ N rfl rfl rfl rfl (by rw [hz2];omega) (by unfold maxLen;omega) YN ?_;intro w3 hown hgrow;have hb3:Below w2.heap.size w2 w3:=YD.grown hgrow YA (fun k e=>by cases e);have hrow:=Blk.made hown;rw [QaT] at hrow;have HS3:Hid (Blk 4 w3 w2.heap.size ((List.replicate N false).map Value.bool)):=hrow;have HX3:Hid (Blk 24 w3 w.heap.size [.int .i64 (N:Int),.slice p l.length c]):=HX2.out.go hb3;have HB3:Hid (Below w2.heap.size w2 w3):=hb3;have hs3:=hrow.lt;clear hown hgrow hrow hb3 x0;have x0:=HX3.out.cell (j:=0) rfl) | (at_make;refine wpList_make_full _ rfl _ _ 25 rfl 0 4 i0 (.bool false) 1 Tryz.underlying25 hi hz0 hz1 .i64 .i64 _ _ N rfl rfl rfl rfl (by rw [hz2];omega) (by unfold maxLen;omega) YN ?_;intro w4 hown hgrow;have hb4:Below w3.heap.size w3 w4:=YD.grown hgrow YA (fun k e=>by cases e);have hrow:=Blk.made hown;rw [QaT] at hrow;have HM4:Hid (Blk 4 w4 w3.heap.size ((List.replicate N false).map Value.bool)):=hrow;have HS4:Hid (Blk 4 w4 w2.heap.size ((List.replicate N false).map Value.bool)):=HS3.out.go hb4;have HX4:Hid (Blk 24 w4 w.heap.size [.int .i64 (N:Int),.slice p l.length c]):=HX3.out.go hb4;have HB4:Hid (Below w2.heap.size w2 w4):=HB3.out.trans (hb4.mono HB3.out.size);have hs4:=hrow.lt;clear hown hgrow hrow hb4 x0;have x0:=HX4.out.cell (j:=0) rfl))
 have HS:Hid (SpS N w.heap.size lb sb (2*l.length) w2.heap.size w3.heap.size w4.heap.size (offR l (2*l.length)) (fun v=>(nb l (v:Int)).length) (fun v=>plOf (v:Int) l) [.int .i64 (N:Int),.slice p l.length c] w (List.replicate N false) (List.replicate N false) w4):=
  ⟨HX4.out,HP2.out.go HB4.out,HS4.out,HM4.out,List.length_replicate,List.length_replicate,HB2.out.trans (HB4.out.mono HB2.out.size),by omega⟩
 have hz4:w2.heap.size<w4.heap.size:=by omega
 clear HX2 HP2 HB2 HS3 HX3 HB3 HM4 HS4 HX4 HB4 hi hz0 hz1 hz2 hlb hsb hls hlb2 hsb2 hlx1
 obtain⟨x,hx⟩:∃ n,w.heap.size=n:=⟨_,rfl⟩
 obtain⟨sx,hsx⟩:∃ n,w2.heap.size=n:=⟨_,rfl⟩
 obtain⟨mx,hmx⟩:∃ n,w3.heap.size=n:=⟨_,rfl⟩
 obtain⟨z,hz⟩:∃ n,w4.heap.size=n:=⟨_,rfl⟩
 have HZ:Hid (w4.heap.size=z):=hz
 have HXX:Hid (w.heap.size=x):=hx
 rw [hx,hsx,hmx,hz] at HS
 rw [hx] at x0
 rw [hsx,hmx] at *
 rw [hx] at HF ⊢
 clear hx hsx hmx hz hs3 hs4 hz4 x0
 go_loopw [24] (fun i wr=>∃ (j:Nat) (SD MT:List Bool),j≤N∧i = .int .i64 (j:Int)∧z≤wr.heap.size∧Hid (SpS N x lb sb (2*l.length) sx mx z (offR l (2*l.length)) (fun v=>(nb l (v:Int)).length) (fun v=>plOf (v:Int) l) [.int .i64 (N:Int),.slice p l.length c] w SD MT wr)∧Hid (bAt SD 0=false∧(1≤j→bAt MT 0=true))) (fun i _=>N-(intOf i).toNat)
 case atStart=>exact⟨0,_,_,YN,rfl,by rw [HZ.out];exact YA,HS,(by unfold bAt;rw [YC,List.getElem?_replicate];split <;> rfl),fun h=>absurd h (by omega)⟩
 case round=>
  clear HS
  obtain⟨j,SD,MT,hj,rfl,hzw,HS,HI⟩:=hrel
  by_cases hlt:j<N
  ·have hjl:(j:Int)<(N:Int):=by omega
   have hml:=HS.out.ml
   have m0:=HS.out.mt.bcell (v:=j) (by omega)
   have mf:=HS.out.mt.frozen j
   have HLT:Hid (j<N):=hlt
   cases hm:bAt MT j with
   | true=>
    rw [hm] at m0
    have HI2:Hid (bAt SD 0=false∧(1≤j+1→bAt MT 0=true)):=⟨HI.out.1,fun _=>by
     rcases Nat.eq_zero_or_pos j with h | h
     ·rw [← h];exact hm
     ·exact HI.out.2 h⟩
    clear hm hlt hml
    go_wp2
    exact⟨⟨j+1,SD,MT,HLT.out,by go_num,hzw,HS,HI2⟩,by have:=HLT.out;simp [intOf];omega⟩
   | false=>
    rw [hm] at m0
    have hget:MT[j]? = some false:=by rw [bAt_get? (by omega),hm]
    have hun:=Qhf hget
    have hul:=Qpp MT
    have HSM:Hid _:=HS.out.setM j true
    have HI2:Hid (bAt SD 0=false∧bAt (MT.set j true) 0=true):=⟨HI.out.1,by
     rcases Nat.eq_zero_or_pos j with h | h
     ·subst h
      unfold bAt
      rw [YC,List.getElem?_set_self (by omega)]
      rfl
     ·exact Qf2 (HI.out.2 h)⟩
    have HU:Hid (unm (MT.set j true)+1≤N):=by show _≤N;omega
    clear hm hlt hml hget hun hul HS HI
    generalize MT.set j true=MT1 at *
    go_wp2
    have hb6:Below z (wr.setCell ⟨mx,j,none⟩ (.bool true)) ((wr.setCell ⟨mx,j,none⟩ (.bool true)).alloc (.cells #[.int .i64 (j:Int)] 3)):=YD.alloc (by simpa using hzw) _
    have HS6:Hid _:=HSM.out.hi hb6
    have HO6:Hid (((wr.setCell ⟨mx,j,none⟩ (.bool true)).alloc (.cells #[.int .i64 (j:Int)] 3)).ownsRow z 3 1 (.slice (some ⟨wr.heap.size,0,none⟩) 1 1) [j].length (natsV [j])):=by
     have h1:=QmR (A:=wr.setCell ⟨mx,j,none⟩ (.bool true)) (t:=3) (v:=.int .i64 (j:Int)) (h:=z) (by simpa using hzw)
     have h2:(wr.setCell ⟨mx,j,none⟩ (.bool true)).heap.size=wr.heap.size:=by simp
     rw [h2] at h1
     exact h1
    have hz6:z≤((wr.setCell ⟨mx,j,none⟩ (.bool true)).alloc (.cells #[.int .i64 (j:Int)] 3)).heap.size:=by simp;omega
    clear hb6 HSM
    obtain⟨w6,hw6⟩:∃ W,((wr.setCell ⟨mx,j,none⟩ (.bool true)).alloc (.cells #[.int .i64 (j:Int)] 3))=W:=⟨_,rfl⟩
    rw [hw6] at HS6 HO6 hz6 ⊢
    clear hw6
    obtain⟨kk,hkk⟩:∃ kk,wr.heap.size=kk:=⟨_,rfl⟩
    rw [hkk] at HO6 ⊢
    clear hkk m0 mf
    go_loopg [9] (2*unm MT1+1) (fun k sv wq=>∃ (SD2 MT2:List Bool) (ST:List Nat),2*unm MT2+ST.length≤k∧z≤wq.heap.size∧Hid (SpS N x lb sb (2*l.length) sx mx z (offR l (2*l.length)) (fun v=>(nb l (v:Int)).length) (fun v=>plOf (v:Int) l) [.int .i64 (N:Int),.slice p l.length c] w SD2 MT2 wq)∧Hid (wq.ownsRow z 3 1 sv ST.length (natsV ST))∧Hid ((∀ v∈ST,v<N)∧bAt SD2 0=false∧bAt MT2 0=true∧unm MT2+ST.length≤N))
    case atStart=>exact⟨SD,MT1,[j],by simp,hz6,HS6,HO6,fun v hv=>by rw [YF hv];exact HLT.out,HI2.out.1,HI2.out.2,HU.out⟩
    case round=>
     clear HS6 HO6 hz6 HI2 HU hzw
     obtain⟨SD2,MT2,ST,hk,hzw,HS,HO,HI⟩:=hrel
     by_cases h0:ST=[]
     ·subst h0
      obtain⟨pa,ca,rfl⟩:=Qaf HO.out
      clear hk
      have HI3:Hid (bAt SD2 0=false∧(1≤j+1→bAt MT2 0=true)):=⟨HI.out.2.1,fun _=>HI.out.2.2.1⟩
      go_wp2
      exact⟨⟨j+1,SD2,MT2,HLT.out,by go_num,hzw,HS,HI3⟩,by have:=HLT.out;simp [intOf];omega⟩
     ·obtain⟨S0,v,rfl⟩:∃ S0 v,ST=S0++[v]:=⟨ST.dropLast,ST.getLast h0,(List.dropLast_concat_getLast h0).symm⟩
      have hlen:(S0++[v]).length=S0.length+1:=by simp
      obtain⟨g,cap,hsv,hgz,hcap,hgl,hgc⟩:=QmE HO.out (by omega)
      subst hsv
      have c0:=hgc S0.length v (by simp)
      have hvN:v<N:=HI.out.1 v (by simp)
      have hN4:=HI.out.2.2.2
      have HO2:Hid (wr.ownsRow z 3 1 (.slice (some ⟨g,0,none⟩) S0.length cap) S0.length (natsV S0)):=by
       have h1:=Qcn HO.out (m:=S0.length) (by omega)
       have h2:(natsV (S0++[v])).take (S0.length*1)=natsV S0:=by simp [natsV]
       rw [h2] at h1
       exact h1
      have HI3:Hid ((∀ u∈S0,u<N)∧bAt SD2 0=false∧bAt MT2 0=true∧unm MT2+S0.length+1≤N):=⟨fun u hu=>HI.out.1 u (by simp [hu]),HI.out.2.1,HI.out.2.2.1,by omega⟩
      have o1:=HS.out.pl.row.cell (QcH hvN)
      rw [hlen] at hk hcap ⊢
      have hvl:(v:Int)<(N:Int):=by omega
      have hcap1:(S0.length:Int)≤(cap:Int):=by omega
      have hS9:(S0.length:Int)≤1048576:=by omega
      have HK:Hid (2*unm MT2+(S0.length+1)≤gk):=hk
      have HV:Hid (v<N):=hvN
      clear hgc h0 HO HI hlen hk hN4
      have hpl4:=QfD (v:Int) l
      have hnbl:=QaO (v:Int) l
      obtain⟨n0,hn0⟩:∃ n0,S0.length=n0:=⟨_,rfl⟩
      have HN0:Hid (S0.length=n0):=hn0
      rw [hn0] at c0 hcap1 hS9 ⊢
      obtain⟨P,hP⟩:∃ P,plOf (v:Int) l=P:=⟨_,rfl⟩
      have HP:Hid (plOf (v:Int) l=P):=hP
      rw [hP] at o1 hpl4
      rw [← hpl4] at hnbl o1
      clear hn0 hP hpl4
      go_wp2
      go_loopw [9,55] (fun sv iv wq=>∃ (q:Nat) (SD3 MT3:List Bool) (ST:List Nat),q≤P.length∧iv = .int .i64 (q:Int)∧Hid (2*unm MT3+ST.length+1≤gk)∧z≤wq.heap.size∧Hid (SpS N x lb sb (2*l.length) sx mx z (offR l (2*l.length)) (fun v=>(nb l (v:Int)).length) (fun v=>plOf (v:Int) l) [.int .i64 (N:Int),.slice p l.length c] w SD3 MT3 wq)∧Hid (wq.ownsRow z 3 1 sv ST.length (natsV ST))∧Hid ((∀ u∈ST,u<N)∧bAt SD3 0=false∧bAt MT3 0=true∧unm MT3+ST.length≤N)) (fun _ iv _=>P.length-(intOf iv).toNat)
      case atStart=>
       refine⟨0,SD2,MT2,S0,YN,rfl,HK,hzw,HS,?_,HI3.out.1,HI3.out.2.1,HI3.out.2.2.1,by have:=HI3.out.2.2.2;omega⟩
       have h:=HO2.out
       rw [HN0.out] at h
       unfold Hid
       rw [HN0.out]
       exact h
      case round=>
       clear HS HO2 HI3 hzw c0 o1 HK
       obtain⟨q,SD3,MT3,ST,hq,rfl,HK3,hzw,HS,HO,HI3⟩:=hrel
       obtain⟨pa,ca,rfl⟩:=Qaf HO.out
       by_cases hlt:q<P.length
       ·have hql:(q:Int)<(P.length:Int):=by omega
        have hPm:P[q]∈plOf (v:Int) l:=by rw [HP.out];exact YG hlt
        obtain⟨i,hi1,hil,hiv⟩:=QmQ hPm
        have c0:=HS.out.pl.at HV.out (j:=q) (x:=P[q]) (by show (plOf (v:Int) l)[q]? = _;rw [HP.out];exact YB hlt)
        rw [hi1] at c0
        obtain⟨b,off,rfl,hbb,hcap,hc,-⟩:=HL.out.open hil
        obtain⟨e0,e1,e2⟩:=hc _ (by rw [HXX.out];exact HS.out.bel) i hil
        have hok:=(HR.out.each l[i] (YG hil)).1
        unfold okE at hok
        obtain⟨U,hU⟩:∃ U:Nat,l[i].1=(U:Int):=⟨l[i].1.toNat,by omega⟩
        obtain⟨V,hV⟩:∃ V:Nat,l[i].2.1=(V:Int):=⟨l[i].2.1.toNat,by omega⟩
        rw [hU] at e0
        rw [hV] at e1
        obtain⟨u,huN,hus⟩:∃ u:Nat,u<N∧(U:Int)+(V:Int)-(v:Int)=(u:Int):=by
         rcases hiv with h | h
         ·exact⟨V,by omega,by omega⟩
         ·exact⟨U,by omega,by omega⟩
        have hw1:IntKind.i64.wrap ((U:Int)+(V:Int))=(U:Int)+(V:Int):=QaU _ (by omega) (by omega)
        have hw2:IntKind.i64.wrap ((U:Int)+(V:Int)-(v:Int))=(u:Int):=by rw [hus];exact QaU _ (by omega) (by omega)
        have x1:=HS.out.gr.cell (j:=1) rfl
        have hil2:(i:Int)<(l.length:Int):=by omega
        have huN2:(u:Int)<(N:Int):=by omega
        have HLT:Hid (q<P.length):=hlt
        have HIL:Hid (i<l.length):=hil
        have HUL:Hid (u<N):=huN
        clear hlt hPm hi1 hiv hc hbb hcap hok hU hV e2 hus
        go_wp2
        go_quiet (fail)
        have hbq:Below wr.heap.size wr (wr.drewN nq):=Qaa YD nq
        have HS5:Hid (SpS N x lb sb (2*l.length) sx mx z (offR l (2*l.length)) (fun v=>(nb l (v:Int)).length) (fun v=>plOf (v:Int) l) [.int .i64 (N:Int),.slice (some ⟨b,off,none⟩) l.length c] w SD3 MT3 (wr.drewN nq)):=HS.out.hi (hbq.mono hzw)
        have HO5:Hid ((wr.drewN nq).ownsRow z 3 1 (.slice pa ST.length ca) ST.length (natsV ST)):=QaY HO.out hbq
        have hz5:z≤(wr.drewN nq).heap.size:=hzw
        clear HS HO hbq c0 e0 e1 x1 hw1 hw2
        obtain⟨w5,hw5⟩:∃ W,wr.drewN nq=W:=⟨_,rfl⟩
        rw [hw5] at HS5 HO5 hz5 ⊢
        clear hw5 hzw
        have hml:=HS5.out.ml
        have hsl:=HS5.out.sl
        have ho5:=HS5.out.o
        have m0:=HS5.out.mt.bcell (v:=u) (by omega)
        have mf:=HS5.out.mt.frozen u
        cases hm:bAt MT3 u with
        | true=>
         rw [hm] at m0
         clear hm hml hsl ho5
         go_wp2
         exact⟨⟨q+1,SD3,MT3,ST,HLT.out,by go_num,HK3,hz5,HS5,HO5,HI3⟩,by have:=HLT.out;simp [intOf];omega⟩
        | false=>
         rw [hm] at m0
         have hget:MT3[u]? = some false:=by rw [bAt_get? (by omega),hm]
         have HUN:Hid (unm (MT3.set u true)+1=unm MT3):=Qhf hget
         have hu0:u≠0:=fun e=>by have h1:=HI3.out.2.2.1;rw [e] at hm;rw [hm] at h1;cases h1
         have HS6:=HS5.out.setM u true
         have HO6:=Qag HO5.out (p:=⟨mx,u,none⟩) ho5.2.2.2.2.2 (.bool true)
         have s0:=HS6.sd.bcell (v:=v) (by rw [hsl];exact HV.out)
         have s1:=HS6.sd.bcell (v:=u) (by rw [hsl];exact HUL.out)
         have sf:=HS6.sd.frozen u
         have HS7:=HS6.setS u (bAt SD3 v)
         have HO7:=Qag HO6 (p:=⟨sx,u,none⟩) (by show sx<z;omega) (.bool (bAt SD3 v))
         have hSD7:bAt (SD3.set u (bAt SD3 v)) 0=false:=by rw [QiZ hu0];exact HI3.out.2.1
         have hcl:=HF.out i HIL.out _ HS7.bel
         have HS7h:Hid _:=HS7
         have HO7h:Hid _:=HO7
         have HSD7:Hid (bAt (SD3.set u (bAt SD3 v)) 0=false):=hSD7
         have HU0:Hid (u≠0):=hu0
         have hz7:z≤((w5.setCell ⟨mx,u,none⟩ (.bool true)).setCell ⟨sx,u,none⟩ (.bool (bAt SD3 v))).heap.size:=by simpa using hz5
         have hN40:=HI3.out.2.2.2
         have hvl:=HV.out
         clear hm hml hsl ho5 hget hu0 HS6 HO6 HS7 HO7 hSD7 HS5 HO5 hz5
         generalize SD3.set u (bAt SD3 v)=SD7 at *
         generalize bAt SD3 v=bv at *
         go_wp2_with fail
         refine hcl.mono ?_
         rintro e w7 ⟨bb,rfl,hb7⟩
         clear hcl
         have HS8:Hid _:=HS7h.out.hi (hb7.mono hz7)
         have HO8:Hid (w7.ownsRow z 3 1 (.slice pa ST.length ca) ST.length (natsV ST)):=QaY HO7h.out hb7
         have hz8:z≤w7.heap.size:=Nat.le_trans hz7 hb7.size
         clear HS7h HO7h hb7 hz7 m0 mf s0 s1 sf
         cases bb with
         | true=>
          obtain⟨i2,hi,hz0,hz1,hz2⟩:=info_parts QgP
          have hbA:Below w7.heap.size w7 (w7.alloc (.cells #[.int .i64 (u:Int)] 3)):=YD.alloc YA _
          have hOA:=World.ownsRow.alloc HO8.out (.cells #[.int .i64 (u:Int)] 3)
          have hnews:=QcS w7 (.int .i64 (u:Int)) 3
          have hone:∀ y∈[Value.int .i64 (u:Int)],y.oneCell'=true:=YO
          have hmx:ST.length+1≤maxLen:=by unfold maxLen;omega
          have hby:(ST.length+1)*8≤140737488355328:=by omega
          have hbs:z≤(w7.alloc (.cells #[.int .i64 (u:Int)] 3)).heap.size:=Nat.le_trans hz8 hbA.size
          have hlow:∀ q,(Value.slice pa ST.length ca).ownBlock=some q→z≤q:=fun q hq=>(HO8.out.lt q hq).1
          go_wp2_with (at_builtin;refine wpList_append_own_at _ rfl _ _ 27 rfl z 3 i2 (.int .i64 0) 1 8 Tryz.underlying27 hi hz0 hz1 hz2 rfl (by decide) (.slice pa ST.length ca) _ _ rfl hOA ⟨w7.heap.size,0,none⟩ 1 1 [.int .i64 (u:Int)] rfl rfl hnews hone hmx hby hbs ?_)
          intro v9 w9 hown9 hg9 hnil9 hat9
          obtain⟨a9,c9,rfl⟩:=Qaf hown9
          have hb9:Below z w7 w9:=(hbA.mono hz8).grown hg9 hbs (fun q hq=>hlow q hq)
          have HS9:Hid _:=HS8.out.hi hb9
          have HO9:Hid (w9.ownsRow z 3 1 (.slice a9 (ST.length+1) c9) (ST++[u]).length (natsV (ST++[u]))):=by
           have e1:natsV (ST++[u])=natsV ST++[.int .i64 (u:Int)]:=by simp [natsV]
           have e2:(ST++[u]).length=ST.length+1:=by simp
           show World.ownsRow _ _ _ _ _ _ _
           rw [e1,e2]
           exact hown9
          have hz9:z≤w9.heap.size:=Nat.le_trans hz8 hb9.size
          clear hbA hOA hnews hone hmx hby hbs hlow hown9 hg9 hnil9 hat9 hb9 hi hz0 hz1 hz2 HS8 HO8
          go_wp2
          exact⟨⟨q+1,_,MT3.set u true,ST++[u],HLT.out,by go_num,by show _≤_;have:=HUN.out;have:=HK3.out;simp;omega,hz9,HS9,HO9,fun y hy=>by
           rcases YJ hy with h | h
           ·exact HI3.out.1 y h
           ·rw [YF h];exact HUL.out,HSD7.out,Qf2 HI3.out.2.2.1,by have:=HUN.out;have:=HI3.out.2.2.2;simp;omega⟩,by have:=HLT.out;simp [intOf];omega⟩
         | false=>
          have hsl:=HS8.out.sl
          have ho8:=HS8.out.o
          have s0:=HS8.out.sd.bcell (v:=v) (by rw [hsl];exact HV.out)
          have s1:=HS8.out.sd.bcell (v:=u) (by rw [hsl];exact HUL.out)
          have sf:=HS8.out.sd.frozen u
          have HS8b:Hid _:=HS8.out.setS u (!bAt SD7 v)
          have HO8b:Hid _:=Qag HO8.out (p:=⟨sx,u,none⟩) (by show sx<z;omega) (.bool (!bAt SD7 v))
          have HSD8:Hid (bAt (SD7.set u (!bAt SD7 v)) 0=false):=by show _=_;rw [QiZ HU0.out];exact HSD7.out
          have hz8b:z≤(w7.setCell ⟨sx,u,none⟩ (.bool (!bAt SD7 v))).heap.size:=by simpa using hz8
          clear hsl ho8 HS8 HO8 hz8
          generalize SD7.set u (!bAt SD7 v)=SD8 at *
          generalize bAt SD7 v=bw at *
          have HS8:Hid _:=HS8b.out
          have HO8:Hid ((w7.setCell ⟨sx,u,none⟩ (.bool (!bw))).ownsRow z 3 1 (.slice pa ST.length ca) ST.length (natsV ST)):=HO8b.out
          have hz8:z≤(w7.setCell ⟨sx,u,none⟩ (.bool (!bw))).heap.size:=hz8b
          clear HS8b HO8b hz8b
          obtain⟨i2,hi,hz0,hz1,hz2⟩:=info_parts QgP
          have hbA:Below (w7.setCell ⟨sx,u,none⟩ (.bool (!bw))).heap.size (w7.setCell ⟨sx,u,none⟩ (.bool (!bw))) ((w7.setCell ⟨sx,u,none⟩ (.bool (!bw))).alloc (.cells #[.int .i64 (u:Int)] 3)):=YD.alloc YA _
          have hOA:=World.ownsRow.alloc HO8.out (.cells #[.int .i64 (u:Int)] 3)
          have hnews:=QcS (w7.setCell ⟨sx,u,none⟩ (.bool (!bw))) (.int .i64 (u:Int)) 3
          have hszW:(w7.setCell ⟨sx,u,none⟩ (.bool (!bw))).heap.size=w7.heap.size:=by simp
          rw [hszW] at hnews
          have hone:∀ y∈[Value.int .i64 (u:Int)],y.oneCell'=true:=YO
          have hmx:ST.length+1≤maxLen:=by unfold maxLen;omega
          have hby:(ST.length+1)*8≤140737488355328:=by omega
          have hbs:z≤((w7.setCell ⟨sx,u,none⟩ (.bool (!bw))).alloc (.cells #[.int .i64 (u:Int)] 3)).heap.size:=Nat.le_trans hz8 hbA.size
          have hlow:∀ q,(Value.slice pa ST.length ca).ownBlock=some q→z≤q:=fun q hq=>(HO8.out.lt q hq).1
          go_wp2_with (at_builtin;refine wpList_append_own_at _ rfl _ _ 27 rfl z 3 i2 (.int .i64 0) 1 8 Tryz.underlying27 hi hz0 hz1 hz2 rfl (by decide) (.slice pa ST.length ca) _ _ rfl hOA ⟨w7.heap.size,0,none⟩ 1 1 [.int .i64 (u:Int)] rfl rfl hnews hone hmx hby hbs ?_)
          intro v9 w9 hown9 hg9 hnil9 hat9
          obtain⟨a9,c9,rfl⟩:=Qaf hown9
          have hb9:Below z (w7.setCell ⟨sx,u,none⟩ (.bool (!bw))) w9:=(hbA.mono hz8).grown hg9 hbs (fun q hq=>hlow q hq)
          have HS9:Hid _:=HS8.out.hi hb9
          have HO9:Hid (w9.ownsRow z 3 1 (.slice a9 (ST.length+1) c9) (ST++[u]).length (natsV (ST++[u]))):=by
           have e1:natsV (ST++[u])=natsV ST++[.int .i64 (u:Int)]:=by simp [natsV]
           have e2:(ST++[u]).length=ST.length+1:=by simp
           show World.ownsRow _ _ _ _ _ _ _
           rw [e1,e2]
           exact hown9
          have hz9:z≤w9.heap.size:=Nat.le_trans hz8 hb9.size
          clear hbA hOA hnews hone hmx hby hbs hlow hown9 hg9 hnil9 hat9 hb9 hi hz0 hz1 hz2 HS8 HO8
          go_wp2
          exact⟨⟨q+1,_,MT3.set u true,ST++[u],HLT.out,by go_num,by show _≤_;have:=HUN.out;have:=HK3.out;simp;omega,hz9,HS9,HO9,fun y hy=>by
           rcases YJ hy with h | h
           ·exact HI3.out.1 y h
           ·rw [YF h];exact HUL.out,HSD8.out,Qf2 HI3.out.2.2.1,by have:=HUN.out;have:=HI3.out.2.2.2;simp;omega⟩,by have:=HLT.out;simp [intOf];omega⟩
       ·obtain rfl:q=P.length:=by omega
        go_wp2
        go_roundg (gk-1)
        case measure=>have:=HK3.out;omega
        case rel=>exact⟨SD3,MT3,ST,by have:=HK3.out;omega,hzw,HS,HO,HI3.out.1,HI3.out.2.1,HI3.out.2.2.1,HI3.out.2.2.2⟩
  ·obtain rfl:N=j:=by omega
   go_wp2
   go_ret
   rw [HXX.out]
   exact⟨sx,SD,rfl,by have:=HS.out.o;omega,HS.out.sd,HS.out.sl,HI.out.1,HS.out.bel⟩
end Go.Proofs.YtalflecmadacaaaGreat
