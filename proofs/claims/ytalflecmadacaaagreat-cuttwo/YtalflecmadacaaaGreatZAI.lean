import Derived.Deep.QuietTactic
import Derived.Deep.LoopGhost
import Derived.BigQuiet
import Derived.Test.YtalflecmadacaaaGreatZAE
import Derived.Test.YtalflecmadacaaaGreatZAG
import Derived.Test.YtalflecmadacaaaGreatZAH
import Derived.Test.YtalflecmadacaaaGreatZAD
import Derived.Deep.RegionHeld3
import Derived.Test.YtalflecmadacaaaGreatZAA
set_option maxRecDepth 100000
set_option maxHeartbeats 8000000
namespace Go.Proofs.YtalflecmadacaaaGreat
open Go Go.Proofs Go.RowKit
theorem LK.at {a:Lay}{lv:Value}{lk:List (List (Int × Int))}{W:World}(h:LK a lv lk W){v:Nat}(hv:v<a.N):∃ lb sb off c,lv = .slice (some ⟨lb,0,none⟩) a.N a.N∧lb<a.h0∧sb<a.h0∧¬ a.five lb∧¬ a.five sb∧W.cell? ⟨lb,v,none⟩=some (.slice (some ⟨sb,off,none⟩) (lk.getD v []).length c)∧∀ j x,(lk.getD v [])[j]? = some x→W.cell? ⟨sb,off+j*2,none⟩=some (.int .i64 x.1)∧W.cell? ⟨sb,off+j*2+1,none⟩=some (.int .i64 x.2):=by
 obtain⟨lb,sb,svs,cs,h1,h2,h3,h4,h5,h6,h7,h8,h9⟩:=h.ex
 have hl:lk[v]? = some (lk.getD v []):=by rw [YC,YB (by omega)];rfl
 obtain⟨off,c,g1,g2⟩:=h9 v _ hl
 exact⟨lb,sb,off,c,h1,h2,h4,h3,h5,h7.cell g1,fun j x hx=>⟨h8.cell (g2 j x hx).1,h8.cell (g2 j x hx).2⟩⟩
theorem Qku (a:Lay)(hL:LayOK a)(lv pv ov:Value)(lk:List (List (Int × Int)))(C:Nat)(s:WS)(r:Nat)(hr:r<a.N)(hN:a.N≤1048576)(hC:C≤1073741823)(hK:QbU a.N a.M lk)(hdeg:∀ v,(lk.getD v []).length≤4194304)(hOk:OkW a.N a.M C lk s)(hp:s.path=[])(hs:s.depth.getD r 0<0)(fuel:Nat)(hf:pot lk a.N s≤fuel)(w:World)(h:WB a lv pv ov s w)(hA:QaD pv ov)(hlk:LK a lv lk w)(hh:a.h0≤w.heap.size):
  Calls Tryz.prog 99 #[.pointer (some ⟨a.wb,0,none⟩),.int .i64 (r:Int)] w fun e w'=>e = .returned (.tuple #[])∧∃ pv' ov',WB a lv pv' ov' (QaC lk fuel s r) w'∧QaD pv' ov'∧Wk a w w'∧OkW a.N a.M C lk (QaC lk fuel s r)∧(QaC lk fuel s r).path=[]:=by
 have hmix:=mixed
 obtain⟨i0,hi,hz0,hz1,hz2⟩:=info_parts Qoa
 have HOk1:Hid _:=hOk.root hp hr hs
 have HP1:Hid _:=Nat.le_trans (QfC hOk hp hr hs) hf
 have HS:Hid (QaC lk fuel s r=runW lk fuel { s with root:=s.root.set r (r:Int),from_:=s.from_.set r (-1),depth:=s.depth.set r 0,path:=s.path++[⟨(r:Int),-1,0,0,0⟩] }):=by
  unfold Hid QaC;rw [if_neg (by omega)]
 have HS3:Hid _:=((h.setRoot hL r (r:Int)).setFrom hL r (-1)).setDepth hL r 0
 have HK3:Hid _:=(((Wk.refl a w).set (p:=⟨a.rb,r,none⟩) (.inl (.inr (.inl rfl))) (.int .i64 (r:Int))).set (p:=⟨a.fb,r,none⟩) (.inl (.inr (.inr (.inl rfl)))) (.int .i64 (-1))).set (p:=⟨a.db,r,none⟩) (.inl (.inr (.inr (.inr (.inl rfl))))) (.int .i64 0)
 have b1:=h.blk.cell (j:=1) rfl
 have b2:=h.blk.cell (j:=2) rfl
 have b3:=h.blk.cell (j:=3) rfl
 have t0:w.cell? ⟨a.db,r,none⟩=some (.int .i64 (s.depth.getD r 0)):=h.dep.cell (by rw [YH,YB (by rw [hOk.lenD];exact hr)];simp [show r<s.depth.length by rw [hOk.lenD];exact hr])
 obtain⟨y1,k1⟩:∃ z,w.cell? ⟨a.rb,r,none⟩=some z:=⟨_,h.root.cell (by rw [YH,YB (by rw [hOk.lenR];exact hr)];rfl)⟩
 obtain⟨y2,k2⟩:∃ z,w.cell? ⟨a.fb,r,none⟩=some z:=⟨_,h.frm.cell (by rw [YH,YB (by rw [hOk.lenF];exact hr)];rfl)⟩
 have f1:=h.root.frozen r
 have f2:=h.frm.frozen r
 have f3:=h.dep.frozen r
 have n1:=hL.wr
 have n2:=hL.wf
 have n3:=hL.wd
 have n4:=hL.rf
 have n5:=hL.rd
 have n6:=hL.fd
 have hrN:(r:Int)<(a.N:Int):=by omega
 have HOk:Hid _:=hOk
 have HK:Hid _:=hK
 have Hp:Hid _:=hp
 have HA:Hid _:=hA
 have HLK:Hid _:=hlk
 have HF:Hid _:=hf
 have HD:Hid _:=hdeg
 generalize s.depth.getD r 0=dr at *
 have hs':¬ 0≤dr:=by omega
 clear h hOk hK hp hA hlk hf hdeg
 go_enter Tryz.func99,Tryz.ntmps99
 go_wp2
 go_big_region_o
 have hW1:=HS3.out.go (B:=(((w.setCell ⟨a.rb,r,none⟩ (.int .i64 (r:Int))).setCell ⟨a.fb,r,none⟩ (.int .i64 (-1))).setCell ⟨a.db,r,none⟩ (.int .i64 0)).drew) (Qaa YD 1)
 have hk1:Wk a w (((w.setCell ⟨a.rb,r,none⟩ (.int .i64 (r:Int))).setCell ⟨a.fb,r,none⟩ (.int .i64 (-1))).setCell ⟨a.db,r,none⟩ (.int .i64 0)).drew:=⟨HK3.out.os,HK3.out.tape,HK3.out.output,HK3.out.size,HK3.out.block⟩
 clear HS3 HK3 b1 b2 b3 t0 k1 k2 f1 f2 f3 n1 n2 n3 n4 n5 n6
 generalize (((w.setCell ⟨a.rb,r,none⟩ (.int .i64 (r:Int))).setCell ⟨a.fb,r,none⟩ (.int .i64 (-1))).setCell ⟨a.db,r,none⟩ (.int .i64 0)).drew=w1 at hW1 hk1 ⊢
 have hh1:a.h0≤w1.heap.size:=Nat.le_trans hh hk1.size
 have hl0:s.path.length=0:=by rw [Hp.out];rfl
 obtain⟨pp,pc,rfl⟩:=Qaf hW1.way
 have hb2:Below w1.heap.size w1 (w1.alloc (.cells #[.int .i64 (r:Int),.int .i64 (-1),.int .i64 0,.int .i64 0,.int .i64 0] 144)):=YD.alloc YA _
 have hW2:=hW1.go hb2
 have hk2:=hk1.trans (Wk.of_below hb2 hh1)
 have hown:(w1.alloc (.cells #[.int .i64 (r:Int),.int .i64 (-1),.int .i64 0,.int .i64 0,.int .i64 0] 144)).ownsRow a.h0 144 5 (.slice pp s.path.length pc) s.path.length (flatP s.path):=hW2.way
 have hfl:flatP s.path=[]:=by rw [Hp.out];rfl
 rw [hl0,hfl] at hown
 have hh2:a.h0≤(w1.alloc (.cells #[.int .i64 (r:Int),.int .i64 (-1),.int .i64 0,.int .i64 0,.int .i64 0] 144)).heap.size:=Nat.le_trans hh1 hb2.size
 have hnews:∀ (j:Nat) (u:Value),([.int .i64 (r:Int),.int .i64 (-1),.int .i64 0,.int .i64 0,.int .i64 0]:List Value)[j]? = some u→(w1.alloc (.cells #[.int .i64 (r:Int),.int .i64 (-1),.int .i64 0,.int .i64 0,.int .i64 0] 144)).cell? ((⟨w1.heap.size,0,none⟩:Addr).add j)=some u:=fun j u hu=>by
  have hb:Blk 144 (w1.alloc (.cells #[.int .i64 (r:Int),.int .i64 (-1),.int .i64 0,.int .i64 0,.int .i64 0] 144)) w1.heap.size [.int .i64 (r:Int),.int .i64 (-1),.int .i64 0,.int .i64 0,.int .i64 0]:=heap_alloc_new w1 _
  rw [Qi0]
  exact hb.cell hu
 have hone:∀ u∈([.int .i64 (r:Int),.int .i64 (-1),.int .i64 0,.int .i64 0,.int .i64 0]:List Value),u.oneCell'=true:=by
  intro u hu
  simp at hu
  rcases hu with rfl | rfl | rfl <;> rfl
 have b5:=hW1.blk.cell (j:=5) rfl
 rw [show ({ s with root:=s.root.set r (r:Int),from_:=s.from_.set r (-1),depth:=s.depth.set r 0 }:WS).path.length=0 from hl0] at b5
 have Hlow:Hid (∀ k,(Value.slice pp s.path.length pc).ownBlock=some k→a.h0≤k):=fun k e=>(hW2.way.lt k e).1
 have Hov:Hid (∀ k,ov.ownBlock=some k→k<(w1.alloc (.cells #[.int .i64 (r:Int),.int .i64 (-1),.int .i64 0,.int .i64 0,.int .i64 0] 144)).heap.size):=fun k e=>(hW2.opn.lt k e).2
 have HW2:Hid _:=hW2
 have HK2:Hid _:=hk2
 have Hl0:Hid _:=hl0
 clear hW1 hk1 hW2 hk2 hb2 hl0 hfl
 go_wp2_with (at_builtin;refine wpList_append_own_at _ rfl _ _ 95 rfl a.h0 144 i0 (.agg #[.int .i64 0,.int .i64 0,.int .i64 0,.int .i64 0,.int .i64 0]) 5 40 Tryz.underlying95 hi hz0 hz1 hz2 rfl (by decide) (.slice pp 0 pc) _ _ rfl hown ⟨w1.heap.size,0,none⟩ 1 1 [.int .i64 (r:Int),.int .i64 (-1),.int .i64 0,.int .i64 0,.int .i64 0] rfl rfl hnews hone (by decide) (by decide) hh2 ?_)
 intro v6 w6 hown6 hg6 hnil6 hat6
 obtain⟨a6,m6,c6,rfl⟩:=Qar hown6
 have hS:=HW2.out.setPth (P:=s.path++[⟨(r:Int),-1,0,0,0⟩]) hL HA.out (B:=w6) (pv':=.slice a6 m6 c6) (by rw [show (Value.slice pp s.path.length pc).ownBlock=(Value.slice pp 0 pc).ownBlock from by cases pp <;> rfl];exact hg6) Hlow.out (by rw [YI,Qa7,Hl0.out,Hp.out];exact hown6)
 have hb8:Blk 97 w6 a.wb (QiU a lv (.slice pp s.path.length pc) ov):=(hg6.block a.wb HW2.out.blk.lt (fun e=>by have:=Hlow.out a.wb (by rw [show (Value.slice pp s.path.length pc).ownBlock=(Value.slice pp 0 pc).ownBlock from by cases pp <;> rfl];exact e.symm);have:=hL.w0;omega)).trans HW2.out.blk
 have c5:=hb8.cell (j:=5) rfl
 have f5:=hb8.frozen 5
 have hlow6:∀ k,(Value.slice pp 0 pc).ownBlock=some k→a.h0≤k:=fun k e=>Hlow.out k (by rw [show (Value.slice pp s.path.length pc).ownBlock=(Value.slice pp 0 pc).ownBlock from by cases pp <;> rfl];exact e)
 have HS1:Hid _:=hS
 have HK1:Hid _:=(HK2.out.trans (Wk.grown hg6 hh2 hlow6)).set (p:=⟨a.wb,5,none⟩) (.inl (.inl rfl)) (.slice a6 m6 c6)
 have HA1:Hid (QaD (.slice a6 m6 c6) ov):=Qcv HA.out (by rw [show (Value.slice pp s.path.length pc).ownBlock=(Value.slice pp 0 pc).ownBlock from by cases pp <;> rfl,World.size_alloc];exact hat6) Hov.out
 clear hS hb8 hown6 hg6 hnil6 hat6 HK2 HW2 Hlow Hov hlow6 hnews hone hown b5 hi hz0 hz1 hz2 HA
 go_wp2
 go_loopg [4] fuel (fun k _ wr=>∃ s' pv' ov',WB a lv pv' ov' s' wr∧QaD pv' ov'∧Wk a w wr∧OkW a.N a.M C lk s'∧pot lk a.N s'≤k∧runW lk k s'=QaC lk fuel s r)
 case atStart=>exact⟨_,_,_,HS1.out,HA1.out,HK1.out,HOk1.out,HP1.out,HS.out.symm⟩
 case round=>
  obtain⟨s',pv',ov',hW,hA,hk,hOk,hpot,hrun⟩:=hrel
  obtain⟨pp',pc',rfl⟩:=Qaf hW.way
  have b5:=hW.blk.cell (j:=5) rfl
  have hpw:s'.path.length≤pot lk a.N s':=QkU
  have hbo:=hOk.bo
  cases hpl:s'.path.getLast? with
  | none=>
   have hpn:s'.path=[]:=List.getLast?_eq_none_iff.1 hpl
   have HE:Hid (QaC lk fuel s r=s'):=by unfold Hid;rw [← hrun,QcF hpn]
   have hl':s'.path.length=0:=by rw [hpn];rfl
   have Hn:Hid _:=hpn
   have HW:Hid _:=hW
   have HA:Hid _:=hA
   have HK':Hid _:=hk
   have HOk':Hid _:=hOk
   clear hW hA hk hOk hpot hrun hpn hpl hpw hbo
   go_wp2
   refine bodyPost_end (results_none rfl _ _ _) rfl ?_
   refine⟨rfl,_,_,?_,HA.out,HK'.out,?_,?_⟩
   ·rw [HE.out];exact HW.out
   ·rw [HE.out];exact HOk'.out
   ·rw [HE.out];exact Hn.out
  | some top=>
   obtain⟨init,hp'⟩:=List.getLast?_eq_some_iff.1 hpl
   have hln:s'.path.length=init.length+1:=by rw [hp'];simp
   obtain⟨pb,hpb⟩:∃ pb,pp'=some ⟨pb,0,none⟩:=by
    obtain⟨g,cp,hg⟩:=QcQ hW.way (by omega)
    simp only [Value.slice.injEq] at hg
    exact⟨g,hg.1⟩
   subst hpb
   obtain⟨v,ev,hvN,hdv⟩:=hOk.way top.v (by rw [hp'];simp)
   have hnx:=hOk.nxt top (by rw [hp'];simp)
   unfold degW at hnx
   have hvt:top.v.toNat=v:=by rw [ev];rfl
   rw [hvt] at hnx
   have hdg:=HD.out v
   obtain⟨k',hk'⟩:∃ k',gk=k'+1:=⟨gk-1,by omega⟩
   subst hk'
   have HRUN:Hid (runW lk k' (stepW lk s')=QaC lk fuel s r):=hrun
   have hst:stepW lk s'=if top.next=(lk.getD v []).length then Qay s' init top else lookW s' init { top with next:=top.next+1 } ((lk.getD v []).getD top.next (0,0)):=by
    unfold stepW
    rw [hpl]
    simp only [hvt]
    rw [show s'.path.dropLast=init from by rw [hp'];simp]
   generalize hxs:lk.getD v []=xs at hnx hdg hst
   have HXS:Hid _:=hxs
   have HST:Hid _:=hst
   have hbl:init.length+1≤1073741823:=by omega
   have hol:s'.opn.length≤1073741823:=by omega
   have HW:Hid _:=hW
   have HA:Hid _:=hA
   have HK':Hid _:=hk
   have HOk':Hid _:=hOk
   have Hp':Hid _:=hp'
   have Hln:Hid _:=hln
   have Hpot:Hid _:=hpot
   have hvN':(v:Int)<(a.N:Int):=by omega
   rw [hln] at b5
   clear hW hA hk hOk hpot hrun hpl hpw hbo hp' hln hst hxs
   go_wp2
   go_quiet (fail)
   have hb1:Below wr.heap.size wr (wr.drewN nq):=Qaa YD nq
   have hW1:=HW.out.go hb1
   have hpb1:=HW.out.way.lt pb rfl
   have hk1:Wk a w (wr.drewN nq):=HK'.out.trans (Wk.of_below hb1 (by omega))
   clear HW HK' b5
   generalize wr.drewN nq=w8 at hW1 hk1 ⊢
   obtain⟨lb,sb,off,cc,rfl,hlb,hsb,hl5,hs5,g0,g1⟩:=(HLK.out.go hk1).at hvN
   rw [HXS.out] at g0 g1
   have b0:=hW1.blk.cell (j:=0) rfl
   obtain⟨p0,-,p2,-,-⟩:=hW1.top Hp'.out
   rw [ev] at p0
   have G1:Hid _:=g1
   have HW:Hid _:=hW1
   have HK':Hid _:=hk1
   clear hW1 hk1 g1
   go_wp2
   go_quiet (fail)
   have hb2:Below w8.heap.size w8 (w8.drewN nq):=Qaa YD nq
   have hW2:=HW.out.go hb2
   have hpb2:=HW.out.way.lt pb rfl
   have hk2:Wk a w (w8.drewN nq):=HK'.out.trans (Wk.of_below hb2 (by omega))
   have G2:Hid _:=fun j x hx=>(⟨Qad hb2 (G1.out j x hx).1,Qad hb2 (G1.out j x hx).2⟩:_∧_)
   have g02:=Qad hb2 g0
   clear HW HK' b0 p0 p2 g0 G1 hpb1
   generalize w8.drewN nq=w9 at hW2 hk2 G2 g02 ⊢
   by_cases hnq:top.next=xs.length
   ·have HE:Hid (stepW lk s'=Qay s' init top):=by unfold Hid;rw [HST.out,if_pos hnq]
    have hlv:=Qlz a hL _ ov' s' init top pb pc' Hp'.out (by rw [Hln.out];omega) (by omega) HOk'.out.lenD HOk'.out.lenK (fun st hst=>by
     obtain⟨z,z1,z2,_⟩:=HOk'.out.way st.v (by rw [Hp'.out];exact List.mem_map.2 ⟨st,List.mem_append_left _ hst,rfl⟩)
     exact⟨z,z1,z2⟩) (HOk'.out.opl top.opn (by rw [Hp'.out];simp)) HOk'.out.ops w9 hW2 HA.out
    have hnq':(xs.length:Int)=(top.next:Int):=by omega
    clear hW2 G2 g02
    go_wp2_with fail
    refine hlv.mono ?_
    rintro e w10 ⟨rfl,pv2,ov2,z1,z2,z3⟩
    have HZ1:Hid _:=z1
    have HZ2:Hid _:=z2
    have HZ3:Hid _:=hk2.trans z3
    clear z1 z2 z3 hk2 hlv
    go_wp2
    go_roundg k'
    case measure=>exact Nat.lt_succ_self _
    case rel=>
     have hle:=Qcf (lk:=lk) (N:=a.N) Hp'.out
     have hpo:=Hpot.out
     refine⟨Qay s' init top,pv2,ov2,HZ1.out,HZ2.out,HZ3.out,HOk'.out.leave Hp'.out,by omega,?_⟩
     rw [← HE.out]
     exact HRUN.out
   ·have hlt:top.next<xs.length:=by omega
    obtain⟨x,hx⟩:∃ x,xs[top.next]? = some x:=⟨_,YB hlt⟩
    have hxd:xs.getD top.next (0,0)=x:=by rw [YC,hx];rfl
    have HE:Hid (stepW lk s'=lookW s' init { top with next:=top.next+1 } x):=by unfold Hid;rw [HST.out,if_neg hnq,hxd]
    have HOkL:Hid _:=HOk'.out.look HK.out Hp'.out (x:=x) (by rw [hvt,HXS.out];exact hx)
    have HLess:Hid _:=QcZ (lk:=lk) (N:=a.N) (x:=x) Hp'.out (by unfold degW;rw [hvt,HXS.out];exact hlt) HOk'.out.lenD (by obtain⟨⟨u,eu,hu⟩,_⟩:=HK.out v x (by rw [HXS.out];exact YK hx);rw [eu];exact hu) (by unfold at_;rw [hvt];exact hdv)
    obtain⟨⟨u,eu,hu⟩,pl,epl,hpl⟩:=HK.out v x (by rw [HXS.out];exact YK hx)
    obtain⟨q0,q1⟩:=G2.out top.next x hx
    rw [eu] at q0
    rw [epl] at q1
    have hxe:x=((u:Int),(pl:Int)):=by rw [← eu,← epl]
    subst hxe
    obtain⟨p0,-,p2,-,-⟩:=hW2.top Hp'.out
    rw [ev] at p0
    have b0:=hW2.blk.cell (j:=0) rfl
    have fr:=hW2.way.frozenAt (init.length*5+2)
    have hS:=hW2.setWay hL HA.out (j:=init.length*5+2) (u:=.int .i64 ((top.next+1:Nat):Int)) (P:=init++[{ top with next:=top.next+1 }]) (by rw [Hp'.out];exact QjT init top (top.next+1)) (by rw [Hp'.out];simp)
    have hk3:=hk2.set (p:=⟨pb,init.length*5+2,none⟩) (.inr hpb2.1) (.int .i64 ((top.next+1:Nat):Int))
    have HS2:Hid _:=hS
    have HK3:Hid _:=hk3
    have hnw:pb≠a.wb:=by have:=hL.w0;omega
    have hnl:pb≠lb:=by omega
    have hns:pb≠sb:=by omega
    have hbd:=HOk'.out.bd v
    have hnx':¬ (top.next:Int)=(xs.length:Int):=by omega
    have hlt':(top.next:Int)<(xs.length:Int):=by omega
    clear hW2 hk2 G2 hS hk3
    have Hx:Hid _:=hx
    clear hx hxd eu epl
    generalize xs.length=dg at *
    go_wp2
    have hW4:=HS2.out
    have hk4:=HK3.out
    rw [show ((top.next+1:Nat):Int)=(top.next:Int)+1 from by omega] at hW4 hk4
    have g03:(w9.setCell ⟨pb,init.length*5+2,none⟩ (.int .i64 ((top.next:Int)+1))).cell? ⟨lb,v,none⟩=some (.slice (some ⟨sb,off,none⟩) dg cc):=(World.cell?_of_block (Below.heap_setCell w9 _ _ lb (Ne.symm hnl))).trans g02
    have q03:(w9.setCell ⟨pb,init.length*5+2,none⟩ (.int .i64 ((top.next:Int)+1))).cell? ⟨sb,off+top.next*2,none⟩=some (.int .i64 (u:Int)):=(World.cell?_of_block (Below.heap_setCell w9 _ _ sb (Ne.symm hns))).trans q0
    have q13:(w9.setCell ⟨pb,init.length*5+2,none⟩ (.int .i64 ((top.next:Int)+1))).cell? ⟨sb,off+top.next*2+1,none⟩=some (.int .i64 (pl:Int)):=(World.cell?_of_block (Below.heap_setCell w9 _ _ sb (Ne.symm hns))).trans q1
    clear HS2 HK3 g02 q0 q1 p0 p2 b0 fr
    generalize (w9.setCell ⟨pb,init.length*5+2,none⟩ (.int .i64 ((top.next:Int)+1)))=w10 at hW4 hk4 g03 q03 q13 ⊢
    have b0:=hW4.blk.cell (j:=0) rfl
    obtain⟨p0,-,p2,-,-⟩:=hW4.top (s:={ s' with path:=init++[{ top with next:=top.next+1 }] }) rfl
    rw [show (({ top with next:=top.next+1 }:Stp).next:Int)=(top.next:Int)+1 from by show ((top.next+1:Nat):Int)=_;omega] at p2
    have p0':w10.cell? ⟨pb,init.length*5,none⟩=some (.int .i64 (v:Int)):=by rw [← ev];exact p0
    have Hlook:Hid _:=fun (W:World) (hb:Below w10.heap.size w10 W)=>Qne a hL _ ov' { s' with path:=init++[{ top with next:=top.next+1 }] } init { top with next:=top.next+1 } pb pc' v u (pl:Int) rfl ev hvN hu hN HOk'.out.lenD HOk'.out.lenR HOk'.out.lenF (by show (init++[_]).length≤_;rw [YI,List.length_singleton];omega) (by show s'.opn.length≤_;omega) hdv (by show s'.depth.getD v 0≤_;omega) W (hW4.go hb) HA.out
    have HW4:Hid _:=hW4
    have HK4:Hid _:=hk4
    have hpb4:=hW4.way.lt pb rfl
    have Hp0:Hid _:=p0
    clear hW4 hk4 p0 hbd hdv hvt hu hpl
    have hw1:IntKind.i64.wrap ((top.next:Int)+1-1)=(top.next:Int):=by rw [show (top.next:Int)+1-1=(top.next:Int) from by omega];exact QaU _ (by omega) (by omega)
    have hw2:IntKind.i64.wrap (top.next:Int)=(top.next:Int):=QaU _ (by omega) (by omega)
    generalize hof:init.length*5=of at *
    refine Qai (S:=(fun w':World=>w'.cell? ⟨a.wb,0,none⟩=some (.slice (some ⟨lb,0,none⟩) a.N a.N)∧w'.cell? ⟨pb,of,none⟩=some (.int .i64 (v:Int))∧w'.cell? ⟨pb,of+2,none⟩=some (.int .i64 ((top.next:Int)+1))∧w'.cell? ⟨lb,v,none⟩=some (.slice (some ⟨sb,off,none⟩) dg cc)∧w'.cell? ⟨sb,off+top.next*2,none⟩=some (.int .i64 (u:Int))∧w'.cell? ⟨sb,off+top.next*2+1,none⟩=some (.int .i64 (pl:Int)))) (by kernel_rfl) ?_ (fun hHeld=>?_)
    ·(try dsimp only);go_keep
    refine tL 0 ?_
    try simp only [YS]
    refine tL 1 ?_
    refine tL 2 ?_
    refine tL 3 ?_
    refine tL 4 ?_
    refine tL 5 ?_
    refine tL 6 ?_
    refine tL 7 ?_
    refine tL 8 ?_
    refine tL 9 ?_
    refine tL 10 ?_
    refine tL 11 ?_
    refine tL 12 ?_
    refine tL 13 ?_
    refine tL 14 ?_
    refine tL 15 ?_
    refine tL 16 ?_
    refine tL 17 ?_
    refine tL 18 ?_
    refine Qac (rs:=[19]) (by kernel_rfl) (by simp) ?_
    refine AllReadyL.last rfl (by kernel_rfl) (fun K hK=>?_)
    go_simp
    refine (Hlook.out w10.drew (Qaa YD 1)).mono ?_
    rintro e w11 ⟨rfl,pv2,ov2,z1,z2,z3⟩
    have HZ1:Hid _:=z1
    have HZ2:Hid _:=z2
    have HZ3:Hid (Wk a w w11):=(HK4.out.trans (Wk.of_below (Qaa (Below.refl w10.heap.size _) 1) (by omega))).trans z3
    clear z1 z2 z3
    refine hK.out _ _ ?_
    clear hK K Hlook HW4 HK4
    try simp only [Act.put,YS,YT,YU]
    refine Qak (by kernel_rfl) ?_ _
    go_wp2
    go_roundg k'
    case measure=>exact Nat.lt_succ_self _
    case rel=>
     have hle:=HLess.out
     have hpo:=Hpot.out
     refine⟨lookW s' init { top with next:=top.next+1 } ((u:Int),(pl:Int)),pv2,ov2,HZ1.out,HZ2.out,HZ3.out,HOkL.out,by omega,?_⟩
     rw [← HE.out]
     exact HRUN.out
theorem Qja (a:Lay)(lv pv ov:Value)(s:WS)(r:Nat)(hr:r<a.N)(hN:a.N≤1048576)(hD:s.depth.length=a.N)(hpos:0≤s.depth.getD r 0)(w:World)(h:WB a lv pv ov s w):
  Calls Tryz.prog 99 #[.pointer (some ⟨a.wb,0,none⟩),.int .i64 (r:Int)] w fun e w'=>e = .returned (.tuple #[])∧w'=w:=by
 have b3:=h.blk.cell (j:=3) rfl
 have hrN:(r:Int)<(a.N:Int):=by omega
 have t0:w.cell? ⟨a.db,r,none⟩=some (.int .i64 (s.depth.getD r 0)):=h.dep.cell (by rw [YH,YB (by omega)];simp [show r<s.depth.length by omega])
 obtain⟨N,M,wb,rb,fb,db,kb,h0⟩:=a
 simp only at *
 generalize s.depth.getD r 0=d at *
 clear h hD
 go_enter Tryz.func99,Tryz.ntmps99
 go_wp2
 (try simp only [Exit.inBlock,Exit.then])
 refine bodyPost_ret (results_none rfl _ _ _) rfl ?_
 exact⟨rfl,rfl⟩
section
variable {P:Program} {ops:Array Oper} {Q:Exit→Act→World→Prop} {md:Region.Mode} {S:World→Prop}
def eachB (md:Region.Mode)(ops:Array Oper)(ps:List Nat)(full:Array Bool):Nat→Array Bool→List Nat→Bool
 | 0,listed,d=>(ps.filter fun i=>!d.contains i).isEmpty && listed==full
 | n+1,listed,d=>(Region.ready md ops listed==ps.filter fun i=>!d.contains i) && (ps.filter fun i=>!d.contains i).all fun i=>eachB md ops ps full n (listed.setIfInBounds i true) (i :: d)
theorem QeH {ps:List Nat}(hn:ps.Nodup)(d:List Nat){i:Nat}(hi:i∈ps.filter fun i=>!d.contains i):(ps.filter fun j=>!(i :: d).contains j).length+1=(ps.filter fun j=>!d.contains j).length:=by
 have e:(ps.filter fun j=>!(i :: d).contains j)=(ps.filter fun j=>!d.contains j).erase i:=by
  have hnf:(ps.filter fun j=>!d.contains j).Nodup:=hn.filter _
  rw [hnf.erase_eq_filter,List.filter_filter]
  refine List.filter_congr fun j _=>?_
  simp only [List.contains_cons,Bool.not_or,bne]
 rw [e,List.length_erase_of_mem hi]
 have:=List.length_pos_of_mem hi
 omega
theorem Qck (ps:List Nat)(hn:ps.Nodup)(full:Array Bool)(J:List Nat→Act→World→Prop)(fe:Nat)
  (hstep:∀ i∈ps,∀ d a w,i∉d→J d a w→wpOp P ops Q i (fun a' w'=>S w'∧J (i :: d) a' w') a w)
  (hend:∀ d a w,(∀ i∈ps,i∈d)→J d a w→wpAnyH P md ops Q S fe full a w) :
  ∀ (n:Nat) (listed:Array Bool) (d:List Nat) (a:Act) (w:World),(ps.filter fun i=>!d.contains i).length=n→eachB md ops ps full n listed d=true→J d a w→wpAnyH P md ops Q S (fe+n) listed a w
 | 0,listed,d,a,w,hl,h,hJ=>by
  unfold eachB at h
  rw [Bool.and_eq_true] at h
  have h1:=List.isEmpty_iff.1 h.1
  have h2:listed=full:=by simpa using h.2
  subst h2
  refine hend d a w (fun i hi=>?_) hJ
  have:i∉ps.filter fun i=>!d.contains i:=by rw [h1];simp
  rw [List.mem_filter] at this
  by_cases hd:i∈d
  ·exact hd
  ·exact absurd ⟨hi,by simp [hd]⟩ this
 | n+1,listed,d,a,w,hl,h,hJ=>by
  unfold eachB at h
  rw [Bool.and_eq_true] at h
  have h1:Region.ready md ops listed=ps.filter fun i=>!d.contains i:=by simpa using h.1
  have hne:(ps.filter fun i=>!d.contains i)≠[]:=fun e=>by rw [e] at hl;simp at hl
  refine wpAnyH_ready h1 hne (fun i hi=>?_)
  obtain⟨hip,hid⟩:=List.mem_filter.1 hi
  have hid':i∉d:=by simpa using hid
  refine wpOp_mono (fun a' w' h'=>⟨h'.1,?_⟩) (hstep i hip d a w hid' hJ)
  have hl':=QeH hn d hi
  exact Qck ps hn full J fe hstep hend n _ (i :: d) a' w' (by omega) (List.all_eq_true.1 h.2 i hi) h'.2
theorem Qas {i:Nat}{o:Oper}{a:Act}{w:World}{R:Act→World→Prop}(ho:ops[i]? = some o)
  (h:∀ K':Act→World→Prop,Shut (∀ a w,S w→R a w→K' a w)→if Region.wanted o (yielded ops a.tmps)=true then Oper.wp P o a w K' Q else K' (a.put o.dst undef) w):wpOp P ops Q i (fun a' w'=>S w'∧R a' w') a w:=
 wpOp_step ho (fun K' hK=>h K' (fun a w hS hR=>hK a w ⟨hS,hR⟩))
end
def lenR (N M : Nat) (i : Nat) : Nat := if i = 14 then M else N
def updV {α : Type} (X : Nat → α) (i : Nat) (v : α) : Nat → α := fun j => if j = i then v else X j
theorem QaX {α : Type} (X : Nat → α) (i : Nat) (v : α) : updV X i v i = v := by simp [updV]
theorem Qat {α : Type} (X : Nat → α) {i j : Nat} (v : α) (h : j ≠ i) : updV X i v j = X j := by simp [updV, h]
def rowZ (n : Nat) : List Value := (List.replicate n (0 : Int)).map (Value.int .i64)
structure JW (N : Nat) (l : List Ed) (n1 : Nat) (d : List Nat) (X : Nat → Value) (B : Nat → Nat) (W : World) : Prop where
  ge : ∀ i, i ∈ d → n1 ≤ B i ∧ B i < W.heap.size
  sb : 1 ∈ d → n1 ≤ B 18 ∧ B 18 < W.heap.size ∧ B 1 ≠ B 18
  ne : ∀ i j, i ∈ d → j ∈ d → i ≠ j → B i ≠ B j
  ns : ∀ i, i ∈ d → i ≠ 1 → 1 ∈ d → B i ≠ B 18
  row : ∀ i, i ∈ d → i ≠ 1 → X i = .slice (some ⟨B i, 0, none⟩) (lenR N l.length i) (lenR N l.length i) ∧ Blk 3 W (B i) (rowZ (lenR N l.length i))
  lnk : 1 ∈ d → X 1 = .slice (some ⟨B 1, 0, none⟩) N N ∧ LnkI N (B 1) (B 18) (2 * l.length) (offR l (2 * l.length)) (fun v => (nb l (v : Int)).length) (fun v => Qaj (v : Int) 0 l) W
theorem JW.nil (N : Nat) (l : List Ed) (n1 : Nat) (X : Nat → Value) (B : Nat → Nat) (W : World) : JW N l n1 [] X B W :=
  ⟨fun i h => by simp at h, fun h => by simp at h, fun i j h => by simp at h, fun i h => by simp at h, fun i h => by simp at h, fun h => by simp at h⟩
theorem JW.addRow {N : Nat} {l : List Ed} {n1 : Nat} {d : List Nat} {X : Nat → Value} {B : Nat → Nat} {W : World} (h : JW N l n1 d X B W) {i : Nat} (hi : i ∉ d) (h1 : i ≠ 1) (h18 : i ≠ 18) (hn : n1 ≤ W.heap.size) {W' : World} (hB : Blk 3 W' W.heap.size (rowZ (lenR N l.length i))) (hb : Below W.heap.size W W') :
    JW N l n1 (i :: d) (updV X i (.slice (some ⟨W.heap.size, 0, none⟩) (lenR N l.length i) (lenR N l.length i))) (updV B i W.heap.size) W' := by
  have hlt : W.heap.size < W'.heap.size := hB.lt
  have hB18 : ∀ v, updV B i v 18 = B 18 := fun v => Qat B v (Ne.symm h18)
  have hB1 : ∀ v, updV B i v 1 = B 1 := fun v => Qat B v (Ne.symm h1)
  have hold : ∀ j, j ∈ d → j ≠ i := fun j hj e => hi (e ▸ hj)
  have o1 : 1 ∈ i :: d → 1 ∈ d := fun h => by rcases List.mem_cons.1 h with e | e; · exact absurd e.symm h1
                                              · exact e
  refine ⟨fun j hj => ?_, fun hj => ?_, fun j k hj hk hne => ?_, fun j hj hj1 h1d => ?_, fun j hj hj1 => ?_, fun hj => ?_⟩
  · rcases List.mem_cons.1 hj with rfl | hj
    · rw [QaX]; exact ⟨hn, hlt⟩
    · rw [Qat B _ (hold j hj)]; have := h.ge j hj; omega
  · rw [hB18, hB1]; have := h.sb (o1 hj); omega
  · rcases List.mem_cons.1 hj with ej | hj'
    · rcases List.mem_cons.1 hk with ek | hk'
      · exact absurd (ej.trans ek.symm) hne
      · rw [ej, QaX, Qat B _ (hold k hk')]; have := h.ge k hk'; omega
    · rcases List.mem_cons.1 hk with ek | hk'
      · rw [ek, QaX, Qat B _ (hold j hj')]; have := h.ge j hj'; omega
      · rw [Qat B _ (hold j hj'), Qat B _ (hold k hk')]; exact h.ne j k hj' hk' hne
  · rw [hB18]
    have hs := h.sb (o1 h1d)
    rcases List.mem_cons.1 hj with rfl | hj
    · rw [QaX]; omega
    · rw [Qat B _ (hold j hj)]; exact h.ns j hj hj1 (o1 h1d)
  · rcases List.mem_cons.1 hj with rfl | hj
    · rw [QaX, QaX]; exact ⟨rfl, hB⟩
    · rw [Qat B _ (hold j hj), Qat X _ (hold j hj)]
      obtain ⟨g1, g2⟩ := h.row j hj hj1
      exact ⟨g1, g2.go hb⟩
  · rw [hB18, hB1, Qat X _ (Ne.symm h1)]
    obtain ⟨g1, g2⟩ := h.lnk (o1 hj)
    exact ⟨g1, g2.go hb⟩
theorem JW.addLnk {N : Nat} {l : List Ed} {n1 : Nat} {d : List Nat} {X : Nat → Value} {B : Nat → Nat} {W : World} (h : JW N l n1 d X B W) (hi : 1 ∉ d) (h18 : 18 ∉ d) (hn : n1 ≤ W.heap.size) {W' : World} {lb sb : Nat} (hlb : W.heap.size < lb) (hsb : W.heap.size < sb) (hne : lb ≠ sb) (hI : LnkI N lb sb (2 * l.length) (offR l (2 * l.length)) (fun v => (nb l (v : Int)).length) (fun v => Qaj (v : Int) 0 l) W') (hb : Below W.heap.size W W') :
    JW N l n1 (1 :: d) (updV X 1 (.slice (some ⟨lb, 0, none⟩) N N)) (updV (updV B 1 lb) 18 sb) W' := by
  have e18 : updV (updV B 1 lb) 18 sb 18 = sb := QaX _ _ _
  have e1 : updV (updV B 1 lb) 18 sb 1 = lb := by rw [Qat _ _ (by omega), QaX]
  have eo : ∀ j, j ∈ d → updV (updV B 1 lb) 18 sb j = B j := fun j hj => by
    rw [Qat _ _ (fun e => h18 (by rw [← e]; exact hj)), Qat _ _ (fun e => hi (by rw [← e]; exact hj))]
  have hl1 := hI.row.lt
  have hl2 : sb < W'.heap.size := by obtain ⟨cs, hc, _⟩ := hI.cur; exact hc.lt
  refine ⟨fun j hj => ?_, fun _ => ?_, fun j k hj hk hjk => ?_, fun j hj hj1 _ => ?_, fun j hj hj1 => ?_, fun _ => ?_⟩
  · rcases List.mem_cons.1 hj with rfl | hj
    · rw [e1]; omega
    · rw [eo j hj]; have := h.ge j hj; have := hb.size; omega
  · rw [e18, e1]; omega
  · rcases List.mem_cons.1 hj with rfl | hj
    · rcases List.mem_cons.1 hk with rfl | hk
      · exact absurd rfl hjk
      · rw [e1, eo k hk]; have := h.ge k hk; omega
    · rcases List.mem_cons.1 hk with rfl | hk
      · rw [e1, eo j hj]; have := h.ge j hj; omega
      · rw [eo j hj, eo k hk]; exact h.ne j k hj hk hjk
  · rcases List.mem_cons.1 hj with rfl | hj
    · exact absurd rfl hj1
    · rw [e18, eo j hj]; have := h.ge j hj; omega
  · rcases List.mem_cons.1 hj with rfl | hj
    · exact absurd rfl hj1
    · rw [eo j hj, Qat X _ (fun e => hi (by rw [← e]; exact hj))]
      obtain ⟨g1, g2⟩ := h.row j hj hj1
      exact ⟨g1, g2.go hb⟩
  · rw [e18, e1, QaX]; exact ⟨rfl, hI⟩
theorem QcJ (n : Nat) : (madeCells #[Value.int .i64 0] n).toList = rowZ n := by
  have := QaK n
  rw [Nat.mul_one] at this
  exact this
theorem Qpy {a : Lay} {lb sb M2 : Nat} {off deg : Nat → Nat} {l : List Ed} {W : World} (hI : LnkI a.N lb sb M2 off deg (fun v => Qaj (v : Int) 0 l) W) (h1 : lb < a.h0) (h2 : sb < a.h0) (h3 : ¬ a.five lb) (h4 : ¬ a.five sb) : LK a (.slice (some ⟨lb, 0, none⟩) a.N a.N) (QaJ a.N l) W := by
  obtain ⟨cs, hc, hcl, hcs⟩ := hI.cur
  refine ⟨lb, sb, _, cs, rfl, h1, h3, h2, h4, by simp [QaJ], hI.row, hc, fun v xs hxs => ?_⟩
  have hv : v < a.N := by
    have := (YE hxs).1
    simpa [QaJ] using this
  have he : xs = Qaj (v : Int) 0 l := by
    have := hxs
    simp [QaJ, hv] at this
    exact this.symm
  subst he
  refine ⟨off v * 2, deg v, QcI hv, fun j x hx => ?_⟩
  have := hcs v j x hv hx
  rw [Nat.add_mul] at this
  exact this
theorem QhO {N : Nat} {l : List Ed} (hR : RightG (N : Int) l) (v : Nat) : ((QaJ N l).getD v []).length ≤ 4194304 := by
  by_cases hv : v < N
  · rw [QbB hv, QbC]
    have := QaO (v : Int) l
    have := hR.m1
    omega
  · rw [Qe9 hv]; simp
theorem QoE (N j : Nat) (hj : j < N) : (List.replicate j (-1 : Int) ++ List.replicate (N - j) 0).set j (-1) = List.replicate (j + 1) (-1) ++ List.replicate (N - (j + 1)) 0 := by
  rw [List.set_append_right _ _ (by simp), List.length_replicate, Nat.sub_self]
  obtain ⟨m, hm⟩ : ∃ m, N - j = m + 1 := ⟨N - j - 1, by omega⟩
  rw [hm, List.replicate_succ, List.set_cons_zero, show N - (j + 1) = m from by omega, List.replicate_succ', List.append_assoc]
  rfl
theorem Qkv (a : Lay) (hL : LayOK a) (lv pv ov : Value) (lk : List (List (Int × Int))) (C : Nat) (s : WS) (r : Nat) (hr : r < a.N) (hN : a.N ≤ 1048576) (hC : C ≤ 1073741823) (hK : QbU a.N a.M lk) (hdeg : ∀ v, (lk.getD v []).length ≤ 4194304) (hOk : OkW a.N a.M C lk s) (hp : s.path = []) (w : World) (h : WB a lv pv ov s w) (hA : QaD pv ov) (hlk : LK a lv lk w) (hh : a.h0 ≤ w.heap.size) :
    Calls Tryz.prog 99 #[.pointer (some ⟨a.wb, 0, none⟩), .int .i64 (r : Int)] w fun e w' => e = .returned (.tuple #[]) ∧ ∃ pv' ov', WB a lv pv' ov' (QaC lk C s r) w' ∧ QaD pv' ov' ∧ Wk a w w' ∧ OkW a.N a.M C lk (QaC lk C s r) ∧ (QaC lk C s r).path = [] := by
  by_cases hs : s.depth.getD r 0 < 0
  · exact Qku a hL lv pv ov lk C s r hr hN hC hK hdeg hOk hp hs C (by have := hOk.bo; omega) w h hA hlk hh
  · refine (Qja a lv pv ov s r hr hN hOk.lenD (by omega) w h).mono ?_
    rintro e w' ⟨rfl, rfl⟩
    have e : QaC lk C s r = s := by unfold QaC; rw [if_pos (by omega)]
    rw [e]
    exact ⟨rfl, pv, ov, h, hA, Wk.refl _ _, hOk, hp⟩
theorem Qg0 (args:Array Value)(W:World):(callFunc 99 args).run Tryz.prog W = .ok (.enter 99 args) W:=by kernel_rfl
theorem QgQ (N:Nat)(hN:N≤1048576)(wb:Nat)(Inv:Nat→World→Prop)(hcall:∀ k W,k<N→Inv k W→Calls Tryz.prog 99 #[.pointer (some ⟨wb,0,none⟩),.int .i64 (k:Int)] W fun e w'=>e = .returned (.tuple #[])∧Inv (k+1) w')(w:World)(h0:Inv 0 w):
  Calls Tryz.prog 98 #[.int .i64 (N:Int),.func (.func 99) #[.pointer (some ⟨wb,0,none⟩)] #[]] w fun e w'=>e = .returned (.tuple #[])∧Inv N w':=by
 go_enter Tryz.func98,Tryz.ntmps98
 go_wp2
 go_loopw [6] (fun i wr=>∃ j:Nat,j≤N∧i = .int .i64 j∧Inv j wr) (fun i _=>N-(intOf i).toNat)
 case atStart=>exact⟨0,YN,rfl,h0⟩
 case round=>
  obtain⟨j,hj,rfl,hI⟩:=hrel
  by_cases hlt:j<N
  ·have hjl:(j:Int)<(N:Int):=by omega
   have hc:=hcall j wr hlt hI
   have hent:=Qg0
   go_wp2_with fail
   refine hc.mono ?_
   rintro e w2 ⟨rfl,h2⟩
   go_wp2
   exact⟨⟨j+1,by omega,by go_num,h2⟩,by simp [intOf];omega⟩
  ·obtain rfl:j=N:=by omega
   have hjl:¬ (j:Int)<(j:Int):=by omega
   go_wp2
   (try simp only [Exit.inBlock,Exit.then])
   refine bodyPost_end (results_none rfl _ _ _) rfl ?_
   exact⟨rfl,hI⟩
end Go.Proofs.YtalflecmadacaaaGreat
