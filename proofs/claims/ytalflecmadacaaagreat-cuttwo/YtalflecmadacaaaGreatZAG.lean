import Derived.Deep.QuietTactic
import Derived.Deep.RegionLaw
import Derived.BigQuiet
import Derived.Deep.RegionHeld3
import Derived.Test.YtalflecmadacaaaGreatZAD
import Derived.Test.YtalflecmadacaaaGreatZAA
import Derived.Test.YtalflecmadacaaaGreatZAF
import Derived.Test.YtalflecmadacaaaGreatZAB
set_option maxRecDepth 100000
set_option maxHeartbeats 8000000
namespace Go.Proofs.YtalflecmadacaaaGreat
open Go Go.Proofs Go.RowKit
theorem Qcn {W:World}{base:Nat}{e:TypeId}{size:Nat}{p:Option Addr}{n c:Nat}{xs:List Value}(h:W.ownsRow base e size (.slice p n c) n xs){m:Nat}(hm:m≤n):W.ownsRow base e size (.slice p m c) m (xs.take (m*size)):=by
 obtain⟨hl,h1⟩:=h
 have hms:m*size≤n*size:=Nat.mul_le_mul_right _ hm
 refine⟨by rw [List.length_take];omega,?_⟩
 rcases h1 with ⟨h2,h3⟩ | ⟨g,cap,cur,h2,h3,h4,h5,h6,h7,h8⟩
 ·simp only [Value.slice.injEq] at h2
  obtain⟨rfl,rfl,rfl⟩:=h2
  obtain rfl:m=0:=by omega
  exact .inl ⟨rfl,rfl⟩
 ·simp only [Value.slice.injEq] at h2
  obtain⟨rfl,_,rfl⟩:=h2
  refine .inr ⟨g,c,cur,rfl,h3,h4,by omega,h6,h7,?_⟩
  rw [← h8,List.take_take]
  congr 1
  omega
theorem Qi0 (b k:Nat):(⟨b,0,none⟩:Addr).add k=⟨b,k,none⟩:=by
 simp only [Addr.add]
 by_cases h:k=0
 ·subst h;rfl
 ·simp [h]
theorem QjS (P Q:List Stp):(flatP (P++Q)).take (P.length*5)=flatP P:=by
 rw [Qa7,← Qbm P]
 exact List.take_left
theorem WB.cutWay {a:Lay}{lv ov:Value}{s:WS}{W:World}{pb n cap:Nat}{P Q:List Stp}(h:WB a lv (.slice (some ⟨pb,0,none⟩) n cap) ov s W)(hn:n=s.path.length)(hL:LayOK a)(hp:s.path=P++Q):WB a lv (.slice (some ⟨pb,0,none⟩) P.length cap) ov { s with path:=P } (W.setCell ⟨a.wb,5,none⟩ (.slice (some ⟨pb,0,none⟩) P.length cap)):=by
 subst hn
 have hw:=Qcn h.way (m:=P.length) (by rw [hp];simp)
 rw [hp,QjS] at hw
 exact⟨h.blk.set 5 _,h.root.other (Ne.symm hL.wr) _,h.frm.other (Ne.symm hL.wf) _,h.dep.other (Ne.symm hL.wd) _,h.bls.other (Ne.symm hL.wk) _,Qag hw hL.w0 _,Qag h.opn hL.w0 _⟩
theorem WB.cutOpn {a:Lay}{lv pv:Value}{s:WS}{W:World}{po:Option Addr}{co k:Nat}(h:WB a lv pv (.slice po s.opn.length co) s W)(hL:LayOK a)(hk:k≤s.opn.length):WB a lv pv (.slice po k co) { s with opn:=s.opn.take k } (W.setCell ⟨a.wb,6,none⟩ (.slice po k co)):=by
 have hw:=Qcn h.opn hk
 rw [Nat.mul_one,← List.map_take] at hw
 have hlen:(s.opn.take k).length=k:=by rw [List.length_take];omega
 refine⟨h.blk.set 6 _,h.root.other (Ne.symm hL.wr) _,h.frm.other (Ne.symm hL.wf) _,h.dep.other (Ne.symm hL.wd) _,h.bls.other (Ne.symm hL.wk) _,Qag h.way hL.w0 _,?_⟩
 show World.ownsRow _ a.h0 _ 1 _ (s.opn.take k).length _
 rw [hlen]
 exact Qag hw hL.w0 _
theorem Qlz (a:Lay)(hL:LayOK a)(lv ov:Value)(s:WS)(init:List Stp)(last:Stp)(pb cap:Nat)(hp:s.path=init++[last])(hP:s.path.length≤1073741824)(hO:s.opn.length≤1073741824)(hD:s.depth.length=a.N)(hK:s.block.length=a.M)(hv:∀ st∈init,∃ v:Nat,st.v=(v:Int)∧v<a.N)(ho:last.opn≤s.opn.length)(hops:∀ x∈s.opn,∃ k:Nat,x=(k:Int)∧k<a.M)(w:World)(h:WB a lv (.slice (some ⟨pb,0,none⟩) s.path.length cap) ov s w)(hA:QaD (.slice (some ⟨pb,0,none⟩) s.path.length cap) ov):
  Calls Tryz.prog 117 #[.pointer (some ⟨a.wb,0,none⟩)] w fun e w'=>e = .returned (.tuple #[])∧∃ pv' ov',WB a lv pv' ov' (Qay s init last) w'∧QaD pv' ov'∧Wk a w w':=by
 have hmix:=mixed
 have b5:=h.blk.cell (j:=5) rfl
 have hl:s.path.length=init.length+1:=by rw [hp];simp
 have hpb:=h.way.lt pb rfl
 have hcap:init.length+1≤cap:=by
  have:=h.way.2
  rcases this with ⟨h1,_⟩ | ⟨g,c,cur,h1,_,_,h2,_⟩
  ·cases h1
  ·simp only [Value.slice.injEq] at h1;omega
 have hcap1:(init.length:Int)≤(cap:Int):=by omega
 have hcap0:cap≠0:=by omega
 obtain⟨p0,p1,p2,p3,p4⟩:=h.top hp
 have hwl:a.wb<w.heap.size:=by have:=hL.w0;omega
 have hpl:pb<w.heap.size:=hpb.2
 rw [hl] at b5 hP
 have hP':(init.length:Int)≤1073741824:=by omega
 have Hh:Hid _:=h
 have HA:Hid _:=hA
 have HV:Hid _:=hv
 have HOPS:Hid _:=hops
 have HP:Hid _:=hp
 have HLn:Hid _:=hl
 clear h hA hv hops hp hl
 go_enter Tryz.func117,Tryz.ntmps117
 go_wp2
 go_big_region_o
 have hb1:Below w.heap.size w (w.alloc (.cells #[.int .i64 last.v,.int .i64 last.by_,.int .i64 (last.next:Int),.int .i64 last.low,.int .i64 (last.opn:Int)] 144)).drew:=Qaa (YD.alloc YA _) 1
 have hX1:Blk 144 (w.alloc (.cells #[.int .i64 last.v,.int .i64 last.by_,.int .i64 (last.next:Int),.int .i64 last.low,.int .i64 (last.opn:Int)] 144)).drew w.heap.size [.int .i64 last.v,.int .i64 last.by_,.int .i64 (last.next:Int),.int .i64 last.low,.int .i64 (last.opn:Int)]:=heap_alloc_new w _
 have hW1:=Hh.out.go hb1
 have hk1:Wk a w (w.alloc (.cells #[.int .i64 last.v,.int .i64 last.by_,.int .i64 (last.next:Int),.int .i64 last.low,.int .i64 (last.opn:Int)] 144)).drew:=Wk.of_below hb1 (by omega)
 have hs1:w.heap.size<(w.alloc (.cells #[.int .i64 last.v,.int .i64 last.by_,.int .i64 (last.next:Int),.int .i64 last.low,.int .i64 (last.opn:Int)] 144)).drew.heap.size:=hX1.lt
 have hsx:a.h0≤w.heap.size:=by omega
 clear b5 p0 p1 p2 p3 p4 hb1
 generalize (w.alloc (.cells #[.int .i64 last.v,.int .i64 last.by_,.int .i64 (last.next:Int),.int .i64 last.low,.int .i64 (last.opn:Int)] 144)).drew=w1 at hX1 hW1 hk1 hs1 ⊢
 generalize w.heap.size=xb at *
 have HW2:Hid _:=hW1.cutWay rfl hL HP.out
 have HX2:Hid _:=hX1.other (p:=⟨a.wb,5,none⟩) (by have:=hL.w0;simp only;omega) (.slice (some ⟨pb,0,none⟩) init.length cap)
 have HK2:Hid _:=hk1.set (p:=⟨a.wb,5,none⟩) (.inl (.inl rfl)) (.slice (some ⟨pb,0,none⟩) init.length cap)
 have b5:=hW1.blk.cell (j:=5) rfl
 have f5:=hW1.blk.frozen 5
 rw [HLn.out] at b5
 clear hW1 hX1 hk1
 go_wp2
 go_big_region_o
 have hW2:=HW2.out.go (B:=(w1.setCell ⟨a.wb,5,none⟩ (.slice (some ⟨pb,0,none⟩) init.length cap)).drew) (Qaa YD 1)
 have hX2:Blk 144 (w1.setCell ⟨a.wb,5,none⟩ (.slice (some ⟨pb,0,none⟩) init.length cap)).drew xb [.int .i64 last.v,.int .i64 last.by_,.int .i64 (last.next:Int),.int .i64 last.low,.int .i64 (last.opn:Int)]:=HX2.out
 have hk2:Wk a w (w1.setCell ⟨a.wb,5,none⟩ (.slice (some ⟨pb,0,none⟩) init.length cap)).drew:=⟨HK2.out.os,HK2.out.tape,HK2.out.output,HK2.out.size,HK2.out.block⟩
 have hs2:xb<(w1.setCell ⟨a.wb,5,none⟩ (.slice (some ⟨pb,0,none⟩) init.length cap)).drew.heap.size:=hX2.lt
 have hA2:QaD (.slice (some ⟨pb,0,none⟩) init.length cap) ov:=HA.out
 clear HW2 HX2 HK2 b5 f5 hs1 Hh HA
 generalize (w1.setCell ⟨a.wb,5,none⟩ (.slice (some ⟨pb,0,none⟩) init.length cap)).drew=w2 at hW2 hX2 hk2 hs2 ⊢
 have b5:=hW2.blk.cell (j:=5) rfl
 cases hin:init.getLast? with
 | none=>
  obtain rfl:init=[]:=List.getLast?_eq_none_iff.1 hin
  have HE:Hid (Qay s [] last={ s with path:=[] }):=rfl
  have Hres:Hid _:=hW2
  have HK3:Hid _:=hk2
  have HA3:Hid _:=hA2
  clear hW2 hX2 hk2 hA2
  simp only [List.length_nil] at b5
  go_wp2
  refine bodyPost_ret (results_none rfl _ _ _) rfl ?_
  refine⟨rfl,_,_,?_,HA3.out,HK3.out⟩
  rw [HE.out]
  exact Hres.out
 | some top=>
  obtain⟨pre,rfl⟩:=List.getLast?_eq_some_iff.1 hin
  obtain⟨v,hv,hvN⟩:=HV.out top (by simp)
  have hln:(pre++[top]).length=pre.length+1:=by simp
  obtain⟨p0,-,-,p3,-⟩:=hW2.top (s:={ s with path:=pre++[top] }) rfl
  rw [hv] at p0
  have b3:=hW2.blk.cell (j:=3) rfl
  have x3:=hX2.cell (j:=3) rfl
  have t0:w2.cell? ⟨a.db,v,none⟩=some (.int .i64 (s.depth.getD v 0)):=hW2.dep.cell (by rw [YH,YB (by show v<s.depth.length;omega)];simp [show v<s.depth.length by omega])
  have hvN':(v:Int)<(a.N:Int):=by omega
  have HW3:Hid _:=hW2
  have HX3:Hid _:=hX2
  have HK3:Hid _:=hk2
  have HA3:Hid _:=hA2
  rw [hln] at b5
  clear hW2 hX2 hk2 hA2
  generalize hdv:s.depth.getD v 0=dv at *
  have hpl':(pre.length:Int)≤1073741824:=by rw [hln] at hP;omega
  go_wp2
  go_quiet (fail)
  have hb3:Below w2.heap.size w2 (w2.drewN nq):=Qaa YD nq
  have hW3:=HW3.out.go hb3
  have hX3:Blk 144 (w2.drewN nq) xb [.int .i64 last.v,.int .i64 last.by_,.int .i64 (last.next:Int),.int .i64 last.low,.int .i64 (last.opn:Int)]:=HX3.out
  have hk3:Wk a w (w2.drewN nq):=HK3.out.trans (Wk.of_below hb3 (by omega))
  have hs3:xb<(w2.drewN nq).heap.size:=hX3.lt
  clear HW3 HX3 HK3 b5 b3 x3 p0 p3 t0 hb3 hs2
  generalize w2.drewN nq=w3 at hW3 hX3 hk3 hs3 ⊢
  obtain⟨p0,-,-,p3,-⟩:=hW3.top (s:={ s with path:=pre++[top] }) rfl
  rw [hv] at p0
  have b3:=hW3.blk.cell (j:=3) rfl
  have x3:=hX3.cell (j:=3) rfl
  have t0:w3.cell? ⟨a.db,v,none⟩=some (.int .i64 dv):=hW3.dep.cell (by rw [YH,YB (by show v<s.depth.length;omega)];simp [← hdv,show v<s.depth.length by omega])
  have HW3:Hid _:=hW3
  have HX3:Hid _:=hX3
  have HK3:Hid _:=hk3
  clear hW3 hX3 hk3
  go_wp2
  go_quiet (fail)
  have hb4:Below w3.heap.size w3 (w3.drewN nq):=Qaa YD nq
  have hW4:=HW3.out.go hb4
  have hX4:Blk 144 (w3.drewN nq) xb [.int .i64 last.v,.int .i64 last.by_,.int .i64 (last.next:Int),.int .i64 last.low,.int .i64 (last.opn:Int)]:=HX3.out
  have hk4:Wk a w (w3.drewN nq):=HK3.out.trans (Wk.of_below hb4 (by omega))
  have hs4:xb<(w3.drewN nq).heap.size:=hX4.lt
  clear HW3 HX3 HK3 b3 x3 p0 p3 t0 hb4 hs3
  generalize w3.drewN nq=w4 at hW4 hX4 hk4 hs4 ⊢
  have hat:at_ s.depth top.v=dv:=by unfold at_;rw [hv];exact hdv
  by_cases hlow:last.low<dv
  ·have HE:Hid (Qay s (pre++[top]) last={ s with path:=pre++[{ top with low:=min top.low last.low }] }):=by
    unfold Hid Qay
    rw [hin]
    simp only [hat,if_pos hlow,List.dropLast_concat]
   obtain⟨-,-,-,p3,-⟩:=hW4.top (s:={ s with path:=pre++[top] }) rfl
   have x3:=hX4.cell (j:=3) rfl
   have fr:=hW4.way.frozenAt (pre.length*5+3)
   have fin:∀ m:Int,m=min top.low last.low→∃ pv' ov',WB a lv pv' ov' (Qay s (pre++[top]) last) (w4.setCell ⟨pb,pre.length*5+3,none⟩ (.int .i64 m)).drew∧QaD pv' ov'∧Wk a w (w4.setCell ⟨pb,pre.length*5+3,none⟩ (.int .i64 m)).drew:=fun m hm=>by
    have h1:=hW4.setWay (s:={ s with path:=pre++[top] }) hL HA3.out (j:=pre.length*5+3) (u:=.int .i64 m) (P:=pre++[{ top with low:=m }]) (QgU pre top m) (by simp)
    have h2:=hk4.set (p:=⟨pb,pre.length*5+3,none⟩) (.inr hpb.1) (.int .i64 m)
    refine⟨.slice (some ⟨pb,0,none⟩) (pre++[{ top with low:=m }]).length cap,ov,?_,?_,⟨h2.os,h2.tape,h2.output,h2.size,h2.block⟩⟩
    ·rw [HE.out,← hm]
     exact h1.go (Qaa YD 1)
    ·exact HA3.out
   have Hfin:Hid _:=fin
   clear fin hW4 hX4 hk4
   by_cases hm:last.low<top.low
   ·have hz:=Hfin.out last.low (by omega)
    go_wp2
    go_big_region_o
    go_wp2
    refine bodyPost_ret (results_none rfl _ _ _) rfl ?_
    exact⟨rfl,hz⟩
   ·have hz:=Hfin.out top.low (by omega)
    go_wp2
    go_big_region_o
    go_wp2
    refine bodyPost_ret (results_none rfl _ _ _) rfl ?_
    exact⟨rfl,hz⟩
  ·have HE:Hid (Qay s (pre++[top]) last={ s with path:=pre++[top],block:=(s.opn.drop last.opn).foldl (fun b p=>b.set p.toNat last.by_) s.block,opn:=s.opn.take last.opn }):=by
    unfold Hid Qay
    rw [hin]
    simp only [hat,if_neg hlow]
   obtain⟨po,co,rfl⟩:=Qaf hW4.opn
   have hco:s.opn.length≤co:=by
    rcases hW4.opn.2 with ⟨h1,h2⟩ | ⟨g,c,cur,h1,_,_,h2,_⟩
    ·have h3:s.opn.length=0:=h2;omega
    ·simp only [Value.slice.injEq] at h1;obtain⟨_,_,h4⟩:=h1;have h3:s.opn.length≤c:=h2;omega
   have hgo:∀ j,j<s.opn.length→∃ ob,po=some ⟨ob,0,none⟩:=fun j hj=>by
    rcases hW4.opn.2 with ⟨h1,h2⟩ | ⟨g,c,cur,h1,_,_,h2,_⟩
    ·exact absurd h2 (by show ¬ s.opn.length=0;omega)
    ·simp only [Value.slice.injEq] at h1;exact⟨g,h1.1⟩
   have b6:=hW4.blk.cell (j:=6) rfl
   have x4:=hX4.cell (j:=4) rfl
   have HW4:Hid _:=hW4
   have HX4:Hid _:=hX4
   have HK4:Hid _:=hk4
   have HGO:Hid _:=hgo
   have ho':(last.opn:Int)≤(s.opn.length:Int):=by omega
   clear hW4 hX4 hk4 hgo
   go_wp2
   go_quiet (fail)
   have hb5:Below w4.heap.size w4 (w4.drewN nq):=Qaa YD nq
   have hW5:=HW4.out.go hb5
   have hX5:Blk 144 (w4.drewN nq) xb [.int .i64 last.v,.int .i64 last.by_,.int .i64 (last.next:Int),.int .i64 last.low,.int .i64 (last.opn:Int)]:=HX4.out
   have hk5:Wk a w (w4.drewN nq):=HK4.out.trans (Wk.of_below hb5 (by omega))
   clear HW4 HX4 HK4 b6 x4 hb5 hs4
   generalize w4.drewN nq=w5 at hW5 hX5 hk5 ⊢
   generalize hq:(if co=last.opn then po else Option.map (fun x=>x.add last.opn) po)=q
   have HQ:Hid _:=hq
   have hkM:s.block.length=a.M:=hK
   have HS0:Hid _:=hW5
   have HX0:Hid _:=hX5
   have HK0:Hid _:=hk5
   have hnl:((s.opn.length-last.opn:Nat):Int)≤1073741824:=by omega
   clear hq hW5 hX5 hk5 hv hP hcap hcap1 hP' hln hlow hdv hD hpl'
   go_wp2
   go_loopw [80] (fun i wr=>∃ j:Nat,j≤s.opn.length-last.opn∧i = .int .i64 j∧Hid (WB a lv (.slice (some ⟨pb,0,none⟩) (pre++[top]).length cap) (.slice po s.opn.length co) { s with path:=pre++[top],block:=((s.opn.drop last.opn).take j).foldl (fun b p=>b.set p.toNat last.by_) s.block } wr)∧Hid (Blk 144 wr xb [.int .i64 last.v,.int .i64 last.by_,.int .i64 (last.next:Int),.int .i64 last.low,.int .i64 (last.opn:Int)])∧Hid (Wk a w wr)) (fun i _=>(s.opn.length-last.opn)-(intOf i).toNat)
   case atStart=>exact⟨0,YN,rfl,HS0.out,HX0.out,HK0.out⟩
   case round=>
    obtain⟨j,hj,rfl,HWr,HXr,HKr⟩:=hrel
    by_cases hlt:j<s.opn.length-last.opn
    ·obtain⟨ob,rfl⟩:=HGO.out j (by omega)
     have hq':q=some ⟨ob,last.opn,none⟩:=by
      rw [← HQ.out,if_neg (by omega),Option.map_some,Qi0]
     subst hq'
     have hjo:last.opn+j<s.opn.length:=by omega
     obtain⟨pk,hpk,hpkM⟩:=HOPS.out s.opn[last.opn+j] (YG hjo)
     have c0:wr.cell? ⟨ob,last.opn+j,none⟩=some (.int .i64 (pk:Int)):=by
      have:=HWr.out.opn.cellAt (last.opn+j) (by show last.opn+j<s.opn.length*1;omega)
      rw [this,YH]
      show Option.map _ s.opn[last.opn+j]? = _
      rw [YB hjo,hpk]
      rfl
     have b4:=HWr.out.blk.cell (j:=4) rfl
     have x1:=HXr.out.cell (j:=1) rfl
     have hfl:(((s.opn.drop last.opn).take j).foldl (fun b p=>b.set p.toNat last.by_) s.block).length=a.M:=(QeB _ _ _).trans hkM
     obtain⟨y0,k0⟩:∃ z,wr.cell? ⟨a.kb,pk,none⟩=some z:=⟨_,HWr.out.bls.cell (by rw [YH];show Option.map _ (((s.opn.drop last.opn).take j).foldl (fun b p=>b.set p.toNat last.by_) s.block)[pk]? = _;rw [YB (by rw [hfl];exact hpkM)];rfl)⟩
     have f0:=HWr.out.bls.frozen pk
     have hpk':(pk:Int)<(a.M:Int):=by omega
     have hjn:(j:Int)<((s.opn.length-last.opn:Nat):Int):=by omega
     have hS:=HWr.out.setBlock hL pk last.by_
     have HFB:Hid (((s.opn.drop last.opn).take (j+1)).foldl (fun b p=>b.set p.toNat last.by_) s.block=(((s.opn.drop last.opn).take j).foldl (fun b p=>b.set p.toNat last.by_) s.block).set pk last.by_):=by
      unfold Hid
      rw [List.take_add_one,List.getElem?_drop,YB hjo,List.foldl_append,hpk]
      rfl
     have HR1:Hid _:=hS.go (B:=(wr.setCell ⟨a.kb,pk,none⟩ (.int .i64 last.by_)).drew) (Qaa YD 1)
     have HR2:Hid (Blk 144 (wr.setCell ⟨a.kb,pk,none⟩ (.int .i64 last.by_)).drew xb _):=HXr.out.other (p:=⟨a.kb,pk,none⟩) (by have:=hL.k0;simp only;omega) (.int .i64 last.by_)
     have hk6:=HKr.out.set (p:=⟨a.kb,pk,none⟩) (.inl (.inr (.inr (.inr (.inr rfl))))) (.int .i64 last.by_)
     have HR3:Hid (Wk a w (wr.setCell ⟨a.kb,pk,none⟩ (.int .i64 last.by_)).drew):=⟨hk6.os,hk6.tape,hk6.output,hk6.size,hk6.block⟩
     clear hS hk6 HWr HXr HKr HOPS HGO HQ hpk hfl HA3 HS0 HX0 HK0
     go_wp2
     go_big_region_o
     go_wp2
     refine⟨⟨j+1,by omega,by go_num,?_,HR2.out,HR3.out⟩,by simp [intOf];omega⟩
     rw [HFB.out]
     exact HR1.out
    ·obtain rfl:j=s.opn.length-last.opn:=by omega
     have hfull:(s.opn.drop last.opn).take (s.opn.length-last.opn)=s.opn.drop last.opn:=List.take_of_length_le (by rw [List.length_drop];omega)
     rw [hfull] at HWr
     have b6:=HWr.out.blk.cell (j:=6) rfl
     have f6:=HWr.out.blk.frozen 6
     have x4:=HXr.out.cell (j:=4) rfl
     have hz:∃ pv' ov',WB a lv pv' ov' (Qay s (pre++[top]) last) (wr.setCell ⟨a.wb,6,none⟩ (.slice po last.opn co)).drew∧QaD pv' ov'∧Wk a w (wr.setCell ⟨a.wb,6,none⟩ (.slice po last.opn co)).drew:=by
      have h1:=(HWr.out.cutOpn (s:={ s with path:=pre++[top],block:=(s.opn.drop last.opn).foldl (fun b p=>b.set p.toNat last.by_) s.block }) hL (k:=last.opn) ho).go (B:=(wr.setCell ⟨a.wb,6,none⟩ (.slice po last.opn co)).drew) (Qaa YD 1)
      have h2:=HKr.out.set (p:=⟨a.wb,6,none⟩) (.inl (.inl rfl)) (.slice po last.opn co)
      refine⟨.slice (some ⟨pb,0,none⟩) (pre++[top]).length cap,.slice po last.opn co,?_,?_,⟨h2.os,h2.tape,h2.output,h2.size,h2.block⟩⟩
      ·rw [HE.out]
       exact h1
      ·cases po with
       | none=>exact⟨.inr (by simp [Value.ownBlock]),.inl rfl⟩
       | some ad=>exact HA3.out
     have Hz:Hid _:=hz
     clear HWr HXr HKr HOPS HGO HQ HA3 HS0 HX0 HK0 hz hfull
     have hoc:(last.opn:Int)≤(co:Int):=by omega
     go_wp2
     go_big_region_o
     go_wp2
     refine bodyPost_end (results_none rfl _ _ _) rfl ?_
     exact⟨rfl,Hz.out⟩
theorem Qfa (v:Int):∀ (x y:List Ed) (p:Nat),Qaj v p (x++y)=Qaj v p x++Qaj v (p+x.length) y
 | [],y,p=>by simp [Qaj]
 | e :: x,y,p=>by
  rw [List.cons_append,Qaj,Qaj,Qfa v x y (p+1),List.append_assoc,List.length_cons]
  have:p+1+x.length=p+(x.length+1):=by omega
  rw [this]
theorem Qev {l:List Ed}{i:Nat}(h:i<l.length)(v:Int):Qaj v 0 (l.take (i+1))=Qaj v 0 (l.take i)++(if l[i].1=v then [(l[i].2.1,(i:Int))] else if l[i].2.1=v then [(l[i].1,(i:Int))] else []):=by
 rw [List.take_add_one,YB h,Qfa]
 have:(l.take i).length=i:=by rw [List.length_take];omega
 rw [this,Nat.zero_add]
 simp [Qaj]
theorem QbC (v:Int):∀ (l:List Ed) (p:Nat),(Qaj v p l).length=(nb l v).length
 | [],p=>rfl
 | e :: l,p=>by
  have ih:=QbC v l (p+1)
  have hl:(nb (e :: l) v).length=(nbOf e v).length+(nb l v).length:=by unfold nb;rw [List.flatMap_cons,YI]
  rw [Qaj,YI,ih,hl]
  unfold nbOf
  split
  ·rfl
  ·split <;> rfl
def offR (l:List Ed)(M2:Nat):Nat→Nat
 | 0=>0
 | v+1=>if (nb l (v:Int)).length=M2-degS l v then offR l M2 v else offR l M2 v+(nb l (v:Int)).length
theorem Qk9 {l:List Ed}{M2:Nat}:∀ {v:Nat},degS l v<M2→offR l M2 v=degS l v
 | 0,_=>rfl
 | v+1,h=>by
  have hd:degS l (v+1)=degS l v+(nb l (v:Int)).length:=rfl
  have ih:=Qk9 (l:=l) (M2:=M2) (v:=v) (by omega)
  rw [offR,if_neg (by omega),ih,hd]
theorem QhH {l:List Ed}{M2 N:Nat}(hM:degS l N=M2){v:Nat}(hv:v<N)(hd:0<(nb l (v:Int)).length):offR l M2 v=degS l v:=by
 have h1:degS l (v+1)=degS l v+(nb l (v:Int)).length:=rfl
 have h2:=Qct (l:=l) (v:=v+1) (n:=N) hv
 exact Qk9 (by omega)
theorem Qiz {l:List Ed}{M2 N:Nat}(hM:degS l N=M2){u v j k:Nat}(hu:u<N)(hv:v<N)(hj:j<(nb l (u:Int)).length)(hk:k<(nb l (v:Int)).length)(he:offR l M2 u+j=offR l M2 v+k):u=v∧j=k:=by
 rw [QhH hM hu (by omega),QhH hM hv (by omega)] at he
 have h1:degS l (u+1)=degS l u+(nb l (u:Int)).length:=rfl
 have h2:degS l (v+1)=degS l v+(nb l (v:Int)).length:=rfl
 rcases Nat.lt_trichotomy u v with h | h | h
 ·have:=Qct (l:=l) (v:=u+1) (n:=v) h;omega
 ·subst h;exact⟨rfl,by omega⟩
 ·have:=Qct (l:=l) (v:=v+1) (n:=u) h;omega
theorem Qk8 {l:List Ed}{M2 N:Nat}(hM:degS l N=M2){v j:Nat}(hv:v<N)(hj:j<(nb l (v:Int)).length):offR l M2 v+j<M2:=by
 rw [QhH hM hv (by omega)]
 have h2:degS l (v+1)=degS l v+(nb l (v:Int)).length:=rfl
 have:=Qct (l:=l) (v:=v+1) (n:=N) hv
 omega
def rowsK (N sb:Nat)(off deg:Nat→Nat)(pre:Nat→List (Int × Int)):List Value:=(List.range N).map fun v=>.slice (some ⟨sb,off v*2,none⟩) (pre v).length (deg v)
theorem QcI {N sb:Nat}{off deg:Nat→Nat}{pre:Nat→List (Int × Int)}{v:Nat}(h:v<N):(rowsK N sb off deg pre)[v]? = some (.slice (some ⟨sb,off v*2,none⟩) (pre v).length (deg v)):=by simp [rowsK,h]
theorem Qeb (N sb:Nat)(off deg:Nat→Nat)(pre:Nat→List (Int × Int)):(rowsK N sb off deg pre).length=N:=by simp [rowsK]
def halfK (N sb:Nat)(off deg:Nat→Nat)(j:Nat):List Value:=(List.range N).map fun v=>if v<j then .slice (some ⟨sb,off v*2,none⟩) 0 (deg v) else .slice none 0 0
theorem QdU {N sb:Nat}{off deg:Nat→Nat}{j v:Nat}(h:v<N):(halfK N sb off deg j)[v]? = some (if v<j then .slice (some ⟨sb,off v*2,none⟩) 0 (deg v) else .slice none 0 0):=by simp [halfK,h]
theorem Qc4 (N sb:Nat)(off deg:Nat→Nat)(j:Nat):(halfK N sb off deg j).length=N:=by simp [halfK]
theorem QjN (N sb:Nat)(off deg:Nat→Nat):halfK N sb off deg 0=List.replicate N (.slice none 0 0):=by
 apply List.ext_getElem?
 intro i
 by_cases h:i<N
 ·rw [QdU h];simp [h]
 ·rw [YL (by rw [Qc4];omega),YL (by simp;omega)]
theorem QjO {N sb:Nat}{off deg:Nat→Nat}{j:Nat}:(halfK N sb off deg j).set j (.slice (some ⟨sb,off j*2,none⟩) 0 (deg j))=halfK N sb off deg (j+1):=by
 apply List.ext_getElem?
 intro i
 by_cases h:i<N
 ·rw [List.getElem?_set,QdU h,QdU h,Qc4]
  by_cases e:j=i
  ·subst e;rw [if_pos rfl,if_pos h,if_pos (by omega)]
  ·rw [if_neg e]
   by_cases hi:i<j
   ·rw [if_pos hi,if_pos (by omega)]
   ·rw [if_neg hi,if_neg (by omega)]
 ·rw [YL (by rw [List.length_set,Qc4];omega),YL (by rw [Qc4];omega)]
theorem QjP (N sb:Nat)(off deg:Nat→Nat):halfK N sb off deg N=rowsK N sb off deg (fun _=>[]):=by
 unfold halfK rowsK
 refine List.map_congr_left fun v hv=>?_
 rw [if_pos (List.mem_range.1 hv)]
 rfl
def updK (pre:Nat→List (Int × Int))(v:Nat)(y:Int × Int):Nat→List (Int × Int):=fun i=>if i=v then pre v++[y] else pre i
structure LnkI (N lb sb M2:Nat)(off deg:Nat→Nat)(pre:Nat→List (Int × Int))(W:World):Prop where
 row:Blk 140 W lb (rowsK N sb off deg pre)
 le:∀ v,v<N→(pre v).length≤deg v
 cur:∃ cs,Blk 142 W sb cs∧cs.length=M2*2∧∀ v j x,v<N→(pre v)[j]? = some x→cs[(off v+j)*2]? = some (.int .i64 x.1)∧cs[(off v+j)*2+1]? = some (.int .i64 x.2)
theorem LnkI.go {N lb sb M2:Nat}{off deg:Nat→Nat}{pre:Nat→List (Int × Int)}{A B:World}(h:LnkI N lb sb M2 off deg pre A)(hb:Below A.heap.size A B):LnkI N lb sb M2 off deg pre B:=by
 obtain⟨cs,h1,h2,h3⟩:=h.cur
 exact⟨h.row.go hb,h.le,cs,h1.go hb,h2,h3⟩
theorem LnkI.push {N lb sb M2:Nat}{off deg:Nat→Nat}{pre:Nat→List (Int × Int)}{W:World}(h:LnkI N lb sb M2 off deg pre W)(hne:lb≠sb)(hsep:∀ u v j k,u<N→v<N→j<deg u→k<deg v→off u+j=off v+k→u=v∧j=k)(hin:∀ v j,v<N→j<deg v→off v+j<M2){v:Nat}(hv:v<N)(y:Int × Int)(hd:(pre v).length+1≤deg v):
  LnkI N lb sb M2 off deg (updK pre v y) (((W.setCell ⟨sb,(off v+(pre v).length)*2,none⟩ (.int .i64 y.1)).setCell ⟨sb,(off v+(pre v).length)*2+1,none⟩ (.int .i64 y.2)).setCell ⟨lb,v,none⟩ (.slice (some ⟨sb,off v*2,none⟩) ((pre v).length+1) (deg v))):=by
 obtain⟨cs,h1,h2,h3⟩:=h.cur
 have hr:=((h.row.other (p:=⟨sb,(off v+(pre v).length)*2,none⟩) hne (.int .i64 y.1)).other (p:=⟨sb,(off v+(pre v).length)*2+1,none⟩) hne (.int .i64 y.2)).set v (.slice (some ⟨sb,off v*2,none⟩) ((pre v).length+1) (deg v))
 have e1:(rowsK N sb off deg pre).set v (.slice (some ⟨sb,off v*2,none⟩) ((pre v).length+1) (deg v))=rowsK N sb off deg (updK pre v y):=by
  apply List.ext_getElem?
  intro i
  by_cases hi:i<N
  ·rw [List.getElem?_set,Qeb,QcI hi,QcI hi]
   by_cases e:v=i
   ·subst e;rw [if_pos rfl,if_pos hi];simp [updK]
   ·rw [if_neg e]
    have:updK pre v y i=pre i:=by unfold updK;rw [if_neg (Ne.symm e)]
    rw [this]
  ·rw [YL (by rw [List.length_set,Qeb];omega),YL (by rw [Qeb];omega)]
 rw [e1] at hr
 have hcs:=((h1.set ((off v+(pre v).length)*2) (.int .i64 y.1)).set ((off v+(pre v).length)*2+1) (.int .i64 y.2)).other (p:=⟨lb,v,none⟩) (Ne.symm hne) (.slice (some ⟨sb,off v*2,none⟩) ((pre v).length+1) (deg v))
 have hO:=hin v (pre v).length hv (by omega)
 refine⟨hr,fun u hu=>?_,_,hcs,by simp only [List.length_set];exact h2,fun u j x hu hx=>?_⟩
 ·unfold updK
  by_cases e:u=v
  ·subst e;rw [if_pos rfl,YI];exact hd
  ·rw [if_neg e];exact h.le u hu
 ·have old:(pre u)[j]? = some x→(((cs.set ((off v+(pre v).length)*2) (.int .i64 y.1)).set ((off v+(pre v).length)*2+1) (.int .i64 y.2))[(off u+j)*2]? = some (.int .i64 x.1)∧((cs.set ((off v+(pre v).length)*2) (.int .i64 y.1)).set ((off v+(pre v).length)*2+1) (.int .i64 y.2))[(off u+j)*2+1]? = some (.int .i64 x.2)):=fun hx'=>by
   obtain⟨g1,g2⟩:=h3 u j x hu hx'
   have hjl:=(YE hx').1
   have hle:=h.le u hu
   have hnq:off v+(pre v).length≠off u+j:=fun e=>by
    obtain⟨e1,e2⟩:=hsep v u (pre v).length j hv hu (by omega) (by omega) e
    subst e1
    omega
   refine⟨?_,?_⟩
   ·rw [List.getElem?_set_ne (by omega),List.getElem?_set_ne (by omega)];exact g1
   ·rw [List.getElem?_set_ne (by omega),List.getElem?_set_ne (by omega)];exact g2
  unfold updK at hx
  by_cases e:u=v
  ·subst e
   rw [if_pos rfl] at hx
   by_cases hjl:j<(pre u).length
   ·rw [List.getElem?_append_left hjl] at hx
    exact old hx
   ·have hj:=(YE hx).1
    rw [YI,List.length_singleton] at hj
    obtain rfl:j=(pre u).length:=by omega
    rw [List.getElem?_append_right YA,Nat.sub_self] at hx
    obtain rfl:y=x:=by simpa using hx
    refine⟨?_,?_⟩
    ·rw [List.getElem?_set_ne (by omega),List.getElem?_set_self (by rw [h2];omega)]
    ·rw [List.getElem?_set_self (by rw [List.length_set,h2];omega)]
  ·rw [if_neg e] at hx
   exact old hx
end Go.Proofs.YtalflecmadacaaaGreat
