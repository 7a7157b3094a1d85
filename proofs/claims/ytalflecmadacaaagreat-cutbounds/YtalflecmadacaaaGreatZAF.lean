import Derived.Test.YtalflecmadacaaaGreatZAE
set_option maxRecDepth 100000
set_option maxHeartbeats 8000000
namespace Go.Proofs.YtalflecmadacaaaGreat
open Go Go.Proofs
def onP (s:WS)(y:Nat):Prop:=∃ st∈s.path,st.v=(y:Int)
def Asg (l:List Ed)(D F:List Int)(s:WS)(k w:Nat):Prop:=∃ h b q:Nat,HeadOf l D F h w∧¬ onP s h∧seen s h∧s.block.getD k 0=(b:Int)∧F.getD h 0=(q:Int)∧EdP l D b q h
structure BI (N:Nat)(l:List Ed)(lk:List (List (Int × Int)))(D F:List Int)(s:WS):Prop where
 agr:∀ v,v<N→seen s v→s.depth.getD v 0=D.getD v 0∧s.from_.getD v 0=F.getD v 0
 rt:∀ (st:Stp),s.path[0]? = some st→F.getD st.v.toNat 0 = -1
 ch:∀ (i:Nat) (st st':Stp),s.path[i]? = some st→s.path[i+1]? = some st'→F.getD st'.v.toNat 0=st.v∧∃ k:Nat,st'.by_=(k:Int)∧EdP l D k st.v.toNat st'.v.toNat
 a:∀ p∈s.opn,∃ k u w:Nat,p=(k:Int)∧EdP l D k u w∧seen s w∧∀ y,Anc F y w→onP s y∨¬ Head l D F y
 b:∀ (i:Nat) (st:Stp),s.path[i]? = some st→∀ k u w,EdP l D k u w→(k:Int)∈s.opn.drop st.opn→Anc F st.v.toNat w
 c:∀ (i:Nat) (st:Stp),s.path[i]? = some st→∀ k u w,EdP l D k u w→(k:Int)∈s.opn.take st.opn→¬ Anc F st.v.toNat w
 d:∀ (i:Nat) (st:Stp),s.path[i+1]? = some st→∀ q:Nat,F.getD st.v.toNat 0=(q:Int)→st.low≤D.getD q 0∧(st.low=D.getD q 0∨∃ k u w,EdP l D k u w∧Anc F st.v.toNat w∧D.getD u 0=st.low)
 e:∀ (i:Nat) (st:Stp),s.path[i+1]? = some st→∀ k u w,EdP l D k u w→(k:Int)∈s.opn.drop st.opn→(∃ st',s.path[i+2]? = some st'∧(k:Int)∈s.opn.drop st'.opn)∨st.low≤D.getD u 0
 f:∀ w,w<N→seen s w→∀ j y k:Nat,(lk.getD w [])[j]? = some ((y:Int),(k:Int))→D.getD y 0<D.getD w 0→(∃ st∈s.path,st.v=(w:Int)∧st.next≤j)∨(k:Int)∈s.opn∨Asg l D F s k w
theorem QbK {α:Type}{pre:List α}{x y:α}{j:Nat}(h:(pre++[x])[j]? = some y):(j<pre.length∧pre[j]? = some y)∨(j=pre.length∧y=x):=by
 rw [List.getElem?_append] at h
 split at h
 ·rename_i hj
  exact .inl ⟨hj,h⟩
 ·rename_i hj
  have h1:=(YE h).1
  rw [List.length_singleton] at h1
  have h2:j=pre.length:=by omega
  subst h2
  rw [Nat.sub_self] at h
  exact .inr ⟨rfl,(Option.some.inj h).symm⟩
theorem QgG {α:Type}(pre:List α)(x:α):(pre++[x])[pre.length]? = some x:=by simp
theorem QbJ {α:Type}{pre:List α}{y:α}{j:Nat}(h:pre[j]? = some y)(x:List α):(pre++x)[j]? = some y:=by
 rw [List.getElem?_append_left (YE h).1]
 exact h
section
variable {N M C:Nat} {l:List Ed} {lk:List (List (Int × Int))} {D F:List Int} {s:WS}
theorem OkW.nat (hO:OkW N M C lk s){st:Stp}(h:st∈s.path):st.v=((st.v.toNat:Nat):Int)∧st.v.toNat<N∧seen s st.v.toNat:=by
 obtain⟨v,e,h1,h2⟩:=hO.way st.v (List.mem_map.2 ⟨st,h,rfl⟩)
 rw [e,YM]
 exact⟨rfl,h1,h2⟩
theorem BI.up (h:BI N l lk D F s)(hO:OkW N M C lk s):∀ {j i:Nat} {st st':Stp},s.path[i]? = some st→s.path[i+j]? = some st'→Anc F st.v.toNat st'.v.toNat
 | 0,i,st,st',h1,h2=>by
  rw [Nat.add_zero,h1] at h2
  cases h2
  exact Anc.refl _ _
 | j+1,i,st,st',h1,h2=>by
  have hlt:i+j<s.path.length:=by
   have:=(YE h2).1
   omega
  have h3:=YB hlt
  obtain⟨hf,_⟩:=h.ch (i+j) _ st' h3 h2
  refine Anc.up (x:=s.path[i+j].v.toNat) ?_ (BI.up h hO h1 h3)
  rw [hf]
  exact (hO.nat (YG hlt)).1
theorem BI.closed (h:BI N l lk D F s)(hO:OkW N M C lk s):∀ {j:Nat} {st:Stp} {y:Nat},s.path[j]? = some st→Anc F y st.v.toNat→onP s y
 | j,st,y,h1,h2=>by
  rcases h2.cases with h3 | ⟨x,hx,h3⟩
  ·exact⟨st,YK h1,by rw [← h3];exact (hO.nat (YK h1)).1⟩
  ·match j with
   | 0=>
    have:=h.rt st h1
    omega
   | j+1=>
    have hlt:j<s.path.length:=by
     have:=(YE h1).1
     omega
    have h4:=YB hlt
    obtain⟨hf,_⟩:=h.ch j _ st h4 h1
    have hn:=(hO.nat (YG hlt)).1
    have:x=s.path[j].v.toNat:=by omega
    subst this
    exact BI.closed h hO h4 h3
theorem BI.deep (h:BI N l lk D F s)(hO:OkW N M C lk s)(T:Tr N l D F):∀ {j:Nat} {st:Stp},s.path[j]? = some st→D.getD st.v.toNat 0=(j:Int)
 | 0,st,h1=>by
  have hv:=hO.nat (YK h1)
  have:=h.rt st h1
  rcases T.par _ hv.2.1 with h2 | ⟨u,a,b,_⟩
  ·exact h2.1
  ·omega
 | j+1,st,h1=>by
  have hv:=hO.nat (YK h1)
  have hlt:j<s.path.length:=by
   have:=(YE h1).1
   omega
  have h4:=YB hlt
  obtain⟨hf,_⟩:=h.ch j _ st h4 h1
  have hn:=(hO.nat (YG hlt)).1
  have ih:=BI.deep h hO T h4
  rcases T.par _ hv.2.1 with ⟨_,h2⟩ | ⟨u,a,b,c,_⟩
  ·omega
  ·have:u=s.path[j].v.toNat:=by omega
   subst this
   omega
structure Top (N:Nat)(l:List Ed)(D F:List Int)(s:WS)(init:List Stp)(last:Stp)(x:Nat):Prop where
 ev:last.v=(x:Int)
 lt:x<N
 see:seen s x
 up:∀ y,onP s y→Anc F y x
 clo:∀ y,Anc F y x→onP s y
 one:∀ st∈s.path,st.v=(x:Int)→st=last
 out:∀ st∈init,st.v≠(x:Int)
theorem BI.top (h:BI N l lk D F s)(hO:OkW N M C lk s)(T:Tr N l D F){init:List Stp}{last:Stp}(hp:s.path=init++[last]):Top N l D F s init last last.v.toNat:=by
 have hx:s.path[init.length]? = some last:=by rw [hp];simp
 have hv:=hO.nat (YK hx)
 have hone:∀ (i:Nat) (st:Stp),s.path[i]? = some st→st.v=last.v→i=init.length:=fun i st hi e=>by
  have h1:=h.deep hO T hi
  have h2:=h.deep hO T hx
  rw [e] at h1
  omega
 refine⟨hv.1,hv.2.1,hv.2.2,fun y hy=>?_,fun y hy=>h.closed hO hx hy,fun st hst e=>?_,fun st hst e=>?_⟩
 ·obtain⟨st,hst,e⟩:=hy
  obtain⟨i,hi⟩:=List.getElem?_of_mem hst
  have hil:i≤init.length:=by
   have:=(YE hi).1
   rw [hp,YI,List.length_singleton] at this
   omega
  have:=h.up hO (j:=init.length-i) hi (by rw [Nat.add_sub_cancel' hil];exact hx)
  rw [e,YM] at this
  exact this
 ·obtain⟨i,hi⟩:=List.getElem?_of_mem hst
  have:=hone i st hi (e.trans hv.1.symm)
  subst this
  rw [hx] at hi
  exact (Option.some.inj hi).symm
 ·obtain⟨i,hi⟩:=List.getElem?_of_mem hst
  have:=hone i st (by rw [hp];exact QbJ hi _) (e.trans hv.1.symm)
  have:=(YE hi).1
  omega
theorem Top.beyond {init:List Stp}{last:Stp}{x:Nat}(ht:Top N l D F s init last x)(hT:TreeI N l lk s)(hR:RightG (N:Int) l)(T:Tr N l D F)(hK:LinksP N l lk)(hp:s.path=init++[last])(hn:last.next=(lk.getD x []).length):∀ {w:Nat},w<N→Anc F x w→seen s w:=by
 intro w hw ha
 obtain⟨ls,hl⟩:=ha
 induction ls generalizing w with
 | nil=>
  have e:w=x:=hl
  subst e
  exact ht.see
 | cons z ls ih=>
  have hz:=hl.1
  rcases T.par w hw with ⟨_,h2⟩ | ⟨u,a,b,c,d⟩
  ·omega
  ·have:z=u:=by omega
   subst this
   have hsz:=ih a hl.2
   rcases hT.fin z a hsz with ⟨st,hst,e⟩ | h4
   ·have h5:=ht.up z ⟨st,hst,e⟩
    have h6:Anc F x z:=⟨ls,hl.2⟩
    have:z=x:=T.anti ht.lt h5 h6
    subst this
    obtain⟨k,hk⟩:=QbI hR d
    have hm:=hK.full k z w a hk
    obtain⟨j,hj⟩:=List.getElem?_of_mem hm
    have hjl:=(YE hj).1
    obtain⟨v,ev,_,_,hall⟩:=hT.way last (by rw [hp];simp)
    have:v=z:=by have:=ht.ev;omega
    subst this
    have:=hall j _ (by omega) hj
    simpa using this
   ·exact (h4 w d).1
theorem Qf4 {y:Int}:∀ (ps:List Int) (b:List Int),(∀ p∈ps,0≤p)→∀ k:Nat,k<b.length→(ps.foldl (fun b p=>b.set p.toNat y) b).getD k 0=if (k:Int)∈ps then y else b.getD k 0
 | [],b,_,k,_=>by simp
 | p :: ps,b,h,k,hk=>by
  rw [List.foldl_cons,Qf4 ps _ (fun p hp=>h p (List.mem_cons_of_mem _ hp)) k (by simpa using hk),Qao]
  have hp:=h p (List.mem_cons_self ..)
  by_cases h1:(k:Int)∈ps
  ·rw [if_pos h1,if_pos (List.mem_cons_of_mem _ h1)]
  ·rw [if_neg h1]
   by_cases h2:p.toNat=k
   ·rw [if_pos ⟨h2,by omega⟩,if_pos (by rw [List.mem_cons];left;omega)]
   ·rw [if_neg (fun e=>h2 e.1),if_neg]
    rw [List.mem_cons]
    rintro (e | e)
    ·omega
    ·exact h1 e
theorem BI.head (h:BI N l lk D F s)(hT:TreeI N l lk s)(hR:RightG (N:Int) l)(T:Tr N l D F)(hK:LinksP N l lk){init:List Stp}{last:Stp}{x q:Nat}(hp:s.path=init++[last])(ht:Top N l D F s init last x)(hn:last.next=(lk.getD x []).length)(hq:F.getD x 0=(q:Int))(hi:init≠[]):Head l D F x↔¬ last.low<D.getD q 0:=by
 obtain⟨n,hn1⟩:∃ n,init.length=n+1:=⟨init.length-1,by have:=List.length_pos_iff.2 hi;omega⟩
 have hx:s.path[n+1]? = some last:=by rw [hp,← hn1];simp
 have evt:last.v.toNat=x:=by rw [ht.ev];rfl
 constructor
 ·rintro⟨q',e,hh⟩ hlow
  have:q'=q:=by omega
  subst this
  rcases (h.d n last hx q' (by rw [evt];exact e)).2 with h1 | ⟨k,u,w,h1,h2,h3⟩
  ·omega
  ·rw [evt] at h2
   have:=hh k u w h1 h2
   omega
 ·intro hlow
  refine⟨q,hq,fun k u w hk ha=>?_⟩
  obtain⟨hu,hw⟩:=hk.1.below hR
  have hsw:=ht.beyond hT hR T hK hp hn hw ha
  obtain⟨j,hj⟩:=List.getElem?_of_mem (hK.full k w u hw hk.1.symm)
  have hjl:=(YE hj).1
  rcases h.f w hw hsw j u k hj hk.2 with ⟨st,hst,e1,e2⟩ | h1 | ⟨hd,b,q',h1,h2,h3,h4,h5,h6⟩
  ·have h5:=ht.up w ⟨st,hst,e1⟩
   have:w=x:=T.anti ht.lt h5 ha
   subst this
   have:=ht.one st hst e1
   subst this
   omega
  ·rw [← List.take_append_drop last.opn s.opn] at h1
   rcases YJ h1 with h2 | h2
   ·exact absurd (by rw [evt];exact ha) (h.c (n+1) last hx k u w hk h2)
   ·rcases h.e n last hx k u w hk h2 with ⟨st',h3,_⟩ | h3
    ·have:=(YE h3).1
     rw [hp,YI,List.length_singleton] at this
     omega
    ·omega
  ·obtain⟨h7,h8,h9⟩:=h1
   rcases h7.comp ha with h10 | h10
   ·exact absurd (ht.clo _ h10) h2
   ·have hne:hd≠x:=fun e=>by subst e;exact h2 (ht.clo _ (Anc.refl _ _))
    rcases h10.cases with h11 | ⟨z,hz,h11⟩
    ·exact absurd h11 hne
    ·obtain⟨q2,e2,h12⟩:=h8
     have h13:=h12 k u w hk h7
     have:z=q2:=by omega
     subst this
     have hhd:=(T.anc hw h7).1
     rcases T.par hd hhd with ⟨_,h14⟩ | ⟨y,a,b,c,_⟩
     ·omega
     ·have:y=z:=by omega
      subst this
      have h15:=T.le a h11
      rcases T.par x ht.lt with ⟨_,h16⟩ | ⟨y',a',b',c',_⟩
      ·omega
      ·have:y'=q:=by omega
       subst this
       omega
theorem BI.f_less (h:BI N l lk D F s){init:List Stp}{last:Stp}{x:Nat}(ht:Top N l D F s init last x)(hp:s.path=init++[last])(hn:last.next=(lk.getD x []).length):∀ w,w<N→seen s w→∀ j y k:Nat,(lk.getD w [])[j]? = some ((y:Int),(k:Int))→D.getD y 0<D.getD w 0→(∃ st∈init,st.v=(w:Int)∧st.next≤j)∨(k:Int)∈s.opn∨Asg l D F s k w:=by
 intro w hw hsw j y k hj hlt
 rcases h.f w hw hsw j y k hj hlt with ⟨st,hst,e1,e2⟩ | h1
 ·have hst':=hst
  rw [hp] at hst'
  rcases YJ hst' with h2 | h2
  ·exact .inl ⟨st,h2,e1,e2⟩
  ·obtain rfl:=YF h2
   have:w=x:=by have:=ht.ev;omega
   subst this
   have hjl:=(YE hj).1
   omega
 ·exact .inr h1
theorem BI.leave (h:BI N l lk D F s)(hO:OkW N M C lk s)(hM:M=l.length)(hT:TreeI N l lk s)(hR:RightG (N:Int) l)(T:Tr N l D F)(hK:LinksP N l lk){init:List Stp}{last:Stp}(hp:s.path=init++[last])(hn:last.next=(lk.getD last.v.toNat []).length):BI N l lk D F (Qam s init last):=by
 have ht:=h.top hO T hp
 obtain⟨x,ex⟩:∃ x,x=last.v.toNat:=⟨_,rfl⟩
 rw [← ex] at ht hn
 have hfl:=h.f_less ht hp hn
 have hmem:∀ st∈init,st∈s.path:=fun st hst=>by rw [hp];exact List.mem_append_left _ hst
 have hold:∀ {i:Nat} {st:Stp},init[i]? = some st→s.path[i]? = some st:=fun hi=>by rw [hp];exact QbJ hi _
 cases hi:init.getLast? with
 | none=>
  have e:Qam s init last={ s with path:=[] }:=by unfold Qam;rw [hi]
  have hin:init=[]:=List.getLast?_eq_none_iff.1 hi
  rw [e]
  refine⟨h.agr,fun st hst=>by simp at hst,fun i st st' hst=>by simp at hst,fun p hp1=>?_,fun i st hst=>by simp at hst,fun i st hst=>by simp at hst,fun i st hst=>by simp at hst,fun i st hst=>by simp at hst,fun w hw hsw j y k hj hlt=>?_⟩
  ·obtain⟨k,u,w,h1,h2,h3,h4⟩:=h.a p hp1
   refine⟨k,u,w,h1,h2,h3,fun y hy=>.inr ?_⟩
   rcases h4 y hy with ⟨st,hst,e1⟩ | h5
   ·rw [hp,hin] at hst
    obtain rfl:=YF hst
    have h6:=h.rt st (by rw [hp,hin];rfl)
    have:y=st.v.toNat:=by omega
    subst this
    rintro⟨q,e2,_⟩
    omega
   ·exact h5
  ·rcases hfl w hw hsw j y k hj hlt with ⟨st,hst,_⟩ | h1 | ⟨hd,b,q,h1,h2,h3⟩
   ·rw [hin] at hst
    simp at hst
   ·exact .inr (.inl h1)
   ·exact .inr (.inr ⟨hd,b,q,h1,fun ⟨st,hst,_⟩=>by simp at hst,h3⟩)
 | some top=>
  obtain⟨pre,hpre⟩:=List.getLast?_eq_some_iff.1 hi
  have hdl:init.dropLast=pre:=by rw [hpre];simp
  have htop:s.path[pre.length]? = some top:=hold (by rw [hpre];simp)
  have hlast:s.path[pre.length+1]? = some last:=by
   have:pre.length+1=init.length:=by rw [hpre];simp
   rw [this,hp]
   simp
  obtain⟨hF,kb,ekb,hkb⟩:=h.ch _ top last htop hlast
  rw [← ex] at hF hkb
  have htv:=hO.nat (YK htop)
  obtain⟨q,eq⟩:∃ q,q=top.v.toNat:=⟨_,rfl⟩
  rw [← eq] at htv hkb
  rw [htv.1] at hF
  have hne:init≠[]:=by rw [hpre];simp
  have hhead:=h.head hT hR T hK hp ht hn hF hne
  have hdq:at_ s.depth top.v=D.getD q 0:=by unfold at_;rw [← eq];exact (h.agr q htv.2.1 htv.2.2).1
  have hxq:D.getD x 0=D.getD q 0+1:=by
   rcases T.par x ht.lt with ⟨_,h2⟩ | ⟨u,a,b,c,_⟩
   ·omega
   ·have:u=q:=by omega
    subst this
    exact c
  have hqx:∀ w,Anc F x w→Anc F q w:=fun w hw=>(Anc.up hF (Anc.refl _ _)).trans hw
  by_cases hlow:last.low<at_ s.depth top.v
  ·have e:Qam s init last={ s with path:=init.dropLast++[{ top with low:=min top.low last.low }] }:=by unfold Qam;rw [hi];simp only [if_pos hlow]
   rw [e,hdl]
   rw [hdq] at hlow
   have hnh:¬ Head l D F x:=fun h1=>(hhead.1 h1) hlow
   have back:∀ {i:Nat} {st:Stp},(pre++[{ top with low:=min top.low last.low }])[i]? = some st→∃ st0,s.path[i]? = some st0∧init[i]? = some st0∧st0.v=st.v∧st0.by_=st.by_∧st0.opn=st.opn∧st0.next=st.next∧((i<pre.length∧st0=st)∨(i=pre.length∧st0=top∧st.low=min top.low last.low)):=by
    intro i st hst
    rcases QbK hst with ⟨h1,h2⟩ | ⟨h1,h2⟩
    ·have h3:init[i]? = some st:=by rw [hpre];exact QbJ h2 _
     exact⟨st,hold h3,h3,rfl,rfl,rfl,rfl,.inl ⟨h1,rfl⟩⟩
    ·subst h2
     have h3:init[i]? = some top:=by rw [hpre,h1];simp
     exact⟨top,hold h3,h3,rfl,rfl,rfl,rfl,.inr ⟨h1,rfl,rfl⟩⟩
   have fwd:∀ {i:Nat} {st:Stp},init[i]? = some st→∃ st1,(pre++[{ top with low:=min top.low last.low }])[i]? = some st1∧st1.v=st.v∧st1.opn=st.opn∧st1.next=st.next:=by
    intro i st hst
    rw [hpre] at hst
    rcases QbK hst with ⟨h1,h2⟩ | ⟨h1,h2⟩
    ·exact⟨st,QbJ h2 _,rfl,rfl,rfl⟩
    ·subst h2
     exact⟨{ st with low:=min st.low last.low },by rw [h1];exact QgG _ _,rfl,rfl,rfl⟩
   have hon:∀ y,onP s y→y=x∨onP { s with path:=pre++[{ top with low:=min top.low last.low }] } y:=by
    rintro y ⟨st,hst,e1⟩
    rw [hp] at hst
    rcases YJ hst with h1 | h1
    ·obtain⟨i,hi1⟩:=List.getElem?_of_mem h1
     obtain⟨st1,h2,h3,_⟩:=fwd hi1
     exact .inr ⟨st1,YK h2,by rw [h3];exact e1⟩
    ·obtain rfl:=YF h1
     exact .inl (by omega)
   refine⟨h.agr,fun st hst=>?_,fun i st st' h1 h2=>?_,fun p hp1=>?_,fun i st h1=>?_,fun i st h1=>?_,fun i st h1 q' hq'=>?_,fun i st h1 k u w hk hm=>?_,fun w hw hsw j y k hj hlt=>?_⟩
   ·obtain⟨st0,h1,_,e1,_⟩:=back hst
    rw [← e1]
    exact h.rt st0 h1
   ·obtain⟨a0,g1,_,e1,_⟩:=back h1
    obtain⟨a1,g2,_,e2,e3,_⟩:=back h2
    rw [← e1,← e2,← e3]
    exact h.ch i a0 a1 g1 g2
   ·obtain⟨k,u,w,h1,h2,h3,h4⟩:=h.a p hp1
    refine⟨k,u,w,h1,h2,h3,fun y hy=>?_⟩
    rcases h4 y hy with h5 | h5
    ·rcases hon y h5 with rfl | h6
     ·exact .inr hnh
     ·exact .inl h6
    ·exact .inr h5
   ·obtain⟨st0,g1,_,e1,_,e3,_⟩:=back h1
    rw [← e1,← e3]
    exact h.b i st0 g1
   ·obtain⟨st0,g1,_,e1,_,e3,_⟩:=back h1
    rw [← e1,← e3]
    exact h.c i st0 g1
   ·obtain⟨st0,g1,_,e1,_,_,_,h2⟩:=back h1
    rw [← e1] at hq' ⊢
    obtain⟨d1,d2⟩:=h.d i st0 g1 q' hq'
    rcases h2 with ⟨_,rfl⟩ | ⟨_,rfl,e4⟩
    ·exact⟨d1,d2⟩
    ·rw [e4]
     refine⟨by omega,?_⟩
     by_cases hm:st0.low≤last.low
     ·rw [Int.min_eq_left hm]
      exact d2
     ·rw [Int.min_eq_right (by omega)]
      right
      rcases (h.d _ last hlast q (by rw [← ex];exact hF)).2 with h3 | ⟨k,u,w,h3,h4,h5⟩
      ·omega
      ·rw [← ex] at h4
       exact⟨k,u,w,h3,by rw [← eq];exact hqx w h4,h5⟩
   ·obtain⟨st0,g1,_,e1,_,e3,_,h2⟩:=back h1
    rw [← e3] at hm
    rcases h2 with ⟨hlt2,rfl⟩ | ⟨h2,rfl,e4⟩
    ·rcases h.e i st0 g1 k u w hk hm with ⟨st',g2,g3⟩ | g2
     ·left
      have g4:init[i+2]? = some st':=by
       rw [hp] at g2
       rcases QbK g2 with ⟨_,g5⟩ | ⟨g5,_⟩
       ·exact g5
       ·rw [hpre] at g5
        simp at g5
        omega
      obtain⟨st1,g5,_,g6,_⟩:=fwd g4
      exact⟨st1,g5,by rw [g6];exact g3⟩
     ·exact .inr g2
    ·right
     rw [e4]
     rcases h.e i st0 g1 k u w hk hm with ⟨st',g2,g3⟩ | g2
     ·rw [show i+2=pre.length+1 by omega,hlast] at g2
      cases g2
      rcases h.e _ last hlast k u w hk g3 with ⟨st2,g4,_⟩ | g4
      ·have:=(YE g4).1
       rw [hp,hpre] at this
       simp at this
      ·omega
     ·omega
   ·rcases hfl w hw hsw j y k hj hlt with ⟨st,hst,e1,e2⟩ | h1 | ⟨hd,b,q',h1,h2,h3⟩
    ·obtain⟨i,hi1⟩:=List.getElem?_of_mem hst
     obtain⟨st1,g2,g3,_,g4⟩:=fwd hi1
     exact .inl ⟨st1,YK g2,by rw [g3];exact e1,by rw [g4];exact e2⟩
    ·exact .inr (.inl h1)
    ·refine .inr (.inr ⟨hd,b,q',h1,fun ⟨st,hst,e1⟩=>h2 ?_,h3⟩)
     obtain⟨i,hi1⟩:=List.getElem?_of_mem hst
     obtain⟨st0,g1,_,g2,_⟩:=back hi1
     exact⟨st0,YK g1,by rw [g2];exact e1⟩
  ·have e:Qam s init last={ s with path:=init,block:=(s.opn.drop last.opn).foldl (fun b p=>b.set p.toNat last.by_) s.block,opn:=s.opn.take last.opn }:=by unfold Qam;rw [hi];simp only [if_neg hlow]
   rw [e]
   rw [hdq] at hlow
   have hH:=hhead.2 hlow
   have hpos:∀ p∈s.opn.drop last.opn,0≤p:=fun p hp1=>by
    obtain⟨k,e1,_⟩:=hO.ops p (List.mem_of_mem_drop hp1)
    omega
   have hcx:∀ k u w,EdP l D k u w→(k:Int)∈s.opn.take last.opn→¬ Anc F x w:=fun k u w hk hm=>by
    have:=h.c _ last hlast k u w hk hm
    rwa [← ex] at this
   have hbx:∀ k u w,EdP l D k u w→(k:Int)∈s.opn.drop last.opn→Anc F x w:=fun k u w hk hm=>by
    have:=h.b _ last hlast k u w hk hm
    rwa [← ex] at this
   have hon:∀ y,onP s y→y=x∨∃ st∈init,st.v=(y:Int):=by
    rintro y ⟨st,hst,e1⟩
    rw [hp] at hst
    rcases YJ hst with h1 | h1
    ·exact .inr ⟨st,h1,e1⟩
    ·obtain rfl:=YF h1
     exact .inl (by omega)
   refine⟨h.agr,fun st hst=>h.rt st (hold hst),fun i st st' h1 h2=>h.ch i st st' (hold h1) (hold h2),fun p hp1=>?_,fun i st h1 k u w hk hm=>?_,fun i st h1 k u w hk hm=>?_,fun i st h1=>h.d i st (hold h1),fun i st h1 k u w hk hm=>?_,fun w hw hsw j y k hj hlt=>?_⟩
   ·obtain⟨k,u,w,h1,h2,h3,h4⟩:=h.a p (List.mem_of_mem_take hp1)
    refine⟨k,u,w,h1,h2,h3,fun y hy=>?_⟩
    rcases h4 y hy with h5 | h5
    ·rcases hon y h5 with rfl | h6
     ·exact absurd hy (hcx k u w h2 (by rw [← h1];exact hp1))
     ·exact .inl h6
    ·exact .inr h5
   ·refine h.b i st (hold h1) k u w hk ?_
    rw [List.drop_take] at hm
    exact List.mem_of_mem_take hm
   ·refine h.c i st (hold h1) k u w hk ?_
    rw [List.take_take] at hm
    exact (List.take_sublist_take_left (Nat.min_le_left _ _)).subset hm
   ·have hm1:(k:Int)∈s.opn.drop st.opn:=by
     rw [List.drop_take] at hm
     exact List.mem_of_mem_take hm
    rcases h.e i st (hold h1) k u w hk hm1 with ⟨st',g2,g3⟩ | g2
    ·have g2':=g2
     rw [hp] at g2'
     rcases QbK g2' with ⟨_,g5⟩ | ⟨_,g5⟩
     ·refine .inl ⟨st',g5,?_⟩
      have hm2:(k:Int)∈s.opn.take last.opn:=List.mem_of_mem_drop hm
      rw [← List.take_append_drop st'.opn (s.opn.take last.opn)] at hm2
      rcases YJ hm2 with hm3 | hm3
      ·refine absurd (h.b _ st' g2 k u w hk g3) (h.c _ st' g2 k u w hk ?_)
       rw [List.take_take] at hm3
       exact (List.take_sublist_take_left (Nat.min_le_left _ _)).subset hm3
      ·exact hm3
     ·subst g5
      exact absurd (hbx k u w hk g3) (hcx k u w hk (List.mem_of_mem_drop hm))
    ·exact .inr g2
   ·have hkJ:EdP l D k y w:=by
     obtain⟨y',k',e1,_,e2⟩:=hK.sound w _ hw (YK hj)
     have e3:y'=y:=by have:=congrArg Prod.fst e1;simp only at this;omega
     have e4:k'=k:=by have:=congrArg Prod.snd e1;simp only at this;omega
     subst e3
     subst e4
     exact⟨e2.symm,hlt⟩
    have hkl:k<s.block.length:=by rw [hO.lenK,hM];exact hkJ.1.lt
    by_cases hin:(k:Int)∈s.opn.drop last.opn
    ·right
     right
     refine⟨x,kb,q,⟨hbx k y w hkJ hin,hH,fun z hz hxz hne=>?_⟩,fun ⟨st,hst,e1⟩=>ht.out st hst e1,ht.see,?_,hF,hkb⟩
     ·obtain⟨k',u',w',g1,g2,g3,g4⟩:=h.a (k:Int) (List.mem_of_mem_drop hin)
      have:k'=k:=by omega
      subst this
      obtain⟨_,rfl⟩:=g2.uniq hkJ
      rcases g4 z hz with h5 | h5
      ·exact absurd (T.anti ht.lt (ht.up z h5) hxz) hne
      ·exact h5
     ·show ((s.opn.drop last.opn).foldl (fun b p=>b.set p.toNat last.by_) s.block).getD k 0=_
      rw [Qf4 _ _ hpos k hkl,if_pos hin,ekb]
    ·rcases hfl w hw hsw j y k hj hlt with h1 | h1 | ⟨hd,b,q',h1,h2,h3,h4,h5⟩
     ·exact .inl h1
     ·right
      left
      rw [← List.take_append_drop last.opn s.opn] at h1
      rcases YJ h1 with h2 | h2
      ·exact h2
      ·exact absurd h2 hin
     ·refine .inr (.inr ⟨hd,b,q',h1,fun ⟨st,hst,e1⟩=>h2 ⟨st,hmem st hst,e1⟩,h3,?_,h5⟩)
      show ((s.opn.drop last.opn).foldl (fun b p=>b.set p.toNat last.by_) s.block).getD k 0=_
      rw [Qf4 _ _ hpos k hkl,if_neg hin]
      exact h4
end
section
variable {N M C:Nat} {l:List Ed} {lk:List (List (Int × Int))} {D F:List Int} {s:WS}
theorem BI.unseen (h:BI N l lk D F s)(hT:TreeI N l lk s){y w:Nat}(hw:w<N)(hs:seen s w)(ha:Anc F y w):seen s y:=by
 obtain⟨ls,hl⟩:=ha
 induction ls generalizing w with
 | nil=>
  have e:w=y:=hl
  subst e
  exact hs
 | cons z ls ih=>
  have hz:=hl.1
  rw [← (h.agr w hw hs).2] at hz
  obtain⟨h1,h2⟩:=hT.closed ⟨hw,hs⟩ hz
  exact ih h1 h2 hl.2
theorem BI.look (h:BI N l lk D F s)(hO:OkW N M C lk s)(hT:TreeI N l lk s)(hR:RightG (N:Int) l)(T:Tr N l D F)(hK:LinksP N l lk){init:List Stp}{top:Stp}{x:Int × Int}(hp:s.path=init++[top])(hx:(lk.getD top.v.toNat [])[top.next]? = some x)(hA:∀ v,v<N→seen (lookW s init { top with next:=top.next+1 } x) v→(lookW s init { top with next:=top.next+1 } x).depth.getD v 0=D.getD v 0∧(lookW s init { top with next:=top.next+1 } x).from_.getD v 0=F.getD v 0):BI N l lk D F (lookW s init { top with next:=top.next+1 } x):=by
 have ht:=h.top hO T hp
 obtain⟨v,ev⟩:∃ v,v=top.v.toNat:=⟨_,rfl⟩
 rw [← ev] at ht hx
 obtain⟨y,k,rfl,hy,hJ⟩:=hK.sound v x ht.lt (YK hx)
 have hopl:∀ {i:Nat} {st:Stp},s.path[i]? = some st→st.opn≤s.opn.length:=fun hi=>hO.opl _ (List.mem_map.2 ⟨_,YK hi,rfl⟩)
 have hlast:s.path[init.length]? = some top:=by rw [hp];simp
 have hdv:at_ s.depth top.v=D.getD v 0:=by unfold at_;rw [← ev];exact (h.agr v ht.lt ht.see).1
 have hyt:((y:Int),(k:Int)).1.toNat=y:=rfl
 have back:∀ (t:Stp),t.v=top.v→t.by_=top.by_→t.opn=top.opn→∀ {i:Nat} {st:Stp},(init++[t])[i]? = some st→∃ st0,s.path[i]? = some st0∧st0.v=st.v∧st0.by_=st.by_∧st0.opn=st.opn∧((i<init.length∧st0=st)∨(i=init.length∧st0=top∧st=t)):=by
  intro t t1 t2 t3 i st hst
  rcases QbK hst with ⟨h1,h2⟩ | ⟨h1,h2⟩
  ·exact⟨st,by rw [hp];exact QbJ h2 _,rfl,rfl,rfl,.inl ⟨h1,rfl⟩⟩
  ·subst h2
   exact⟨top,by rw [h1];exact hlast,t1.symm,t2.symm,t3.symm,.inr ⟨h1,rfl,rfl⟩⟩
 have fwd:∀ (t:Stp),t.v=top.v→t.opn=top.opn→∀ {i:Nat} {st:Stp},s.path[i]? = some st→∃ st1,(init++[t])[i]? = some st1∧st1.v=st.v∧st1.opn=st.opn∧(st1=st∨(i=init.length∧st=top∧st1=t)):=by
  intro t t1 t3 i st hst
  rw [hp] at hst
  rcases QbK hst with ⟨h1,h2⟩ | ⟨h1,h2⟩
  ·exact⟨st,QbJ h2 _,rfl,rfl,.inl rfl⟩
  ·subst h2
   exact⟨t,by rw [h1];exact QgG _ _,t1,t3,.inr ⟨h1,rfl,rfl⟩⟩
 have onfwd:∀ (t:Stp),t.v=top.v→t.opn=top.opn→∀ (s':WS),(∀ st∈init++[t],st∈s'.path)→∀ z,onP s z→onP s' z:=by
  rintro t t1 t3 s' hs' z ⟨st,hst,e1⟩
  obtain⟨i,hi⟩:=List.getElem?_of_mem hst
  obtain⟨st1,g1,g2,_⟩:=fwd t t1 t3 hi
  exact⟨st1,hs' _ (YK g1),by rw [g2];exact e1⟩
 have onback:∀ (t:Stp),t.v=top.v→t.by_=top.by_→t.opn=top.opn→∀ z:Nat,(∃ st∈init++[t],st.v=(z:Int))→onP s z:=by
  rintro t t1 t2 t3 z ⟨st,hst,e1⟩
  obtain⟨i,hi⟩:=List.getElem?_of_mem hst
  obtain⟨st0,g1,g2,_⟩:=back t t1 t2 t3 hi
  exact⟨st0,YK g1,by rw [g2];exact e1⟩
 have flook:∀ (t:Stp),t.v=top.v→t.opn=top.opn→t.next=top.next+1→∀ w,w<N→seen s w→∀ j y' k':Nat,(lk.getD w [])[j]? = some ((y':Int),(k':Int))→D.getD y' 0<D.getD w 0→(∃ st∈init++[t],st.v=(w:Int)∧st.next≤j)∨((y',k',w)=(y,k,v))∨(k':Int)∈s.opn∨Asg l D F s k' w:=by
  intro t t1 t3 t4 w hw hsw j y' k' hj hlt
  rcases h.f w hw hsw j y' k' hj hlt with ⟨st,hst,e1,e2⟩ | h1
  ·obtain⟨i,hi⟩:=List.getElem?_of_mem hst
   obtain⟨st1,g1,g2,_,g3⟩:=fwd t t1 t3 hi
   rcases g3 with rfl | ⟨_,rfl,rfl⟩
   ·exact .inl ⟨st1,YK g1,e1,e2⟩
   ·have hwv:w=v:=by omega
    subst hwv
    by_cases hjn:j=st.next
    ·subst hjn
     rw [hx] at hj
     right
     left
     have e3:=Option.some.inj hj
     have e4:(y:Int)=y':=congrArg Prod.fst e3
     have e5:(k:Int)=k':=congrArg Prod.snd e3
     have e6:y'=y:=by omega
     have e7:k'=k:=by omega
     rw [e6,e7]
    ·exact .inl ⟨st1,YK g1,by rw [g2];exact e1,by omega⟩
  ·exact .inr (.inr h1)
 by_cases hneg:at_ s.depth (y:Int)<0
 ·-- a new vertex
  have e:lookW s init { top with next:=top.next+1 } ((y:Int),(k:Int))={ s with root:=s.root.set y (at_ s.root top.v),from_:=s.from_.set y top.v,depth:=s.depth.set y (at_ s.depth top.v+1),path:=init++[{ top with next:=top.next+1 }]++[⟨(y:Int),(k:Int),0,at_ s.depth top.v,s.opn.length⟩] }:=by unfold lookW;simp only [if_pos hneg];rfl
  rw [e] at hA ⊢
  obtain⟨s',hs'⟩:∃ s':WS,s'={ s with root:=s.root.set y (at_ s.root top.v),from_:=s.from_.set y top.v,depth:=s.depth.set y (at_ s.depth top.v+1),path:=init++[{ top with next:=top.next+1 }]++[⟨(y:Int),(k:Int),0,at_ s.depth top.v,s.opn.length⟩] }:=⟨_,rfl⟩
  rw [← hs'] at hA ⊢
  have pP:s'.path=init++[{ top with next:=top.next+1 }]++[⟨(y:Int),(k:Int),0,at_ s.depth top.v,s.opn.length⟩]:=by rw [hs']
  have pO:s'.opn=s.opn:=by rw [hs']
  have pB:s'.block=s.block:=by rw [hs']
  have pD:∀ z,s'.depth.getD z 0=if y=z then at_ s.depth top.v+1 else s.depth.getD z 0:=fun z=>by
   rw [hs']
   show (s.depth.set y _).getD z 0=_
   rw [Qao,hO.lenD]
   by_cases e:y=z
   ·rw [if_pos ⟨e,hy⟩,if_pos e]
   ·rw [if_neg (fun a=>e a.1),if_neg e]
  have pF:s'.from_.getD y 0=top.v:=by
   rw [hs']
   show (s.from_.set y _).getD y 0=_
   rw [Qao,hO.lenF,if_pos ⟨rfl,hy⟩]
  have hnsy:¬ seen s y:=fun e=>by unfold seen at e;unfold at_ at hneg;rw [YM] at hneg;omega
  have hvp:0≤D.getD v 0:=T.pos v ht.lt
  have hsy:seen s' y:=by unfold seen;rw [pD,if_pos rfl,hdv];omega
  have hup:∀ z,seen s z→seen s' z:=fun z hz=>by
   unfold seen at hz ⊢
   rw [pD]
   split
   ·rw [hdv];omega
   ·exact hz
  have hdn:∀ z,seen s' z→z≠y→seen s z:=fun z hz hne=>by
   unfold seen at hz ⊢
   rw [pD,if_neg (fun e=>hne e.symm)] at hz
   exact hz
  have hDy:D.getD y 0=D.getD v 0+1:=by
   rw [← (hA y hy hsy).1,pD,if_pos rfl,hdv]
  have hFy:F.getD y 0=(v:Int):=by rw [← (hA y hy hsy).2,pF,ht.ev]
  have B:=@back { top with next:=top.next+1 } rfl rfl rfl
  have Fw:=@fwd { top with next:=top.next+1 } rfl rfl
  have hon:∀ z,onP s z→onP s' z:=onfwd { top with next:=top.next+1 } rfl rfl s' (fun st hst=>by rw [pP];exact List.mem_append_left _ hst)
  have hlen:(init++[{ top with next:=top.next+1 }]).length=init.length+1:=by simp
  have hcut:∀ {i:Nat} {st:Stp},s'.path[i]? = some st→(i<init.length+1∧(init++[{ top with next:=top.next+1 }])[i]? = some st)∨(i=init.length+1∧st=⟨(y:Int),(k:Int),0,at_ s.depth top.v,s.opn.length⟩):=fun hi=>by
   rw [pP] at hi
   rcases QbK hi with ⟨h1,h2⟩ | ⟨h1,h2⟩
   ·exact .inl ⟨by omega,h2⟩
   ·exact .inr ⟨by omega,h2⟩
  refine⟨hA,fun st hst=>?_,fun i st st' h1 h2=>?_,fun p hp1=>?_,fun i st h1=>?_,fun i st h1=>?_,fun i st h1 q' hq'=>?_,fun i st h1 k' u w hk hm=>?_,fun w hw hsw j y' k' hj hlt=>?_⟩
  ·rcases hcut hst with ⟨_,h2⟩ | ⟨h2,_⟩
   ·obtain⟨st0,g1,g2,_⟩:=B h2
    rw [← g2]
    exact h.rt st0 g1
   ·omega
  ·rcases hcut h1 with ⟨g0,g1⟩ | ⟨g0,g1⟩
   ·obtain⟨a0,b1,b2,_,_,b5⟩:=B g1
    rcases hcut h2 with ⟨g2,g3⟩ | ⟨g2,g3⟩
    ·obtain⟨a1,c1,c2,c3,_⟩:=B g3
     rw [← b2,← c2,← c3]
     exact h.ch i a0 a1 b1 c1
    ·subst g3
     have hi:i=init.length:=by omega
     have:a0=top:=by
      rw [hi,hlast] at b1
      exact (Option.some.inj b1).symm
     subst this
     rw [← b2]
     refine⟨by rw [ht.ev];exact hFy,k,rfl,?_⟩
     rw [← ev]
     exact⟨hJ,by show D.getD v 0<D.getD y 0;omega⟩
   ·rcases hcut h2 with ⟨g2,_⟩ | ⟨g2,_⟩ <;> omega
  ·rw [pO] at hp1
   obtain⟨k',u,w,h1,h2,h3,h4⟩:=h.a p hp1
   refine⟨k',u,w,h1,h2,hup w h3,fun z hz=>?_⟩
   rcases h4 z hz with h5 | h5
   ·exact .inl (hon z h5)
   ·exact .inr h5
  ·intro k' u w hk hm
   rw [pO] at hm
   rcases hcut h1 with ⟨_,g1⟩ | ⟨_,g1⟩
   ·obtain⟨a0,b1,b2,_,b4,_⟩:=B g1
    rw [← b2]
    rw [← b4] at hm
    exact h.b i a0 b1 k' u w hk hm
   ·subst g1
    rw [List.drop_length] at hm
    simp at hm
  ·intro k' u w hk hm ha
   rw [pO] at hm
   rcases hcut h1 with ⟨_,g1⟩ | ⟨_,g1⟩
   ·obtain⟨a0,b1,b2,_,b4,_⟩:=B g1
    rw [← b2] at ha
    rw [← b4] at hm
    exact h.c i a0 b1 k' u w hk hm ha
   ·subst g1
    rw [List.take_length] at hm
    obtain⟨k2,u2,w2,h3,h4,h5,_⟩:=h.a _ hm
    have:k2=k':=by omega
    subst this
    obtain⟨_,rfl⟩:=h4.uniq hk
    exact hnsy (h.unseen hT (hk.1.below hR).2 h5 ha)
  ·rcases hcut h1 with ⟨_,g1⟩ | ⟨_,g1⟩
   ·obtain⟨a0,b1,b2,_,_,b5⟩:=B g1
    rw [← b2] at hq' ⊢
    have:=h.d i a0 b1 q' hq'
    rcases b5 with ⟨_,rfl⟩ | ⟨_,rfl,rfl⟩
    ·exact this
    ·exact this
   ·subst g1
    have:q'=v:=by
     have e1:F.getD y 0=(q':Int):=hq'
     omega
    subst this
    show at_ s.depth top.v≤_∧(at_ s.depth top.v=_∨_)
    rw [hdv]
    exact⟨Int.le_refl _,.inl rfl⟩
  ·rw [pO] at hm ⊢
   rcases hcut h1 with ⟨_,g1⟩ | ⟨_,g1⟩
   ·obtain⟨a0,b1,b2,_,b4,b5⟩:=B g1
    rw [← b4] at hm
    have h3:=h.e i a0 b1 k' u w hk hm
    rcases h3 with ⟨st',g2,g3⟩ | g2
    ·obtain⟨st1,g4,_,g5,_⟩:=Fw g2
     exact .inl ⟨st1,by rw [pP];exact QbJ g4 _,by rw [g5];exact g3⟩
    ·right
     rcases b5 with ⟨_,rfl⟩ | ⟨_,rfl,rfl⟩
     ·exact g2
     ·exact g2
   ·subst g1
    rw [List.drop_length] at hm
    simp at hm
  ·rw [pO]
   by_cases hwy:w=y
   ·subst hwy
    exact .inl ⟨⟨(w:Int),(k:Int),0,at_ s.depth top.v,s.opn.length⟩,by rw [pP];simp,rfl,YN⟩
   ·rcases flook { top with next:=top.next+1 } rfl rfl rfl w hw (hdn w hsw hwy) j y' k' hj hlt with ⟨st,hst,e1,e2⟩ | h1 | h1 | ⟨hd,b,q',h1,h2,h3,h4⟩
    ·exact .inl ⟨st,by rw [pP];exact List.mem_append_left _ hst,e1,e2⟩
    ·cases h1
     omega
    ·exact .inr (.inl h1)
    ·refine .inr (.inr ⟨hd,b,q',h1,?_,hup hd h3,by rw [pB];exact h4⟩)
     rintro⟨st,hst,e1⟩
     rw [pP] at hst
     rcases YJ hst with h5 | h5
     ·exact h2 (onback { top with next:=top.next+1 } rfl rfl rfl hd ⟨st,h5,e1⟩)
     ·obtain rfl:=YF h5
      have:hd=y:=by
       have e2:(y:Int)=(hd:Int):=e1
       omega
      subst this
      exact hnsy h3
 ·-- one that has been seen
  have hsy:seen s y:=by unfold seen;unfold at_ at hneg;rw [YM] at hneg;omega
  have hdy:at_ s.depth (y:Int)=D.getD y 0:=by unfold at_;rw [YM];exact (h.agr y hy hsy).1
  by_cases hlt0:at_ s.depth (y:Int)<at_ s.depth top.v
  ·have e:lookW s init { top with next:=top.next+1 } ((y:Int),(k:Int))={ s with path:=init++[{ top with next:=top.next+1,low:=min top.low (at_ s.depth (y:Int)) }],opn:=s.opn++[(k:Int)] }:=by unfold lookW;simp only [if_neg hneg,if_pos hlt0]
   rw [e] at hA ⊢
   rw [hdy] at hA ⊢
   rw [hdy,hdv] at hlt0
   have hkE:EdP l D k y v:=⟨hJ.symm,hlt0⟩
   have B:=@back { top with next:=top.next+1,low:=min top.low (D.getD y 0) } rfl rfl rfl
   have Fw:=@fwd { top with next:=top.next+1,low:=min top.low (D.getD y 0) } rfl rfl
   have hon:∀ z,onP s z→onP { s with path:=init++[{ top with next:=top.next+1,low:=min top.low (D.getD y 0) }],opn:=s.opn++[(k:Int)] } z:=onfwd { top with next:=top.next+1,low:=min top.low (D.getD y 0) } rfl rfl _ (fun st hst=>hst)
   refine⟨hA,fun st hst=>?_,fun i st st' h1 h2=>?_,fun p hp1=>?_,fun i st h1=>?_,fun i st h1=>?_,fun i st h1 q' hq'=>?_,fun i st h1 k' u w hk hm=>?_,fun w hw hsw j y' k' hj hlt=>?_⟩
   ·obtain⟨st0,g1,g2,_⟩:=B hst
    rw [← g2]
    exact h.rt st0 g1
   ·obtain⟨a0,b1,b2,_⟩:=B h1
    obtain⟨a1,c1,c2,c3,_⟩:=B h2
    rw [← b2,← c2,← c3]
    exact h.ch i a0 a1 b1 c1
   ·rcases YJ hp1 with hp2 | hp2
    ·obtain⟨k',u,w,h1,h2,h3,h4⟩:=h.a p hp2
     refine⟨k',u,w,h1,h2,h3,fun z hz=>?_⟩
     rcases h4 z hz with h5 | h5
     ·exact .inl (hon z h5)
     ·exact .inr h5
    ·obtain rfl:=YF hp2
     exact⟨k,y,v,rfl,hkE,ht.see,fun z hz=>.inl (hon z (ht.clo z hz))⟩
   ·intro k' u w hk hm
    obtain⟨a0,b1,b2,_,b4,_⟩:=B h1
    rw [← b2]
    rw [← b4] at hm
    have hm':(k':Int)∈(s.opn++[(k:Int)]).drop a0.opn:=hm
    rw [List.drop_append_of_le_length (hopl b1)] at hm'
    rcases YJ hm' with hm2 | hm2
    ·exact h.b i a0 b1 k' u w hk hm2
    ·have:k'=k:=by have:=YF hm2;omega
     subst this
     obtain⟨_,rfl⟩:=hkE.uniq hk
     refine ht.up _ ⟨a0,YK b1,(hO.nat (YK b1)).1⟩
   ·intro k' u w hk hm
    obtain⟨a0,b1,b2,_,b4,_⟩:=B h1
    rw [← b2]
    rw [← b4] at hm
    have hm':(k':Int)∈(s.opn++[(k:Int)]).take a0.opn:=hm
    rw [List.take_append_of_le_length (hopl b1)] at hm'
    exact h.c i a0 b1 k' u w hk hm'
   ·obtain⟨a0,b1,b2,_,_,b5⟩:=B h1
    rw [← b2] at hq' ⊢
    obtain⟨d1,d2⟩:=h.d i a0 b1 q' hq'
    rcases b5 with ⟨_,rfl⟩ | ⟨_,rfl,rfl⟩
    ·exact⟨d1,d2⟩
    ·show min a0.low (D.getD y 0)≤_∧(min a0.low (D.getD y 0)=_∨∃ k u w,EdP l D k u w∧_∧D.getD u 0=min a0.low (D.getD y 0))
     refine⟨by omega,?_⟩
     by_cases hm:a0.low≤D.getD y 0
     ·rw [Int.min_eq_left hm]
      exact d2
     ·rw [Int.min_eq_right (by omega)]
      exact .inr ⟨k,y,v,hkE,by rw [← ev];exact Anc.refl _ _,rfl⟩
   ·obtain⟨a0,b1,b2,_,b4,b5⟩:=B h1
    rw [← b4] at hm
    have hm':(k':Int)∈(s.opn++[(k:Int)]).drop a0.opn:=hm
    rw [List.drop_append_of_le_length (hopl b1)] at hm'
    have hnext:∀ {st':Stp},s.path[i+2]? = some st'→((k':Int)∈s.opn.drop st'.opn∨k'=k)→∃ st1,(init++[{ top with next:=top.next+1,low:=min top.low (D.getD y 0) }])[i+2]? = some st1∧(k':Int)∈(s.opn++[(k:Int)]).drop st1.opn:=by
     intro st' g2 g3
     obtain⟨st1,g4,_,g5,_⟩:=Fw g2
     refine⟨st1,g4,?_⟩
     rw [g5,List.drop_append_of_le_length (hopl g2)]
     rcases g3 with g3 | rfl
     ·exact List.mem_append_left _ g3
     ·exact List.mem_append_right _ (List.mem_singleton.2 rfl)
    rcases YJ hm' with hm2 | hm2
    ·rcases h.e i a0 b1 k' u w hk hm2 with ⟨st',g2,g3⟩ | g2
     ·exact .inl (hnext g2 (.inl g3))
     ·right
      rcases b5 with ⟨_,rfl⟩ | ⟨_,rfl,rfl⟩
      ·exact g2
      ·show min a0.low (D.getD y 0)≤_
       omega
    ·have:k'=k:=by have:=YF hm2;omega
     subst this
     obtain⟨rfl,rfl⟩:=hkE.uniq hk
     rcases b5 with ⟨b6,rfl⟩ | ⟨_,rfl,rfl⟩
     ·left
      have hlt2:i+2<s.path.length:=by rw [hp,YI,List.length_singleton];omega
      exact hnext (YB hlt2) (.inr rfl)
     ·right
      show min a0.low (D.getD y 0)≤D.getD y 0
      omega
   ·rcases flook { top with next:=top.next+1,low:=min top.low (D.getD y 0) } rfl rfl rfl w hw hsw j y' k' hj hlt with h1 | h1 | h1 | ⟨hd,b,q',h1,h2,h3⟩
    ·exact .inl h1
    ·cases h1
     exact .inr (.inl (List.mem_append_right _ (List.mem_singleton.2 rfl)))
    ·exact .inr (.inl (List.mem_append_left _ h1))
    ·exact .inr (.inr ⟨hd,b,q',h1,fun h5=>h2 (onback { top with next:=top.next+1,low:=min top.low (D.getD y 0) } rfl rfl rfl hd h5),h3⟩)
  ·have e:lookW s init { top with next:=top.next+1 } ((y:Int),(k:Int))={ s with path:=init++[{ top with next:=top.next+1 }] }:=by unfold lookW;simp only [if_neg hneg,if_neg hlt0]
   rw [e] at hA ⊢
   rw [hdy,hdv] at hlt0
   have B:=@back { top with next:=top.next+1 } rfl rfl rfl
   have Fw:=@fwd { top with next:=top.next+1 } rfl rfl
   have hon:∀ z,onP s z→onP { s with path:=init++[{ top with next:=top.next+1 }] } z:=onfwd { top with next:=top.next+1 } rfl rfl _ (fun st hst=>hst)
   refine⟨hA,fun st hst=>?_,fun i st st' h1 h2=>?_,fun p hp1=>?_,fun i st h1=>?_,fun i st h1=>?_,fun i st h1 q' hq'=>?_,fun i st h1 k' u w hk hm=>?_,fun w hw hsw j y' k' hj hlt=>?_⟩
   ·obtain⟨st0,g1,g2,_⟩:=B hst
    rw [← g2]
    exact h.rt st0 g1
   ·obtain⟨a0,b1,b2,_⟩:=B h1
    obtain⟨a1,c1,c2,c3,_⟩:=B h2
    rw [← b2,← c2,← c3]
    exact h.ch i a0 a1 b1 c1
   ·obtain⟨k',u,w,h1,h2,h3,h4⟩:=h.a p hp1
    refine⟨k',u,w,h1,h2,h3,fun z hz=>?_⟩
    rcases h4 z hz with h5 | h5
    ·exact .inl (hon z h5)
    ·exact .inr h5
   ·obtain⟨a0,b1,b2,_,b4,_⟩:=B h1
    rw [← b2,← b4]
    exact h.b i a0 b1
   ·obtain⟨a0,b1,b2,_,b4,_⟩:=B h1
    rw [← b2,← b4]
    exact h.c i a0 b1
   ·obtain⟨a0,b1,b2,_,_,b5⟩:=B h1
    rw [← b2] at hq' ⊢
    have:=h.d i a0 b1 q' hq'
    rcases b5 with ⟨_,rfl⟩ | ⟨_,rfl,rfl⟩
    ·exact this
    ·exact this
   ·obtain⟨a0,b1,b2,_,b4,b5⟩:=B h1
    rw [← b4] at hm
    rcases h.e i a0 b1 k' u w hk hm with ⟨st',g2,g3⟩ | g2
    ·obtain⟨st1,g4,_,g5,_⟩:=Fw g2
     exact .inl ⟨st1,g4,by rw [g5];exact g3⟩
    ·right
     rcases b5 with ⟨_,rfl⟩ | ⟨_,rfl,rfl⟩
     ·exact g2
     ·exact g2
   ·rcases flook { top with next:=top.next+1 } rfl rfl rfl w hw hsw j y' k' hj hlt with h1 | h1 | h1 | ⟨hd,b,q',h1,h2,h3⟩
    ·exact .inl h1
    ·cases h1
     omega
    ·exact .inr (.inl h1)
    ·exact .inr (.inr ⟨hd,b,q',h1,fun h5=>h2 (onback { top with next:=top.next+1 } rfl rfl rfl hd h5),h3⟩)
end
def Mon (N:Nat)(s s':WS):Prop:=∀ v,v<N→seen s v→s'.depth.getD v 0=s.depth.getD v 0∧s'.from_.getD v 0=s.from_.getD v 0
theorem Mon.refl (N:Nat)(s:WS):Mon N s s:=fun _ _ _=>⟨rfl,rfl⟩
theorem Mon.trans {N:Nat}{a b c:WS}(h:Mon N a b)(h':Mon N b c):Mon N a c:=fun v hv hs=>by
 obtain⟨h1,h2⟩:=h v hv hs
 obtain⟨h3,h4⟩:=h' v hv (by unfold seen at hs ⊢;rw [h1];exact hs)
 exact⟨h3.trans h1,h4.trans h2⟩
theorem Mon.same {N:Nat}{s s':WS}(h1:s'.depth=s.depth)(h2:s'.from_=s.from_):Mon N s s':=fun v _ _=>by rw [h1,h2];exact⟨rfl,rfl⟩
theorem Qma (N:Nat)(s:WS)(init:List Stp)(last:Stp):Mon N s (Qam s init last):=by
 unfold Qam
 split
 ·exact .same rfl rfl
 ·split
  ·exact .same rfl rfl
  ·exact .same rfl rfl
theorem QnV (N:Nat)(s:WS)(init:List Stp)(top:Stp)(x:Int × Int):Mon N s (lookW s init top x):=by
 unfold lookW
 split
 ·rename_i hneg
  intro v hv hs
  have hne:¬ (x.1.toNat=v∧x.1.toNat<s.depth.length):=fun e=>by
   unfold seen at hs
   unfold at_ at hneg
   rw [e.1] at hneg
   omega
  have hne2:¬ (x.1.toNat=v∧x.1.toNat<s.from_.length):=fun e=>by
   unfold seen at hs
   unfold at_ at hneg
   rw [e.1] at hneg
   omega
  constructor
  ·show (s.depth.set _ _).getD v 0=_
   rw [Qao,if_neg hne]
  ·show (s.from_.set _ _).getD v 0=_
   rw [Qao,if_neg hne2]
 ·split
  ·exact .same rfl rfl
  ·exact .same rfl rfl
theorem Qns (N:Nat)(lk:List (List (Int × Int)))(s:WS):Mon N s (stepW lk s):=by
 unfold stepW
 split
 ·exact .refl _ _
 ·split
  ·exact Qma _ _ _ _
  ·exact QnV _ _ _ _ _
theorem QfL (N:Nat)(lk:List (List (Int × Int))):∀ (k:Nat) (s:WS),Mon N s (runW lk k s)
 | 0,s=>.refl _ _
 | k+1,s=>by
  rw [runW]
  exact (Qns N lk s).trans (QfL N lk k _)
theorem Qnw {N:Nat}{s:WS}{r:Nat}(hs:s.depth.getD r 0<0):Mon N s { s with root:=s.root.set r (r:Int),from_:=s.from_.set r (-1),depth:=s.depth.set r 0,path:=s.path++[⟨(r:Int),-1,0,0,0⟩] }:=by
 intro v hv h
 have hne:r≠v:=fun e=>by unfold seen at h;rw [← e] at h;omega
 constructor
 ·show (s.depth.set r _).getD v 0=_
  rw [Qao,if_neg (fun e=>hne e.1)]
 ·show (s.from_.set r _).getD v 0=_
  rw [Qao,if_neg (fun e=>hne e.1)]
theorem Qk4 (N:Nat)(lk:List (List (Int × Int)))(C:Nat)(s:WS)(r:Nat):Mon N s (Qas lk C s r):=by
 unfold Qas
 split
 ·exact .refl _ _
 ·rename_i h
  exact (Qnw (by omega)).trans (QfL N lk C _)
theorem Qjg (N:Nat)(lk:List (List (Int × Int)))(C:Nat):∀ (rs:List Nat) (s:WS),Mon N s (rs.foldl (Qas lk C) s)
 | [],s=>.refl _ _
 | r :: rs,s=>by
  rw [List.foldl_cons]
  exact (Qk4 N lk C s r).trans (Qjg N lk C rs _)
def Agr (N:Nat)(D F:List Int)(s:WS):Prop:=∀ v,v<N→seen s v→s.depth.getD v 0=D.getD v 0∧s.from_.getD v 0=F.getD v 0
theorem Agr.back {N:Nat}{D F:List Int}{s s':WS}(h:Agr N D F s')(hm:Mon N s s'):Agr N D F s:=fun v hv hs=>by
 obtain⟨h1,h2⟩:=hm v hv hs
 obtain⟨h3,h4⟩:=h v hv (by unfold seen at hs ⊢;rw [h1];exact hs)
 exact⟨h1.symm.trans h3,h2.symm.trans h4⟩
section
variable {N C:Nat} {l:List Ed} {lk:List (List (Int × Int))} {D F:List Int}
theorem BI.step {s:WS}(h:BI N l lk D F s)(hO:OkW N l.length C lk s)(hT:TreeI N l lk s)(hR:RightG (N:Int) l)(T:Tr N l D F)(hK:LinksP N l lk)(hne:s.path≠[])(hA:Agr N D F (stepW lk s)):BI N l lk D F (stepW lk s):=by
 unfold stepW at hA ⊢
 cases hl:s.path.getLast? with
 | none=>exact absurd (List.getLast?_eq_none_iff.1 hl) hne
 | some top=>
  have hp:=QbA hl
  rw [hl] at hA
  simp only at hA ⊢
  split
  ·rename_i hn
   exact h.leave hO rfl hT hR T hK hp hn
  ·rename_i hn
   rw [if_neg hn] at hA
   have hle:=hO.nxt top (by rw [hp];simp)
   have hlt:top.next<degW lk top.v:=by unfold degW at hle ⊢;omega
   have hx:=YB (l:=lk.getD top.v.toNat []) hlt
   have e:(lk.getD top.v.toNat []).getD top.next (0,0)=(lk.getD top.v.toNat [])[top.next]:=by rw [YC,hx];rfl
   rw [e] at hA ⊢
   exact h.look hO hT hR T hK hp hx hA
theorem BI.run (hR:RightG (N:Int) l)(T:Tr N l D F)(hK:LinksP N l lk)(hKo:LinksOK N l lk)(hI:QaS N l.length lk):∀ (k:Nat) {s:WS},BI N l lk D F s→OkW N l.length C lk s→TreeI N l lk s→pot lk N s≤k→Agr N D F (runW lk k s)→BI N l lk D F (runW lk k s)
 | 0,_,h,_,_,_,_=>h
 | k+1,s,h,hO,hT,hk,hA=>by
  rw [runW] at hA ⊢
  by_cases hp:s.path=[]
  ·rw [Qbx hp,QbL hp]
   exact h
  ·obtain⟨h1,h2⟩:=hO.step hI hp
   exact BI.run hR T hK hKo hI k (h.step hO hT hR T hK hp (hA.back (QfL N lk k _))) h1 (hT.step hO hKo hp) (by omega) hA
theorem BI.empty {s:WS}(h:BI N l lk D F s)(hR:RightG (N:Int) l)(T:Tr N l D F)(hp:s.path=[]):s.opn=[]:=by
 cases ho:s.opn with
 | nil=>rfl
 | cons p ps=>
  obtain⟨k,u,w,h1,h2,h3,h4⟩:=h.a p (by rw [ho];exact List.mem_cons_self ..)
  obtain⟨hu,hw⟩:=h2.1.below hR
  have:=T.pos u hu
  have:=h2.2
  obtain⟨y,hy,hh⟩:=T.first hR hw (by omega)
  rcases h4 y hy with ⟨st,hst,_⟩ | h5
  ·rw [hp] at hst
   simp at hst
  ·exact absurd hh h5
theorem BI.root {s:WS}{r:Nat}(h:BI N l lk D F s)(hO:OkW N l.length C lk s)(hR:RightG (N:Int) l)(T:Tr N l D F)(hp:s.path=[])(hr:r<N)(hs:s.depth.getD r 0<0)
  (hA:Agr N D F { s with root:=s.root.set r (r:Int),from_:=s.from_.set r (-1),depth:=s.depth.set r 0,path:=s.path++[⟨(r:Int),-1,0,0,0⟩] }) :
  BI N l lk D F { s with root:=s.root.set r (r:Int),from_:=s.from_.set r (-1),depth:=s.depth.set r 0,path:=s.path++[⟨(r:Int),-1,0,0,0⟩] }:=by
 have ho:=h.empty hR T hp
 have hnr:¬ seen s r:=fun e=>by unfold seen at e;omega
 obtain⟨s',hs'⟩:∃ s':WS,s'={ s with root:=s.root.set r (r:Int),from_:=s.from_.set r (-1),depth:=s.depth.set r 0,path:=s.path++[⟨(r:Int),-1,0,0,0⟩] }:=⟨_,rfl⟩
 rw [← hs'] at hA ⊢
 have pP:s'.path=[⟨(r:Int),-1,0,0,0⟩]:=by rw [hs'];show s.path++_=_;rw [hp];rfl
 have pO:s'.opn=[]:=by rw [hs'];exact ho
 have pB:s'.block=s.block:=by rw [hs']
 have pD:∀ z,s'.depth.getD z 0=if r=z then 0 else s.depth.getD z 0:=fun z=>by
  rw [hs']
  show (s.depth.set r 0).getD z 0=_
  rw [Qao,hO.lenD]
  by_cases e:r=z
  ·rw [if_pos ⟨e,hr⟩,if_pos e]
  ·rw [if_neg (fun a=>e a.1),if_neg e]
 have pF:s'.from_.getD r 0 = -1:=by
  rw [hs']
  show (s.from_.set r _).getD r 0=_
  rw [Qao,hO.lenF,if_pos ⟨rfl,hr⟩]
 have hsr:seen s' r:=by unfold seen;rw [pD,if_pos rfl];exact Int.le_refl 0
 have hup:∀ z,seen s z→seen s' z:=fun z hz=>by
  unfold seen at hz ⊢
  rw [pD]
  split
  ·omega
  ·exact hz
 have hdn:∀ z,seen s' z→z≠r→seen s z:=fun z hz hne=>by
  unfold seen at hz ⊢
  rw [pD,if_neg (fun e=>hne e.symm)] at hz
  exact hz
 have h0:∀ {i:Nat} {st:Stp},s'.path[i]? = some st→i=0∧st=⟨(r:Int),-1,0,0,0⟩:=fun {i st} hi=>by
  rw [pP] at hi
  have:=(YE hi).1
  rw [List.length_singleton] at this
  have e:i=0:=by omega
  subst e
  exact⟨rfl,(Option.some.inj hi).symm⟩
 refine⟨hA,fun st hst=>?_,fun i st st' h1 h2=>?_,fun p hp1=>?_,fun i st h1 k u w hk hm=>?_,fun i st h1 k u w hk hm=>?_,fun i st h1=>?_,fun i st h1=>?_,fun w hw hsw j y k hj hlt=>?_⟩
 ·obtain⟨_,rfl⟩:=h0 hst
  show F.getD r 0 = -1
  rw [← (hA r hr hsr).2]
  exact pF
 ·have:=(h0 h2).1
  omega
 ·rw [pO] at hp1
  simp at hp1
 ·rw [pO] at hm
  simp at hm
 ·rw [pO] at hm
  simp at hm
 ·have:=(h0 h1).1
  omega
 ·have:=(h0 h1).1
  omega
 ·by_cases hwr:w=r
  ·subst hwr
   exact .inl ⟨⟨(w:Int),-1,0,0,0⟩,by rw [pP];simp,rfl,YN⟩
  ·rcases h.f w hw (hdn w hsw hwr) j y k hj hlt with ⟨st,hst,_⟩ | h1 | ⟨hd,b,q,h1,h2,h3,h4⟩
   ·rw [hp] at hst
    simp at hst
   ·rw [ho] at h1
    simp at h1
   ·refine .inr (.inr ⟨hd,b,q,h1,?_,hup hd h3,by rw [pB];exact h4⟩)
    rintro⟨st,hst,e1⟩
    rw [pP] at hst
    obtain rfl:=YF hst
    have:hd=r:=by
     have e2:(r:Int)=(hd:Int):=e1
     omega
    subst this
    exact hnr h3
theorem BI.start (hR:RightG (N:Int) l)(T:Tr N l D F)(hK:LinksP N l lk)(hKo:LinksOK N l lk)(hI:QaS N l.length lk){s:WS}{r:Nat}(h:BI N l lk D F s)(hO:OkW N l.length C lk s)(hT:TreeI N l lk s)(hp:s.path=[])(hr:r<N)(hA:Agr N D F (Qas lk C s r)):BI N l lk D F (Qas lk C s r):=by
 unfold Qas at hA ⊢
 split
 ·exact h
 ·rename_i hn
  rw [if_neg hn] at hA
  refine BI.run hR T hK hKo hI C (h.root hO hR T hp hr (by omega) (hA.back (QfL N lk C _))) (hO.root hp hr (by omega)) (hT.root hKo hp hr (by omega)) ?_ hA
  have:=QcR hO hp hr (by omega)
  have:=hO.bo
  omega
end
theorem QkG {N:Nat}{l:List Ed}(hR:RightG (N:Int) l):∀ k,k≤N→BI N l (Qay N l) (walkW N l).depth (walkW N l).from_ ((List.range k).foldl (Qas (Qay N l) (4*(N+l.length)+4)) (Qak N l.length))
 | 0,_=>by
  have hns:∀ v,v<N→¬ seen (Qak N l.length) v:=fun v hv h=>by
   unfold seen Qak at h
   simp [hv] at h
  exact⟨fun v hv h=>absurd h (hns v hv),fun st hst=>by simp [Qak] at hst,fun i st st' hst=>by simp [Qak] at hst,fun p hp=>by simp [Qak] at hp,fun i st hst=>by simp [Qak] at hst,fun i st hst=>by simp [Qak] at hst,fun i st hst=>by simp [Qak] at hst,fun i st hst=>by simp [Qak] at hst,fun w hw h=>absurd h (hns w hw)⟩
 | k+1,hk=>by
  obtain⟨h1,h2⟩:=Qct hR k (by omega)
  have ih:=QkG hR k (by omega)
  have hT:=QcF hR k (by omega)
  have hA:Agr N (walkW N l).depth (walkW N l).from_ ((List.range (k+1)).foldl (Qas (Qay N l) (4*(N+l.length)+4)) (Qak N l.length)):=by
   have e:List.range N=List.range (k+1)++(List.range (N-(k+1))).map (k+1 + ·):=by
    rw [← List.range_add]
    congr 1
    omega
   have hm:Mon N ((List.range (k+1)).foldl (Qas (Qay N l) (4*(N+l.length)+4)) (Qak N l.length)) (walkW N l):=by
    unfold walkW
    rw [e,List.foldl_append]
    exact Qjg _ _ _ _ _
   exact fun v hv hs=>⟨(hm v hv hs).1.symm,(hm v hv hs).2.symm⟩
  rw [List.range_succ,List.foldl_append] at hA ⊢
  exact BI.start hR (Qdg hR) (Ql7 hR) (QdZ hR) (Qc3 hR) ih h1 hT h2 (by omega) hA
theorem Qng {N:Nat}{l:List Ed}(hR:RightG (N:Int) l){k u w:Nat}(h:EdP l (walkW N l).depth k u w):∃ hd b q:Nat,HeadOf l (walkW N l).depth (walkW N l).from_ hd w∧(walkW N l).block.getD k 0=(b:Int)∧(walkW N l).from_.getD hd 0=(q:Int)∧EdP l (walkW N l).depth b q hd:=by
 have hB:BI N l (Qay N l) (walkW N l).depth (walkW N l).from_ (walkW N l):=QkG hR N YA
 have hp:(walkW N l).path=[]:=(Qct hR N YA).2
 have hA:=QcH hR N YA
 obtain⟨hu,hw⟩:=h.1.below hR
 obtain⟨j,hj⟩:=List.getElem?_of_mem ((Ql7 hR).full k w u hw h.1.symm)
 rcases hB.f w hw (hA.upto w hw) j u k hj h.2 with ⟨st,hst,_⟩ | h1 | ⟨hd,b,q,h1,_,_,h2,h3,h4⟩
 ·rw [hp] at hst
  simp at hst
 ·rw [hB.empty hR (Qdg hR) hp] at h1
  simp at h1
 ·exact⟨hd,b,q,h1,h2,h3,h4⟩
end Go.Proofs.YtalflecmadacaaaGreat
