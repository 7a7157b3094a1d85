import Derived.Test.YtalflecmadacaaaGreatZAD
import Derived.Test.YtalflecmadacaaaGreatZAE
import Derived.Test.YtalflecmadacaaaGreatZAC
set_option maxRecDepth 100000
set_option maxHeartbeats 8000000
namespace Go.Proofs.YtalflecmadacaaaGreat
open Go Go.Proofs
theorem Qav (l:List Int)(i j:Nat)(x:Int):(l.set i x).getD j 0=if i=j∧i<l.length then x else l.getD j 0:=by
 rw [YC,List.getElem?_set]
 by_cases h:i=j
 ·subst h
  by_cases hl:i<l.length
  ·rw [if_pos rfl,if_pos hl,if_pos ⟨rfl,hl⟩];rfl
  ·rw [if_pos rfl,if_neg hl,if_neg (fun h=>hl h.2),YC,YL (by omega)]
 ·rw [if_neg h,if_neg (fun e=>h e.1),YC]
def seen (s:WS)(v:Nat):Prop:=0≤s.depth.getD v 0
structure RunI (N:Nat)(l:List Ed)(lk:List (List (Int × Int)))(s0:WS)(r:Nat)(s:WS):Prop where
 lenD:s.depth.length=N
 lenR:s.root.length=N
 old:∀ v,v<N→seen s0 v→seen s v∧s.root.getD v 0=s0.root.getD v 0
 new:∀ v,v<N→¬ seen s0 v→seen s v→s.root.getD v 0=(r:Int)∧Conn l r v
 way:∀ st∈s.path,∃ v:Nat,st.v=(v:Int)∧v<N∧seen s v∧¬ seen s0 v∧∀ k x,k<st.next→(lk.getD v [])[k]? = some x→seen s x.1.toNat
 done:∀ v,v<N→seen s v→¬ seen s0 v→(∃ st∈s.path,st.v=(v:Int))∨∀ w,Adj l v w→seen s w
 me:seen s r
structure LinksOK (N:Nat)(l:List Ed)(lk:List (List (Int × Int))):Prop where
 ends:Ends N l
 sound:∀ v x,v<N→x∈lk.getD v []→∃ w:Nat,x.1=(w:Int)∧w<N∧Adj l v w
 full:∀ v w,v<N→Adj l v w→∃ x∈lk.getD v [],x.1.toNat=w
theorem RunI.same {N:Nat}{l:List Ed}{lk:List (List (Int × Int))}{s0:WS}{r:Nat}{s s':WS}(h:RunI N l lk s0 r s)(hD:s'.depth=s.depth)(hR:s'.root=s.root)
  (h1:∀ st∈s'.path,∃ v:Nat,st.v=(v:Int)∧v<N∧seen s v∧¬ seen s0 v∧∀ k x,k<st.next→(lk.getD v [])[k]? = some x→seen s x.1.toNat)
  (h2:∀ v,v<N→seen s v→¬ seen s0 v→(∃ st∈s'.path,st.v=(v:Int))∨∀ w,Adj l v w→seen s w):RunI N l lk s0 r s':=by
 have hs:∀ v,seen s' v↔seen s v:=fun v=>by unfold seen;rw [hD]
 refine⟨by rw [hD];exact h.lenD,by rw [hR];exact h.lenR,?_,?_,?_,?_,(hs r).2 h.me⟩
 ·intro v hv h0
  rw [hs,hR]
  exact h.old v hv h0
 ·intro v hv h0 h3
  rw [hR]
  exact h.new v hv h0 ((hs v).1 h3)
 ·intro st hst
  obtain⟨v,a,b,c,d,e⟩:=h1 st hst
  exact⟨v,a,b,(hs v).2 c,d,fun k x hk hx=>(hs _).2 (e k x hk hx)⟩
 ·intro v hv h3 h0
  rcases h2 v hv ((hs v).1 h3) h0 with h4 | h4
  ·exact .inl h4
  ·exact .inr fun w hw=>(hs w).2 (h4 w hw)
theorem QcN {s:WS}{top:Stp}(h:s.path.getLast? = some top):s.path=s.path.dropLast++[top]:=by
 obtain⟨h1,h2⟩:=List.getLast?_eq_some_iff.1 h
 rw [h2]
 simp
theorem RunI.leave {N:Nat}{l:List Ed}{lk:List (List (Int × Int))}{s0:WS}{r:Nat}{s:WS}{init:List Stp}{top:Stp}(h:RunI N l lk s0 r s)(hK:LinksOK N l lk)(hp:s.path=init++[top])(hn:top.next=(lk.getD top.v.toNat []).length):RunI N l lk s0 r (Qay s init top):=by
 have hmem:∀ st∈init,st∈s.path:=fun st hst=>by rw [hp];exact List.mem_append_left _ hst
 have hdone:∀ v,v<N→seen s v→¬ seen s0 v→(∃ st∈init,st.v=(v:Int))∨∀ w,Adj l v w→seen s w:=by
  intro v hv h3 h0
  rcases h.done v hv h3 h0 with ⟨st,hst,e⟩ | h4
  ·rw [hp] at hst
   rcases YJ hst with hst | hst
   ·exact .inl ⟨st,hst,e⟩
   ·obtain rfl:=YF hst
    refine .inr fun w hw=>?_
    obtain⟨v',e1,hv',_,_,hall⟩:=h.way st (by rw [hp];simp)
    have:v'=v:=by omega
    subst this
    obtain⟨x,hx,hxw⟩:=hK.full v' w hv' hw
    obtain⟨k,hk⟩:=List.getElem?_of_mem hx
    have hkl:=(YE hk).1
    rw [e1,YM] at hn
    have:=hall k x (by omega) hk
    rwa [hxw] at this
  ·exact .inr h4
 unfold Qay
 cases hl:init.getLast? with
 | none=>
  have hi:init=[]:=List.getLast?_eq_none_iff.1 hl
  refine h.same rfl rfl (fun st hst=>by simp at hst) ?_
  intro v hv h3 h0
  rcases hdone v hv h3 h0 with ⟨st,hst,_⟩ | h4
  ·rw [hi] at hst;simp at hst
  ·exact .inr h4
 | some t2=>
  obtain⟨ys,hys⟩:=List.getLast?_eq_some_iff.1 hl
  have hdl:init.dropLast=ys:=by rw [hys];simp
  simp only
  split
  ·refine h.same rfl rfl ?_ ?_
   ·intro st hst
    simp only [hdl] at hst
    rcases YJ hst with hst | hst
    ·exact h.way st (hmem st (by rw [hys];exact List.mem_append_left _ hst))
    ·obtain rfl:=YF hst
     exact h.way t2 (hmem t2 (by rw [hys];simp))
   ·intro v hv h3 h0
    rcases hdone v hv h3 h0 with ⟨st,hst,e⟩ | h4
    ·refine .inl ?_
     rw [hys] at hst
     rcases YJ hst with hst | hst
     ·exact⟨st,by simp only [hdl];exact List.mem_append_left _ hst,e⟩
     ·obtain rfl:=YF hst
      exact⟨{ st with low:=min st.low top.low },by simp only [hdl];exact List.mem_append_right _ (List.mem_singleton.2 rfl),e⟩
    ·exact .inr h4
  ·exact h.same rfl rfl (fun st hst=>h.way st (hmem st hst)) hdone
theorem RunI.look {N:Nat}{l:List Ed}{lk:List (List (Int × Int))}{s0:WS}{r:Nat}{s:WS}{init:List Stp}{top:Stp}{x:Int × Int}(h:RunI N l lk s0 r s)(hK:LinksOK N l lk)(hp:s.path=init++[top])(hx:(lk.getD top.v.toNat [])[top.next]? = some x):RunI N l lk s0 r (lookW s init { top with next:=top.next+1 } x):=by
 have hmem:∀ st∈init,st∈s.path:=fun st hst=>by rw [hp];exact List.mem_append_left _ hst
 obtain⟨v,ev,hv,hsv,h0v,hall⟩:=h.way top (by rw [hp];simp)
 have hx':=hx
 rw [ev,YM] at hx'
 obtain⟨w,ew,hw,hadj⟩:=hK.sound v x hv (YK hx')
 have ewt:x.1.toNat=w:=by rw [ew];rfl
 have evt:top.v.toNat=v:=by rw [ev];rfl
 have hstay:seen s w→∀ t:Stp,t.v=top.v→t.next=top.next+1→∃ v:Nat,t.v=(v:Int)∧v<N∧seen s v∧¬ seen s0 v∧∀ k y,k<t.next→(lk.getD v [])[k]? = some y→seen s y.1.toNat:=by
  intro hsw t e1 e2
  refine⟨v,by rw [e1,ev],hv,hsv,h0v,fun k y hk hy=>?_⟩
  by_cases hkn:k<top.next
  ·exact hall k y hkn hy
  ·have:k=top.next:=by omega
   subst this
   rw [hx'] at hy
   cases hy
   rw [ewt]
   exact hsw
 have hback:∀ t:Stp,t.v=top.v→seen s w→t.next=top.next+1→∀ s':WS,s'.depth=s.depth→s'.root=s.root→s'.path=init++[t]→RunI N l lk s0 r s':=by
  intro t e1 hsw e2 s' hD hR hP
  refine h.same hD hR ?_ ?_
  ·intro st hst
   rw [hP] at hst
   rcases YJ hst with hst | hst
   ·exact h.way st (hmem st hst)
   ·obtain rfl:=YF hst
    exact hstay hsw st e1 e2
  ·intro y hy h3 h0
   rcases h.done y hy h3 h0 with ⟨st,hst,e⟩ | h4
   ·refine .inl ?_
    rw [hp] at hst
    rcases YJ hst with hst | hst
    ·exact⟨st,by rw [hP];exact List.mem_append_left _ hst,e⟩
    ·obtain rfl:=YF hst
     exact⟨t,by rw [hP];simp,by rw [e1];exact e⟩
   ·exact .inr h4
 unfold lookW
 have hat:at_ s.depth x.1=s.depth.getD w 0:=by unfold at_;rw [ewt]
 have hat2:at_ s.depth top.v=s.depth.getD v 0:=by unfold at_;rw [evt]
 have hat3:at_ s.root top.v=s.root.getD v 0:=by unfold at_;rw [evt]
 simp only [hat,hat2,hat3,ewt]
 by_cases hneg:s.depth.getD w 0<0
 ·rw [if_pos hneg]
  have hsw:¬ seen s w:=fun e=>by unfold seen at e;omega
  have h0w:¬ seen s0 w:=fun e=>hsw (h.old w hw e).1
  have hne:w≠v:=fun e=>by subst e;exact hsw hsv
  have hd:∀ y,(s.depth.set w (s.depth.getD v 0+1)).getD y 0=if w=y then s.depth.getD v 0+1 else s.depth.getD y 0:=fun y=>by
   rw [Qav,h.lenD]
   by_cases e:w=y
   ·rw [if_pos ⟨e,hw⟩,if_pos e]
   ·rw [if_neg (fun a=>e a.1),if_neg e]
  have hr:∀ y,(s.root.set w (s.root.getD v 0)).getD y 0=if w=y then s.root.getD v 0 else s.root.getD y 0:=fun y=>by
   rw [Qav,h.lenR]
   by_cases e:w=y
   ·rw [if_pos ⟨e,hw⟩,if_pos e]
   ·rw [if_neg (fun a=>e a.1),if_neg e]
  have hup:∀ y,seen s y→0≤(s.depth.set w (s.depth.getD v 0+1)).getD y 0:=fun y hy=>by
   rw [hd]
   split
   ·unfold seen at hsv;omega
   ·exact hy
  have hnw:0≤(s.depth.set w (s.depth.getD v 0+1)).getD w 0:=by
   rw [hd,if_pos rfl]
   unfold seen at hsv
   omega
  have hdn:∀ y,0≤(s.depth.set w (s.depth.getD v 0+1)).getD y 0→y≠w→seen s y:=fun y hy hne=>by
   rw [hd,if_neg (fun e=>hne e.symm)] at hy
   exact hy
  obtain⟨hrv,hcv⟩:=h.new v hv h0v hsv
  refine⟨by simpa using h.lenD,by simpa using h.lenR,?_,?_,?_,?_,hup r h.me⟩
  ·intro y hy h0
   obtain⟨h3,h4⟩:=h.old y hy h0
   refine⟨hup y h3,?_⟩
   show (s.root.set w (s.root.getD v 0)).getD y 0=_
   rw [hr,if_neg (fun e=>by subst e;exact hsw h3)]
   exact h4
  ·intro y hy h0 h3
   show (s.root.set w (s.root.getD v 0)).getD y 0=_∧_
   rw [hr]
   by_cases e:w=y
   ·subst e
    rw [if_pos rfl]
    exact⟨hrv,hcv.trans (.one hadj)⟩
   ·rw [if_neg e]
    exact h.new y hy h0 (hdn y h3 (fun a=>e a.symm))
  ·intro st hst
   rcases YJ hst with hst | hst
   ·rcases YJ hst with hst | hst
    ·obtain⟨y,a1,a2,a3,a4,a5⟩:=h.way st (hmem st hst)
     exact⟨y,a1,a2,hup y a3,a4,fun k z hk hz=>hup _ (a5 k z hk hz)⟩
    ·obtain rfl:=YF hst
     refine⟨v,ev,hv,hup v hsv,h0v,fun k z hk hz=>?_⟩
     by_cases hkn:k<top.next
     ·exact hup _ (hall k z hkn hz)
     ·have hk':k<top.next+1:=hk
      have:k=top.next:=by omega
      subst this
      rw [hx'] at hz
      cases hz
      rw [ewt]
      exact hnw
   ·obtain rfl:=YF hst
    exact⟨w,ew,hw,hnw,h0w,fun k z hk=>by simp at hk⟩
  ·intro y hy h3 h0
   by_cases e:y=w
   ·subst e
    exact .inl ⟨⟨x.1,x.2,0,s.depth.getD v 0,s.opn.length⟩,List.mem_append_right _ (List.mem_singleton.2 rfl),ew⟩
   ·rcases h.done y hy (hdn y h3 e) h0 with ⟨st,hst,e2⟩ | h4
    ·refine .inl ?_
     rw [hp] at hst
     rcases YJ hst with hst | hst
     ·exact⟨st,List.mem_append_left _ (List.mem_append_left _ hst),e2⟩
     ·obtain rfl:=YF hst
      exact⟨{ st with next:=st.next+1 },List.mem_append_left _ (List.mem_append_right _ (List.mem_singleton.2 rfl)),e2⟩
    ·exact .inr fun z hz=>hup z (h4 z hz)
 ·rw [if_neg hneg]
  have hsw:seen s w:=by unfold seen;omega
  split
  ·exact hback { top with next:=top.next+1,low:=min top.low (s.depth.getD w 0) } rfl hsw rfl _ rfl rfl rfl
  ·exact hback { top with next:=top.next+1 } rfl hsw rfl _ rfl rfl rfl
theorem RunI.step {N:Nat}{l:List Ed}{lk:List (List (Int × Int))}{s0:WS}{r:Nat}{s:WS}(h:RunI N l lk s0 r s)(hK:LinksOK N l lk)(hN:∀ st∈s.path,st.next≤(lk.getD st.v.toNat []).length):RunI N l lk s0 r (stepW lk s):=by
 unfold stepW
 cases hl:s.path.getLast? with
 | none=>exact h
 | some top=>
  have hp:=QcN hl
  simp only
  split
  ·rename_i hn
   exact h.leave hK hp hn
  ·rename_i hn
   have hle:=hN top (by rw [hp];simp)
   have hlt:top.next<(lk.getD top.v.toNat []).length:=by omega
   have hx:=YB hlt
   have e:(lk.getD top.v.toNat []).getD top.next (0,0)=(lk.getD top.v.toNat [])[top.next]:=by rw [YC,hx];rfl
   rw [e]
   exact h.look hK hp hx
def degW (lk:List (List (Int × Int)))(v:Int):Nat:=(lk.getD v.toNat []).length
def Qdc (lk:List (List (Int × Int)))(s:WS):Prop:=∀ st∈s.path,st.next≤degW lk st.v
def Qax (lk:List (List (Int × Int)))(P:List Stp):Nat:=(P.map fun st=>2*(degW lk st.v-st.next)+1).sum
def sumN (f:Nat→Nat):Nat→Nat
 | 0=>0
 | n+1=>sumN f n+f n
theorem QeY {f g:Nat→Nat}:∀ {n:Nat},(∀ v,v<n→g v=f v)→sumN g n=sumN f n
 | 0,_=>rfl
 | n+1,h=>by rw [sumN,sumN,QeY (fun v hv=>h v (by omega)),h n (by omega)]
theorem Qd5 {f g:Nat→Nat}{w:Nat}:∀ {n:Nat},w<n→(∀ v,v≠w→g v=f v)→sumN g n+f w=sumN f n+g w
 | 0,h,_=>by omega
 | n+1,h,hv=>by
  rw [sumN,sumN]
  by_cases e:w=n
  ·subst e
   have:=QeY (f:=f) (g:=g) (n:=w) (fun v hv'=>hv v (by omega))
   omega
  ·have:=Qd5 (f:=f) (g:=g) (w:=w) (n:=n) (by omega) hv
   have:=hv n (fun a=>e a.symm)
   omega
def QaF (lk:List (List (Int × Int)))(N:Nat)(D:List Int):Nat:=sumN (fun v=>if D.getD v 0<0 then (lk.getD v []).length+1 else 0) N
def pot (lk:List (List (Int × Int)))(N:Nat)(s:WS):Nat:=2*QaF lk N s.depth+Qax lk s.path
theorem QaV (lk:List (List (Int × Int)))(P Q:List Stp):Qax lk (P++Q)=Qax lk P+Qax lk Q:=by simp [Qax]
theorem QaE (lk:List (List (Int × Int)))(st:Stp):Qax lk [st]=2*(degW lk st.v-st.next)+1:=by simp [Qax]
theorem Qcf {lk:List (List (Int × Int))}{N:Nat}{s:WS}{init:List Stp}{top:Stp}(hp:s.path=init++[top]):pot lk N (Qay s init top)+1≤pot lk N s:=by
 have h1:Qax lk s.path=Qax lk init+Qax lk [top]:=by rw [hp,QaV]
 rw [QaE] at h1
 unfold pot Qay
 cases hl:init.getLast? with
 | none=>
  have hi:init=[]:=List.getLast?_eq_none_iff.1 hl
  subst hi
  simp only
  have:Qax lk []=0:=rfl
  omega
 | some t2=>
  obtain⟨ys,hys⟩:=List.getLast?_eq_some_iff.1 hl
  have hdl:init.dropLast=ys:=by rw [hys];simp
  have h2:Qax lk init=Qax lk ys+Qax lk [t2]:=by rw [hys,QaV]
  simp only
  split
  ·simp only [hdl]
   rw [QaV,QaE]
   rw [QaE] at h2
   simp only
   omega
  ·simp only
   omega
theorem Qfb {lk:List (List (Int × Int))}{s:WS}{init:List Stp}{top:Stp}(h:Qdc lk s)(hp:s.path=init++[top]):Qdc lk (Qay s init top):=by
 have hi:∀ st∈init,st.next≤degW lk st.v:=fun st hst=>h st (by rw [hp];exact List.mem_append_left _ hst)
 unfold Qay
 cases hl:init.getLast? with
 | none=>intro st hst;simp at hst
 | some t2=>
  obtain⟨ys,hys⟩:=List.getLast?_eq_some_iff.1 hl
  have hdl:init.dropLast=ys:=by rw [hys];simp
  simp only
  split
  ·intro st hst
   simp only [hdl] at hst
   rcases YJ hst with hst | hst
   ·exact hi st (by rw [hys];exact List.mem_append_left _ hst)
   ·obtain rfl:=YF hst
    exact hi t2 (by rw [hys];simp)
  ·exact hi
theorem Qcc {lk:List (List (Int × Int))}{N:Nat}{D:List Int}{w:Nat}{d:Int}(hD:D.length=N)(hw:w<N)(hneg:D.getD w 0<0)(hd:0≤d):QaF lk N (D.set w d)+((lk.getD w []).length+1)=QaF lk N D:=by
 have hch:=Qd5 (f:=fun v=>if D.getD v 0<0 then (lk.getD v []).length+1 else 0) (g:=fun v=>if (D.set w d).getD v 0<0 then (lk.getD v []).length+1 else 0) (w:=w) (n:=N) hw (fun v hne=>by
  have e:(D.set w d).getD v 0=D.getD v 0:=by rw [Qav,if_neg (fun a=>hne a.1.symm)]
  show (if (D.set w d).getD v 0<0 then (lk.getD v []).length+1 else 0)=if D.getD v 0<0 then (lk.getD v []).length+1 else 0
  rw [e])
 have eg:(D.set w d).getD w 0=d:=by rw [Qav,if_pos ⟨rfl,by omega⟩]
 have e1:(if (D.set w d).getD w 0<0 then (lk.getD w []).length+1 else 0)=0:=by rw [eg,if_neg (by omega)]
 have e2:(if D.getD w 0<0 then (lk.getD w []).length+1 else 0)=(lk.getD w []).length+1:=if_pos hneg
 have h3:QaF lk N (D.set w d)+(if D.getD w 0<0 then (lk.getD w []).length+1 else 0)=QaF lk N D+(if (D.set w d).getD w 0<0 then (lk.getD w []).length+1 else 0):=hch
 rw [e1,e2] at h3
 exact h3
theorem QcZ {lk:List (List (Int × Int))}{N:Nat}{s:WS}{init:List Stp}{top:Stp}{x:Int × Int}(hp:s.path=init++[top])(hlt:top.next<degW lk top.v)(hD:s.depth.length=N)(hw:x.1.toNat<N)(hv:0≤at_ s.depth top.v):
  pot lk N (lookW s init { top with next:=top.next+1 } x)+1≤pot lk N s:=by
 have h1:Qax lk s.path=Qax lk init+(2*(degW lk top.v-top.next)+1):=by rw [hp,QaV,QaE]
 unfold lookW
 by_cases hneg:at_ s.depth x.1<0
 ·rw [if_pos hneg]
  unfold pot
  simp only
  rw [QaV,QaV,QaE,QaE]
  simp only
  have e1:=Qcc (lk:=lk) hD hw hneg (d:=at_ s.depth top.v+1) (by omega)
  have e2:degW lk x.1=(lk.getD x.1.toNat []).length:=rfl
  omega
 ·rw [if_neg hneg]
  split
  ·unfold pot
   simp only
   rw [QaV,QaE]
   simp only
   omega
  ·unfold pot
   simp only
   rw [QaV,QaE]
   simp only
   omega
theorem QgJ {lk:List (List (Int × Int))}{s:WS}{init:List Stp}{top:Stp}{x:Int × Int}(h:Qdc lk s)(hp:s.path=init++[top])(hlt:top.next<degW lk top.v):Qdc lk (lookW s init { top with next:=top.next+1 } x):=by
 have hi:∀ st∈init,st.next≤degW lk st.v:=fun st hst=>h st (by rw [hp];exact List.mem_append_left _ hst)
 have one:∀ t:Stp,t.v=top.v→t.next=top.next+1→t.next≤degW lk t.v:=fun t e1 e2=>by rw [e1,e2];omega
 unfold lookW
 split
 ·intro st hst
  rcases YJ hst with hst | hst
  ·rcases YJ hst with hst | hst
   ·exact hi st hst
   ·obtain rfl:=YF hst
    exact one _ rfl rfl
  ·obtain rfl:=YF hst
   exact YN
 ·split
  ·intro st hst
   rcases YJ hst with hst | hst
   ·exact hi st hst
   ·obtain rfl:=YF hst
    exact one _ rfl rfl
  ·intro st hst
   rcases YJ hst with hst | hst
   ·exact hi st hst
   ·obtain rfl:=YF hst
    exact one _ rfl rfl
theorem QmB {N:Nat}{l:List Ed}{lk:List (List (Int × Int))}{s0:WS}{r:Nat}{s:WS}(h:RunI N l lk s0 r s)(hK:LinksOK N l lk)(hN:Qdc lk s)(hne:s.path≠[]):RunI N l lk s0 r (stepW lk s)∧Qdc lk (stepW lk s)∧pot lk N (stepW lk s)+1≤pot lk N s:=by
 refine⟨h.step hK hN,?_⟩
 unfold stepW
 cases hl:s.path.getLast? with
 | none=>exact absurd (List.getLast?_eq_none_iff.1 hl) hne
 | some top=>
  have hp:=QcN hl
  simp only
  split
  ·exact⟨Qfb hN hp,Qcf hp⟩
  ·rename_i hn
   have hle:=hN top (by rw [hp];simp)
   have hlt:top.next<degW lk top.v:=by unfold degW at hle ⊢;omega
   have hx:=YB (l:=lk.getD top.v.toNat []) hlt
   have e:(lk.getD top.v.toNat []).getD top.next (0,0)=(lk.getD top.v.toNat [])[top.next]:=by rw [YC,hx];rfl
   obtain⟨v,ev,hv,hsv,_,_⟩:=h.way top (by rw [hp];simp)
   have evt:top.v.toNat=v:=by rw [ev];rfl
   obtain⟨w,ew,hw,_⟩:=hK.sound v ((lk.getD top.v.toNat [])[top.next]) hv (by rw [← evt];exact YG hlt)
   rw [e]
   exact⟨QgJ hN hp hlt,QcZ hp hlt h.lenD (by rw [ew];exact hw) (by unfold at_;rw [evt];exact hsv)⟩
theorem QcE {lk:List (List (Int × Int))}{s:WS}(hp:s.path=[]):stepW lk s=s:=by
 unfold stepW
 rw [hp]
 rfl
theorem QcF {lk:List (List (Int × Int))}{s:WS}(hp:s.path=[]):∀ k,runW lk k s=s
 | 0=>rfl
 | k+1=>by rw [runW,QcE hp,QcF hp k]
theorem QkB {N:Nat}{l:List Ed}{lk:List (List (Int × Int))}{s0:WS}{r:Nat}(hK:LinksOK N l lk):∀ (k:Nat) {s:WS},RunI N l lk s0 r s→Qdc lk s→pot lk N s≤k→RunI N l lk s0 r (runW lk k s)∧(runW lk k s).path=[]
 | 0,s,h,_,hk=>by
  refine⟨h,?_⟩
  cases hp:s.path with
  | nil=>exact hp
  | cons st P=>
   have:Qax lk s.path=(2*(degW lk st.v-st.next)+1)+Qax lk P:=by rw [hp];simp [Qax]
   unfold pot at hk
   omega
 | k+1,s,h,hN,hk=>by
  rw [runW]
  by_cases hp:s.path=[]
  ·rw [QcE hp,QcF hp]
   exact⟨h,hp⟩
  ·obtain⟨h1,h2,h3⟩:=QmB h hK hN hp
   exact QkB hK k h1 h2 (by omega)
structure WalkI (N:Nat)(l:List Ed)(k:Nat)(s:WS):Prop where
 lenD:s.depth.length=N
 lenR:s.root.length=N
 path:s.path=[]
 upto:∀ v,v<k→seen s v
 closed:∀ v w,v<N→seen s v→Adj l v w→seen s w
 least:∀ v,v<N→seen s v→∃ x:Nat,s.root.getD v 0=(x:Int)∧x<N∧Conn l v x∧∀ u,u<N→Conn l v u→x≤u
theorem WalkI.conn {N:Nat}{l:List Ed}{k:Nat}{s:WS}(h:WalkI N l k s)(hE:Ends N l){v u:Nat}(hc:Conn l v u):v<N→seen s v→seen s u:=by
 induction hc using Conn.ind with
 | refl=>exact fun _ h=>h
 | step ha _ ih=>exact fun hv hs=>ih (Qbn hE ha).2 (h.closed _ _ hv hs ha)
theorem Qkw {N:Nat}{l:List Ed}{lk:List (List (Int × Int))}(hK:LinksOK N l lk){fuel k:Nat}{s:WS}(h:WalkI N l k s)(hk:k<N)(hf:∀ D:List Int,2*QaF lk N D≤fuel):WalkI N l (k+1) (QaC lk fuel s k):=by
 unfold QaC
 split
 ·rename_i hs
  refine⟨h.lenD,h.lenR,h.path,fun v hv=>?_,h.closed,h.least⟩
  by_cases e:v=k
  ·subst e;exact hs
  ·exact h.upto v (by omega)
 ·rename_i hs
  have hns:¬ seen s k:=hs
  obtain⟨s1,hs1⟩:∃ s1:WS,s1={ s with root:=s.root.set k (k:Int),from_:=s.from_.set k (-1),depth:=s.depth.set k 0,path:=s.path++[(⟨(k:Int),-1,0,0,0⟩:Stp)] }:=⟨_,rfl⟩
  rw [← hs1]
  have hd:∀ y,s1.depth.getD y 0=if k=y then 0 else s.depth.getD y 0:=fun y=>by
   rw [hs1]
   show (s.depth.set k 0).getD y 0=_
   rw [Qav,h.lenD]
   by_cases e:k=y
   ·rw [if_pos ⟨e,hk⟩,if_pos e]
   ·rw [if_neg (fun a=>e a.1),if_neg e]
  have hr:∀ y,s1.root.getD y 0=if k=y then (k:Int) else s.root.getD y 0:=fun y=>by
   rw [hs1]
   show (s.root.set k (k:Int)).getD y 0=_
   rw [Qav,h.lenR]
   by_cases e:k=y
   ·rw [if_pos ⟨e,hk⟩,if_pos e]
   ·rw [if_neg (fun a=>e a.1),if_neg e]
  have hp1:s1.path=[⟨(k:Int),-1,0,0,0⟩]:=by rw [hs1];show s.path++_=_;rw [h.path];rfl
  have hI:RunI N l lk s k s1:=by
   refine⟨by rw [hs1];simpa using h.lenD,by rw [hs1];simpa using h.lenR,?_,?_,?_,?_,by unfold seen;rw [hd,if_pos rfl];exact Int.le_refl _⟩
   ·intro v hv h0
    have hne:k≠v:=fun e=>by subst e;exact hns h0
    unfold seen
    rw [hd,hr,if_neg hne,if_neg hne]
    exact⟨h0,rfl⟩
   ·intro v hv h0 h1
    by_cases e:k=v
    ·subst e
     rw [hr,if_pos rfl]
     exact⟨rfl,.refl _⟩
    ·unfold seen at h1
     rw [hd,if_neg e] at h1
     exact absurd h1 h0
   ·intro st hst
    rw [hp1] at hst
    obtain rfl:=YF hst
    exact⟨k,rfl,hk,by unfold seen;rw [hd,if_pos rfl];exact Int.le_refl _,hns,fun q x hq=>by simp at hq⟩
   ·intro v hv h1 h0
    by_cases e:k=v
    ·subst e
     exact .inl ⟨_,by rw [hp1];exact List.mem_singleton.2 rfl,rfl⟩
    ·unfold seen at h1
     rw [hd,if_neg e] at h1
     exact absurd h1 h0
  have hN1:Qdc lk s1:=by
   intro st hst
   rw [hp1] at hst
   obtain rfl:=YF hst
   exact YN
  have hpot:pot lk N s1≤fuel:=by
   have hneg:s.depth.getD k 0<0:=by unfold seen at hns;omega
   have e1:=Qcc (lk:=lk) h.lenD hk hneg (d:=0) (Int.le_refl _)
   have e2:s1.depth=s.depth.set k 0:=by rw [hs1]
   have e3:Qax lk s1.path=2*(lk.getD k []).length+1:=by
    rw [hp1,QaE]
    rfl
   have:=hf s.depth
   unfold pot
   rw [e2,e3]
   omega
  obtain⟨hR,hpe⟩:=QkB hK fuel hI hN1 hpot
  obtain⟨t,ht⟩:∃ t,t=runW lk fuel s1:=⟨_,rfl⟩
  rw [← ht] at hR hpe ⊢
  have hsk:seen t k:=hR.me
  have hcl:∀ v w,v<N→seen t v→Adj l v w→seen t w:=by
   intro v w hv hv' ha
   by_cases h0:seen s v
   ·exact (hR.old w (Qbn hK.ends ha).2 (h.closed v w hv h0 ha)).1
   ·rcases hR.done v hv hv' h0 with ⟨st,hst,_⟩ | h4
    ·rw [hpe] at hst;simp at hst
    ·exact h4 w ha
  refine⟨hR.lenD,hR.lenR,hpe,?_,hcl,?_⟩
  ·intro v hv
   by_cases e:v=k
   ·subst e;exact hsk
   ·exact (hR.old v (by omega) (h.upto v (by omega))).1
  ·intro v hv hv'
   by_cases h0:seen s v
   ·rw [(hR.old v hv h0).2]
    exact h.least v hv h0
   ·obtain⟨e1,e2⟩:=hR.new v hv h0 hv'
    refine⟨k,e1,hk,e2.symm,fun u hu hc=>?_⟩
    by_cases huk:k≤u
    ·exact huk
    ·exact absurd (h.conn hK.ends (e2.trans hc).symm hu (h.upto u (by omega))) hns
def Least (L:List Int):Prop:=∀ v,v<L.length→∃ x:Nat,L.getD v 0=(x:Int)∧x≤v∧L.getD x 0=(x:Int)
def QaN (L:List Int)(i:Nat):List Nat:=(List.range i).filter fun v=>decide (L.getD v 0=(v:Int))
theorem rootsN_mem {L:List Int}{i v:Nat}:v∈QaN L i↔v<i∧L.getD v 0=(v:Int):=by
 unfold QaN
 rw [List.mem_filter,List.mem_range,decide_eq_true_iff]
theorem Qcl (L:List Int)(i:Nat):QaN L (i+1)=if L.getD i 0=(i:Int) then QaN L i++[i] else QaN L i:=by
 unfold QaN
 have e:List.filter (fun v=>decide (L.getD v 0=((v:Nat):Int))) [i]=if decide (L.getD i 0=(i:Int))=true then [i] else []:=by
  rw [List.filter_cons]
  rfl
 rw [List.range_succ,List.filter_append,e]
 by_cases h:L.getD i 0=(i:Int)
 ·rw [if_pos h,if_pos (decide_eq_true h)]
 ·rw [if_neg h,if_neg (by rw [decide_eq_false h];simp),List.append_nil]
theorem Qgp (L:List Int)(i:Nat):(QaN L i).Nodup:=List.Pairwise.filter _ List.nodup_range
theorem Qce (L:List Int)(N:Nat):∀ j,rcAt L N j=(QaN L j).map fun r=>memAt L r N
 | 0=>rfl
 | j+1=>by
  rw [rcAt,Qcl,Qce L N j]
  split
  ·rw [List.map_append];rfl
  ·rfl
theorem Qnr {o:List Nat}{u:Nat}(hu:u∈o):∃ k,(o.map fun (x:Nat)=>(x:Int)).idxOf (u:Int)=k∧o[k]? = some u:=by
 have hm:(u:Int)∈o.map fun (x:Nat)=>(x:Int):=List.mem_map.2 ⟨u,hu,rfl⟩
 have hlt:=List.idxOf_lt_length_iff.2 hm
 refine⟨_,rfl,?_⟩
 have h1:=List.getElem_idxOf hlt
 rw [List.getElem_map] at h1
 rw [List.length_map] at hlt
 rw [YB hlt]
 congr 1
 omega
theorem QoD {o:List Nat}(hn:o.Nodup){k u:Nat}(hk:o[k]? = some u)(f f':Nat→List Int)(h:∀ r,r≠u→f' r=f r):(o.map f).set k (f' u)=o.map f':=by
 apply List.ext_getElem?
 intro j
 rw [List.getElem?_set,List.length_map,YH,YH]
 have hkl:=(YE hk).1
 by_cases hj:k=j
 ·subst hj
  rw [if_pos rfl,if_pos hkl,hk]
  rfl
 ·rw [if_neg hj]
  cases hr:o[j]? with
  | none=>rfl
  | some r=>
   have hne:r≠u:=fun e=>by
    subst e
    have h1:=(YE hr)
    have h2:=(YE hk)
    obtain⟨a1,b1⟩:=h1
    obtain⟨a2,b2⟩:=h2
    exact hj ((List.getElem_inj hn).1 (b2.trans b1.symm))
   simp [h r hne]
theorem Qfh {L:List Int}(hL:Least L):∀ {i:Nat},i≤L.length→gath L i=((QaN L i).map (fun (x:Nat)=>(x:Int)),(QaN L i).map fun r=>memAt L r i)
 | 0,_=>rfl
 | i+1,h=>by
  have ih:=Qfh hL (i:=i) (by omega)
  obtain⟨x,hx,hxi,hxx⟩:=hL i (by omega)
  by_cases hroot:x=i
  ·subst hroot
   have hnew:L.getD x 0∉(gath L x).1:=by
    rw [ih,hx]
    intro hm
    obtain⟨r,hr,e⟩:=List.mem_map.1 hm
    have:=(rootsN_mem.1 hr).1
    omega
   rw [Qch hnew,Qcl,if_pos hx,ih,hx,List.map_append,List.map_append]
   congr 1
   congr 1
   ·refine List.map_congr_left fun r hr=>?_
    have:=(rootsN_mem.1 hr).1
    rw [QbA (by omega),if_neg (by rw [hx];omega)]
   ·show [[(x:Int)]]=[memAt L x (x+1)]
    rw [QbA YA,if_pos hx,Qet]
    rfl
  ·have hmem:x∈QaN L i:=rootsN_mem.2 ⟨by omega,hxx⟩
   obtain⟨k,hk1,hk2⟩:=Qnr hmem
   have hold:L.getD i 0∈(gath L i).1:=by
    rw [ih,hx]
    exact List.mem_map.2 ⟨x,hmem,rfl⟩
   rw [Qcg hold,Qcl,if_neg (by rw [hx];omega),ih,hx,hk1]
   congr 1
   have hg:((QaN L i).map fun r=>memAt L r i).getD k []=memAt L x i:=by
    rw [YC,YH,hk2]
    rfl
   rw [hg]
   have hnx:memAt L x i++[(i:Int)]=memAt L x (i+1):=by rw [QbA hxi,if_pos hx]
   rw [hnx]
   exact QoD (Qgp L i) hk2 (fun r=>memAt L r i) (fun r=>memAt L r (i+1)) fun r hr=>by
    by_cases hri:r≤i
    ·rw [QbA hri,if_neg (by rw [hx];omega)]
    ·unfold memAt
     rw [List.filter_eq_nil_iff.2,List.filter_eq_nil_iff.2]
     ·intro y hy
      have:=List.mem_range.1 hy
      simp
      omega
     ·intro y hy
      have:=List.mem_range.1 hy
      simp
      omega
theorem Qo5 {L:List Int}(hL:Least L):(gath L L.length).2=rcAt L L.length L.length:=by
 rw [Qfh hL YA,Qce]
theorem QdH {v:Int}{x:Int × Int}:∀ {l:List Ed} {p:Nat},x∈Qaj v p l→∃ e∈l,(e.1=v∧e.2.1=x.1)∨(e.2.1=v∧e.1=x.1)
 | [],p,h=>by simp [Qaj] at h
 | e :: l,p,h=>by
  rw [Qaj] at h
  rcases YJ h with h | h
  ·refine⟨e,List.mem_cons_self ..,?_⟩
   by_cases h1:e.1=v
   ·rw [if_pos h1] at h
    have:=YF h
    exact .inl ⟨h1,by rw [this]⟩
   ·rw [if_neg h1] at h
    by_cases h2:e.2.1=v
    ·rw [if_pos h2] at h
     have:=YF h
     exact .inr ⟨h2,by rw [this]⟩
    ·rw [if_neg h2] at h
     simp at h
  ·obtain⟨d,hd,h3⟩:=QdH h
   exact⟨d,List.mem_cons_of_mem _ hd,h3⟩
theorem Qew {v w:Int}(hne:v≠w):∀ {l:List Ed} {p:Nat} {e:Ed},e∈l→(e.1=v∧e.2.1=w)∨(e.1=w∧e.2.1=v)→∃ x∈Qaj v p l,x.1=w
 | [],p,e,h,_=>by simp at h
 | d :: l,p,e,h,he=>by
  rw [Qaj]
  rcases List.mem_cons.1 h with rfl | h
  ·rcases he with ⟨h1,h2⟩ | ⟨h1,h2⟩
   ·exact⟨(e.2.1,(p:Int)),List.mem_append_left _ (by rw [if_pos h1];exact List.mem_singleton.2 rfl),h2⟩
   ·exact⟨(e.1,(p:Int)),List.mem_append_left _ (by rw [if_neg (fun a=>hne (a.symm.trans h1)),if_pos h2];exact List.mem_singleton.2 rfl),h1⟩
  ·obtain⟨x,hx,hxw⟩:=Qew hne (p:=p+1) h he
   exact⟨x,List.mem_append_right _ hx,hxw⟩
theorem QbB {N:Nat}{l:List Ed}{v:Nat}(h:v<N):(QaJ N l).getD v []=Qaj (v:Int) 0 l:=by
 rw [YC]
 simp [QaJ,h]
theorem QfL {N:Nat}{l:List Ed}(hR:RightG (N:Int) l):LinksOK N l (QaJ N l):=by
 have hok:∀ e∈l,∃ a b:Nat,e.1=(a:Int)∧e.2.1=(b:Int)∧a<N∧b<N∧a≠b:=fun e he=>by
  have:=(hR.each e he).1
  unfold okE at this
  exact⟨e.1.toNat,e.2.1.toNat,by omega,by omega,by omega,by omega,by omega⟩
 refine⟨Qao hR,?_,?_⟩
 ·intro v x hv hx
  rw [QbB hv] at hx
  obtain⟨e,he,h⟩:=QdH hx
  obtain⟨a,b,ha,hb,haN,hbN,_⟩:=hok e he
  rcases h with ⟨h1,h2⟩ | ⟨h1,h2⟩
  ·exact⟨b,by omega,hbN,e,he,.inl ⟨by omega,by omega⟩⟩
  ·exact⟨a,by omega,haN,e,he,.inr ⟨by omega,by omega⟩⟩
 ·intro v w hv ha
  obtain⟨e,he,h⟩:=ha
  obtain⟨a,b,ha,hb,haN,hbN,hab⟩:=hok e he
  have hne:(v:Int)≠(w:Int):=by omega
  obtain⟨x,hx,hxw⟩:=Qew hne (p:=0) he (by omega)
  exact⟨x,by rw [QbB hv];exact hx,by rw [hxw];rfl⟩
theorem Qhl (a:Int):∀ N,sumN (fun v=>if a=((v:Nat):Int) then 1 else 0) N≤1∧((N:Int)≤a→sumN (fun v=>if a=((v:Nat):Int) then 1 else 0) N=0)
 | 0=>⟨YN,fun _=>rfl⟩
 | n+1=>by
  obtain⟨h1,h2⟩:=Qhl a n
  rw [sumN]
  by_cases e:a=(n:Int)
  ·rw [if_pos e]
   have:=h2 (by omega)
   exact⟨by omega,fun h=>by omega⟩
  ·rw [if_neg e]
   exact⟨by omega,fun h=>by have:=h2 (by omega);omega⟩
theorem Qhm {f g:Nat→Nat}:∀ {n:Nat},(∀ v,v<n→f v≤g v)→sumN f n≤sumN g n
 | 0,_=>YA
 | n+1,h=>by
  have:=Qhm (f:=f) (g:=g) (n:=n) (fun v hv=>h v (by omega))
  have:=h n (by omega)
  rw [sumN,sumN]
  omega
theorem QdN (f g:Nat→Nat):∀ n,sumN (fun v=>f v+g v) n=sumN f n+sumN g n
 | 0=>rfl
 | n+1=>by rw [sumN,sumN,sumN,QdN f g n];omega
theorem Qgh (N:Nat):∀ (l:List Ed) (p:Nat),sumN (fun v=>(Qaj (v:Int) p l).length) N≤2*l.length
 | [],p=>by
  have:sumN (fun v=>(Qaj (v:Int) p []).length) N=sumN (fun _=>0) N:=rfl
  have h0:∀ n,sumN (fun _=>0) n=0:=fun n=>by induction n with | zero=>rfl | succ n ih=>rw [sumN,ih]
  rw [this,h0]
  exact YN
 | e :: l,p=>by
  have ih:=Qgh N l (p+1)
  have h1:=(Qhl e.1 N).1
  have h2:=(Qhl e.2.1 N).1
  have hle:sumN (fun v=>(Qaj (v:Int) p (e :: l)).length) N≤sumN (fun v=>((if e.1=((v:Nat):Int) then 1 else 0)+(if e.2.1=((v:Nat):Int) then 1 else 0))+(Qaj (v:Int) (p+1) l).length) N:=by
   refine Qhm fun v _=>?_
   rw [Qaj,YI]
   by_cases a:e.1=(v:Int)
   ·rw [if_pos a,if_pos a];simp
   ·rw [if_neg a,if_neg a]
    by_cases b:e.2.1=(v:Int)
    ·rw [if_pos b,if_pos b];simp
    ·rw [if_neg b,if_neg b];simp
  rw [QdN,QdN] at hle
  rw [List.length_cons]
  omega
theorem Qin:∀ n,sumN (fun _=>1) n=n
 | 0=>rfl
 | n+1=>by rw [sumN,Qin n]
theorem QdY (N:Nat)(l:List Ed)(D:List Int):2*QaF (QaJ N l) N D≤4*(N+l.length)+4:=by
 have h1:QaF (QaJ N l) N D≤sumN (fun v=>(Qaj (v:Int) 0 l).length+1) N:=by
  refine Qhm fun v hv=>?_
  rw [QbB hv]
  split
  ·exact YA
  ·exact YN
 rw [QdN,Qin] at h1
 have:=Qgh N l 0
 omega
theorem Qfr {N:Nat}{l:List Ed}(hR:RightG (N:Int) l):∀ k,k≤N→WalkI N l k ((List.range k).foldl (QaC (QaJ N l) (4*(N+l.length)+4)) (Qau N l.length))
 | 0,_=>by
  have hs:∀ v,v<N→¬ seen (Qau N l.length) v:=fun v hv=>by
   unfold seen Qau
   simp [hv]
  exact⟨by simp [Qau],by simp [Qau],rfl,fun v hv=>by omega,fun v w hv h=>absurd h (hs v hv),fun v hv h=>absurd h (hs v hv)⟩
 | k+1,hk=>by
  rw [List.range_succ,List.foldl_append]
  exact Qkw (QfL hR) (Qfr hR k (by omega)) (by omega) (QdY N l)
theorem Qcz {N:Nat}{l:List Ed}(hR:RightG (N:Int) l):(walkW N l).root=labAt N l N:=by
 have h:=Qfr hR N YA
 have hE:=Qao hR
 have hl:(walkW N l).root.length=N:=h.lenR
 apply List.ext_getElem
 ·rw [hl,QaB]
 ·intro v h1 h2
  have hv:v<N:=by omega
  obtain⟨x,hx,hxN,hxc,hxl⟩:=h.least v hv (h.upto v hv)
  obtain⟨y,hy,hyN,hyc,hyl⟩:=Qa0 hE hv
  have e1:(walkW N l).root.getD v 0=(walkW N l).root[v]:=by rw [YC,YB h1];rfl
  have e2:(labAt N l N).getD v 0=(labAt N l N)[v]:=by rw [YC,YB h2];rfl
  have hx':(walkW N l).root.getD v 0=(x:Int):=hx
  rw [← e1,← e2,hx',hy]
  have:=hxl y hyN hyc
  have:=hyl x hxN hxc
  omega
theorem QgL {N:Nat}{l:List Ed}(hE:Ends N l):Least (labAt N l N):=by
 intro v hv
 rw [QaB] at hv
 obtain⟨x,hx,hxN,hxc,hxl⟩:=Qa0 hE hv
 refine⟨x,hx,hxl v hv (.refl _),?_⟩
 rw [← (Qc0 hE hv hxN).2 hxc]
 exact hx
theorem QdX {N:Nat}{l:List Ed}(hR:RightG (N:Int) l):(gath (walkW N l).root (walkW N l).root.length).2=rcAt (labAt N l N) N N:=by
 rw [Qcz hR,Qo5 (QgL (Qao hR)),QaB]
def QbU (N M:Nat)(lk:List (List (Int × Int))):Prop:=∀ v x,x∈lk.getD v []→(∃ u:Nat,x.1=(u:Int)∧u<N)∧∃ k:Nat,x.2=(k:Int)∧k<M
structure OkW (N M C:Nat)(lk:List (List (Int × Int)))(s:WS):Prop where
 lenD:s.depth.length=N
 lenR:s.root.length=N
 lenF:s.from_.length=N
 lenK:s.block.length=M
 way:∀ x∈s.path.map Stp.v,∃ v:Nat,x=(v:Int)∧v<N∧0≤s.depth.getD v 0
 nxt:Qdc lk s
 ord:(s.path.map Stp.opn).Pairwise (·≤·)
 opl:∀ n∈s.path.map Stp.opn,n≤s.opn.length
 ops:∀ x∈s.opn,∃ k:Nat,x=(k:Int)∧k<M
 bo:s.opn.length+pot lk N s≤C
 bd:∀ v,s.depth.getD v 0+(pot lk N s:Int)≤(C:Int)
theorem QeB (y:Int):∀ (ps:List Int) (b:List Int),(ps.foldl (fun b p=>b.set p.toNat y) b).length=b.length
 | [],_=>rfl
 | p :: ps,b=>by rw [List.foldl_cons,QeB y ps,List.length_set]
theorem OkW.leave {N M C:Nat}{lk:List (List (Int × Int))}{s:WS}{init:List Stp}{last:Stp}(h:OkW N M C lk s)(hp:s.path=init++[last]):OkW N M C lk (Qay s init last):=by
 have hl:=Qcf (lk:=lk) (N:=N) hp
 have hn:=Qfb h.nxt hp
 have hw:=h.way
 have ho:=h.ord
 have hopl:=h.opl
 rw [hp,List.map_append] at hw ho hopl
 have ho':=List.pairwise_append.1 ho
 cases hi:init.getLast? with
 | none=>
  have e:Qay s init last={ s with path:=[] }:=by unfold Qay;rw [hi]
  rw [e] at hl hn ⊢
  refine⟨h.lenD,h.lenR,h.lenF,h.lenK,fun x hx=>?_,hn,.nil,fun x hx=>?_,h.ops,?_,fun v=>?_⟩
  ·simp at hx
  ·simp at hx
  ·show s.opn.length+_≤C
   have:=h.bo;omega
  ·show s.depth.getD v 0+_≤_
   have:=h.bd v;omega
 | some top=>
  obtain⟨pre,hpre⟩:=List.getLast?_eq_some_iff.1 hi
  by_cases hlow:last.low<at_ s.depth top.v
  ·have e:Qay s init last={ s with path:=init.dropLast++[{ top with low:=min top.low last.low }] }:=by unfold Qay;rw [hi];simp only [if_pos hlow]
   rw [e] at hl hn ⊢
   have hd:init.dropLast=pre:=by rw [hpre];simp
   have ev:(init.dropLast++[{ top with low:=min top.low last.low }]).map Stp.v=init.map Stp.v:=by rw [hd,hpre];simp
   have eo:(init.dropLast++[{ top with low:=min top.low last.low }]).map Stp.opn=init.map Stp.opn:=by rw [hd,hpre];simp
   refine⟨h.lenD,h.lenR,h.lenF,h.lenK,fun x hx=>?_,hn,?_,fun x hx=>?_,h.ops,?_,fun v=>?_⟩
   ·exact hw x (List.mem_append_left _ (ev ▸ hx))
   ·show List.Pairwise _ (List.map _ _)
    rw [eo];exact ho'.1
   ·exact hopl x (List.mem_append_left _ (eo ▸ hx))
   ·show s.opn.length+_≤C
    have:=h.bo;omega
   ·show s.depth.getD v 0+_≤_
    have:=h.bd v;omega
  ·have e:Qay s init last={ s with path:=init,block:=(s.opn.drop last.opn).foldl (fun b p=>b.set p.toNat last.by_) s.block,opn:=s.opn.take last.opn }:=by unfold Qay;rw [hi];simp only [if_neg hlow]
   rw [e] at hl hn ⊢
   have h1:=hopl last.opn (by simp)
   refine⟨h.lenD,h.lenR,h.lenF,(QeB _ _ _).trans h.lenK,fun x hx=>hw x (List.mem_append_left _ hx),hn,ho'.1,fun x hx=>?_,fun x hx=>h.ops x (List.mem_of_mem_take hx),?_,fun v=>?_⟩
   ·have:=ho'.2.2 x hx last.opn (by simp)
    show x≤(s.opn.take last.opn).length
    rw [List.length_take];omega
   ·show (s.opn.take last.opn).length+_≤C
    rw [List.length_take]
    have:=h.bo;omega
   ·show s.depth.getD v 0+_≤_
    have:=h.bd v;omega
theorem OkW.look {N M C:Nat}{lk:List (List (Int × Int))}{s:WS}{init:List Stp}{top:Stp}{x:Int × Int}(h:OkW N M C lk s)(hK:QbU N M lk)(hp:s.path=init++[top])(hx:(lk.getD top.v.toNat [])[top.next]? = some x):OkW N M C lk (lookW s init { top with next:=top.next+1 } x):=by
 have hlt:top.next<degW lk top.v:=(YE hx).1
 obtain⟨⟨u,eu,hu⟩,k,ek,hk⟩:=hK _ x (YK hx)
 obtain⟨v,ev,hv,hsv⟩:=h.way top.v (by rw [hp];simp)
 have evt:top.v.toNat=v:=by rw [ev];rfl
 have eut:x.1.toNat=u:=by rw [eu];rfl
 have hl:=QcZ (lk:=lk) (N:=N) (x:=x) hp hlt h.lenD (by rw [eut];exact hu) (by unfold at_;rw [evt];exact hsv)
 have hn:=QgJ (x:=x) h.nxt hp hlt
 have hw:=h.way
 have ho:=h.ord
 have hopl:=h.opl
 have e1:(init++[{ top with next:=top.next+1 }]).map Stp.v=s.path.map Stp.v:=by rw [hp];simp
 have e2:(init++[{ top with next:=top.next+1 }]).map Stp.opn=s.path.map Stp.opn:=by rw [hp];simp
 have hbv:=h.bd v
 unfold lookW at hl hn ⊢
 simp only at hl hn ⊢
 by_cases h1:at_ s.depth x.1<0
 ·rw [if_pos h1] at hl hn ⊢
  have hdv:at_ s.depth top.v=s.depth.getD v 0:=by unfold at_;rw [evt]
  have hgd:∀ y,(s.depth.set x.1.toNat (at_ s.depth top.v+1)).getD y 0=if u=y then s.depth.getD v 0+1 else s.depth.getD y 0:=fun y=>by
   rw [Qav,eut,h.lenD,hdv]
   by_cases e:u=y
   ·rw [if_pos ⟨e,hu⟩,if_pos e]
   ·rw [if_neg (fun a=>e a.1),if_neg e]
  refine⟨by simpa using h.lenD,by simpa using h.lenR,by simpa using h.lenF,h.lenK,fun y hy=>?_,hn,?_,fun n hn'=>?_,h.ops,?_,fun y=>?_⟩
  ·show ∃ v,_∧_∧0≤(s.depth.set x.1.toNat (at_ s.depth top.v+1)).getD v 0
   have hy':y∈((init++[{ top with next:=top.next+1 }])++[(⟨x.1,x.2,0,at_ s.depth top.v,s.opn.length⟩:Stp)]).map Stp.v:=hy
   rw [List.map_append,e1] at hy'
   rcases YJ hy' with h2 | h2
   ·obtain⟨z,a,b,c⟩:=hw y h2
    refine⟨z,a,b,?_⟩
    rw [hgd]
    split <;> omega
   ·have:y=x.1:=by simpa using h2
    refine⟨u,by rw [this,eu],hu,?_⟩
    rw [hgd,if_pos rfl]
    omega
  ·show List.Pairwise _ (List.map _ ((init++[{ top with next:=top.next+1 }])++[(⟨x.1,x.2,0,at_ s.depth top.v,s.opn.length⟩:Stp)]))
   rw [List.map_append,e2]
   refine List.pairwise_append.2 ⟨ho,by simp,fun a ha b hb=>?_⟩
   have:b=s.opn.length:=by simpa using hb
   rw [this];exact hopl a ha
  ·have hy':n∈((init++[{ top with next:=top.next+1 }])++[(⟨x.1,x.2,0,at_ s.depth top.v,s.opn.length⟩:Stp)]).map Stp.opn:=hn'
   rw [List.map_append,e2] at hy'
   rcases YJ hy' with h2 | h2
   ·exact hopl n h2
   ·have:n=s.opn.length:=by simpa using h2
    rw [this];exact YA
  ·show s.opn.length+_≤C
   have:=h.bo;omega
  ·show (s.depth.set x.1.toNat (at_ s.depth top.v+1)).getD y 0+_≤_
   have:=h.bd y
   rw [hgd]
   split <;> omega
 ·rw [if_neg h1] at hl hn ⊢
  by_cases h2:at_ s.depth x.1<at_ s.depth top.v
  ·rw [if_pos h2] at hl hn ⊢
   have e3:(init++[{ top with next:=top.next+1,low:=min top.low (at_ s.depth x.1) }]).map Stp.v=s.path.map Stp.v:=by rw [hp];simp
   have e4:(init++[{ top with next:=top.next+1,low:=min top.low (at_ s.depth x.1) }]).map Stp.opn=s.path.map Stp.opn:=by rw [hp];simp
   refine⟨h.lenD,h.lenR,h.lenF,h.lenK,fun y hy=>hw y (e3 ▸ hy),hn,?_,fun n hn'=>?_,fun y hy=>?_,?_,fun y=>?_⟩
   ·show List.Pairwise _ (List.map _ _)
    rw [e4];exact ho
   ·show n≤(s.opn++[x.2]).length
    have:=hopl n (e4 ▸ hn')
    rw [YI];omega
   ·have hy':y∈s.opn++[x.2]:=hy
    rcases YJ hy' with h3 | h3
    ·exact h.ops y h3
    ·exact⟨k,by rw [YF h3,ek],hk⟩
   ·show (s.opn++[x.2]).length+_≤C
    have:=h.bo
    rw [YI,List.length_singleton];omega
   ·show s.depth.getD y 0+_≤_
    have:=h.bd y;omega
  ·rw [if_neg h2] at hl hn ⊢
   refine⟨h.lenD,h.lenR,h.lenF,h.lenK,fun y hy=>hw y (e1 ▸ hy),hn,?_,fun n hn'=>hopl n (e2 ▸ hn'),h.ops,?_,fun y=>?_⟩
   ·show List.Pairwise _ (List.map _ _)
    rw [e2];exact ho
   ·show s.opn.length+_≤C
    have:=h.bo;omega
   ·show s.depth.getD y 0+_≤_
    have:=h.bd y;omega
theorem QkU {lk:List (List (Int × Int))}{N:Nat}{s:WS}:s.path.length≤pot lk N s:=by
 have:∀ P:List Stp,P.length≤Qax lk P:=fun P=>by
  induction P with
  | nil=>simp [Qax]
  | cons st P ih=>
   have e:Qax lk (st :: P)=(2*(degW lk st.v-st.next)+1)+Qax lk P:=by simp [Qax]
   rw [e,List.length_cons];omega
 have:=this s.path
 unfold pot;omega
theorem OkW.root {N M C:Nat}{lk:List (List (Int × Int))}{s:WS}{r:Nat}(h:OkW N M C lk s)(hp:s.path=[])(hr:r<N)(hs:s.depth.getD r 0<0):
  OkW N M C lk { s with root:=s.root.set r (r:Int),from_:=s.from_.set r (-1),depth:=s.depth.set r 0,path:=s.path++[⟨(r:Int),-1,0,0,0⟩] }:=by
 have hgd:∀ y,(s.depth.set r 0).getD y 0=if r=y then 0 else s.depth.getD y 0:=fun y=>by
  rw [Qav,h.lenD]
  by_cases e:r=y
  ·rw [if_pos ⟨e,hr⟩,if_pos e]
  ·rw [if_neg (fun a=>e a.1),if_neg e]
 have hpe:s.path++[(⟨(r:Int),-1,0,0,0⟩:Stp)]=[⟨(r:Int),-1,0,0,0⟩]:=by rw [hp];rfl
 have hu:=Qcc (lk:=lk) h.lenD hr hs (Int.le_refl 0)
 have hpot:pot lk N { s with root:=s.root.set r (r:Int),from_:=s.from_.set r (-1),depth:=s.depth.set r 0,path:=s.path++[(⟨(r:Int),-1,0,0,0⟩:Stp)] }+1≤pot lk N s:=by
  unfold pot
  show 2*QaF lk N (s.depth.set r 0)+Qax lk (s.path++[(⟨(r:Int),-1,0,0,0⟩:Stp)])+1≤2*QaF lk N s.depth+Qax lk s.path
  rw [hpe,QaE,hp]
  simp only
  have:degW lk (r:Int)=(lk.getD r []).length:=by unfold degW;rfl
  rw [this]
  have:Qax lk []=0:=rfl
  omega
 refine⟨by simpa using h.lenD,by simpa using h.lenR,by simpa using h.lenF,h.lenK,fun x hx=>?_,fun st hst=>?_,?_,fun n hn=>?_,h.ops,?_,fun y=>?_⟩
 ·simp only [hpe] at hx ⊢
  have:x=(r:Int):=by simpa using hx
  refine⟨r,this,hr,?_⟩
  rw [hgd,if_pos rfl]
  exact Int.le_refl 0
 ·simp only [hpe] at hst
  rw [YF hst]
  exact YN
 ·simp only [hpe];simp
 ·simp only [hpe] at hn
  have:n=0:=by simpa using hn
  rw [this];exact YN
 ·show s.opn.length+_≤C
  have:=h.bo;omega
 ·show (s.depth.set r 0).getD y 0+_≤_
  have:=h.bd y
  have h0:=h.bo
  rw [hgd]
  split <;> omega
theorem OkW.fresh {N M:Nat}{lk:List (List (Int × Int))}{C:Nat}(hC:2*QaF lk N (List.replicate N (-1))≤C):OkW N M C lk (Qau N M):=by
 have hp:pot lk N (Qau N M)≤C:=by unfold pot Qau;simp only [Qax];simpa using hC
 refine⟨by simp [Qau],by simp [Qau],by simp [Qau],by simp [Qau],fun x hx=>by simp [Qau] at hx,fun x hx=>by simp [Qau] at hx,by simp [Qau],fun x hx=>by simp [Qau] at hx,fun x hx=>by simp [Qau] at hx,?_,fun v=>?_⟩
 ·have:(Qau N M).opn.length=0:=rfl
  omega
 ·have:(Qau N M).depth.getD v 0≤0:=by
   show (List.replicate N (-1:Int)).getD v 0≤0
   by_cases h:v<N
   ·simp [h]
   ·simp [h]
  omega
end Go.Proofs.YtalflecmadacaaaGreat
