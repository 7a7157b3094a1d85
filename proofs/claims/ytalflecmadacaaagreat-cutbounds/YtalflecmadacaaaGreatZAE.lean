import Derived.Test.YtalflecmadacaaaGreatZAD
set_option maxRecDepth 100000
set_option maxHeartbeats 8000000
namespace Go.Proofs.YtalflecmadacaaaGreat
open Go Go.Proofs
def QaS (N M:Nat)(lk:List (List (Int × Int))):Prop:=∀ v x,x∈lk.getD v []→(∃ u:Nat,x.1=(u:Int)∧u<N)∧∃ k:Nat,x.2=(k:Int)∧k<M
structure OkW (N M C:Nat)(lk:List (List (Int × Int)))(s:WS):Prop where
 lenD:s.depth.length=N
 lenR:s.root.length=N
 lenF:s.from_.length=N
 lenK:s.block.length=M
 way:∀ x∈s.path.map Stp.v,∃ v:Nat,x=(v:Int)∧v<N∧0≤s.depth.getD v 0
 nxt:Qde lk s
 ord:(s.path.map Stp.opn).Pairwise (·≤·)
 opl:∀ n∈s.path.map Stp.opn,n≤s.opn.length
 ops:∀ x∈s.opn,∃ k:Nat,x=(k:Int)∧k<M
 bo:s.opn.length+pot lk N s≤C
 bd:∀ v,s.depth.getD v 0+(pot lk N s:Int)≤(C:Int)
theorem QeO (y:Int):∀ (ps:List Int) (b:List Int),(ps.foldl (fun b p=>b.set p.toNat y) b).length=b.length
 | [],_=>rfl
 | p :: ps,b=>by rw [List.foldl_cons,QeO y ps,List.length_set]
theorem OkW.leave {N M C:Nat}{lk:List (List (Int × Int))}{s:WS}{init:List Stp}{last:Stp}(h:OkW N M C lk s)(hp:s.path=init++[last]):OkW N M C lk (Qam s init last):=by
 have hl:=Qcj (lk:=lk) (N:=N) hp
 have hn:=Qfo h.nxt hp
 have hw:=h.way
 have ho:=h.ord
 have hopl:=h.opl
 rw [hp,List.map_append] at hw ho hopl
 have ho':=List.pairwise_append.1 ho
 cases hi:init.getLast? with
 | none=>
  have e:Qam s init last={ s with path:=[] }:=by unfold Qam;rw [hi]
  rw [e] at hl hn ⊢
  refine⟨h.lenD,h.lenR,h.lenF,h.lenK,fun x hx=>?_,hn,.nil,fun x hx=>?_,h.ops,?_,fun v=>?_⟩
  ·simp at hx
  ·simp at hx
  ·show s.opn.length+_≤C
   have:=h.bo;omega
  ·show s.depth.getD v 0+_≤_
   have:=h.bd v;omega
 | some top=>
  obtain⟨pre,hpre⟩:=List.getLast?_eq_some_iff.1 hi
  by_cases hlow:last.low<at_ s.depth top.v
  ·have e:Qam s init last={ s with path:=init.dropLast++[{ top with low:=min top.low last.low }] }:=by unfold Qam;rw [hi];simp only [if_pos hlow]
   rw [e] at hl hn ⊢
   have hd:init.dropLast=pre:=by rw [hpre];simp
   have ev:(init.dropLast++[{ top with low:=min top.low last.low }]).map Stp.v=init.map Stp.v:=by rw [hd,hpre];simp
   have eo:(init.dropLast++[{ top with low:=min top.low last.low }]).map Stp.opn=init.map Stp.opn:=by rw [hd,hpre];simp
   refine⟨h.lenD,h.lenR,h.lenF,h.lenK,fun x hx=>?_,hn,?_,fun x hx=>?_,h.ops,?_,fun v=>?_⟩
   ·exact hw x (List.mem_append_left _ (ev ▸ hx))
   ·show List.Pairwise _ (List.map _ _)
    rw [eo];exact ho'.1
   ·exact hopl x (List.mem_append_left _ (eo ▸ hx))
   ·show s.opn.length+_≤C
    have:=h.bo;omega
   ·show s.depth.getD v 0+_≤_
    have:=h.bd v;omega
  ·have e:Qam s init last={ s with path:=init,block:=(s.opn.drop last.opn).foldl (fun b p=>b.set p.toNat last.by_) s.block,opn:=s.opn.take last.opn }:=by unfold Qam;rw [hi];simp only [if_neg hlow]
   rw [e] at hl hn ⊢
   have h1:=hopl last.opn (by simp)
   refine⟨h.lenD,h.lenR,h.lenF,(QeO _ _ _).trans h.lenK,fun x hx=>hw x (List.mem_append_left _ hx),hn,ho'.1,fun x hx=>?_,fun x hx=>h.ops x (List.mem_of_mem_take hx),?_,fun v=>?_⟩
   ·have:=ho'.2.2 x hx last.opn (by simp)
    show x≤(s.opn.take last.opn).length
    rw [List.length_take];omega
   ·show (s.opn.take last.opn).length+_≤C
    rw [List.length_take]
    have:=h.bo;omega
   ·show s.depth.getD v 0+_≤_
    have:=h.bd v;omega
theorem OkW.look {N M C:Nat}{lk:List (List (Int × Int))}{s:WS}{init:List Stp}{top:Stp}{x:Int × Int}(h:OkW N M C lk s)(hK:QaS N M lk)(hp:s.path=init++[top])(hx:(lk.getD top.v.toNat [])[top.next]? = some x):OkW N M C lk (lookW s init { top with next:=top.next+1 } x):=by
 have hlt:top.next<degW lk top.v:=(YE hx).1
 obtain⟨⟨u,eu,hu⟩,k,ek,hk⟩:=hK _ x (YK hx)
 obtain⟨v,ev,hv,hsv⟩:=h.way top.v (by rw [hp];simp)
 have evt:top.v.toNat=v:=by rw [ev];rfl
 have eut:x.1.toNat=u:=by rw [eu];rfl
 have hl:=Qc2 (lk:=lk) (N:=N) (x:=x) hp hlt h.lenD (by rw [eut];exact hu) (by unfold at_;rw [evt];exact hsv)
 have hn:=QgY (x:=x) h.nxt hp hlt
 have hw:=h.way
 have ho:=h.ord
 have hopl:=h.opl
 have e1:(init++[{ top with next:=top.next+1 }]).map Stp.v=s.path.map Stp.v:=by rw [hp];simp
 have e2:(init++[{ top with next:=top.next+1 }]).map Stp.opn=s.path.map Stp.opn:=by rw [hp];simp
 have hbv:=h.bd v
 unfold lookW at hl hn ⊢
 simp only at hl hn ⊢
 by_cases h1:at_ s.depth x.1<0
 ·rw [if_pos h1] at hl hn ⊢
  have hdv:at_ s.depth top.v=s.depth.getD v 0:=by unfold at_;rw [evt]
  have hgd:∀ y,(s.depth.set x.1.toNat (at_ s.depth top.v+1)).getD y 0=if u=y then s.depth.getD v 0+1 else s.depth.getD y 0:=fun y=>by
   rw [Qao,eut,h.lenD,hdv]
   by_cases e:u=y
   ·rw [if_pos ⟨e,hu⟩,if_pos e]
   ·rw [if_neg (fun a=>e a.1),if_neg e]
  refine⟨by simpa using h.lenD,by simpa using h.lenR,by simpa using h.lenF,h.lenK,fun y hy=>?_,hn,?_,fun n hn'=>?_,h.ops,?_,fun y=>?_⟩
  ·show ∃ v,_∧_∧0≤(s.depth.set x.1.toNat (at_ s.depth top.v+1)).getD v 0
   have hy':y∈((init++[{ top with next:=top.next+1 }])++[(⟨x.1,x.2,0,at_ s.depth top.v,s.opn.length⟩:Stp)]).map Stp.v:=hy
   rw [List.map_append,e1] at hy'
   rcases YJ hy' with h2 | h2
   ·obtain⟨z,a,b,c⟩:=hw y h2
    refine⟨z,a,b,?_⟩
    rw [hgd]
    split <;> omega
   ·have:y=x.1:=by simpa using h2
    refine⟨u,by rw [this,eu],hu,?_⟩
    rw [hgd,if_pos rfl]
    omega
  ·show List.Pairwise _ (List.map _ ((init++[{ top with next:=top.next+1 }])++[(⟨x.1,x.2,0,at_ s.depth top.v,s.opn.length⟩:Stp)]))
   rw [List.map_append,e2]
   refine List.pairwise_append.2 ⟨ho,by simp,fun a ha b hb=>?_⟩
   have:b=s.opn.length:=by simpa using hb
   rw [this];exact hopl a ha
  ·have hy':n∈((init++[{ top with next:=top.next+1 }])++[(⟨x.1,x.2,0,at_ s.depth top.v,s.opn.length⟩:Stp)]).map Stp.opn:=hn'
   rw [List.map_append,e2] at hy'
   rcases YJ hy' with h2 | h2
   ·exact hopl n h2
   ·have:n=s.opn.length:=by simpa using h2
    rw [this];exact YA
  ·show s.opn.length+_≤C
   have:=h.bo;omega
  ·show (s.depth.set x.1.toNat (at_ s.depth top.v+1)).getD y 0+_≤_
   have:=h.bd y
   rw [hgd]
   split <;> omega
 ·rw [if_neg h1] at hl hn ⊢
  by_cases h2:at_ s.depth x.1<at_ s.depth top.v
  ·rw [if_pos h2] at hl hn ⊢
   have e3:(init++[{ top with next:=top.next+1,low:=min top.low (at_ s.depth x.1) }]).map Stp.v=s.path.map Stp.v:=by rw [hp];simp
   have e4:(init++[{ top with next:=top.next+1,low:=min top.low (at_ s.depth x.1) }]).map Stp.opn=s.path.map Stp.opn:=by rw [hp];simp
   refine⟨h.lenD,h.lenR,h.lenF,h.lenK,fun y hy=>hw y (e3 ▸ hy),hn,?_,fun n hn'=>?_,fun y hy=>?_,?_,fun y=>?_⟩
   ·show List.Pairwise _ (List.map _ _)
    rw [e4];exact ho
   ·show n≤(s.opn++[x.2]).length
    have:=hopl n (e4 ▸ hn')
    rw [YI];omega
   ·have hy':y∈s.opn++[x.2]:=hy
    rcases YJ hy' with h3 | h3
    ·exact h.ops y h3
    ·exact⟨k,by rw [YF h3,ek],hk⟩
   ·show (s.opn++[x.2]).length+_≤C
    have:=h.bo
    rw [YI,List.length_singleton];omega
   ·show s.depth.getD y 0+_≤_
    have:=h.bd y;omega
  ·rw [if_neg h2] at hl hn ⊢
   refine⟨h.lenD,h.lenR,h.lenF,h.lenK,fun y hy=>hw y (e1 ▸ hy),hn,?_,fun n hn'=>hopl n (e2 ▸ hn'),h.ops,?_,fun y=>?_⟩
   ·show List.Pairwise _ (List.map _ _)
    rw [e2];exact ho
   ·show s.opn.length+_≤C
    have:=h.bo;omega
   ·show s.depth.getD y 0+_≤_
    have:=h.bd y;omega
theorem Qlq {lk:List (List (Int × Int))}{N:Nat}{s:WS}:s.path.length≤pot lk N s:=by
 have:∀ P:List Stp,P.length≤QaA lk P:=fun P=>by
  induction P with
  | nil=>simp [QaA]
  | cons st P ih=>
   have e:QaA lk (st :: P)=(2*(degW lk st.v-st.next)+1)+QaA lk P:=by simp [QaA]
   rw [e,List.length_cons];omega
 have:=this s.path
 unfold pot;omega
theorem OkW.root {N M C:Nat}{lk:List (List (Int × Int))}{s:WS}{r:Nat}(h:OkW N M C lk s)(hp:s.path=[])(hr:r<N)(hs:s.depth.getD r 0<0):
  OkW N M C lk { s with root:=s.root.set r (r:Int),from_:=s.from_.set r (-1),depth:=s.depth.set r 0,path:=s.path++[⟨(r:Int),-1,0,0,0⟩] }:=by
 have hgd:∀ y,(s.depth.set r 0).getD y 0=if r=y then 0 else s.depth.getD y 0:=fun y=>by
  rw [Qao,h.lenD]
  by_cases e:r=y
  ·rw [if_pos ⟨e,hr⟩,if_pos e]
  ·rw [if_neg (fun a=>e a.1),if_neg e]
 have hpe:s.path++[(⟨(r:Int),-1,0,0,0⟩:Stp)]=[⟨(r:Int),-1,0,0,0⟩]:=by rw [hp];rfl
 have hu:=Qce (lk:=lk) h.lenD hr hs (Int.le_refl 0)
 have hpot:pot lk N { s with root:=s.root.set r (r:Int),from_:=s.from_.set r (-1),depth:=s.depth.set r 0,path:=s.path++[(⟨(r:Int),-1,0,0,0⟩:Stp)] }+1≤pot lk N s:=by
  unfold pot
  show 2*QaG lk N (s.depth.set r 0)+QaA lk (s.path++[(⟨(r:Int),-1,0,0,0⟩:Stp)])+1≤2*QaG lk N s.depth+QaA lk s.path
  rw [hpe,QaF,hp]
  simp only
  have:degW lk (r:Int)=(lk.getD r []).length:=by unfold degW;rfl
  rw [this]
  have:QaA lk []=0:=rfl
  omega
 refine⟨by simpa using h.lenD,by simpa using h.lenR,by simpa using h.lenF,h.lenK,fun x hx=>?_,fun st hst=>?_,?_,fun n hn=>?_,h.ops,?_,fun y=>?_⟩
 ·simp only [hpe] at hx ⊢
  have:x=(r:Int):=by simpa using hx
  refine⟨r,this,hr,?_⟩
  rw [hgd,if_pos rfl]
  exact Int.le_refl 0
 ·simp only [hpe] at hst
  rw [YF hst]
  exact YN
 ·simp only [hpe];simp
 ·simp only [hpe] at hn
  have:n=0:=by simpa using hn
  rw [this];exact YN
 ·show s.opn.length+_≤C
  have:=h.bo;omega
 ·show (s.depth.set r 0).getD y 0+_≤_
  have:=h.bd y
  have h0:=h.bo
  rw [hgd]
  split <;> omega
theorem OkW.fresh {N M:Nat}{lk:List (List (Int × Int))}{C:Nat}(hC:2*QaG lk N (List.replicate N (-1))≤C):OkW N M C lk (Qak N M):=by
 have hp:pot lk N (Qak N M)≤C:=by unfold pot Qak;simp only [QaA];simpa using hC
 refine⟨by simp [Qak],by simp [Qak],by simp [Qak],by simp [Qak],fun x hx=>by simp [Qak] at hx,fun x hx=>by simp [Qak] at hx,by simp [Qak],fun x hx=>by simp [Qak] at hx,fun x hx=>by simp [Qak] at hx,?_,fun v=>?_⟩
 ·have:(Qak N M).opn.length=0:=rfl
  omega
 ·have:(Qak N M).depth.getD v 0≤0:=by
   show (List.replicate N (-1:Int)).getD v 0≤0
   by_cases h:v<N
   ·simp [h]
   ·simp [h]
  omega
open Go Go.Proofs Go.RowKit
theorem QcR {N M C:Nat}{lk:List (List (Int × Int))}{s:WS}{r:Nat}(h:OkW N M C lk s)(hp:s.path=[])(hr:r<N)(hs:s.depth.getD r 0<0):
  pot lk N { s with root:=s.root.set r (r:Int),from_:=s.from_.set r (-1),depth:=s.depth.set r 0,path:=s.path++[⟨(r:Int),-1,0,0,0⟩] }≤pot lk N s:=by
 have hpe:s.path++[(⟨(r:Int),-1,0,0,0⟩:Stp)]=[⟨(r:Int),-1,0,0,0⟩]:=by rw [hp];rfl
 have hu:=Qce (lk:=lk) h.lenD hr hs (Int.le_refl 0)
 unfold pot
 show 2*QaG lk N (s.depth.set r 0)+QaA lk (s.path++[(⟨(r:Int),-1,0,0,0⟩:Stp)])≤2*QaG lk N s.depth+QaA lk s.path
 rw [hpe,QaF,hp]
 simp only
 have:degW lk (r:Int)=(lk.getD r []).length:=by unfold degW;rfl
 rw [this]
 have:QaA lk []=0:=rfl
 omega
theorem QdN {v:Int}{x:Int × Int}:∀ {l:List Ed} {p:Nat},x∈Qai v p l→∃ k:Nat,x.2=(k:Int)∧k<p+l.length
 | [],_,h=>by simp [Qai] at h
 | e :: l,p,h=>by
  rw [Qai] at h
  rcases YJ h with h1 | h1
  ·refine⟨p,?_,by simp⟩
   split at h1
   ·rw [YF h1]
   ·split at h1
    ·rw [YF h1]
    ·simp at h1
  ·obtain⟨k,e1,e2⟩:=QdN h1
   exact⟨k,e1,by rw [List.length_cons];omega⟩
theorem Qfm {N:Nat}{l:List Ed}{v:Nat}(h:¬ v<N):(Qay N l).getD v []=[]:=by
 rw [YC,YL (by simp [Qay];omega)]
 rfl
theorem Qc3 {N:Nat}{l:List Ed}(hR:RightG (N:Int) l):QaS N l.length (Qay N l):=by
 intro v x hx
 by_cases hv:v<N
 ·obtain⟨u,e,hu,_⟩:=(QdZ hR).sound v x hv hx
  rw [Qa3 hv] at hx
  obtain⟨k,e1,e2⟩:=QdN hx
  exact⟨⟨u,e,hu⟩,k,e1,by omega⟩
 ·rw [Qfm hv] at hx
  simp at hx
theorem OkW.step {N M C:Nat}{lk:List (List (Int × Int))}{s:WS}(h:OkW N M C lk s)(hK:QaS N M lk)(hne:s.path≠[]):OkW N M C lk (stepW lk s)∧pot lk N (stepW lk s)+1≤pot lk N s:=by
 unfold stepW
 cases hl:s.path.getLast? with
 | none=>exact absurd (List.getLast?_eq_none_iff.1 hl) hne
 | some top=>
  have hp:=QbA hl
  simp only
  split
  ·exact⟨h.leave hp,Qcj hp⟩
  ·rename_i hn
   have hle:=h.nxt top (by rw [hp];simp)
   have hlt:top.next<degW lk top.v:=by unfold degW at hle ⊢;omega
   have hx:=YB (l:=lk.getD top.v.toNat []) hlt
   have e:(lk.getD top.v.toNat []).getD top.next (0,0)=(lk.getD top.v.toNat [])[top.next]:=by rw [YC,hx];rfl
   obtain⟨v,ev,hv,hsv⟩:=h.way top.v (by rw [hp];simp)
   have evt:top.v.toNat=v:=by rw [ev];rfl
   obtain⟨⟨u,eu,hu⟩,_⟩:=hK _ _ (YG hlt)
   rw [e]
   exact⟨h.look hK hp hx,Qc2 hp hlt h.lenD (by rw [eu];exact hu) (by unfold at_;rw [evt];exact hsv)⟩
theorem OkW.run {N M C:Nat}{lk:List (List (Int × Int))}(hK:QaS N M lk):∀ (k:Nat) {s:WS},OkW N M C lk s→pot lk N s≤k→OkW N M C lk (runW lk k s)∧(runW lk k s).path=[]
 | 0,s,h,hk=>by
  refine⟨h,?_⟩
  have:=Qlq (lk:=lk) (N:=N) (s:=s)
  exact List.length_eq_zero_iff.1 (by show s.path.length=0;omega)
 | k+1,s,h,hk=>by
  rw [runW]
  by_cases hp:s.path=[]
  ·rw [Qbx hp,QbL hp]
   exact⟨h,hp⟩
  ·obtain⟨h1,h2⟩:=h.step hK hp
   exact OkW.run hK k h1 (by omega)
theorem OkW.start {N M C:Nat}{lk:List (List (Int × Int))}(hK:QaS N M lk){s:WS}{r:Nat}(h:OkW N M C lk s)(hp:s.path=[])(hr:r<N):OkW N M C lk (Qas lk C s r)∧(Qas lk C s r).path=[]:=by
 unfold Qas
 split
 ·exact⟨h,hp⟩
 ·refine OkW.run hK C (h.root hp hr (by omega)) ?_
  have:=QcR h hp hr (by omega)
  have:=h.bo
  omega
theorem Qct {N:Nat}{l:List Ed}(hR:RightG (N:Int) l):∀ k,k≤N→OkW N l.length (4*(N+l.length)+4) (Qay N l) ((List.range k).foldl (Qas (Qay N l) (4*(N+l.length)+4)) (Qak N l.length))∧((List.range k).foldl (Qas (Qay N l) (4*(N+l.length)+4)) (Qak N l.length)).path=[]
 | 0,_=>⟨OkW.fresh (Qeb N l _),rfl⟩
 | k+1,hk=>by
  obtain⟨h1,h2⟩:=Qct hR k (by omega)
  rw [List.range_succ,List.foldl_append]
  exact h1.start (Qc3 hR) h2 (by omega)
theorem Qcd {N:Nat}{l:List Ed}(hR:RightG (N:Int) l):OkW N l.length (4*(N+l.length)+4) (Qay N l) (walkW N l):=(Qct hR N YA).1
def UpW (F:List Int):Nat→List Nat→Nat→Prop
 | v,[],u=>v=u
 | v,x :: ls,u=>F.getD v 0=(x:Int)∧UpW F x ls u
def Anc (F:List Int)(u v:Nat):Prop:=∃ ls,UpW F v ls u
theorem Anc.refl (F:List Int)(v:Nat):Anc F v v:=⟨[],rfl⟩
theorem Anc.up {F:List Int}{u v x:Nat}(h:F.getD v 0=(x:Int))(h':Anc F u x):Anc F u v:=by
 obtain⟨ls,hl⟩:=h'
 exact⟨x :: ls,h,hl⟩
theorem Anc.keep {F F':List Int}{P:Nat→Prop}(h1:∀ y,P y→F'.getD y 0=F.getD y 0)(h2:∀ y x:Nat,P y→F.getD y 0=(x:Int)→P x):∀ {u v:Nat},P v→Anc F u v→Anc F' u v:=by
 intro u v hv h
 obtain⟨ls,hl⟩:=h
 refine⟨ls,?_⟩
 induction ls generalizing v with
 | nil=>exact hl
 | cons x ls ih=>exact⟨(h1 v hv).trans hl.1,ih (h2 v x hv hl.1) hl.2⟩
structure TreeI (N:Nat)(l:List Ed)(lk:List (List (Int × Int)))(s:WS):Prop where
 lenD:s.depth.length=N
 lenF:s.from_.length=N
 lenR:s.root.length=N
 par:∀ v,v<N→seen s v→(s.depth.getD v 0=0∧s.from_.getD v 0 = -1∧s.root.getD v 0=(v:Int))∨∃ u:Nat,u<N∧s.from_.getD v 0=(u:Int)∧seen s u∧Adj l u v∧s.depth.getD v 0=s.depth.getD u 0+1∧s.root.getD v 0=s.root.getD u 0
 anc:(s.path.map Stp.v).Pairwise fun x y=>Anc s.from_ x.toNat y.toNat
 way:∀ st∈s.path,∃ v:Nat,st.v=(v:Int)∧v<N∧seen s v∧∀ k x,k<st.next→(lk.getD v [])[k]? = some x→seen s x.1.toNat
 fin:∀ v,v<N→seen s v→(∃ st∈s.path,st.v=(v:Int))∨∀ w,Adj l v w→seen s w∧(Anc s.from_ w v∨Anc s.from_ v w)
theorem TreeI.same {N:Nat}{l:List Ed}{lk:List (List (Int × Int))}{s s':WS}(h:TreeI N l lk s)(hD:s'.depth=s.depth)(hF:s'.from_=s.from_)(hRt:s'.root=s.root)(hA:(s'.path.map Stp.v).Pairwise fun x y=>Anc s.from_ x.toNat y.toNat)
  (h1:∀ st∈s'.path,∃ v:Nat,st.v=(v:Int)∧v<N∧seen s v∧∀ k x,k<st.next→(lk.getD v [])[k]? = some x→seen s x.1.toNat)
  (h2:∀ v,v<N→seen s v→(∃ st∈s'.path,st.v=(v:Int))∨∀ w,Adj l v w→seen s w∧(Anc s.from_ w v∨Anc s.from_ v w)):TreeI N l lk s':=by
 have hs:∀ v,seen s' v↔seen s v:=fun v=>by unfold seen;rw [hD]
 refine⟨by rw [hD];exact h.lenD,by rw [hF];exact h.lenF,by rw [hRt];exact h.lenR,fun v hv h3=>?_,by rw [hF];exact hA,fun st hst=>?_,fun v hv h3=>?_⟩
 ·rw [hD,hF,hRt]
  rcases h.par v hv ((hs v).1 h3) with h4 | ⟨u,a,b,c,d,e⟩
  ·exact .inl h4
  ·exact .inr ⟨u,a,b,(hs u).2 c,d,e⟩
 ·obtain⟨v,a,b,c,d⟩:=h1 st hst
  exact⟨v,a,b,(hs v).2 c,fun k x hk hx=>(hs _).2 (d k x hk hx)⟩
 ·rcases h2 v hv ((hs v).1 h3) with h4 | h4
  ·exact .inl h4
  ·refine .inr fun w hw=>?_
   rw [hF]
   obtain⟨a,b⟩:=h4 w hw
   exact⟨(hs w).2 a,b⟩
theorem TreeI.leave {N:Nat}{l:List Ed}{lk:List (List (Int × Int))}{s:WS}{init:List Stp}{top:Stp}(h:TreeI N l lk s)(hK:LinksOK N l lk)(hp:s.path=init++[top])(hn:top.next=(lk.getD top.v.toNat []).length):TreeI N l lk (Qam s init top):=by
 obtain⟨v,ev,hv,hsv,hall⟩:=h.way top (by rw [hp];simp)
 have hmem:∀ st∈init,st∈s.path:=fun st hst=>by rw [hp];exact List.mem_append_left _ hst
 have hanc:=h.anc
 rw [hp,List.map_append] at hanc
 have hanc':=List.pairwise_append.1 hanc
 have evt:top.v.toNat=v:=by rw [ev];rfl
 rw [evt] at hn
 have key:∀ (path':List Stp),path'.map Stp.v=init.map Stp.v→(∀ st∈path',∃ st'∈init,st.v=st'.v∧st.next=st'.next)→(∀ st∈init,∃ st'∈path',st'.v=st.v)→∀ s':WS,s'.depth=s.depth→s'.from_=s.from_→s'.root=s.root→s'.path=path'→TreeI N l lk s':=by
  intro path' hm hin hout s' hD hF hRt hP
  refine h.same hD hF hRt (by rw [hP,hm];exact hanc'.1) (fun st hst=>?_) (fun y hy h3=>?_)
  ·rw [hP] at hst
   obtain⟨st',hst',e1,e2⟩:=hin st hst
   obtain⟨z,a,b,c,d⟩:=h.way st' (hmem st' hst')
   exact⟨z,by rw [e1];exact a,b,c,by rw [e2];exact d⟩
  ·rcases h.fin y hy h3 with ⟨st,hst,e⟩ | h4
   ·rw [hp] at hst
    rcases YJ hst with hst | hst
    ·obtain⟨st',hst',e'⟩:=hout st hst
     exact .inl ⟨st',by rw [hP];exact hst',by rw [e'];exact e⟩
    ·obtain rfl:=YF hst
     have hyv:y=v:=by omega
     subst hyv
     refine .inr fun w hw=>?_
     obtain⟨x,hx,hxw⟩:=hK.full y w hy hw
     obtain⟨k,hk,hxk⟩:=List.getElem_of_mem hx
     have hsw:=hall k x (by omega) (by rw [YB hk,hxk])
     rw [hxw] at hsw
     refine⟨hsw,?_⟩
     have hwN:=(QaY hK.ends hw).2
     rcases h.fin w hwN hsw with ⟨st',hst',e'⟩ | h5
     ·rw [hp] at hst'
      rcases YJ hst' with h6 | h6
      ·have:=hanc'.2.2 st'.v (List.mem_map.2 ⟨st',h6,rfl⟩) st.v (by simp)
       rw [e',ev] at this
       exact .inl this
      ·obtain rfl:=YF h6
       have:w=y:=by omega
       subst this
       exact .inl (Anc.refl _ _)
     ·obtain⟨_,h6⟩:=h5 y hw.symm
      exact h6.symm
   ·exact .inr h4
 cases hi:init.getLast? with
 | none=>
  have e:Qam s init top={ s with path:=[] }:=by unfold Qam;rw [hi]
  have hin:init=[]:=List.getLast?_eq_none_iff.1 hi
  rw [e]
  exact key [] (by rw [hin]) (fun st hst=>by simp at hst) (fun st hst=>by rw [hin] at hst;simp at hst) _ rfl rfl rfl rfl
 | some t2=>
  obtain⟨pre,hpre⟩:=List.getLast?_eq_some_iff.1 hi
  by_cases hlow:top.low<at_ s.depth t2.v
  ·have e:Qam s init top={ s with path:=init.dropLast++[{ t2 with low:=min t2.low top.low }] }:=by unfold Qam;rw [hi];simp only [if_pos hlow]
   rw [e]
   have hd:init.dropLast=pre:=by rw [hpre];simp
   refine key (init.dropLast++[{ t2 with low:=min t2.low top.low }]) (by rw [hd,hpre];simp) (fun st hst=>?_) (fun st hst=>?_) _ rfl rfl rfl rfl
   ·rw [hd] at hst
    rcases YJ hst with h6 | h6
    ·exact⟨st,by rw [hpre];exact List.mem_append_left _ h6,rfl,rfl⟩
    ·obtain rfl:=YF h6
     exact⟨t2,by rw [hpre];simp,rfl,rfl⟩
   ·rw [hpre] at hst
    rcases YJ hst with h6 | h6
    ·exact⟨st,by rw [hd];exact List.mem_append_left _ h6,rfl⟩
    ·obtain rfl:=YF h6
     exact⟨{ st with low:=min st.low top.low },by rw [hd];simp,rfl⟩
  ·have e:Qam s init top={ s with path:=init,block:=(s.opn.drop top.opn).foldl (fun b p=>b.set p.toNat top.by_) s.block,opn:=s.opn.take top.opn }:=by unfold Qam;rw [hi];simp only [if_neg hlow]
   rw [e]
   exact key init rfl (fun st hst=>⟨st,hst,rfl,rfl⟩) (fun st hst=>⟨st,hst,rfl⟩) _ rfl rfl rfl rfl
theorem TreeI.closed {N:Nat}{l:List Ed}{lk:List (List (Int × Int))}{s:WS}(h:TreeI N l lk s){v x:Nat}(hv:v<N∧seen s v)(he:s.from_.getD v 0=(x:Int)):x<N∧seen s x:=by
 rcases h.par v hv.1 hv.2 with ⟨_,h2,_⟩ | ⟨u,a,b,c,_⟩
 ·omega
 ·have:x=u:=by omega
  subst this
  exact⟨a,c⟩
theorem TreeI.look {N:Nat}{l:List Ed}{lk:List (List (Int × Int))}{s:WS}{init:List Stp}{top:Stp}{x:Int × Int}(h:TreeI N l lk s)(hK:LinksOK N l lk)(hp:s.path=init++[top])(hx:(lk.getD top.v.toNat [])[top.next]? = some x):TreeI N l lk (lookW s init { top with next:=top.next+1 } x):=by
 have hmem:∀ st∈init,st∈s.path:=fun st hst=>by rw [hp];exact List.mem_append_left _ hst
 obtain⟨v,ev,hv,hsv,hall⟩:=h.way top (by rw [hp];simp)
 have hx':=hx
 rw [ev,YM] at hx'
 obtain⟨w,ew,hw,hadj⟩:=hK.sound v x hv (YK hx')
 have ewt:x.1.toNat=w:=by rw [ew];rfl
 have evt:top.v.toNat=v:=by rw [ev];rfl
 have hstay:∀ s2:WS,(∀ y,seen s y→seen s2 y)→seen s2 w→∀ t:Stp,t.v=top.v→t.next=top.next+1→∃ v:Nat,t.v=(v:Int)∧v<N∧seen s2 v∧∀ k y,k<t.next→(lk.getD v [])[k]? = some y→seen s2 y.1.toNat:=by
  intro s2 hup hsw t e1 e2
  refine⟨v,by rw [e1,ev],hv,hup v hsv,fun k y hk hy=>?_⟩
  by_cases hkn:k<top.next
  ·exact hup _ (hall k y hkn hy)
  ·have:k=top.next:=by omega
   subst this
   rw [hx'] at hy
   cases hy
   rw [ewt]
   exact hsw
 have hback:∀ t:Stp,t.v=top.v→seen s w→t.next=top.next+1→∀ s':WS,s'.depth=s.depth→s'.from_=s.from_→s'.root=s.root→s'.path=init++[t]→TreeI N l lk s':=by
  intro t e1 hsw e2 s' hD hF hRt hP
  have em:(init++[t]).map Stp.v=s.path.map Stp.v:=by rw [hp];simp [e1]
  refine h.same hD hF hRt (by rw [hP,em];exact h.anc) (fun st hst=>?_) (fun y hy h3=>?_)
  ·rw [hP] at hst
   rcases YJ hst with hst | hst
   ·exact h.way st (hmem st hst)
   ·obtain rfl:=YF hst
    exact hstay s (fun _ h=>h) hsw st e1 e2
  ·rcases h.fin y hy h3 with ⟨st,hst,e⟩ | h4
   ·refine .inl ?_
    rw [hp] at hst
    rcases YJ hst with hst | hst
    ·exact⟨st,by rw [hP];exact List.mem_append_left _ hst,e⟩
    ·obtain rfl:=YF hst
     exact⟨t,by rw [hP];simp,by rw [e1];exact e⟩
   ·exact .inr h4
 unfold lookW
 have hat:at_ s.depth x.1=s.depth.getD w 0:=by unfold at_;rw [ewt]
 have hat2:at_ s.depth top.v=s.depth.getD v 0:=by unfold at_;rw [evt]
 simp only [hat,hat2,ewt]
 by_cases hneg:s.depth.getD w 0<0
 ·rw [if_pos hneg]
  have hsw:¬ seen s w:=fun e=>by unfold seen at e;omega
  have hd:∀ y,(s.depth.set w (s.depth.getD v 0+1)).getD y 0=if w=y then s.depth.getD v 0+1 else s.depth.getD y 0:=fun y=>by
   rw [Qao,h.lenD]
   by_cases e:w=y
   ·rw [if_pos ⟨e,hw⟩,if_pos e]
   ·rw [if_neg (fun a=>e a.1),if_neg e]
  have hf:∀ y,(s.from_.set w top.v).getD y 0=if w=y then top.v else s.from_.getD y 0:=fun y=>by
   rw [Qao,h.lenF]
   by_cases e:w=y
   ·rw [if_pos ⟨e,hw⟩,if_pos e]
   ·rw [if_neg (fun a=>e a.1),if_neg e]
  obtain⟨s2,hs2⟩:∃ s2:WS,s2={ s with root:=s.root.set w (at_ s.root top.v),from_:=s.from_.set w top.v,depth:=s.depth.set w (s.depth.getD v 0+1),path:=init++[{ top with next:=top.next+1 }]++[⟨x.1,x.2,0,s.depth.getD v 0,s.opn.length⟩] }:=⟨_,rfl⟩
  rw [← hs2]
  have d2:∀ y,s2.depth.getD y 0=if w=y then s.depth.getD v 0+1 else s.depth.getD y 0:=fun y=>by rw [hs2];exact hd y
  have f2:∀ y,s2.from_.getD y 0=if w=y then top.v else s.from_.getD y 0:=fun y=>by rw [hs2];exact hf y
  have hat3:at_ s.root top.v=s.root.getD v 0:=by unfold at_;rw [evt]
  have r2:∀ y,s2.root.getD y 0=if w=y then s.root.getD v 0 else s.root.getD y 0:=fun y=>by
   rw [hs2]
   show (s.root.set w (at_ s.root top.v)).getD y 0=_
   rw [Qao,h.lenR,hat3]
   by_cases e:w=y
   ·rw [if_pos ⟨e,hw⟩,if_pos e]
   ·rw [if_neg (fun a=>e a.1),if_neg e]
  have p2:s2.path=init++[{ top with next:=top.next+1 }]++[⟨x.1,x.2,0,s.depth.getD v 0,s.opn.length⟩]:=by rw [hs2]
  have hup:∀ y,seen s y→seen s2 y:=fun y hy=>by
   unfold seen at hy ⊢
   rw [d2]
   split
   ·unfold seen at hsv;omega
   ·exact hy
  have hnw:seen s2 w:=by
   unfold seen at hsv ⊢
   rw [d2,if_pos rfl]
   omega
  have hdn:∀ y,seen s2 y→y≠w→seen s y:=fun y hy hne=>by
   unfold seen at hy ⊢
   rw [d2,if_neg (fun e=>hne e.symm)] at hy
   exact hy
  have hkeep:∀ {u y:Nat},y<N∧seen s y→Anc s.from_ u y→Anc s2.from_ u y:=fun {u y} hy ha=>
   Anc.keep (P:=fun y=>y<N∧seen s y) (fun z hz=>by rw [f2,if_neg (fun e=>by subst e;exact hsw hz.2)]) (fun z q hz hq=>h.closed hz hq) hy ha
  refine⟨by rw [hs2];simpa using h.lenD,by rw [hs2];simpa using h.lenF,by rw [hs2];simpa using h.lenR,fun y hy h3=>?_,?_,fun st hst=>?_,fun y hy h3=>?_⟩
  ·by_cases e:y=w
   ·subst e
    have hne:y≠v:=fun e=>hsw (by rw [e];exact hsv)
    exact .inr ⟨v,hv,by rw [f2,if_pos rfl];exact ev,hup v hsv,hadj,by rw [d2,d2,if_pos rfl,if_neg hne],by rw [r2,r2,if_pos rfl,if_neg hne]⟩
   ·have hne:¬ w=y:=fun a=>e a.symm
    rw [d2,f2,r2,if_neg hne,if_neg hne,if_neg hne]
    rcases h.par y hy (hdn y h3 e) with h4 | ⟨u,a,b,c,d,f,g⟩
    ·exact .inl h4
    ·have hnu:¬ w=u:=fun a=>by subst a;exact hsw c
     exact .inr ⟨u,a,b,hup u c,d,by rw [d2,if_neg hnu];exact f,by rw [r2,if_neg hnu];exact g⟩
  ·rw [p2,List.map_append]
   have em:(init++[{ top with next:=top.next+1 }]).map Stp.v=s.path.map Stp.v:=by rw [hp];simp
   rw [em]
   have hmv:∀ a∈s.path.map Stp.v,∃ z:Nat,a=(z:Int)∧z<N∧seen s z:=fun a ha=>by
    obtain⟨st,hst,rfl⟩:=List.mem_map.1 ha
    obtain⟨z,a,b,c,_⟩:=h.way st hst
    exact⟨z,a,b,c⟩
   refine List.pairwise_append.2 ⟨?_,by simp,fun a ha b hb=>?_⟩
   ·refine h.anc.imp_of_mem fun {a b} ha hb hab=>?_
    obtain⟨z,e1,e2,e3⟩:=hmv b hb
    rw [e1,YM] at hab ⊢
    exact hkeep ⟨e2,e3⟩ hab
   ·have:b=x.1:=by simpa using hb
    rw [this,ewt]
    refine Anc.up (x:=v) (by rw [f2,if_pos rfl];exact ev) ?_
    have h1:=h.anc
    rw [hp,List.map_append] at h1
    rw [hp,List.map_append] at ha
    rcases YJ ha with h2 | h2
    ·have:=(List.pairwise_append.1 h1).2.2 a h2 top.v (by simp)
     rw [evt] at this
     exact hkeep ⟨hv,hsv⟩ this
    ·have:a=top.v:=by simpa using h2
     rw [this,evt]
     exact Anc.refl _ _
  ·rw [p2] at hst
   rcases YJ hst with hst | hst
   ·rcases YJ hst with hst | hst
    ·obtain⟨y,a1,a2,a3,a5⟩:=h.way st (hmem st hst)
     exact⟨y,a1,a2,hup y a3,fun k z hk hz=>hup _ (a5 k z hk hz)⟩
    ·obtain rfl:=YF hst
     exact hstay s2 hup hnw _ rfl rfl
   ·obtain rfl:=YF hst
    exact⟨w,ew,hw,hnw,fun k z hk=>by simp at hk⟩
  ·by_cases e:y=w
   ·subst e
    exact .inl ⟨⟨x.1,x.2,0,s.depth.getD v 0,s.opn.length⟩,by rw [p2];exact List.mem_append_right _ (List.mem_singleton.2 rfl),ew⟩
   ·rcases h.fin y hy (hdn y h3 e) with ⟨st,hst,e2⟩ | h4
    ·refine .inl ?_
     rw [p2]
     rw [hp] at hst
     rcases YJ hst with hst | hst
     ·exact⟨st,List.mem_append_left _ (List.mem_append_left _ hst),e2⟩
     ·obtain rfl:=YF hst
      exact⟨{ st with next:=st.next+1 },List.mem_append_left _ (List.mem_append_right _ (List.mem_singleton.2 rfl)),e2⟩
    ·refine .inr fun z hz=>?_
     obtain⟨g1,g2⟩:=h4 z hz
     have hzN:=(QaY hK.ends hz).2
     refine⟨hup z g1,?_⟩
     rcases g2 with g2 | g2
     ·exact .inl (hkeep ⟨hy,hdn y h3 e⟩ g2)
     ·exact .inr (hkeep ⟨hzN,g1⟩ g2)
 ·rw [if_neg hneg]
  have hsw:seen s w:=by unfold seen;omega
  split
  ·exact hback { top with next:=top.next+1,low:=min top.low (s.depth.getD w 0) } rfl hsw rfl _ rfl rfl rfl rfl
  ·exact hback { top with next:=top.next+1 } rfl hsw rfl _ rfl rfl rfl rfl
theorem TreeI.root {N:Nat}{l:List Ed}{lk:List (List (Int × Int))}{s:WS}{r:Nat}(h:TreeI N l lk s)(hK:LinksOK N l lk)(hp:s.path=[])(hr:r<N)(hs:s.depth.getD r 0<0):
  TreeI N l lk { s with root:=s.root.set r (r:Int),from_:=s.from_.set r (-1),depth:=s.depth.set r 0,path:=s.path++[⟨(r:Int),-1,0,0,0⟩] }:=by
 have hsr:¬ seen s r:=fun e=>by unfold seen at e;omega
 obtain⟨s2,hs2⟩:∃ s2:WS,s2={ s with root:=s.root.set r (r:Int),from_:=s.from_.set r (-1),depth:=s.depth.set r 0,path:=s.path++[⟨(r:Int),-1,0,0,0⟩] }:=⟨_,rfl⟩
 rw [← hs2]
 have d2:∀ y,s2.depth.getD y 0=if r=y then 0 else s.depth.getD y 0:=fun y=>by
  rw [hs2]
  show (s.depth.set r 0).getD y 0=_
  rw [Qao,h.lenD]
  by_cases e:r=y
  ·rw [if_pos ⟨e,hr⟩,if_pos e]
  ·rw [if_neg (fun a=>e a.1),if_neg e]
 have f2:∀ y,s2.from_.getD y 0=if r=y then -1 else s.from_.getD y 0:=fun y=>by
  rw [hs2]
  show (s.from_.set r (-1)).getD y 0=_
  rw [Qao,h.lenF]
  by_cases e:r=y
  ·rw [if_pos ⟨e,hr⟩,if_pos e]
  ·rw [if_neg (fun a=>e a.1),if_neg e]
 have r2:∀ y,s2.root.getD y 0=if r=y then (r:Int) else s.root.getD y 0:=fun y=>by
  rw [hs2]
  show (s.root.set r (r:Int)).getD y 0=_
  rw [Qao,h.lenR]
  by_cases e:r=y
  ·rw [if_pos ⟨e,hr⟩,if_pos e]
  ·rw [if_neg (fun a=>e a.1),if_neg e]
 have p2:s2.path=[⟨(r:Int),-1,0,0,0⟩]:=by rw [hs2];show s.path++_=_;rw [hp];rfl
 have hup:∀ y,seen s y→seen s2 y:=fun y hy=>by
  unfold seen at hy ⊢
  rw [d2]
  split
  ·omega
  ·exact hy
 have hnr:seen s2 r:=by unfold seen;rw [d2,if_pos rfl];exact Int.le_refl 0
 have hdn:∀ y,seen s2 y→y≠r→seen s y:=fun y hy hne=>by
  unfold seen at hy ⊢
  rw [d2,if_neg (fun e=>hne e.symm)] at hy
  exact hy
 have hkeep:∀ {u y:Nat},y<N∧seen s y→Anc s.from_ u y→Anc s2.from_ u y:=fun {u y} hy ha=>
  Anc.keep (P:=fun y=>y<N∧seen s y) (fun z hz=>by rw [f2,if_neg (fun e=>by subst e;exact hsr hz.2)]) (fun z q hz hq=>h.closed hz hq) hy ha
 refine⟨by rw [hs2];simpa using h.lenD,by rw [hs2];simpa using h.lenF,by rw [hs2];simpa using h.lenR,fun y hy h3=>?_,by rw [p2];simp,fun st hst=>?_,fun y hy h3=>?_⟩
 ·by_cases e:y=r
  ·subst e
   exact .inl ⟨by rw [d2,if_pos rfl],by rw [f2,if_pos rfl],by rw [r2,if_pos rfl]⟩
  ·have hne:¬ r=y:=fun a=>e a.symm
   rw [d2,f2,r2,if_neg hne,if_neg hne,if_neg hne]
   rcases h.par y hy (hdn y h3 e) with h4 | ⟨u,a,b,c,d,f,g⟩
   ·exact .inl h4
   ·have hnu:¬ r=u:=fun a=>by subst a;exact hsr c
    exact .inr ⟨u,a,b,hup u c,d,by rw [d2,if_neg hnu];exact f,by rw [r2,if_neg hnu];exact g⟩
 ·rw [p2] at hst
  obtain rfl:=YF hst
  exact⟨r,rfl,hr,hnr,fun k z hk=>by simp at hk⟩
 ·by_cases e:y=r
  ·subst e
   exact .inl ⟨_,by rw [p2];exact List.mem_singleton.2 rfl,rfl⟩
  ·rcases h.fin y hy (hdn y h3 e) with ⟨st,hst,_⟩ | h4
   ·rw [hp] at hst
    simp at hst
   ·refine .inr fun z hz=>?_
    obtain⟨g1,g2⟩:=h4 z hz
    have hzN:=(QaY hK.ends hz).2
    refine⟨hup z g1,?_⟩
    rcases g2 with g2 | g2
    ·exact .inl (hkeep ⟨hy,hdn y h3 e⟩ g2)
    ·exact .inr (hkeep ⟨hzN,g1⟩ g2)
theorem TreeI.step {N M C:Nat}{l:List Ed}{lk:List (List (Int × Int))}{s:WS}(h:TreeI N l lk s)(hO:OkW N M C lk s)(hK:LinksOK N l lk)(hne:s.path≠[]):TreeI N l lk (stepW lk s):=by
 unfold stepW
 cases hl:s.path.getLast? with
 | none=>exact absurd (List.getLast?_eq_none_iff.1 hl) hne
 | some top=>
  have hp:=QbA hl
  simp only
  split
  ·rename_i hn
   exact h.leave hK hp hn
  ·rename_i hn
   have hle:=hO.nxt top (by rw [hp];simp)
   have hlt:top.next<degW lk top.v:=by unfold degW at hle ⊢;omega
   have hx:=YB (l:=lk.getD top.v.toNat []) hlt
   have e:(lk.getD top.v.toNat []).getD top.next (0,0)=(lk.getD top.v.toNat [])[top.next]:=by rw [YC,hx];rfl
   rw [e]
   exact h.look hK hp hx
theorem TreeI.run {N M C:Nat}{l:List Ed}{lk:List (List (Int × Int))}(hK:LinksOK N l lk)(hI:QaS N M lk):∀ (k:Nat) {s:WS},TreeI N l lk s→OkW N M C lk s→pot lk N s≤k→TreeI N l lk (runW lk k s)
 | 0,_,h,_,_=>h
 | k+1,s,h,hO,hk=>by
  rw [runW]
  by_cases hp:s.path=[]
  ·rw [Qbx hp,QbL hp]
   exact h
  ·obtain⟨h1,h2⟩:=hO.step hI hp
   exact TreeI.run hK hI k (h.step hO hK hp) h1 (by omega)
theorem TreeI.start {N M C:Nat}{l:List Ed}{lk:List (List (Int × Int))}(hK:LinksOK N l lk)(hI:QaS N M lk){s:WS}{r:Nat}(h:TreeI N l lk s)(hO:OkW N M C lk s)(hp:s.path=[])(hr:r<N):TreeI N l lk (Qas lk C s r):=by
 unfold Qas
 split
 ·exact h
 ·refine TreeI.run hK hI C (h.root hK hp hr (by omega)) (hO.root hp hr (by omega)) ?_
  have:=QcR hO hp hr (by omega)
  have:=hO.bo
  omega
theorem QcF {N:Nat}{l:List Ed}(hR:RightG (N:Int) l):∀ k,k≤N→TreeI N l (Qay N l) ((List.range k).foldl (Qas (Qay N l) (4*(N+l.length)+4)) (Qak N l.length))
 | 0,_=>by
  have hns:∀ v,v<N→¬ seen (Qak N l.length) v:=fun v hv h=>by
   unfold seen Qak at h
   simp [hv] at h
  exact⟨by simp [Qak],by simp [Qak],by simp [Qak],fun v hv h=>absurd h (hns v hv),by simp [Qak],fun st hst=>by simp [Qak] at hst,fun v hv h=>absurd h (hns v hv)⟩
 | k+1,hk=>by
  obtain⟨h1,h2⟩:=Qct hR k (by omega)
  rw [List.range_succ,List.foldl_append]
  exact (QcF hR k (by omega)).start (QdZ hR) (Qc3 hR) h1 h2 (by omega)
theorem Qa4 {N:Nat}{l:List Ed}(hR:RightG (N:Int) l){v:Nat}(hv:v<N):0≤(walkW N l).depth.getD v 0∧(((walkW N l).depth.getD v 0=0∧(walkW N l).from_.getD v 0 = -1∧(walkW N l).root.getD v 0=(v:Int))∨∃ u:Nat,u<N∧(walkW N l).from_.getD v 0=(u:Int)∧Adj l u v∧(walkW N l).depth.getD v 0=(walkW N l).depth.getD u 0+1∧(walkW N l).root.getD v 0=(walkW N l).root.getD u 0):=by
 have h:=QcF hR N YA
 have hA:=QcH hR N YA
 refine⟨hA.upto v hv,?_⟩
 rcases h.par v hv (hA.upto v hv) with h4 | ⟨u,a,b,_,d,f,g⟩
 ·exact .inl h4
 ·exact .inr ⟨u,a,b,d,f,g⟩
theorem QkP {N:Nat}{l:List Ed}(hR:RightG (N:Int) l){v w:Nat}(hv:v<N)(hw:Adj l v w):Anc (walkW N l).from_ w v∨Anc (walkW N l).from_ v w:=by
 have h:=QcF hR N YA
 have hA:=QcH hR N YA
 have hp:(walkW N l).path=[]:=(Qct hR N YA).2
 rcases h.fin v hv (hA.upto v hv) with ⟨st,hst,_⟩ | h4
 ·have hst':st∈(walkW N l).path:=hst
  rw [hp] at hst'
  simp at hst'
 ·exact (h4 w hw).2
theorem Qgu {N:Nat}{l:List Ed}(hR:RightG (N:Int) l):∀ (k:Nat) (v:Nat),v<N→(walkW N l).depth.getD v 0=(k:Int)→∃ r:Nat,r<N∧(walkW N l).root.getD v 0=(r:Int)∧(walkW N l).depth.getD r 0=0
 | 0,v,hv,hd=>by
  obtain⟨_,h | ⟨u,a,b,c,d,e⟩⟩:=Qa4 hR hv
  ·exact⟨v,hv,h.2.2,h.1⟩
  ·have:=(Qa4 hR a).1
   omega
 | k+1,v,hv,hd=>by
  obtain⟨_,h | ⟨u,a,b,c,d,e⟩⟩:=Qa4 hR hv
  ·omega
  ·obtain⟨r,h1,h2,h3⟩:=Qgu hR k u a (by omega)
   exact⟨r,h1,by rw [e];exact h2,h3⟩
theorem QiO {N:Nat}{l:List Ed}(hR:RightG (N:Int) l){v:Nat}(hv:v<N):(walkW N l).root.getD v 0=(v:Int)↔(walkW N l).depth.getD v 0=0:=by
 constructor
 ·intro h
  have h0:=(Qa4 hR hv).1
  obtain⟨r,h1,h2,h3⟩:=Qgu hR ((walkW N l).depth.getD v 0).toNat v hv (by omega)
  have:r=v:=by omega
  rw [← this]
  exact h3
 ·intro h
  obtain⟨_,h1 | ⟨u,a,b,c,d,e⟩⟩:=Qa4 hR hv
  ·exact h1.2.2
  ·have:=(Qa4 hR a).1
   omega
def Joins (l:List Ed)(k a b:Nat):Prop:=∃ e,l[k]? = some e∧((e.1=(a:Int)∧e.2.1=(b:Int))∨(e.1=(b:Int)∧e.2.1=(a:Int)))
theorem Joins.symm {l:List Ed}{k a b:Nat}(h:Joins l k a b):Joins l k b a:=by
 obtain⟨e,h1,h2⟩:=h
 exact⟨e,h1,h2.symm⟩
theorem Joins.lt {l:List Ed}{k a b:Nat}(h:Joins l k a b):k<l.length:=by
 obtain⟨e,h1,h2⟩:=h
 exact (YE h1).1
theorem Joins.adj {l:List Ed}{k a b:Nat}(h:Joins l k a b):Adj l a b:=by
 obtain⟨e,h1,h2⟩:=h
 refine⟨e,YK h1,?_⟩
 omega
theorem Joins.uniq {l:List Ed}{k a b c d:Nat}(h:Joins l k a b)(h':Joins l k c d):(a=c∧b=d)∨(a=d∧b=c):=by
 obtain⟨e,h1,h2⟩:=h
 obtain⟨e',h1',h2'⟩:=h'
 rw [h1] at h1'
 cases h1'
 omega
theorem QbI {N:Nat}{l:List Ed}(hR:RightG (N:Int) l){a b:Nat}(h:Adj l a b):∃ k,Joins l k a b:=by
 obtain⟨e,he,h1⟩:=h
 obtain⟨k,hk⟩:=List.getElem?_of_mem he
 have:=(hR.each e he).1
 unfold okE at this
 refine⟨k,e,hk,?_⟩
 omega
theorem Joins.ne {N:Nat}{l:List Ed}(hR:RightG (N:Int) l){k a b:Nat}(h:Joins l k a b):a≠b:=by
 obtain⟨e,h1,h2⟩:=h
 have:=(hR.each e (YK h1)).2
 omega
theorem Joins.below {N:Nat}{l:List Ed}(hR:RightG (N:Int) l){k a b:Nat}(h:Joins l k a b):a<N∧b<N:=QaY (Qaw hR) h.adj
theorem Joins.same {N:Nat}{l:List Ed}(hR:RightG (N:Int) l){k j a b:Nat}(h:Joins l k a b)(h':Joins l j a b):k=j:=by
 obtain⟨e,h1,h2⟩:=h
 obtain⟨d,h3,h4⟩:=h'
 obtain⟨hk,ek⟩:=YE h1
 obtain⟨hj,ej⟩:=YE h3
 have r1:=(hR.each e (YK h1)).2
 have r2:=(hR.each d (YK h3)).2
 have key:∀ x y:Nat,(hx:x<l.length)→(hy:y<l.length)→x<y→lo l[x] l[y]=true:=fun x y hx hy hxy=>List.pairwise_iff_getElem.1 hR.rise x y hx hy hxy
 have e1:e.1=d.1:=by omega
 have e2:e.2.1=d.2.1:=by omega
 rcases Nat.lt_trichotomy k j with hlt | heq | hgt
 ·have:=key k j hk hj hlt
  rw [ek,ej] at this
  unfold lo at this
  simp [e1,e2] at this
 ·exact heq
 ·have:=key j k hj hk hgt
  rw [ek,ej] at this
  unfold lo at this
  simp [e1,e2] at this
def EdP (l:List Ed)(D:List Int)(k u w:Nat):Prop:=Joins l k u w∧D.getD u 0<D.getD w 0
theorem EdP.uniq {l:List Ed}{D:List Int}{k u w u' w':Nat}(h:EdP l D k u w)(h':EdP l D k u' w'):u=u'∧w=w':=by
 rcases h.1.uniq h'.1 with h1 | ⟨rfl,rfl⟩
 ·exact h1
 ·have h2:=h.2
  have h3:=h'.2
  omega
theorem Anc.cases {F:List Int}{u v:Nat}(h:Anc F u v):v=u∨∃ x:Nat,F.getD v 0=(x:Int)∧Anc F u x:=by
 obtain⟨ls,hl⟩:=h
 cases ls with
 | nil=>exact .inl hl
 | cons x ls=>exact .inr ⟨x,hl.1,ls,hl.2⟩
theorem Anc.trans {F:List Int}{a b c:Nat}(h:Anc F a b)(h':Anc F b c):Anc F a c:=by
 obtain⟨ls,hl⟩:=h'
 induction ls generalizing c with
 | nil=>
  have e:c=b:=hl
  subst e
  exact h
 | cons x ls ih=>exact .up hl.1 (ih hl.2)
theorem Anc.comp {F:List Int}{a b w:Nat}(h:Anc F a w)(h':Anc F b w):Anc F a b∨Anc F b a:=by
 obtain⟨ls,hl⟩:=h
 induction ls generalizing w with
 | nil=>
  have e:w=a:=hl
  subst e
  exact .inr h'
 | cons x ls ih=>
  rcases h'.cases with rfl | ⟨y,hy,hb⟩
  ·exact .inl ⟨x :: ls,hl⟩
  ·have hx:=hl.1
   have:x=y:=by omega
   subst this
   exact ih hb hl.2
structure Tr (N:Nat)(l:List Ed)(D F:List Int):Prop where
 pos:∀ v,v<N→0≤D.getD v 0
 par:∀ v,v<N→(D.getD v 0=0∧F.getD v 0 = -1)∨∃ u:Nat,u<N∧F.getD v 0=(u:Int)∧D.getD v 0=D.getD u 0+1∧Adj l u v
 edge:∀ k u w,Joins l k u w→Anc F u w∨Anc F w u
theorem Qdg {N:Nat}{l:List Ed}(hR:RightG (N:Int) l):Tr N l (walkW N l).depth (walkW N l).from_:=by
 refine⟨fun v hv=>(Qa4 hR hv).1,fun v hv=>?_,fun k u w h=>?_⟩
 ·rcases (Qa4 hR hv).2 with h | ⟨u,a,b,c,d,e⟩
  ·exact .inl ⟨h.1,h.2.1⟩
  ·exact .inr ⟨u,a,b,d,c⟩
 ·rcases QkP hR (h.below hR).1 h.adj with h1 | h1
  ·exact .inr h1
  ·exact .inl h1
theorem Tr.anc {N:Nat}{l:List Ed}{D F:List Int}(T:Tr N l D F){u v:Nat}(hv:v<N)(h:Anc F u v):u<N∧(u=v∨D.getD u 0<D.getD v 0):=by
 obtain⟨ls,hl⟩:=h
 induction ls generalizing v with
 | nil=>
  have e:v=u:=hl
  subst e
  exact⟨hv,.inl rfl⟩
 | cons x ls ih=>
  have hx:=hl.1
  rcases T.par v hv with ⟨_,h2⟩ | ⟨y,a,b,c,_⟩
  ·omega
  ·have:x=y:=by omega
   subst this
   obtain⟨h3,h4⟩:=ih a hl.2
   refine⟨h3,.inr ?_⟩
   rcases h4 with rfl | h4 <;> omega
theorem Tr.le {N:Nat}{l:List Ed}{D F:List Int}(T:Tr N l D F){u v:Nat}(hv:v<N)(h:Anc F u v):D.getD u 0≤D.getD v 0:=by
 rcases (T.anc hv h).2 with rfl | h1
 ·exact Int.le_refl _
 ·omega
theorem Tr.anti {N:Nat}{l:List Ed}{D F:List Int}(T:Tr N l D F){u v:Nat}(hv:v<N)(h:Anc F u v)(h':Anc F v u):u=v:=by
 obtain⟨hu,h1⟩:=T.anc hv h
 rcases h1 with h1 | h1
 ·exact h1
 ·have:=T.le hu h'
  omega
theorem EdP.anc {N:Nat}{l:List Ed}{D F:List Int}(hR:RightG (N:Int) l)(T:Tr N l D F){k u w:Nat}(h:EdP l D k u w):Anc F u w:=by
 rcases T.edge k u w h.1 with h1 | h1
 ·exact h1
 ·have:=T.le (h.1.below hR).1 h1
  have:=h.2
  omega
theorem Tr.edp {N:Nat}{l:List Ed}{D F:List Int}(hR:RightG (N:Int) l)(T:Tr N l D F){k u w:Nat}(h:Joins l k u w):EdP l D k u w∨EdP l D k w u:=by
 obtain⟨hu,hw⟩:=h.below hR
 rcases T.edge k u w h with h1 | h1
 ·rcases (T.anc hw h1).2 with h2 | h2
  ·exact absurd h2 (h.ne hR)
  ·exact .inl ⟨h,h2⟩
 ·rcases (T.anc hu h1).2 with h2 | h2
  ·exact absurd h2.symm (h.ne hR)
  ·exact .inr ⟨h.symm,h2⟩
def Head (l:List Ed)(D F:List Int)(h:Nat):Prop:=∃ q:Nat,F.getD h 0=(q:Int)∧∀ k u w,EdP l D k u w→Anc F h w→D.getD q 0≤D.getD u 0
def HeadOf (l:List Ed)(D F:List Int)(h w:Nat):Prop:=Anc F h w∧Head l D F h∧∀ y,Anc F y w→Anc F h y→y≠h→¬ Head l D F y
theorem Tr.first {N:Nat}{l:List Ed}{D F:List Int}(hR:RightG (N:Int) l)(T:Tr N l D F){w:Nat}(hw:w<N)(hd:0<D.getD w 0):∃ y,Anc F y w∧Head l D F y:=by
 obtain⟨n,hn⟩:∃ n:Nat,D.getD w 0=(n:Int):=⟨(D.getD w 0).toNat,by omega⟩
 induction n generalizing w with
 | zero=>omega
 | succ n ih=>
  rcases T.par w hw with ⟨h1,_⟩ | ⟨u,a,b,c,_⟩
  ·omega
  ·by_cases hu:D.getD u 0=0
   ·refine⟨w,Anc.refl _ _,u,b,fun k x y h _=>?_⟩
    have:=T.pos x (h.1.below hR).1
    omega
   ·have:=T.pos u a
    obtain⟨y,h1,h2⟩:=ih a (by omega) (by omega)
    exact⟨y,.up b h1,h2⟩
structure LinksP (N:Nat)(l:List Ed)(lk:List (List (Int × Int))):Prop where
 sound:∀ v x,v<N→x∈lk.getD v []→∃ y k:Nat,x=((y:Int),(k:Int))∧y<N∧Joins l k v y
 full:∀ k v y,v<N→Joins l k v y→((y:Int),(k:Int))∈lk.getD v []
theorem linkOf_iff {v:Int}{x:Int × Int}:∀ {l:List Ed} {p:Nat},x∈Qai v p l↔∃ k e,l[k]? = some e∧x.2=((p+k:Nat):Int)∧((e.1=v∧x.1=e.2.1)∨(e.1≠v∧e.2.1=v∧x.1=e.1))
 | [],p=>by simp [Qai]
 | e :: l,p=>by
  rw [Qai,List.mem_append,linkOf_iff (l:=l) (p:=p+1)]
  constructor
  ·rintro (h | ⟨k,d,h1,h2,h3⟩)
   ·refine⟨0,e,rfl,?_⟩
    split at h
    ·rename_i he
     have:=YF h
     subst this
     exact⟨rfl,.inl ⟨he,rfl⟩⟩
    ·rename_i he
     split at h
     ·rename_i he2
      have:=YF h
      subst this
      exact⟨rfl,.inr ⟨he,he2,rfl⟩⟩
     ·simp at h
   ·exact⟨k+1,d,by rw [List.getElem?_cons_succ];exact h1,by rw [h2];congr 1;omega,h3⟩
  ·rintro⟨k,d,h1,h2,h3⟩
   cases k with
   | zero=>
    left
    rw [List.getElem?_cons_zero] at h1
    cases h1
    obtain⟨x1,x2⟩:=x
    simp only at h2 h3
    rcases h3 with ⟨h4,h5⟩ | ⟨h4,h5,h6⟩
    ·rw [if_pos h4]
     exact List.mem_singleton.2 (by rw [h2,h5];rfl)
    ·rw [if_neg h4,if_pos h5]
     exact List.mem_singleton.2 (by rw [h2,h6];rfl)
   | succ k=>
    right
    rw [List.getElem?_cons_succ] at h1
    exact⟨k,d,h1,by rw [h2];congr 1;omega,h3⟩
theorem Ql7 {N:Nat}{l:List Ed}(hR:RightG (N:Int) l):LinksP N l (Qay N l):=by
 refine⟨fun v x hv hx=>?_,fun k v y hv h=>?_⟩
 ·rw [Qa3 hv] at hx
  obtain⟨k,e,h1,h2,h3⟩:=linkOf_iff.1 hx
  have:=(hR.each e (YK h1)).1
  unfold okE at this
  obtain⟨x1,x2⟩:=x
  simp only at h2 h3
  refine⟨x1.toNat,k,?_,?_,e,h1,?_⟩
  ·rw [h2,Nat.zero_add,Int.toNat_of_nonneg (by omega)]
  ·omega
  ·omega
 ·rw [Qa3 hv]
  have hne:=h.ne hR
  obtain⟨e,h1,h2⟩:=h
  refine linkOf_iff.2 ⟨k,e,h1,by simp,?_⟩
  show (e.1=(v:Int)∧(y:Int)=e.2.1)∨(e.1≠(v:Int)∧e.2.1=(v:Int)∧(y:Int)=e.1)
  omega
end Go.Proofs.YtalflecmadacaaaGreat
