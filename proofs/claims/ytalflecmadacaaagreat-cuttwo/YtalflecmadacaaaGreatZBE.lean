import Derived.Test.YtalflecmadacaaaGreatZAL
import Derived.BigQuiet
import Derived.Test.YtalflecmadacaaaGreatZAB
import Derived.Test.YtalflecmadacaaaGreatZAD
import Derived.Test.YtalflecmadacaaaGreatZAA
import Derived.Test.YtalflecmadacaaaGreatZAH
set_option maxRecDepth 100000
set_option maxHeartbeats 8000000
namespace Go.Proofs.YtalflecmadacaaaGreat
open Go Go.Proofs Go.RowKit
theorem QkM (L:List Dt)(hL:L.length≤9223372036854775807)(d:Dt)(sv:Value)(w:World)(h:Drts w.heap.size w sv L):
  Calls Tryz.prog 94 #[sv,.agg #[.int .i64 d.1,.int .i64 d.2]] w fun e w'=>e = .returned (.bool (L.contains d))∧Below w.heap.size w w':=by
 obtain⟨p,c,rfl⟩:=h.len
 obtain⟨d1,d2⟩:=d
 have hb1:Below w.heap.size w (w.alloc (.cells #[.int .i64 d1,.int .i64 d2] 91)):=YD.alloc YA _
 have hX:Blk 91 (w.alloc (.cells #[.int .i64 d1,.int .i64 d2] 91)) w.heap.size [.int .i64 d1,.int .i64 d2]:=heap_alloc_new w _
 have HX:Hid (Blk 91 (w.alloc (.cells #[.int .i64 d1,.int .i64 d2] 91)) w.heap.size [.int .i64 d1,.int .i64 d2]):=hX
 have HB1:Hid (Below w.heap.size w (w.alloc (.cells #[.int .i64 d1,.int .i64 d2] 91))):=hb1
 have HD:Hid (Drts (w.alloc (.cells #[.int .i64 d1,.int .i64 d2] 91)).heap.size (w.alloc (.cells #[.int .i64 d1,.int .i64 d2] 91)) (.slice p L.length c) L):=h.go hb1
 clear hX hb1 h
 go_enter Tryz.func94,Tryz.ntmps94
 go_wp2
 generalize w.alloc (.cells #[.int .i64 d1,.int .i64 d2] 91)=w1 at *
 go_loopw [5] (fun iv wr=>∃ j:Nat,j≤L.length∧iv = .int .i64 j∧Hid (∀ (i:Nat) (hi:i<L.length),i<j→L[i]≠(d1,d2))∧Below w1.heap.size w1 wr) (fun i _=>L.length-(intOf i).toNat)
 case atStart=>exact⟨0,YN,rfl,fun i _ h=>by omega,YD⟩
 case round=>
  obtain⟨j,hj,rfl,HS,hb⟩:=hrel
  have hXr:=HX.out.go hb
  have q0:=hXr.cell (j:=0) rfl
  have q1:=hXr.cell (j:=1) rfl
  have HB:Hid (Below w1.heap.size w1 wr):=hb
  by_cases hlt:j<L.length
  ·have hjl:(j:Int)<(L.length:Int):=by omega
   obtain⟨b,off,rfl,hbb,hcap,c0,c1⟩:=(HD.out.go hb).cellAt hlt
   clear hb hXr
   by_cases he:L[j]=(d1,d2)
   ·have HE:Hid (L.contains (d1,d2)=true):=by
     unfold Hid;rw [List.contains_iff_mem,← he];exact YG hlt
    rw [he] at c0 c1
    clear he HS
    go_wp2
    go_quiet (fail)
    have HB3:Hid (Below w.heap.size w (wr.drewN nq)):=Qaa (HB1.out.trans (HB.out.mono HB1.out.size)) nq
    generalize wr.drewN nq=w5 at HB3 ⊢
    go_wp2
    go_ret
    exact⟨by rw [HE.out];rfl,HB3.out⟩
   ·have HS2:Hid (∀ (i:Nat) (h1:i<L.length),i<j+1→L[i]≠(d1,d2)):=fun i h1 h=>by
     by_cases e:i=j
     ·subst e;exact he
     ·exact HS.out i h1 (by omega)
    have HLT:Hid (j<L.length):=hlt
    generalize hx:L[j]=x at *
    obtain⟨x1,x2⟩:=x
    clear HS hx hlt
    by_cases e1:x1=d1
    ·have e2:(x2==d2)=false:=by
      rw [beq_eq_false_iff_ne]
      intro e2
      exact he (by rw [e1,e2])
     subst e1
     clear he
     go_wp2
     go_quiet (fail)
     have HB3:Hid (Below w1.heap.size w1 (wr.drewN nq)):=Qaa HB.out nq
     generalize wr.drewN nq=w5 at HB3 ⊢
     go_wp2
     exact⟨⟨j+1,HLT.out,by go_num,HS2.out,HB3.out⟩,by have:=HLT.out;simp [intOf];omega⟩
    ·have e2:(x1==d1)=false:=by rw [beq_eq_false_iff_ne];exact e1
     clear he e1
     go_wp2
     go_quiet (fail)
     have HB3:Hid (Below w1.heap.size w1 (wr.drewN nq)):=Qaa HB.out nq
     generalize wr.drewN nq=w5 at HB3 ⊢
     go_wp2
     exact⟨⟨j+1,HLT.out,by go_num,HS2.out,HB3.out⟩,by have:=HLT.out;simp [intOf];omega⟩
  ·obtain rfl:j=L.length:=by omega
   have HE:Hid (L.contains (d1,d2)=false):=by
    unfold Hid
    rw [List.contains_eq_mem,decide_eq_false_iff_not]
    intro hm
    obtain⟨i,hi,e⟩:=List.getElem_of_mem hm
    exact HS.out i hi hi e
   clear HS
   have HB3:Hid (Below w.heap.size w wr):=HB1.out.trans (hb.mono HB1.out.size)
   go_wp2
   go_ret
   exact⟨by rw [HE.out];rfl,HB3.out⟩
theorem QcD {α:Type}{a:List α}{j:Nat}(h:j<a.length):a.take (j+1)=a.take j++[a[j]]:=by rw [List.take_add_one,YB h];rfl
def inB (a:List Int)(x:Int):Bool:=decide (x∈a)
theorem inB_true {a:List Int}{x:Int}:inB a x=true↔x∈a:=by simp [inB]
theorem inB_false {a:List Int}{x:Int}:inB a x=false↔x∉a:=by simp [inB]
theorem Qnp (a:List Int)(y x:Int):inB (a++[y]) x=(inB a x || decide (x=y)):=by simp [inB]
theorem QfP (a:List Int)(ha:a.length≤4194304)(x:Int)(sa:Value)(m:Nat)(w:World)(hA:Ints m w sa a):
  Calls Tryz.prog 54 #[sa,.int .i64 x] w fun r w'=>r = .returned (.bool (inB a x))∧w'=w:=by
 obtain⟨p,c,rfl⟩:=hA.len
 go_enter Tryz.func54,Tryz.ntmps54
 go_wp2
 go_loop [5] (fun i=>∃ j:Nat,j≤a.length∧i = .int .i64 j∧Hid (inB (a.take j) x=false)) (fun i=>a.length-(intOf i).toNat)
 case atStart=>exact⟨0,YN,rfl,inB_false.2 (by simp)⟩
 case round=>
  obtain⟨j,hj,rfl,hr⟩:=hrel
  by_cases hlt:j<a.length
  ·obtain⟨b,off,rfl,hbb,hcap,hc⟩:=hA.open hlt
   have c0:=hc w YD j hlt
   have hjl:(j:Int)<(a.length:Int):=by omega
   by_cases he:a[j]=x
   ·have he':(a[j]==x)=true:=by simpa using he
    have HE:Hid (inB a x=true):=by
     unfold Hid;rw [inB_true,← he];exact YG hlt
    clear hc hr he
    go_wp2
    go_ret
    exact⟨by rw [HE.out];rfl,rfl⟩
   ·have he':(a[j]==x)=false:=by simpa using he
    have HS:Hid (inB (a.take (j+1)) x=false):=by
     unfold Hid
     rw [QcD hlt,Qnp,hr.out]
     simp
     exact fun h=>he h.symm
    clear hc hr he
    go_wp2
    exact⟨⟨j+1,by omega,by go_num,HS⟩,by simp [intOf];omega⟩
  ·obtain rfl:j=a.length:=by omega
   have HE:Hid (inB a x=false):=by have:=hr.out;rwa [List.take_length] at this
   clear hr
   go_wp2
   go_ret
   exact⟨by rw [HE.out];rfl,rfl⟩
def Qb5 (n:Int)(l:List Ed)(c:Int):Bool:=decide (n≤c) && decide ((l.length:Int)≤4*c)
theorem QbO {n:Int}{l:List Ed}{c:Int}(h:Qb5 n l c=true):n≤c∧(l.length:Int)≤4*c:=by simpa [Qb5] using h
theorem Qly (n:Int)(l:List Ed)(c:Int)(h0:0≤c)(h1:c≤1000)(sv:Value)(w:World)(hl:Edges w.heap.size w sv l):
  Calls Tryz.prog 22 #[.agg #[.int .i64 n,sv],.int .i64 c] w fun r w'=>r = .returned (.bool (Qb5 n l c))∧Grew w w':=by
 unfold Qb5
 obtain⟨p,q,rfl⟩:=hl.len
 go_enter Tryz.func22,Tryz.ntmps22
 go_wp2
 all_goals go_ret
 all_goals refine⟨?_,(Grew.refl w).alloc _⟩
 all_goals simp
 all_goals first | done | omega | (simp_all <;> omega)
def endsB (u v:Int)(e:Ed):Bool:=(decide (e.1=u) && decide (e.2.1=v)) || (decide (e.1=v) && decide (e.2.1=u))
def findP (l:List Ed)(u v:Int):Int:=match l.findIdx? (endsB u v) with
 | some i=>i
 | none=>-1
theorem QnB {l:List Ed}{u v:Int}{i:Nat}{x:Ed}(hx:l[i]? = some x)(h:endsB u v x=true)(hno:∀ k y,k<i→l[k]? = some y→endsB u v y=false):findP l u v=i:=by
 unfold findP
 have:l.findIdx? (endsB u v)=some i:=by
  rw [List.findIdx?_eq_some_iff_getElem]
  obtain⟨h1,h2⟩:=YE hx
  exact⟨h1,by rw [h2];exact h,fun j hj=>by simpa using hno j _ hj (YB (by omega))⟩
 rw [this]
theorem QnA {l:List Ed}{u v:Int}(hno:∀ y∈l,endsB u v y=false):findP l u v = -1:=by
 unfold findP
 have:l.findIdx? (endsB u v)=none:=by rw [List.findIdx?_eq_none_iff];exact hno
 rw [this]
def NoneYet (l:List Ed)(u v:Int)(j:Nat):Prop:=∀ k y,k<j→l[k]? = some y→endsB u v y=false
theorem NoneYet.step {l:List Ed}{u v:Int}{j:Nat}(h:NoneYet l u v j){y:Ed}(hy:l[j]? = some y)(hb:endsB u v y=false):NoneYet l u v (j+1):=fun k z hk hz=>by
 by_cases he:k=j
 ·subst he;rw [hy] at hz;cases hz;exact hb
 ·exact h k z (by omega) hz
theorem NoneYet.none {l:List Ed}{u v:Int}(h:NoneYet l u v l.length):findP l u v = -1:=QnA fun y hy=>by
 obtain⟨k,hk,rfl⟩:=List.getElem_of_mem hy
 exact h k _ hk (YB hk)
theorem QhB (n:Int)(l:List Ed)(hlen:l.length≤4194304)(u v:Int)(sv:Value)(w:World)(hl:Edges w.heap.size w sv l):
  Calls Tryz.prog 93 #[.agg #[.int .i64 n,sv],.int .i64 u,.int .i64 v] w fun r w'=>r = .returned (.int .i64 (findP l u v))∧Grew w w':=by
 obtain⟨p,c,rfl⟩:=hl.len
 have hg1:Grew w (w.alloc (.cells #[.int .i64 n,.slice p l.length c] 24)):=(Grew.refl w).alloc _
 go_enter Tryz.func93,Tryz.ntmps93
 go_wp2
 go_loopw [7] (fun i wr=>∃ j:Nat,j≤l.length∧i = .int .i64 j∧Hid (NoneYet l u v j)∧Grew (w.alloc (.cells #[.int .i64 n,.slice p l.length c] 24)) wr) (fun i _=>l.length-(intOf i).toNat)
 case atStart=>exact⟨0,YN,rfl,fun k y hk=>by omega,Grew.refl _⟩
 case round=>
  obtain⟨j,hj,rfl,hr,hg⟩:=hrel
  have q1:wr.cell? ⟨w.heap.size,1,none⟩=some (.slice p l.length c):=(box2 _ hg).2
  by_cases hlt:j<l.length
  ·obtain⟨b,off,rfl,hbb,hcap,hc,-⟩:=hl.open hlt
   obtain⟨c0,c1,c2⟩:=hc wr (hg1.trans hg).below j hlt
   have hjl:(j:Int)<(l.length:Int):=by omega
   have HY:Hid (l[j]? = some l[j]):=YB hlt
   have HI:Hid (∀ y,y=l[j]→l[j]? = some y):=fun y hy=>by rw [hy];exact HY.out
   have hX:Hid (l[j]=(l[j].1,l[j].2.1,l[j].2.2)):=rfl
   clear hc HY
   generalize l[j].1=y1 at c0 hX
   generalize l[j].2.1=y2 at c1 hX
   generalize l[j].2.2=y3 at c2 hX
   have HZ:Hid (l[j]? = some (y1,y2,y3)):=HI.out _ hX.out.symm
   clear HI hX
   by_cases hb:endsB u v (y1,y2,y3)=true
   ·have HF:Hid (findP l u v=j):=QnB HZ.out hb hr.out
    have hb2:(y1=u∧y2=v)∨(y1=v∧y2=u):=by simpa [endsB] using hb
    clear HZ hr hb
    by_cases h0:y1=u
    ·have e0:(y1==u)=true:=by simpa using h0
     by_cases h1:y2=v
     ·have e1:(y2==v)=true:=by simpa using h1
      clear h0 h1 hb2
      go_wp2
      go_ret
      exact⟨by rw [HF.out];rfl,hg1.trans hg⟩
     ·have e1:(y2==v)=false:=by simpa using h1
      have e2:(y1==v)=true:=by simp;omega
      have e3:(y2==u)=true:=by simp;omega
      clear h0 h1 hb2
      go_wp2
      go_ret
      exact⟨by rw [HF.out];rfl,hg1.trans hg⟩
    ·have e0:(y1==u)=false:=by simpa using h0
     have e2:(y1==v)=true:=by simp;omega
     have e3:(y2==u)=true:=by simp;omega
     clear h0 hb2
     go_wp2
     go_ret
     exact⟨by rw [HF.out];rfl,hg1.trans hg⟩
   ·have HN:Hid (NoneYet l u v (j+1)):=hr.out.step HZ.out (by simpa using hb)
    have hb2:¬ ((y1=u∧y2=v)∨(y1=v∧y2=u)):=by simpa [endsB] using hb
    clear HZ hr hb
    by_cases h0:y1=u
    ·have e0:(y1==u)=true:=by simpa using h0
     have e1:(y2==v)=false:=by simp;omega
     by_cases h2:y1=v
     ·have e2:(y1==v)=true:=by simpa using h2
      have e3:(y2==u)=false:=by simp;omega
      clear h0 h2 hb2
      go_wp2
      exact⟨⟨j+1,by omega,by go_num,HN,hg⟩,by simp [intOf];omega⟩
     ·have e2:(y1==v)=false:=by simpa using h2
      clear h0 h2 hb2
      go_wp2
      exact⟨⟨j+1,by omega,by go_num,HN,hg⟩,by simp [intOf];omega⟩
    ·have e0:(y1==u)=false:=by simpa using h0
     by_cases h2:y1=v
     ·have e2:(y1==v)=true:=by simpa using h2
      have e3:(y2==u)=false:=by simp;omega
      clear h0 h2 hb2
      go_wp2
      exact⟨⟨j+1,by omega,by go_num,HN,hg⟩,by simp [intOf];omega⟩
     ·have e2:(y1==v)=false:=by simpa using h2
      clear h0 h2 hb2
      go_wp2
      exact⟨⟨j+1,by omega,by go_num,HN,hg⟩,by simp [intOf];omega⟩
  ·obtain rfl:j=l.length:=by omega
   have HF:Hid (findP l u v = -1):=hr.out.none
   clear hr
   go_wp2
   go_ret
   exact⟨by rw [HF.out];rfl,hg1.trans hg⟩
def UpW (F:List Int):Nat→List Nat→Nat→Prop
 | v,[],u=>v=u
 | v,x :: ls,u=>F.getD v 0=(x:Int)∧UpW F x ls u
def Anc (F:List Int)(u v:Nat):Prop:=∃ ls,UpW F v ls u
theorem Anc.refl (F:List Int)(v:Nat):Anc F v v:=⟨[],rfl⟩
theorem Anc.up {F:List Int}{u v x:Nat}(h:F.getD v 0=(x:Int))(h':Anc F u x):Anc F u v:=by
 obtain⟨ls,hl⟩:=h'
 exact⟨x :: ls,h,hl⟩
theorem Anc.keep {F F':List Int}{P:Nat→Prop}(h1:∀ y,P y→F'.getD y 0=F.getD y 0)(h2:∀ y x:Nat,P y→F.getD y 0=(x:Int)→P x):∀ {u v:Nat},P v→Anc F u v→Anc F' u v:=by
 intro u v hv h
 obtain⟨ls,hl⟩:=h
 refine⟨ls,?_⟩
 induction ls generalizing v with
 | nil=>exact hl
 | cons x ls ih=>exact⟨(h1 v hv).trans hl.1,ih (h2 v x hv hl.1) hl.2⟩
structure TreeI (N:Nat)(l:List Ed)(lk:List (List (Int × Int)))(s:WS):Prop where
 lenD:s.depth.length=N
 lenF:s.from_.length=N
 lenR:s.root.length=N
 par:∀ v,v<N→seen s v→(s.depth.getD v 0=0∧s.from_.getD v 0 = -1∧s.root.getD v 0=(v:Int))∨∃ u:Nat,u<N∧s.from_.getD v 0=(u:Int)∧seen s u∧Adj l u v∧s.depth.getD v 0=s.depth.getD u 0+1∧s.root.getD v 0=s.root.getD u 0
 anc:(s.path.map Stp.v).Pairwise fun x y=>Anc s.from_ x.toNat y.toNat
 way:∀ st∈s.path,∃ v:Nat,st.v=(v:Int)∧v<N∧seen s v∧∀ k x,k<st.next→(lk.getD v [])[k]? = some x→seen s x.1.toNat
 fin:∀ v,v<N→seen s v→(∃ st∈s.path,st.v=(v:Int))∨∀ w,Adj l v w→seen s w∧(Anc s.from_ w v∨Anc s.from_ v w)
theorem TreeI.same {N:Nat}{l:List Ed}{lk:List (List (Int × Int))}{s s':WS}(h:TreeI N l lk s)(hD:s'.depth=s.depth)(hF:s'.from_=s.from_)(hRt:s'.root=s.root)(hA:(s'.path.map Stp.v).Pairwise fun x y=>Anc s.from_ x.toNat y.toNat)
  (h1:∀ st∈s'.path,∃ v:Nat,st.v=(v:Int)∧v<N∧seen s v∧∀ k x,k<st.next→(lk.getD v [])[k]? = some x→seen s x.1.toNat)
  (h2:∀ v,v<N→seen s v→(∃ st∈s'.path,st.v=(v:Int))∨∀ w,Adj l v w→seen s w∧(Anc s.from_ w v∨Anc s.from_ v w)):TreeI N l lk s':=by
 have hs:∀ v,seen s' v↔seen s v:=fun v=>by unfold seen;rw [hD]
 refine⟨by rw [hD];exact h.lenD,by rw [hF];exact h.lenF,by rw [hRt];exact h.lenR,fun v hv h3=>?_,by rw [hF];exact hA,fun st hst=>?_,fun v hv h3=>?_⟩
 ·rw [hD,hF,hRt]
  rcases h.par v hv ((hs v).1 h3) with h4 | ⟨u,a,b,c,d,e⟩
  ·exact .inl h4
  ·exact .inr ⟨u,a,b,(hs u).2 c,d,e⟩
 ·obtain⟨v,a,b,c,d⟩:=h1 st hst
  exact⟨v,a,b,(hs v).2 c,fun k x hk hx=>(hs _).2 (d k x hk hx)⟩
 ·rcases h2 v hv ((hs v).1 h3) with h4 | h4
  ·exact .inl h4
  ·refine .inr fun w hw=>?_
   rw [hF]
   obtain⟨a,b⟩:=h4 w hw
   exact⟨(hs w).2 a,b⟩
theorem TreeI.leave {N:Nat}{l:List Ed}{lk:List (List (Int × Int))}{s:WS}{init:List Stp}{top:Stp}(h:TreeI N l lk s)(hK:LinksOK N l lk)(hp:s.path=init++[top])(hn:top.next=(lk.getD top.v.toNat []).length):TreeI N l lk (Qay s init top):=by
 obtain⟨v,ev,hv,hsv,hall⟩:=h.way top (by rw [hp];simp)
 have hmem:∀ st∈init,st∈s.path:=fun st hst=>by rw [hp];exact List.mem_append_left _ hst
 have hanc:=h.anc
 rw [hp,List.map_append] at hanc
 have hanc':=List.pairwise_append.1 hanc
 have evt:top.v.toNat=v:=by rw [ev];rfl
 rw [evt] at hn
 have key:∀ (path':List Stp),path'.map Stp.v=init.map Stp.v→(∀ st∈path',∃ st'∈init,st.v=st'.v∧st.next=st'.next)→(∀ st∈init,∃ st'∈path',st'.v=st.v)→∀ s':WS,s'.depth=s.depth→s'.from_=s.from_→s'.root=s.root→s'.path=path'→TreeI N l lk s':=by
  intro path' hm hin hout s' hD hF hRt hP
  refine h.same hD hF hRt (by rw [hP,hm];exact hanc'.1) (fun st hst=>?_) (fun y hy h3=>?_)
  ·rw [hP] at hst
   obtain⟨st',hst',e1,e2⟩:=hin st hst
   obtain⟨z,a,b,c,d⟩:=h.way st' (hmem st' hst')
   exact⟨z,by rw [e1];exact a,b,c,by rw [e2];exact d⟩
  ·rcases h.fin y hy h3 with ⟨st,hst,e⟩ | h4
   ·rw [hp] at hst
    rcases YJ hst with hst | hst
    ·obtain⟨st',hst',e'⟩:=hout st hst
     exact .inl ⟨st',by rw [hP];exact hst',by rw [e'];exact e⟩
    ·obtain rfl:=YF hst
     have hyv:y=v:=by omega
     subst hyv
     refine .inr fun w hw=>?_
     obtain⟨x,hx,hxw⟩:=hK.full y w hy hw
     obtain⟨k,hk,hxk⟩:=List.getElem_of_mem hx
     have hsw:=hall k x (by omega) (by rw [YB hk,hxk])
     rw [hxw] at hsw
     refine⟨hsw,?_⟩
     have hwN:=(Qbn hK.ends hw).2
     rcases h.fin w hwN hsw with ⟨st',hst',e'⟩ | h5
     ·rw [hp] at hst'
      rcases YJ hst' with h6 | h6
      ·have:=hanc'.2.2 st'.v (List.mem_map.2 ⟨st',h6,rfl⟩) st.v (by simp)
       rw [e',ev] at this
       exact .inl this
      ·obtain rfl:=YF h6
       have:w=y:=by omega
       subst this
       exact .inl (Anc.refl _ _)
     ·obtain⟨_,h6⟩:=h5 y hw.symm
      exact h6.symm
   ·exact .inr h4
 cases hi:init.getLast? with
 | none=>
  have e:Qay s init top={ s with path:=[] }:=by unfold Qay;rw [hi]
  have hin:init=[]:=List.getLast?_eq_none_iff.1 hi
  rw [e]
  exact key [] (by rw [hin]) (fun st hst=>by simp at hst) (fun st hst=>by rw [hin] at hst;simp at hst) _ rfl rfl rfl rfl
 | some t2=>
  obtain⟨pre,hpre⟩:=List.getLast?_eq_some_iff.1 hi
  by_cases hlow:top.low<at_ s.depth t2.v
  ·have e:Qay s init top={ s with path:=init.dropLast++[{ t2 with low:=min t2.low top.low }] }:=by unfold Qay;rw [hi];simp only [if_pos hlow]
   rw [e]
   have hd:init.dropLast=pre:=by rw [hpre];simp
   refine key (init.dropLast++[{ t2 with low:=min t2.low top.low }]) (by rw [hd,hpre];simp) (fun st hst=>?_) (fun st hst=>?_) _ rfl rfl rfl rfl
   ·rw [hd] at hst
    rcases YJ hst with h6 | h6
    ·exact⟨st,by rw [hpre];exact List.mem_append_left _ h6,rfl,rfl⟩
    ·obtain rfl:=YF h6
     exact⟨t2,by rw [hpre];simp,rfl,rfl⟩
   ·rw [hpre] at hst
    rcases YJ hst with h6 | h6
    ·exact⟨st,by rw [hd];exact List.mem_append_left _ h6,rfl⟩
    ·obtain rfl:=YF h6
     exact⟨{ st with low:=min st.low top.low },by rw [hd];simp,rfl⟩
  ·have e:Qay s init top={ s with path:=init,block:=(s.opn.drop top.opn).foldl (fun b p=>b.set p.toNat top.by_) s.block,opn:=s.opn.take top.opn }:=by unfold Qay;rw [hi];simp only [if_neg hlow]
   rw [e]
   exact key init rfl (fun st hst=>⟨st,hst,rfl,rfl⟩) (fun st hst=>⟨st,hst,rfl⟩) _ rfl rfl rfl rfl
theorem TreeI.closed {N:Nat}{l:List Ed}{lk:List (List (Int × Int))}{s:WS}(h:TreeI N l lk s){v x:Nat}(hv:v<N∧seen s v)(he:s.from_.getD v 0=(x:Int)):x<N∧seen s x:=by
 rcases h.par v hv.1 hv.2 with ⟨_,h2,_⟩ | ⟨u,a,b,c,_⟩
 ·omega
 ·have:x=u:=by omega
  subst this
  exact⟨a,c⟩
theorem TreeI.look {N:Nat}{l:List Ed}{lk:List (List (Int × Int))}{s:WS}{init:List Stp}{top:Stp}{x:Int × Int}(h:TreeI N l lk s)(hK:LinksOK N l lk)(hp:s.path=init++[top])(hx:(lk.getD top.v.toNat [])[top.next]? = some x):TreeI N l lk (lookW s init { top with next:=top.next+1 } x):=by
 have hmem:∀ st∈init,st∈s.path:=fun st hst=>by rw [hp];exact List.mem_append_left _ hst
 obtain⟨v,ev,hv,hsv,hall⟩:=h.way top (by rw [hp];simp)
 have hx':=hx
 rw [ev,YM] at hx'
 obtain⟨w,ew,hw,hadj⟩:=hK.sound v x hv (YK hx')
 have ewt:x.1.toNat=w:=by rw [ew];rfl
 have evt:top.v.toNat=v:=by rw [ev];rfl
 have hstay:∀ s2:WS,(∀ y,seen s y→seen s2 y)→seen s2 w→∀ t:Stp,t.v=top.v→t.next=top.next+1→∃ v:Nat,t.v=(v:Int)∧v<N∧seen s2 v∧∀ k y,k<t.next→(lk.getD v [])[k]? = some y→seen s2 y.1.toNat:=by
  intro s2 hup hsw t e1 e2
  refine⟨v,by rw [e1,ev],hv,hup v hsv,fun k y hk hy=>?_⟩
  by_cases hkn:k<top.next
  ·exact hup _ (hall k y hkn hy)
  ·have:k=top.next:=by omega
   subst this
   rw [hx'] at hy
   cases hy
   rw [ewt]
   exact hsw
 have hback:∀ t:Stp,t.v=top.v→seen s w→t.next=top.next+1→∀ s':WS,s'.depth=s.depth→s'.from_=s.from_→s'.root=s.root→s'.path=init++[t]→TreeI N l lk s':=by
  intro t e1 hsw e2 s' hD hF hRt hP
  have em:(init++[t]).map Stp.v=s.path.map Stp.v:=by rw [hp];simp [e1]
  refine h.same hD hF hRt (by rw [hP,em];exact h.anc) (fun st hst=>?_) (fun y hy h3=>?_)
  ·rw [hP] at hst
   rcases YJ hst with hst | hst
   ·exact h.way st (hmem st hst)
   ·obtain rfl:=YF hst
    exact hstay s (fun _ h=>h) hsw st e1 e2
  ·rcases h.fin y hy h3 with ⟨st,hst,e⟩ | h4
   ·refine .inl ?_
    rw [hp] at hst
    rcases YJ hst with hst | hst
    ·exact⟨st,by rw [hP];exact List.mem_append_left _ hst,e⟩
    ·obtain rfl:=YF hst
     exact⟨t,by rw [hP];simp,by rw [e1];exact e⟩
   ·exact .inr h4
 unfold lookW
 have hat:at_ s.depth x.1=s.depth.getD w 0:=by unfold at_;rw [ewt]
 have hat2:at_ s.depth top.v=s.depth.getD v 0:=by unfold at_;rw [evt]
 simp only [hat,hat2,ewt]
 by_cases hneg:s.depth.getD w 0<0
 ·rw [if_pos hneg]
  have hsw:¬ seen s w:=fun e=>by unfold seen at e;omega
  have hd:∀ y,(s.depth.set w (s.depth.getD v 0+1)).getD y 0=if w=y then s.depth.getD v 0+1 else s.depth.getD y 0:=fun y=>by
   rw [Qav,h.lenD]
   by_cases e:w=y
   ·rw [if_pos ⟨e,hw⟩,if_pos e]
   ·rw [if_neg (fun a=>e a.1),if_neg e]
  have hf:∀ y,(s.from_.set w top.v).getD y 0=if w=y then top.v else s.from_.getD y 0:=fun y=>by
   rw [Qav,h.lenF]
   by_cases e:w=y
   ·rw [if_pos ⟨e,hw⟩,if_pos e]
   ·rw [if_neg (fun a=>e a.1),if_neg e]
  obtain⟨s2,hs2⟩:∃ s2:WS,s2={ s with root:=s.root.set w (at_ s.root top.v),from_:=s.from_.set w top.v,depth:=s.depth.set w (s.depth.getD v 0+1),path:=init++[{ top with next:=top.next+1 }]++[⟨x.1,x.2,0,s.depth.getD v 0,s.opn.length⟩] }:=⟨_,rfl⟩
  rw [← hs2]
  have d2:∀ y,s2.depth.getD y 0=if w=y then s.depth.getD v 0+1 else s.depth.getD y 0:=fun y=>by rw [hs2];exact hd y
  have f2:∀ y,s2.from_.getD y 0=if w=y then top.v else s.from_.getD y 0:=fun y=>by rw [hs2];exact hf y
  have hat3:at_ s.root top.v=s.root.getD v 0:=by unfold at_;rw [evt]
  have r2:∀ y,s2.root.getD y 0=if w=y then s.root.getD v 0 else s.root.getD y 0:=fun y=>by
   rw [hs2]
   show (s.root.set w (at_ s.root top.v)).getD y 0=_
   rw [Qav,h.lenR,hat3]
   by_cases e:w=y
   ·rw [if_pos ⟨e,hw⟩,if_pos e]
   ·rw [if_neg (fun a=>e a.1),if_neg e]
  have p2:s2.path=init++[{ top with next:=top.next+1 }]++[⟨x.1,x.2,0,s.depth.getD v 0,s.opn.length⟩]:=by rw [hs2]
  have hup:∀ y,seen s y→seen s2 y:=fun y hy=>by
   unfold seen at hy ⊢
   rw [d2]
   split
   ·unfold seen at hsv;omega
   ·exact hy
  have hnw:seen s2 w:=by
   unfold seen at hsv ⊢
   rw [d2,if_pos rfl]
   omega
  have hdn:∀ y,seen s2 y→y≠w→seen s y:=fun y hy hne=>by
   unfold seen at hy ⊢
   rw [d2,if_neg (fun e=>hne e.symm)] at hy
   exact hy
  have hkeep:∀ {u y:Nat},y<N∧seen s y→Anc s.from_ u y→Anc s2.from_ u y:=fun {u y} hy ha=>
   Anc.keep (P:=fun y=>y<N∧seen s y) (fun z hz=>by rw [f2,if_neg (fun e=>by subst e;exact hsw hz.2)]) (fun z q hz hq=>h.closed hz hq) hy ha
  refine⟨by rw [hs2];simpa using h.lenD,by rw [hs2];simpa using h.lenF,by rw [hs2];simpa using h.lenR,fun y hy h3=>?_,?_,fun st hst=>?_,fun y hy h3=>?_⟩
  ·by_cases e:y=w
   ·subst e
    have hne:y≠v:=fun e=>hsw (by rw [e];exact hsv)
    exact .inr ⟨v,hv,by rw [f2,if_pos rfl];exact ev,hup v hsv,hadj,by rw [d2,d2,if_pos rfl,if_neg hne],by rw [r2,r2,if_pos rfl,if_neg hne]⟩
   ·have hne:¬ w=y:=fun a=>e a.symm
    rw [d2,f2,r2,if_neg hne,if_neg hne,if_neg hne]
    rcases h.par y hy (hdn y h3 e) with h4 | ⟨u,a,b,c,d,f,g⟩
    ·exact .inl h4
    ·have hnu:¬ w=u:=fun a=>by subst a;exact hsw c
     exact .inr ⟨u,a,b,hup u c,d,by rw [d2,if_neg hnu];exact f,by rw [r2,if_neg hnu];exact g⟩
  ·rw [p2,List.map_append]
   have em:(init++[{ top with next:=top.next+1 }]).map Stp.v=s.path.map Stp.v:=by rw [hp];simp
   rw [em]
   have hmv:∀ a∈s.path.map Stp.v,∃ z:Nat,a=(z:Int)∧z<N∧seen s z:=fun a ha=>by
    obtain⟨st,hst,rfl⟩:=List.mem_map.1 ha
    obtain⟨z,a,b,c,_⟩:=h.way st hst
    exact⟨z,a,b,c⟩
   refine List.pairwise_append.2 ⟨?_,by simp,fun a ha b hb=>?_⟩
   ·refine h.anc.imp_of_mem fun {a b} ha hb hab=>?_
    obtain⟨z,e1,e2,e3⟩:=hmv b hb
    rw [e1,YM] at hab ⊢
    exact hkeep ⟨e2,e3⟩ hab
   ·have:b=x.1:=by simpa using hb
    rw [this,ewt]
    refine Anc.up (x:=v) (by rw [f2,if_pos rfl];exact ev) ?_
    have h1:=h.anc
    rw [hp,List.map_append] at h1
    rw [hp,List.map_append] at ha
    rcases YJ ha with h2 | h2
    ·have:=(List.pairwise_append.1 h1).2.2 a h2 top.v (by simp)
     rw [evt] at this
     exact hkeep ⟨hv,hsv⟩ this
    ·have:a=top.v:=by simpa using h2
     rw [this,evt]
     exact Anc.refl _ _
  ·rw [p2] at hst
   rcases YJ hst with hst | hst
   ·rcases YJ hst with hst | hst
    ·obtain⟨y,a1,a2,a3,a5⟩:=h.way st (hmem st hst)
     exact⟨y,a1,a2,hup y a3,fun k z hk hz=>hup _ (a5 k z hk hz)⟩
    ·obtain rfl:=YF hst
     exact hstay s2 hup hnw _ rfl rfl
   ·obtain rfl:=YF hst
    exact⟨w,ew,hw,hnw,fun k z hk=>by simp at hk⟩
  ·by_cases e:y=w
   ·subst e
    exact .inl ⟨⟨x.1,x.2,0,s.depth.getD v 0,s.opn.length⟩,by rw [p2];exact List.mem_append_right _ (List.mem_singleton.2 rfl),ew⟩
   ·rcases h.fin y hy (hdn y h3 e) with ⟨st,hst,e2⟩ | h4
    ·refine .inl ?_
     rw [p2]
     rw [hp] at hst
     rcases YJ hst with hst | hst
     ·exact⟨st,List.mem_append_left _ (List.mem_append_left _ hst),e2⟩
     ·obtain rfl:=YF hst
      exact⟨{ st with next:=st.next+1 },List.mem_append_left _ (List.mem_append_right _ (List.mem_singleton.2 rfl)),e2⟩
    ·refine .inr fun z hz=>?_
     obtain⟨g1,g2⟩:=h4 z hz
     have hzN:=(Qbn hK.ends hz).2
     refine⟨hup z g1,?_⟩
     rcases g2 with g2 | g2
     ·exact .inl (hkeep ⟨hy,hdn y h3 e⟩ g2)
     ·exact .inr (hkeep ⟨hzN,g1⟩ g2)
 ·rw [if_neg hneg]
  have hsw:seen s w:=by unfold seen;omega
  split
  ·exact hback { top with next:=top.next+1,low:=min top.low (s.depth.getD w 0) } rfl hsw rfl _ rfl rfl rfl rfl
  ·exact hback { top with next:=top.next+1 } rfl hsw rfl _ rfl rfl rfl rfl
theorem TreeI.root {N:Nat}{l:List Ed}{lk:List (List (Int × Int))}{s:WS}{r:Nat}(h:TreeI N l lk s)(hK:LinksOK N l lk)(hp:s.path=[])(hr:r<N)(hs:s.depth.getD r 0<0):
  TreeI N l lk { s with root:=s.root.set r (r:Int),from_:=s.from_.set r (-1),depth:=s.depth.set r 0,path:=s.path++[⟨(r:Int),-1,0,0,0⟩] }:=by
 have hsr:¬ seen s r:=fun e=>by unfold seen at e;omega
 obtain⟨s2,hs2⟩:∃ s2:WS,s2={ s with root:=s.root.set r (r:Int),from_:=s.from_.set r (-1),depth:=s.depth.set r 0,path:=s.path++[⟨(r:Int),-1,0,0,0⟩] }:=⟨_,rfl⟩
 rw [← hs2]
 have d2:∀ y,s2.depth.getD y 0=if r=y then 0 else s.depth.getD y 0:=fun y=>by
  rw [hs2]
  show (s.depth.set r 0).getD y 0=_
  rw [Qav,h.lenD]
  by_cases e:r=y
  ·rw [if_pos ⟨e,hr⟩,if_pos e]
  ·rw [if_neg (fun a=>e a.1),if_neg e]
 have f2:∀ y,s2.from_.getD y 0=if r=y then -1 else s.from_.getD y 0:=fun y=>by
  rw [hs2]
  show (s.from_.set r (-1)).getD y 0=_
  rw [Qav,h.lenF]
  by_cases e:r=y
  ·rw [if_pos ⟨e,hr⟩,if_pos e]
  ·rw [if_neg (fun a=>e a.1),if_neg e]
 have r2:∀ y,s2.root.getD y 0=if r=y then (r:Int) else s.root.getD y 0:=fun y=>by
  rw [hs2]
  show (s.root.set r (r:Int)).getD y 0=_
  rw [Qav,h.lenR]
  by_cases e:r=y
  ·rw [if_pos ⟨e,hr⟩,if_pos e]
  ·rw [if_neg (fun a=>e a.1),if_neg e]
 have p2:s2.path=[⟨(r:Int),-1,0,0,0⟩]:=by rw [hs2];show s.path++_=_;rw [hp];rfl
 have hup:∀ y,seen s y→seen s2 y:=fun y hy=>by
  unfold seen at hy ⊢
  rw [d2]
  split
  ·omega
  ·exact hy
 have hnr:seen s2 r:=by unfold seen;rw [d2,if_pos rfl];exact Int.le_refl 0
 have hdn:∀ y,seen s2 y→y≠r→seen s y:=fun y hy hne=>by
  unfold seen at hy ⊢
  rw [d2,if_neg (fun e=>hne e.symm)] at hy
  exact hy
 have hkeep:∀ {u y:Nat},y<N∧seen s y→Anc s.from_ u y→Anc s2.from_ u y:=fun {u y} hy ha=>
  Anc.keep (P:=fun y=>y<N∧seen s y) (fun z hz=>by rw [f2,if_neg (fun e=>by subst e;exact hsr hz.2)]) (fun z q hz hq=>h.closed hz hq) hy ha
 refine⟨by rw [hs2];simpa using h.lenD,by rw [hs2];simpa using h.lenF,by rw [hs2];simpa using h.lenR,fun y hy h3=>?_,by rw [p2];simp,fun st hst=>?_,fun y hy h3=>?_⟩
 ·by_cases e:y=r
  ·subst e
   exact .inl ⟨by rw [d2,if_pos rfl],by rw [f2,if_pos rfl],by rw [r2,if_pos rfl]⟩
  ·have hne:¬ r=y:=fun a=>e a.symm
   rw [d2,f2,r2,if_neg hne,if_neg hne,if_neg hne]
   rcases h.par y hy (hdn y h3 e) with h4 | ⟨u,a,b,c,d,f,g⟩
   ·exact .inl h4
   ·have hnu:¬ r=u:=fun a=>by subst a;exact hsr c
    exact .inr ⟨u,a,b,hup u c,d,by rw [d2,if_neg hnu];exact f,by rw [r2,if_neg hnu];exact g⟩
 ·rw [p2] at hst
  obtain rfl:=YF hst
  exact⟨r,rfl,hr,hnr,fun k z hk=>by simp at hk⟩
 ·by_cases e:y=r
  ·subst e
   exact .inl ⟨_,by rw [p2];exact List.mem_singleton.2 rfl,rfl⟩
  ·rcases h.fin y hy (hdn y h3 e) with ⟨st,hst,_⟩ | h4
   ·rw [hp] at hst
    simp at hst
   ·refine .inr fun z hz=>?_
    obtain⟨g1,g2⟩:=h4 z hz
    have hzN:=(Qbn hK.ends hz).2
    refine⟨hup z g1,?_⟩
    rcases g2 with g2 | g2
    ·exact .inl (hkeep ⟨hy,hdn y h3 e⟩ g2)
    ·exact .inr (hkeep ⟨hzN,g1⟩ g2)
theorem TreeI.step {N M C:Nat}{l:List Ed}{lk:List (List (Int × Int))}{s:WS}(h:TreeI N l lk s)(hO:OkW N M C lk s)(hK:LinksOK N l lk)(hne:s.path≠[]):TreeI N l lk (stepW lk s):=by
 unfold stepW
 cases hl:s.path.getLast? with
 | none=>exact absurd (List.getLast?_eq_none_iff.1 hl) hne
 | some top=>
  have hp:=QcN hl
  simp only
  split
  ·rename_i hn
   exact h.leave hK hp hn
  ·rename_i hn
   have hle:=hO.nxt top (by rw [hp];simp)
   have hlt:top.next<degW lk top.v:=by unfold degW at hle ⊢;omega
   have hx:=YB (l:=lk.getD top.v.toNat []) hlt
   have e:(lk.getD top.v.toNat []).getD top.next (0,0)=(lk.getD top.v.toNat [])[top.next]:=by rw [YC,hx];rfl
   rw [e]
   exact h.look hK hp hx
theorem TreeI.run {N M C:Nat}{l:List Ed}{lk:List (List (Int × Int))}(hK:LinksOK N l lk)(hI:QbU N M lk):∀ (k:Nat) {s:WS},TreeI N l lk s→OkW N M C lk s→pot lk N s≤k→TreeI N l lk (runW lk k s)
 | 0,_,h,_,_=>h
 | k+1,s,h,hO,hk=>by
  rw [runW]
  by_cases hp:s.path=[]
  ·rw [QcE hp,QcF hp]
   exact h
  ·obtain⟨h1,h2⟩:=hO.step hI hp
   exact TreeI.run hK hI k (h.step hO hK hp) h1 (by omega)
theorem TreeI.start {N M C:Nat}{l:List Ed}{lk:List (List (Int × Int))}(hK:LinksOK N l lk)(hI:QbU N M lk){s:WS}{r:Nat}(h:TreeI N l lk s)(hO:OkW N M C lk s)(hp:s.path=[])(hr:r<N):TreeI N l lk (QaC lk C s r):=by
 unfold QaC
 split
 ·exact h
 ·refine TreeI.run hK hI C (h.root hK hp hr (by omega)) (hO.root hp hr (by omega)) ?_
  have:=QfC hO hp hr (by omega)
  have:=hO.bo
  omega
theorem Qgb {N:Nat}{l:List Ed}(hR:RightG (N:Int) l):∀ k,k≤N→TreeI N l (QaJ N l) ((List.range k).foldl (QaC (QaJ N l) (4*(N+l.length)+4)) (Qau N l.length))
 | 0,_=>by
  have hns:∀ v,v<N→¬ seen (Qau N l.length) v:=fun v hv h=>by
   unfold seen Qau at h
   simp [hv] at h
  exact⟨by simp [Qau],by simp [Qau],by simp [Qau],fun v hv h=>absurd h (hns v hv),by simp [Qau],fun st hst=>by simp [Qau] at hst,fun v hv h=>absurd h (hns v hv)⟩
 | k+1,hk=>by
  obtain⟨h1,h2⟩:=Qhe hR k (by omega)
  rw [List.range_succ,List.foldl_append]
  exact (Qgb hR k (by omega)).start (QfL hR) (QfM hR) h1 h2 (by omega)
theorem Qbq {N:Nat}{l:List Ed}(hR:RightG (N:Int) l){v:Nat}(hv:v<N):0≤(walkW N l).depth.getD v 0∧(((walkW N l).depth.getD v 0=0∧(walkW N l).from_.getD v 0 = -1∧(walkW N l).root.getD v 0=(v:Int))∨∃ u:Nat,u<N∧(walkW N l).from_.getD v 0=(u:Int)∧Adj l u v∧(walkW N l).depth.getD v 0=(walkW N l).depth.getD u 0+1∧(walkW N l).root.getD v 0=(walkW N l).root.getD u 0):=by
 have h:=Qgb hR N YA
 have hA:=Qfr hR N YA
 refine⟨hA.upto v hv,?_⟩
 rcases h.par v hv (hA.upto v hv) with h4 | ⟨u,a,b,_,d,f,g⟩
 ·exact .inl h4
 ·exact .inr ⟨u,a,b,d,f,g⟩
theorem Qge {N:Nat}{l:List Ed}(hR:RightG (N:Int) l):∀ (k:Nat) (v:Nat),v<N→(walkW N l).depth.getD v 0=(k:Int)→∃ r:Nat,r<N∧(walkW N l).root.getD v 0=(r:Int)∧(walkW N l).depth.getD r 0=0
 | 0,v,hv,hd=>by
  obtain⟨_,h | ⟨u,a,b,c,d,e⟩⟩:=Qbq hR hv
  ·exact⟨v,hv,h.2.2,h.1⟩
  ·have:=(Qbq hR a).1
   omega
 | k+1,v,hv,hd=>by
  obtain⟨_,h | ⟨u,a,b,c,d,e⟩⟩:=Qbq hR hv
  ·omega
  ·obtain⟨r,h1,h2,h3⟩:=Qge hR k u a (by omega)
   exact⟨r,h1,by rw [e];exact h2,h3⟩
theorem Qiq {N:Nat}{l:List Ed}(hR:RightG (N:Int) l){v:Nat}(hv:v<N):(walkW N l).root.getD v 0=(v:Int)↔(walkW N l).depth.getD v 0=0:=by
 constructor
 ·intro h
  have h0:=(Qbq hR hv).1
  obtain⟨r,h1,h2,h3⟩:=Qge hR ((walkW N l).depth.getD v 0).toNat v hv (by omega)
  have:r=v:=by omega
  rw [← this]
  exact h3
 ·intro h
  obtain⟨_,h1 | ⟨u,a,b,c,d,e⟩⟩:=Qbq hR hv
  ·exact h1.2.2
  ·have:=(Qbq hR a).1
   omega
def tint1 (L:List Int)(u v:Nat):List Int:=if L.getD u 0≠0∧L.getD v 0=0 then L.set v (3-L.getD u 0) else L
def tint (L:List Int)(e:Ed):List Int:=tint1 (tint1 L e.1.toNat e.2.1.toNat) e.2.1.toNat e.1.toNat
theorem Qby (L:List Int)(u v:Nat):(tint1 L u v).length=L.length:=by unfold tint1;split <;> simp
theorem QcB (L:List Int)(e:Ed):(tint L e).length=L.length:=by unfold tint;rw [Qby,Qby]
theorem QbP:∀ (es:List Ed) (L:List Int),(es.foldl tint L).length=L.length
 | [],_=>rfl
 | e :: es,L=>by rw [List.foldl_cons,QbP es,QcB]
def c0L (N:Nat)(es:List Ed):List Int:=(List.range N).map fun (v:Nat)=>if (labAt N es N).getD v 0=(v:Int) then 1 else 0
def cAt (N:Nat)(es:List Ed):Nat→List Int
 | 0=>c0L N es
 | i+1=>es.foldl tint (cAt N es i)
theorem Qbw (N:Nat)(es:List Ed):∀ i,(cAt N es i).length=N
 | 0=>by simp [cAt,c0L]
 | i+1=>by rw [cAt,QbP,Qbw N es i]
def Cols (L:List Int):Prop:=∀ y,L.getD y 0=0∨L.getD y 0=1∨L.getD y 0=2
theorem QcC {L:List Int}{u v:Nat}(hv:v<L.length)(y:Nat):(tint1 L u v).getD y 0=if L.getD u 0≠0∧L.getD v 0=0∧y=v then 3-L.getD u 0 else L.getD y 0:=by
 unfold tint1
 by_cases h:L.getD u 0≠0∧L.getD v 0=0
 ·rw [if_pos h,Qav]
  by_cases e:v=y
  ·rw [if_pos ⟨e,hv⟩,if_pos ⟨h.1,h.2,e.symm⟩]
  ·rw [if_neg (fun a=>e a.1),if_neg (fun a=>e a.2.2.symm)]
 ·rw [if_neg h,if_neg (fun a=>h ⟨a.1,a.2.1⟩)]
theorem Qdf {L:List Int}{u v:Nat}(hv:v<L.length)(h:Cols L):Cols (tint1 L u v):=by
 intro y
 rw [QcC hv]
 split
 ·rename_i hc
  rcases h u with h1 | h1 | h1 <;> omega
 ·exact h y
theorem Qbz {L:List Int}{u v:Nat}(hv:v<L.length){y:Nat}(hy:L.getD y 0≠0):(tint1 L u v).getD y 0=L.getD y 0:=by
 rw [QcC hv]
 split
 ·rename_i hc
  rw [hc.2.2] at hy
  exact absurd hc.2.1 hy
 ·rfl
theorem Qik {L:List Int}{u v:Nat}(hv:v<L.length)(h:Cols L)(hu:L.getD u 0≠0):(tint1 L u v).getD v 0≠0:=by
 rw [QcC hv]
 split
 ·rcases h u with h1 | h1 | h1 <;> omega
 ·rename_i hc
  exact fun e=>hc ⟨hu,e,rfl⟩
theorem Qgg {L:List Int}{e:Ed}{N:Nat}(hL:L.length=N)(he:e.1.toNat<N∧e.2.1.toNat<N)(h:Cols L):Cols (tint L e):=
 Qdf (by rw [Qby];omega) (Qdf (by omega) h)
theorem Qgf {L:List Int}{e:Ed}{N:Nat}(hL:L.length=N)(he:e.1.toNat<N∧e.2.1.toNat<N){y:Nat}(hy:L.getD y 0≠0):(tint L e).getD y 0=L.getD y 0:=by
 have h1:=Qbz (u:=e.1.toNat) (v:=e.2.1.toNat) (L:=L) (by omega) hy
 have h2:=Qbz (u:=e.2.1.toNat) (v:=e.1.toNat) (L:=tint1 L e.1.toNat e.2.1.toNat) (by rw [Qby];omega) (y:=y) (by rw [h1];exact hy)
 exact h2.trans h1
theorem Qos {L:List Int}{e:Ed}{N:Nat}(hL:L.length=N)(he:e.1.toNat<N∧e.2.1.toNat<N)(h:Cols L):(L.getD e.1.toNat 0≠0→(tint L e).getD e.2.1.toNat 0≠0)∧(L.getD e.2.1.toNat 0≠0→(tint L e).getD e.1.toNat 0≠0):=by
 have hl1:(tint1 L e.1.toNat e.2.1.toNat).length=N:=by rw [Qby];exact hL
 constructor
 ·intro hu
  have h1:=Qik (v:=e.2.1.toNat) (by omega) h hu
  unfold tint
  rw [Qbz (by omega) h1]
  exact h1
 ·intro hv
  have h1:(tint1 L e.1.toNat e.2.1.toNat).getD e.2.1.toNat 0≠0:=by rw [Qbz (by omega) hv];exact hv
  exact Qik (by omega) (Qdf (by omega) h) h1
theorem QeD {N:Nat}:∀ {es:List Ed} {L:List Int},Ends N es→L.length=N→Cols L→Cols (es.foldl tint L)
 | [],_,_,_,h=>h
 | e :: es,L,hE,hL,h=>by
  rw [List.foldl_cons]
  exact QeD (fun x hx=>hE x (List.mem_cons_of_mem _ hx)) (by rw [QcB];exact hL) (Qgg hL (hE e (List.mem_cons_self ..)) h)
theorem Qc5 {N:Nat}:∀ {es:List Ed} {L:List Int},Ends N es→L.length=N→∀ {y:Nat},L.getD y 0≠0→(es.foldl tint L).getD y 0=L.getD y 0
 | [],_,_,_,_,_=>rfl
 | e :: es,L,hE,hL,y,hy=>by
  have h1:=Qgf hL (hE e (List.mem_cons_self ..)) hy
  rw [List.foldl_cons,Qc5 (fun x hx=>hE x (List.mem_cons_of_mem _ hx)) (by rw [QcB];exact hL) (by rw [h1];exact hy),h1]
theorem QlQ {N:Nat}{a b:Nat}:∀ {es:List Ed} {L:List Int},Ends N es→L.length=N→Cols L→Adj es a b→L.getD b 0≠0→(es.foldl tint L).getD a 0≠0
 | [],_,_,_,_,h,_=>by obtain⟨e,he,_⟩:=h;simp at he
 | e :: es,L,hE,hL,hC,h,hb=>by
  have hE':Ends N es:=fun x hx=>hE x (List.mem_cons_of_mem _ hx)
  have he:=hE e (List.mem_cons_self ..)
  have hl:=(QcB L e).trans hL
  rw [List.foldl_cons]
  obtain⟨x,hx,hxe⟩:=h
  rcases List.mem_cons.1 hx with rfl | hx
  ·have hon:=Qos hL he hC
   have:(tint L x).getD a 0≠0:=by
    rcases hxe with ⟨h1,h2⟩ | ⟨h1,h2⟩
    ·rw [← h1];exact hon.2 (by rw [h2];exact hb)
    ·rw [← h2];exact hon.1 (by rw [h1];exact hb)
   rw [Qc5 hE' hl this]
   exact this
  ·exact QlQ hE' hl (Qgg hL he hC) ⟨x,hx,hxe⟩ (by rw [Qgf hL he hb];exact hb)
theorem QdV {N:Nat}{es:List Ed}(hE:Ends N es):∀ i,Cols (cAt N es i)
 | 0=>fun y=>by
  by_cases h:y<N
  ·have:(cAt N es 0).getD y 0=if (labAt N es N).getD y 0=(y:Int) then 1 else 0:=by simp [cAt,c0L,h]
   rw [this]
   split <;> simp
  ·have:(cAt N es 0).getD y 0=0:=by simp [cAt,c0L,h]
   exact .inl this
 | i+1=>QeD hE (Qbw N es i) (QdV hE i)
theorem Qf0 {N:Nat}{es:List Ed}(hE:Ends N es){r:Nat}(hr:r<N)(hlab:(labAt N es N).getD r 0=(r:Int)):∀ (i:Nat) {v:Nat},v<N→ball es i v r=true→(cAt N es i).getD v 0≠0
 | 0,v,hv,h=>by
  have:v=r:=by simpa [ball] using h
  subst this
  have:(cAt N es 0).getD v 0=if (labAt N es N).getD v 0=(v:Int) then 1 else 0:=by simp [cAt,c0L,hv]
  rw [this,if_pos hlab]
  decide
 | i+1,v,hv,h=>by
  show (es.foldl tint (cAt N es i)).getD v 0≠0
  rcases ball_next.1 h with h | ⟨w,ha,h⟩
  ·have:=Qf0 hE hr hlab i hv h
   rw [Qc5 hE (Qbw N es i) this]
   exact this
  ·have hw:w<N:=(Qbn hE ha).2
   exact QlQ hE (Qbw N es i) (QdV hE i) ha (Qf0 hE hr hlab i hw h)
theorem Qmh {N:Nat}{es:List Ed}(hE:Ends N es){v:Nat}(hv:v<N):(cAt N es N).getD v 0≠0:=by
 obtain⟨x,hx,hxN,hxc,hxl⟩:=Qa0 hE hv
 refine Qf0 hE hxN ?_ N hv (Qg3 hE hv hxN hxc)
 rw [← (Qc0 hE hv hxN).2 hxc]
 exact hx
def colD (D:List Int)(y:Nat):Int:=1+D.getD y 0 % 2
def Qi1 (D:List Int)(es:List Ed):Prop:=∀ e∈es,D.getD e.1.toNat 0 % 2≠D.getD e.2.1.toNat 0 % 2
theorem QdB {L D:List Int}{u v:Nat}(hv:v<L.length)(hd:D.getD u 0 % 2≠D.getD v 0 % 2)(h:∀ y,L.getD y 0≠0→L.getD y 0=colD D y):∀ y,(tint1 L u v).getD y 0≠0→(tint1 L u v).getD y 0=colD D y:=by
 intro y
 rw [QcC hv]
 split
 ·rename_i hc
  intro _
  have:=h u hc.1
  rw [this,hc.2.2]
  unfold colD
  omega
 ·exact h y
theorem QeC {N:Nat}{D:List Int}:∀ {es:List Ed} {L:List Int},Ends N es→L.length=N→Qi1 D es→(∀ y,L.getD y 0≠0→L.getD y 0=colD D y)→∀ y,(es.foldl tint L).getD y 0≠0→(es.foldl tint L).getD y 0=colD D y
 | [],_,_,_,_,h=>h
 | e :: es,L,hE,hL,hP,h=>by
  rw [List.foldl_cons]
  have he:=hE e (List.mem_cons_self ..)
  have hp:=hP e (List.mem_cons_self ..)
  refine QeC (fun x hx=>hE x (List.mem_cons_of_mem _ hx)) (by rw [QcB];exact hL) (fun x hx=>hP x (List.mem_cons_of_mem _ hx)) ?_
  exact QdB (by rw [Qby];omega) (Ne.symm hp) (QdB (by omega) hp h)
theorem Qfp {N:Nat}{l:List Ed}(hR:RightG (N:Int) l)(hP:Qi1 (walkW N l).depth l):∀ i y,(cAt N l i).getD y 0≠0→(cAt N l i).getD y 0=colD (walkW N l).depth y
 | 0,y,h=>by
  by_cases hy:y<N
  ·have e:(cAt N l 0).getD y 0=if (labAt N l N).getD y 0=(y:Int) then 1 else 0:=by simp [cAt,c0L,hy]
   rw [e] at h ⊢
   by_cases hr:(labAt N l N).getD y 0=(y:Int)
   ·rw [if_pos hr]
    rw [← Qcz hR] at hr
    have:=(Qiq hR hy).1 hr
    unfold colD
    rw [this]
    rfl
   ·rw [if_neg hr] at h
    exact absurd rfl h
  ·have:(cAt N l 0).getD y 0=0:=by simp [cAt,c0L,hy]
   exact absurd this h
 | i+1,y,h=>QeC (Qao hR) (Qbw N l i) hP (Qfp hR hP i) y h
theorem Qkd {N:Nat}{l:List Ed}(hR:RightG (N:Int) l)(hP:Qi1 (walkW N l).depth l){v:Nat}(hv:v<N):(cAt N l N).getD v 0=colD (walkW N l).depth v:=Qfp hR hP N v (Qmh (Qao hR) hv)
theorem Qii {N:Nat}{l:List Ed}(hR:RightG (N:Int) l)(hc:∀ a b,a<N→Adj l a b→(cAt N l N).getD a 0≠(cAt N l N).getD b 0):∀ (k v:Nat),v<N→(walkW N l).depth.getD v 0=(k:Int)→(cAt N l N).getD v 0=colD (walkW N l).depth v
 | 0,v,hv,hd=>by
  have hr:=(Qiq hR hv).2 hd
  rw [Qcz hR] at hr
  have h0:∀ i,(cAt N l i).getD v 0=1:=fun i=>by
   induction i with
   | zero=>
    have e:(cAt N l 0).getD v 0=if (labAt N l N).getD v 0=(v:Int) then 1 else 0:=by simp [cAt,c0L,hv]
    rw [e,if_pos hr]
   | succ i ih=>exact (Qc5 (Qao hR) (Qbw N l i) (by rw [ih];decide)).trans ih
  rw [h0]
  unfold colD
  rw [hd]
  rfl
 | k+1,v,hv,hd=>by
  obtain⟨_,h | ⟨u,a,b,c,d,e⟩⟩:=Qbq hR hv
  ·omega
  ·have hu:=Qii hR hc k u a (by omega)
   have hne:=hc u v a c
   have h1:=QdV (Qao hR) N v
   have h2:=Qmh (Qao hR) hv
   unfold colD at hu ⊢
   rw [d]
   omega
theorem Qop {N:Nat}{l:List Ed}(hR:RightG (N:Int) l):(∀ e∈l,(cAt N l N).getD e.1.toNat 0≠(cAt N l N).getD e.2.1.toNat 0)↔Qi1 (walkW N l).depth l:=by
 have hE:=Qao hR
 constructor
 ·intro h e he hpar
  have hc:∀ a b,a<N→Adj l a b→(cAt N l N).getD a 0≠(cAt N l N).getD b 0:=fun a b _ hab=>by
   obtain⟨x,hx,⟨rfl,rfl⟩ | ⟨rfl,rfl⟩⟩:=hab
   ·exact h x hx
   ·exact Ne.symm (h x hx)
  have g:∀ v,v<N→(cAt N l N).getD v 0=colD (walkW N l).depth v:=fun v hv=>Qii hR hc ((walkW N l).depth.getD v 0).toNat v hv (by have:=(Qbq hR hv).1;omega)
  refine h e he ?_
  rw [g _ (hE e he).1,g _ (hE e he).2]
  unfold colD
  rw [hpar]
 ·intro hP e he heq
  rw [Qkd hR hP (hE e he).1,Qkd hR hP (hE e he).2] at heq
  unfold colD at heq
  exact hP e he (by omega)
theorem QpH:(Tryz.prog.info? 4).map (fun i=>(i.zero,i.size,i.bytes))=some (some (.bool false),1,1):=by kernel_rfl
theorem Qid (n:Nat):(madeCells (Value.bool false).cells (n*1)).toList=(List.replicate n false).map Value.bool:=by
 apply List.ext_getElem
 ·simp [madeCells]
 ·intro i h1 h2
  simp [madeCells,Value.cells,Nat.mod_one]
theorem Blk.bools {W:World}{g:Nat}{l:List Bool}{t:TypeId}(h:Blk t W g (l.map Value.bool)):Bools W.heap.size W (.slice (some ⟨g,0,none⟩) l.length l.length) l:=
 .inr ⟨g,0,l.length,rfl,h.lt,YA,fun j x hx=>by
  rw [Nat.zero_add]
  exact h.cell (by rw [YH,hx];rfl)⟩
end Go.Proofs.YtalflecmadacaaaGreat
