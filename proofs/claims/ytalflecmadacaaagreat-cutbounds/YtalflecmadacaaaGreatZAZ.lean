import Derived.Test.YtalflecmadacaaaGreatZAH
import Derived.OwnWalk
import Derived.Test.YtalflecmadacaaaGreatZAB
import Derived.Test.YtalflecmadacaaaGreatZAL
import Derived.Test.YtalflecmadacaaaGreatZAK
import Derived.Test.YtalflecmadacaaaGreatZAM
import Derived.Shelf.Bits.Mul64
import Derived.Ground.Names2Prog
import Derived.Test.YtalflecmadacaaaGreatProg
import Derived.Test.YtalflecmadacaaaGreatZAA
set_option maxRecDepth 100000
set_option maxHeartbeats 8000000
namespace Go.Proofs.YtalflecmadacaaaGreat
def SWD (l:List Eg)(s:Nat)(d:List Int):List Nat→Nat→Prop
 | [],_=>False
 | [v],c=>v=s∧c=0∧at' d v=0
 | v :: u :: t,c=>(0≤at' d v∧at' d v≤c)∧∃ e,e∈l∧Jn e u v∧∃ c',c=c'+e.2.2∧SWD l s d (u :: t) c'
theorem SWD.sw {l:List Eg}{s:Nat}{d:List Int}:∀ {L:List Nat} {c:Nat},SWD l s d L c→SW l s L c
 | [],_,h=>h
 | [v],c,h=>⟨h.1,h.2.1⟩
 | v :: u :: t,c,h=>by
  obtain⟨_,e,he,hj,c',hc,h'⟩:=h
  exact⟨e,he,hj,c',hc,h'.sw⟩
theorem SWD.le {l:List Eg}{s:Nat}{d:List Int}:∀ {L:List Nat} {c:Nat} {v:Nat},SWD l s d L c→v∈L→0≤at' d v∧at' d v≤c
 | [],_,_,h,_=>h.elim
 | [x],c,v,h,hv=>by
  have:v=x:=by simpa using hv
  subst this
  have:=h.2.2
  have:=h.2.1
  omega
 | x :: u :: t,c,v,h,hv=>by
  obtain⟨h0,e,he,hj,c',hc,h'⟩:=h
  rcases List.mem_cons.1 hv with h1 | h1
  ·subst h1;exact h0
  ·have:=SWD.le h' h1
   omega
theorem SWD.less {l:List Eg}{s:Nat}{d d':List Int}(hs:at' d' s=0)(hm:Mn d d'):∀ {L:List Nat} {c:Nat},SWD l s d L c→SWD l s d' L c
 | [],_,h=>h
 | [v],c,h=>by
  obtain⟨rfl,h2,h3⟩:=h
  exact⟨rfl,h2,hs⟩
 | v :: u :: t,c,h=>by
  obtain⟨h0,e,he,hj,c',hc,h'⟩:=h
  exact⟨by have:=hm v h0.1;omega,e,he,hj,c',hc,h'.less hs hm⟩
theorem QhD {l:List Eg}{s M:Nat}(hM:∀ e∈l,e.2.2≤M):∀ {L:List Nat} {c:Nat},SW l s L c→c≤L.length*M
 | [],_,h=>h.elim
 | [v],c,h=>by rw [h.2];omega
 | v :: u :: t,c,h=>by
  obtain⟨e,he,hj,c',hc,h'⟩:=h
  have:=QhD hM h'
  have:=hM e he
  have e1:(v :: u :: t).length*M=(u :: t).length*M+M:=Nat.succ_mul _ _
  omega
structure FIT (l:List Eg)(s n:Nat)(D V:List Int)(Q:List (Nat × Nat)):Prop where
 lenD:D.length=n
 lenV:V.length=n
 zero:at' D s=0
 none:at' V s = -1
 reach:∀ v,v<n→(at' D v = -1∧at' V v = -1)∨∃ c:Nat,at' D v=c∧∃ L,SWD l s D (v :: L) c∧(v :: L).Nodup
 via:∀ v,v<n→v≠s→0≤at' D v→∃ i:Nat,at' V v=i∧∃ e,l[i]? = some e∧(e.1=v∨e.2.1=v)∧0≤at' D (oth e v)∧at' D (oth e v)+e.2.2≤at' D v
 chain:∀ v,v<n→0≤at' D v→∃ k,up l V k v=s
 queue:∀ x∈Q,x.2<n∧0≤at' D x.2∧at' D x.2≤x.1
def Opn (l:List Eg)(n:Nat)(D:List Int)(Q:List (Nat × Nat))(u:Nat)(pl:List Nat):Prop:=
 ∀ x,x<n→0≤at' D x→(∃ c:Nat,at' D x=c∧(c,x)∈Q)∨∀ (i:Nat) e,l[i]? = some e→(x=u→i∈pl∨e.1=e.2.1)→∀ b,Jn e x b→0≤at' D b∧at' D b≤at' D x+e.2.2
theorem FIT.perm {l:List Eg}{s n:Nat}{D V:List Int}{Q Q':List (Nat × Nat)}(h:FIT l s n D V Q)(hp:∀ x∈Q',x∈Q):FIT l s n D V Q':=⟨h.lenD,h.lenV,h.zero,h.none,h.reach,h.via,h.chain,fun x hx=>h.queue x (hp x hx)⟩
theorem FIT.ge {l:List Eg}{s n:Nat}{D V:List Int}{Q:List (Nat × Nat)}(h:FIT l s n D V Q){v:Nat}(hv:v<n): -1≤at' D v:=by
 rcases h.reach v hv with h1 | ⟨c,h1,_⟩ <;> omega
theorem FIT.few {l:List Eg}{s n M:Nat}{D V:List Int}{Q:List (Nat × Nat)}(h:FIT l s n D V Q)(hl:∀ e∈l,e.1<n∧e.2.1<n)(hs:s<n)(hM:∀ e∈l,e.2.2≤M){v:Nat}(hv:v<n):at' D v≤((n*M:Nat):Int):=by
 rcases h.reach v hv with h1 | ⟨c,h1,L,h2,h3⟩
 ·omega
 ·have h4:=QhD hM h2.sw
  have h5:=QcY n _ h3 (Qnm hl hs h2.sw)
  have:=Nat.mul_le_mul_right M h5
  omega
theorem FIT.start (l:List Eg){s n:Nat}(hs:s<n){Q:List (Nat × Nat)}(hQ:∀ x,x∈Q↔x=(0,s)):FIT l s n (dist0 n s) ((negs n).set s (-1)) Q∧Opn l n (dist0 n s) Q n []:=by
 have hlen:s<(negs n).length:=by simpa [negs] using hs
 have hV:∀ v,at' ((negs n).set s (-1)) v = -1:=fun v=>by rw [Qbb _ hlen,Qgl];simp
 have hD:∀ v,at' (dist0 n s) v=if v=s then 0 else -1:=fun v=>by unfold dist0;rw [Qbb _ hlen,Qgl]
 refine⟨⟨by simp [dist0,negs],by simp [negs],by rw [hD,if_pos rfl],hV s,fun v hv=>?_,fun v hv hne h0=>?_,fun v hv h0=>?_,fun x hx=>?_⟩,fun x hx h0=>?_⟩
 ·by_cases e:v=s
  ·subst e
   exact .inr ⟨0,by rw [hD,if_pos rfl];rfl,[],⟨rfl,rfl,by rw [hD,if_pos rfl]⟩,by simp⟩
  ·exact .inl ⟨by rw [hD,if_neg e],hV v⟩
 ·rw [hD,if_neg hne] at h0;omega
 ·by_cases e:v=s
  ·exact⟨0,e⟩
  ·rw [hD,if_neg e] at h0;omega
 ·rw [(hQ x).1 hx]
  exact⟨hs,by rw [hD,if_pos rfl];simp,by rw [hD,if_pos rfl];simp⟩
 ·by_cases e:x=s
  ·subst e
   exact .inl ⟨0,by rw [hD,if_pos rfl];rfl,(hQ _).2 rfl⟩
  ·rw [hD,if_neg e] at h0;omega
theorem FIT.par {l:List Eg}{s n:Nat}{D V:List Int}{Q:List (Nat × Nat)}(h:FIT l s n D V Q)(hl:∀ e∈l,e.1<n∧e.2.1<n){v:Nat}(hv:v<n)(h0:0≤at' D v):par l V v<n∧0≤at' D (par l V v)∧at' D (par l V v)≤at' D v:=by
 by_cases e:v=s
 ·subst e
  rw [QcS h.none]
  exact⟨hv,h0,Int.le_refl _⟩
 ·obtain⟨i,hi,e',he,hx,h1,h2⟩:=h.via v hv e h0
  have hp:Go.Proofs.YtalflecmadacaaaGreat.par l V v=oth e' v:=by
   unfold Go.Proofs.YtalflecmadacaaaGreat.par
   rw [if_neg (by omega),hi]
   have:l.getD i (0,0,0)=e':=by simp [List.getD,he]
   rw [YM,this]
  rw [hp]
  have hm:=hl e' (YK he)
  refine⟨?_,h1,by omega⟩
  rcases Qfh hx with ⟨a,b⟩ | ⟨a,b⟩ <;> omega
theorem FIT.up {l:List Eg}{s n:Nat}{D V:List Int}{Q:List (Nat × Nat)}(h:FIT l s n D V Q)(hl:∀ e∈l,e.1<n∧e.2.1<n):∀ (k v:Nat),v<n→0≤at' D v→up l V k v<n∧0≤at' D (up l V k v)∧at' D (up l V k v)≤at' D v
 | 0,v,hv,h0=>⟨hv,h0,Int.le_refl _⟩
 | k+1,v,hv,h0=>by
  obtain⟨h1,h2,h3⟩:=h.par hl hv h0
  obtain⟨h4,h5,h6⟩:=FIT.up h hl k (Go.Proofs.YtalflecmadacaaaGreat.par l V v) h1 h2
  exact⟨h4,h5,Int.le_trans h6 h3⟩
theorem Qlw {l:List Eg}{V:List Int}{b:Nat}(hb:b<V.length)(i:Int){x:Nat}(hx:x≠b):par l (V.set b i) x=par l V x:=by
 unfold par
 rw [Qbb _ hb,if_neg hx]
theorem Qoz {l:List Eg}{V:List Int}{b:Nat}(hb:b<V.length)(i:Int):∀ (k x:Nat),(∀ j,up l V j x≠b)→up l (V.set b i) k x=up l V k x
 | 0,x,_=>rfl
 | k+1,x,h=>by
  show up l (V.set b i) k (par l (V.set b i) x)=up l V k (par l V x)
  rw [Qlw (x:=x) hb i (h 0)]
  exact Qoz hb i k _ fun j=>h (j+1)
theorem FIT.come {l:List Eg}{s n:Nat}{D V:List Int}{Q:List (Nat × Nat)}(h:FIT l s n D V Q)(hl:∀ e∈l,e.1<n∧e.2.1<n){i u b c:Nat}{e:Eg}(he:l[i]? = some e)(hj:Jn e u b)(hu:u<n)(hb:b<n)(hc:at' D u=c)
  (hnew:at' D b = -1∨((c+e.2.2:Nat):Int)<at' D b) {Q':List (Nat × Nat)} (hQ:∀ x∈Q',x=(c+e.2.2,b)∨x∈Q):FIT l s n (D.set b ((c+e.2.2:Nat):Int)) (V.set b (i:Int)) Q':=by
 have hbD:b<D.length:=by rw [h.lenD];exact hb
 have hbV:b<V.length:=by rw [h.lenV];exact hb
 have hem:=YK he
 have hbs:b≠s:=by
  intro x
  subst x
  have:=h.zero
  omega
 have hD:∀ v,at' (D.set b ((c+e.2.2:Nat):Int)) v=if v=b then ((c+e.2.2:Nat):Int) else at' D v:=Qbb _ hbD
 have hV:∀ v,at' (V.set b (i:Int)) v=if v=b then (i:Int) else at' V v:=Qbb _ hbV
 have hub:u≠b:=by
  intro x
  subst x
  omega
 have hno:at' D b = -1∨at' D u<at' D b:=by omega
 have hzero':at' (D.set b ((c+e.2.2:Nat):Int)) s=0:=by rw [hD,if_neg (Ne.symm hbs)];exact h.zero
 have hbefore:∀ k x,x<n→0≤at' D x→at' D x≤at' D u→Go.Proofs.YtalflecmadacaaaGreat.up l V k x≠b:=by
  intro k x hx h0 hle e'
  have:=h.up hl k x hx h0
  rw [e'] at this
  omega
 have hsame:∀ k,Go.Proofs.YtalflecmadacaaaGreat.up l (V.set b (i:Int)) k u=Go.Proofs.YtalflecmadacaaaGreat.up l V k u:=fun k=>Qoz hbV _ k u fun j=>hbefore j u hu (by omega) (Int.le_refl _)
 have hpb:Go.Proofs.YtalflecmadacaaaGreat.par l (V.set b (i:Int)) b=u:=by
  unfold Go.Proofs.YtalflecmadacaaaGreat.par
  rw [hV,if_pos rfl,if_neg (by omega),YM]
  have:l.getD i (0,0,0)=e:=by simp [List.getD,he]
  rw [this]
  exact Qfg hj
 have hMn:Mn D (D.set b ((c+e.2.2:Nat):Int)):=fun v hv=>by
  rw [hD]
  split
  ·rename_i e';subst e';omega
  ·omega
 have hge:∀ v,v<n→-1≤at' D v:=fun v hv=>h.ge hv
 refine⟨by simp [h.lenD],by simp [h.lenV],hzero',by rw [hV,if_neg (Ne.symm hbs)];exact h.none,fun v hv=>?_,fun v hv hne h0=>?_,fun v hv h0=>?_,fun x hx=>?_⟩
 ·by_cases e':v=b
  ·subst e'
   refine .inr ⟨c+e.2.2,by rw [hD,if_pos rfl],?_⟩
   rcases h.reach u hu with h1 | ⟨c1,h1,L,h2,h3⟩
   ·omega
   ·obtain rfl:c1=c:=by omega
    refine⟨u :: L,⟨?_,e,hem,hj,c1,rfl,h2.less hzero' hMn⟩,List.nodup_cons.2 ⟨fun hm=>?_,h3⟩⟩
    ·rw [hD,if_pos rfl];omega
    ·have:=h2.le hm
     omega
  ·rcases h.reach v hv with h1 | ⟨c1,h1,L,h2,h3⟩
   ·exact .inl ⟨by rw [hD,if_neg e'];exact h1.1,by rw [hV,if_neg e'];exact h1.2⟩
   ·exact .inr ⟨c1,by rw [hD,if_neg e'];exact h1,L,h2.less hzero' hMn,h3⟩
 ·by_cases e':v=b
  ·subst e'
   refine⟨i,by rw [hV,if_pos rfl],e,he,?_,?_⟩
   ·rcases hj with ⟨x,y⟩ | ⟨x,y⟩
    ·exact .inr y
    ·exact .inl x
   ·rw [Qfg hj,hD,hD,if_pos rfl,if_neg hub];omega
  ·rw [hD,if_neg e'] at h0
   obtain⟨i1,k1,e1,k2,k3,k4,k5⟩:=h.via v hv hne h0
   have:=hMn _ k4
   exact⟨i1,by rw [hV,if_neg e'];exact k1,e1,k2,k3,this.1,by rw [hD v,if_neg e'];omega⟩
 ·have hu':∃ k,Go.Proofs.YtalflecmadacaaaGreat.up l (V.set b (i:Int)) k u=s:=by
   obtain⟨k,hk⟩:=h.chain u hu (by omega)
   exact⟨k,by rw [hsame];exact hk⟩
  have hb':∃ k,Go.Proofs.YtalflecmadacaaaGreat.up l (V.set b (i:Int)) k b=s:=by
   obtain⟨k,hk⟩:=hu'
   exact⟨k+1,by show Go.Proofs.YtalflecmadacaaaGreat.up l (V.set b (i:Int)) k (Go.Proofs.YtalflecmadacaaaGreat.par l (V.set b (i:Int)) b)=s;rw [hpb];exact hk⟩
  have hall:∀ k x,Go.Proofs.YtalflecmadacaaaGreat.up l V k x=s→∃ k',Go.Proofs.YtalflecmadacaaaGreat.up l (V.set b (i:Int)) k' x=s:=by
   intro k
   induction k with
   | zero=>intro x hx;exact⟨0,hx⟩
   | succ k ih=>
    intro x hx
    by_cases e':x=b
    ·subst e';exact hb'
    ·obtain⟨k',hk'⟩:=ih (Go.Proofs.YtalflecmadacaaaGreat.par l V x) hx
     exact⟨k'+1,by show Go.Proofs.YtalflecmadacaaaGreat.up l (V.set b (i:Int)) k' (Go.Proofs.YtalflecmadacaaaGreat.par l (V.set b (i:Int)) x)=s;rw [Qlw hbV _ e'];exact hk'⟩
  by_cases e':v=b
  ·subst e';exact hb'
  ·rw [hD,if_neg e'] at h0
   obtain⟨k,hk⟩:=h.chain v hv h0
   exact hall k v hk
 ·rcases hQ x hx with h1 | h1
  ·subst h1
   exact⟨hb,by rw [hD,if_pos rfl];omega,by rw [hD,if_pos rfl];exact Int.le_refl _⟩
  ·obtain⟨k1,k2,k3⟩:=h.queue x h1
   have:=hMn _ k2
   exact⟨k1,this.1,by omega⟩
theorem Opn.come {l:List Eg}{n:Nat}{D:List Int}{Q:List (Nat × Nat)}{i u b c:Nat}{pl:List Nat}{e:Eg}(h:Opn l n D Q u pl)(hlen:D.length=n)(he:l[i]? = some e)(hj:Jn e u b)(hne:u≠b)(hb:b<n)(hc:at' D u=c)
  (hnew:at' D b = -1∨((c+e.2.2:Nat):Int)<at' D b) {Q':List (Nat × Nat)} (hQ1:(c+e.2.2,b)∈Q') (hQ2:∀ x∈Q,x∈Q'):Opn l n (D.set b ((c+e.2.2:Nat):Int)) Q' u (i :: pl):=by
 have hbD:b<D.length:=by rw [hlen];exact hb
 have hD:∀ v,at' (D.set b ((c+e.2.2:Nat):Int)) v=if v=b then ((c+e.2.2:Nat):Int) else at' D v:=Qbb _ hbD
 have hMn:Mn D (D.set b ((c+e.2.2:Nat):Int)):=fun v hv=>by
  rw [hD]
  split
  ·rename_i e';subst e';omega
  ·omega
 intro x hx h0
 by_cases e':x=b
 ·subst e'
  exact .inl ⟨c+e.2.2,by rw [hD,if_pos rfl],hQ1⟩
 ·rw [hD,if_neg e'] at h0
  rcases h x hx h0 with ⟨c1,k1,k2⟩ | k
  ·exact .inl ⟨c1,by rw [hD,if_neg e'];exact k1,hQ2 _ k2⟩
  ·refine .inr fun i1 e1 h1 h2 b1 h3=>?_
   rw [hD x,if_neg e']
   by_cases ei:x=u∧i1=i
   ·obtain⟨rfl,rfl⟩:=ei
    rw [he] at h1
    obtain rfl:=Option.some.inj h1
    have hb1:b1=b:=by
     have:=Qfg h3.symm
     have:=Qfg hj.symm
     omega
    subst hb1
    rw [hD,if_pos rfl]
    omega
   ·have:=k i1 e1 h1 (fun hxu=>by
     rcases h2 hxu with h4 | h4
     ·rcases List.mem_cons.1 h4 with h5 | h5
      ·exact absurd ⟨hxu,h5⟩ ei
      ·exact .inl h5
     ·exact .inr h4) b1 h3
    have:=hMn _ this.1
    omega
theorem Opn.skip {l:List Eg}{n:Nat}{D:List Int}{Q:List (Nat × Nat)}{i u b c:Nat}{pl:List Nat}{e:Eg}(h:Opn l n D Q u pl)(he:l[i]? = some e)(hj:Jn e u b)(hc:at' D u=c)(hold:0≤at' D b∧at' D b≤((c+e.2.2:Nat):Int)):Opn l n D Q u (i :: pl):=by
 intro x hx h0
 rcases h x hx h0 with k | k
 ·exact .inl k
 ·refine .inr fun i1 e1 h1 h2 b1 h3=>?_
  by_cases ei:x=u∧i1=i
  ·obtain⟨rfl,rfl⟩:=ei
   rw [he] at h1
   obtain rfl:=Option.some.inj h1
   have hb1:b1=b:=by
    have:=Qfg h3.symm
    have:=Qfg hj.symm
    omega
   subst hb1
   omega
  ·exact k i1 e1 h1 (fun hxu=>by
    rcases h2 hxu with h4 | h4
    ·rcases List.mem_cons.1 h4 with h5 | h5
     ·exact absurd ⟨hxu,h5⟩ ei
     ·exact .inl h5
    ·exact .inr h4) b1 h3
theorem Opn.stale {l:List Eg}{n:Nat}{D:List Int}{Q Q':List (Nat × Nat)}{c v:Nat}(h:Opn l n D Q n [])(hst:at' D v≠(c:Int))(hQ:∀ x∈Q,x=(c,v)∨x∈Q'):Opn l n D Q' n []:=by
 intro x hx h0
 rcases h x hx h0 with ⟨c1,k1,k2⟩ | k
 ·refine .inl ⟨c1,k1,(hQ _ k2).resolve_left fun e=>?_⟩
  have e1:=congrArg Prod.fst e
  have e2:=congrArg Prod.snd e
  simp only at e1 e2
  subst e1 e2
  exact hst k1
 ·exact .inr k
theorem Opn.take {l:List Eg}{n:Nat}{D:List Int}{Q Q':List (Nat × Nat)}{c v:Nat}(h:Opn l n D Q n [])(hQ:∀ x∈Q,x=(c,v)∨x∈Q'):Opn l n D Q' v []:=by
 intro x hx h0
 by_cases e:x=v
 ·subst e
  refine .inr fun i e he h2 b hj=>?_
  rcases h2 rfl with h3 | h3
  ·simp at h3
  ·have:b=x:=by rcases hj with ⟨a,b⟩ | ⟨a,b⟩ <;> omega
   subst this
   omega
 ·rcases h x hx h0 with ⟨c1,k1,k2⟩ | k
  ·exact .inl ⟨c1,k1,(hQ _ k2).resolve_left fun e'=>e (congrArg Prod.snd e')⟩
  ·exact .inr fun i e1 h1 _ b hj=>k i e1 h1 (fun hxn=>absurd hxn (by omega)) b hj
theorem Opn.full {l:List Eg}{n:Nat}{D:List Int}{Q:List (Nat × Nat)}{v:Nat}{pl:List Nat}(h:Opn l n D Q v pl)(hpl:∀ (i:Nat) e,l[i]? = some e→(e.1=v∨e.2.1=v)→i∈pl∨e.1=e.2.1):Opn l n D Q n []:=by
 intro x hx h0
 rcases h x hx h0 with k | k
 ·exact .inl k
 ·refine .inr fun i e1 h1 _ b hj=>k i e1 h1 (fun hxv=>?_) b hj
  subst hxv
  exact hpl i e1 h1 (by rcases hj with ⟨a,b⟩ | ⟨a,b⟩;exact .inl a;exact .inr b)
theorem FIT.okc {l:List Eg}{s n:Nat}{D V:List Int}(h:FIT l s n D V [])(ho:Opn l n D [] n [])(hl:∀ e∈l,e.1<n∧e.2.1<n):OKc l s n D V:=by
 have hstep:∀ e∈l,∀ a b,Jn e a b→a<n→0≤at' D a→0≤at' D b∧at' D b≤at' D a+e.2.2:=by
  intro e he a b hj ha h0
  obtain⟨i,hi⟩:=List.getElem?_of_mem he
  rcases ho a ha h0 with ⟨c,_,hc⟩ | k
  ·simp at hc
  ·exact k i e hi (fun hx=>absurd hx (by omega)) b hj
 have hkept:∀ e∈l,Kept D e:=by
  intro e he
  obtain⟨h1,h2⟩:=hl e he
  have a:=hstep e he e.1 e.2.1 (.inl ⟨rfl,rfl⟩) h1
  have b:=hstep e he e.2.1 e.1 (.inr ⟨rfl,rfl⟩) h2
  have c:=h.ge h1
  have c':=h.ge h2
  by_cases k:0≤at' D e.1
  ·exact .inr (by have:=a k;have:=b this.1;omega)
  ·by_cases k':0≤at' D e.2.1
   ·have:=b k';omega
   ·exact .inl (by omega)
 refine⟨QpU h.lenD h.zero hkept fun v hv=>?_,h.lenV,h.none,fun v hv hne=>?_,h.chain⟩
 ·rcases h.reach v hv with h1 | ⟨c,h1,L,h2,_⟩
  ·exact .inl h1.1
  ·exact .inr ⟨L,c,h1,h2.sw⟩
 ·rcases h.reach v hv with h1 | ⟨c,h1,_⟩
  ·exact .inl ⟨by omega,h1.2⟩
  ·have h0:0≤at' D v:=by omega
   obtain⟨i,k1,e,k2,k3,k4,k5⟩:=h.via v hv hne h0
   have hm:=YK k2
   have:=Qib (hkept e hm) (Qfh k3) k4
   exact .inr ⟨h0,i,k1,e,k2,k3,by omega⟩
def potI (B:Nat)(x:Int):Nat:=if x<0 then B else x.toNat
def potT (B:Nat)(D:List Int):Nat:=(D.map (potI B)).sum
theorem QkU:∀ (L:List Nat)(i x:Nat)(h:i<L.length) ,(L.set i x).sum+L[i]=L.sum+x
 | [],i,x,h=>by simp at h
 | y :: L,0,x,h=>by simp;omega
 | y :: L,i+1,x,h=>by
  have:=QkU L i x (by simpa using h)
  simp at this ⊢
  omega
theorem QnD {B:Nat}{D:List Int}{b:Nat}(hb:b<D.length){x:Nat}(hx:x<B)(hnew:at' D b = -1∨(x:Int)<at' D b):potT B (D.set b (x:Int))<potT B D:=by
 unfold potT
 rw [List.map_set]
 have hl:b<(D.map (potI B)).length:=by simpa using hb
 have h1:=QkU (D.map (potI B)) b (potI B (x:Int)) hl
 have h2:(D.map (potI B))[b]=potI B (at' D b):=by rw [QbH hb];simp
 have h3:potI B (x:Int)=x:=by unfold potI;rw [if_neg (by omega)];simp
 have h4:x<potI B (at' D b):=by
  unfold potI
  split <;> omega
 omega
open Go Go.Proofs Go.RowKit
def iotaL (N j:Nat):List Nat:=List.range j++List.replicate (N-j) 0
theorem Qmj {N j:Nat}(h:j≤N):(iotaL N j).length=N:=by simp [iotaL];omega
theorem Qmi {N j:Nat}(h:j<N):(iotaL N j).set j j=iotaL N (j+1):=by
 unfold iotaL
 rw [List.set_append_right _ _ (by simp),List.length_range,Nat.sub_self]
 obtain⟨m,hm⟩:∃ m,N-j=m+1:=⟨N-j-1,by omega⟩
 rw [hm,List.replicate_succ,List.set_cons_zero,show N-(j+1)=m from by omega,List.range_succ,List.append_assoc]
 rfl
theorem Qj8 (N:Nat):iotaL N N=List.range N:=by simp [iotaL]
theorem Qfi (N:Nat):(List.replicate N (0:Int)).map (Value.int .i64)=natsV (iotaL N 0):=by simp [natsV,iotaL]
def leadL (N:Nat)(R:Nat→Nat):List Nat:=(List.range N).map R
theorem Qn3 {N:Nat}{P:List Nat}{R:Nat→Nat}(hP:P.length=N)(h:∀ i,i<N→pf P i=R i):P=leadL N R:=by
 apply List.ext_getElem
 ·simp [leadL,hP]
 ·intro i h1 h2
  have:=h i (by omega)
  rw [pf,YC,YB h1] at this
  simpa [leadL] using this
theorem Qck {N v:Nat}{R:Nat→Nat}(h:v<N):(natsV (leadL N R))[v]? = some (.int .i64 (R v:Int)):=by simp [natsV,leadL,h]
theorem Qia (N:Nat)(L:List Eg)(hN:N≤1048576)(hm:L.length≤4194304)(hE:∀ e∈L,e.1<N∧e.2.1<N)(sv:Value)(w:World)(hl:Edges w.heap.size w sv (L.map edE)):
  Calls Tryz.prog 60 #[.agg #[.int .i64 (N:Int),sv]] w fun r w'=>∃ (g:Nat) (R:Nat→Nat),r = .returned (.slice (some ⟨g,0,none⟩) N N)∧LeadP L N R∧Blk 3 w' g (natsV (leadL N R))∧Below w.heap.size w w'∧w.heap.size≤g:=by
 have hmix:=mixed
 obtain⟨p,c,rfl⟩:=hl.lenG
 obtain⟨i0,hi,hz0,hz1,hz2⟩:=info_parts infoI
 have hg1:Grew w (w.alloc (.cells #[.int .i64 (N:Int),.slice p L.length c] 24)):=(Grew.refl w).alloc _
 have e1:(w.alloc (.cells #[.int .i64 (N:Int),.slice p L.length c] 24)).heap.size=w.heap.size+1:=by simp
 have E1:Hid _:=e1
 clear e1
 go_enter Tryz.func60,Tryz.ntmps60
 go_wp2_with (at_make;refine wpList_make_full _ rfl _ _ 27 rfl w.heap.size 3 i0 (.int .i64 0) 1 Tryz.underlying27 hi hz0 hz1 .i64 .i64 _ _ N rfl rfl rfl rfl (by rw [hz2];omega) (by unfold maxLen;omega) (by simp) ?_;intro w3 hown hgrow;have hb3:Below (w.alloc (.cells #[.int .i64 (N:Int),.slice p L.length c] 24)).heap.size (w.alloc (.cells #[.int .i64 (N:Int),.slice p L.length c] 24)) w3:=YD.grown hgrow YA (fun k e=>by cases e);have q0:w3.cell? ⟨w.heap.size,0,none⟩=some (.int .i64 (N:Int)):=(hb3.cell (p:=⟨w.heap.size,0,none⟩) (by rw [E1.out];exact Nat.lt_succ_self _)).trans (Qan rfl rfl);have q1:w3.cell? ⟨w.heap.size,1,none⟩=some (.slice p L.length c):=(hb3.cell (p:=⟨w.heap.size,1,none⟩) (by rw [E1.out];exact Nat.lt_succ_self _)).trans (Qan rfl rfl);have hbw:Below w.heap.size w w3:=hg1.below.trans (hb3.mono (by rw [E1.out];omega));rw [E1.out] at hown;have hrow:=Blk.made hown;have hsz:=hrow.lt;rw [QaD,Qfi] at hrow;have HRow:Hid _:=hrow;clear hown hgrow hb3 hrow;have hl1:w.heap.size<w3.heap.size:=by omega)
 have HB4:Hid (Below w.heap.size w (w3.alloc (.cells #[.slice (some ⟨w.heap.size+1,0,none⟩) N N] 27))):=hbw.alloc (by omega) _
 have HC4:Hid ((w3.alloc (.cells #[.slice (some ⟨w.heap.size+1,0,none⟩) N N] 27)).cell? ⟨w3.heap.size,0,none⟩=some (.slice (some ⟨w.heap.size+1,0,none⟩) N N)):=Qan rfl rfl
 have HR4:Hid (Blk 3 (w3.alloc (.cells #[.slice (some ⟨w.heap.size+1,0,none⟩) N N] 27)) (w.heap.size+1) (natsV (iotaL N 0))):=by
  have h1:Blk 3 w3 (w.heap.size+1) (natsV (iotaL N 0)):=HRow.out
  exact h1.go (YD.alloc YA _)
 have HQ4:Hid ((w3.alloc (.cells #[.slice (some ⟨w.heap.size+1,0,none⟩) N N] 27)).cell? ⟨w.heap.size,0,none⟩=some (.int .i64 (N:Int))∧(w3.alloc (.cells #[.slice (some ⟨w.heap.size+1,0,none⟩) N N] 27)).cell? ⟨w.heap.size,1,none⟩=some (.slice p L.length c)):=
  ⟨((Below.refl w3.heap.size w3).alloc YA _ |>.cell (p:=⟨w.heap.size,0,none⟩) hl1).trans q0,((Below.refl w3.heap.size w3).alloc YA _ |>.cell (p:=⟨w.heap.size,1,none⟩) hl1).trans q1⟩
 obtain⟨w4,hw4⟩:∃ W,w3.alloc (.cells #[.slice (some ⟨w.heap.size+1,0,none⟩) N N] 27)=W:=⟨_,rfl⟩
 rw [hw4] at HB4 HC4 HR4 HQ4
 rw [hw4]
 clear hw4 q0 q1 hbw HRow hi hz0 hz1 hz2 E1
 obtain⟨lb,hlb⟩:∃ n,w3.heap.size=n:=⟨_,rfl⟩
 rw [hlb] at HC4 hl1 hsz ⊢
 clear hlb
 obtain⟨x,hx⟩:∃ n,w.heap.size=n:=⟨_,rfl⟩
 rw [hx] at HC4 HR4 HQ4 HB4 hl1 hsz ⊢
 go_loopw [16] (fun i wr=>∃ j:Nat,j≤N∧i = .int .i64 j∧Hid (Blk 3 wr (x+1) (natsV (iotaL N j)))∧Hid (Tch (x+1) w4 wr)) (fun i _=>N-(intOf i).toNat)
 case atStart=>exact⟨0,YN,rfl,HR4,Tch.refl _ _⟩
 case round=>
  obtain⟨j,hj,rfl,HB,HT⟩:=hrel
  have c0:=HT.out.cell HC4.out (by omega)
  have q0:=HT.out.cell HQ4.out.1 (by omega)
  have q1:=HT.out.cell HQ4.out.2 (by omega)
  by_cases hlt:j<N
  ·have hjl:(j:Int)<(N:Int):=by omega
   have t0:wr.cell? ⟨x+1,j,none⟩=some (.int .i64 (pf (iotaL N j) j:Int)):=HB.out.cell (Qc0 (by rw [Qmj hj];exact hlt))
   have f0:=HB.out.frozen j
   have HB2:Hid (Blk 3 (wr.setCell ⟨x+1,j,none⟩ (.int .i64 (j:Int))) (x+1) (natsV (iotaL N (j+1)))):=by
    have h1:=HB.out.set j (.int .i64 (j:Int))
    rw [← QcZ,Qmi hlt] at h1
    exact h1
   have HT2:Hid _:=HT.out.set j (.int .i64 (j:Int))
   go_wp2
   exact⟨⟨j+1,by omega,by go_num,HB2,HT2⟩,by simp [intOf];omega⟩
  ·obtain rfl:N=j:=by omega
   have HU:Hid (UF L N 0 (List.range N) id):=UF.start L N
   have HBr:Hid (Blk 3 wr (x+1) (natsV (List.range N))):=by
    have:=HB.out
    rw [Qj8] at this
    exact this
   have HBw:Hid (Below x w wr):=by
    have:=HT.out.below (n:=x) HB4.out (by omega) ?_
    ·exact this
    ·have:=HB4.out.size;omega
   clear HB HR4 HC4 HQ4 HT HB4
   obtain⟨w5,hw5⟩:∃ W,wr=W:=⟨_,rfl⟩
   rw [hw5] at HBr HBw c0 q0 q1 ⊢
   clear hw5
   go_wp2
   go_loopw [28] (fun i wr=>∃ (j:Nat) (P:List Nat) (R:Nat→Nat),j≤L.length∧i = .int .i64 j∧Hid (UF L N j P R)∧Hid (Blk 3 wr (x+1) (natsV P))∧Hid (Tch (x+1) w5 wr)) (fun i _=>L.length-(intOf i).toNat)
   case atStart=>exact⟨0,_,_,YN,rfl,HU,HBr,Tch.refl _ _⟩
   case round=>
    obtain⟨j,P,R,hj,rfl,HUj,HBj,HTj⟩:=hrel
    have d0:=HTj.out.cell c0 (by omega)
    have d1:=HTj.out.cell q0 (by omega)
    have d2:=HTj.out.cell q1 (by omega)
    have hbr:Below x w wr:=HTj.out.below HBw.out (by omega) (by have:=HBw.out.size;omega)
    by_cases hlt:j<L.length
    ·obtain⟨b,off,rfl,hb1,hcap,hc⟩:=hl.eg hlt
     rw [hx] at hc hb1
     obtain⟨e0,e1,e2⟩:=hc wr hbr j hlt
     have hj3:(j:Int)<(L.length:Int):=by omega
     obtain⟨hu,hv⟩:=hE L[j] (YG hlt)
     have HK:Hid _:=YB hlt
     have HBr':Hid _:=hbr
     have hwx:=hbr.size
     clear hc hbr c0 q0 q1 d1 d2
     have hwlb:=World.block_lt_of_cell? wr _ d0
     obtain⟨u,hu1⟩:∃ u,L[j].1=u:=⟨_,rfl⟩
     obtain⟨v,hv1⟩:∃ v,L[j].2.1=v:=⟨_,rfl⟩
     obtain⟨wt,hw1⟩:∃ wt,L[j].2.2=wt:=⟨_,rfl⟩
     have HU1:Hid _:=hu1
     have HV1:Hid _:=hv1
     rw [hu1] at hu e0
     rw [hv1] at hv e1
     rw [hw1] at e2
     clear hu1 hv1 hw1
     have HE6:Hid (Blk 50 (wr.alloc (.cells #[.int .i64 (u:Int),.int .i64 (v:Int),.int .i64 (wt:Int)] 50)) wr.heap.size [.int .i64 (u:Int),.int .i64 (v:Int),.int .i64 (wt:Int)]):=heap_alloc_new wr _
     have HB6:Hid (Below wr.heap.size wr (wr.alloc (.cells #[.int .i64 (u:Int),.int .i64 (v:Int),.int .i64 (wt:Int)] 50))):=YD.alloc YA _
     go_wp2
     obtain⟨w6,hw6⟩:∃ W,wr.alloc (.cells #[.int .i64 (u:Int),.int .i64 (v:Int),.int .i64 (wt:Int)] 50)=W:=⟨_,rfl⟩
     rw [hw6] at HE6 HB6 ⊢
     clear hw6 e0 e1 e2 hg1 hl
     have HT6:Hid (Tch (x+1) w5 w6):=HTj.out.trans (Tch.of_below HB6.out)
     have HBk6:Hid (Blk 3 w6 (x+1) (natsV P)):=HBj.out.go HB6.out
     have hsw:=HB6.out.size
     have d6:w6.cell? ⟨lb,0,none⟩=some (.slice (some ⟨x+1,0,none⟩) N N):=(HB6.out.cell (p:=⟨lb,0,none⟩) hwlb).trans d0
     have hne6:wr.heap.size≠x+1:=by omega
     obtain⟨eb,heb⟩:∃ n,wr.heap.size=n:=⟨_,rfl⟩
     rw [heb] at HE6 hne6 hwlb ⊢
     clear HBj HTj HB6 d0 hwx heb
     refine wp_region_held_drew (S:=(fun w':World=>w'.cell? ⟨eb,0,none⟩=some (.int .i64 (u:Int))∧w'.cell? ⟨eb,1,none⟩=some (.int .i64 (v:Int)))) (by kernel_rfl) ⟨HE6.out.cell (j:=0) rfl,HE6.out.cell (j:=1) rfl⟩ (fun hHeld=>?_)
     refine tH 0 ?_
     try simp only [YS]
     refine tH 1 ?_
     refine tH 2 ?_
     refine tH 4 ?_
     refine tH 5 ?_
     refine tH 6 ?_
     try simp only [YS,YT,YU]
     refine wpAnyH_ready (rs:=[3]) (by kernel_rfl) (by simp) ?_
     refine AllReadyH.cons rfl (fun K hK=>?_) AllReadyH.nil
     go_simp
     refine (Qf5 L N j P R HUj.out u hu lb (x+1) (by omega) w6.drew d6 HBk6.out).mono ?_
     rintro e w7 ⟨rfl,P7,hU7,hp7,-,hB7,hT7⟩
     refine hK.out _ _ ⟨hT7.cell hHeld.1 hne6,hT7.cell hHeld.2 hne6⟩ (fun hHeld7=>?_)
     have HU7:Hid _:=hU7
     have HP7:Hid _:=hp7
     have HB7:Hid _:=hB7
     have HT7:Hid (Tch (x+1) w5 w7):=HT6.out.drew.trans hT7
     have d7:=hT7.cell (b:=lb) d6 (by omega)
     clear hK K hHeld hU7 hp7 hB7 hT7 HBk6 HT6 d6
     try simp only [Act.put,YS,YT,YU]
     refine wpAnyH_ready (rs:=[7]) (by kernel_rfl) (by simp) ?_
     refine AllReadyH.cons rfl (fun K hK=>?_) AllReadyH.nil
     go_simp
     refine (Qf5 L N j P7 R HU7.out v hv lb (x+1) (by omega) w7 d7 HB7.out).mono ?_
     rintro e w8 ⟨rfl,P8,hU8,hp8,-,hB8,hT8⟩
     refine hK.out _ _ ⟨hT8.cell hHeld7.1 hne6,hT8.cell hHeld7.2 hne6⟩ (fun hHeld8=>?_)
     have hra:=HU7.out.root (R u) (by have:=HU7.out.low u hu;omega) HP7.out
     have hrb:=hU8.root (R v) (by have:=hU8.low v hv;omega) hp8
     have haN:R u<N:=by have:=hU8.low u hu;omega
     have hbN:R v<N:=by have:=hU8.low v hv;omega
     have HJ:Hid _:=hU8.join haN hbN (hU8.rooted haN hra) hp8 HK.out (by rw [HU1.out]) (by rw [HV1.out]) (by rw [HU1.out];exact hu) (by rw [HV1.out];exact hv)
     have Hlen:Hid (P8.length=N):=hU8.len
     have HB8:Hid (Blk 3 w8 (x+1) (natsV P8)):=hB8
     have HT8:Hid (Tch (x+1) w5 w8):=HT7.out.trans hT8
     have d8:=hT8.cell (b:=lb) d7 (by omega)
     clear hK K hHeld7 hU8 hp8 hB8 hT8 HU7 HP7 HB7 HT7 d7 hra hrb
     generalize R u=a at *
     generalize R v=a2 at *
     try simp only [Act.put,YS,YT,YU]
     refine tH 8 ?_
     refine tH 9 ?_
     refine wpAnyH_done (by kernel_rfl) ?_ _
     simp only [YS,YT,YU]
     have hmxN:max a a2<P8.length:=by rw [Hlen.out];omega
     have HB9:Hid (Blk 3 (w8.setCell ⟨x+1,max a a2,none⟩ (.int .i64 (min a a2:Nat))) (x+1) (natsV (P8.set (max a a2) (min a a2)))):=by
      have h1:=HB8.out.set (max a a2) (.int .i64 ((min a a2:Nat):Int))
      rw [← QcZ] at h1
      exact h1
     have HT9:Hid _:=HT8.out.set (max a a2) (.int .i64 ((min a a2:Nat):Int))
     have t0:w8.cell? ⟨x+1,max a a2,none⟩=some (.int .i64 (pf P8 (max a a2):Int)):=HB8.out.cell (Qc0 hmxN)
     have f0:=HB8.out.frozen (max a a2)
     have hai:(a:Int)<(N:Int):=by omega
     have hai2:(a2:Int)<(N:Int):=by omega
     clear HB8 HT8 hmxN hHeld8
     have HBx:Hid (∀ W,Tch (x+1) w5 W→Below x w W):=fun W hW=>hW.below HBw.out (by omega) (by have:=HBw.out.size;omega)
     rcases Nat.lt_trichotomy a a2 with hab | hab | hab
     ·rw [Nat.max_eq_right (by omega),Nat.min_eq_left (by omega)] at HJ HB9 HT9
      rw [Nat.max_eq_right (by omega)] at t0 f0
      have hab1:(a:Int)<(a2:Int):=by omega
      have hab2:(a:Int)≤(a2:Int):=by omega
      go_wp2
      exact⟨⟨j+1,_,_,by omega,by go_num,HJ,HB9,HT9.out⟩,by simp [intOf];omega⟩
     ·subst hab
      rw [Nat.max_self,Nat.min_self] at HJ HB9 HT9
      rw [Nat.max_self] at t0 f0
      go_wp2
      exact⟨⟨j+1,_,_,by omega,by go_num,HJ,HB9,HT9.out⟩,by simp [intOf];omega⟩
     ·rw [Nat.max_eq_left (by omega),Nat.min_eq_right (by omega)] at HJ HB9 HT9
      rw [Nat.max_eq_left (by omega)] at t0 f0
      have hab1:(a2:Int)<(a:Int):=by omega
      have hab2:(a2:Int)≤(a:Int):=by omega
      go_wp2
      exact⟨⟨j+1,_,_,by omega,by go_num,HJ,HB9,HT9.out⟩,by simp [intOf];omega⟩
    ·obtain rfl:j=L.length:=by omega
     obtain⟨w9,hw9⟩:∃ W,wr=W:=⟨_,rfl⟩
     have hlen:=HUj.out.len
     have HL:Hid (LeadP L N R):=HUj.out.lead
     have Hbr:Hid (Below x w wr):=hbr
     have HBj':Hid (Blk 3 wr (x+1) (natsV P)):=HBj.out
     rw [hw9] at Hbr HBj' d0 d1 ⊢
     have hls:lb<w9.heap.size:=World.block_lt_of_cell? w9 _ d0
     clear hbr HBj HTj HBw HBr HU hw9 d2 c0 q0 q1 hlen hg1
     go_wp2
     go_loopw [51] (fun i wr=>∃ (j:Nat) (P:List Nat),j≤N∧i = .int .i64 j∧Hid (UF L N L.length P R)∧Hid (∀ i,i<j→pf P i=R i)∧Hid (Blk 3 wr (x+1) (natsV P))∧Hid (Tch (x+1) w9 wr)) (fun i _=>N-(intOf i).toNat)
     case atStart=>exact⟨0,_,YN,rfl,HUj,fun i hi=>absurd hi (by omega),HBj',Tch.refl _ _⟩
     case round=>
      obtain⟨k,P,hk,rfl,HUk,HAt,HBk,HTk⟩:=hrel
      have e0:=HTk.out.cell d0 (by omega)
      have e1:=HTk.out.cell d1 (by omega)
      by_cases hlt:k<N
      ·have hkl:(k:Int)<(N:Int):=by omega
       have hlb1:lb≠x+1:=by omega
       go_wp2
       refine wp_region_held_drew (S:=(fun w':World=>w'.cell? ⟨lb,0,none⟩=some (.slice (some ⟨x+1,0,none⟩) N N))) (by kernel_rfl) e0 (fun hHeld=>?_)
       refine tH 0 ?_
       try simp only [YS]
       refine tH 1 ?_
       refine tH 2 ?_
       refine tH 3 ?_
       try simp only [YS,YT,YU]
       refine wpAnyH_ready (rs:=[4]) (by kernel_rfl) (by simp) ?_
       refine AllReadyH.cons rfl (fun K hK=>?_) AllReadyH.nil
       go_simp
       refine (Qf5 L N L.length P R HUk.out k hlt lb (x+1) (by omega) wr.drew e0 HBk.out).mono ?_
       rintro e w10 ⟨rfl,P10,hU10,-,hs10,hB10,hT10⟩
       refine hK.out _ _ (hT10.cell hHeld hlb1) (fun hHeld10=>?_)
       have HT11:Hid (Tch (x+1) w9 (w10.setCell ⟨x+1,k,none⟩ (.int .i64 (R k:Int)))):=(HTk.out.drew.trans hT10).set k _
       have HB11:Hid (Blk 3 (w10.setCell ⟨x+1,k,none⟩ (.int .i64 (R k:Int))) (x+1) (natsV (P10.set k (R k)))):=by
        have h1:=hB10.set k (.int .i64 (R k:Int))
        rw [← QcZ] at h1
        exact h1
       have HU11:Hid _:=hU10.flat hlt
       have hkP:k<P10.length:=by rw [hU10.len];exact hlt
       have t0:w10.cell? ⟨x+1,k,none⟩=some (.int .i64 (pf P10 k:Int)):=hB10.cell (Qc0 hkP)
       have f0:=hB10.frozen k
       have HAt11:Hid (∀ i,i<k+1→pf (P10.set k (R k)) i=R i):=fun i hi=>by
        rw [QbX hkP]
        split
        ·next e=>rw [e]
        ·exact hs10 i (by omega) (HAt.out i (by omega))
       clear hK K hHeld hU10 hs10 hB10 hT10 HUk HAt HBk HTk hkP e0
       try simp only [Act.put,YS,YT,YU]
       refine tH 5 ?_
       refine wpAnyH_ready (rs:=[6]) (by kernel_rfl) (by simp) ?_
       refine AllReadyH.cons rfl (fun K hK=>?_) AllReadyH.nil
       go_simp
       refine hK.out _ _ ?_ (fun hHeld=>?_)
       ·(try dsimp only);first | (go_keep;done) | ((repeat' apply And.intro) <;> go_simp)
       clear hK K
       try simp only [YS,YT,YU]
       refine wpAnyH_done (by kernel_rfl) ?_ _
       go_wp2
       exact⟨⟨k+1,_,by omega,by go_num,HU11,HAt11,HB11,HT11⟩,by simp [intOf];omega⟩
      ·obtain rfl:N=k:=by omega
       have HLst:Hid (P=leadL N R):=Qn3 HUk.out.len HAt.out
       have HBf:Hid (Blk 3 wr (x+1) (natsV (leadL N R))):=by
        have:=HBk.out
        rw [HLst.out] at this
        exact this
       have HBe:Hid (Below w.heap.size w wr):=by rw [hx];exact HTk.out.below Hbr.out (by omega) (by have:=Hbr.out.size;omega)
       go_wp2
       go_ret
       exact⟨x+1,R,rfl,HL.out,HBf.out,HBe.out,by omega⟩
theorem bAt_true {T:List Bool}:T.contains true=true↔∃ v,v<T.length∧bAt T v=true:=by
 rw [List.contains_iff_mem]
 constructor
 ·intro h
  obtain⟨i,hi,e⟩:=List.getElem_of_mem h
  exact⟨i,hi,by simp [bAt,hi,e]⟩
 ·rintro⟨v,hv,e⟩
  rw [bAt,YC,YB hv] at e
  have e2:T[v]=true:=e
  rw [← e2];exact YG hv
theorem Qke (T:List Bool)(hT:T.length≤4194304)(tv:Value)(w:World)(hI:Bools w.heap.size w tv T):
  Calls Tryz.prog 109 #[tv,.bool true] w fun r w'=>(∃ k:Nat,k<T.length∧bAt T k=true∧r = .returned (.int .i64 (k:Int))∨(∀ v,v<T.length→bAt T v=false)∧r = .returned (.int .i64 (-1)))∧w'=w:=by
 obtain⟨p,c,rfl⟩:=hI.len
 have HI:Hid (Bools w.heap.size w (.slice p T.length c) T):=hI
 clear hI
 go_enter Tryz.func109,Tryz.ntmps109
 go_wp2
 go_loopw [8] (fun iv wr=>∃ j:Nat,j≤T.length∧iv = .int .i64 j∧(∀ v,v<j→bAt T v=false)∧wr=w) (fun i _=>T.length-(intOf i).toNat)
 case atStart=>exact⟨0,YN,rfl,fun v hv=>absurd hv (by omega),rfl⟩
 case round=>
  obtain⟨j,hj,rfl,hA,rfl⟩:=hrel
  have HA:Hid (∀ v,v<j→bAt T v=false):=hA
  clear hA
  by_cases hlt:j<T.length
  ·have hjl:(j:Int)<(T.length:Int):=by omega
   obtain⟨b,off,rfl,hbb,hcap,hc⟩:=Vals.open (enc:=Value.bool) HI.out hlt
   have c0:=hc wr YD j hlt
   have hbT:bAt T j=T[j]:=by simp [bAt,hlt]
   rw [← hbT] at c0
   have HLT:Hid (j<T.length):=hlt
   clear hc hlt hbT
   cases hP:bAt T j with
   | false=>
    have HP:Hid (bAt T j=false):=hP
    rw [hP] at c0
    clear hP
    go_wp2
    exact⟨⟨j+1,HLT.out,by go_num,fun v hv=>by
     by_cases e:v=j
     ·rw [e];exact HP.out
     ·exact HA.out v (by omega),trivial⟩,by have:=HLT.out;simp [intOf];omega⟩
   | true=>
    have HP:Hid (bAt T j=true):=hP
    rw [hP] at c0
    clear hP
    go_wp2
    go_ret
    exact⟨⟨j,.inl ⟨HLT.out,HP.out,rfl⟩⟩,rfl⟩
  ·obtain rfl:j=T.length:=by omega
   go_wp2
   go_ret
   exact⟨⟨0,.inr ⟨HA.out,rfl⟩⟩,rfl⟩
theorem Qgb (T:List Bool)(hT:T.length≤4194304)(tv:Value)(w:World)(hI:Bools w.heap.size w tv T):
  Calls Tryz.prog 85 #[tv,.bool true] w fun r w'=>r = .returned (.bool (T.contains true))∧w'=w:=by
 have hx:=Qke T hT tv w hI
 clear hI
 go_enter Tryz.func85,Tryz.ntmps85
 go_wp2_with fail
 refine hx.mono ?_
 clear hx
 rintro e w1 ⟨⟨k,⟨hk,hb,rfl⟩ | ⟨hA,rfl⟩⟩,rfl⟩
 ·have HE:Hid (T.contains true=true):=bAt_true.2 ⟨k,hk,hb⟩
  go_wp2
  go_ret
  refine⟨?_,rfl⟩
  rw [HE.out]
  simp
 ·have HE:Hid (T.contains true=false):=by
   show _=_
   cases h:T.contains true with
   | false=>rfl
   | true=>obtain⟨v,hv,e⟩:=bAt_true.1 h;rw [hA v hv] at e;cases e
  go_wp2
  go_ret
  refine⟨?_,rfl⟩
  rw [HE.out]
  rfl
def turnT (R:Nat→Nat)(T:List Bool)(B:List Int):List Bool:=B.foldl (fun T v=>flipB T (R v.toNat)) T
theorem QcI (R:Nat→Nat):∀ (B:List Int) (T:List Bool),(turnT R T B).length=T.length
 | [],_=>rfl
 | x :: B,T=>by show (turnT R (flipB T (R x.toNat)) B).length=_;rw [QcI R B,QaN]
theorem Qjy (R:Nat→Nat)(T:List Bool)(B:List Int)(x:Int):turnT R T (B++[x])=flipB (turnT R T B) (R x.toNat):=by simp [turnT]
theorem Qmh (N:Nat)(R:Nat→Nat)(B:List Int)(hN:N≤1048576)(hR:∀ v,v<N→R v<N)(hB:plcB N B=true)(hBl:B.length≤8388608)(g:Nat)(bv:Value)(w:World)(hG:Blk 3 w g (natsV (leadL N R)))(hI:Ints w.heap.size w bv B):
  Calls Tryz.prog 61 #[.slice (some ⟨g,0,none⟩) N N,bv] w fun r w'=>r = .returned (.bool ((turnT R (List.replicate N false) B).contains true))∧Below w.heap.size w w':=by
 have hmix:=mixed
 obtain⟨pb,cb,rfl,ho⟩:=hI.openW
 have HO:Hid _:=fun (j:Nat) (hj:j<B.length)=>ho (j:=j) hj
 clear ho
 obtain⟨i0,hi,hz0,hz1,hz2⟩:=info_parts Qg6
 have HG:Hid (Blk 3 w g (natsV (leadL N R))):=hG
 have hgl:=hG.lt
 clear hG
 go_enter Tryz.func61,Tryz.ntmps61
 go_wp2_with (at_make;refine wpList_make_full _ rfl _ _ 25 rfl w.heap.size 4 i0 (.bool false) 1 Tryz.underlying25 hi hz0 hz1 .i64 .i64 _ _ N rfl rfl rfl rfl (by rw [hz2];omega) (by unfold maxLen;omega) (by simp) ?_;intro w3 hown hgrow;have hb3:Below w.heap.size w w3:=YD.grown hgrow YA (fun k e=>by cases e);have hrow:=Blk.made hown;have hsz:=hrow.lt;rw [QaR] at hrow;have HRow:Hid (Blk 4 w3 w.heap.size ((turnT R (List.replicate N false) (B.take 0)).map Value.bool)):=hrow;have HB3:Hid (Below w.heap.size w w3):=hb3;clear hown hgrow hb3 hrow)
 obtain⟨x,hx⟩:∃ n,w.heap.size=n:=⟨_,rfl⟩
 rw [hx] at HRow hsz HB3 hgl ⊢
 clear hi hz0 hz1 hz2
 go_loopw [13] (fun i wr=>∃ j:Nat,j≤B.length∧i = .int .i64 j∧Hid (Blk 4 wr x ((turnT R (List.replicate N false) (B.take j)).map Value.bool))∧Hid (Below x w wr)) (fun i _=>B.length-(intOf i).toNat)
 case atStart=>exact⟨0,YN,rfl,HRow,HB3⟩
 case round=>
  obtain⟨j,hj,rfl,HR,HB⟩:=hrel
  by_cases hlt:j<B.length
  ·have hjl:(j:Int)<(B.length:Int):=by omega
   obtain⟨b2,off2,rfl,hb2,hc2⟩:=HO.out j hlt
   rw [hx] at hb2 hc2
   have c0:=hc2 wr HB.out j hlt
   rw [QbH hlt] at c0
   obtain⟨v,hv1,hv2⟩:=QgQ hB hlt
   have HST:Hid (flipB (turnT R (List.replicate N false) (B.take j)) (R v)=turnT R (List.replicate N false) (B.take (j+1))):=by
    show _=_
    rw [List.take_succ_eq_append_getElem hlt,Qjy,hv1,YM]
   rw [hv1] at c0
   have hvl:(v:Int)<(N:Int):=by omega
   have hrl:=hR v hv2
   have hrl':((R v:Nat):Int)<(N:Int):=by omega
   have g0:wr.cell? ⟨g,v,none⟩=some (.int .i64 (R v:Int)):=(HG.out.go (by rw [hx];exact HB.out)).cell (Qck hv2)
   have hlT:(turnT R (List.replicate N false) (B.take j)).length=N:=by rw [QcI,List.length_replicate]
   have HLT:Hid (j<B.length):=hlt
   generalize turnT R (List.replicate N false) (B.take j)=T at *
   generalize R v=rv at *
   have t0:=HR.out.bcell (v:=rv) (by rw [hlT];exact hrl)
   have f0:=HR.out.frozen rv
   have HR2:Hid _:=HR.out.flip rv
   have HB2:Hid (Below x w (wr.setCell ⟨x,rv,none⟩ (.bool (!bAt T rv)))):=HB.out.setCell (p:=⟨x,rv,none⟩) YA _
   clear HR HB hc2 hlt hv1 hlT
   go_wp2
   go_big_region_o
   go_wp2
   refine⟨⟨j+1,HLT.out,by go_num,?_,Qab HB2.out 1⟩,by have:=HLT.out;simp [intOf];omega⟩
   rw [← HST.out]
   exact HR2.out
  ·obtain rfl:j=B.length:=by omega
   have h1:=HR.out
   rw [List.take_length] at h1
   have hcb:=Qgb (turnT R (List.replicate N false) B) (by rw [QcI,List.length_replicate];omega) (.slice (some ⟨x,0,none⟩) N N) wr (h1.boolsT (by rw [QcI,List.length_replicate]))
   clear HR h1
   go_wp2_with fail
   refine hcb.mono ?_
   rintro e w9 ⟨rfl,rfl⟩
   clear hcb
   go_wp2
   go_ret
   rw [hx]
   exact⟨by simp,HB.out⟩
end Go.Proofs.YtalflecmadacaaaGreat
namespace Go.Proofs
open Go.Shelf
def Tryz.lays212_ren:Go.Shelf.Ren:=⟨fun | 212=>159 | 263=>172 | 264=>173 | n=>n,fun | 46=>67 | 51=>205 | 146=>206 | 53=>208 | 148=>209 | n=>n,fun | n=>n⟩
theorem Tryz.lays212:Go.Proofs.Lays.n212 Tryz.prog Tryz.lays212_ren:={
 mixed:=by kernel_rfl
 f212:=Tryz.func159.trans (congrArg some (by kernel_rfl))
 f263:=Tryz.func172.trans (congrArg some (by kernel_rfl))
 f264:=Tryz.func173.trans (congrArg some (by kernel_rfl))
 t46:=Tryz.underlying67
 a46:=Tryz.isAgg67
 z46:=Tryz.sizeOf67
 v46:=Tryz.zeroValue67
 t51:=Tryz.underlying205
 a51:=Tryz.isAgg205
 z51:=Tryz.sizeOf205
 v51:=Tryz.zeroValue205
 t53:=Tryz.underlying208
 a53:=Tryz.isAgg208
 z53:=Tryz.sizeOf208
 v53:=Tryz.zeroValue208
 t146:=Tryz.underlying206
 a146:=Tryz.isAgg206
 z146:=Tryz.sizeOf206
 v146:=Tryz.zeroValue206
 t148:=Tryz.underlying209
 a148:=Tryz.isAgg209
 z148:=Tryz.sizeOf209
 v148:=Tryz.zeroValue209 }
open Go.RowKit Go.Lib in
theorem Tryz.bits_Mul (x y:Nat)(hx:x<18446744073709551616)(hy:y<18446744073709551616)(w:World):
  Calls Tryz.prog 159 #[.int .u64 x,.int .u64 y] w fun e w'=>e = .returned (.tuple #[.int .u64 ((x*y / 18446744073709551616:Nat):Int),.int .u64 ((x*y % 18446744073709551616:Nat):Int)])∧w'=w:=Any.bits_Mul Tryz.lays212 x y hx hy w
end Go.Proofs
