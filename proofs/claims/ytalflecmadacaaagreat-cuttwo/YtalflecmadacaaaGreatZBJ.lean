import Derived.Test.YtalflecmadacaaaGreatZBI
import Derived.Test.YtalflecmadacaaaGreatZAT
import Derived.Test.YtalflecmadacaaaGreatZAR
import Derived.Lib.OwnBridge
import Derived.Test.YtalflecmadacaaaGreatZAZ
import Derived.Test.YtalflecmadacaaaGreatShelfS
import Derived.Test.YtalflecmadacaaaGreatZAS
import Derived.Test.YtalflecmadacaaaGreatZAA
set_option maxRecDepth 100000
set_option maxHeartbeats 8000000
namespace Go.Proofs.YtalflecmadacaaaGreat
theorem IsD.few {l:List Eg}{s n M:Nat}{d:List Int}(h:IsD l s n d)(hl:∀ e∈l,e.1<n∧e.2.1<n)(hs:s<n)(hM:∀ e∈l,e.2.2≤M){v:Nat}(hv:v<n):at' d v≤((n*M:Nat):Int):=by
 rcases h.2 v hv with ⟨h1,_⟩ | ⟨c,h1,⟨L,h2⟩,h3⟩
 ·omega
 ·obtain⟨t,c',k1,k2,k3⟩:=Qd3 h2
  have h4:=Qhk hM k1
  have h5:=QcV n _ k3 (Qmy hl hs k1)
  have h6:=Nat.mul_le_mul_right M h5
  have h7:=h3 _ _ k1
  omega
theorem OKc.valid {l:List Eg}{s n:Nat}{d via:List Int}(h:OKc l s n d via):QeR l n via:=fun v hv=>by
 by_cases e:v=s
 ·subst e;exact .inl h.zero
 ·rcases h.last v hv e with h1 | ⟨_,i,h1,e',h2,h3,_⟩
  ·exact .inl h1.2
  ·exact .inr ⟨i,e',h1,h2,h3⟩
def wP (l:List Eg)(p:Int):Int:=((l.getD p.toNat (0,0,0)).2.2:Int)
def sumP (l:List Eg)(A:List Int):Int:=(A.map (wP l)).sum
theorem Qfu (l:List Eg):sumP l []=0:=rfl
theorem QaG (l:List Eg)(p:Int)(A:List Int):sumP l (p :: A)=wP l p+sumP l A:=by simp [sumP]
theorem Qd4 (l:List Eg)(A B:List Int):sumP l (A++B)=sumP l A+sumP l B:=by simp [sumP]
theorem QdD (l:List Eg):∀ A:List Int,sumP l A.reverse=sumP l A
 | []=>rfl
 | p :: A=>by rw [List.reverse_cons,Qd4,QdD l A,QaG,QaG,Qfu];omega
theorem Qio {l:List Eg}{M:Nat}(hM:∀ e∈l,e.2.2≤M):∀ A:List Int,0≤sumP l A∧sumP l A≤((A.length*M:Nat):Int)
 | []=>by simp [sumP]
 | p :: A=>by
  have h:=Qio hM A
  have h1:0≤wP l p∧wP l p≤(M:Int):=by
   unfold wP
   rw [YC]
   cases hq:l[p.toNat]? with
   | none=>simp
   | some e=>have:=hM e (YK hq);simp;omega
  have e1:(p :: A).length*M=A.length*M+M:=Nat.succ_mul _ _
  rw [QaG]
  omega
theorem Qih (l:List Eg)(via:List Int):∀ (k v:Nat),(wayM l via k v).length≤k
 | 0,_=>YA
 | k+1,v=>by
  unfold wayM
  split
  ·simp
  ·have:=Qih l via k (par l via v);simp;omega
theorem Qdd {l:List Eg}{n:Nat}{via:List Int}(hl:∀ e∈l,e.1<n∧e.2.1<n)(hV:QeR l n via):∀ (k v:Nat),v<n→∀ p∈wayM l via k v,∃ i:Nat,p=i∧i<l.length
 | 0,_,_,p,hp=>by simp [wayM] at hp
 | k+1,v,hv,p,hp=>by
  unfold wayM at hp
  split at hp
  ·simp at hp
  ·rename_i hne
   rcases List.mem_cons.1 hp with rfl | hp
   ·rcases hV v hv with h | ⟨i,e,h1,h2,_⟩
    ·exact absurd h hne
    ·exact⟨i,h1,(YE h2).1⟩
   ·exact Qdd hl hV k _ (QfE hl hV hv) p hp
theorem Qol {l:List Eg}{s n:Nat}{d via:List Int}(h:OKc l s n d via)(hl:∀ e∈l,e.1<n∧e.2.1<n)(hs:s<n):∀ (t:List Nat) (k v:Nat),v<n→0≤at' d v→CH l via s (v :: t)→t.length≤k→sumP l (wayM l via k v)=at' d v:=by
 have hbase:∀ k,sumP l (wayM l via k s)=at' d s:=fun k=>by rw [Qbx h.zero,Qfu,h.dist.zero hs]
 intro t
 induction t with
 | nil=>
  intro k v hv h0 hc _
  have:v=s:=hc
  subst this
  exact hbase k
 | cons u t ih=>
  intro k v hv h0 hc hk
  by_cases e:v=s
  ·subst e;exact hbase k
  ·rcases h.last v hv e with h1 | ⟨_,hL⟩
   ·omega
   ·obtain⟨k',rfl⟩:∃ k',k=k'+1:=⟨k-1,by simp at hk;omega⟩
    obtain⟨i,hi,e',he,hm,hj,hp,hd⟩:=hL.par
    have hk1:=QhS (h.dist.kept hl hm) hj.symm h0
    have hpl:=QnZ hl hL
    have hc2:=hc.2
    rw [hc.1] at hc2
    have ih':=ih k' (par l via v) hpl hk1.1 hc2 (by simp at hk;omega)
    rw [Qcy (by omega),QaG,ih',hd]
    have hw:wP l (at' via v)=(e'.2.2:Int):=by
     unfold wP
     rw [hi,YM,YC,he]
     rfl
    rw [hw]
    omega
theorem OKc.sum {l:List Eg}{s n:Nat}{d via:List Int}(h:OKc l s n d via)(hl:∀ e∈l,e.1<n∧e.2.1<n)(hs:s<n){v:Nat}(hv:v<n)(h0:0≤at' d v):sumP l (wayM l via n v).reverse=at' d v:=by
 obtain⟨t,h1,h2⟩:=h.short hl hs hv h0
 rw [QdD]
 exact Qol h hl hs t n v hv h0 h1 (by omega)
theorem Qnk {P:Nat→Prop}(h:∃ k,P k):∃ k,P k∧∀ j,j<k→¬ P j:=by
 obtain⟨k,hk⟩:=h
 induction k using Nat.strongRecOn with
 | ind k ih=>
  by_cases e:∃ j,j<k∧P j
  ·obtain⟨j,hj,hp⟩:=e
   exact ih j hj hp
  ·exact⟨k,hk,fun j hj hp=>e ⟨j,hj,hp⟩⟩
theorem QmS {e:Eg}{u x:Nat}(h:e.1=u∨e.2.1=u):tog e x=((u==x) ^^ (oth e u==x)):=by
 unfold tog oth
 by_cases k:e.1=u
 ·rw [if_pos k,k]
 ·rw [if_neg k,h.resolve_left k,Bool.xor_comm]
theorem QoJ {e:Eg}{u x:Nat}(h:e.1=u∨e.2.1=u)(h':e.1=x∨e.2.1=x)(hne:u≠x):oth e x=u:=by
 unfold oth
 by_cases k:e.1=x
 ·rw [if_pos k];exact h.resolve_left fun q=>hne (q.symm.trans k)
 ·rw [if_neg k]
  have:=h'.resolve_left k
  exact h.resolve_right fun q=>hne (q.symm.trans this)
theorem Qpn {l:List Eg}{n:Nat}{V:List Int}(hl:∀ e∈l,e.1<n∧e.2.1<n)(hV:QeR l n V):∀ (k v:Nat),v<n→up l V k v<n
 | 0,_,h=>h
 | k+1,_,h=>Qpn hl hV k _ (QfE hl hV h)
theorem Qmr {l:List Eg}{s n:Nat}{V:List Int}(hl:∀ e∈l,e.1<n∧e.2.1<n)(hV:QeR l n V)(hz:at' V s = -1):∀ (k u:Nat),u<n→up l V k u=s→(∀ j,j<k→up l V j u≠s)→∀ K,(wayM l V K u).Nodup∧∀ p∈wayM l V K u,∃ j,j<k∧p=at' V (up l V j u):=by
 intro k
 induction k with
 | zero=>
  intro u hu h0 _ K
  have:u=s:=h0
  subst this
  rw [Qbx hz]
  exact⟨List.nodup_nil,by simp⟩
 | succ k ih=>
  intro u hu h0 hmin K
  cases K with
  | zero=>exact⟨by simp [wayM],by simp [wayM]⟩
  | succ K=>
   by_cases hn:at' V u = -1
   ·rw [Qbx hn];exact⟨List.nodup_nil,by simp⟩
   ·rw [Qcy hn]
    have hpl:=QfE hl hV hu
    obtain⟨a,b⟩:=ih (par l V u) hpl h0 (fun j hj=>hmin (j+1) (by omega)) K
    refine⟨?_,?_⟩
    ·rw [List.nodup_cons]
     refine⟨fun hm=>?_,a⟩
     obtain⟨j,hj,he⟩:=b _ hm
     have hx:=Qpn hl hV j (par l V u) hpl
     have back:∀ q,q≤k+1→0<q→up l V q u≠u:=fun q hq h1 hc=>by
      refine hmin (k+1-q) (by omega) ?_
      have h3:=Qkb l V q (k+1-q) u
      rw [show q+(k+1-q)=k+1 by omega,hc,h0] at h3
      exact h3.symm
     have hne:u≠up l V j (par l V u):=fun hc=>back (j+1) (by omega) (by omega) hc.symm
     rcases hV u hu with h1 | ⟨i,e,h1,h2,h3⟩
     ·exact hn h1
     ·rcases hV _ hx with k1 | ⟨i',e',k1,k2,k3⟩
      ·exact hn (he.trans k1)
      ·have:i=i':=by have:=h1.symm.trans (he.trans k1);omega
       subst this
       have:e=e':=Option.some.inj (h2.symm.trans k2)
       subst this
       refine back (j+2) (by omega) (by omega) ?_
       show up l V (j+1) (par l V u)=u
       rw [Qka,Qiy k1 k2]
       exact QoJ h3 k3 hne
    ·intro p hp
     rcases List.mem_cons.1 hp with rfl | hp
     ·exact⟨0,by omega,rfl⟩
     ·obtain⟨j,hj,he⟩:=b p hp
      exact⟨j+1,by omega,he⟩
theorem Qms {l:List Eg}{s n:Nat}{V:List Int}(hl:∀ e∈l,e.1<n∧e.2.1<n)(hV:QeR l n V)(hz:at' V s = -1)(hne:∀ u,u<n→u≠s→(∃ k,up l V k u=s)→at' V u≠-1):∀ (k u:Nat),u<n→up l V k u=s→∀ K,k≤K→∀ x,oddA l (wayM l V K u) x=((u==x) ^^ (s==x)):=by
 intro k
 induction k with
 | zero=>
  intro u hu h0 K _ x
  have:u=s:=h0
  subst this
  rw [Qbx hz,QcU,Bool.xor_self]
 | succ k ih=>
  intro u hu h0 K hK x
  by_cases e:u=s
  ·subst e;rw [Qbx hz,QcU,Bool.xor_self]
  ·obtain⟨K',rfl⟩:∃ K',K=K'+1:=⟨K-1,by omega⟩
   have hn:=hne u hu e ⟨k+1,h0⟩
   rw [Qcy hn,QaI,ih (par l V u) (QfE hl hV hu) h0 K' (by omega) x]
   rcases hV u hu with h1 | ⟨i,e',h1,h2,h3⟩
   ·exact absurd h1 hn
   ·rw [h1,QbG h2,QmS h3,Qiy h1 h2,← Bool.xor_assoc,Bool.xor_assoc (u==x),Bool.xor_self,Bool.xor_false]
def flips (T:List Bool)(A:List Int):List Bool:=A.foldl (fun T p=>flipB T p.toNat) T
theorem Qc6:∀ (A:List Int) (T:List Bool),(flips T A).length=T.length
 | [],_=>rfl
 | p :: A,T=>by show (flips (flipB T p.toNat) A).length=_;rw [Qc6 A,QaP]
theorem QjR (T:List Bool)(A:List Int)(p:Int):flips T (A++[p])=flipB (flips T A) p.toNat:=by simp [flips]
theorem QiO:∀ (A:List Int) (T:List Bool),(∀ p∈A,0≤p∧p<(T.length:Int))→A.Nodup→∀ i:Nat,bAt (flips T A) i=(bAt T i ^^ decide ((i:Int)∈A))
 | [],T,_,_,i=>by simp [flips]
 | p :: A,T,h,hn,i=>by
  have hp:=h p (by simp)
  have hl:p.toNat<T.length:=by omega
  rw [List.nodup_cons] at hn
  show bAt (flips (flipB T p.toNat) A) i=_
  rw [QiO A _ (fun q hq=>by rw [QaP];exact h q (by simp [hq])) hn.2 i,Qc7 hl,Bool.xor_assoc]
  congr 1
  by_cases e:(i:Int)=p
  ·subst e
   have:decide ((i:Int)∈A)=false:=by simpa using hn.1
   rw [this];simp
  ·have h1:(p.toNat==i)=false:=by rw [beq_eq_false_iff_ne];omega
   rw [h1,Bool.false_xor]
   simp [e]
theorem QhE:∀ {A B:List Int},A.Nodup→B.Nodup→(∀ x,x∈A↔x∈B)→A.Perm B:=fun ha hb h=>(List.perm_ext_iff_of_nodup ha hb).2 h
theorem Qjh {A:List Int}(h:A.Pairwise (· < ·)):A.Nodup:=by
 unfold List.Nodup
 exact h.imp fun h=>Int.ne_of_lt h
theorem QlT {M:Nat}{A:List Int}(h:∀ p∈A,0≤p∧p<(M:Int))(hn:A.Nodup):(trueL (flips (List.replicate M false) A)).Perm A:=by
 have h2:∀ i:Nat,bAt (flips (List.replicate M false) A) i=decide ((i:Int)∈A):=fun i=>by
  rw [QiO A _ (by simpa using h) hn]
  have:bAt (List.replicate M false) i=false:=by
   unfold bAt
   rw [YC,List.getElem?_replicate]
   split <;> rfl
  rw [this,Bool.false_xor]
 refine QhE (Qjh (Qcd _ _)) hn fun x=>?_
 rw [trueL_mem,Qc6,List.length_replicate]
 constructor
 ·rintro⟨i,rfl,_,h3⟩
  rw [h2] at h3
  simpa using h3
 ·intro hx
  obtain⟨h3,h4⟩:=h x hx
  refine⟨x.toNat,by omega,by omega,?_⟩
  rw [h2,Int.toNat_of_nonneg h3]
  simpa using hx
theorem Qko {l:List Eg}{A B:List Int}(h:A.Perm B):sumP l A=sumP l B:=by
 induction h with
 | nil=>rfl
 | cons x _ ih=>rw [QaG,QaG,ih]
 | swap x y l'=>rw [QaG,QaG,QaG,QaG];omega
 | trans _ _ h1 h2=>exact h1.trans h2
def whole (R:Nat→Nat)(r:Nat)(l:List Eg)(A:List Int):List Int:=A.map fun p=>(((subP R r l).getD p.toNat 0:Nat):Int)
theorem Qcb {R:Nat→Nat}{r:Nat}{l:List Eg}{i:Nat}(h:i<(subE R r l).length):∃ j e,(subP R r l)[i]? = some j∧(subP R r l).getD i 0=j∧l[j]? = some e∧R e.1=r∧(subE R r l)[i]? = some (ren R r e):=by
 have hl:i<(subP R r l).length:=by rw [← (Qd7 R r l).1];exact h
 obtain⟨e,h1,h2,h3⟩:=QnV (YB hl)
 exact⟨_,e,YB hl,by rw [YC,YB hl];rfl,h1,h2,h3⟩
theorem Qmq {R:Nat→Nat}{r:Nat}{l:List Eg}{A:List Int}(hA:∀ p∈A,∃ i:Nat,p=i∧i<(subE R r l).length):∀ p∈whole R r l A,0≤p∧p<(l.length:Int):=fun p hp=>by
 obtain⟨q,hq,rfl⟩:=List.mem_map.1 hp
 obtain⟨i,rfl,hi⟩:=hA q hq
 obtain⟨j,e,h1,h2,h3,_⟩:=Qcb hi
 rw [YM,h2]
 have:=(YE h3).1
 omega
theorem Qf8 {R:Nat→Nat}{r:Nat}{l:List Eg}:∀ {A:List Int},(∀ p∈A,∃ i:Nat,p=i∧i<(subE R r l).length)→sumP l (whole R r l A)=sumP (subE R r l) A
 | [],_=>rfl
 | p :: A,hA=>by
  show sumP l (_ :: whole R r l A)=_
  rw [QaG,QaG,Qf8 fun q hq=>hA q (by simp [hq])]
  obtain⟨i,rfl,hi⟩:=hA p (by simp)
  obtain⟨j,e,h1,h2,h3,_,h5⟩:=Qcb hi
  have a:wP l (((subP R r l).getD (i:Int).toNat 0:Nat):Int)=(e.2.2:Int):=by
   rw [YM,h2]
   simp [wP,h3]
  have b:wP (subE R r l) (i:Int)=(e.2.2:Int):=by simp [wP,h5,ren]
  rw [a,b]
theorem Qhd {R:Nat→Nat}{r:Nat}{l:List Eg}{A:List Int}(hA:∀ p∈A,∃ i:Nat,p=i∧i<(subE R r l).length)(hn:A.Nodup):(whole R r l A).Nodup:=by
 induction A with
 | nil=>simp [whole]
 | cons p A ih=>
  rw [List.nodup_cons] at hn
  show (_ :: whole R r l A).Nodup
  rw [List.nodup_cons]
  refine⟨fun hm=>?_,ih (fun q hq=>hA q (by simp [hq])) hn.2⟩
  obtain⟨q,hq,he⟩:=List.mem_map.1 hm
  obtain⟨i,rfl,hi⟩:=hA p (by simp)
  obtain⟨i',rfl,hi'⟩:=hA q (by simp [hq])
  obtain⟨j,e,h1,h2,_⟩:=Qcb hi
  obtain⟨j',e',k1,k2,_⟩:=Qcb hi'
  dsimp only at he
  rw [YM,YM,h2,k2] at he
  have hj:j'=j:=by omega
  subst hj
  obtain⟨a1,a2⟩:=YE h1
  obtain⟨b1,b2⟩:=YE k1
  have hii:i'=i:=by
   rcases Nat.lt_trichotomy i' i with c | c | c
   ·have:=List.pairwise_iff_getElem.1 (Qgk R r l) i' i b1 a1 c
    omega
   ·exact c
   ·have:=List.pairwise_iff_getElem.1 (Qgk R r l) i i' a1 b1 c
    omega
  subst hii
  exact hn.1 hq
theorem Qga {R:Nat→Nat}{r:Nat}{l:List Eg}(hR:∀ e∈l,R e.1=R e.2.1){v:Nat}(hv:R v=r):∀ {A:List Int},(∀ p∈A,∃ i:Nat,p=i∧i<(subE R r l).length)→oddA l (whole R r l A) v=oddA (subE R r l) A (nm R r v)
 | [],_=>rfl
 | p :: A,hA=>by
  show oddA l (_ :: whole R r l A) v=_
  rw [QaI,QaI,Qga hR hv fun q hq=>hA q (by simp [hq])]
  obtain⟨i,rfl,hi⟩:=hA p (by simp)
  obtain⟨j,e,h1,h2,h3,h4,h5⟩:=Qcb hi
  dsimp only
  rw [YM,h2,QbG h3,QbG h5]
  have he2:R e.2.1=r:=(hR e (YK h3)).symm.trans h4
  congr 1
  unfold tog ren
  have q1:(e.1==v)=(nm R r e.1==nm R r v):=by
   by_cases c:e.1=v
   ·rw [c];simp
   ·have:nm R r e.1≠nm R r v:=fun k=>c (Qeq h4 hv k)
    rw [beq_eq_false_iff_ne.2 c,beq_eq_false_iff_ne.2 this]
  have q2:(e.2.1==v)=(nm R r e.2.1==nm R r v):=by
   by_cases c:e.2.1=v
   ·rw [c];simp
   ·have:nm R r e.2.1≠nm R r v:=fun k=>c (Qeq he2 hv k)
    rw [beq_eq_false_iff_ne.2 c,beq_eq_false_iff_ne.2 this]
  rw [q1,q2]
theorem Qf9 {R:Nat→Nat}{r:Nat}{l:List Eg}(hR:∀ e∈l,R e.1=R e.2.1){v:Nat}(hv:R v≠r):∀ {A:List Int},(∀ p∈A,∃ i:Nat,p=i∧i<(subE R r l).length)→oddA l (whole R r l A) v=false
 | [],_=>rfl
 | p :: A,hA=>by
  show oddA l (_ :: whole R r l A) v=_
  rw [QaI,Qf9 hR hv fun q hq=>hA q (by simp [hq])]
  obtain⟨i,rfl,hi⟩:=hA p (by simp)
  obtain⟨j,e,h1,h2,h3,h4,h5⟩:=Qcb hi
  dsimp only
  rw [YM,h2,QbG h3]
  have he2:R e.2.1=r:=(hR e (YK h3)).symm.trans h4
  unfold tog
  have q1:(e.1==v)=false:=beq_eq_false_iff_ne.2 fun c=>hv (by rw [← c];exact h4)
  have q2:(e.2.1==v)=false:=beq_eq_false_iff_ne.2 fun c=>hv (by rw [← c];exact he2)
  rw [q1,q2]
  rfl
def tookT (R:Nat→Nat)(r n:Nat)(l:List Eg)(V:List Int)(a:Nat):List Bool:=flips (List.replicate l.length false) (whole R r l (wayM (subE R r l) V n (nm R r a)).reverse)
theorem Qij (R:Nat→Nat)(r n:Nat)(l:List Eg)(V:List Int)(a:Nat):(tookT R r n l V a).length=l.length:=by
 unfold tookT
 rw [Qc6,List.length_replicate]
theorem Qmv {R:Nat→Nat}{r N a b:Nat}{l:List Eg}(hl:∀ e∈l,e.1<N∧e.2.1<N)(hR:∀ e∈l,R e.1=R e.2.1)(ha:a<N)(hb:b<N)(hab:a<b)(ra:R a=r)(rb:R b=r){D V:List Int}(h:OKc (subE R r l) (nm R r b) (nm R r N) D V)(h0:0≤at' D (nm R r a)):
  rsB (trueL (tookT R r (nm R r N) l V a)) l.length=true∧oddV N l (trueL (tookT R r (nm R r N) l V a))=[(a:Int),(b:Int)]∧sumP l (trueL (tookT R r (nm R r N) l V a))=at' D (nm R r a):=by
 have hls:=QdO (r:=r) hl hR
 have hna:=Qep ra ha
 have hnb:=Qep rb hb
 have hV:=h.valid
 have hval:=Qdd hls hV (nm R r N) (nm R r a) hna
 have hval':∀ p∈(wayM (subE R r l) V (nm R r N) (nm R r a)).reverse,∃ i:Nat,p=i∧i<(subE R r l).length:=fun p hp=>hval p (List.mem_reverse.1 hp)
 obtain⟨k,hk,hkm⟩:=Qnk (h.come _ hna h0)
 obtain⟨hnd,_⟩:=Qmr hls hV h.zero k _ hna hk hkm (nm R r N)
 have hwn:=Qhd hval' (List.Perm.nodup_iff (List.reverse_perm _) |>.2 hnd)
 have hperm:(trueL (tookT R r (nm R r N) l V a)).Perm (whole R r l (wayM (subE R r l) V (nm R r N) (nm R r a)).reverse):=QlT (M:=l.length) (Qmq hval') hwn
 have hkl:k≤nm R r N:=by
  obtain⟨t,h1,h2⟩:=h.short hls hnb hna h0
  have h3:=QpJ h1
  by_cases c:k≤t.length
  ·omega
  ·exact absurd h3 (hkm _ (by omega))
 have hodd:=Qms hls hV h.zero (fun u hu hne ⟨q,hq⟩=>by
  rcases h.last u hu hne with h1 | ⟨_,h2⟩
  ·intro _
   have:∀ q,up (subE R r l) V q u=u:=fun q=>by
    induction q with
    | zero=>rfl
    | succ q ih=>rw [Qka,ih,QcO h1.2]
   exact hne ((this q).symm.trans hq)
  ·obtain⟨i,hi,_⟩:=h2.par
   omega) k _ hna hk (nm R r N) hkl
 refine⟨?_,?_,?_⟩
 ·rw [rs_iff]
  refine⟨fun x hx=>?_,Qcd _ _⟩
  obtain⟨i,rfl,h1,_⟩:=trueL_mem.1 hx
  rw [Qij] at h1
  omega
 ·have hat:∀ v,v<N→oddA l (trueL (tookT R r (nm R r N) l V a)) v=((a==v) ^^ (b==v)):=fun v hv=>by
   rw [QgF hperm]
   by_cases c:R v=r
   ·rw [Qga hR c hval',QgE,hodd]
    have q:∀ x,R x=r→(nm R r x==nm R r v)=(x==v):=fun x hx=>by
     by_cases d:x=v
     ·rw [d];simp
     ·rw [beq_eq_false_iff_ne.2 d,beq_eq_false_iff_ne.2 fun k=>d (Qeq hx c k)]
    rw [q a ra,q b rb]
   ·have q1:(a==v)=false:=beq_eq_false_iff_ne.2 fun d=>c (by rw [← d];exact ra)
    have q2:(b==v)=false:=beq_eq_false_iff_ne.2 fun d=>c (by rw [← d];exact rb)
    rw [Qf9 hR c hval',q1,q2]
    rfl
  refine Qir (Qcd _ _) (by simp;omega) fun x=>?_
  rw [oddV,trueL_mem,Qbd]
  constructor
  ·rintro⟨i,rfl,h1,h2⟩
   rw [QcT h1,hat i h1] at h2
   by_cases c:a=i
   ·subst c;simp
   ·rw [beq_eq_false_iff_ne.2 c,Bool.false_xor,beq_iff_eq] at h2
    subst h2;simp
  ·intro hx
   simp only [List.mem_cons,List.not_mem_nil,or_false] at hx
   rcases hx with rfl | rfl
   ·refine⟨a,rfl,ha,?_⟩
    rw [QcT ha,hat a ha,beq_eq_false_iff_ne.2 (show b≠a by omega)];simp
   ·refine⟨b,rfl,hb,?_⟩
    rw [QcT hb,hat b hb,beq_eq_false_iff_ne.2 (show a≠b by omega)];simp
 ·rw [Qko hperm,Qf8 hval',h.sum hls hnb hna h0]
open Go Go.Proofs Go.RowKit
section
variable (x:Nat) (w0:World) (Bk:Nat→Nat) (b off c q:Nat) (sp:Value)
theorem QfJ (hP:FP x w0 Bk b off c)(w:World)(hM:FM x w0 Bk (.slice (some ⟨b,off,none⟩) 1 q) (VS c sp A2 B2 C0 (-(c:Int)) (-(c:Int)) 1 0) w):Calls Tryz.prog 114 #[.pointer (some ⟨Bk 0,0,none⟩)] w fun e w'=>∃ g cap,e = .returned (.slice (some ⟨g,0,none⟩) 1 cap)∧w'.cell? ⟨g,0,none⟩=some (.int .i64 0)∧w.heap.size≤g∧1≤cap∧Below w.heap.size w w':=by
 have hmix:=mixed
 obtain⟨i0,hi,hz0,hz1,hz2⟩:=info_parts infoI
 have hxw:=FP.le x w0 Bk b off c hP hM
 have k0:=hM.cell 0 0 (by omega) rfl
 have HP:Hid (FP x w0 Bk b off c):=hP
 have HM:Hid (FM x w0 Bk (.slice (some ⟨b,off,none⟩) 1 q) (VS c sp A2 B2 C0 (-(c:Int)) (-(c:Int)) 1 0) w):=hM
 clear hM hP
 go_enter Tryz.func114,Tryz.ntmps114
 go_wp2
 go_loopw [3,10] (fun lv i wr=>((i = .int .i64 0∧lv = .slice none 0 0)∨((i = .int .i64 1∨i = .int .i64 2)∧wr.ownsRow w.heap.size 3 1 lv 1 [.int .i64 0]))∧Below w.heap.size w wr) (fun _ i _=>2-(intOf i).toNat)
 case atStart=>exact⟨.inl ⟨rfl,rfl⟩,YD⟩
 case round=>
  clear k0
  obtain⟨hor,hb⟩:=hrel
  have hM:=HM.out.go hxw hb
  have k5:=hM.cell 0 5 (by omega) rfl
  have m0:=hM.cell 3 0 (by omega) rfl
  have m1:=hM.cell 3 1 (by omega) rfl
  have k7:=hM.cell 0 7 (by omega) rfl
  have p0:=hM.cell 5 0 (by omega) rfl
  have p01:=hM.cell 6 1 (by omega) rfl
  rcases hor with ⟨rfl,rfl⟩ | ⟨rfl | rfl,hO⟩
  ·have HB:Hid (Below w.heap.size w wr):=hb
   have hbs:=hb.size
   clear hb hM
   go_wp2
   refine wp_region_held_drew (S:=(fun w':World=>w'.cell? ⟨Bk 0,5,none⟩=some (.slice (some ⟨Bk 3,0,none⟩) 2 2)∧w'.cell? ⟨Bk 3,0,none⟩=some (.int .i64 1)∧w'.cell? ⟨Bk 0,7,none⟩=some (.slice (some ⟨Bk 5,0,none⟩) 2 2)∧w'.cell? ⟨Bk 5,0,none⟩=some (.slice (some ⟨Bk 6,0,none⟩) 2 2)∧w'.cell? ⟨Bk 6,1,none⟩=some (.int .i64 0))) (by kernel_rfl) ⟨k5,m0,k7,p0,p01⟩ (fun hHeld=>?_)
   refine tH 0 ?_
   try simp only [YS]
   refine tH 1 ?_
   refine tH 2 ?_
   refine tH 3 ?_
   refine tH 4 ?_
   refine tH 5 ?_
   refine tH 6 ?_
   simp only [YS,YT,YU]
   refine tH 7 ?_
   refine tH 8 ?_
   refine tH 9 ?_
   refine tH 10 ?_
   refine tH 11 ?_
   simp only [YS,YT,YU]
   refine tH 12 ?_
   refine tH 13 ?_
   refine tH 14 ?_
   refine tH 15 ?_
   refine tH 16 ?_
   simp only [YS,YT,YU]
   obtain⟨wd,hwd⟩:∃ W,wr.drew=W:=⟨_,rfl⟩
   have HBd:Hid (Below w.heap.size w wd):=by rw [← hwd];exact Qaa HB.out 1
   have Hds:Hid (wd.heap.size=wr.heap.size):=by show _=_;rw [← hwd];rfl
   rw [hwd] at hHeld ⊢
   clear hwd k5 m0 m1 k7 p0 p01
   have hbA:Below wd.heap.size wd (wd.alloc (.cells #[.int .i64 0] 3)):=YD.alloc YA _
   have hownA:(wd.alloc (.cells #[.int .i64 0] 3)).ownsRow w.heap.size 3 1 (.slice none 0 0) 0 []:=World.ownsRow_nil _ _ _ _
   have hnw:Src (wd.alloc (.cells #[.int .i64 0] 3)) (.slice (some ⟨wd.heap.size,0,none⟩) 1 1) 1 1 [.int .i64 0]:=.inr ⟨⟨wd.heap.size,0,none⟩,1,rfl,rfl,Qbi wd (.int .i64 0) 3,fun z hz=>by rw [YF hz];rfl⟩
   have hsA:w.heap.size≤(wd.alloc (.cells #[.int .i64 0] 3)).heap.size:=by have:=Hds.out;simp only [World.size_alloc];omega
   refine wpAnyH_ready (rs:=[17]) (by kernel_rfl) (by simp) ?_
   refine AllReadyH.cons rfl (fun K hK=>?_) AllReadyH.nil
   go_simp
   refine hK.out _ _ ⟨Qab hbA hHeld.1,Qab hbA hHeld.2.1,Qab hbA hHeld.2.2.1,Qab hbA hHeld.2.2.2.1,Qab hbA hHeld.2.2.2.2⟩ (fun hHeld2=>?_)
   clear hK K
   refine wpAnyH_ready (rs:=[18]) (by kernel_rfl) (by simp) ?_
   refine AllReadyH.cons rfl (fun K hK=>?_) AllReadyH.nil
   refine Qap rfl _ _ 27 rfl w.heap.size 3 i0 (.int .i64 0) 1 8 Tryz.underlying27 hi hz0 hz1 hz2 rfl (by decide) (.slice none 0 0) 0 [] rfl hownA (.slice (some ⟨wd.heap.size,0,none⟩) 1 1) 1 [.int .i64 0] rfl hnw (by unfold maxLen;omega) (by omega) hsA ?_
   intro v8 w12 ho8 hg8 hat8
   obtain⟨a1,c1,rfl⟩:=Qan ho8
   have HO8:Hid (w12.ownsRow w.heap.size 3 1 (.slice a1 1 c1) 1 [.int .i64 0]):=ho8
   have HB8:Hid (Below w.heap.size w w12):=(HBd.out.alloc HBd.out.size _).grown hg8 hsA (fun k e=>by cases e)
   have hb8:Below (wd.alloc (.cells #[.int .i64 0] 3)).heap.size (wd.alloc (.cells #[.int .i64 0] 3)) w12:=YD.grown hg8 YA (fun k e=>by cases e)
   refine hK.out _ _ ⟨Qab hb8 hHeld2.1,Qab hb8 hHeld2.2.1,Qab hb8 hHeld2.2.2.1,Qab hb8 hHeld2.2.2.2.1,Qab hb8 hHeld2.2.2.2.2⟩ (fun hHeld3=>?_)
   clear hK K hownA hnw hHeld hHeld2 ho8 hg8 hat8 hb8 hbA hsA
   simp only [Act.put,YS]
   refine tH 19 ?_
   refine wpAnyH_done (by kernel_rfl) ?_ _
   go_wp2
   exact⟨⟨.inr ⟨.inl rfl,HO8.out⟩,HB8.out⟩,by simp [intOf]⟩
  ·have HO:Hid _:=hO
   have HB:Hid (Below w.heap.size w wr):=hb
   obtain⟨pp,cc,rfl⟩:=Qan hO
   clear hb hM hO
   go_wp2
   exact⟨⟨.inr ⟨.inr rfl,HO.out⟩,HB.out⟩,by simp [intOf]⟩
  ·obtain⟨g,cap,hv,hbg,hgl,hn,hcm,hzl,hH⟩:=Lib.holds_of_ownsRow (enc:=Value.int .i64) (zs:=[0]) hO (by intro e;subst e;have:=hO.1;rcases hO.2 with ⟨_,h⟩ | ⟨_,_,_,h,_⟩ <;> simp at h)
   subst hv
   have HO:Hid (wr.ownsRow w.heap.size 3 1 (.slice (some ⟨g,0,none⟩) 1 cap) 1 [.int .i64 0]):=hO
   have HB:Hid (Below w.heap.size w wr):=hb
   have hso:=Tryz.slices_Sort_int g 0 cap [0] wr hH hgl (by decide)
   have hso2:Calls Tryz.prog 146 #[.slice (some ⟨g,0,none⟩) 1 cap] wr fun e w'=>e = .returned (.tuple #[])∧w'.cell? ⟨g,0,none⟩=some (.int .i64 0)∧Below w.heap.size w w':=by
    refine hso.mono ?_
    rintro e w' ⟨rfl,n,os,rfl⟩
    have h1:(Go.Sort.putRow (Value.int .i64) (Go.Sort.ahead wr n) g 0 ([0]:List Int).toArray).ownsRow w.heap.size 3 1 (.slice (some ⟨g,0,none⟩) 1 cap) 1 ((([0]:List Int).take 1).map (Value.int .i64)):=Lib.ownsRow_putRow (q:=n) (ys:=[0]) (zs:=[0]) (enc:=Value.int .i64) hO rfl YA
    have h2:Below w.heap.size w (Go.Sort.putRow (Value.int .i64) (Go.Sort.ahead wr n) g 0 ([0]:List Int).toArray):=Lib.below_putRow hb hbg
    have hms:(([0]:List Int).mergeSort fun x y=>decide (x≤y))=[0]:=by simp
    rw [hms]
    generalize Go.Sort.putRow (Value.int .i64) (Go.Sort.ahead wr n) g 0 ([0]:List Int).toArray=W3 at h1 h2 ⊢
    have hbg2:Below W3.heap.size W3 (Go.Sort.grow W3 os):=Grew.below ⟨0,os,rfl⟩
    exact⟨rfl,Qab hbg2 ((h1.cellAt 0 (by omega)).trans rfl),h2.trans (hbg2.mono h2.size)⟩
   clear hb hM hO hso hH
   go_wp2_with fail
   refine hso2.mono ?_
   rintro e w5 ⟨rfl,hc5,hb5⟩
   clear hso2
   go_wp2
   go_ret
   exact⟨g,cap,rfl,hc5,hbg,hn,hb5⟩
end
end Go.Proofs.YtalflecmadacaaaGreat
