import Derived.Test.YtalflecmadacaaaGreatZBE
import Derived.Test.YtalflecmadacaaaGreatZAH
import Derived.OwnWalk
import Derived.Test.YtalflecmadacaaaGreatZAB
import Derived.Test.YtalflecmadacaaaGreatZAL
import Derived.Test.YtalflecmadacaaaGreatZAK
import Derived.Test.YtalflecmadacaaaGreatZAM
import Derived.Shelf.Bits.Mul64
import Derived.Ground.Names2Prog
import Derived.Test.YtalflecmadacaaaGreatProg
import Derived.Test.YtalflecmadacaaaGreatZAA
set_option maxRecDepth 100000
set_option maxHeartbeats 8000000
namespace Go.Proofs.YtalflecmadacaaaGreat
theorem IsD.few {l:List Eg}{s n M:Nat}{d:List Int}(h:IsD l s n d)(hl:∀ e∈l,e.1<n∧e.2.1<n)(hs:s<n)(hM:∀ e∈l,e.2.2≤M){v:Nat}(hv:v<n):at' d v≤((n*M:Nat):Int):=by
 rcases h.2 v hv with ⟨h1,_⟩ | ⟨c,h1,⟨L,h2⟩,h3⟩
 ·omega
 ·obtain⟨t,c',k1,k2,k3⟩:=Qee h2
  have h4:=QhD hM k1
  have h5:=QcY n _ k3 (Qnm hl hs k1)
  have h6:=Nat.mul_le_mul_right M h5
  have h7:=h3 _ _ k1
  omega
theorem OKc.valid {l:List Eg}{s n:Nat}{d via:List Int}(h:OKc l s n d via):Qe3 l n via:=fun v hv=>by
 by_cases e:v=s
 ·subst e;exact .inl h.zero
 ·rcases h.last v hv e with h1 | ⟨_,i,h1,e',h2,h3,_⟩
  ·exact .inl h1.2
  ·exact .inr ⟨i,e',h1,h2,h3⟩
def wP (l:List Eg)(p:Int):Int:=((l.getD p.toNat (0,0,0)).2.2:Int)
def sumP (l:List Eg)(A:List Int):Int:=(A.map (wP l)).sum
theorem QfH (l:List Eg):sumP l []=0:=rfl
theorem QaH (l:List Eg)(p:Int)(A:List Int):sumP l (p :: A)=wP l p+sumP l A:=by simp [sumP]
theorem Qef (l:List Eg)(A B:List Int):sumP l (A++B)=sumP l A+sumP l B:=by simp [sumP]
theorem QdE (l:List Eg):∀ A:List Int,sumP l A.reverse=sumP l A
 | []=>rfl
 | p :: A=>by rw [List.reverse_cons,Qef,QdE l A,QaH,QaH,QfH];omega
theorem QiK {l:List Eg}{M:Nat}(hM:∀ e∈l,e.2.2≤M):∀ A:List Int,0≤sumP l A∧sumP l A≤((A.length*M:Nat):Int)
 | []=>by simp [sumP]
 | p :: A=>by
  have h:=QiK hM A
  have h1:0≤wP l p∧wP l p≤(M:Int):=by
   unfold wP
   rw [YC]
   cases hq:l[p.toNat]? with
   | none=>simp
   | some e=>have:=hM e (YK hq);simp;omega
  have e1:(p :: A).length*M=A.length*M+M:=Nat.succ_mul _ _
  rw [QaH]
  omega
theorem QiB (l:List Eg)(via:List Int):∀ (k v:Nat),(wayM l via k v).length≤k
 | 0,_=>YA
 | k+1,v=>by
  unfold wayM
  split
  ·simp
  ·have:=QiB l via k (par l via v);simp;omega
theorem Qdf {l:List Eg}{n:Nat}{via:List Int}(hl:∀ e∈l,e.1<n∧e.2.1<n)(hV:Qe3 l n via):∀ (k v:Nat),v<n→∀ p∈wayM l via k v,∃ i:Nat,p=i∧i<l.length
 | 0,_,_,p,hp=>by simp [wayM] at hp
 | k+1,v,hv,p,hp=>by
  unfold wayM at hp
  split at hp
  ·simp at hp
  ·rename_i hne
   rcases List.mem_cons.1 hp with rfl | hp
   ·rcases hV v hv with h | ⟨i,e,h1,h2,_⟩
    ·exact absurd h hne
    ·exact⟨i,h1,(YE h2).1⟩
   ·exact Qdf hl hV k _ (QfR hl hV hv) p hp
theorem QoS {l:List Eg}{s n:Nat}{d via:List Int}(h:OKc l s n d via)(hl:∀ e∈l,e.1<n∧e.2.1<n)(hs:s<n):∀ (t:List Nat) (k v:Nat),v<n→0≤at' d v→CH l via s (v :: t)→t.length≤k→sumP l (wayM l via k v)=at' d v:=by
 have hbase:∀ k,sumP l (wayM l via k s)=at' d s:=fun k=>by rw [Qbu h.zero,QfH,h.dist.zero hs]
 intro t
 induction t with
 | nil=>
  intro k v hv h0 hc _
  have:v=s:=hc
  subst this
  exact hbase k
 | cons u t ih=>
  intro k v hv h0 hc hk
  by_cases e:v=s
  ·subst e;exact hbase k
  ·rcases h.last v hv e with h1 | ⟨_,hL⟩
   ·omega
   ·obtain⟨k',rfl⟩:∃ k',k=k'+1:=⟨k-1,by simp at hk;omega⟩
    obtain⟨i,hi,e',he,hm,hj,hp,hd⟩:=hL.par
    have hk1:=Qib (h.dist.kept hl hm) hj.symm h0
    have hpl:=QoG hl hL
    have hc2:=hc.2
    rw [hc.1] at hc2
    have ih':=ih k' (par l via v) hpl hk1.1 hc2 (by simp at hk;omega)
    rw [QcE (by omega),QaH,ih',hd]
    have hw:wP l (at' via v)=(e'.2.2:Int):=by
     unfold wP
     rw [hi,YM,YC,he]
     rfl
    rw [hw]
    omega
theorem OKc.sum {l:List Eg}{s n:Nat}{d via:List Int}(h:OKc l s n d via)(hl:∀ e∈l,e.1<n∧e.2.1<n)(hs:s<n){v:Nat}(hv:v<n)(h0:0≤at' d v):sumP l (wayM l via n v).reverse=at' d v:=by
 obtain⟨t,h1,h2⟩:=h.short hl hs hv h0
 rw [QdE]
 exact QoS h hl hs t n v hv h0 h1 (by omega)
theorem Qn2 {P:Nat→Prop}(h:∃ k,P k):∃ k,P k∧∀ j,j<k→¬ P j:=by
 obtain⟨k,hk⟩:=h
 induction k using Nat.strongRecOn with
 | ind k ih=>
  by_cases e:∃ j,j<k∧P j
  ·obtain⟨j,hj,hp⟩:=e
   exact ih j hj hp
  ·exact⟨k,hk,fun j hj hp=>e ⟨j,hj,hp⟩⟩
theorem QnG {e:Eg}{u x:Nat}(h:e.1=u∨e.2.1=u):tog e x=((u==x) ^^ (oth e u==x)):=by
 unfold tog oth
 by_cases k:e.1=u
 ·rw [if_pos k,k]
 ·rw [if_neg k,h.resolve_left k,Bool.xor_comm]
theorem Qpe {e:Eg}{u x:Nat}(h:e.1=u∨e.2.1=u)(h':e.1=x∨e.2.1=x)(hne:u≠x):oth e x=u:=by
 unfold oth
 by_cases k:e.1=x
 ·rw [if_pos k];exact h.resolve_left fun q=>hne (q.symm.trans k)
 ·rw [if_neg k]
  have:=h'.resolve_left k
  exact h.resolve_right fun q=>hne (q.symm.trans this)
theorem QpH {l:List Eg}{n:Nat}{V:List Int}(hl:∀ e∈l,e.1<n∧e.2.1<n)(hV:Qe3 l n V):∀ (k v:Nat),v<n→up l V k v<n
 | 0,_,h=>h
 | k+1,_,h=>QpH hl hV k _ (QfR hl hV h)
theorem Qne {l:List Eg}{s n:Nat}{V:List Int}(hl:∀ e∈l,e.1<n∧e.2.1<n)(hV:Qe3 l n V)(hz:at' V s = -1):∀ (k u:Nat),u<n→up l V k u=s→(∀ j,j<k→up l V j u≠s)→∀ K,(wayM l V K u).Nodup∧∀ p∈wayM l V K u,∃ j,j<k∧p=at' V (up l V j u):=by
 intro k
 induction k with
 | zero=>
  intro u hu h0 _ K
  have:u=s:=h0
  subst this
  rw [Qbu hz]
  exact⟨List.nodup_nil,by simp⟩
 | succ k ih=>
  intro u hu h0 hmin K
  cases K with
  | zero=>exact⟨by simp [wayM],by simp [wayM]⟩
  | succ K=>
   by_cases hn:at' V u = -1
   ·rw [Qbu hn];exact⟨List.nodup_nil,by simp⟩
   ·rw [QcE hn]
    have hpl:=QfR hl hV hu
    obtain⟨a,b⟩:=ih (par l V u) hpl h0 (fun j hj=>hmin (j+1) (by omega)) K
    refine⟨?_,?_⟩
    ·rw [List.nodup_cons]
     refine⟨fun hm=>?_,a⟩
     obtain⟨j,hj,he⟩:=b _ hm
     have hx:=QpH hl hV j (par l V u) hpl
     have back:∀ q,q≤k+1→0<q→up l V q u≠u:=fun q hq h1 hc=>by
      refine hmin (k+1-q) (by omega) ?_
      have h3:=QkI l V q (k+1-q) u
      rw [show q+(k+1-q)=k+1 by omega,hc,h0] at h3
      exact h3.symm
     have hne:u≠up l V j (par l V u):=fun hc=>back (j+1) (by omega) (by omega) hc.symm
     rcases hV u hu with h1 | ⟨i,e,h1,h2,h3⟩
     ·exact hn h1
     ·rcases hV _ hx with k1 | ⟨i',e',k1,k2,k3⟩
      ·exact hn (he.trans k1)
      ·have:i=i':=by have:=h1.symm.trans (he.trans k1);omega
       subst this
       have:e=e':=Option.some.inj (h2.symm.trans k2)
       subst this
       refine back (j+2) (by omega) (by omega) ?_
       show up l V (j+1) (par l V u)=u
       rw [QkH,QiX k1 k2]
       exact Qpe h3 k3 hne
    ·intro p hp
     rcases List.mem_cons.1 hp with rfl | hp
     ·exact⟨0,by omega,rfl⟩
     ·obtain⟨j,hj,he⟩:=b p hp
      exact⟨j+1,by omega,he⟩
theorem Qnf {l:List Eg}{s n:Nat}{V:List Int}(hl:∀ e∈l,e.1<n∧e.2.1<n)(hV:Qe3 l n V)(hz:at' V s = -1)(hne:∀ u,u<n→u≠s→(∃ k,up l V k u=s)→at' V u≠-1):∀ (k u:Nat),u<n→up l V k u=s→∀ K,k≤K→∀ x,oddA l (wayM l V K u) x=((u==x) ^^ (s==x)):=by
 intro k
 induction k with
 | zero=>
  intro u hu h0 K _ x
  have:u=s:=h0
  subst this
  rw [Qbu hz,QcX,Bool.xor_self]
 | succ k ih=>
  intro u hu h0 K hK x
  by_cases e:u=s
  ·subst e;rw [Qbu hz,QcX,Bool.xor_self]
  ·obtain⟨K',rfl⟩:∃ K',K=K'+1:=⟨K-1,by omega⟩
   have hn:=hne u hu e ⟨k+1,h0⟩
   rw [QcE hn,QaI,ih (par l V u) (QfR hl hV hu) h0 K' (by omega) x]
   rcases hV u hu with h1 | ⟨i,e',h1,h2,h3⟩
   ·exact absurd h1 hn
   ·rw [h1,Qcb h2,QnG h3,QiX h1 h2,← Bool.xor_assoc,Bool.xor_assoc (u==x),Bool.xor_self,Bool.xor_false]
def flips (T:List Bool)(A:List Int):List Bool:=A.foldl (fun T p=>flipB T p.toNat) T
theorem Qda:∀ (A:List Int)(T:List Bool) ,(flips T A).length=T.length
 | [],_=>rfl
 | p :: A,T=>by show (flips (flipB T p.toNat) A).length=_;rw [Qda A,QaN]
theorem Qkr (T:List Bool)(A:List Int)(p:Int):flips T (A++[p])=flipB (flips T A) p.toNat:=by simp [flips]
theorem Qjj:∀ (A:List Int)(T:List Bool) ,(∀ p∈A,0≤p∧p<(T.length:Int))→A.Nodup→∀ i:Nat,bAt (flips T A) i=(bAt T i ^^ decide ((i:Int)∈A))
 | [],T,_,_,i=>by simp [flips]
 | p :: A,T,h,hn,i=>by
  have hp:=h p (by simp)
  have hl:p.toNat<T.length:=by omega
  rw [List.nodup_cons] at hn
  show bAt (flips (flipB T p.toNat) A) i=_
  rw [Qjj A _ (fun q hq=>by rw [QaN];exact h q (by simp [hq])) hn.2 i,Qdb hl,Bool.xor_assoc]
  congr 1
  by_cases e:(i:Int)=p
  ·subst e
   have:decide ((i:Int)∈A)=false:=by simpa using hn.1
   rw [this];simp
  ·have h1:(p.toNat==i)=false:=by rw [beq_eq_false_iff_ne];omega
   rw [h1,Bool.false_xor]
   simp [e]
theorem QhV:∀ {A B:List Int} ,A.Nodup→B.Nodup→(∀ x,x∈A↔x∈B)→A.Perm B:=fun ha hb h=>(List.perm_ext_iff_of_nodup ha hb).2 h
theorem QjJ {A:List Int}(h:A.Pairwise (· < ·)):A.Nodup:=by
 unfold List.Nodup
 exact h.imp fun h=>Int.ne_of_lt h
theorem QmB {M:Nat}{A:List Int}(h:∀ p∈A,0≤p∧p<(M:Int))(hn:A.Nodup):(trueL (flips (List.replicate M false) A)).Perm A:=by
 have h2:∀ i:Nat,bAt (flips (List.replicate M false) A) i=decide ((i:Int)∈A):=fun i=>by
  rw [Qjj A _ (by simpa using h) hn]
  have:bAt (List.replicate M false) i=false:=by
   unfold bAt
   rw [YC,List.getElem?_replicate]
   split <;> rfl
  rw [this,Bool.false_xor]
 refine QhV (QjJ (Qcf _ _)) hn fun x=>?_
 rw [trueL_mem,Qda,List.length_replicate]
 constructor
 ·rintro⟨i,rfl,_,h3⟩
  rw [h2] at h3
  simpa using h3
 ·intro hx
  obtain⟨h3,h4⟩:=h x hx
  refine⟨x.toNat,by omega,by omega,?_⟩
  rw [h2,Int.toNat_of_nonneg h3]
  simpa using hx
theorem QkW {l:List Eg}{A B:List Int}(h:A.Perm B):sumP l A=sumP l B:=by
 induction h with
 | nil=>rfl
 | cons x _ ih=>rw [QaH,QaH,ih]
 | swap x y l'=>rw [QaH,QaH,QaH,QaH];omega
 | trans _ _ h1 h2=>exact h1.trans h2
def whole (R:Nat→Nat)(r:Nat)(l:List Eg)(A:List Int):List Int:=A.map fun p=>(((subP R r l).getD p.toNat 0:Nat):Int)
theorem Qcc {R:Nat→Nat}{r:Nat}{l:List Eg}{i:Nat}(h:i<(subE R r l).length):∃ j e,(subP R r l)[i]? = some j∧(subP R r l).getD i 0=j∧l[j]? = some e∧R e.1=r∧(subE R r l)[i]? = some (ren R r e):=by
 have hl:i<(subP R r l).length:=by rw [← (Qeh R r l).1];exact h
 obtain⟨e,h1,h2,h3⟩:=QoD (YB hl)
 exact⟨_,e,YB hl,by rw [YC,YB hl];rfl,h1,h2,h3⟩
theorem Qnd {R:Nat→Nat}{r:Nat}{l:List Eg}{A:List Int}(hA:∀ p∈A,∃ i:Nat,p=i∧i<(subE R r l).length):∀ p∈whole R r l A,0≤p∧p<(l.length:Int):=fun p hp=>by
 obtain⟨q,hq,rfl⟩:=List.mem_map.1 hp
 obtain⟨i,rfl,hi⟩:=hA q hq
 obtain⟨j,e,h1,h2,h3,_⟩:=Qcc hi
 rw [YM,h2]
 have:=(YE h3).1
 omega
theorem Qgp {R:Nat→Nat}{r:Nat}{l:List Eg}:∀ {A:List Int},(∀ p∈A,∃ i:Nat,p=i∧i<(subE R r l).length)→sumP l (whole R r l A)=sumP (subE R r l) A
 | [],_=>rfl
 | p :: A,hA=>by
  show sumP l (_ :: whole R r l A)=_
  rw [QaH,QaH,Qgp fun q hq=>hA q (by simp [hq])]
  obtain⟨i,rfl,hi⟩:=hA p (by simp)
  obtain⟨j,e,h1,h2,h3,_,h5⟩:=Qcc hi
  have a:wP l (((subP R r l).getD (i:Int).toNat 0:Nat):Int)=(e.2.2:Int):=by
   rw [YM,h2]
   simp [wP,h3]
  have b:wP (subE R r l) (i:Int)=(e.2.2:Int):=by simp [wP,h5,ren]
  rw [a,b]
theorem Qhx {R:Nat→Nat}{r:Nat}{l:List Eg}{A:List Int}(hA:∀ p∈A,∃ i:Nat,p=i∧i<(subE R r l).length)(hn:A.Nodup):(whole R r l A).Nodup:=by
 induction A with
 | nil=>simp [whole]
 | cons p A ih=>
  rw [List.nodup_cons] at hn
  show (_ :: whole R r l A).Nodup
  rw [List.nodup_cons]
  refine⟨fun hm=>?_,ih (fun q hq=>hA q (by simp [hq])) hn.2⟩
  obtain⟨q,hq,he⟩:=List.mem_map.1 hm
  obtain⟨i,rfl,hi⟩:=hA p (by simp)
  obtain⟨i',rfl,hi'⟩:=hA q (by simp [hq])
  obtain⟨j,e,h1,h2,_⟩:=Qcc hi
  obtain⟨j',e',k1,k2,_⟩:=Qcc hi'
  dsimp only at he
  rw [YM,YM,h2,k2] at he
  have hj:j'=j:=by omega
  subst hj
  obtain⟨a1,a2⟩:=YE h1
  obtain⟨b1,b2⟩:=YE k1
  have hii:i'=i:=by
   rcases Nat.lt_trichotomy i' i with c | c | c
   ·have:=List.pairwise_iff_getElem.1 (QgE R r l) i' i b1 a1 c
    omega
   ·exact c
   ·have:=List.pairwise_iff_getElem.1 (QgE R r l) i i' a1 b1 c
    omega
  subst hii
  exact hn.1 hq
theorem Qgr {R:Nat→Nat}{r:Nat}{l:List Eg}(hR:∀ e∈l,R e.1=R e.2.1){v:Nat}(hv:R v=r):∀ {A:List Int},(∀ p∈A,∃ i:Nat,p=i∧i<(subE R r l).length)→oddA l (whole R r l A) v=oddA (subE R r l) A (nm R r v)
 | [],_=>rfl
 | p :: A,hA=>by
  show oddA l (_ :: whole R r l A) v=_
  rw [QaI,QaI,Qgr hR hv fun q hq=>hA q (by simp [hq])]
  obtain⟨i,rfl,hi⟩:=hA p (by simp)
  obtain⟨j,e,h1,h2,h3,h4,h5⟩:=Qcc hi
  dsimp only
  rw [YM,h2,Qcb h3,Qcb h5]
  have he2:R e.2.1=r:=(hR e (YK h3)).symm.trans h4
  congr 1
  unfold tog ren
  have q1:(e.1==v)=(nm R r e.1==nm R r v):=by
   by_cases c:e.1=v
   ·rw [c];simp
   ·have:nm R r e.1≠nm R r v:=fun k=>c (QeA h4 hv k)
    rw [beq_eq_false_iff_ne.2 c,beq_eq_false_iff_ne.2 this]
  have q2:(e.2.1==v)=(nm R r e.2.1==nm R r v):=by
   by_cases c:e.2.1=v
   ·rw [c];simp
   ·have:nm R r e.2.1≠nm R r v:=fun k=>c (QeA he2 hv k)
    rw [beq_eq_false_iff_ne.2 c,beq_eq_false_iff_ne.2 this]
  rw [q1,q2]
theorem Qgq {R:Nat→Nat}{r:Nat}{l:List Eg}(hR:∀ e∈l,R e.1=R e.2.1){v:Nat}(hv:R v≠r):∀ {A:List Int},(∀ p∈A,∃ i:Nat,p=i∧i<(subE R r l).length)→oddA l (whole R r l A) v=false
 | [],_=>rfl
 | p :: A,hA=>by
  show oddA l (_ :: whole R r l A) v=_
  rw [QaI,Qgq hR hv fun q hq=>hA q (by simp [hq])]
  obtain⟨i,rfl,hi⟩:=hA p (by simp)
  obtain⟨j,e,h1,h2,h3,h4,h5⟩:=Qcc hi
  dsimp only
  rw [YM,h2,Qcb h3]
  have he2:R e.2.1=r:=(hR e (YK h3)).symm.trans h4
  unfold tog
  have q1:(e.1==v)=false:=beq_eq_false_iff_ne.2 fun c=>hv (by rw [← c];exact h4)
  have q2:(e.2.1==v)=false:=beq_eq_false_iff_ne.2 fun c=>hv (by rw [← c];exact he2)
  rw [q1,q2]
  rfl
def tookT (R:Nat→Nat)(r n:Nat)(l:List Eg)(V:List Int)(a:Nat):List Bool:=flips (List.replicate l.length false) (whole R r l (wayM (subE R r l) V n (nm R r a)).reverse)
theorem QiE (R:Nat→Nat)(r n:Nat)(l:List Eg)(V:List Int)(a:Nat):(tookT R r n l V a).length=l.length:=by
 unfold tookT
 rw [Qda,List.length_replicate]
theorem Qni {R:Nat→Nat}{r N a b:Nat}{l:List Eg}(hl:∀ e∈l,e.1<N∧e.2.1<N)(hR:∀ e∈l,R e.1=R e.2.1)(ha:a<N)(hb:b<N)(hab:a<b)(ra:R a=r)(rb:R b=r){D V:List Int}(h:OKc (subE R r l) (nm R r b) (nm R r N) D V)(h0:0≤at' D (nm R r a)):
  rsB (trueL (tookT R r (nm R r N) l V a)) l.length=true∧oddV N l (trueL (tookT R r (nm R r N) l V a))=[(a:Int),(b:Int)]∧sumP l (trueL (tookT R r (nm R r N) l V a))=at' D (nm R r a):=by
 have hls:=QdT (r:=r) hl hR
 have hna:=Qez ra ha
 have hnb:=Qez rb hb
 have hV:=h.valid
 have hval:=Qdf hls hV (nm R r N) (nm R r a) hna
 have hval':∀ p∈(wayM (subE R r l) V (nm R r N) (nm R r a)).reverse,∃ i:Nat,p=i∧i<(subE R r l).length:=fun p hp=>hval p (List.mem_reverse.1 hp)
 obtain⟨k,hk,hkm⟩:=Qn2 (h.come _ hna h0)
 obtain⟨hnd,_⟩:=Qne hls hV h.zero k _ hna hk hkm (nm R r N)
 have hwn:=Qhx hval' (List.Perm.nodup_iff (List.reverse_perm _) |>.2 hnd)
 have hperm:(trueL (tookT R r (nm R r N) l V a)).Perm (whole R r l (wayM (subE R r l) V (nm R r N) (nm R r a)).reverse):=QmB (M:=l.length) (Qnd hval') hwn
 have hkl:k≤nm R r N:=by
  obtain⟨t,h1,h2⟩:=h.short hls hnb hna h0
  have h3:=Qp4 h1
  by_cases c:k≤t.length
  ·omega
  ·exact absurd h3 (hkm _ (by omega))
 have hodd:=Qnf hls hV h.zero (fun u hu hne ⟨q,hq⟩=>by
  rcases h.last u hu hne with h1 | ⟨_,h2⟩
  ·intro _
   have:∀ q,up (subE R r l) V q u=u:=fun q=>by
    induction q with
    | zero=>rfl
    | succ q ih=>rw [QkH,ih,QcS h1.2]
   exact hne ((this q).symm.trans hq)
  ·obtain⟨i,hi,_⟩:=h2.par
   omega) k _ hna hk (nm R r N) hkl
 refine⟨?_,?_,?_⟩
 ·rw [rs_iff]
  refine⟨fun x hx=>?_,Qcf _ _⟩
  obtain⟨i,rfl,h1,_⟩:=trueL_mem.1 hx
  rw [QiE] at h1
  omega
 ·have hat:∀ v,v<N→oddA l (trueL (tookT R r (nm R r N) l V a)) v=((a==v) ^^ (b==v)):=fun v hv=>by
   rw [QgU hperm]
   by_cases c:R v=r
   ·rw [Qgr hR c hval',QgT,hodd]
    have q:∀ x,R x=r→(nm R r x==nm R r v)=(x==v):=fun x hx=>by
     by_cases d:x=v
     ·rw [d];simp
     ·rw [beq_eq_false_iff_ne.2 d,beq_eq_false_iff_ne.2 fun k=>d (QeA hx c k)]
    rw [q a ra,q b rb]
   ·have q1:(a==v)=false:=beq_eq_false_iff_ne.2 fun d=>c (by rw [← d];exact ra)
    have q2:(b==v)=false:=beq_eq_false_iff_ne.2 fun d=>c (by rw [← d];exact rb)
    rw [Qgq hR c hval',q1,q2]
    rfl
  refine QiP (Qcf _ _) (by simp;omega) fun x=>?_
  rw [oddV,trueL_mem,Qbd]
  constructor
  ·rintro⟨i,rfl,h1,h2⟩
   rw [QcW h1,hat i h1] at h2
   by_cases c:a=i
   ·subst c;simp
   ·rw [beq_eq_false_iff_ne.2 c,Bool.false_xor,beq_iff_eq] at h2
    subst h2;simp
  ·intro hx
   simp only [List.mem_cons,List.not_mem_nil,or_false] at hx
   rcases hx with rfl | rfl
   ·refine⟨a,rfl,ha,?_⟩
    rw [QcW ha,hat a ha,beq_eq_false_iff_ne.2 (show b≠a by omega)];simp
   ·refine⟨b,rfl,hb,?_⟩
    rw [QcW hb,hat b hb,beq_eq_false_iff_ne.2 (show a≠b by omega)];simp
 ·rw [QkW hperm,Qgp hval',h.sum hls hnb hna h0]
open Go Go.Proofs Go.RowKit
def iotaL (N j:Nat):List Nat:=List.range j++List.replicate (N-j) 0
theorem Qmj {N j:Nat}(h:j≤N):(iotaL N j).length=N:=by simp [iotaL];omega
theorem Qmi {N j:Nat}(h:j<N):(iotaL N j).set j j=iotaL N (j+1):=by
 unfold iotaL
 rw [List.set_append_right _ _ (by simp),List.length_range,Nat.sub_self]
 obtain⟨m,hm⟩:∃ m,N-j=m+1:=⟨N-j-1,by omega⟩
 rw [hm,List.replicate_succ,List.set_cons_zero,show N-(j+1)=m from by omega,List.range_succ,List.append_assoc]
 rfl
theorem Qj8 (N:Nat):iotaL N N=List.range N:=by simp [iotaL]
theorem Qfi (N:Nat):(List.replicate N (0:Int)).map (Value.int .i64)=natsV (iotaL N 0):=by simp [natsV,iotaL]
def leadL (N:Nat)(R:Nat→Nat):List Nat:=(List.range N).map R
theorem Qn3 {N:Nat}{P:List Nat}{R:Nat→Nat}(hP:P.length=N)(h:∀ i,i<N→pf P i=R i):P=leadL N R:=by
 apply List.ext_getElem
 ·simp [leadL,hP]
 ·intro i h1 h2
  have:=h i (by omega)
  rw [pf,YC,YB h1] at this
  simpa [leadL] using this
theorem Qck {N v:Nat}{R:Nat→Nat}(h:v<N):(natsV (leadL N R))[v]? = some (.int .i64 (R v:Int)):=by simp [natsV,leadL,h]
theorem Qia (N:Nat)(L:List Eg)(hN:N≤1048576)(hm:L.length≤4194304)(hE:∀ e∈L,e.1<N∧e.2.1<N)(sv:Value)(w:World)(hl:Edges w.heap.size w sv (L.map edE)):
  Calls Tryz.prog 60 #[.agg #[.int .i64 (N:Int),sv]] w fun r w'=>∃ (g:Nat) (R:Nat→Nat),r = .returned (.slice (some ⟨g,0,none⟩) N N)∧LeadP L N R∧Blk 3 w' g (natsV (leadL N R))∧Below w.heap.size w w'∧w.heap.size≤g:=by
 have hmix:=mixed
 obtain⟨p,c,rfl⟩:=hl.lenG
 obtain⟨i0,hi,hz0,hz1,hz2⟩:=info_parts infoI
 have hg1:Grew w (w.alloc (.cells #[.int .i64 (N:Int),.slice p L.length c] 24)):=(Grew.refl w).alloc _
 have e1:(w.alloc (.cells #[.int .i64 (N:Int),.slice p L.length c] 24)).heap.size=w.heap.size+1:=by simp
 have E1:Hid _:=e1
 clear e1
 go_enter Tryz.func60,Tryz.ntmps60
 go_wp2_with (at_make;refine wpList_make_full _ rfl _ _ 27 rfl w.heap.size 3 i0 (.int .i64 0) 1 Tryz.underlying27 hi hz0 hz1 .i64 .i64 _ _ N rfl rfl rfl rfl (by rw [hz2];omega) (by unfold maxLen;omega) (by simp) ?_;intro w3 hown hgrow;have hb3:Below (w.alloc (.cells #[.int .i64 (N:Int),.slice p L.length c] 24)).heap.size (w.alloc (.cells #[.int .i64 (N:Int),.slice p L.length c] 24)) w3:=YD.grown hgrow YA (fun k e=>by cases e);have q0:w3.cell? ⟨w.heap.size,0,none⟩=some (.int .i64 (N:Int)):=(hb3.cell (p:=⟨w.heap.size,0,none⟩) (by rw [E1.out];exact Nat.lt_succ_self _)).trans (Qan rfl rfl);have q1:w3.cell? ⟨w.heap.size,1,none⟩=some (.slice p L.length c):=(hb3.cell (p:=⟨w.heap.size,1,none⟩) (by rw [E1.out];exact Nat.lt_succ_self _)).trans (Qan rfl rfl);have hbw:Below w.heap.size w w3:=hg1.below.trans (hb3.mono (by rw [E1.out];omega));rw [E1.out] at hown;have hrow:=Blk.made hown;have hsz:=hrow.lt;rw [QaD,Qfi] at hrow;have HRow:Hid _:=hrow;clear hown hgrow hb3 hrow;have hl1:w.heap.size<w3.heap.size:=by omega)
 have HB4:Hid (Below w.heap.size w (w3.alloc (.cells #[.slice (some ⟨w.heap.size+1,0,none⟩) N N] 27))):=hbw.alloc (by omega) _
 have HC4:Hid ((w3.alloc (.cells #[.slice (some ⟨w.heap.size+1,0,none⟩) N N] 27)).cell? ⟨w3.heap.size,0,none⟩=some (.slice (some ⟨w.heap.size+1,0,none⟩) N N)):=Qan rfl rfl
 have HR4:Hid (Blk 3 (w3.alloc (.cells #[.slice (some ⟨w.heap.size+1,0,none⟩) N N] 27)) (w.heap.size+1) (natsV (iotaL N 0))):=by
  have h1:Blk 3 w3 (w.heap.size+1) (natsV (iotaL N 0)):=HRow.out
  exact h1.go (YD.alloc YA _)
 have HQ4:Hid ((w3.alloc (.cells #[.slice (some ⟨w.heap.size+1,0,none⟩) N N] 27)).cell? ⟨w.heap.size,0,none⟩=some (.int .i64 (N:Int))∧(w3.alloc (.cells #[.slice (some ⟨w.heap.size+1,0,none⟩) N N] 27)).cell? ⟨w.heap.size,1,none⟩=some (.slice p L.length c)):=
  ⟨((Below.refl w3.heap.size w3).alloc YA _ |>.cell (p:=⟨w.heap.size,0,none⟩) hl1).trans q0,((Below.refl w3.heap.size w3).alloc YA _ |>.cell (p:=⟨w.heap.size,1,none⟩) hl1).trans q1⟩
 obtain⟨w4,hw4⟩:∃ W,w3.alloc (.cells #[.slice (some ⟨w.heap.size+1,0,none⟩) N N] 27)=W:=⟨_,rfl⟩
 rw [hw4] at HB4 HC4 HR4 HQ4
 rw [hw4]
 clear hw4 q0 q1 hbw HRow hi hz0 hz1 hz2 E1
 obtain⟨lb,hlb⟩:∃ n,w3.heap.size=n:=⟨_,rfl⟩
 rw [hlb] at HC4 hl1 hsz ⊢
 clear hlb
 obtain⟨x,hx⟩:∃ n,w.heap.size=n:=⟨_,rfl⟩
 rw [hx] at HC4 HR4 HQ4 HB4 hl1 hsz ⊢
 go_loopw [16] (fun i wr=>∃ j:Nat,j≤N∧i = .int .i64 j∧Hid (Blk 3 wr (x+1) (natsV (iotaL N j)))∧Hid (Tch (x+1) w4 wr)) (fun i _=>N-(intOf i).toNat)
 case atStart=>exact⟨0,YN,rfl,HR4,Tch.refl _ _⟩
 case round=>
  obtain⟨j,hj,rfl,HB,HT⟩:=hrel
  have c0:=HT.out.cell HC4.out (by omega)
  have q0:=HT.out.cell HQ4.out.1 (by omega)
  have q1:=HT.out.cell HQ4.out.2 (by omega)
  by_cases hlt:j<N
  ·have hjl:(j:Int)<(N:Int):=by omega
   have t0:wr.cell? ⟨x+1,j,none⟩=some (.int .i64 (pf (iotaL N j) j:Int)):=HB.out.cell (Qc0 (by rw [Qmj hj];exact hlt))
   have f0:=HB.out.frozen j
   have HB2:Hid (Blk 3 (wr.setCell ⟨x+1,j,none⟩ (.int .i64 (j:Int))) (x+1) (natsV (iotaL N (j+1)))):=by
    have h1:=HB.out.set j (.int .i64 (j:Int))
    rw [← QcZ,Qmi hlt] at h1
    exact h1
   have HT2:Hid _:=HT.out.set j (.int .i64 (j:Int))
   go_wp2
   exact⟨⟨j+1,by omega,by go_num,HB2,HT2⟩,by simp [intOf];omega⟩
  ·obtain rfl:N=j:=by omega
   have HU:Hid (UF L N 0 (List.range N) id):=UF.start L N
   have HBr:Hid (Blk 3 wr (x+1) (natsV (List.range N))):=by
    have:=HB.out
    rw [Qj8] at this
    exact this
   have HBw:Hid (Below x w wr):=by
    have:=HT.out.below (n:=x) HB4.out (by omega) ?_
    ·exact this
    ·have:=HB4.out.size;omega
   clear HB HR4 HC4 HQ4 HT HB4
   obtain⟨w5,hw5⟩:∃ W,wr=W:=⟨_,rfl⟩
   rw [hw5] at HBr HBw c0 q0 q1 ⊢
   clear hw5
   go_wp2
   go_loopw [28] (fun i wr=>∃ (j:Nat) (P:List Nat) (R:Nat→Nat),j≤L.length∧i = .int .i64 j∧Hid (UF L N j P R)∧Hid (Blk 3 wr (x+1) (natsV P))∧Hid (Tch (x+1) w5 wr)) (fun i _=>L.length-(intOf i).toNat)
   case atStart=>exact⟨0,_,_,YN,rfl,HU,HBr,Tch.refl _ _⟩
   case round=>
    obtain⟨j,P,R,hj,rfl,HUj,HBj,HTj⟩:=hrel
    have d0:=HTj.out.cell c0 (by omega)
    have d1:=HTj.out.cell q0 (by omega)
    have d2:=HTj.out.cell q1 (by omega)
    have hbr:Below x w wr:=HTj.out.below HBw.out (by omega) (by have:=HBw.out.size;omega)
    by_cases hlt:j<L.length
    ·obtain⟨b,off,rfl,hb1,hcap,hc⟩:=hl.eg hlt
     rw [hx] at hc hb1
     obtain⟨e0,e1,e2⟩:=hc wr hbr j hlt
     have hj3:(j:Int)<(L.length:Int):=by omega
     obtain⟨hu,hv⟩:=hE L[j] (YG hlt)
     have HK:Hid _:=YB hlt
     have HBr':Hid _:=hbr
     have hwx:=hbr.size
     clear hc hbr c0 q0 q1 d1 d2
     have hwlb:=World.block_lt_of_cell? wr _ d0
     obtain⟨u,hu1⟩:∃ u,L[j].1=u:=⟨_,rfl⟩
     obtain⟨v,hv1⟩:∃ v,L[j].2.1=v:=⟨_,rfl⟩
     obtain⟨wt,hw1⟩:∃ wt,L[j].2.2=wt:=⟨_,rfl⟩
     have HU1:Hid _:=hu1
     have HV1:Hid _:=hv1
     rw [hu1] at hu e0
     rw [hv1] at hv e1
     rw [hw1] at e2
     clear hu1 hv1 hw1
     have HE6:Hid (Blk 50 (wr.alloc (.cells #[.int .i64 (u:Int),.int .i64 (v:Int),.int .i64 (wt:Int)] 50)) wr.heap.size [.int .i64 (u:Int),.int .i64 (v:Int),.int .i64 (wt:Int)]):=heap_alloc_new wr _
     have HB6:Hid (Below wr.heap.size wr (wr.alloc (.cells #[.int .i64 (u:Int),.int .i64 (v:Int),.int .i64 (wt:Int)] 50))):=YD.alloc YA _
     go_wp2
     obtain⟨w6,hw6⟩:∃ W,wr.alloc (.cells #[.int .i64 (u:Int),.int .i64 (v:Int),.int .i64 (wt:Int)] 50)=W:=⟨_,rfl⟩
     rw [hw6] at HE6 HB6 ⊢
     clear hw6 e0 e1 e2 hg1 hl
     have HT6:Hid (Tch (x+1) w5 w6):=HTj.out.trans (Tch.of_below HB6.out)
     have HBk6:Hid (Blk 3 w6 (x+1) (natsV P)):=HBj.out.go HB6.out
     have hsw:=HB6.out.size
     have d6:w6.cell? ⟨lb,0,none⟩=some (.slice (some ⟨x+1,0,none⟩) N N):=(HB6.out.cell (p:=⟨lb,0,none⟩) hwlb).trans d0
     have hne6:wr.heap.size≠x+1:=by omega
     obtain⟨eb,heb⟩:∃ n,wr.heap.size=n:=⟨_,rfl⟩
     rw [heb] at HE6 hne6 hwlb ⊢
     clear HBj HTj HB6 d0 hwx heb
     refine wp_region_held_drew (S:=(fun w':World=>w'.cell? ⟨eb,0,none⟩=some (.int .i64 (u:Int))∧w'.cell? ⟨eb,1,none⟩=some (.int .i64 (v:Int)))) (by kernel_rfl) ⟨HE6.out.cell (j:=0) rfl,HE6.out.cell (j:=1) rfl⟩ (fun hHeld=>?_)
     refine tH 0 ?_
     try simp only [z4]
     refine tH 1 ?_
     refine tH 2 ?_
     refine tH 4 ?_
     refine tH 5 ?_
     refine tH 6 ?_
     try simp only [z1,z2,z3,z4,z5,z6]
     refine wpAnyH_ready (rs:=[3]) (by kernel_rfl) (by simp) ?_
     refine AllReadyH.cons rfl (fun K hK=>?_) AllReadyH.nil
     go_simp
     refine (Qf5 L N j P R HUj.out u hu lb (x+1) (by omega) w6.drew d6 HBk6.out).mono ?_
     rintro e w7 ⟨rfl,P7,hU7,hp7,-,hB7,hT7⟩
     refine hK.out _ _ ⟨hT7.cell hHeld.1 hne6,hT7.cell hHeld.2 hne6⟩ (fun hHeld7=>?_)
     have HU7:Hid _:=hU7
     have HP7:Hid _:=hp7
     have HB7:Hid _:=hB7
     have HT7:Hid (Tch (x+1) w5 w7):=HT6.out.drew.trans hT7
     have d7:=hT7.cell (b:=lb) d6 (by omega)
     clear hK K hHeld hU7 hp7 hB7 hT7 HBk6 HT6 d6
     try simp only [Act.put,z4,z5,z6]
     refine wpAnyH_ready (rs:=[7]) (by kernel_rfl) (by simp) ?_
     refine AllReadyH.cons rfl (fun K hK=>?_) AllReadyH.nil
     go_simp
     refine (Qf5 L N j P7 R HU7.out v hv lb (x+1) (by omega) w7 d7 HB7.out).mono ?_
     rintro e w8 ⟨rfl,P8,hU8,hp8,-,hB8,hT8⟩
     refine hK.out _ _ ⟨hT8.cell hHeld7.1 hne6,hT8.cell hHeld7.2 hne6⟩ (fun hHeld8=>?_)
     have hra:=HU7.out.root (R u) (by have:=HU7.out.low u hu;omega) HP7.out
     have hrb:=hU8.root (R v) (by have:=hU8.low v hv;omega) hp8
     have haN:R u<N:=by have:=hU8.low u hu;omega
     have hbN:R v<N:=by have:=hU8.low v hv;omega
     have HJ:Hid _:=hU8.join haN hbN (hU8.rooted haN hra) hp8 HK.out (by rw [HU1.out]) (by rw [HV1.out]) (by rw [HU1.out];exact hu) (by rw [HV1.out];exact hv)
     have Hlen:Hid (P8.length=N):=hU8.len
     have HB8:Hid (Blk 3 w8 (x+1) (natsV P8)):=hB8
     have HT8:Hid (Tch (x+1) w5 w8):=HT7.out.trans hT8
     have d8:=hT8.cell (b:=lb) d7 (by omega)
     clear hK K hHeld7 hU8 hp8 hB8 hT8 HU7 HP7 HB7 HT7 d7 hra hrb
     generalize R u=a at *
     generalize R v=a2 at *
     try simp only [Act.put,z4,z5,z6]
     refine tH 8 ?_
     refine tH 9 ?_
     refine wpAnyH_done (by kernel_rfl) ?_ _
     simp only [z1,z2,z3,z4,z5,z6]
     have hmxN:max a a2<P8.length:=by rw [Hlen.out];omega
     have HB9:Hid (Blk 3 (w8.setCell ⟨x+1,max a a2,none⟩ (.int .i64 (min a a2:Nat))) (x+1) (natsV (P8.set (max a a2) (min a a2)))):=by
      have h1:=HB8.out.set (max a a2) (.int .i64 ((min a a2:Nat):Int))
      rw [← QcZ] at h1
      exact h1
     have HT9:Hid _:=HT8.out.set (max a a2) (.int .i64 ((min a a2:Nat):Int))
     have t0:w8.cell? ⟨x+1,max a a2,none⟩=some (.int .i64 (pf P8 (max a a2):Int)):=HB8.out.cell (Qc0 hmxN)
     have f0:=HB8.out.frozen (max a a2)
     have hai:(a:Int)<(N:Int):=by omega
     have hai2:(a2:Int)<(N:Int):=by omega
     clear HB8 HT8 hmxN hHeld8
     have HBx:Hid (∀ W,Tch (x+1) w5 W→Below x w W):=fun W hW=>hW.below HBw.out (by omega) (by have:=HBw.out.size;omega)
     rcases Nat.lt_trichotomy a a2 with hab | hab | hab
     ·rw [Nat.max_eq_right (by omega),Nat.min_eq_left (by omega)] at HJ HB9 HT9
      rw [Nat.max_eq_right (by omega)] at t0 f0
      have hab1:(a:Int)<(a2:Int):=by omega
      have hab2:(a:Int)≤(a2:Int):=by omega
      go_wp2
      exact⟨⟨j+1,_,_,by omega,by go_num,HJ,HB9,HT9.out⟩,by simp [intOf];omega⟩
     ·subst hab
      rw [Nat.max_self,Nat.min_self] at HJ HB9 HT9
      rw [Nat.max_self] at t0 f0
      go_wp2
      exact⟨⟨j+1,_,_,by omega,by go_num,HJ,HB9,HT9.out⟩,by simp [intOf];omega⟩
     ·rw [Nat.max_eq_left (by omega),Nat.min_eq_right (by omega)] at HJ HB9 HT9
      rw [Nat.max_eq_left (by omega)] at t0 f0
      have hab1:(a2:Int)<(a:Int):=by omega
      have hab2:(a2:Int)≤(a:Int):=by omega
      go_wp2
      exact⟨⟨j+1,_,_,by omega,by go_num,HJ,HB9,HT9.out⟩,by simp [intOf];omega⟩
    ·obtain rfl:j=L.length:=by omega
     obtain⟨w9,hw9⟩:∃ W,wr=W:=⟨_,rfl⟩
     have hlen:=HUj.out.len
     have HL:Hid (LeadP L N R):=HUj.out.lead
     have Hbr:Hid (Below x w wr):=hbr
     have HBj':Hid (Blk 3 wr (x+1) (natsV P)):=HBj.out
     rw [hw9] at Hbr HBj' d0 d1 ⊢
     have hls:lb<w9.heap.size:=World.block_lt_of_cell? w9 _ d0
     clear hbr HBj HTj HBw HBr HU hw9 d2 c0 q0 q1 hlen hg1
     go_wp2
     go_loopw [51] (fun i wr=>∃ (j:Nat) (P:List Nat),j≤N∧i = .int .i64 j∧Hid (UF L N L.length P R)∧Hid (∀ i,i<j→pf P i=R i)∧Hid (Blk 3 wr (x+1) (natsV P))∧Hid (Tch (x+1) w9 wr)) (fun i _=>N-(intOf i).toNat)
     case atStart=>exact⟨0,_,YN,rfl,HUj,fun i hi=>absurd hi (by omega),HBj',Tch.refl _ _⟩
     case round=>
      obtain⟨k,P,hk,rfl,HUk,HAt,HBk,HTk⟩:=hrel
      have e0:=HTk.out.cell d0 (by omega)
      have e1:=HTk.out.cell d1 (by omega)
      by_cases hlt:k<N
      ·have hkl:(k:Int)<(N:Int):=by omega
       have hlb1:lb≠x+1:=by omega
       go_wp2
       refine wp_region_held_drew (S:=(fun w':World=>w'.cell? ⟨lb,0,none⟩=some (.slice (some ⟨x+1,0,none⟩) N N))) (by kernel_rfl) e0 (fun hHeld=>?_)
       refine tH 0 ?_
       try simp only [z4]
       refine tH 1 ?_
       refine tH 2 ?_
       refine tH 3 ?_
       try simp only [z1,z2,z3,z4,z5,z6]
       refine wpAnyH_ready (rs:=[4]) (by kernel_rfl) (by simp) ?_
       refine AllReadyH.cons rfl (fun K hK=>?_) AllReadyH.nil
       go_simp
       refine (Qf5 L N L.length P R HUk.out k hlt lb (x+1) (by omega) wr.drew e0 HBk.out).mono ?_
       rintro e w10 ⟨rfl,P10,hU10,-,hs10,hB10,hT10⟩
       refine hK.out _ _ (hT10.cell hHeld hlb1) (fun hHeld10=>?_)
       have HT11:Hid (Tch (x+1) w9 (w10.setCell ⟨x+1,k,none⟩ (.int .i64 (R k:Int)))):=(HTk.out.drew.trans hT10).set k _
       have HB11:Hid (Blk 3 (w10.setCell ⟨x+1,k,none⟩ (.int .i64 (R k:Int))) (x+1) (natsV (P10.set k (R k)))):=by
        have h1:=hB10.set k (.int .i64 (R k:Int))
        rw [← QcZ] at h1
        exact h1
       have HU11:Hid _:=hU10.flat hlt
       have hkP:k<P10.length:=by rw [hU10.len];exact hlt
       have t0:w10.cell? ⟨x+1,k,none⟩=some (.int .i64 (pf P10 k:Int)):=hB10.cell (Qc0 hkP)
       have f0:=hB10.frozen k
       have HAt11:Hid (∀ i,i<k+1→pf (P10.set k (R k)) i=R i):=fun i hi=>by
        rw [QbX hkP]
        split
        ·next e=>rw [e]
        ·exact hs10 i (by omega) (HAt.out i (by omega))
       clear hK K hHeld hU10 hs10 hB10 hT10 HUk HAt HBk HTk hkP e0
       try simp only [Act.put,z4,z5,z6]
       refine tH 5 ?_
       refine wpAnyH_ready (rs:=[6]) (by kernel_rfl) (by simp) ?_
       refine AllReadyH.cons rfl (fun K hK=>?_) AllReadyH.nil
       go_simp
       refine hK.out _ _ ?_ (fun hHeld=>?_)
       ·(try dsimp only);first | (go_keep;done) | ((repeat' apply And.intro) <;> go_simp)
       clear hK K
       try simp only [z4,z5,z6]
       refine wpAnyH_done (by kernel_rfl) ?_ _
       go_wp2
       exact⟨⟨k+1,_,by omega,by go_num,HU11,HAt11,HB11,HT11⟩,by simp [intOf];omega⟩
      ·obtain rfl:N=k:=by omega
       have HLst:Hid (P=leadL N R):=Qn3 HUk.out.len HAt.out
       have HBf:Hid (Blk 3 wr (x+1) (natsV (leadL N R))):=by
        have:=HBk.out
        rw [HLst.out] at this
        exact this
       have HBe:Hid (Below w.heap.size w wr):=by rw [hx];exact HTk.out.below Hbr.out (by omega) (by have:=Hbr.out.size;omega)
       go_wp2
       go_ret
       exact⟨x+1,R,rfl,HL.out,HBf.out,HBe.out,by omega⟩
theorem bAt_true {T:List Bool}:T.contains true=true↔∃ v,v<T.length∧bAt T v=true:=by
 rw [List.contains_iff_mem]
 constructor
 ·intro h
  obtain⟨i,hi,e⟩:=List.getElem_of_mem h
  exact⟨i,hi,by simp [bAt,hi,e]⟩
 ·rintro⟨v,hv,e⟩
  rw [bAt,YC,YB hv] at e
  have e2:T[v]=true:=e
  rw [← e2];exact YG hv
theorem Qke (T:List Bool)(hT:T.length≤4194304)(tv:Value)(w:World)(hI:Bools w.heap.size w tv T):
  Calls Tryz.prog 109 #[tv,.bool true] w fun r w'=>(∃ k:Nat,k<T.length∧bAt T k=true∧r = .returned (.int .i64 (k:Int))∨(∀ v,v<T.length→bAt T v=false)∧r = .returned (.int .i64 (-1)))∧w'=w:=by
 obtain⟨p,c,rfl⟩:=hI.len
 have HI:Hid (Bools w.heap.size w (.slice p T.length c) T):=hI
 clear hI
 go_enter Tryz.func109,Tryz.ntmps109
 go_wp2
 go_loopw [8] (fun iv wr=>∃ j:Nat,j≤T.length∧iv = .int .i64 j∧(∀ v,v<j→bAt T v=false)∧wr=w) (fun i _=>T.length-(intOf i).toNat)
 case atStart=>exact⟨0,YN,rfl,fun v hv=>absurd hv (by omega),rfl⟩
 case round=>
  obtain⟨j,hj,rfl,hA,rfl⟩:=hrel
  have HA:Hid (∀ v,v<j→bAt T v=false):=hA
  clear hA
  by_cases hlt:j<T.length
  ·have hjl:(j:Int)<(T.length:Int):=by omega
   obtain⟨b,off,rfl,hbb,hcap,hc⟩:=Vals.open (enc:=Value.bool) HI.out hlt
   have c0:=hc wr YD j hlt
   have hbT:bAt T j=T[j]:=by simp [bAt,hlt]
   rw [← hbT] at c0
   have HLT:Hid (j<T.length):=hlt
   clear hc hlt hbT
   cases hP:bAt T j with
   | false=>
    have HP:Hid (bAt T j=false):=hP
    rw [hP] at c0
    clear hP
    go_wp2
    exact⟨⟨j+1,HLT.out,by go_num,fun v hv=>by
     by_cases e:v=j
     ·rw [e];exact HP.out
     ·exact HA.out v (by omega),trivial⟩,by have:=HLT.out;simp [intOf];omega⟩
   | true=>
    have HP:Hid (bAt T j=true):=hP
    rw [hP] at c0
    clear hP
    go_wp2
    go_ret
    exact⟨⟨j,.inl ⟨HLT.out,HP.out,rfl⟩⟩,rfl⟩
  ·obtain rfl:j=T.length:=by omega
   go_wp2
   go_ret
   exact⟨⟨0,.inr ⟨HA.out,rfl⟩⟩,rfl⟩
theorem Qgb (T:List Bool)(hT:T.length≤4194304)(tv:Value)(w:World)(hI:Bools w.heap.size w tv T):
  Calls Tryz.prog 85 #[tv,.bool true] w fun r w'=>r = .returned (.bool (T.contains true))∧w'=w:=by
 have hx:=Qke T hT tv w hI
 clear hI
 go_enter Tryz.func85,Tryz.ntmps85
 go_wp2_with fail
 refine hx.mono ?_
 clear hx
 rintro e w1 ⟨⟨k,⟨hk,hb,rfl⟩ | ⟨hA,rfl⟩⟩,rfl⟩
 ·have HE:Hid (T.contains true=true):=bAt_true.2 ⟨k,hk,hb⟩
  go_wp2
  go_ret
  refine⟨?_,rfl⟩
  rw [HE.out]
  simp
 ·have HE:Hid (T.contains true=false):=by
   show _=_
   cases h:T.contains true with
   | false=>rfl
   | true=>obtain⟨v,hv,e⟩:=bAt_true.1 h;rw [hA v hv] at e;cases e
  go_wp2
  go_ret
  refine⟨?_,rfl⟩
  rw [HE.out]
  rfl
def turnT (R:Nat→Nat)(T:List Bool)(B:List Int):List Bool:=B.foldl (fun T v=>flipB T (R v.toNat)) T
theorem QcI (R:Nat→Nat):∀ (B:List Int) (T:List Bool),(turnT R T B).length=T.length
 | [],_=>rfl
 | x :: B,T=>by show (turnT R (flipB T (R x.toNat)) B).length=_;rw [QcI R B,QaN]
theorem Qjy (R:Nat→Nat)(T:List Bool)(B:List Int)(x:Int):turnT R T (B++[x])=flipB (turnT R T B) (R x.toNat):=by simp [turnT]
theorem Qmh (N:Nat)(R:Nat→Nat)(B:List Int)(hN:N≤1048576)(hR:∀ v,v<N→R v<N)(hB:plcB N B=true)(hBl:B.length≤8388608)(g:Nat)(bv:Value)(w:World)(hG:Blk 3 w g (natsV (leadL N R)))(hI:Ints w.heap.size w bv B):
  Calls Tryz.prog 61 #[.slice (some ⟨g,0,none⟩) N N,bv] w fun r w'=>r = .returned (.bool ((turnT R (List.replicate N false) B).contains true))∧Below w.heap.size w w':=by
 have hmix:=mixed
 obtain⟨pb,cb,rfl,ho⟩:=hI.openW
 have HO:Hid _:=fun (j:Nat) (hj:j<B.length)=>ho (j:=j) hj
 clear ho
 obtain⟨i0,hi,hz0,hz1,hz2⟩:=info_parts Qg6
 have HG:Hid (Blk 3 w g (natsV (leadL N R))):=hG
 have hgl:=hG.lt
 clear hG
 go_enter Tryz.func61,Tryz.ntmps61
 go_wp2_with (at_make;refine wpList_make_full _ rfl _ _ 25 rfl w.heap.size 4 i0 (.bool false) 1 Tryz.underlying25 hi hz0 hz1 .i64 .i64 _ _ N rfl rfl rfl rfl (by rw [hz2];omega) (by unfold maxLen;omega) (by simp) ?_;intro w3 hown hgrow;have hb3:Below w.heap.size w w3:=YD.grown hgrow YA (fun k e=>by cases e);have hrow:=Blk.made hown;have hsz:=hrow.lt;rw [QaR] at hrow;have HRow:Hid (Blk 4 w3 w.heap.size ((turnT R (List.replicate N false) (B.take 0)).map Value.bool)):=hrow;have HB3:Hid (Below w.heap.size w w3):=hb3;clear hown hgrow hb3 hrow)
 obtain⟨x,hx⟩:∃ n,w.heap.size=n:=⟨_,rfl⟩
 rw [hx] at HRow hsz HB3 hgl ⊢
 clear hi hz0 hz1 hz2
 go_loopw [13] (fun i wr=>∃ j:Nat,j≤B.length∧i = .int .i64 j∧Hid (Blk 4 wr x ((turnT R (List.replicate N false) (B.take j)).map Value.bool))∧Hid (Below x w wr)) (fun i _=>B.length-(intOf i).toNat)
 case atStart=>exact⟨0,YN,rfl,HRow,HB3⟩
 case round=>
  obtain⟨j,hj,rfl,HR,HB⟩:=hrel
  by_cases hlt:j<B.length
  ·have hjl:(j:Int)<(B.length:Int):=by omega
   obtain⟨b2,off2,rfl,hb2,hc2⟩:=HO.out j hlt
   rw [hx] at hb2 hc2
   have c0:=hc2 wr HB.out j hlt
   rw [QbH hlt] at c0
   obtain⟨v,hv1,hv2⟩:=QgQ hB hlt
   have HST:Hid (flipB (turnT R (List.replicate N false) (B.take j)) (R v)=turnT R (List.replicate N false) (B.take (j+1))):=by
    show _=_
    rw [List.take_succ_eq_append_getElem hlt,Qjy,hv1,YM]
   rw [hv1] at c0
   have hvl:(v:Int)<(N:Int):=by omega
   have hrl:=hR v hv2
   have hrl':((R v:Nat):Int)<(N:Int):=by omega
   have g0:wr.cell? ⟨g,v,none⟩=some (.int .i64 (R v:Int)):=(HG.out.go (by rw [hx];exact HB.out)).cell (Qck hv2)
   have hlT:(turnT R (List.replicate N false) (B.take j)).length=N:=by rw [QcI,List.length_replicate]
   have HLT:Hid (j<B.length):=hlt
   generalize turnT R (List.replicate N false) (B.take j)=T at *
   generalize R v=rv at *
   have t0:=HR.out.bcell (v:=rv) (by rw [hlT];exact hrl)
   have f0:=HR.out.frozen rv
   have HR2:Hid _:=HR.out.flip rv
   have HB2:Hid (Below x w (wr.setCell ⟨x,rv,none⟩ (.bool (!bAt T rv)))):=HB.out.setCell (p:=⟨x,rv,none⟩) YA _
   clear HR HB hc2 hlt hv1 hlT
   go_wp2
   go_big_region_o
   go_wp2
   refine⟨⟨j+1,HLT.out,by go_num,?_,Qab HB2.out 1⟩,by have:=HLT.out;simp [intOf];omega⟩
   rw [← HST.out]
   exact HR2.out
  ·obtain rfl:j=B.length:=by omega
   have h1:=HR.out
   rw [List.take_length] at h1
   have hcb:=Qgb (turnT R (List.replicate N false) B) (by rw [QcI,List.length_replicate];omega) (.slice (some ⟨x,0,none⟩) N N) wr (h1.boolsT (by rw [QcI,List.length_replicate]))
   clear HR h1
   go_wp2_with fail
   refine hcb.mono ?_
   rintro e w9 ⟨rfl,rfl⟩
   clear hcb
   go_wp2
   go_ret
   rw [hx]
   exact⟨by simp,HB.out⟩
end Go.Proofs.YtalflecmadacaaaGreat
namespace Go.Proofs
open Go.Shelf
def Tryz.lays212_ren:Go.Shelf.Ren:=⟨fun | 212=>159 | 263=>172 | 264=>173 | n=>n,fun | 46=>67 | 51=>205 | 146=>206 | 53=>208 | 148=>209 | n=>n,fun | n=>n⟩
theorem Tryz.lays212:Go.Proofs.Lays.n212 Tryz.prog Tryz.lays212_ren:={
 mixed:=by kernel_rfl
 f212:=Tryz.func159.trans (congrArg some (by kernel_rfl))
 f263:=Tryz.func172.trans (congrArg some (by kernel_rfl))
 f264:=Tryz.func173.trans (congrArg some (by kernel_rfl))
 t46:=Tryz.underlying67
 a46:=Tryz.isAgg67
 z46:=Tryz.sizeOf67
 v46:=Tryz.zeroValue67
 t51:=Tryz.underlying205
 a51:=Tryz.isAgg205
 z51:=Tryz.sizeOf205
 v51:=Tryz.zeroValue205
 t53:=Tryz.underlying208
 a53:=Tryz.isAgg208
 z53:=Tryz.sizeOf208
 v53:=Tryz.zeroValue208
 t146:=Tryz.underlying206
 a146:=Tryz.isAgg206
 z146:=Tryz.sizeOf206
 v146:=Tryz.zeroValue206
 t148:=Tryz.underlying209
 a148:=Tryz.isAgg209
 z148:=Tryz.sizeOf209
 v148:=Tryz.zeroValue209 }
open Go.RowKit Go.Lib in
theorem Tryz.bits_Mul (x y:Nat)(hx:x<18446744073709551616)(hy:y<18446744073709551616)(w:World):
  Calls Tryz.prog 159 #[.int .u64 x,.int .u64 y] w fun e w'=>e = .returned (.tuple #[.int .u64 ((x*y / 18446744073709551616:Nat):Int),.int .u64 ((x*y % 18446744073709551616:Nat):Int)])∧w'=w:=Any.bits_Mul Tryz.lays212 x y hx hy w
end Go.Proofs
