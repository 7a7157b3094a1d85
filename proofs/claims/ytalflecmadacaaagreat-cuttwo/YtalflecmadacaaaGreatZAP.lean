import Derived.WalkMore
import Derived.Test.YtalflecmadacaaaGreatZAB
set_option maxRecDepth 100000
set_option maxHeartbeats 8000000
namespace Go.Proofs.YtalflecmadacaaaGreat
open Go Go.Proofs Go.RowKit
def idxF (p:Int→Bool)(L:List Int):Int:=match L.findIdx? p with
 | some i=>i
 | none=>-1
theorem Qo2 {p:Int→Bool}{L:List Int}{j:Nat}(hj:j<L.length)(h:p L[j]=true)(hno:∀ (i:Nat) (h1:i<L.length),i<j→p L[i]=false):idxF p L=j:=by
 unfold idxF
 have:L.findIdx? p=some j:=by
  rw [List.findIdx?_eq_some_iff_getElem]
  exact⟨hj,h,fun i hi=>by rw [hno i (by omega) hi];simp⟩
 rw [this]
theorem Qo1 {p:Int→Bool}{L:List Int}(hno:∀ (i:Nat) (h1:i<L.length),p L[i]=false):idxF p L = -1:=by
 unfold idxF
 have:L.findIdx? p=none:=by
  rw [List.findIdx?_eq_none_iff]
  intro x hx
  obtain⟨i,hi,rfl⟩:=List.getElem_of_mem hx
  exact hno i hi
 rw [this]
theorem Qnt (p:Int→Bool)(L:List Int):decide (0≤idxF p L)=L.any p:=by
 unfold idxF
 cases h:L.findIdx? p with
 | none=>
  rw [List.findIdx?_eq_none_iff] at h
  have:L.any p=false:=by rw [List.any_eq_false];intro x hx;rw [h x hx];simp
  rw [this]
  rfl
 | some i=>
  have h1:=h
  rw [List.findIdx?_eq_some_iff_getElem] at h1
  obtain⟨hi,hp,_⟩:=h1
  have:L.any p=true:=by rw [List.any_eq_true];exact⟨L[i],YG hi,hp⟩
  rw [this]
  simp
theorem QjD (f:Nat)(caps:Array Value)(p:Int→Bool)(hent:∀ (args:Array Value) (W:World),(callFunc f args).run Tryz.prog W = .ok (.enter f args) W)(L:List Int)(hL:L.length≤8388608)(sv:Value)(n:Nat)(w:World)(h:Ints n w sv L)
  (hp:∀ x∈L,Calls Tryz.prog f (#[.int .i64 x]++caps) w fun e w'=>e = .returned (.bool (p x))∧w'=w) :
  Calls Tryz.prog 74 #[sv,.func (.func f) #[] caps] w fun e w'=>e = .returned (.int .i64 (idxF p L))∧w'=w:=by
 obtain⟨pp,c,rfl⟩:=h.len
 have HI:Hid (Ints n w (.slice pp L.length c) L):=h
 have HP:Hid (∀ x∈L,Calls Tryz.prog f (#[.int .i64 x]++caps) w fun e w'=>e = .returned (.bool (p x))∧w'=w):=hp
 clear h hp
 go_enter Tryz.func74,Tryz.ntmps74
 go_wp2
 go_loopw [8] (fun iv wr=>∃ j:Nat,j≤L.length∧iv = .int .i64 j∧Hid (∀ (i:Nat) (h1:i<L.length),i<j→p L[i]=false)∧wr=w) (fun i _=>L.length-(intOf i).toNat)
 case atStart=>exact⟨0,YN,rfl,fun i _ h=>by omega,rfl⟩
 case round=>
  obtain⟨j,hj,rfl,HS,rfl⟩:=hrel
  by_cases hlt:j<L.length
  ·have hjl:(j:Int)<(L.length:Int):=by omega
   obtain⟨b,off,rfl,hbb,hcap,hc⟩:=HI.out.open hlt
   have c0:=hc wr YD j hlt
   have hcl:=HP.out L[j] (YG hlt)
   cases hv:p L[j] with
   | false=>
    have HS2:Hid (∀ (i:Nat) (h1:i<L.length),i<j+1→p L[i]=false):=fun i h1 h=>by
     by_cases e:i=j
     ·subst e;exact hv
     ·exact HS.out i h1 (by omega)
    have HLT:Hid (j<L.length):=hlt
    rw [hv] at hcl
    generalize L[j]=x at c0 hcl
    clear HS hlt hc hv
    go_wp2_with fail
    refine hcl.mono ?_
    clear hcl
    rintro e w2 ⟨rfl,rfl⟩
    go_wp2
    exact⟨⟨j+1,HLT.out,by go_num,HS2.out,trivial⟩,by have:=HLT.out;simp [intOf];omega⟩
   | true=>
    have HE:Hid (idxF p L=j):=Qo2 hlt hv HS.out
    rw [hv] at hcl
    generalize L[j]=x at c0 hcl
    clear HS hlt hc hv
    go_wp2_with fail
    refine hcl.mono ?_
    clear hcl
    rintro e w2 ⟨rfl,rfl⟩
    go_wp2
    go_ret
    exact⟨by rw [HE.out];rfl,rfl⟩
  ·obtain rfl:j=L.length:=by omega
   have HE:Hid (idxF p L = -1):=Qo1 fun i hi=>HS.out i hi hi
   clear HS
   go_wp2
   go_ret
   exact⟨by rw [HE.out];rfl,rfl⟩
theorem Qc9 (f:Nat)(caps:Array Value)(p:Int→Bool)(hent:∀ (args:Array Value) (W:World),(callFunc f args).run Tryz.prog W = .ok (.enter f args) W)(L:List Int)(hL:L.length≤8388608)(sv:Value)(n:Nat)(w:World)(h:Ints n w sv L)
  (hp:∀ x∈L,Calls Tryz.prog f (#[.int .i64 x]++caps) w fun e w'=>e = .returned (.bool (p x))∧w'=w) :
  Calls Tryz.prog 46 #[sv,.func (.func f) #[] caps] w fun e w'=>e = .returned (.bool (L.any p))∧w'=w:=by
 have hi:=QjD f caps p hent L hL sv n w h hp
 obtain⟨pp,c,rfl⟩:=h.len
 have HA:Hid (decide (0≤idxF p L)=L.any p):=Qnt p L
 clear h hp
 generalize idxF p L=k at *
 go_enter Tryz.func46,Tryz.ntmps46
 go_wp2_with fail
 refine hi.mono ?_
 clear hi
 rintro e w2 ⟨rfl,rfl⟩
 go_wp2
 go_ret
 exact⟨by rw [← HA.out];rfl,rfl⟩
def idxE (p:Ed→Bool)(L:List Ed):Int:=match L.findIdx? p with
 | some i=>i
 | none=>-1
theorem Qo4 {p:Ed→Bool}{L:List Ed}{j:Nat}(hj:j<L.length)(h:p L[j]=true)(hno:∀ (i:Nat) (h1:i<L.length),i<j→p L[i]=false):idxE p L=j:=by
 unfold idxE
 have:L.findIdx? p=some j:=by
  rw [List.findIdx?_eq_some_iff_getElem]
  exact⟨hj,h,fun i hi=>by rw [hno i (by omega) hi];simp⟩
 rw [this]
theorem Qo3 {p:Ed→Bool}{L:List Ed}(hno:∀ (i:Nat) (h1:i<L.length),p L[i]=false):idxE p L = -1:=by
 unfold idxE
 have:L.findIdx? p=none:=by
  rw [List.findIdx?_eq_none_iff]
  intro x hx
  obtain⟨i,hi,rfl⟩:=List.getElem_of_mem hx
  exact hno i hi
 rw [this]
theorem Qnu (p:Ed→Bool)(L:List Ed):decide (0≤idxE p L)=L.any p:=by
 unfold idxE
 cases h:L.findIdx? p with
 | none=>
  rw [List.findIdx?_eq_none_iff] at h
  have:L.any p=false:=by rw [List.any_eq_false];intro x hx;rw [h x hx];simp
  rw [this]
  rfl
 | some i=>
  have h1:=h
  rw [List.findIdx?_eq_some_iff_getElem] at h1
  obtain⟨hi,hp,_⟩:=h1
  have:L.any p=true:=by rw [List.any_eq_true];exact⟨L[i],YG hi,hp⟩
  rw [this]
  simp
theorem QjE (f:Nat)(caps:Array Value)(p:Ed→Bool)(hent:∀ (args:Array Value) (W:World),(callFunc f args).run Tryz.prog W = .ok (.enter f args) W)(L:List Ed)(hL:L.length≤8388608)(sv:Value)(w:World)(h:Edges w.heap.size w sv L)
  (hp:∀ x∈L,∀ W,Grew w W→Calls Tryz.prog f (#[edV x]++caps) W fun e w'=>e = .returned (.bool (p x))∧Grew W w') :
  Calls Tryz.prog 79 #[sv,.func (.func f) #[] caps] w fun e w'=>e = .returned (.int .i64 (idxE p L))∧Grew w w':=by
 obtain⟨pp,c,rfl⟩:=h.len
 have HI:Hid (Edges w.heap.size w (.slice pp L.length c) L):=h
 have HP:Hid (∀ x∈L,∀ W,Grew w W→Calls Tryz.prog f (#[edV x]++caps) W fun e w'=>e = .returned (.bool (p x))∧Grew W w'):=hp
 clear h hp
 go_enter Tryz.func79,Tryz.ntmps79
 go_wp2
 go_loopw [8] (fun iv wr=>∃ j:Nat,j≤L.length∧iv = .int .i64 j∧Hid (∀ (i:Nat) (h1:i<L.length),i<j→p L[i]=false)∧Grew w wr) (fun i _=>L.length-(intOf i).toNat)
 case atStart=>exact⟨0,YN,rfl,fun i _ h=>by omega,Grew.refl _⟩
 case round=>
  obtain⟨j,hj,rfl,HS,hg⟩:=hrel
  by_cases hlt:j<L.length
  ·have hjl:(j:Int)<(L.length:Int):=by omega
   obtain⟨b,off,rfl,hbb,hcap,hc,-⟩:=HI.out.open hlt
   obtain⟨c0,c1,c2⟩:=hc wr hg.below j hlt
   have hcl:=HP.out L[j] (YG hlt) wr hg
   have HG:Hid (Grew w wr):=hg
   cases hv:p L[j] with
   | false=>
    have HS2:Hid (∀ (i:Nat) (h1:i<L.length),i<j+1→p L[i]=false):=fun i h1 h=>by
     by_cases e:i=j
     ·subst e;exact hv
     ·exact HS.out i h1 (by omega)
    have HLT:Hid (j<L.length):=hlt
    rw [hv] at hcl
    unfold edV at hcl
    clear HS hc hv hg
    generalize L[j].1=x at c0 hcl
    generalize L[j].2.1=y at c1 hcl
    generalize L[j].2.2=z at c2 hcl
    clear hlt
    go_wp2_with fail
    refine hcl.mono ?_
    clear hcl
    rintro e w2 ⟨rfl,hg2⟩
    have HG2:Hid (Grew w w2):=HG.out.trans hg2
    clear hg2 HG c0 c1 c2
    go_wp2
    exact⟨⟨j+1,HLT.out,by go_num,HS2.out,HG2.out⟩,by have:=HLT.out;simp [intOf];omega⟩
   | true=>
    have HE:Hid (idxE p L=j):=Qo4 hlt hv HS.out
    rw [hv] at hcl
    unfold edV at hcl
    clear HS hc hv hg
    generalize L[j].1=x at c0 hcl
    generalize L[j].2.1=y at c1 hcl
    generalize L[j].2.2=z at c2 hcl
    clear hlt
    go_wp2_with fail
    refine hcl.mono ?_
    clear hcl
    rintro e w2 ⟨rfl,hg2⟩
    have HG2:Hid (Grew w w2):=HG.out.trans hg2
    clear hg2 HG c0 c1 c2
    go_wp2
    go_ret
    exact⟨by rw [HE.out];rfl,HG2.out⟩
  ·obtain rfl:j=L.length:=by omega
   have HE:Hid (idxE p L = -1):=Qo3 fun i hi=>HS.out i hi hi
   have HG:Hid (Grew w wr):=hg
   clear HS hg
   go_wp2
   go_ret
   exact⟨by rw [HE.out];rfl,HG.out⟩
theorem QfV (f:Nat)(caps:Array Value)(p:Ed→Bool)(hent:∀ (args:Array Value) (W:World),(callFunc f args).run Tryz.prog W = .ok (.enter f args) W)(L:List Ed)(hL:L.length≤8388608)(sv:Value)(w:World)(h:Edges w.heap.size w sv L)
  (hp:∀ x∈L,∀ W,Grew w W→Calls Tryz.prog f (#[edV x]++caps) W fun e w'=>e = .returned (.bool (p x))∧Grew W w') :
  Calls Tryz.prog 55 #[sv,.func (.func f) #[] caps] w fun e w'=>e = .returned (.bool (L.any p))∧Grew w w':=by
 have hi:=QjE f caps p hent L hL sv w h hp
 obtain⟨pp,c,rfl⟩:=h.len
 have HA:Hid (decide (0≤idxE p L)=L.any p):=Qnu p L
 clear h hp
 generalize idxE p L=k at *
 go_enter Tryz.func55,Tryz.ntmps55
 go_wp2_with fail
 refine hi.mono ?_
 clear hi
 rintro e w2 ⟨rfl,hg2⟩
 have HG2:Hid (Grew w w2):=hg2
 clear hg2
 go_wp2
 go_ret
 exact⟨by rw [← HA.out];rfl,HG2.out⟩
abbrev Eg:=Nat × Nat × Nat
def Jn (e:Eg)(a b:Nat):Prop:=(e.1=a∧e.2.1=b)∨(e.1=b∧e.2.1=a)
theorem Jn.symm {e:Eg}{a b:Nat}(h:Jn e a b):Jn e b a:=h.elim .inr .inl
def SW (l:List Eg)(s:Nat):List Nat→Nat→Prop
 | [],_=>False
 | [v],c=>v=s∧c=0
 | v :: u :: t,c=>∃ e,e∈l∧Jn e u v∧∃ c',c=c'+e.2.2∧SW l s (u :: t) c'
theorem SW.cons {l:List Eg}{s u v:Nat}{t:List Nat}{c:Nat}{e:Eg}(he:e∈l)(hj:Jn e u v)(h:SW l s (u :: t) c):SW l s (v :: u :: t) (c+e.2.2):=⟨e,he,hj,c,rfl,h⟩
theorem SW.one (l:List Eg)(s:Nat):SW l s [s] 0:=⟨rfl,rfl⟩
theorem QnT {l:List Eg}{s:Nat}:∀ {L:List Nat} {c:Nat} {v:Nat},SW l s L c→v∈L→∃ t c',SW l s (v :: t) c'∧c'≤c∧(v :: t).Sublist L
 | [],_,_,h,_=>h.elim
 | [x],c,v,h,hv=>by
  have:v=x:=by simpa using hv
  subst this
  exact⟨[],c,h,YA,List.Sublist.refl _⟩
 | x :: u :: t,c,v,h,hv=>by
  by_cases e:v=x
  ·subst e
   exact⟨u :: t,c,h,YA,List.Sublist.refl _⟩
  ·have hv':v∈u :: t:=by
    rcases List.mem_cons.1 hv with h1 | h1
    ·exact absurd h1 e
    ·exact h1
   obtain⟨e',_,_,c',hc,h'⟩:=h
   obtain⟨t',c'',h1,h2,h3⟩:=QnT h' hv'
   exact⟨t',c'',h1,by omega,h3.cons _⟩
theorem Qd3 {l:List Eg}{s:Nat}:∀ {L:List Nat} {c:Nat} {v:Nat},SW l s (v :: L) c→∃ t c',SW l s (v :: t) c'∧c'≤c∧(v :: t).Nodup
 | [],c,v,h=>⟨[],c,h,YA,by simp⟩
 | u :: t,c,v,h=>by
  obtain⟨e,he,hj,c',hc,h'⟩:=h
  obtain⟨t1,c1,h1,h2,h3⟩:=Qd3 h'
  by_cases hv:v∈u :: t1
  ·obtain⟨t2,c2,k1,k2,k3⟩:=QnT h1 hv
   exact⟨t2,c2,k1,by omega,h3.sublist k3⟩
  ·exact⟨u :: t1,c1+e.2.2,h1.cons he hj,by omega,List.nodup_cons.2 ⟨hv,h3⟩⟩
theorem Qmy {l:List Eg}{n s:Nat}(hl:∀ e∈l,e.1<n∧e.2.1<n)(hs:s<n):∀ {L:List Nat} {c:Nat},SW l s L c→∀ v∈L,v<n
 | [],_,h=>h.elim
 | [x],c,h=>by
  intro v hv
  have:v=x:=by simpa using hv
  subst this
  rw [h.1];exact hs
 | x :: u :: t,c,h=>by
  obtain⟨e,he,hj,c',hc,h'⟩:=h
  intro v hv
  rcases List.mem_cons.1 hv with h1 | h1
  ·subst h1
   have:=hl e he
   rcases hj with ⟨a,b⟩ | ⟨a,b⟩ <;> omega
  ·exact Qmy hl hs h' v h1
theorem QcV:∀ (n:Nat) (L:List Nat),L.Nodup→(∀ v∈L,v<n)→L.length≤n
 | 0,[],_,_=>YA
 | 0,x :: L,_,h=>absurd (h x (by simp)) (by omega)
 | n+1,L,hn,h=>by
  have h1:(L.erase n).length≤n:=QcV n (L.erase n) (hn.sublist (List.erase_sublist)) fun v hv=>by
   have h2:=(hn.mem_erase_iff).1 hv
   have:=h v h2.2
   have:=h2.1
   omega
  have:=List.length_erase_le (a:=n) (l:=L)
  have h3:L.length-1≤(L.erase n).length:=by
   rw [List.length_erase]
   split <;> omega
  omega
def at' (d:List Int)(v:Nat):Int:=d.getD v (-1)
theorem QbJ {d:List Int}{v:Nat}(h:v<d.length):at' d v=d[v]:=by simp [at',h]
theorem QbJ? {d:List Int}{v:Nat}(h:v<d.length):d[v]? = some (at' d v):=by simp [at',h]
theorem Qba {d:List Int}{v:Nat}(x:Int)(h:v<d.length)(u:Nat):at' (d.set v x) u=if u=v then x else at' d u:=by
 unfold at'
 by_cases e:u=v
 ·subst e;simp [List.getD,h]
 ·rw [if_neg e];simp [List.getD,List.getElem?_set_ne (Ne.symm e)]
def IsD (l:List Eg)(s n:Nat)(d:List Int):Prop:=
 d.length=n∧∀ v,v<n→(at' d v = -1∧∀ L c,¬ SW l s (v :: L) c)∨∃ c:Nat,at' d v=c∧(∃ L,SW l s (v :: L) c)∧∀ L c',SW l s (v :: L) c'→c≤c'
def Kept (d:List Int)(e:Eg):Prop:=(at' d e.1<0∧at' d e.2.1=at' d e.1)∨(0≤at' d e.1∧0≤at' d e.2.1∧at' d e.1-at' d e.2.1≤e.2.2∧at' d e.2.1-at' d e.1≤e.2.2)
theorem QhS {d:List Int}{e:Eg}(h:Kept d e){a b:Nat}(hj:Jn e a b)(ha:0≤at' d a):0≤at' d b∧at' d b≤at' d a+e.2.2:=by
 rcases hj with ⟨rfl,rfl⟩ | ⟨rfl,rfl⟩ <;> rcases h with h | h <;> omega
theorem Qov {l:List Eg}{s:Nat}{d:List Int}(hs:at' d s=0)(hk:∀ e∈l,Kept d e):∀ {L:List Nat} {v c:Nat},SW l s (v :: L) c→0≤at' d v∧at' d v≤c
 | [],v,c,h=>by rw [h.1,hs,h.2];simp
 | u :: t,v,c,h=>by
  obtain⟨e,he,hj,c',hc,h'⟩:=h
  have h1:=Qov hs hk h'
  have h2:=QhS (hk e he) hj h1.1
  omega
theorem QpA {l:List Eg}{s n:Nat}{d:List Int}(hn:d.length=n)(hs:at' d s=0)(hk:∀ e∈l,Kept d e)(hw:∀ v,v<n→at' d v = -1∨∃ L,∃ c:Nat,at' d v=c∧SW l s (v :: L) c):IsD l s n d:=by
 refine⟨hn,fun v hv=>?_⟩
 rcases hw v hv with h | ⟨L,c,h,h'⟩
 ·refine .inl ⟨h,fun L c h'=>?_⟩
  have:=Qov hs hk h'
  omega
 ·refine .inr ⟨c,h,⟨L,h'⟩,fun L' c' h''=>?_⟩
  have:=Qov hs hk h''
  omega
theorem IsD.zero {l:List Eg}{s n:Nat}{d:List Int}(h:IsD l s n d)(hs:s<n):at' d s=0:=by
 rcases h.2 s hs with ⟨_,b⟩ | ⟨c,a,_,k⟩
 ·exact absurd (SW.one l s) (b [] 0)
 ·have:=k [] 0 (SW.one l s)
  omega
theorem IsD.ge {l:List Eg}{s n:Nat}{d:List Int}(h:IsD l s n d){v:Nat}(hv:v<n): -1≤at' d v:=by
 rcases h.2 v hv with ⟨_,b⟩ | ⟨c,a,_,k⟩ <;> omega
theorem IsD.kept {l:List Eg}{s n:Nat}{d:List Int}(h:IsD l s n d)(hl:∀ e∈l,e.1<n∧e.2.1<n){e:Eg}(he:e∈l):Kept d e:=by
 have hstep:∀ a b,Jn e a b→a<n→b<n→0≤at' d a→0≤at' d b∧at' d b≤at' d a+e.2.2:=by
  intro a b hj ha hb h0
  rcases h.2 a ha with ⟨h1,_⟩ | ⟨c,h1,⟨L,h2⟩,_⟩
  ·omega
  ·have h3:=h2.cons he hj
   rcases h.2 b hb with ⟨_,k2⟩ | ⟨c',k1,_,k3⟩
   ·exact absurd h3 (k2 _ _)
   ·have:=k3 _ _ h3
    omega
 obtain⟨h1,h2⟩:=hl e he
 have a:=hstep e.1 e.2.1 (.inl ⟨rfl,rfl⟩) h1 h2
 have b:=hstep e.2.1 e.1 (.inr ⟨rfl,rfl⟩) h2 h1
 have c:=h.ge h1
 have c':=h.ge h2
 by_cases k:0≤at' d e.1
 ·exact .inr (by have:=a k;have:=b this.1;omega)
 ·by_cases k':0≤at' d e.2.1
  ·have:=b k';omega
  ·exact .inl (by omega)
def oth (e:Eg)(v:Nat):Nat:=if e.1=v then e.2.1 else e.1
theorem Qe5 {e:Eg}{v:Nat}(h:e.1=v∨e.2.1=v):Jn e (oth e v) v:=by
 unfold oth Jn
 by_cases k:e.1=v
 ·rw [if_pos k];exact .inr ⟨k,rfl⟩
 ·rw [if_neg k];exact .inl ⟨rfl,h.resolve_left k⟩
theorem Qe4 {e:Eg}{a b:Nat}(h:Jn e a b):oth e b=a:=by
 unfold oth
 rcases h with ⟨h1,h2⟩ | ⟨h1,h2⟩
 ·by_cases k:e.1=b
  ·rw [if_pos k];omega
  ·rw [if_neg k];omega
 ·rw [if_pos h1];exact h2
def par (l:List Eg)(via:List Int)(v:Nat):Nat:=if at' via v = -1 then v else oth (l.getD (at' via v).toNat (0,0,0)) v
def up (l:List Eg)(via:List Int):Nat→Nat→Nat
 | 0,v=>v
 | k+1,v=>up l via k (par l via v)
theorem Qkb (l:List Eg)(via:List Int):∀ (j k v:Nat),up l via (j+k) v=up l via k (up l via j v)
 | 0,k,v=>by simp [up]
 | j+1,k,v=>by rw [Nat.succ_add];exact Qkb l via j k _
theorem Qka (l:List Eg)(via:List Int)(k v:Nat):up l via (k+1) v=par l via (up l via k v):=Qkb l via k 1 v
theorem QcO {l:List Eg}{via:List Int}{v:Nat}(h:at' via v = -1):par l via v=v:=if_pos h
def Last (l:List Eg)(d via:List Int)(v:Nat):Prop:=∃ i:Nat,at' via v=i∧∃ e,l[i]? = some e∧(e.1=v∨e.2.1=v)∧at' d (oth e v)=at' d v-e.2.2
theorem Last.par {l:List Eg}{d via:List Int}{v:Nat}(h:Last l d via v):∃ i:Nat,at' via v=i∧∃ e,l[i]? = some e∧e∈l∧Jn e (par l via v) v∧par l via v=oth e v∧at' d (par l via v)=at' d v-e.2.2:=by
 obtain⟨i,hi,e,he,hv,hd⟩:=h
 have hp:Go.Proofs.YtalflecmadacaaaGreat.par l via v=oth e v:=by
  unfold Go.Proofs.YtalflecmadacaaaGreat.par
  rw [if_neg (by omega),hi]
  have:l.getD i (0,0,0)=e:=by simp [List.getD,he]
  rw [YM,this]
 exact⟨i,hi,e,he,YK he,by rw [hp];exact Qe5 hv,hp,by rw [hp];exact hd⟩
structure OKc (l:List Eg)(s n:Nat)(d via:List Int):Prop where
 dist:IsD l s n d
 len:via.length=n
 zero:at' via s = -1
 last:∀ v,v<n→v≠s→(at' d v<0∧at' via v = -1)∨(0≤at' d v∧Last l d via v)
 come:∀ v,v<n→0≤at' d v→∃ k,up l via k v=s
def vtxB (n v:Int):Bool:=decide (0≤v∧v<n)
theorem vtx_iff {n v:Int}:vtxB n v=true↔0≤v∧v<n:=by simp [vtxB]
def fitW (n:Int)(e:Ed):Int:=if vtxB n e.1=false∨vtxB n e.2.1=false then 5 else if e.2.2<0 then 10 else if 2147483648≤e.2.2 then 8 else 0
def lstW (n:Int):List Ed→Int
 | []=>0
 | e :: l=>if fitW n e=0 then lstW n l else fitW n e
def rgtW (n:Int)(l:List Ed):Int:=if n<0 then 1 else if 1048576<n∨4194304<(l.length:Int) then 4 else lstW n l
theorem Qlr {n:Int}{l:List Ed}{j:Nat}(h:j<l.length):lstW n (l.drop j)=if fitW n l[j]=0 then lstW n (l.drop (j+1)) else fitW n l[j]:=by
 rw [List.drop_eq_getElem_cons h];rfl
theorem Qnc (n:Int)(l:List Ed):lstW n (l.drop l.length)=0:=by simp [lstW]
theorem Qb6 (n v:Int)(sv:Value)(w:World)(hs:∃ p k c,sv = .slice p k c):Calls Tryz.prog 126 #[.agg #[.int .i64 n,sv],.int .i64 v] w fun r w'=>r = .returned (.bool (vtxB n v))∧Grew w w':=by
 obtain⟨p,k,c,rfl⟩:=hs
 unfold vtxB
 go_enter Tryz.func126,Tryz.ntmps126
 go_wp2
 all_goals go_ret
 all_goals refine⟨?_,(Grew.refl w).alloc _⟩
 all_goals simp
 all_goals omega
theorem QlV (n:Int)(sv:Value)(e:Ed)(w:World)(hs:∃ p k c,sv = .slice p k c):Calls Tryz.prog 108 #[.agg #[.int .i64 n,sv],edV e] w fun r w'=>r = .returned (.int .i64 (fitW n e))∧Grew w w':=by
 have hv:=fun v W=>Qb6 n v sv W hs
 obtain⟨p,k,c,rfl⟩:=hs
 unfold edV
 obtain⟨x,y,z⟩:=e
 simp only
 have hbox:∀ W',Grew ((w.alloc (.cells #[.int .i64 n,.slice p k c] 24)).alloc (.cells #[.int .i64 x,.int .i64 y,.int .i64 z] 50)) W'→W'.cell? ⟨w.heap.size,0,none⟩=some (.int .i64 n)∧W'.cell? ⟨w.heap.size,1,none⟩=some (.slice p k c)∧W'.cell? ⟨w.heap.size+1,0,none⟩=some (.int .i64 x)∧W'.cell? ⟨w.heap.size+1,1,none⟩=some (.int .i64 y)∧W'.cell? ⟨w.heap.size+1,2,none⟩=some (.int .i64 z):=fun W' h=>
  ⟨(h.below.cell (p:=⟨w.heap.size,0,none⟩) (by simp;omega)).trans (by simp),(h.below.cell (p:=⟨w.heap.size,1,none⟩) (by simp;omega)).trans (by simp),(h.below.cell (p:=⟨w.heap.size+1,0,none⟩) (by simp)).trans (by simp),(h.below.cell (p:=⟨w.heap.size+1,1,none⟩) (by simp)).trans (by simp),(h.below.cell (p:=⟨w.heap.size+1,2,none⟩) (by simp)).trans (by simp)⟩
 have hg0:Grew w ((w.alloc (.cells #[.int .i64 n,.slice p k c] 24)).alloc (.cells #[.int .i64 x,.int .i64 y,.int .i64 z] 50)):=((Grew.refl w).alloc _).alloc _
 by_cases h1:vtxB n x=true
 ·by_cases h2:vtxB n y=true
  ·have hE:(z<0∧fitW n (x,y,z)=10)∨(¬ z<0∧2147483648≤z∧fitW n (x,y,z)=8)∨(¬ z<0∧¬ 2147483648≤z∧fitW n (x,y,z)=0):=by
    unfold fitW
    simp only [h1,h2]
    by_cases z0:z<0
    ·exact .inl ⟨z0,by simp [z0]⟩
    ·by_cases z1:2147483648≤z
     ·exact .inr (.inl ⟨z0,z1,by simp [z0,z1]⟩)
     ·exact .inr (.inr ⟨z0,z1,by simp [z0,z1]⟩)
   generalize fitW n (x,y,z)=r at hE
   have H1:Hid _:=h1
   have H2:Hid _:=h2
   clear h1 h2
   rcases hE with ⟨z0,rfl⟩ | ⟨z0,z1,rfl⟩ | ⟨z0,z1,rfl⟩
   all_goals
    go_enter Tryz.func108,Tryz.ntmps108
    go_wp2_with fail
    refine (hv _ _).mono ?_
    rintro e w1 ⟨rfl,hg1⟩
    obtain⟨c0,c1,c2,c3,c4⟩:=hbox _ hg1
    rw [H1.out]
    go_wp2_with fail
    refine (hv _ _).mono ?_
    rintro e w2 ⟨rfl,hg2⟩
    clear c0 c1 c2 c3 c4
    obtain⟨c0,c1,c2,c3,c4⟩:=hbox _ (hg1.trans hg2)
    rw [H2.out]
    go_wp2
    go_ret
    exact⟨rfl,hg0.trans (hg1.trans hg2)⟩
  ·have hE:fitW n (x,y,z)=5:=if_pos (.inr (by simpa using h2))
   rw [hE]
   have H1:Hid _:=h1
   have H2:Hid (vtxB n y=false):=by unfold Hid;simpa using h2
   clear h1 h2 hE
   go_enter Tryz.func108,Tryz.ntmps108
   go_wp2_with fail
   refine (hv _ _).mono ?_
   rintro e w1 ⟨rfl,hg1⟩
   obtain⟨c0,c1,c2,c3,c4⟩:=hbox _ hg1
   rw [H1.out]
   go_wp2_with fail
   refine (hv _ _).mono ?_
   rintro e w2 ⟨rfl,hg2⟩
   rw [H2.out]
   go_wp2
   go_ret
   exact⟨rfl,hg0.trans (hg1.trans hg2)⟩
 ·have hE:fitW n (x,y,z)=5:=if_pos (.inl (by simpa using h1))
  rw [hE]
  have H1:Hid (vtxB n x=false):=by unfold Hid;simpa using h1
  clear h1 hE
  go_enter Tryz.func108,Tryz.ntmps108
  go_wp2_with fail
  refine (hv _ _).mono ?_
  rintro e w1 ⟨rfl,hg1⟩
  rw [H1.out]
  go_wp2
  go_ret
  exact⟨rfl,hg0.trans hg1⟩
theorem Qdl (n:Int)(l:List Ed)(sv:Value)(w:World)(hl:Edges w.heap.size w sv l):
  Calls Tryz.prog 82 #[.agg #[.int .i64 n,sv]] w fun r w'=>r = .returned (.int .i64 (rgtW n l))∧Grew w w':=by
 obtain⟨p,c,rfl⟩:=hl.len
 have hmix:=mixed
 have hg1:Grew w (w.alloc (.cells #[.int .i64 n,.slice p l.length c] 24)):=(Grew.refl w).alloc _
 have hf:=fun e W=>QlV n (.slice p l.length c) e W ⟨_,_,_,rfl⟩
 by_cases h0:n<0
 ·have hE:rgtW n l=1:=if_pos h0
  rw [hE]
  go_enter Tryz.func82,Tryz.ntmps82
  go_wp2
  go_ret
  exact⟨rfl,hg1⟩
 ·by_cases h1:1048576<n
  ·have hE:rgtW n l=4:=by unfold rgtW;rw [if_neg h0,if_pos (.inl h1)]
   rw [hE]
   go_enter Tryz.func82,Tryz.ntmps82
   go_wp2
   go_ret
   exact⟨rfl,hg1⟩
  ·by_cases h2:4194304<(l.length:Int)
   ·have hE:rgtW n l=4:=by unfold rgtW;rw [if_neg h0,if_pos (.inr h2)]
    rw [hE]
    go_enter Tryz.func82,Tryz.ntmps82
    go_wp2
    go_ret
    exact⟨rfl,hg1⟩
   ·have hR:Hid (rgtW n l=lstW n l):=by unfold Hid rgtW;rw [if_neg h0,if_neg (by omega)]
    go_enter Tryz.func82,Tryz.ntmps82
    go_wp2
    go_loopw [21] (fun i wr=>∃ j:Nat,j≤l.length∧i = .int .i64 j∧Hid (lstW n (l.drop j)=lstW n l)∧Grew (w.alloc (.cells #[.int .i64 n,.slice p l.length c] 24)) wr) (fun i _=>l.length-(intOf i).toNat)
    case atStart=>exact⟨0,YN,rfl,rfl,Grew.refl _⟩
    case round=>
     obtain⟨j,hj,rfl,hr,hg⟩:=hrel
     have q0:=(box2 _ hg).1
     have q1:=(box2 _ hg).2
     have hsz:=QeP hg
     by_cases hlt:j<l.length
     ·obtain⟨b,off,rfl,hbb,hcap,hc⟩:=hl.at hlt
      have hb0:=(hg1.trans hg).below
      obtain⟨c0,c1,c2⟩:=hc j _ (YB hlt)
      replace c0:=(hb0.cell (p:=⟨b,off+j*3,none⟩) hbb).trans c0
      replace c1:=(hb0.cell (p:=⟨b,off+j*3+1,none⟩) hbb).trans c1
      replace c2:=(hb0.cell (p:=⟨b,off+j*3+2,none⟩) hbb).trans c2
      have hjl:(j:Int)<(l.length:Int):=by omega
      have HST:Hid _:=(Qlr (n:=n) hlt).symm.trans hr
      clear hc hr
      have hbr:b<wr.heap.size:=by omega
      go_wp2_with fail
      refine (hf l[j] _).mono ?_
      rintro e w7 ⟨rfl,hg7⟩
      have hg8:Grew (w.alloc (.cells #[.int .i64 n,.slice (some ⟨b,off,none⟩) l.length c] 24)) w7:=hg.trans (((Grew.refl wr).alloc _).trans hg7)
      clear q0 q1 c0 c1 c2 hb0 hg hg7
      by_cases hk:fitW n l[j]=0
      ·rw [hk]
       have HS:Hid (lstW n (l.drop (j+1))=lstW n l):=by
        have h2:=HST.out
        rwa [if_pos hk] at h2
       clear HST hk
       go_wp2
       exact⟨⟨j+1,by omega,by go_num,HS,hg8⟩,by simp [intOf];omega⟩
      ·have HE:Hid (rgtW n l=fitW n l[j]):=by
        have h2:=HST.out
        rw [if_neg hk] at h2
        unfold Hid;rw [hR.out,← h2]
       generalize fitW n l[j]=k at HE hk
       have hk':(k==0)=false:=by simpa using hk
       clear HST hk
       go_wp2
       go_ret
       exact⟨by rw [HE.out];rfl,hg1.trans hg8⟩
     ·obtain rfl:j=l.length:=by omega
      have HE:Hid (rgtW n l=0):=by
       unfold Hid;rw [hR.out,← hr.out,Qnc]
      clear hr
      go_wp2
      go_ret
      exact⟨by rw [HE.out];rfl,hg1.trans hg⟩
theorem QnZ {l : List Eg} {d via : List Int} {v n : Nat} (hl : ∀ e ∈ l, e.1 < n ∧ e.2.1 < n) (h : Last l d via v) : par l via v < n := by
  obtain ⟨i, hi, e, he, hm, hj, hp, _⟩ := h.par
  have := hl e hm
  rcases hj with ⟨a, b⟩ | ⟨a, b⟩ <;> omega
def CH (l : List Eg) (via : List Int) (s : Nat) : List Nat → Prop
  | [] => False
  | [v] => v = s
  | v :: u :: t => u = par l via v ∧ CH l via s (u :: t)
theorem QpJ {l : List Eg} {via : List Int} {s : Nat} : ∀ {L : List Nat} {v : Nat}, CH l via s (v :: L) → up l via L.length v = s
  | [], v, h => h
  | u :: t, v, h => by
    show up l via t.length (par l via v) = s
    rw [← h.1]; exact QpJ h.2
theorem Qog {l : List Eg} {via : List Int} {s : Nat} : ∀ {L : List Nat} {v : Nat}, CH l via s L → v ∈ L → ∃ t, CH l via s (v :: t) ∧ (v :: t).Sublist L
  | [], _, h, _ => h.elim
  | [x], v, h, hv => by
    have : v = x := by simpa using hv
    subst this
    exact ⟨[], h, List.Sublist.refl _⟩
  | x :: u :: t, v, h, hv => by
    by_cases e : v = x
    · subst e; exact ⟨u :: t, h, List.Sublist.refl _⟩
    · obtain ⟨t', h1, h2⟩ := Qog h.2 ((List.mem_cons.1 hv).resolve_left e)
      exact ⟨t', h1, h2.cons _⟩
theorem QpK {l : List Eg} {via : List Int} {s : Nat} : ∀ (k v : Nat), up l via k v = s → ∃ t, CH l via s (v :: t) ∧ (v :: t).Nodup
  | 0, v, h => ⟨[], h, by simp⟩
  | k + 1, v, h => by
    obtain ⟨t, h1, h2⟩ := QpK k (par l via v) h
    by_cases hv : v ∈ par l via v :: t
    · obtain ⟨t', h3, h4⟩ := Qog h1 hv
      exact ⟨t', h3, h2.sublist h4⟩
    · exact ⟨par l via v :: t, ⟨rfl, h1⟩, List.nodup_cons.2 ⟨hv, h2⟩⟩
theorem OKc.short {l : List Eg} {s n : Nat} {d via : List Int} (h : OKc l s n d via) (hl : ∀ e ∈ l, e.1 < n ∧ e.2.1 < n) (hs : s < n) {v : Nat} (hv : v < n) (h0 : 0 ≤ at' d v) : ∃ t, CH l via s (v :: t) ∧ t.length < n := by
  obtain ⟨k, hk⟩ := h.come v hv h0
  obtain ⟨t, h1, h2⟩ := QpK k v hk
  have hall : ∀ (t : List Nat) (v : Nat), v < n → CH l via s (v :: t) → ∀ x ∈ v :: t, x < n := by
    intro t
    induction t with
    | nil => intro v hv _ x hx; have : x = v := by simpa using hx
             omega
    | cons u t ih =>
      intro v hv hc x hx
      rcases List.mem_cons.1 hx with h1 | h1
      · omega
      · refine ih u ?_ hc.2 x h1
        rw [hc.1]
        by_cases e : v = s
        · subst e; rw [QcO h.zero]; exact hv
        · rcases h.last v hv e with h2 | ⟨_, h2⟩
          · rw [QcO h2.2]; exact hv
          · exact QnZ hl h2
  have := QcV n _ h2 (hall t v hv h1)
  exact ⟨t, h1, by simp at this; omega⟩
theorem Qim {l : List Eg} {s s' : Nat} {e : Eg} (he : e ∈ l) (hj : Jn e s' s) : ∀ {L : List Nat} {v c : Nat}, SW l s (v :: L) c → ∃ L', SW l s' (v :: L') (c + e.2.2)
  | [], v, c, h => by
    obtain ⟨rfl, rfl⟩ := h
    exact ⟨[s'], (SW.one l s').cons he hj⟩
  | u :: t, v, c, h => by
    obtain ⟨e', he', hj', c', hc, h'⟩ := h
    obtain ⟨L', h1⟩ := Qim he hj h'
    refine ⟨u :: L', ?_⟩
    have := h1.cons he' hj'
    rwa [show c' + e.2.2 + e'.2.2 = c + e.2.2 by omega] at this
theorem Qkm {l : List Eg} {s : Nat} : ∀ {L : List Nat} {v c : Nat}, SW l s (v :: L) c → ∃ L', SW l v (s :: L') c
  | [], v, c, h => by
    obtain ⟨rfl, rfl⟩ := h
    exact ⟨[], SW.one l v⟩
  | u :: t, v, c, h => by
    obtain ⟨e', he', hj', c', hc, h'⟩ := h
    obtain ⟨L', h1⟩ := Qkm h'
    obtain ⟨L'', h2⟩ := Qim he' hj'.symm h1
    exact ⟨L'', hc ▸ h2⟩
def rel1 (d : List Int) (a b w : Nat) : List Int := if 0 ≤ at' d a ∧ (at' d b < 0 ∨ at' d a + w < at' d b) then d.set b (at' d a + w) else d
def relE (d : List Int) (e : Eg) : List Int := rel1 (rel1 d e.1 e.2.1 e.2.2) e.2.1 e.1 e.2.2
def relL (d : List Int) (l : List Eg) : List Int := l.foldl relE d
def relN (l : List Eg) (d : List Int) : Nat → List Int
  | 0 => d
  | i + 1 => relL (relN l d i) l
theorem Qfz (d : List Int) (a b w : Nat) : (rel1 d a b w).length = d.length := by unfold rel1; split <;> simp
theorem Qiw (d : List Int) (e : Eg) : (relE d e).length = d.length := by unfold relE; rw [Qfz, Qfz]
theorem Qiv : ∀ (l : List Eg) (d : List Int), (relL d l).length = d.length
  | [], _ => rfl
  | e :: l, d => (Qiv l (relE d e)).trans (Qiw d e)
theorem Qiu (l : List Eg) (d : List Int) : ∀ i, (relN l d i).length = d.length
  | 0 => rfl
  | i + 1 => (Qiv l _).trans (Qiu l d i)
theorem QkJ {d : List Int} {l : List Eg} {k : Nat} (h : k < l.length) : relL d (l.take (k + 1)) = relE (relL d (l.take k)) l[k] := by
  unfold relL
  rw [List.take_succ_eq_append_getElem h, List.foldl_append]
  rfl
structure BF (l : List Eg) (s n : Nat) (b : Nat) (d : List Int) : Prop where
  len : d.length = n
  zero : at' d s = 0
  reach : ∀ v, v < n → at' d v = -1 ∨ ∃ L, ∃ c : Nat, at' d v = c ∧ SW l s (v :: L) c
  few : ∀ v, at' d v ≤ b
theorem BF.mono {l : List Eg} {s n b b' : Nat} {d : List Int} (h : BF l s n b d) (hb : b ≤ b') : BF l s n b' d := ⟨h.len, h.zero, h.reach, fun v => by have := h.few v; omega⟩
theorem BF.rel1 {l : List Eg} {s n b : Nat} {d : List Int} (h : BF l s n b d) {e : Eg} (he : e ∈ l) {x y : Nat} (hj : Jn e x y) (hx : x < n) (hy : y < n) : BF l s n (b + e.2.2) (rel1 d x y e.2.2) := by
  unfold Go.Proofs.YtalflecmadacaaaGreat.rel1
  split
  · rename_i hc
    have hlt : y < d.length := by rw [h.len]; exact hy
    refine ⟨by simp [h.len], ?_, fun v hv => ?_, fun v => ?_⟩
    · rw [Qba _ hlt]
      split
      · rename_i e'; subst e'; have := h.zero; omega
      · exact h.zero
    · rw [Qba _ hlt]
      split
      · rename_i e'; subst e'
        rcases h.reach x hx with h1 | ⟨L, c, h1, h2⟩
        · omega
        · exact .inr ⟨_, c + e.2.2, by omega, h2.cons he hj⟩
      · exact h.reach v hv
    · rw [Qba _ hlt]
      have := h.few v
      have := h.few x
      split <;> omega
  · exact h.mono (by omega)
theorem BF.relE {l : List Eg} {s n b : Nat} {d : List Int} (h : BF l s n b d) {e : Eg} (he : e ∈ l) (hl : ∀ e ∈ l, e.1 < n ∧ e.2.1 < n) : BF l s n (b + 2 * e.2.2) (relE d e) := by
  have h1 := h.rel1 he (.inl ⟨rfl, rfl⟩) (hl e he).1 (hl e he).2
  have h2 := h1.rel1 he (.inr ⟨rfl, rfl⟩) (hl e he).2 (hl e he).1
  exact h2.mono (by omega)
theorem BF.relL {l : List Eg} {s n b M : Nat} {d : List Int} (h : BF l s n b d) (hl : ∀ e ∈ l, e.1 < n ∧ e.2.1 < n) (hM : ∀ e ∈ l, e.2.2 ≤ M) : ∀ k, k ≤ l.length → BF l s n (b + k * (2 * M)) (relL d (l.take k))
  | 0, _ => by simpa [Go.Proofs.YtalflecmadacaaaGreat.relL] using h
  | k + 1, hk => by
    have h1 := BF.relL h hl hM k (by omega)
    have hm := YG (l := l) (n := k) (by omega)
    rw [QkJ (by omega)]
    refine (h1.relE hm hl).mono ?_
    have := hM _ hm
    have e1 : (k + 1) * (2 * M) = k * (2 * M) + 2 * M := Nat.succ_mul _ _
    omega
theorem BF.relN {l : List Eg} {s n b M : Nat} {d : List Int} (h : BF l s n b d) (hl : ∀ e ∈ l, e.1 < n ∧ e.2.1 < n) (hM : ∀ e ∈ l, e.2.2 ≤ M) : ∀ i, BF l s n (b + i * (l.length * (2 * M))) (relN l d i)
  | 0 => by simpa [Go.Proofs.YtalflecmadacaaaGreat.relN] using h
  | i + 1 => by
    have h1 := (BF.relN h hl hM i).relL hl hM l.length YA
    rw [List.take_length] at h1
    refine BF.mono h1 ?_
    have e1 : (i + 1) * (l.length * (2 * M)) = i * (l.length * (2 * M)) + l.length * (2 * M) := Nat.succ_mul _ _
    omega
def Mn (d d' : List Int) : Prop := ∀ v, 0 ≤ at' d v → 0 ≤ at' d' v ∧ at' d' v ≤ at' d v
theorem Mn.refl (d : List Int) : Mn d d := fun _ h => ⟨h, Int.le_refl _⟩
theorem Mn.trans {a b c : List Int} (h : Mn a b) (h' : Mn b c) : Mn a c := fun v hv => by
  have := h v hv
  have := h' v this.1
  omega
theorem QkL (d : List Int) {a b w : Nat} (hb : b < d.length) : Mn d (rel1 d a b w) ∧ (0 ≤ at' d a → 0 ≤ at' (rel1 d a b w) b ∧ at' (rel1 d a b w) b ≤ at' d a + w) := by
  unfold rel1
  split
  · rename_i hc
    refine ⟨fun v hv => ?_, fun h => ?_⟩
    · rw [Qba _ hb]
      split
      · rename_i e; subst e; omega
      · omega
    · rw [Qba _ hb, if_pos rfl]; omega
  · exact ⟨Mn.refl d, fun h => by omega⟩
theorem QoF (d : List Int) (e : Eg) (h1 : e.1 < d.length) (h2 : e.2.1 < d.length) : Mn d (relE d e) ∧ ∀ a b, Jn e a b → 0 ≤ at' d a → 0 ≤ at' (relE d e) b ∧ at' (relE d e) b ≤ at' d a + e.2.2 := by
  unfold relE
  obtain ⟨m1, k1⟩ := QkL d (a := e.1) (w := e.2.2) h2
  obtain ⟨m2, k2⟩ := QkL (rel1 d e.1 e.2.1 e.2.2) (a := e.2.1) (w := e.2.2) (b := e.1) (by rw [Qfz]; exact h1)
  refine ⟨m1.trans m2, fun a b hj ha => ?_⟩
  rcases hj with ⟨rfl, rfl⟩ | ⟨rfl, rfl⟩
  · have x := k1 ha
    have := m2 _ x.1
    omega
  · have x := m1 _ ha
    have := k2 x.1
    omega
theorem QkK : ∀ (l : List Eg) (d : List Int), (∀ e ∈ l, e.1 < d.length ∧ e.2.1 < d.length) → Mn d (relL d l) ∧ ∀ e ∈ l, ∀ a b, Jn e a b → 0 ≤ at' d a → 0 ≤ at' (relL d l) b ∧ at' (relL d l) b ≤ at' d a + e.2.2
  | [], d, _ => ⟨Mn.refl d, fun e he => by simp at he⟩
  | e :: l, d, h => by
    obtain ⟨m1, k1⟩ := QoF d e (h e (by simp)).1 (h e (by simp)).2
    obtain ⟨m2, k2⟩ := QkK l (relE d e) (fun x hx => by rw [Qiw]; exact h x (by simp [hx]))
    refine ⟨m1.trans m2, fun x hx a b hj ha => ?_⟩
    rcases List.mem_cons.1 hx with rfl | hx
    · have y := k1 a b hj ha
      have := m2 _ y.1
      show 0 ≤ at' (relL (relE d x) l) b ∧ at' (relL (relE d x) l) b ≤ _
      omega
    · have y := m1 _ ha
      have := k2 x hx a b hj y.1
      show 0 ≤ at' (relL (relE d e) l) b ∧ at' (relL (relE d e) l) b ≤ _
      omega
theorem QkI {l : List Eg} {s n : Nat} {d : List Int} {b M : Nat} (h : BF l s n b d) (hl : ∀ e ∈ l, e.1 < n ∧ e.2.1 < n) (hM : ∀ e ∈ l, e.2.2 ≤ M) : ∀ (i : Nat) (L : List Nat) (v c : Nat), L.length ≤ i → SW l s (v :: L) c → 0 ≤ at' (relN l d i) v ∧ at' (relN l d i) v ≤ c := by
  intro i
  induction i with
  | zero =>
    intro L v c hL hw
    obtain rfl := List.eq_nil_of_length_eq_zero (Nat.le_zero.1 hL)
    obtain ⟨rfl, rfl⟩ := hw
    have : at' (relN l d 0) v = 0 := h.zero
    omega
  | succ i ih =>
    intro L v c hL hw
    have hB := h.relN hl hM (i + 1)
    match L, hw with
    | [], hw =>
      obtain ⟨rfl, rfl⟩ := hw
      have := hB.zero
      omega
    | u :: t, hw =>
      obtain ⟨e, he, hj, c', hc, h'⟩ := hw
      have h1 := ih t u c' (by simp at hL; omega) h'
      have h2 := (QkK l (relN l d i) (fun x hx => by rw [Qiu, h.len]; exact hl x hx)).2 e he u v hj h1.1
      show 0 ≤ at' (relL (relN l d i) l) v ∧ at' (relL (relN l d i) l) v ≤ c
      omega
theorem QmJ {l : List Eg} {s n : Nat} {d : List Int} {b M : Nat} (hs : s < n) (h : BF l s n b d) (hl : ∀ e ∈ l, e.1 < n ∧ e.2.1 < n) (hM : ∀ e ∈ l, e.2.2 ≤ M) : IsD l s n (relN l d n) := by
  have hB := h.relN hl hM n
  have hle : ∀ L v c, SW l s (v :: L) c → 0 ≤ at' (relN l d n) v ∧ at' (relN l d n) v ≤ c := by
    intro L v c hw
    obtain ⟨t, c', h1, h2, h3⟩ := Qd3 hw
    have h4 := QcV n _ h3 (Qmy hl hs h1)
    have := QkI h hl hM n t v c' (by simp at h4; omega) h1
    omega
  refine ⟨hB.len, fun v hv => ?_⟩
  rcases hB.reach v hv with h1 | ⟨L, c, h1, h2⟩
  · exact .inl ⟨h1, fun L c hw => by have := hle L v c hw; omega⟩
  · exact .inr ⟨c, h1, ⟨L, h2⟩, fun L' c' hw => by have := hle L' v c' hw; omega⟩
def negs (n : Nat) : List Int := List.replicate n (-1)
theorem Qf3 (n v : Nat) : at' (negs n) v = -1 := by
  unfold at' negs
  by_cases h : v < n
  · simp [h]
  · simp [List.getD, h]
def dist0 (n s : Nat) : List Int := (negs n).set s 0
theorem QnG (l : List Eg) {s n : Nat} (hs : s < n) : BF l s n 0 (dist0 n s) := by
  have hlen : s < (negs n).length := by simpa [negs] using hs
  refine ⟨by simp [dist0, negs], ?_, fun v hv => ?_, fun v => ?_⟩
  · unfold dist0; rw [Qba _ hlen, if_pos rfl]
  · unfold dist0; rw [Qba _ hlen]
    split
    · rename_i e; subst e; exact .inr ⟨[], 0, rfl, SW.one l v⟩
    · exact .inl (Qf3 n v)
  · unfold dist0; rw [Qba _ hlen, Qf3]; split <;> omega
theorem QnU {l:List Eg}{u v:Nat}{L':List Nat}{c':Nat}(h':SW l u (v :: L') c'):∀ {L:List Nat} {w c:Nat},SW l v (w :: L) c→∃ L'',SW l u (w :: L'') (c'+c)
 | [],w,c,h=>by
  obtain⟨rfl,rfl⟩:=h
  exact⟨L',h'⟩
 | x :: t,w,c,h=>by
  obtain⟨e,he,hj,c1,rfl,h1⟩:=h
  obtain⟨L2,h2⟩:=QnU h' h1
  exact⟨x :: L2,by rw [← Nat.add_assoc];exact h2.cons he hj⟩
def ConnT (l:List Eg)(u v:Nat):Prop:=∃ L c,SW l u (v :: L) c
theorem ConnT.refl (l:List Eg)(u:Nat):ConnT l u u:=⟨[],0,SW.one l u⟩
theorem ConnT.symm {l:List Eg}{u v:Nat}(h:ConnT l u v):ConnT l v u:=by
 obtain⟨L,c,h⟩:=h
 obtain⟨L',h'⟩:=Qkm h
 exact⟨L',c,h'⟩
theorem ConnT.trans {l:List Eg}{u v w:Nat}(h:ConnT l u v)(h':ConnT l v w):ConnT l u w:=by
 obtain⟨L,c,h⟩:=h
 obtain⟨L',c',h'⟩:=h'
 obtain⟨L2,h2⟩:=QnU h h'
 exact⟨L2,_,h2⟩
theorem ConnT.edge {l:List Eg}{e:Eg}(he:e∈l):ConnT l e.1 e.2.1:=⟨[e.1],_,(SW.one l e.1).cons he (.inl ⟨rfl,rfl⟩)⟩
theorem Qdy {l:List Eg}{R:Nat→Nat}(hR:∀ e∈l,R e.1=R e.2.1){u:Nat}:∀ {L:List Nat} {v c:Nat},SW l u (v :: L) c→R v=R u
 | [],v,c,h=>by rw [h.1]
 | x :: t,v,c,h=>by
  obtain⟨e,he,hj,c1,_,h1⟩:=h
  rw [← Qdy hR h1]
  have:=hR e he
  rcases hj with ⟨a,b⟩ | ⟨a,b⟩
  ·rw [← a,← b];exact this.symm
  ·rw [← a,← b];exact this
def pf (P:List Nat)(v:Nat):Nat:=P.getD v 0
theorem QbW {P:List Nat}{v x u:Nat}(h:v<P.length):pf (P.set v x) u=if u=v then x else pf P u:=by
 unfold pf
 by_cases e:u=v
 ·subst e;simp [List.getD,h]
 ·rw [if_neg e];simp [List.getD,List.getElem?_set_ne (Ne.symm e)]
theorem pf_get? {P:List Nat}{v:Nat}(h:v<P.length):P[v]? = some (pf P v):=by simp [pf,h]
structure UF (l:List Eg)(N k:Nat)(P:List Nat)(R:Nat→Nat):Prop where
 len:P.length=N
 le:∀ v,v<N→pf P v≤v
 par:∀ v,v<N→R (pf P v)=R v
 root:∀ v,v<N→pf P v=v→R v=v
 low:∀ v,v<N→R v≤v
 conn:∀ v,v<N→ConnT l v (R v)
 done:∀ i,i<k→∀ e,l[i]? = some e→R e.1=R e.2.1
theorem UF.start (l:List Eg)(N:Nat):UF l N 0 (List.range N) id:=
 ⟨by simp,fun v hv=>by simp [pf,hv],fun v hv=>by simp [pf,hv],fun _ _ _=>rfl,fun _ _=>YA,fun v _=>ConnT.refl l v,fun i hi=>absurd hi (by omega)⟩
theorem UF.half {l:List Eg}{N k:Nat}{P:List Nat}{R:Nat→Nat}(h:UF l N k P R){v:Nat}(hv:v<N):UF l N k (P.set v (pf P (pf P v))) R:=by
 have hl:v<P.length:=by rw [h.len];exact hv
 have h1:=h.le v hv
 have h2:=h.le (pf P v) (by omega)
 refine⟨by rw [List.length_set];exact h.len,fun u hu=>?_,fun u hu=>?_,fun u hu he=>?_,h.low,h.conn,h.done⟩
 ·rw [QbW hl];split
  ·omega
  ·exact h.le u hu
 ·rw [QbW hl];split
  ·next e=>subst e;rw [h.par _ (by omega),h.par _ hv]
  ·exact h.par u hu
 ·rw [QbW hl] at he
  split at he
  ·next e=>subst e;exact h.root u hv (by omega)
  ·exact h.root u hu he
theorem UF.rooted {l:List Eg}{N k:Nat}{P:List Nat}{R:Nat→Nat}(h:UF l N k P R){a:Nat}(ha:a<N)(hr:R a=a):pf P a=a:=by
 have h1:=h.le a ha
 have h2:=h.par a ha
 have h3:=h.low (pf P a) (by omega)
 omega
theorem UF.stays {l:List Eg}{N k:Nat}{P:List Nat}{R:Nat→Nat}(h:UF l N k P R){v:Nat}(hv:v<N){i:Nat}(hi:i<N)(he:pf P i=R i):pf (P.set v (pf P (pf P v))) i=R i:=by
 have hl:v<P.length:=by rw [h.len];exact hv
 rw [QbW hl]
 split
 ·next e=>
  subst e
  have h1:=h.par i hi
  have h2:=h.le i hi
  rw [he] at h1 ⊢
  exact h.rooted (by omega) h1
 ·exact he
theorem UF.join {l:List Eg}{N k:Nat}{P:List Nat}{R:Nat→Nat}(h:UF l N k P R){a b:Nat}(ha:a<N)(hb:b<N)(pa:pf P a=a)(pb:pf P b=b){e:Eg}(he:l[k]? = some e)(ea:R e.1=a)(eb:R e.2.1=b)(h1:e.1<N)(h2:e.2.1<N):
  UF l N (k+1) (P.set (max a b) (min a b)) (fun w=>if R w=max a b then min a b else R w):=by
 have hl:max a b<P.length:=by rw [h.len];omega
 have ra:=h.root a ha pa
 have rb:=h.root b hb pb
 have rmn:R (min a b)=min a b:=by
  rcases Nat.le_total a b with k | k
  ·rw [Nat.min_eq_left k];exact ra
  ·rw [Nat.min_eq_right k];exact rb
 have rmx:R (max a b)=max a b:=by
  rcases Nat.le_total a b with k | k
  ·rw [Nat.max_eq_right k];exact rb
  ·rw [Nat.max_eq_left k];exact ra
 have hmm:min a b≤max a b:=by omega
 have cab:ConnT l a b:=by
  have c0:=ConnT.edge (YK he)
  have c1:=h.conn e.1 h1
  have c2:=h.conn e.2.1 h2
  rw [ea] at c1
  rw [eb] at c2
  exact c1.symm.trans (c0.trans c2)
 have cmm:ConnT l (max a b) (min a b):=by
  rcases Nat.le_total a b with k | k
  ·rw [Nat.max_eq_right k,Nat.min_eq_left k];exact cab.symm
  ·rw [Nat.max_eq_left k,Nat.min_eq_right k];exact cab
 refine⟨by rw [List.length_set];exact h.len,fun u hu=>?_,fun u hu=>?_,fun u hu he'=>?_,fun u hu=>?_,fun u hu=>?_,fun i hi e' he'=>?_⟩
 ·rw [QbW hl];split
  ·omega
  ·exact h.le u hu
 ·rw [QbW hl]
  show (if R (if u=max a b then min a b else pf P u)=max a b then min a b else R (if u=max a b then min a b else pf P u))=if R u=max a b then min a b else R u
  by_cases eu:u=max a b
  ·rw [if_pos eu,rmn,eu,rmx,if_pos rfl]
   by_cases k:min a b=max a b
   ·rw [if_pos k]
   ·rw [if_neg k]
  ·rw [if_neg eu,h.par u hu]
 ·show (if R u=max a b then min a b else R u)=u
  rw [QbW hl] at he'
  by_cases eu:u=max a b
  ·rw [if_pos eu] at he'
   rw [eu,rmx,if_pos rfl,he',eu]
  ·rw [if_neg eu] at he'
   have:=h.root u hu he'
   rw [this,if_neg eu]
 ·show (if R u=max a b then min a b else R u)≤u
  have:=h.low u hu
  split <;> omega
 ·show ConnT l u (if R u=max a b then min a b else R u)
  split
  ·next k=>have:=h.conn u hu;rw [k] at this;exact this.trans cmm
  ·exact h.conn u hu
 ·show (if R e'.1=max a b then min a b else R e'.1)=if R e'.2.1=max a b then min a b else R e'.2.1
  by_cases ik:i=k
  ·subst ik
   rw [he] at he'
   cases he'
   rw [ea,eb]
   rcases Nat.le_total a b with k | k
   ·rw [Nat.max_eq_right k,Nat.min_eq_left k,if_pos rfl];split <;> omega
   ·rw [Nat.max_eq_left k,Nat.min_eq_right k,if_pos rfl];split <;> omega
  ·rw [h.done i (by omega) e' he']
theorem UF.all {l:List Eg}{N:Nat}{P:List Nat}{R:Nat→Nat}(h:UF l N l.length P R):∀ e∈l,R e.1=R e.2.1:=fun e he=>by
 obtain⟨i,hi,rfl⟩:=List.getElem_of_mem he
 exact h.done i hi _ (YB hi)
theorem UF.iff {l:List Eg}{N:Nat}{P:List Nat}{R:Nat→Nat}(h:UF l N l.length P R){u v:Nat}(hu:u<N)(hv:v<N):R u=R v↔ConnT l u v:=by
 constructor
 ·intro e
  have h1:=h.conn u hu
  rw [e] at h1
  exact h1.trans (h.conn v hv).symm
 ·rintro⟨L,c,h'⟩
  exact (Qdy h.all h').symm
theorem UF.twice {l:List Eg}{N:Nat}{P:List Nat}{R:Nat→Nat}(h:UF l N l.length P R){v:Nat}(hv:v<N):R (R v)=R v:=by
 obtain⟨L,c,h'⟩:=h.conn v hv
 exact Qdy h.all h'
theorem UF.flat {l:List Eg}{N:Nat}{P:List Nat}{R:Nat→Nat}(h:UF l N l.length P R){v:Nat}(hv:v<N):UF l N l.length (P.set v (R v)) R:=by
 have hl:v<P.length:=by rw [h.len];exact hv
 refine⟨by rw [List.length_set];exact h.len,fun u hu=>?_,fun u hu=>?_,fun u hu he=>?_,h.low,h.conn,h.done⟩
 ·rw [QbW hl];split
  ·next e=>subst e;exact h.low u hv
  ·exact h.le u hu
 ·rw [QbW hl];split
  ·next e=>subst e;exact h.twice hv
  ·exact h.par u hu
 ·rw [QbW hl] at he
  split at he
  ·next e=>subst e;exact he
  ·exact h.root u hu he
structure LeadP (l:List Eg)(N:Nat)(R:Nat→Nat):Prop where
 low:∀ v,v<N→R v≤v
 all:∀ e∈l,R e.1=R e.2.1
 iff:∀ u v,u<N→v<N→(R u=R v↔ConnT l u v)
theorem UF.lead {l:List Eg}{N:Nat}{P:List Nat}{R:Nat→Nat}(h:UF l N l.length P R):LeadP l N R:=⟨h.low,h.all,fun _ _ hu hv=>h.iff hu hv⟩
end Go.Proofs.YtalflecmadacaaaGreat
