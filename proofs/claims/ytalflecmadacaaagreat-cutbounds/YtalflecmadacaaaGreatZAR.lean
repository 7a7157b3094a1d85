import Derived.Test.YtalflecmadacaaaGreatZAQ
import Derived.Deep.AppendLies
import Derived.OwnWalk
import Derived.Maps.AppendAt
import Derived.Test.YtalflecmadacaaaGreatZAP
import Derived.Test.YtalflecmadacaaaGreatZAG
set_option maxRecDepth 100000
set_option maxHeartbeats 8000000
namespace Go.Proofs.YtalflecmadacaaaGreat
open Go Go.Proofs
def joinL (x y:Int)(O:List Int):List Int:=O.map fun t=>if t=y then x else t
theorem Qbi (x y:Int)(O:List Int):(joinL x y O).length=O.length:=by simp [joinL]
theorem Qoa {x y:Int}{O:List Int}{t:Nat}(h:t<O.length):(joinL x y O).getD t 0=if O.getD t 0=y then x else O.getD t 0:=by
 unfold joinL
 rw [YC,YH,YC,YB h]
 rfl
def condB (es:List Ed)(lab:List Int)(v:Int)(i k:Nat):Bool:=atE (es.getD i (0,0,0)) v && atE (es.getD k (0,0,0)) v && (lab.getD (QaZ (es.getD i (0,0,0)) v).toNat 0==lab.getD (QaZ (es.getD k (0,0,0)) v).toNat 0)
def stepB (es:List Ed)(lab:List Int)(v:Int)(i k:Nat)(O:List Int):List Int:=
 if condB es lab v i k=true∧O.getD i 0≠O.getD k 0 then joinL (min (O.getD i 0) (O.getD k 0)) (max (O.getD i 0) (O.getD k 0)) O else O
def rowB (es:List Ed)(lab:List Int)(v:Int)(i:Nat)(O:List Int):Nat→List Int
 | 0=>O
 | k+1=>stepB es lab v i k (rowB es lab v i O k)
def vertB (es:List Ed)(lab:List Int)(v:Int)(O:List Int):Nat→List Int
 | 0=>O
 | i+1=>rowB es lab v i (vertB es lab v O i) i
def ofAt (N:Nat)(es:List Ed):Nat→List Int
 | 0=>idL es.length
 | v+1=>vertB es (labAt N (cutG N es v) N) (v:Int) (ofAt N es v) es.length
structure JoinI (M:Nat)(B O:List Int):Prop where
 len:O.length=M
 least:Least O
 sound:∀ s t,s<M→t<M→O.getD s 0=O.getD t 0→B.getD s 0=B.getD t 0
def Coarse (M:Nat)(O O':List Int):Prop:=∀ s t,s<M→t<M→O.getD s 0=O.getD t 0→O'.getD s 0=O'.getD t 0
theorem Coarse.refl (M:Nat)(O:List Int):Coarse M O O:=fun _ _ _ _ h=>h
theorem Coarse.trans {M:Nat}{a b c:List Int}(h:Coarse M a b)(h':Coarse M b c):Coarse M a c:=fun s t hs ht e=>h' s t hs ht (h s t hs ht e)
section
variable {es:List Ed} {lab B:List Int} {v:Int} {M:Nat}
theorem Qk2 {O:List Int}{i k:Nat}(h:JoinI M B O)(hi:i<M)(hk:k<M)(hB:condB es lab v i k=true→B.getD i 0=B.getD k 0):
  JoinI M B (stepB es lab v i k O)∧Coarse M O (stepB es lab v i k O)∧(condB es lab v i k=true→(stepB es lab v i k O).getD i 0=(stepB es lab v i k O).getD k 0):=by
 unfold stepB
 by_cases hc:condB es lab v i k=true∧O.getD i 0≠O.getD k 0
 ·rw [if_pos hc]
  have hBe:=hB hc.1
  have hat:∀ t,t<M→(joinL (min (O.getD i 0) (O.getD k 0)) (max (O.getD i 0) (O.getD k 0)) O).getD t 0=if O.getD t 0=max (O.getD i 0) (O.getD k 0) then min (O.getD i 0) (O.getD k 0) else O.getD t 0:=fun t ht=>Qoa (by rw [h.len];exact ht)
  obtain⟨xi,ei,li,ri⟩:=h.least i (by rw [h.len];exact hi)
  obtain⟨xk,ek,lk,rk⟩:=h.least k (by rw [h.len];exact hk)
  have hne:=hc.2
  have coarse:Coarse M O (joinL (min (O.getD i 0) (O.getD k 0)) (max (O.getD i 0) (O.getD k 0)) O):=fun s t hs ht e=>by rw [hat s hs,hat t ht,e]
  refine⟨⟨by rw [Qbi];exact h.len,fun t ht=>?_,fun s t hs ht e=>?_⟩,coarse,fun _=>?_⟩
  ·rw [Qbi,h.len] at ht
   obtain⟨r,er,lr,rr⟩:=h.least t (by rw [h.len];exact ht)
   by_cases e:O.getD t 0=max (O.getD i 0) (O.getD k 0)
   ·rw [hat t ht,if_pos e]
    by_cases hlt:xi<xk
    ·refine⟨xi,by omega,by omega,?_⟩
     rw [hat xi (by omega),if_neg (by omega),ri]
    ·refine⟨xk,by omega,by omega,?_⟩
     rw [hat xk (by omega),if_neg (by omega),rk]
   ·rw [hat t ht,if_neg e]
    refine⟨r,er,lr,?_⟩
    rw [hat r (by omega),if_neg (by omega),rr]
  ·rw [hat s hs,hat t ht] at e
   have cls:∀ t,t<M→O.getD t 0=max (O.getD i 0) (O.getD k 0)∨O.getD t 0=min (O.getD i 0) (O.getD k 0)→B.getD t 0=B.getD i 0:=fun t ht h1=>by
    have h2:O.getD t 0=O.getD i 0∨O.getD t 0=O.getD k 0:=by omega
    rcases h2 with h2 | h2
    ·exact h.sound t i ht hi h2
    ·rw [h.sound t k ht hk h2,hBe]
   by_cases e1:O.getD s 0=max (O.getD i 0) (O.getD k 0)
   ·by_cases e2:O.getD t 0=max (O.getD i 0) (O.getD k 0)
    ·exact h.sound s t hs ht (e1.trans e2.symm)
    ·rw [if_pos e1,if_neg e2] at e
     rw [cls s hs (.inl e1),cls t ht (.inr e.symm)]
   ·by_cases e2:O.getD t 0=max (O.getD i 0) (O.getD k 0)
    ·rw [if_neg e1,if_pos e2] at e
     rw [cls s hs (.inr e),cls t ht (.inl e2)]
    ·rw [if_neg e1,if_neg e2] at e
     exact h.sound s t hs ht e
  ·rw [hat i hi,hat k hk]
   by_cases e1:O.getD i 0=max (O.getD i 0) (O.getD k 0)
   ·rw [if_pos e1,if_neg (by omega)]
    omega
   ·rw [if_neg e1,if_pos (by omega)]
    omega
 ·rw [if_neg hc]
  refine⟨h,.refl _ _,fun h1=>?_⟩
  apply Classical.byContradiction
  intro h2
  exact hc ⟨h1,h2⟩
theorem QiN {O:List Int}{i:Nat}(h:JoinI M B O)(hi:i<M)(hB:∀ k,k<M→condB es lab v i k=true→B.getD i 0=B.getD k 0):∀ {j:Nat},j≤i →
  JoinI M B (rowB es lab v i O j)∧Coarse M O (rowB es lab v i O j)∧∀ k,k<j→condB es lab v i k=true→(rowB es lab v i O j).getD i 0=(rowB es lab v i O j).getD k 0
 | 0,_=>⟨h,.refl _ _,fun k hk=>by omega⟩
 | j+1,hj=>by
  obtain⟨h1,h2,h3⟩:=QiN h hi hB (j:=j) (by omega)
  obtain⟨g1,g2,g3⟩:=Qk2 (es:=es) (lab:=lab) (v:=v) h1 hi (k:=j) (by omega) (hB j (by omega))
  refine⟨g1,h2.trans g2,fun k hk hc=>?_⟩
  by_cases e:k=j
  ·subst e
   exact g3 hc
  ·exact g2 i k hi (by omega) (h3 k (by omega) hc)
theorem Qgs {O:List Int}(h:JoinI M B O)(hB:∀ i k,i<M→k<M→condB es lab v i k=true→B.getD i 0=B.getD k 0):∀ {j:Nat},j≤M →
  JoinI M B (vertB es lab v O j)∧Coarse M O (vertB es lab v O j)∧∀ i k,i<j→k<i→condB es lab v i k=true→(vertB es lab v O j).getD i 0=(vertB es lab v O j).getD k 0
 | 0,_=>⟨h,.refl _ _,fun i k hi=>by omega⟩
 | j+1,hj=>by
  obtain⟨h1,h2,h3⟩:=Qgs h hB (j:=j) (by omega)
  obtain⟨g1,g2,g3⟩:=QiN (es:=es) (lab:=lab) (v:=v) h1 (i:=j) (by omega) (fun k hk=>hB j k (by omega) hk) (j:=j) YA
  refine⟨g1,h2.trans g2,fun i k hi hk hc=>?_⟩
  by_cases e:i=j
  ·subst e
   exact g3 k hk hc
  ·exact g2 i k (by omega) (by omega) (h3 i k (by omega) hk hc)
end
theorem Qd6 {N:Nat}{l:List Ed}(hR:RightG (N:Int) l){v i k:Nat}(hi:i<l.length)(hk:k<l.length):condB l (labAt N (cutG N l v) N) (v:Int) i k=true↔∃ a b,Joins l i v a∧Joins l k v b∧Conn (cutG N l v) a b:=by
 have hE:Ends N (cutG N l v):=Qaw (Qfr hR _)
 have get:∀ {j:Nat},(hj:j<l.length)→l.getD j (0,0,0)=l[j]:=fun hj=>by rw [YC,YB hj];rfl
 have one:∀ {j:Nat},(hj:j<l.length)→(atE l[j] (v:Int)=true→Joins l j v (QaZ l[j] (v:Int)).toNat)∧∀ a,Joins l j v a→atE l[j] (v:Int)=true∧(QaZ l[j] (v:Int)).toNat=a:=fun {j} hj=>by
  have hok:=hR.each _ (YG hj)
  have hlt:=hok.2
  have hok:=hok.1
  unfold okE at hok
  unfold atE QaZ
  constructor
  ·intro h
   refine⟨l[j],YB hj,?_⟩
   rw [Bool.or_eq_true,beq_iff_eq,beq_iff_eq] at h
   split <;> omega
  ·rintro a ⟨e,h1,h2⟩
   rw [YB hj] at h1
   cases h1
   rw [Bool.or_eq_true,beq_iff_eq,beq_iff_eq]
   split <;> omega
 unfold condB
 rw [get hi,get hk,Bool.and_eq_true,Bool.and_eq_true,beq_iff_eq]
 constructor
 ·rintro⟨⟨h1,h2⟩,h3⟩
  have j1:=(one hi).1 h1
  have j2:=(one hk).1 h2
  exact⟨_,_,j1,j2,(Qd0 hE (j1.below hR).2 (j2.below hR).2).1 h3⟩
 ·rintro⟨a,b,j1,j2,hc⟩
  obtain⟨a1,a2⟩:=(one hi).2 a j1
  obtain⟨b1,b2⟩:=(one hk).2 b j2
  rw [a2,b2]
  exact⟨⟨a1,b1⟩,(Qd0 hE (j1.below hR).2 (j2.below hR).2).2 hc⟩
theorem Qjd {M t:Nat}(h:t<M):(idL M).getD t 0=(t:Int):=by simp [idL,h]
theorem Qig (M:Nat):(idL M).length=M:=by simp [idL]
theorem Qh0 {N:Nat}{l:List Ed}(hR:RightG (N:Int) l):∀ {j:Nat},j≤N →
  JoinI l.length (walkW N l).block (ofAt N l j)∧∀ v i k,v<j→i<l.length→k<i→condB l (labAt N (cutG N l v) N) (v:Int) i k=true→(ofAt N l j).getD i 0=(ofAt N l j).getD k 0
 | 0,_=>by
  refine⟨⟨Qig _,fun t ht=>?_,fun s t hs ht e=>?_⟩,fun v i k hv=>by omega⟩
  ·have ht':t<l.length:=by
    have e:(ofAt N l 0).length=l.length:=Qig _
    omega
   exact⟨t,Qjd ht',YA,Qjd ht'⟩
  ·have e1:(idL l.length).getD s 0=(idL l.length).getD t 0:=e
   rw [Qjd hs,Qjd ht] at e1
   have:s=t:=by omega
   rw [this]
 | j+1,hj=>by
  obtain⟨h1,h2⟩:=Qh0 hR (j:=j) (by omega)
  obtain⟨g1,g2,g3⟩:=Qgs (es:=l) (lab:=labAt N (cutG N l j) N) (v:=(j:Int)) h1 (fun i k hi hk hc=>by
   obtain⟨a,b,j1,j2,hcn⟩:=(Qd6 hR hi hk).1 hc
   exact ((Qdh hR).at hR (Qdg hR) (Qcp hR j) j1 j2).2 hcn) (j:=l.length) YA
  refine⟨g1,fun v i k hv hi hk hc=>?_⟩
  by_cases e:v=j
  ·subst e
   exact g3 i k hi hk hc
  ·exact g2 i k hi (by omega) (h2 v i k (by omega) hi hk hc)
theorem Qpf {N:Nat}{l:List Ed}(hR:RightG (N:Int) l){s t:Nat}(hs:s<l.length)(ht:t<l.length):(walkW N l).block.getD s 0=(walkW N l).block.getD t 0↔(ofAt N l N).getD s 0=(ofAt N l N).getD t 0:=by
 obtain⟨h1,h2⟩:=Qh0 hR (j:=N) YA
 refine⟨fun e=>?_,h1.sound s t hs ht⟩
 refine (Qdh hR).parts hR (Qdg hR) (fun v _=>Qcp hR v) (G:=fun k=>(ofAt N l N).getD k 0) (fun k k' hL=>?_) hs ht e
 obtain⟨v,a,b,j1,j2,hc⟩:=hL
 have hv:=(j1.below hR).1
 rcases Nat.lt_trichotomy k k' with hlt | rfl | hgt
 ·exact (h2 v k' k hv j2.lt hlt ((Qd6 hR j2.lt j1.lt).2 ⟨b,a,j2,j1,hc.symm⟩)).symm
 ·rfl
 ·exact h2 v k k' hv j1.lt hgt ((Qd6 hR j1.lt j2.lt).2 ⟨a,b,j1,j2,hc⟩)
theorem Qfw {B O:List Int}:∀ {i:Nat},(∀ s t,s<i→t<i→(B.getD s 0=B.getD t 0↔O.getD s 0=O.getD t 0))→(gath B i).2=(gath O i).2∧∃ rs:List Nat,(∀ r∈rs,r<i)∧(gath B i).1=rs.map (B.getD · 0)∧(gath O i).1=rs.map (O.getD · 0)
 | 0,_=>⟨rfl,[],by simp,rfl,rfl⟩
 | i+1,h=>by
  obtain⟨h1,rs,h2,h3,h4⟩:=Qfw (i:=i) (fun s t hs ht=>h s t (by omega) (by omega))
  have hm:B.getD i 0∈(gath B i).1↔O.getD i 0∈(gath O i).1:=by
   rw [h3,h4,List.mem_map,List.mem_map]
   constructor
   ·rintro⟨r,hr,e⟩
    exact⟨r,hr,(h r i (by have:=h2 r hr;omega) (by omega)).1 e⟩
   ·rintro⟨r,hr,e⟩
    exact⟨r,hr,(h r i (by have:=h2 r hr;omega) (by omega)).2 e⟩
  have hidx:(gath B i).1.idxOf (B.getD i 0)=(gath O i).1.idxOf (O.getD i 0):=by
   rw [h3,h4]
   clear h3 h4 h1 hm
   induction rs with
   | nil=>rfl
   | cons r rs ih=>
    have hr:=h2 r (List.mem_cons_self ..)
    have hd:=h r i (by omega) (by omega)
    rw [List.map_cons,List.map_cons,List.idxOf_cons,List.idxOf_cons,ih (fun r hr=>h2 r (List.mem_cons_of_mem _ hr))]
    by_cases e:B.getD r 0=B.getD i 0
    ·rw [beq_iff_eq.2 e,beq_iff_eq.2 (hd.1 e)]
    ·have e':¬ O.getD r 0=O.getD i 0:=fun x=>e (hd.2 x)
     rw [beq_eq_false_iff_ne.2 e,beq_eq_false_iff_ne.2 e']
  by_cases hb:B.getD i 0∈(gath B i).1
  ·rw [Qa5 hb,Qa5 (hm.1 hb),h1,hidx]
   exact⟨rfl,rs,fun r hr=>by have:=h2 r hr;omega,h3,h4⟩
  ·rw [Qa6 hb,Qa6 (fun e=>hb (hm.2 e)),h1]
   refine⟨rfl,rs++[i],fun r hr=>?_,?_,?_⟩
   ·rcases YJ hr with h5 | h5
    ·have:=h2 r h5
     omega
    ·have:=YF h5
     omega
   ·show (gath B i).1++[B.getD i 0]=_
    rw [h3,List.map_append]
    rfl
   ·show (gath O i).1++[O.getD i 0]=_
    rw [h4,List.map_append]
    rfl
theorem Qhz {N:Nat}{l:List Ed}(hR:RightG (N:Int) l):(gath (walkW N l).block (walkW N l).block.length).2=rcAt (ofAt N l N) l.length l.length:=by
 have hlen:(walkW N l).block.length=l.length:=(Qcd hR).lenK
 obtain⟨h1,_⟩:=Qh0 hR (j:=N) YA
 have h2:=Qmw h1.least
 rw [h1.len] at h2
 rw [hlen,← h2]
 exact (Qfw fun s t hs ht=>Qpf hR hs ht).1
open Go Go.Proofs Go.RowKit
theorem infoE:(Tryz.prog.info? 50).map (fun i=>(i.zero,i.size,i.bytes))=some (some (.agg #[.int .i64 0,.int .i64 0,.int .i64 0]),3,24):=by kernel_rfl
theorem QaU {w w':World}{base:Nat}{e:TypeId}{size:Nat}{v:Value}{n:Nat}{xs:List Value}(h:w.ownsRow base e size v n xs)(hb:Below w.heap.size w w'):w'.ownsRow base e size v n xs:=by
 refine h.kept (row:=none) (⟨hb.os,hb.tape,hb.output,hb.size,fun k hk _=>hb.block k hk⟩:w.grownBy w' none) ?_
 cases v.ownBlock with
 | none=>exact .inl rfl
 | some k=>exact .inr (by simp)
theorem Edges.of_owns {W:World}{base:Nat}{e:TypeId}{v:Value}{l:List Ed}(h:W.ownsRow base e 3 v l.length (flat l)):Edges W.heap.size W v l:=by
 rcases h.2 with ⟨rfl,h0⟩ | ⟨g,cap,cur,rfl,hb,hg,hn,hc⟩
 ·exact .inl ⟨⟨_,_,rfl⟩,List.eq_nil_of_length_eq_zero h0⟩
 ·refine .inr ⟨g,0,cap,rfl,(Array.getElem?_eq_some_iff.1 hg).1,hn,fun j x hx=>?_⟩
  obtain⟨k0,k1,k2⟩:=Qdt hx
  have c0:=h.cells (g:=g) rfl (j*3) _ k0
  have c1:=h.cells (g:=g) rfl (j*3+1) _ k1
  have c2:=h.cells (g:=g) rfl (j*3+2) _ k2
  rw [Go.WideShapes.add_plain] at c0 c1 c2
  exact⟨c0,c1,c2⟩
def Above (n:Nat)(sv:Value):Prop:=∀ a len c,sv = .slice (some a) len c→0<len→n≤a.block
theorem Above.of_owns {W:World}{base:Nat}{e:TypeId}{size:Nat}{v:Value}{n:Nat}{xs:List Value}(h:W.ownsRow base e size v n xs):Above base v:=by
 intro a len c hv _
 rcases h.2 with ⟨h1,_⟩ | ⟨g,cap,cur,h1,hb,_⟩
 ·rw [h1] at hv;cases hv
 ·rw [h1] at hv
  simp only [Value.slice.injEq,Option.some.injEq] at hv
  rw [← hv.1];exact hb
theorem Edges.setLow {W:World}{n:Nat}{sv:Value}{l:List Ed}(h:Edges W.heap.size W sv l)(ha:Above n sv){p:Addr}(hp:p.block<n)(v:Value):Edges (W.setCell p v).heap.size (W.setCell p v) sv l:=by
 rcases h with h | ⟨b,off,cap,h1,h2,h3,h4⟩
 ·exact .inl h
 ·refine .inr ⟨b,off,cap,h1,by simpa using h2,h3,fun j x hx=>?_⟩
  have hj:=(YE hx).1
  have hb:=ha _ _ _ h1 (by omega)
  simp only at hb
  obtain⟨k0,k1,k2⟩:=h4 j x hx
  have hne:∀ o,p≠⟨b,o,none⟩:=fun o e=>by rw [e] at hp;simp at hp;omega
  exact⟨(World.cell?_setCell_other _ _ _ _ (hne _)).trans k0,(World.cell?_setCell_other _ _ _ _ (hne _)).trans k1,(World.cell?_setCell_other _ _ _ _ (hne _)).trans k2⟩
theorem news3 {w:World}{t:TypeId}(e:Ed):∀ (i:Nat) (u:Value),(encE e)[i]? = some u→(w.alloc (.cells #[.int .i64 e.1,.int .i64 e.2.1,.int .i64 e.2.2] t)).cell? ((⟨w.heap.size,0,none⟩:Addr).add i)=some u:=by
 intro i u hu
 rw [Go.WideShapes.add_plain,Nat.zero_add]
 match i with
 | 0=>simp [encE] at hu;subst hu;simp
 | 1=>simp [encE] at hu;subst hu;simp
 | 2=>simp [encE] at hu;subst hu;simp
 | i+3=>simp [encE] at hu
theorem one3 (e:Ed):∀ u∈encE e,u.oneCell'=true:=by
 intro u hu
 simp [encE] at hu
 rcases hu with rfl | rfl | rfl <;> rfl
theorem Qhb (l:List Ed)(e:Ed):flat (l++[e])=flat l++encE e:=by simp [flat]
theorem QlA (w:World)(base:Nat)(e:TypeId):w.ownsRow base e 3 (.slice none 0 0) 0 (flat []):=World.ownsRow_nil w base e 3
theorem QjN {fn:Func}{p:Tmp}(h:fn.results = #[.cell p 24]){tmps:Array Value}{w:World}{b:Nat}{x y:Value}(hp:tmps.getD p undef = .pointer (some ⟨b,0,none⟩))(h0:w.cell? ⟨b,0,none⟩=some x)(h1:w.cell? ⟨b,1,none⟩=some y):
  (results fn tmps).run Tryz.prog w = .ok (.agg #[x,y]) w:=by
 have a1:=Tryz.isAgg24
 have a2:=Tryz.sizeOf24
 rw [Array.getD_eq_getD_getElem?] at hp
 simp only [results,h]
 simp [Sem.run_bind,Result.andThen,hp]
 go_simp
theorem QcV {W:World}{base:Nat}{e:TypeId}{size:Nat}{v:Value}{n:Nat}{xs:List Value}(h:W.ownsRow base e size v n xs):∃ p c,v = .slice p n c:=by
 rcases h.2 with ⟨rfl,rfl⟩ | ⟨g,cap,cur,rfl,_⟩ <;> exact⟨_,_,rfl⟩
theorem Blk.grown {t:TypeId}{A B:World}{g:Nat}{vs:List Value}{row:Option Nat}(h:Blk t A g vs)(hg:A.grownBy B row)(hne:some g≠row):Blk t B g vs:=(hg.block g h.lt hne).trans h
theorem QfS {W:World}{base:Nat}{e:TypeId}{size:Nat}{v:Value}{n:Nat}{xs:List Value}(h:W.ownsRow base e size v n xs){p:Addr}(hp:p.block<base)(u:Value):(W.setCell p u).ownsRow base e size v n xs:=by
 obtain⟨h1,h2⟩:=h
 refine⟨h1,?_⟩
 rcases h2 with h2 | ⟨g,cap,cur,hv,hb,hg,r⟩
 ·exact .inl h2
 ·exact .inr ⟨g,cap,cur,hv,hb,(Below.heap_setCell _ _ _ _ (by omega)).trans hg,r⟩
theorem Qfq {kp:List Bool}{v:Int}(hv:0≤v):((kp.length:Int)≤v∧keptB kp v=false)∨∃ (x:Nat) (hx:x<kp.length),v=(x:Int)∧keptB kp v=kp[x]:=by
 by_cases h:v<(kp.length:Int)
 ·right
  refine⟨v.toNat,by omega,by omega,?_⟩
  have h2:v.toNat<kp.length:=by omega
  simp [keptB,h,h2]
 ·left
  have hd:decide (v<(kp.length:Int))=false:=by simpa using h
  exact⟨by omega,by unfold keptB;rw [hd];rfl⟩
theorem QjQ (n:Int)(l:List Ed)(hR:RightG n l)(kp:List Bool)(sv sk:Value)(w:World)(hl:Edges w.heap.size w sv l)(hK:Bools w.heap.size w sk kp):
  Calls Tryz.prog 75 #[.agg #[.int .i64 n,sv],sk] w fun r w'=>∃ gv,r = .returned (.agg #[.int .i64 n,gv])∧Edges w'.heap.size w' gv (keepL l (onlyP l kp) l.length)∧Above w.heap.size gv∧Below w.heap.size w w':=by
 obtain⟨p,c,rfl⟩:=hl.len
 obtain⟨pk,ck,rfl⟩:=hK.len
 obtain⟨i0,hi,hz0,hz1,hz2⟩:=info_parts infoE
 have hm1:=hR.m1
 have hg1:Grew w (((w.alloc (.cells #[.int .i64 n,.slice p l.length c] 24)).alloc (.cells #[.int .i64 0,.slice none 0 0] 24)).alloc (.cells #[.int .i64 n,.slice none 0 0] 24)):=(((Grew.refl w).alloc _).alloc _).alloc _
 have hB0:Blk 24 (((w.alloc (.cells #[.int .i64 n,.slice p l.length c] 24)).alloc (.cells #[.int .i64 0,.slice none 0 0] 24)).alloc (.cells #[.int .i64 n,.slice none 0 0] 24)) w.heap.size [.int .i64 n,.slice p l.length c]:=by
  have h1:Blk 24 (w.alloc (.cells #[.int .i64 n,.slice p l.length c] 24)) w.heap.size [.int .i64 n,.slice p l.length c]:=heap_alloc_new w _
  exact h1.go ((((Grew.refl _).alloc _).alloc _).below)
 have hB1:Blk 24 (((w.alloc (.cells #[.int .i64 n,.slice p l.length c] 24)).alloc (.cells #[.int .i64 0,.slice none 0 0] 24)).alloc (.cells #[.int .i64 n,.slice none 0 0] 24)) (w.heap.size+1) [.int .i64 0,.slice none 0 0]:=by
  have h1:Blk 24 ((w.alloc (.cells #[.int .i64 n,.slice p l.length c] 24)).alloc (.cells #[.int .i64 0,.slice none 0 0] 24)) (w.heap.size+1) [.int .i64 0,.slice none 0 0]:=by
   have:=heap_alloc_new (w.alloc (.cells #[.int .i64 n,.slice p l.length c] 24)) (.cells #[.int .i64 0,.slice none 0 0] 24)
   simpa [Blk] using this
  exact h1.go (((Grew.refl _).alloc _).below)
 have hB2:Blk 24 (((w.alloc (.cells #[.int .i64 n,.slice p l.length c] 24)).alloc (.cells #[.int .i64 0,.slice none 0 0] 24)).alloc (.cells #[.int .i64 n,.slice none 0 0] 24)) (w.heap.size+1+1) [.int .i64 n,.slice none 0 0]:=by
  have:=heap_alloc_new ((w.alloc (.cells #[.int .i64 n,.slice p l.length c] 24)).alloc (.cells #[.int .i64 0,.slice none 0 0] 24)) (.cells #[.int .i64 n,.slice none 0 0] 24)
  simpa [Blk] using this
 go_enter Tryz.func75,Tryz.ntmps75
 go_wp2
 have hsz:=hB2.lt
 generalize ((w.alloc (.cells #[.int .i64 n,.slice p l.length c] 24)).alloc (.cells #[.int .i64 0,.slice none 0 0] 24)).alloc (.cells #[.int .i64 n,.slice none 0 0] 24)=w1 at hg1 hB0 hB1 hB2 hsz ⊢
 go_loopw [6] (fun i wr=>∃ (j:Nat) (s:Value),j≤l.length∧i = .int .i64 j∧Blk 24 wr (w.heap.size+1+1) [.int .i64 n,s]∧wr.ownsRow (w.heap.size+3) 50 3 s (keepL l (onlyP l kp) j).length (flat (keepL l (onlyP l kp) j))∧Below (w.heap.size+2) w1 wr) (fun i _=>l.length-(intOf i).toNat)
 case atStart=>exact⟨0,_,YN,rfl,hB2,QlA _ _ _,YD⟩
 case round=>
  obtain⟨j,s,hj,rfl,hO,hown,hb⟩:=hrel
  have hbwr:Below w.heap.size w wr:=hg1.below.trans (hb.mono (by omega))
  have hE0:=hB0.below hb (by omega)
  have hE1:=hB1.below hb (by omega)
  have hOl:=hO.lt
  have d1:=hE0.cell (j:=1) rfl
  by_cases hlt:j<l.length
  ·obtain⟨b,off,rfl,hbb,hcap,hc,-⟩:=hl.open hlt
   obtain⟨c0,c1,c2⟩:=hc wr hbwr j hlt
   have hjl:(j:Int)<(l.length:Int):=by omega
   have hok:=(hR.each l[j] (YG hlt)).1
   have hu:0≤l[j].1:=hok.1
   have hv:0≤l[j].2.1:=hok.2.2.1
   have hpj:=QnH (kp:=kp) hlt
   have HP:Hid _:=hpj
   have HIN:onlyP l kp j=true→Hid (keepL l (onlyP l kp) (j+1)=keepL l (onlyP l kp) j++[l[j]]):=fun h=>Qi9 hlt h
   have HI:Hid _:=HIN
   clear hc hok hpj HIN
   generalize l[j]=e at c0 c1 c2 hu hv HP HI
   obtain⟨y1,y2,y3⟩:=e
   simp only at c0 c1 c2 hu hv HP
   have hO8:=hO.go ((Grew.refl wr).alloc (.cells #[.int .i64 y1,.int .i64 y2,.int .i64 y3] 50)).below
   have hown8:=hown.alloc (.cells #[.int .i64 y1,.int .i64 y2,.int .i64 y3] 50)
   have hb8:Below (w.heap.size+2) w1 (wr.alloc (.cells #[.int .i64 y1,.int .i64 y2,.int .i64 y3] 50)):=hb.alloc (by omega) _
   have hbk:∀ x (hx:x<kp.length),∃ bk offk,pk=some ⟨bk,offk,none⟩∧bk<w.heap.size∧kp.length≤ck∧∀ i (hi:i<kp.length),wr.cell? ⟨bk,offk+i,none⟩=some (.bool kp[i]):=fun x hx=>by
    obtain⟨bk,offk,h1,h2,h3,h4⟩:=hK.open hx
    exact⟨bk,offk,h1,h2,h3,fun i hi=>h4 wr hbwr i hi⟩
   rcases Qfq (kp:=kp) hu with ⟨hge,hf⟩ | ⟨x,hx,rfl,hkx⟩
   ·have hd:decide (y1<(kp.length:Int))=false:=by simpa using hge
    have HK:Hid _:=Qb7 (l:=l) (pred:=onlyP l kp) (j:=j) (by rw [HP.out];rw [hf];rfl)
    clear HP
    go_wp2
    exact⟨⟨j+1,s,by omega,by go_num,hO8,by rw [HK.out];exact hown8,hb8⟩,by simp [intOf];omega⟩
   ·obtain⟨bk,offk,rfl,hbkl,hckl,hcells⟩:=hbk x hx
    have e1:=hcells x hx
    have hbkr:bk<wr.heap.size:=by omega
    have hxl:(x:Int)<(kp.length:Int):=by omega
    cases hbx:kp[x] with
    | false=>
     rw [hbx] at e1 hkx
     clear hcells hbx hbk
     have HK:Hid _:=Qb7 (l:=l) (pred:=onlyP l kp) (j:=j) (by rw [HP.out];rw [hkx];rfl)
     clear HP
     go_wp2
     exact⟨⟨j+1,s,by omega,by go_num,hO8,by rw [HK.out];exact hown8,hb8⟩,by simp [intOf];omega⟩
    | true=>
     rw [hbx] at e1 hkx
     rcases Qfq (kp:=kp) hv with ⟨hge,hf⟩ | ⟨y,hy,rfl,hky⟩
     ·have hd:decide (y2<(kp.length:Int))=false:=by simpa using hge
      clear hcells hbx hbk
      have HK:Hid _:=Qb7 (l:=l) (pred:=onlyP l kp) (j:=j) (by rw [HP.out];rw [hf,Bool.and_false])
      clear HP
      go_wp2
      exact⟨⟨j+1,s,by omega,by go_num,hO8,by rw [HK.out];exact hown8,hb8⟩,by simp [intOf];omega⟩
     ·have e2:=hcells y hy
      have hyl:(y:Int)<(kp.length:Int):=by omega
      cases hby:kp[y] with
      | false=>
       rw [hby] at e2 hky
       clear hcells hbx hbk hby
       have HK:Hid _:=Qb7 (l:=l) (pred:=onlyP l kp) (j:=j) (by rw [HP.out];rw [hky,Bool.and_false])
       clear HP
       go_wp2
       exact⟨⟨j+1,s,by omega,by go_num,hO8,by rw [HK.out];exact hown8,hb8⟩,by simp [intOf];omega⟩
      | true=>
       rw [hby] at e2 hky
       have HK:Hid _:=HI.out (by rw [HP.out,hkx,hky];rfl)
       obtain⟨pp,cc,rfl⟩:∃ pp cc,s = .slice pp (keepL l (onlyP l kp) j).length cc:=(Edges.of_owns hown).len
       have k1:=hO8.cell (j:=1) rfl
       have f1:=hO8.frozen 1
       have hklen:=Qg2 l (onlyP l kp) j
       have hown9:=hown8.alloc (.cells #[.int .i64 (x:Int),.int .i64 (y:Int),.int .i64 y3] 50)
       have hmx:(keepL l (onlyP l kp) j).length+1≤maxLen:=by unfold maxLen;omega
       have hby24:((keepL l (onlyP l kp) j).length+1)*24≤140737488355328:=by omega
       have hbs:w.heap.size+3≤((wr.alloc (.cells #[.int .i64 (x:Int),.int .i64 (y:Int),.int .i64 y3] 50)).alloc (.cells #[.int .i64 (x:Int),.int .i64 (y:Int),.int .i64 y3] 50)).heap.size:=by simp;omega
       have hlow:∀ k,(Value.slice pp (keepL l (onlyP l kp) j).length cc).ownBlock=some k→w.heap.size+3≤k:=fun k e=>(hown8.lt k e).1
       have hn3:=news3 (w:=wr.alloc (.cells #[.int .i64 (x:Int),.int .i64 (y:Int),.int .i64 y3] 50)) (t:=50) ((x:Int),(y:Int),y3)
       have ho3:=one3 ((x:Int),(y:Int),y3)
       have hsz8:(wr.alloc (.cells #[.int .i64 (x:Int),.int .i64 (y:Int),.int .i64 y3] 50)).heap.size=wr.heap.size+1:=by simp
       rw [hsz8] at hn3
       have hO9:=hO8.go ((Grew.refl _).alloc (.cells #[.int .i64 (x:Int),.int .i64 (y:Int),.int .i64 y3] 50)).below
       have hne9:some (w.heap.size+1+1)≠(Value.slice pp (keepL l (onlyP l kp) j).length cc).ownBlock:=fun e=>by have:=hlow _ e.symm;omega
       clear hcells hbx hbk hby HP hsz8
       go_wp2_with (at_builtin;refine wpList_append_own_at _ rfl _ _ 22 rfl (w.heap.size+3) 50 i0 (.agg #[.int .i64 0,.int .i64 0,.int .i64 0]) 3 24 Tryz.underlying22 hi hz0 hz1 hz2 (by simp [Value.cells]) (by decide) (.slice pp (keepL l (onlyP l kp) j).length cc) _ _ rfl hown9 ⟨wr.heap.size+1,0,none⟩ 1 1 (encE ((x:Int),(y:Int),y3)) rfl rfl hn3 ho3 hmx hby24 hbs ?_;intro v6 w6 hown6 hgrow6 hnil6 hat6;obtain⟨p6,c6,rfl⟩:=QcV hown6;have hO6:=hO9.grown hgrow6 hne9;have k6:=hO6.cell (j:=1) rfl;have f6:=hO6.frozen 1)
       have hb6:Below (w.heap.size+2) w1 w6:=(hb8.alloc (by simp;omega) _).grown hgrow6 (by simp;omega) (fun k e=>by have:=hlow k e;omega)
       refine⟨⟨j+1,_,by omega,by go_num,hO6.set 1 _,?_,hb6.setCell (p:=⟨w.heap.size+1+1,1,none⟩) (by simp) _⟩,by simp [intOf];omega⟩
       rw [HK.out,Qhb,YI]
       exact QfS hown6 (by simp) _
  ·obtain rfl:j=l.length:=by omega
   have hEd:=Edges.of_owns hown
   have hAb:=Above.of_owns hown
   obtain⟨pp,cc,rfl⟩:=hEd.len
   have k0:=hO.cell (j:=0) rfl
   have k1:=hO.cell (j:=1) rfl
   have f0:=hE1.frozen 0
   have f1:=hE1.frozen 1
   have x0:=hE1.cell (j:=0) rfl
   have x1:=hE1.cell (j:=1) rfl
   go_wp2
   have hbf:=(hE1.set 0 (.int .i64 n)).set 1 (.slice pp (keepL l (onlyP l kp) l.length).length cc)
   (try simp only [Exit.inBlock,Exit.then])
   refine bodyPost_ret (QjN rfl (by rfl) (hbf.cell (j:=0) rfl) (hbf.cell (j:=1) rfl)) rfl ?_
   refine⟨.slice pp (keepL l (onlyP l kp) l.length).length cc,rfl,?_,fun a len c h1 h2=>Nat.le_trans (by omega) (hAb a len c h1 h2),(hbwr.setCell (p:=⟨w.heap.size+1,0,none⟩) (by simp) _).setCell (p:=⟨w.heap.size+1,1,none⟩) (by simp) _⟩
   exact (hEd.setLow hAb (by simp) _).setLow hAb (by simp) _
theorem QhS (n:Int)(l:List Ed)(hR:RightG n l)(kp:List Bool)(sv sk:Value)(w:World)(hl:Edges w.heap.size w sv l)(hK:Bools w.heap.size w sk kp):
  Calls Tryz.prog 75 #[.agg #[.int .i64 n,sv],sk] w fun r w'=>∃ gv,r = .returned (.agg #[.int .i64 n,gv])∧Edges w'.heap.size w' gv (keepL l (onlyP l kp) l.length)∧Below w.heap.size w w':=
 (QjQ n l hR kp sv sk w hl hK).mono fun _ _ ⟨gv,h1,h2,_,h3⟩=>⟨gv,h1,h2,h3⟩
end Go.Proofs.YtalflecmadacaaaGreat
