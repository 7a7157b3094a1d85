import Derived.Test.YtalflecmadacaaaGreatZAB
import Derived.Laws.StructEq
import Derived.Maps.OwnSet
import Derived.Test.YtalflecmadacaaaGreatZAA
import Derived.Test.YtalflecmadacaaaGreatZAP
import Derived.Test.YtalflecmadacaaaGreatZAR
set_option maxRecDepth 100000
set_option maxHeartbeats 8000000
namespace Go.Proofs.YtalflecmadacaaaGreat
open Go Go.Proofs
abbrev Dt:=Int × Int
def aft (L:List Int)(at_:Nat):Int:=if at_+1=L.length then L.getD 0 0 else L.getD (at_+1) 0
def nxD (r:List (List Int))(d:Dt):Dt:=(d.2,aft (r.getD d.2.toNat []) ((r.getD d.2.toNat []).idxOf d.1))
structure SysR (N:Nat)(l:List Ed)(r:List (List Int)):Prop where
 len:r.length=N
 perm:∀ v:Nat,v<N→(r.getD v []).Perm (nb l (v:Int))
def Qal (N:Nat)(l:List Ed):List Dt:=(List.range N).flatMap fun (u:Nat)=>(nb l (u:Int)).map fun v=>((u:Int),v)
theorem dartsL_mem {N:Nat}{l:List Ed}{d:Dt}:d∈Qal N l↔∃ u:Nat,u<N∧d.1=(u:Int)∧d.2∈nb l (u:Int):=by
 unfold Qal
 rw [List.mem_flatMap]
 constructor
 ·rintro⟨u,hu,h⟩
  obtain⟨v,hv,rfl⟩:=List.mem_map.1 h
  exact⟨u,List.mem_range.1 hu,rfl,hv⟩
 ·rintro⟨u,hu,h1,h2⟩
  exact⟨u,List.mem_range.2 hu,List.mem_map.2 ⟨d.2,h2,by rw [← h1]⟩⟩
section
variable {N:Nat} {l:List Ed} {r:List (List Int)}
theorem SysR.nodup (hS:SysR N l r)(hR:RightG (N:Int) l){v:Nat}(hv:v<N):(r.getD v []).Nodup:=(hS.perm v hv).nodup_iff.2 ((Qh4 hR (v:Int)).imp fun {a b} (h:a<b)=>(show a≠b by omega))
theorem QpD {L:List Int}{k:Nat}(h:k<L.length):aft L k∈L:=by
 unfold aft
 split
 ·rw [YC,YB (by omega)]
  exact YG _
 ·rw [YC,YB (by omega)]
  exact YG _
theorem QpE {L:List Int}(hn:L.Nodup){j k:Nat}(hj:j<L.length)(hk:k<L.length)(h:aft L j=aft L k):j=k:=by
 have get:∀ {i:Nat} (hi:i<L.length),L.getD i 0=L[i]:=fun hi=>by rw [YC,YB hi];rfl
 have inj:∀ {a b:Nat},a<L.length→b<L.length→L.getD a 0=L.getD b 0→a=b:=fun {a b} ha hb e=>by
  rw [get ha,get hb] at e
  exact (List.getElem_inj hn).1 e
 unfold aft at h
 by_cases h1:j+1=L.length
 ·by_cases h2:k+1=L.length
  ·omega
  ·rw [if_pos h1,if_neg h2] at h
   have:=inj (by omega) (by omega) h
   omega
 ·by_cases h2:k+1=L.length
  ·rw [if_neg h1,if_pos h2] at h
   have:=inj (by omega) (by omega) h
   omega
  ·rw [if_neg h1,if_neg h2] at h
   have:=inj (by omega) (by omega) h
   omega
theorem QeZ (hR:RightG (N:Int) l){d:Dt}(h:d∈Qal N l):∃ u v:Nat,d=((u:Int),(v:Int))∧u<N∧v<N∧(u:Int)∈nb l (v:Int)∧(v:Int)∈nb l (u:Int):=by
 obtain⟨u,hu,h1,h2⟩:=dartsL_mem.1 h
 obtain⟨h3,h4,h5,_⟩:=Qb6 hR h2
 have e:d.2=((d.2.toNat:Nat):Int):=by omega
 refine⟨u,d.2.toNat,by rw [← e,← h1],hu,by omega,by rw [← e];exact h3,by rw [← e];exact h2⟩
theorem QpQ (hR:RightG (N:Int) l)(hS:SysR N l r){d:Dt}(h:d∈Qal N l):nxD r d∈Qal N l:=by
 obtain⟨u,v,rfl,hu,hv,h1,h2⟩:=QeZ hR h
 refine dartsL_mem.2 ⟨v,hv,rfl,?_⟩
 unfold nxD
 simp only [YM]
 have hm:(u:Int)∈r.getD v []:=(hS.perm v hv).mem_iff.2 h1
 exact (hS.perm v hv).mem_iff.1 (QpD (List.idxOf_lt_length_iff.2 hm))
theorem QpR (hR:RightG (N:Int) l)(hS:SysR N l r){d e:Dt}(hd:d∈Qal N l)(he:e∈Qal N l)(h:nxD r d=nxD r e):d=e:=by
 obtain⟨u,v,rfl,hu,hv,h1,h2⟩:=QeZ hR hd
 obtain⟨u',v',rfl,hu',hv',h1',h2'⟩:=QeZ hR he
 unfold nxD at h
 simp only [YM,Prod.mk.injEq] at h
 obtain⟨e1,e2⟩:=h
 have:v=v':=by omega
 subst this
 have m1:(u:Int)∈r.getD v []:=(hS.perm v hv).mem_iff.2 h1
 have m2:(u':Int)∈r.getD v []:=(hS.perm v hv).mem_iff.2 h1'
 have l1:=List.idxOf_lt_length_iff.2 m1
 have l2:=List.idxOf_lt_length_iff.2 m2
 have e3:=QpE (hS.nodup hR hv) l1 l2 e2
 have g1:=List.getElem_idxOf l1
 have g2:=List.getElem_idxOf l2
 have:(u:Int)=(u':Int):=by
  rw [← g1,← g2]
  congr 1
 have:u=u':=by omega
 rw [this]
end
section
variable {nx:Dt→Dt} {S:List Dt}
structure PermS (nx:Dt→Dt)(S:List Dt):Prop where
 mem:∀ d∈S,nx d∈S
 inj:∀ d∈S,∀ e∈S,nx d=nx e→d=e
def Way (nx:Dt→Dt)(d:Dt):Dt→List Dt→Prop
 | x,[]=>x=d
 | x,y :: L=>x=y∧Way nx d (nx x) L
theorem Way.snoc {d:Dt}:∀ {x:Dt} {L:List Dt},Way nx d x L→Way nx (nx d) x (L++[d])
 | x,[],h=>⟨h,by show nx x=nx d;rw [show x=d from h]⟩
 | x,y :: L,h=>⟨h.1,Way.snoc h.2⟩
def orb (nx:Dt→Dt)(d:Dt):Nat→Dt→List Dt
 | 0,_=>[]
 | k+1,x=>x :: if nx x=d then [] else orb nx d k (nx x)
theorem QlB {d:Dt}:∀ {L:List Dt} {x:Dt} {k:Nat},L≠[]→Way nx d x L→(∀ y∈L.tail,y≠d)→L.length≤k→orb nx d k x=L
 | [],_,_,h,_,_,_=>absurd rfl h
 | [y],x,k,_,hw,_,hk=>by
  obtain⟨rfl,h2⟩:=hw
  match k,hk with
  | k+1,_=>
   rw [orb,if_pos (show nx x=d from h2)]
 | y :: z :: L,x,k,_,hw,hne,hk=>by
  obtain⟨rfl,h2⟩:=hw
  match k,hk with
  | k+1,hk=>
   have hz:nx x=z:=h2.1
   have hzd:¬ nx x=d:=by rw [hz];exact hne z (List.mem_cons_self ..)
   rw [orb,if_neg hzd,QlB (L:=z :: L) (by simp) h2 (fun y hy=>hne y (List.mem_cons_of_mem _ hy)) (by simpa using hk)]
structure Shut2 (nx:Dt→Dt)(S met:List Dt):Prop where
 sub:∀ d∈met,d∈S
 fwd:∀ d∈met,nx d∈met
 bwd:∀ d∈S,nx d∈met→d∈met
theorem Way.mem_back {d:Dt}:∀ {x:Dt} {L:List Dt},Way nx d x L→∀ y∈L,y=x∨∃ z∈L,nx z=y
 | x,[],_,y,hy=>by simp at hy
 | x,y :: L,h,z,hz=>by
  obtain⟨rfl,h2⟩:=h
  rcases List.mem_cons.1 hz with rfl | hz
  ·exact .inl rfl
  ·rcases Way.mem_back h2 z hz with rfl | ⟨t,ht,e⟩
   ·exact .inr ⟨x,List.mem_cons_self ..,rfl⟩
   ·exact .inr ⟨t,List.mem_cons_of_mem _ ht,e⟩
theorem Way.mem_next {d:Dt}:∀ {x:Dt} {L:List Dt},Way nx d x L→∀ y∈L,nx y=d∨nx y∈L
 | x,[],_,y,hy=>by simp at hy
 | x,y :: L,h,z,hz=>by
  obtain⟨rfl,h2⟩:=h
  rcases List.mem_cons.1 hz with rfl | hz
  ·match L,h2 with
   | [],h2=>exact .inl h2
   | t :: L,h2=>exact .inr (List.mem_cons_of_mem _ (by rw [h2.1];exact List.mem_cons_self ..))
  ·rcases Way.mem_next h2 z hz with h3 | h3
   ·exact .inl h3
   ·exact .inr (List.mem_cons_of_mem _ h3)
theorem Way.last {d:Dt}:∀ {x:Dt} {L:List Dt},L≠[]→Way nx d x L→∃ z∈L,nx z=d
 | x,[],h,_=>absurd rfl h
 | x,[y],_,h=>⟨y,List.mem_cons_self ..,by obtain⟨rfl,h2⟩:=h;exact h2⟩
 | x,y :: z :: L,_,h=>by
  obtain⟨t,ht,e⟩:=Way.last (L:=z :: L) (by simp) h.2
  exact⟨t,List.mem_cons_of_mem _ ht,e⟩
theorem Way.pred {d:Dt}:∀ {x:Dt} {L:List Dt},Way nx d x L→∀ y∈L.tail,∃ A t B,L=A++t :: y :: B∧nx t=y
 | x,[],_,y,hy=>by simp at hy
 | x,[z],_,y,hy=>by simp at hy
 | x,z :: t :: L,h,y,hy=>by
  obtain⟨rfl,h2⟩:=h
  have hy':y∈t :: L:=hy
  rcases List.mem_cons.1 hy' with rfl | hy'
  ·exact⟨[],x,L,rfl,h2.1⟩
  ·obtain⟨A,u,B,e,hu⟩:=Way.pred h2 y hy'
   exact⟨x :: A,u,B,by rw [e];rfl,hu⟩
theorem Way.last2 {d:Dt}:∀ {x:Dt} {L:List Dt},L≠[]→Way nx d x L→∃ C z,L=C++[z]∧nx z=d
 | x,[],h,_=>absurd rfl h
 | x,[y],_,h=>⟨[],y,rfl,by obtain⟨rfl,h2⟩:=h;exact h2⟩
 | x,y :: z :: L,_,h=>by
  obtain⟨C,t,e,ht⟩:=Way.last2 (L:=z :: L) (by simp) h.2
  exact⟨y :: C,t,by rw [e];rfl,ht⟩
theorem Way.round (hP:PermS nx S){met:List Dt}(hM:Shut2 nx S met){d x:Dt}{L:List Dt}(hne:L≠[])(hw:Way nx d x L)(hS:∀ y∈L,y∈S)(hn:L.Nodup)(hno:∀ y∈L,y∉met)(hd:d∈met∨d∈L):d=x:=by
 obtain⟨C,z,eC,ez⟩:=hw.last2 hne
 have hz:z∈L:=by rw [eC];simp
 rcases hd with hd | hd
 ·exact absurd (hM.bwd z (hS z hz) (by rw [ez];exact hd)) (hno z hz)
 ·match L,hne,hd,hw with
  | y :: L',_,hd,hw=>
   rcases List.mem_cons.1 hd with rfl | hd
   ·exact hw.1.symm
   ·exfalso
    obtain⟨A,t,B,eA,et⟩:=hw.pred d hd
    have ht:t∈y :: L':=by rw [eA];simp
    have e1:t=z:=hP.inj t (hS t ht) z (hS z hz) (et.trans ez.symm)
    subst e1
    have hl:(C++[t]).getLast? = (A++t :: d :: B).getLast?:=by rw [← eC,← eA]
    rw [eA] at hn
    have hn2:=(List.nodup_append.1 hn).2.1
    rw [List.nodup_cons] at hn2
    refine hn2.1 ?_
    have h3:(A++t :: d :: B).getLast? = (d :: B).getLast?:=by
     rw [show A++t :: d :: B=(A++[t])++(d :: B) by simp,List.getLast?_append]
     cases hB:(d :: B).getLast? with
     | none=>simp at hB
     | some q=>rfl
    rw [h3] at hl
    have h4:(d :: B).getLast? = some t:=by rw [← hl];simp
    exact List.mem_of_getLast? h4
def Qae (nx:Dt→Dt)(fuel:Nat)(starts:List Dt):Nat→List (List Dt) × List Dt
 | 0=>([],[])
 | j+1=>if (Qae nx fuel starts j).2.contains (starts.getD j (0,0)) then Qae nx fuel starts j
  else ((Qae nx fuel starts j).1++[orb nx (starts.getD j (0,0)) fuel (starts.getD j (0,0))],(Qae nx fuel starts j).2++orb nx (starts.getD j (0,0)) fuel (starts.getD j (0,0)))
theorem Shut2.add (hP:PermS nx S){met:List Dt}(hM:Shut2 nx S met){d:Dt}{L:List Dt}(hne:L≠[])(hw:Way nx d d L)(hS:∀ y∈L,y∈S):Shut2 nx S (met++L):=by
 have hd:d∈L:=by
  match L,hne,hw with
  | y :: L',_,hw=>rw [hw.1];exact List.mem_cons_self ..
 refine⟨fun y hy=>?_,fun y hy=>?_,fun y hy h=>?_⟩
 ·rcases YJ hy with h | h
  ·exact hM.sub y h
  ·exact hS y h
 ·rcases YJ hy with h | h
  ·exact List.mem_append_left _ (hM.fwd y h)
  ·rcases hw.mem_next y h with h1 | h1
   ·rw [h1];exact List.mem_append_right _ hd
   ·exact List.mem_append_right _ h1
 ·rcases YJ h with h1 | h1
  ·exact List.mem_append_left _ (hM.bwd y hy h1)
  ·refine List.mem_append_right _ ?_
   rcases hw.mem_back _ h1 with h2 | ⟨z,hz,ez⟩
   ·obtain⟨z,hz,ez⟩:=hw.last hne
    rw [hP.inj y hy z (hS z hz) (h2.trans ez.symm)]
    exact hz
   ·rw [hP.inj y hy z (hS z hz) ez.symm]
    exact hz
structure Going (nx:Dt→Dt)(S starts:List Dt)(fuel:Nat)(left face:List Dt)(d:Dt)(j:Nat):Prop where
 shut:Shut2 nx S (Qae nx fuel starts j).2
 nodup:(left++(face++(Qae nx fuel starts j).2)).Nodup
 all:∀ x,x∈S↔x∈left∨x∈face∨x∈(Qae nx fuel starts j).2
 len:left.length+face.length+(Qae nx fuel starts j).2.length=S.length
 way:face≠[]→Way nx d (starts.getD j (0,0)) face
theorem Going.start (hn:S.Nodup)(d:Dt)(starts:List Dt)(fuel:Nat):Going nx S starts fuel S [] d 0:=by
 refine⟨⟨fun d h=>by simp [Qae] at h,fun d h=>by simp [Qae] at h,fun d _ h=>by simp [Qae] at h⟩,by simpa [Qae] using hn,fun x=>by simp [Qae],by simp [Qae],fun h=>absurd rfl h⟩
theorem Going.take {starts left face:List Dt}{fuel j:Nat}{d:Dt}(h:Going nx S starts fuel left face d j)(hd:d∈left)(h0:face=[]→d=starts.getD j (0,0)):Going nx S starts fuel (left.erase d) (face++[d]) (nx d) j:=by
 have hnl:left.Nodup:=(List.nodup_append.1 h.nodup).1
 have hp:(left.erase d++(face++[d]++(Qae nx fuel starts j).2)).Perm (left++(face++(Qae nx fuel starts j).2)):=by
  have h1:left.Perm (d :: left.erase d):=List.perm_cons_erase hd
  have h2:(face++[d]++(Qae nx fuel starts j).2).Perm (d :: (face++(Qae nx fuel starts j).2)):=by
   rw [List.append_assoc]
   exact List.perm_middle
  refine ((h2.append_left (left.erase d)).trans ?_).trans (h1.symm.append_right _)
  exact List.perm_middle
 refine⟨h.shut,hp.nodup_iff.2 h.nodup,fun x=>?_,?_,fun _=>?_⟩
 ·rw [h.all x]
  have:=hp.mem_iff (a:=x)
  simp only [List.mem_append] at this
  simp only [List.mem_append]
  constructor
  ·intro hx
   rcases this.2 hx with h1 | ⟨h1 | h1⟩ | h1
   ·exact .inl h1
   ·exact .inr (.inl (.inl h1))
   ·exact .inr (.inl (.inr ‹_›))
   ·exact .inr (.inr h1)
  ·intro hx
   exact this.1 (by
    rcases hx with h1 | h1 | h1
    ·exact .inl h1
    ·exact .inr (.inl h1)
    ·exact .inr (.inr h1))
 ·have:=h.len
  rw [List.length_erase_of_mem hd,YI,List.length_singleton]
  have:=List.length_pos_of_mem hd
  omega
 ·by_cases hf:face=[]
  ·subst hf
   exact⟨(h0 rfl).symm,by show nx (starts.getD j (0,0))=nx d;rw [← h0 rfl]⟩
  ·exact (h.way hf).snoc
theorem Going.done (hP:PermS nx S){starts left face:List Dt}{fuel j:Nat}{d:Dt}(h:Going nx S starts fuel left face d j)(hf:face≠[])(hd:d∉left)(hdS:d∈S)(hfu:S.length≤fuel)(d':Dt):Qae nx fuel starts (j+1)=((Qae nx fuel starts j).1++[face],(Qae nx fuel starts j).2++face)∧Going nx S starts fuel left [] d' (j+1):=by
 have hw:=h.way hf
 have hnd:=(List.nodup_append.1 h.nodup).2.1
 have hnf:face.Nodup:=(List.nodup_append.1 hnd).1
 have hap:∀ y∈face,y∉(Qae nx fuel starts j).2:=fun y hy hy'=>(List.nodup_append.1 hnd).2.2 y hy y hy' rfl
 have hsub:∀ y∈face,y∈S:=fun y hy=>(h.all y).2 (.inr (.inl hy))
 have hdm:d∈(Qae nx fuel starts j).2∨d∈face:=by
  rcases (h.all d).1 hdS with h1 | h1 | h1
  ·exact absurd h1 hd
  ·exact .inr h1
  ·exact .inl h1
 have e:=Way.round hP h.shut hf hw hsub hnf hap hdm
 rw [e] at hw
 have hst:starts.getD j (0,0)∈face:=by
  match face,hf,hw with
  | y :: L,_,hw=>rw [hw.1];exact List.mem_cons_self ..
 have horb:orb nx (starts.getD j (0,0)) fuel (starts.getD j (0,0))=face:=by
  refine QlB hf hw (fun y hy e1=>?_) (by have:=h.len;omega)
  match face,hf,hw,hy,hnf with
  | z :: L,_,hw,hy,hnf=>
   have h1:=hw.1
   rw [e1,h1] at hy
   exact (List.nodup_cons.1 hnf).1 hy
 have hc:(Qae nx fuel starts j).2.contains (starts.getD j (0,0))=false:=by
  rw [List.contains_eq_mem,decide_eq_false_iff_not]
  exact hap _ hst
 have er:Qae nx fuel starts (j+1)=((Qae nx fuel starts j).1++[face],(Qae nx fuel starts j).2++face):=by
  rw [Qae,hc,horb]
  rfl
 refine⟨er,?_⟩
 have hp:(left++([]++((Qae nx fuel starts j).2++face))).Perm (left++(face++(Qae nx fuel starts j).2)):=by
  rw [List.nil_append]
  exact List.perm_append_comm.append_left left
 refine⟨by rw [er];exact h.shut.add hP hf hw hsub,by rw [er];exact hp.nodup_iff.2 h.nodup,fun x=>?_,?_,fun h1=>absurd rfl h1⟩
 ·rw [er,h.all x]
  simp only [List.mem_append,List.not_mem_nil,false_or]
  constructor
  ·rintro (h1 | h1 | h1)
   ·exact .inl h1
   ·exact .inr (.inr h1)
   ·exact .inr (.inl h1)
  ·rintro (h1 | h1 | h1)
   ·exact .inl h1
   ·exact .inr (.inr h1)
   ·exact .inr (.inl h1)
 ·rw [er]
  have:=h.len
  rw [YI,List.length_nil]
  omega
theorem Going.skip {starts left:List Dt}{fuel j:Nat}{d:Dt}(h:Going nx S starts fuel left [] d j)(hd:d∉left)(hdS:d∈S)(e:d=starts.getD j (0,0))(d':Dt):Qae nx fuel starts (j+1)=Qae nx fuel starts j∧Going nx S starts fuel left [] d' (j+1):=by
 have hm:d∈(Qae nx fuel starts j).2:=by
  rcases (h.all d).1 hdS with h1 | h1 | h1
  ·exact absurd h1 hd
  ·simp at h1
  ·exact h1
 have er:Qae nx fuel starts (j+1)=Qae nx fuel starts j:=by
  rw [Qae,if_pos (by rw [List.contains_iff_mem,← e];exact hm)]
 exact⟨er,by rw [er];exact h.shut,by rw [er];exact h.nodup,by rw [er];exact h.all,by rw [er];exact h.len,fun h1=>absurd rfl h1⟩
end
open Go Go.Proofs Go.RowKit
def encD (d:Dt):Value:=.agg #[.int .i64 d.1,.int .i64 d.2]
theorem Qf7 (a b:Dt)(w:World):(Op.equal 91 (encD a) (encD b)).run Tryz.prog w = .ok (decide (a=b)) w:=by
 have u3:=Tryz.underlying3
 have a3:=Tryz.isAgg3
 have z3:=Tryz.sizeOf3
 have hS:Tryz.prog.underlying 91=some (.struct (Tryz.prog.fieldsOf 91)):=by kernel_rfl
 have hp:Tryz.prog.stoodInHeld 91=false:=by kernel_rfl
 show (Op.equalIn (9999+1) 91 (.agg #[.int .i64 a.1,.int .i64 a.2]) (.agg #[.int .i64 b.1,.int .i64 b.2])).run Tryz.prog w=_
 rw [run_equalIn_struct w 9999 91 _ _ hS hp]
 simp only [Program.fieldsOf,Tryz.underlying91]
 go_simp
 obtain⟨x0,x1⟩:=a
 obtain⟨y0,y1⟩:=b
 by_cases h0:x0=y0 <;> by_cases h1:x1=y1 <;> simp [h0,h1]
theorem QdQ (w:World)(em:Bool)(d:Dt):(Instr.checkKey em 10000 91 (encD d)).run Tryz.prog w = .ok () w:=by
 have u3:=Tryz.underlying3
 have a3:=Tryz.isAgg3
 have z3:=Tryz.sizeOf3
 have hd:∀ k:Nat,(Instr.checkKey em (k+1+1) 91 (encD d)).run Tryz.prog w = .ok () w:=fun k=>by
  simp [Instr.checkKey,encD,run_underlying Tryz.underlying91,run_underlying Tryz.underlying3]
  go_simp
 exact hd 9998
theorem askD {d:Dt}{w:World}:∀ (es:List MapEntry) (L:List (Dt × Dt)) (i:Nat),es.map (fun e=>(e.key,e.val))=L.map (fun p=>(encD p.1,encD p.2)) →
  (Instr.findAsking 91 (encD d) es i).run Tryz.prog w = .ok ((L.findIdx? fun p=>decide (d=p.1)).map fun k=>(i+k,encD (L.getD k ((0,0),(0,0))).2)) w
 | [],[],i,_=>by simp [Instr.findAsking]
 | [],p :: L,i,h=>by simp at h
 | e :: es,[],i,h=>by simp at h
 | e :: es,p :: L,i,h=>by
  rw [List.map_cons,List.map_cons,List.cons.injEq,Prod.mk.injEq] at h
  obtain⟨⟨h1,h2⟩,h3⟩:=h
  have ih:=askD (d:=d) (w:=w) es L (i+1) h3
  unfold Instr.findAsking
  rw [h1,List.findIdx?_cons]
  by_cases hd:d=p.1
  ·simp [Qf7,hd,h2]
  ·simp only [Sem.run_bind,Qf7,decide_eq_false hd,Result.andThen_ok,Bool.false_eq_true,if_false,ih]
   congr 1
   cases L.findIdx? fun p=>decide (d=p.1) with
   | none=>rfl
   | some k=>
    simp only [Option.map_some,Option.some.injEq,Prod.mk.injEq,List.getD_cons_succ,and_true]
    omega
theorem findD {d:Dt}{w:World}{es:List MapEntry}{L:List (Dt × Dt)}(h:es.map (fun e=>(e.key,e.val))=L.map (fun p=>(encD p.1,encD p.2))):
  (Instr.findKey 91 (encD d) es).run Tryz.prog w = .ok ((L.findIdx? fun p=>decide (d=p.1)).map fun k=>(k,encD (L.getD k ((0,0),(0,0))).2)) w:=by
 have ha:=askD (d:=d) (w:=w) es L 0 h
 simp only [Nat.zero_add] at ha
 cases es with
 | nil=>
  cases L with
  | nil=>simp [Instr.findKey,run_underlying Tryz.underlying91,Instr.findNow]
  | cons p L=>simp at h
 | cons e es=>
  cases L with
  | nil=>simp at h
  | cons p L=>
   rw [List.map_cons,List.map_cons,List.cons.injEq,Prod.mk.injEq] at h
   simp [Instr.findKey,run_underlying Tryz.underlying91,Instr.findNow,Instr.sameNow,encD,h.1.1]
   exact ha
theorem QlY {α β:Type}(f:α→β):∀ (l:List α) (k:Nat),(l.eraseIdx k).map f=(l.map f).eraseIdx k
 | [],_=>by simp
 | x :: l,0=>by simp
 | x :: l,k+1=>by simp [QlY f l k]
def MapD (w:World)(m:Nat)(L:List (Dt × Dt)):Prop:=∃ es ck,w.heap[m]? = some (.map es ck)∧es.toList.map (fun e=>(e.key,e.val))=L.map (fun p=>(encD p.1,encD p.2))
theorem MapD.lt {w:World}{m:Nat}{L:List (Dt × Dt)}(h:MapD w m L):m<w.heap.size:=by
 obtain⟨es,ck,h1,_⟩:=h
 exact (Array.getElem?_eq_some_iff.1 h1).1
theorem MapD.keep {w w':World}{m:Nat}{L:List (Dt × Dt)}(h:MapD w m L)(hb:w'.heap[m]? = w.heap[m]?):MapD w' m L:=by
 obtain⟨es,ck,h1,h2⟩:=h
 exact⟨es,ck,hb.trans h1,h2⟩
theorem MapD.start (w:World):MapD (w.alloc (.map #[] 0)) w.heap.size []:=⟨#[],0,(MapKept.heap_alloc w _).1,rfl⟩
def lkD (L:List (Dt × Dt))(d:Dt):Option Dt:=(L.find? fun p=>decide (d=p.1)).map (·.2)
theorem MapD.lookup {w:World}{m:Nat}{L:List (Dt × Dt)}(h:MapD w m L)(d:Dt):
  (Instr.lookup 148 (.map (some m)) (encD d) true).run Tryz.prog w = .ok (.tuple #[encD ((lkD L d).getD (0,0)),.bool (lkD L d).isSome]) w:=by
 obtain⟨es,ck,h1,h2⟩:=h
 have hf:=findD (d:=d) (w:=w) h2
 have e1:(L.findIdx? fun p=>decide (d=p.1)).isSome=(lkD L d).isSome:=by
  unfold lkD
  rw [Option.isSome_map,List.findIdx?_isSome,Bool.eq_iff_iff,List.find?_isSome,List.any_eq_true]
 have e2:∀ k,(L.findIdx? fun p=>decide (d=p.1))=some k→lkD L d=some (L.getD k ((0,0),(0,0))).2:=fun k hk=>by
  obtain⟨hlt,hp,hno⟩:=List.findIdx?_eq_some_iff_getElem.1 hk
  unfold lkD
  have e:(L.find? fun p=>decide (d=p.1))=some L[k]:=List.find?_eq_some_iff_getElem.2 ⟨hp,k,hlt,rfl,fun j hj=>by simpa using hno j hj⟩
  rw [e]
  simp [hlt]
 cases hk:L.findIdx? fun p=>decide (d=p.1) with
 | none=>
  rw [hk] at hf e1
  have e3:lkD L d=none:=by
   cases hl:lkD L d with
   | none=>rfl
   | some x=>rw [hl] at e1;cases e1
  simp [Instr.lookup,run_underlying Tryz.underlying148,MapKept.run_getObj_map h1,QdQ,hf,e3]
  rfl
 | some k=>
  rw [hk] at hf
  have e3:=e2 k hk
  simp [Instr.lookup,run_underlying Tryz.underlying148,MapKept.run_getObj_map h1,QdQ,hf,e3]
theorem MapD.update {w:World}{m:Nat}{L:List (Dt × Dt)}(h:MapD w m L){d:Dt}(hd:∀ p∈L,p.1≠d)(e:Dt):
  ∃ w',(Instr.mapUpdate 148 (.map (some m)) (encD d) (encD e)).run Tryz.prog w = .ok () w'∧MapD w' m (L++[(d,e)])∧w.grownBy w' (some m):=by
 obtain⟨es,ck,h1,h2⟩:=h
 have hf:=findD (d:=d) (w:=w) h2
 have hno:(L.findIdx? fun p=>decide (d=p.1))=none:=by
  rw [List.findIdx?_eq_none_iff]
  intro p hp
  have:=hd p hp
  simp
  exact fun e=>this e.symm
 rw [hno] at hf
 have hlt:=(Array.getElem?_eq_some_iff.1 h1).1
 refine⟨{ w with heap:=w.heap.setIfInBounds m (.map (es.push { key:=encD d,val:=encD e,born:=ck }) (ck+1)) },?_,⟨es.push { key:=encD d,val:=encD e,born:=ck },ck+1,by simp [hlt],?_⟩,⟨rfl,rfl,rfl,by simp,fun i _ hi=>?_⟩⟩
 ·simp [Instr.mapUpdate,run_underlying Tryz.underlying148,MapKept.run_getObj_map h1,QdQ,hf,MapKept.run_setObj_map _ h1]
 ·rw [Array.toList_push,List.map_append,h2,List.map_append]
  rfl
 ·have:m≠i:=fun e=>hi (by rw [e])
  simp [this]
theorem MapD.delete {w:World}{m:Nat}{L:List (Dt × Dt)}(h:MapD w m L)(d:Dt)(ty:TypeId):
  ∃ w',(Builtin.delete_ #[148,91] ty #[.map (some m),encD d]).run Tryz.prog w = .ok (.tuple #[]) w'∧MapD w' m (L.eraseP fun p=>decide (d=p.1))∧w.grownBy w' (some m):=by
 obtain⟨es,ck,h1,h2⟩:=h
 have hf:=findD (d:=d) (w:=w) h2
 have hlt:=(Array.getElem?_eq_some_iff.1 h1).1
 rw [List.eraseP_eq_eraseIdx]
 cases hk:L.findIdx? fun p=>decide (d=p.1) with
 | none=>
  rw [hk] at hf
  refine⟨{ w with heap:=w.heap.setIfInBounds m (.map es ck) },?_,⟨es,ck,by simp [hlt],h2⟩,⟨rfl,rfl,rfl,by simp,fun i _ hi=>?_⟩⟩
  ·simp [Builtin.delete_,run_underlying Tryz.underlying148,MapKept.run_getObj_map h1,QdQ,hf,MapKept.run_setObj_map _ h1]
  ·have:m≠i:=fun e=>hi (by rw [e])
   simp [this]
 | some k=>
  rw [hk] at hf
  refine⟨{ w with heap:=w.heap.setIfInBounds m (.map (es.eraseIdxIfInBounds k) ck) },?_,⟨es.eraseIdxIfInBounds k,ck,by simp [hlt],?_⟩,⟨rfl,rfl,rfl,by simp,fun i _ hi=>?_⟩⟩
  ·simp [Builtin.delete_,run_underlying Tryz.underlying148,MapKept.run_getObj_map h1,QdQ,hf,MapKept.run_setObj_map _ h1]
  ·rw [Array.toList_eraseIdxIfInBounds,QlY,h2,QlY]
  ·have:m≠i:=fun e=>hi (by rw [e])
   simp [this]
theorem Qna (L:List Int)(k:Nat)(hk:k<L.length)(hL:L.length≤4194304)(sv:Value)(m:Nat)(w:World)(h:Ints m w sv L):
  Calls Tryz.prog 154 #[sv,.int .i64 (k:Int)] w fun r w'=>r = .returned (.int .i64 (aft L k))∧w'=w:=by
 obtain⟨p,c,rfl⟩:=h.len
 obtain⟨b,off,rfl,hbb,hcap,hc⟩:=h.open hk
 by_cases he:k+1=L.length
 ·have c0:=hc w YD 0 (by omega)
  rw [Nat.add_zero] at c0
  have hE:aft L k=L[0]'(by omega):=by
   unfold aft
   rw [if_pos he,YC,YB (by omega)]
   rfl
  have he':((k:Int)==(L.length:Int)-1)=true:=by
   rw [beq_iff_eq];omega
  have h0:(0:Int)<(L.length:Int):=by omega
  rw [hE]
  generalize L[0]=x at *
  clear hE he hc
  go_enter Tryz.func154,Tryz.ntmps154
  go_wp2
  go_ret
  exact⟨rfl,rfl⟩
 ·have c0:=hc w YD (k+1) (by omega)
  have hE:aft L k=L[k+1]'(by omega):=by
   unfold aft
   rw [if_neg he,YC,YB (by omega)]
   rfl
  have he':((k:Int)==(L.length:Int)-1)=false:=by
   rw [beq_eq_false_iff_ne];omega
  have h0:(k:Int)+1<(L.length:Int):=by omega
  rw [hE]
  generalize L[k+1]=x at *
  clear hE he hc
  go_enter Tryz.func154,Tryz.ntmps154
  go_wp2
  go_ret
  exact⟨rfl,rfl⟩
def rowE (L:List Int)(v:Int)(k:Nat):List (Dt × Dt):=(List.range k).map fun i=>((L.getD i 0,v),(v,aft L i))
theorem Qlc (L:List Int)(v:Int)(k:Nat):rowE L v (k+1)=rowE L v k++[((L.getD k 0,v),(v,aft L k))]:=by
 unfold rowE
 rw [List.range_succ,List.map_append]
 rfl
def behL (r:List (List Int))(j:Nat):List (Dt × Dt):=(List.range j).flatMap fun (v:Nat)=>rowE (r.getD v []) (v:Int) (r.getD v []).length
theorem Qhq (r:List (List Int))(j:Nat):behL r (j+1)=behL r j++rowE (r.getD j []) (j:Int) (r.getD j []).length:=by
 unfold behL
 rw [List.range_succ,List.flatMap_append]
 simp
theorem QpB {r:List (List Int)}{j k:Nat}(hn:(r.getD j []).Nodup)(hk:k<(r.getD j []).length):∀ p∈behL r j++rowE (r.getD j []) (j:Int) k,p.1≠((r.getD j []).getD k 0,(j:Int)):=by
 intro p hp e
 rcases YJ hp with h | h
 ·unfold behL at h
  obtain⟨v,hv,h⟩:=List.mem_flatMap.1 h
  unfold rowE at h
  obtain⟨i,_,rfl⟩:=List.mem_map.1 h
  have:=congrArg Prod.snd e
  simp only at this
  have:=List.mem_range.1 hv
  omega
 ·unfold rowE at h
  obtain⟨i,hi,rfl⟩:=List.mem_map.1 h
  have hi':=List.mem_range.1 hi
  have e1:=congrArg Prod.fst e
  simp only at e1
  clear h hp e
  generalize r.getD j []=X at *
  have g1:X.getD i 0=X[i]'(by omega):=by rw [YC,YB (by omega)];rfl
  have g2:X.getD k 0=X[k]:=by rw [YC,YB hk];rfl
  rw [g1,g2] at e1
  have:=(List.getElem_inj hn).1 e1
  omega
theorem Qhu (w:World){ops:Array Oper}{rest:List Oper}{o:Oper}{a:Act}{Q:Exit→Act→World→Prop}
  (hg:o.guard=none) (m x v:Operand) (hop:o.op=Op.mapUpdate 148 m x v) (M:Nat) (L:List (Dt × Dt)) (d e:Dt)
  (hm:a.eval m = .map (some M)) (h:MapD w M L) (hd:∀ p∈L,p.1≠d) (hx:a.eval x=encD d) (hv:a.eval v=encD e)
  (hK:∀ w',MapD w' M (L++[(d,e)])→w.grownBy w' (some M)→wpList Tryz.prog ops Q rest (a.put o.dst undef) w') :
  wpList Tryz.prog ops Q (o :: rest) a w:=by
 refine wpList_plain hg fun K' hK'=>?_
 obtain⟨w',hrun,r1,r2⟩:=h.update hd e
 unfold Oper.wp
 simp [execOp,hop,hm,hx,hv,hrun,Result.andThen]
 exact hK' _ _ (hK w' r1 r2)
theorem Qe7 (r:List (List Int))(hr:r.length≤4194304)(hin:∀ x∈r,x.length≤4194304∧x.Nodup)(sz:Nat)(sv:Value)(w:World)(h:Lsts w.heap.size w sv r):
  Calls Tryz.prog 124 #[sv,.int .i64 (sz:Int)] w fun e w'=>e = .returned (.map (some w.heap.size))∧MapD w' w.heap.size (behL r r.length)∧Below w.heap.size w w':=by
 obtain⟨p,c,rfl⟩:=h.len
 have hmm:(Instr.makeMap 148 (some (.int .i64 (sz:Int)))).run Tryz.prog w = .ok (.map (some w.heap.size)) (w.alloc (.map #[] 0)):=by
  simp [Instr.makeMap,run_underlying Tryz.underlying148,asInt]
  rfl
 have hM0:=MapD.start w
 have hbA:Below w.heap.size w (w.alloc (.map #[] 0)):=YD.alloc YA _
 go_enter Tryz.func124,Tryz.ntmps124
 go_wp2
 obtain⟨m,hm⟩:∃ m,m=w.heap.size:=⟨_,rfl⟩
 rw [← hm] at hM0 hbA ⊢
 have HM:Hid (m=w.heap.size):=hm
 have hR0:Lsts m w (.slice p r.length c) r:=by rw [hm];exact h
 clear hm h
 generalize w.alloc (.map #[] 0)=w1 at *
 go_loopw [14] (fun iv wr=>∃ j:Nat,j≤r.length∧iv = .int .i64 j∧Hid (MapD wr m (behL r j))∧Below m w wr) (fun i _=>r.length-(intOf i).toNat)
 case atStart=>exact⟨0,YN,rfl,hM0,hbA⟩
 case round=>
  obtain⟨j,hj,rfl,HMj,hb⟩:=hrel
  by_cases hlt:j<r.length
  ·have hjl:(j:Int)<(r.length:Int):=by omega
   have hRj:=hR0.below hb
   obtain⟨b,off,rfl,hbb,hcap,px,cx,hIx,c0⟩:=hRj.cellAt hlt
   obtain⟨hxl,hxn⟩:=hin r[j] (YG hlt)
   have hg:r.getD j []=r[j]:=by rw [YC,YB hlt];rfl
   have HNX:Hid (behL r (j+1)=behL r j++rowE r[j] (j:Int) r[j].length):=by rw [Hid,Qhq,hg]
   have HNW:Hid (∀ k,k<r[j].length→∀ q∈behL r j++rowE r[j] (j:Int) k,q.1≠(r[j].getD k 0,(j:Int))):=fun k hk=>by
    have:=QpB (r:=r) (j:=j) (k:=k) (by rw [hg];exact hxn) (by rw [hg];exact hk)
    rw [hg] at this
    exact this
   clear hg
   generalize r[j]=X at *
   generalize wr=w4 at *
   go_wp2
   go_loopw [21] (fun iv wx=>∃ k:Nat,k≤X.length∧iv = .int .i64 k∧Hid (MapD wx m (behL r j++rowE X (j:Int) k))∧Below m w4 wx) (fun i _=>X.length-(intOf i).toNat)
   case atStart=>exact⟨0,YN,rfl,by unfold Hid rowE;simpa using HMj.out,YD⟩
   case round=>
    obtain⟨k,hk,rfl,HMk,hbk⟩:=hrel
    by_cases hkl:k<X.length
    ·have hkl':(k:Int)<(X.length:Int):=by omega
     have hIk:=hIx.below hbk
     obtain⟨b2,off2,hpx,hbb2,hcap2,hc2⟩:=hIk.open hkl
     have c2:=hc2 wr YD k hkl
     have hxe:X[k]=X.getD k 0:=by rw [YC,YB hkl];rfl
     have haf:=Qna X k hkl hxl _ _ _ hIk
     have HRS:Hid (rowE X (j:Int) (k+1)=rowE X (j:Int) k++[((X[k],(j:Int)),((j:Int),aft X k))]):=by rw [Hid,Qlc,hxe]
     have hnw:=HNW.out k hkl
     rw [← hxe] at hnw
     have HNK:Hid _:=hnw
     subst hpx
     clear hxe hnw hc2 hIk
     generalize X[k]=x at *
     generalize aft X k=y at *
     go_wp2_with fail
     refine haf.mono ?_
     clear haf
     rintro e w9 ⟨rfl,rfl⟩
     have hMk:=HMk.out
     have hnk:=HNK.out
     go_wp2_with (at_mapUpdate;refine Qhu _ rfl _ _ _ rfl m (behL r j++rowE X (j:Int) k) (x,(j:Int)) ((j:Int),y) rfl hMk hnk rfl rfl ?_;intro w5 hM5 hg5)
     have HM5:Hid (MapD w5 m (behL r j++rowE X (j:Int) (k+1))):=by rw [Hid,HRS.out,← List.append_assoc];exact hM5
     have hb5:Below m w4 w5:=hbk.grown hg5 (by have:=hbk.size;have:=hMk.lt;omega) (fun q e=>by cases e;exact YA)
     clear hM5 hg5 hMk hnk HMk HNK
     go_wp2
     exact⟨⟨k+1,by omega,by go_num,HM5,hb5⟩,by simp [intOf];omega⟩
    ·obtain rfl:k=X.length:=by omega
     have hkl':¬ (X.length:Int)<(X.length:Int):=by omega
     go_wp2
     exact⟨⟨j+1,by omega,by go_num,by rw [HNX.out];exact HMk.out,hb.trans hbk⟩,by simp [intOf];omega⟩
  ·obtain rfl:j=r.length:=by omega
   have hjl:¬ (r.length:Int)<(r.length:Int):=by omega
   go_wp2
   go_ret
   exact⟨by rw [HM.out];rfl,by rw [← HM.out];exact HMj.out,by rw [← HM.out];exact hb⟩
end Go.Proofs.YtalflecmadacaaaGreat
