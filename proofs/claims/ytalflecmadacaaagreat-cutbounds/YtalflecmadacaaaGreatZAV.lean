import Derived.Test.YtalflecmadacaaaGreatZAU
import Derived.WalkMore
import Derived.Test.YtalflecmadacaaaGreatZAA
import Derived.Test.YtalflecmadacaaaGreatZAK
import Derived.BigQuiet
set_option maxRecDepth 100000
set_option maxHeartbeats 8000000
namespace Go.Proofs.YtalflecmadacaaaGreat
open Go Go.Proofs Go.RowKit
structure Chg (X:Nat→Prop)(A B:World):Prop where
 os:B.os=A.os
 tape:B.tape=A.tape
 output:B.output=A.output
 size:A.heap.size≤B.heap.size
 block:∀ q,q<A.heap.size→¬ X q→B.heap[q]? = A.heap[q]?
theorem Chg.trans {X:Nat→Prop}{A B C:World}(h:Chg X A B)(k:Chg X B C):Chg X A C:=
 ⟨k.os.trans h.os,k.tape.trans h.tape,k.output.trans h.output,Nat.le_trans h.size k.size,fun q hq hx=>(k.block q (Nat.lt_of_lt_of_le hq h.size) hx).trans (h.block q hq hx)⟩
theorem Chg.of_below {X:Nat→Prop}{A B:World}(h:Below A.heap.size A B):Chg X A B:=⟨h.os,h.tape,h.output,h.size,fun q hq _=>h.block q hq⟩
theorem Chg.of_grown {X:Nat→Prop}{A B:World}{r:Option Nat}(h:A.grownBy B r)(hr:∀ q,r=some q→X q):Chg X A B:=⟨h.os,h.tape,h.output,h.size,fun q hq hx=>h.block q hq (fun e=>hx (hr q e.symm))⟩
theorem Chg.of_set {X:Nat→Prop}{A:World}{p:Addr}(hp:X p.block)(v:Value):Chg X A (A.setCell p v):=⟨rfl,rfl,rfl,by simp,fun q _ hx=>Below.heap_setCell _ _ _ _ (fun e=>hx (by rw [e];exact hp))⟩
theorem Qbf {A B:World}{base:Nat}{e:TypeId}{size:Nat}{v:Value}{n:Nat}{xs:List Value}(h:A.ownsRow base e size v n xs)(hb:∀ q,v.ownBlock=some q→B.heap[q]? = A.heap[q]?):B.ownsRow base e size v n xs:=by
 obtain⟨h1,h2⟩:=h
 refine⟨h1,?_⟩
 rcases h2 with h2 | ⟨g,cap,cur,hv,hb2,hg,r⟩
 ·exact .inl h2
 ·exact .inr ⟨g,cap,cur,hv,hb2,(hb g (by rw [hv];rfl)).trans hg,r⟩
theorem Qly {A:World}{base:Nat}{e:TypeId}{size n c:Nat}{p:Option Addr}{xs:List Value}(h:A.ownsRow base e size (.slice p n c) n xs):A.ownsRow base e size (.slice p 0 c) 0 []:=by
 obtain⟨h1,h2⟩:=h
 refine⟨by simp,?_⟩
 rcases h2 with ⟨h2,_⟩ | ⟨g,cap,cur,hv,hb2,hg,h3,h4,h5,h6⟩
 ·simp only [Value.slice.injEq] at h2
  obtain⟨rfl,_,rfl⟩:=h2
  exact .inl ⟨rfl,rfl⟩
 ·simp only [Value.slice.injEq] at hv
  obtain⟨rfl,_,rfl⟩:=hv
  exact .inr ⟨g,c,cur,rfl,hb2,hg,YN,h4,h5,by simp⟩
theorem Qaz {A:World}{base:Nat}{e:TypeId}{size:Nat}{v:Value}{n:Nat}{xs:List Value}(h:A.ownsRow base e size v n xs){q:Nat}(hq:v.ownBlock=some q):base≤q∧q<A.heap.size:=h.lt q hq
structure StillR (h0:Nat)(bs:List Nat)(A B:World):Prop where
 os:B.os=A.os
 tape:B.tape=A.tape
 output:B.output=A.output
 size:A.heap.size≤B.heap.size
 block:∀ q,q<A.heap.size→(q<h0∨q∈bs)→B.heap[q]? = A.heap[q]?
structure ToldR (h0:Nat)(bs bs':List Nat)(A B:World):Prop where
 size:A.heap.size≤B.heap.size
 block:∀ q,h0≤q→q<A.heap.size→q∉bs→B.heap[q]? = A.heap[q]?
 new:∀ q∈bs',q∈bs∨A.heap.size≤q
 lt:∀ q∈bs',q<B.heap.size
theorem Qdl (nx:Dt→Dt)(F:Nat)(starts:List Dt):∀ j,((Qae nx F starts j).1.map List.length).sum=(Qae nx F starts j).2.length
 | 0=>rfl
 | j+1=>by
  rw [Qae]
  split
  ·exact Qdl nx F starts j
  ·rw [List.map_append,List.sum_append,Qdl nx F starts j,YI]
   simp
def Tells (h0 f:Nat)(cb:Array Value)(S:List Dt)(I:List (List Dt)→List Nat→World→Prop):Prop:=
 ∀ (fs:List (List Dt)) (bs:List Nat) (face:List Dt) (fv:Value) (W:World),I fs bs W→(∀ q∈bs,h0≤q∧q<W.heap.size)→h0≤W.heap.size→face≠[]→(∀ d∈face,d∈S)→(fs.map List.length).sum+face.length≤8388608 →
  W.ownsRow h0 91 2 fv face.length (flatD face)→(∀ q,fv.ownBlock=some q→q∉bs) →
  Calls Tryz.prog f (#[fv]++cb) W fun e W'=>e = .returned (.tuple #[])∧∃ bs',I (fs++[face]) bs' W'∧ToldR h0 bs bs' W W'
structure LayR (h0 h2 m bd:Nat)(stv:Value):Prop where
 m0:h0≤m
 m2:m<h2
 b0:h0≤bd
 b2:bd<h2
 ne:m≠bd
 st:∀ q,stv.ownBlock=some q→q<h2∧q≠m∧q≠bd
structure RI (nx:Dt→Dt)(S starts:List Dt)(F h0 h2 m bd:Nat)(stv:Value)(I:List (List Dt)→List Nat→World→Prop)(fv:Value)(begun:Nat)(W:World)(left face:List Dt)(d:Dt)(j:Nat)(bs:List Nat):Prop where
 go:Going nx S starts F left face d j
 ph:(begun=0∧j=0∧face=[]∧d=(0,0))∨(begun=j+1∧j<starts.length∧d∈S∧(face=[]→d=starts.getD j (0,0)))
 map:MapD W m (leftE nx left)
 dc:Blk 91 W bd [.int .i64 d.1,.int .i64 d.2]
 st:W.ownsRow h0 91 2 stv starts.length (flatD starts)
 fc:W.ownsRow h2 91 2 fv face.length (flatD face)
 ap:∀ q,fv.ownBlock=some q→q∉bs
 bsr:∀ q∈bs,h2≤q∧q<W.heap.size
 inv:I (Qae nx F starts j).1 bs W
 sz:h2≤W.heap.size
section
variable {nx:Dt→Dt} {S starts:List Dt} {F h0 h2 m bd:Nat} {stv:Value} {I:List (List Dt)→List Nat→World→Prop}
def XR (m bd:Nat)(fv:Value)(q:Nat):Prop:=q=m∨q=bd∨fv.ownBlock=some q
theorem RI.still {fv:Value}{begun:Nat}{W B:World}{left face:List Dt}{d:Dt}{j:Nat}{bs:List Nat}(h:RI nx S starts F h0 h2 m bd stv I fv begun W left face d j bs)(L:LayR h0 h2 m bd stv)(hC:Chg (XR m bd fv) W B):StillR h0 bs W B:=by
 refine⟨hC.os,hC.tape,hC.output,hC.size,fun q hq hx=>hC.block q hq ?_⟩
 have a:=L.m0
 have b:=L.m2
 have c:=L.b0
 have e:=L.b2
 rintro (h1 | h1 | h1)
 ·rcases hx with hx | hx
  ·omega
  ·have:=(h.bsr q hx).1;omega
 ·rcases hx with hx | hx
  ·omega
  ·have:=(h.bsr q hx).1;omega
 ·rcases hx with hx | hx
  ·have:=(Qaz h.fc h1).1
   omega
  ·exact h.ap q h1 hx
theorem RI.turn (hI:∀ fs bs A B,I fs bs A→StillR h0 bs A B→I fs bs B){fv fv':Value}{begun begun':Nat}{W B:World}{left left' face face':List Dt}{d d':Dt}{j:Nat}{bs:List Nat}(h:RI nx S starts F h0 h2 m bd stv I fv begun W left face d j bs)(L:LayR h0 h2 m bd stv)(hC:Chg (XR m bd fv) W B)
  (hg:Going nx S starts F left' face' d' j) (hp:(begun'=0∧j=0∧face'=[]∧d'=(0,0))∨(begun'=j+1∧j<starts.length∧d'∈S∧(face'=[]→d'=starts.getD j (0,0))))
  (hm:MapD B m (leftE nx left')) (hd:Blk 91 B bd [.int .i64 d'.1,.int .i64 d'.2]) (hf:B.ownsRow h2 91 2 fv' face'.length (flatD face')) (hfv:fv'.ownBlock=fv.ownBlock∨∃ q,fv'.ownBlock=some q∧W.heap.size≤q):RI nx S starts F h0 h2 m bd stv I fv' begun' B left' face' d' j bs:=by
 refine⟨hg,hp,hm,hd,Qbf h.st fun q hq=>hC.block q (Qaz h.st hq).2 ?_,hf,fun q hq=>?_,fun q hq=>⟨(h.bsr q hq).1,Nat.lt_of_lt_of_le (h.bsr q hq).2 hC.size⟩,hI _ _ _ _ h.inv (h.still L hC),Nat.le_trans h.sz hC.size⟩
 ·obtain⟨s1,s2,s3⟩:=L.st q hq
  rintro (h1 | h1 | h1)
  ·exact s2 h1
  ·exact s3 h1
  ·have:=(Qaz h.fc h1).1
   omega
 ·rcases hfv with h1 | ⟨q',h1,h2⟩
  ·exact h.ap q (by rw [← h1];exact hq)
  ·rw [h1] at hq
   have:=Option.some.inj hq
   intro hb
   have:=(h.bsr q hb).2
   omega
theorem RI.told {fv:Value}{begun:Nat}{W B:World}{left face:List Dt}{d:Dt}{j:Nat}{bs bs':List Nat}(h:RI nx S starts F h0 h2 m bd stv I fv begun W left face d j bs)(L:LayR h0 h2 m bd stv)(hh:h0≤h2)(hT:ToldR h0 bs bs' W B)(he:(Qae nx F starts (j+1)).1=(Qae nx F starts j).1++[face])(hi:I ((Qae nx F starts j).1++[face]) bs' B):
  MapD B m (leftE nx left)∧Blk 91 B bd [.int .i64 d.1,.int .i64 d.2]∧B.ownsRow h0 91 2 stv starts.length (flatD starts)∧B.ownsRow h2 91 2 fv face.length (flatD face)∧(∀ q,fv.ownBlock=some q→q∉bs')∧(∀ q∈bs',h2≤q∧q<B.heap.size)∧I (Qae nx F starts (j+1)).1 bs' B∧h2≤B.heap.size:=by
 have a:=L.m0
 have b:=L.m2
 have c:=L.b0
 have e:=L.b2
 have hsz:=h.sz
 have nob:∀ q,q<h2→q∉bs:=fun q hq hq'=>by have:=(h.bsr q hq').1;omega
 refine⟨h.map.keep (hT.block m a h.map.lt (nob m b)),(hT.block bd c h.dc.lt (nob bd e)).trans h.dc,Qbf h.st fun q hq=>?_,Qbf h.fc fun q hq=>?_,fun q hq hq'=>?_,fun q hq=>⟨?_,hT.lt q hq⟩,by rw [he];exact hi,Nat.le_trans hsz hT.size⟩
 ·exact hT.block q (Qaz h.st hq).1 (Qaz h.st hq).2 (nob q (L.st q hq).1)
 ·exact hT.block q (Nat.le_trans hh (Qaz h.fc hq).1) (Qaz h.fc hq).2 (h.ap q hq)
 ·rcases hT.new q hq' with h1 | h1
  ·exact h.ap q hq h1
  ·have:=(Qaz h.fc hq).2
   omega
 ·rcases hT.new q hq with h1 | h1
  ·exact (h.bsr q h1).1
  ·omega
structure DNI (nx:Dt→Dt)(S starts:List Dt)(F h0 h2 m bd:Nat)(stv:Value)(I:List (List Dt)→List Nat→World→Prop)(fv:Value)(begun:Nat)(W:World)(left:List Dt)(d:Dt)(bs:List Nat):Prop where
 go:∀ d',Going nx S starts F left [] d' begun
 map:MapD W m (leftE nx left)
 dc:Blk 91 W bd [.int .i64 d.1,.int .i64 d.2]
 st:W.ownsRow h0 91 2 stv starts.length (flatD starts)
 fc:W.ownsRow h2 91 2 fv 0 []
 ap:∀ q,fv.ownBlock=some q→q∉bs
 bsr:∀ q∈bs,h2≤q∧q<W.heap.size
 inv:I (Qae nx F starts begun).1 bs W
 sz:h2≤W.heap.size
theorem Going.any {left:List Dt}{d:Dt}{j:Nat}(h:Going nx S starts F left [] d j)(d':Dt):Going nx S starts F left [] d' j:=⟨h.shut,h.nodup,h.all,h.len,fun e=>absurd rfl e⟩
theorem RI.none (hI:∀ fs bs A B,I fs bs A→StillR h0 bs A B→I fs bs B){fv:Value}{begun:Nat}{W B:World}{left:List Dt}{d:Dt}{j:Nat}{bs:List Nat}(h:RI nx S starts F h0 h2 m bd stv I fv begun W left [] d j bs)(L:LayR h0 h2 m bd stv)(hd:d∉left)(hb:Below W.heap.size W B):DNI nx S starts F h0 h2 m bd stv I fv begun B left d bs:=by
 have key:∀ jn,(∀ d',Going nx S starts F left [] d' jn)→(Qae nx F starts jn).1=(Qae nx F starts j).1→jn=begun→DNI nx S starts F h0 h2 m bd stv I fv begun B left d bs:=by
  intro jn h1 h2' e
  subst e
  refine⟨h1,h.map.keep (hb.block _ h.map.lt),h.dc.go hb,QaU h.st hb,QaU h.fc hb,h.ap,fun q hq=>⟨(h.bsr q hq).1,Nat.lt_of_lt_of_le (h.bsr q hq).2 hb.size⟩,?_,Nat.le_trans h.sz hb.size⟩
  rw [h2']
  exact hI _ _ _ _ h.inv (h.still L (Chg.of_below hb))
 rcases h.ph with ⟨e1,e2,_,e3⟩ | ⟨e1,e2,e3,e4⟩
 ·subst e2
  exact key 0 (fun d'=>h.go.any d') rfl e1.symm
 ·exact key (j+1) (fun d'=>(h.go.skip hd e3 (e4 rfl) d').2) (by rw [(h.go.skip hd e3 (e4 rfl) (0,0)).1]) e1.symm
theorem RI.toldD (hP:PermS nx S)(hF:S.length≤F){p:Option Addr}{c:Nat}{begun:Nat}{W B:World}{left face:List Dt}{d:Dt}{j:Nat}{bs bs':List Nat}(h:RI nx S starts F h0 h2 m bd stv I (.slice p face.length c) begun W left face d j bs)(L:LayR h0 h2 m bd stv)(hh:h0≤h2)(hf:face≠[])(hd:d∉left)(hT:ToldR h0 bs bs' W B)(hi:I ((Qae nx F starts j).1++[face]) bs' B):DNI nx S starts F h0 h2 m bd stv I (.slice p 0 c) begun B left d bs':=by
 have hph:begun=j+1∧d∈S:=by
  rcases h.ph with ⟨_,_,e,_⟩ | ⟨e1,_,e2,_⟩
  ·exact absurd e hf
  ·exact⟨e1,e2⟩
 obtain⟨e1,hdS⟩:=hph
 subst e1
 have hdn:=fun d'=>h.go.done hP hf hd hdS hF d'
 obtain⟨g1,g2,g3,g4,g5,g6,g7,g8⟩:=h.told L hh hT (by rw [(hdn (0,0)).1]) hi
 exact⟨fun d'=>(hdn d').2,g1,g2,g3,Qly g4,fun q hq=>g5 q (by rw [← hq];cases p <;> rfl),g6,g7,g8⟩
theorem DNI.next (hI:∀ fs bs A B,I fs bs A→StillR h0 bs A B→I fs bs B){fv:Value}{begun:Nat}{W:World}{left:List Dt}{d d':Dt}{bs:List Nat}(h:DNI nx S starts F h0 h2 m bd stv I fv begun W left d bs)(L:LayR h0 h2 m bd stv)(hb:begun<starts.length)(hd:d'=starts.getD begun (0,0))(hdS:d'∈S):RI nx S starts F h0 h2 m bd stv I fv (begun+1) ((W.setCell ⟨bd,0,none⟩ (.int .i64 d'.1)).setCell ⟨bd,1,none⟩ (.int .i64 d'.2)) left [] d' begun bs:=by
 have b:=L.b2
 have c:=L.b0
 have nb:∀ (q:Nat),q≠bd→((W.setCell ⟨bd,0,none⟩ (.int .i64 d'.1)).setCell ⟨bd,1,none⟩ (.int .i64 d'.2)).heap[q]? = W.heap[q]?:=fun q hq=>(Below.heap_setCell _ _ _ _ (by simp;omega)).trans (Below.heap_setCell _ _ _ _ (by simp;omega))
 refine⟨h.go d',.inr ⟨rfl,hb,hdS,fun _=>hd⟩,h.map.keep (nb m L.ne),(h.dc.set 0 _).set 1 _,Qbf h.st fun q hq=>nb q (L.st q hq).2.2,Qbf h.fc fun q hq=>nb q (by have:=(Qaz h.fc hq).1;omega),h.ap,fun q hq=>⟨(h.bsr q hq).1,by simp;exact (h.bsr q hq).2⟩,hI _ _ _ _ h.inv ⟨rfl,rfl,rfl,by simp,fun q _ hx=>nb q ?_⟩,by simp;exact h.sz⟩
 rcases hx with hx | hx
 ·omega
 ·have:=(h.bsr q hx).1
  omega
end
theorem Qhv (w:World){ops:Array Oper}{rest:List Oper}{o:Oper}{a:Act}{Q:Exit→Act→World→Prop}
  (hg:o.guard=none) (m x:Operand) (hop:o.op=Op.call { callee:=Callee.builtin Builtin.delete,args:=#[m,x],argTypes:=#[148,91] }) (M:Nat) (L:List (Dt × Dt)) (d:Dt)
  (hm:a.eval m = .map (some M)) (h:MapD w M L) (hx:a.eval x=encD d)
  (hK:∀ w',MapD w' M (L.eraseP fun p=>decide (d=p.1))→w.grownBy w' (some M)→wpList Tryz.prog ops Q rest (a.put o.dst (.tuple #[])) w') :
  wpList Tryz.prog ops Q (o :: rest) a w:=by
 refine wpList_plain hg fun K' hK'=>?_
 obtain⟨w',hrun,r1,r2⟩:=h.delete d o.type
 unfold Oper.wp
 simp [execOp,hop,resolve,invoke,builtin,hm,hx,hrun,Result.andThen]
 exact hK' _ _ (hK w' r1 r2)
theorem QdP (N:Nat)(l:List Ed)(hR:RightG (N:Int) l)(r:List (List Int))(hS:SysR N l r)(f:Nat)(cb:Array Value)(eg:∀ args w,(callFunc f args).run Tryz.prog w = .ok (.enter f args) w)(I:List (List Dt)→List Nat→World→Prop)(sv rv:Value)(w:World)(hl:Edges w.heap.size w sv l)(hr:Lsts w.heap.size w rv r)
  (hI0:I [] [] w) (hI:∀ fs bs A B,I fs bs A→StillR w.heap.size bs A B→I fs bs B) (hT:Tells w.heap.size f cb (keysR r N) I) :
  Calls Tryz.prog 105 #[.agg #[.int .i64 (N:Int),sv],rv,.func (.func f) #[] cb] w fun e w'=>e = .returned (.tuple #[])∧∃ bs,I (Qae (nxD r) (2*l.length+1) (Qal N l) (Qal N l).length).1 bs w':=by
 obtain⟨p,c,rfl⟩:=hl.len
 obtain⟨pr,cr,rfl⟩:=hr.len
 have hg1:Grew w (w.alloc (.cells #[.int .i64 (N:Int),.slice p l.length c] 24)):=(Grew.refl w).alloc _
 have hX1:Blk 24 (w.alloc (.cells #[.int .i64 (N:Int),.slice p l.length c] 24)) w.heap.size [.int .i64 (N:Int),.slice p l.length c]:=heap_alloc_new w _
 obtain⟨i0,hi,hz0,hz1,hz2⟩:=info_parts Qmq
 have hn1:=hR.n1
 have hm1:=hR.m1
 have q0:=hX1.cell (j:=0) rfl
 have q1:=hX1.cell (j:=1) rfl
 have hs1:(w.alloc (.cells #[.int .i64 (N:Int),.slice p l.length c] 24)).heap.size=w.heap.size+1:=by simp
 have hin:∀ x∈r,x.length≤4194304∧x.Nodup:=fun x hx=>by
  obtain⟨v,hv,rfl⟩:=List.getElem_of_mem hx
  have hvN:v<N:=by rw [← hS.len];exact hv
  have e:r.getD v []=r[v]:=by rw [YC,YB hv];rfl
  have h1:=hS.perm v hvN
  have h2:=hS.nodup hR hvN
  rw [e] at h1 h2
  refine⟨?_,h2⟩
  rw [h1.length_eq]
  exact Nat.le_trans (QaX _ _) hm1
 have hbe:=Qe7 r (by rw [hS.len];omega) hin (2*l.length) _ _ (hr.go hg1.below)
 have hrl:=hS.len
 rw [hrl,Qju hS hR YA,hs1] at hbe
 have e2:((2*l.length:Nat):Int)=2*(l.length:Int):=by omega
 rw [e2] at hbe
 rw [hrl]
 clear e2
 go_enter Tryz.func105,Tryz.ntmps105
 go_wp2
 go_step3
 go_wp2_with fail
 refine hbe.mono ?_
 clear hbe
 rintro e w2 ⟨rfl,hM2,hb2⟩
 have hX2:=hX1.below hb2 (by omega)
 have hbw2:Below w.heap.size w w2:=hg1.below.trans (hb2.mono (by omega))
 have x0:=hX2.cell (j:=0) rfl
 have x1:=hX2.cell (j:=1) rfl
 have hda:=QmS N l hR _ _ (hl.go hbw2)
 clear q0 q1 hX1 hg1 hb2 hs1
 go_wp2_with fail
 refine hda.mono ?_
 clear hda
 rintro e w3 ⟨dv,rfl,hD3,hb3⟩
 have hM3:MapD w3 (w.heap.size+1) (leftE (nxD r) (keysR r N)):=hM2.keep (hb3.block _ hM2.lt)
 have hm2:=hM2.lt
 have hb30:=hb3.size
 have hbw3:=hbw2.trans (hb3.mono hbw2.size)
 obtain⟨pd,cd,rfl⟩:=Qag hD3
 clear hX2 x0 x1 hM2 hb3 hbw2
 go_wp2
 go_step3
 go_wp2
 have HP:Hid (PermS (nxD r) (keysR r N)):=QiH hS hR
 have HDS:Hid (∀ d∈Qal N l,d∈keysR r N):=fun d h=>(QaL hS hR).2 h
 have HZ:Hid (((0:Int),(0:Int))∉keysR r N):=fun h=>QmT hR ((QaL hS hR).1 h)
 have hSl:(keysR r N).length=2*l.length:=by rw [QeJ hS YA,Qcn fun e he=>(hR.each e he).1]
 have hsl:=Qco hm1 N
 have hGo:Going (nxD r) (keysR r N) (Qal N l) (2*l.length+1) (keysR r N) [] (0,0) 0:=Going.start (QeI hS hR) (0,0) (Qal N l) (2*l.length+1)
 obtain⟨h0,hh0⟩:∃ h0,h0=w.heap.size:=⟨_,rfl⟩
 obtain⟨bd,hbd⟩:∃ bd,bd=w3.heap.size:=⟨_,rfl⟩
 have hLay:LayR h0 (bd+1) (h0+1) bd (.slice pd (Qal N l).length cd):=by
  refine⟨by omega,by omega,by have:=hbw3.size;omega,by omega,by omega,fun q hq=>?_⟩
  obtain⟨a1,a2⟩:=Qaz hD3 hq
  exact⟨by omega,by omega,by omega⟩
 have hbA:Below w3.heap.size w3 (w3.alloc (.cells #[.int .i64 0,.int .i64 0] 91)):=YD.alloc YA _
 have hRI0:RI (nxD r) (keysR r N) (Qal N l) (2*l.length+1) h0 (bd+1) (h0+1) bd (.slice pd (Qal N l).length cd) I (.slice none 0 0) 0 (w3.alloc (.cells #[.int .i64 0,.int .i64 0] 91)) (keysR r N) [] (0,0) 0 []:=by
  refine⟨hGo,.inl ⟨rfl,rfl,rfl,rfl⟩,?_,?_,?_,World.ownsRow_nil _ _ _ _,(fun q hq=>by simp [Value.ownBlock] at hq),(fun q hq=>by simp at hq),?_,(by rw [hbd];simp)⟩
  ·rw [hh0];exact hM3.keep (hbA.block _ (by omega))
  ·rw [hbd];exact heap_alloc_new w3 _
  ·exact QaW (QaU hD3 hbA) (by have:=hbw3.size;omega)
  ·refine hI _ _ _ _ hI0 ?_
   have h1:=hbw3.trans (hbA.mono hbw3.size)
   exact⟨h1.os,h1.tape,h1.output,h1.size,fun q hq _=>h1.block q hq⟩
 rw [← hh0] at hI hT ⊢
 rw [← hbd] at ⊢
 have hh2:h0≤bd+1:=by have:=hbw3.size;omega
 clear hM3 hD3 hGo hbA hI0 hbw3 hm2 hb30
 generalize w3.alloc (.cells #[.int .i64 0,.int .i64 0] 91)=w5 at hRI0 ⊢
 obtain⟨S,HSS⟩:∃ S,Hid (keysR r N=S):=⟨_,rfl⟩
 obtain⟨st,HST⟩:∃ st,Hid (Qal N l=st):=⟨_,rfl⟩
 obtain⟨nx,HNX⟩:∃ nx,Hid (nxD r=nx):=⟨_,rfl⟩
 rw [HSS.out] at HP HDS HZ hSl hRI0 hT
 rw [HST.out] at HDS hsl hLay hRI0 ⊢
 rw [HNX.out] at HP hRI0
 have HI:Hid _:=hI
 have HT:Hid _:=hT
 have HLay:Hid _:=hLay
 have HR0:Hid _:=hRI0
 clear hI hT hLay hRI0 hl hr hin hR hS hh0 hbd
 go_loopg [8,10] (S.length+st.length) (fun k fv bv wr=>∃ (begun:Nat) (left face:List Dt) (d:Dt) (j:Nat) (bs:List Nat),bv = .int .i64 (begun:Int)∧Hid (RI nx S st (2*l.length+1) h0 (bd+1) (h0+1) bd (.slice pd st.length cd) I fv begun wr left face d j bs)∧begun≤st.length∧left.length+(st.length-begun)≤k)
 case atStart=>exact⟨0,S,[],(0,0),0,[],rfl,HR0.out,YN,by omega⟩
 case round=>
  obtain⟨begun,left,face,d,j,bs,rfl,HRI,hbl,hms⟩:=hrel
  obtain⟨pf,cf,rfl⟩:=Qag HRI.out.fc
  have c0:=HRI.out.dc.cell (j:=0) rfl
  have c1:=HRI.out.dc.cell (j:=1) rfl
  have hlk:=HRI.out.map.lookup d
  rw [Ql4] at hlk
  by_cases hd:d∈left
  ·rw [if_pos hd] at hlk
   have hlk':(Instr.lookup 148 (.map (some (h0+1))) (.agg #[.int .i64 d.1,.int .i64 d.2]) true).run Tryz.prog wr = .ok (.tuple #[.agg #[.int .i64 (nx d).1,.int .i64 (nx d).2],.bool true]) wr:=hlk
   have Hd:Hid _:=hd
   have hpos:=List.length_pos_of_mem hd
   clear hlk hd
   have hbdl:bd<wr.heap.size:=HRI.out.dc.lt
   have hbdm:bd≠h0+1:=HLay.out.ne.symm
   have hbA:Below wr.heap.size wr (wr.alloc (.cells #[.int .i64 (nx d).1,.int .i64 (nx d).2] 91)):=YD.alloc YA _
   have hM1:MapD (wr.alloc (.cells #[.int .i64 (nx d).1,.int .i64 (nx d).2] 91)) (h0+1) (leftE nx left):=HRI.out.map.keep (hbA.block _ HRI.out.map.lt)
   have hB1:Blk 91 (wr.alloc (.cells #[.int .i64 (nx d).1,.int .i64 (nx d).2] 91)) wr.heap.size [.int .i64 (nx d).1,.int .i64 (nx d).2]:=heap_alloc_new wr _
   have hD1:=HRI.out.dc.go hbA
   have hF1:=QaU HRI.out.fc hbA
   have hml:=HRI.out.map.lt
   have HbA:Hid _:=hbA
   go_wp2_with (at_delete;refine Qhv _ rfl _ _ rfl (h0+1) (leftE nx left) d rfl hM1 rfl ?_)
   intro w6 hM6 hg6
   rw [QmO] at hM6
   have hD6:=hD1.grown hg6 (by simp;omega)
   have hB6:=hB1.grown hg6 (by simp;omega)
   have hF6:w6.ownsRow (bd+1) 91 2 (.slice pf face.length cf) face.length (flatD face):=Qau hF1 hg6 (by
    rcases QlC (.slice pf face.length cf) with h1 | h1
    ·exact .inl h1
    ·refine .inr fun e=>?_
     have:=(Qaz hF1 e).1
     have:=HLay.out.m2
     omega)
   have d0:=hD6.cell (j:=0) rfl
   have d1:=hD6.cell (j:=1) rfl
   have hbd6:bd<w6.heap.size:=hD6.lt
   have hbh6:wr.heap.size<w6.heap.size:=hB6.lt
   clear hM1 hB1 hD1 hF1 c0 c1 hlk' hbA
   have hfl:face.length≤8388608:=by have:=HRI.out.go.len;omega
   have hmx:face.length+1≤maxLen:=by unfold maxLen;omega
   have hby:(face.length+1)*16≤140737488355328:=by omega
   have hnews:=newsD (w:=w6) (t:=91) d
   have hone:=oneD d
   have hownA:=hF6.alloc (.cells #[.int .i64 d.1,.int .i64 d.2] 91)
   have hbs:bd+1≤(w6.alloc (.cells #[.int .i64 d.1,.int .i64 d.2] 91)).heap.size:=by simp;omega
   go_wp2_with (at_builtin;refine wpList_append_own_at _ rfl _ _ 92 rfl (bd+1) 91 i0 (.agg #[.int .i64 0,.int .i64 0]) 2 16 Tryz.underlying92 hi hz0 hz1 hz2 rfl (by decide) (.slice pf face.length cf) _ _ rfl hownA ⟨w6.heap.size,0,none⟩ 1 1 (encDc d) rfl rfl hnews hone hmx hby hbs ?_)
   intro v7 w7 hown7 hg7 hnil7 hat7
   obtain⟨a7,m7,k7,rfl⟩:=QaB hown7
   have hbA6:w6.grownBy (w6.alloc (.cells #[.int .i64 d.1,.int .i64 d.2] 91)) (Value.slice pf face.length cf).ownBlock:=World.grownBy_alloc _ _ _
   have hg67:=hbA6.trans hg7
   have hnb:∀ q,q<bd+1→some q≠(Value.slice pf face.length cf).ownBlock:=fun q hq e=>by
    have:=(Qaz hF6 e.symm).1
    omega
   have hM7:MapD w7 (h0+1) (leftE nx (left.erase d)):=hM6.keep (hg67.block _ hM6.lt (hnb _ HLay.out.m2))
   have hD7:=hD6.grown hg67 (hnb _ (by omega))
   have hB7:=hB6.grown hg67 (fun e=>by
    have:=(Qaz HRI.out.fc e.symm).2
    omega)
   have b0:=hB7.cell (j:=0) rfl
   have b1:=hB7.cell (j:=1) rfl
   have f0:=hD7.frozen 0
   have f1:=(hD7.set 0 (.int .i64 (nx d).1)).frozen 1
   have g0:=hD7.cell (j:=0) rfl
   have g1:=(hD7.set 0 (.int .i64 (nx d).1)).cell (j:=1) rfl
   have hD8:=(hD7.set 0 (.int .i64 (nx d).1)).set 1 (.int .i64 (nx d).2)
   have HC:Hid (Chg (XR (h0+1) bd (.slice pf face.length cf)) wr ((w7.setCell ⟨bd,0,none⟩ (.int .i64 (nx d).1)).setCell ⟨bd,1,none⟩ (.int .i64 (nx d).2))):=by
    refine ((((Chg.of_below HbA.out).trans (Chg.of_grown hg6 fun q e=>?_)).trans (Chg.of_grown hg67 fun q e=>?_)).trans (Chg.of_set (p:=⟨bd,0,none⟩) ?_ _)).trans (Chg.of_set (p:=⟨bd,1,none⟩) ?_ _)
    ·exact .inl (Option.some.inj e).symm
    ·exact .inr (.inr e)
    ·exact .inr (.inl rfl)
    ·exact .inr (.inl rfl)
   have hbn:bd≠wr.heap.size:=by omega
   have HM8:Hid (MapD ((w7.setCell ⟨bd,0,none⟩ (.int .i64 (nx d).1)).setCell ⟨bd,1,none⟩ (.int .i64 (nx d).2)) (h0+1) (leftE nx (left.erase d))):=hM7.keep ((Below.heap_setCell _ _ _ _ (by simp;omega)).trans (Below.heap_setCell _ _ _ _ (by simp;omega)))
   have HF8:Hid (((w7.setCell ⟨bd,0,none⟩ (.int .i64 (nx d).1)).setCell ⟨bd,1,none⟩ (.int .i64 (nx d).2)).ownsRow (bd+1) 91 2 (.slice a7 m7 k7) (face++[d]).length (flatD (face++[d]))):=by
    rw [Hid,YI,QfA]
    exact Qaf (Qaf hown7 (by simp) _) (by simp) _
   have HV:Hid ((Value.slice a7 m7 k7).ownBlock=(Value.slice pf face.length cf).ownBlock∨∃ q,(Value.slice a7 m7 k7).ownBlock=some q∧wr.heap.size≤q):=by
    rcases hat7 with h1 | h1
    ·exact .inl h1
    ·exact .inr ⟨_,h1,by omega⟩
   have HD8:Hid _:=hD8
   clear hown7 hg7 hnil7 hat7 hownA hnews hone hmx hby hbs hM6 hM7 hD6 hD7 hB6 hB7 hF6 hg6 hg67 hnb hbA6 hD8 d0 d1
   go_wp2
   go_roundg (gk-1)
   case measure=>omega
   case rel=>
    have h:=HRI.out
    have hd:=Hd.out
    have hdS:d∈S:=(h.go.all d).2 (.inl hd)
    have hph:begun=j+1∧j<st.length∧(face=[]→d=st.getD j (0,0)):=by
     rcases h.ph with ⟨_,_,_,e⟩ | ⟨e1,e2,_,e3⟩
     ·rw [e] at hdS
      exact absurd hdS HZ.out
     ·exact⟨e1,e2,e3⟩
    refine⟨begun,left.erase d,face++[d],nx d,j,bs,rfl,h.turn HI.out HLay.out HC.out (h.go.take hd hph.2.2) (.inr ⟨hph.1,hph.2.1,HP.out.mem d hdS,fun e=>by simp at e⟩) HM8.out HD8.out HF8.out HV.out,hbl,?_⟩
    rw [List.length_erase_of_mem hd]
    omega
  ·rw [if_neg hd] at hlk
   have hlk':(Instr.lookup 148 (.map (some (h0+1))) (.agg #[.int .i64 d.1,.int .i64 d.2]) true).run Tryz.prog wr = .ok (.tuple #[.agg #[.int .i64 0,.int .i64 0],.bool false]) wr:=hlk
   have hbA:Below wr.heap.size wr (wr.alloc (.cells #[.int .i64 0,.int .i64 0] 91)):=YD.alloc YA _
   clear hlk
   by_cases hf:face=[]
   ·subst hf
    have HDN:Hid _:=HRI.out.none HI.out HLay.out hd hbA
    have hbdl:bd<wr.heap.size:=HRI.out.dc.lt
    have f0:=HRI.out.dc.frozen 0
    have f1:=HRI.out.dc.frozen 1
    by_cases hbe:begun=st.length
    ·have hbe':((begun:Int)==(st.length:Int))=true:=by rw [beq_iff_eq];omega
     have HFIN:Hid (I (Qae nx (2*l.length+1) st st.length).1 bs (wr.alloc (.cells #[.int .i64 0,.int .i64 0] 91))):=by rw [Hid,← hbe];exact HDN.out.inv
     clear hbe hd hbA HRI HDN
     go_wp2
     simp only [Exit.noGoto]
     refine bodyPost_end (results_none rfl _ _ _) rfl ?_
     exact⟨rfl,bs,by rw [HNX.out,HST.out];exact HFIN.out⟩
    ·have hbe':((begun:Int)==(st.length:Int))=false:=by rw [beq_eq_false_iff_ne];omega
     have hblt:begun<st.length:=by omega
     have hbl':(begun:Int)<(st.length:Int):=by omega
     obtain⟨sb,so,hps,hsb,hsc,s0,s1⟩:=(Drts.of_owns HRI.out.st).cellAt hblt
     have HGD:Hid (st[begun]=st.getD begun (0,0)):=by rw [Hid,YC,YB hblt];rfl
     have HDM:Hid (st[begun]∈S):=HDS.out _ (YG hblt)
     generalize st[begun]=d2 at *
     have hnxt:=HDN.out.next HI.out HLay.out hblt HGD.out HDM.out
     rw [World.setCell_alloc_past (hn:=hbdl),World.setCell_alloc_past (hn:=by simp;exact hbdl)] at hnxt
     have HNXT:Hid _:=hnxt
     clear hnxt
     have hsbd:sb≠bd:=(HLay.out.st sb (by rw [hps];rfl)).2.2
     clear hbe hd hbA HRI HDN
     subst hps
     go_wp2
     go_roundg (gk-1)
     case measure=>omega
     case rel=>exact⟨begun+1,left,[],d2,begun,bs,by go_num,HNXT.out,by omega,by omega⟩
   ·have hfp:0<face.length:=List.length_pos_iff.2 hf
    have hfp':(0:Int)<(face.length:Int):=by omega
    have hRI:=HRI.out
    have hR1:=hRI.turn HI.out HLay.out (Chg.of_below hbA) hRI.go hRI.ph (hRI.map.keep (hbA.block _ hRI.map.lt)) (hRI.dc.go hbA) (QaU hRI.fc hbA) (.inl rfl)
    have hbdl:bd<wr.heap.size:=hRI.dc.lt
    obtain⟨gf,cf',hpf⟩:=QcU hRI.fc hfp
    simp only [Value.slice.injEq] at hpf
    obtain⟨rfl,_,rfl⟩:=hpf
    have hfl:((Qae nx (2*l.length+1) st j).1.map List.length).sum+face.length≤8388608:=by rw [Qdl];have:=hRI.go.len;omega
    have hcall:=HT.out (Qae nx (2*l.length+1) st j).1 bs face _ _ hR1.inv (fun q hq=>⟨Nat.le_trans hh2 (hR1.bsr q hq).1,(hR1.bsr q hq).2⟩) (Nat.le_trans hh2 hR1.sz) hf (fun x hx=>(hRI.go.all x).2 (.inr (.inl hx))) hfl (QaW hR1.fc hh2) hR1.ap
    have HR1:Hid _:=hR1
    have Hf:Hid _:=hf
    have Hd:Hid _:=hd
    clear hRI hR1 HRI hf hd hbA hfp
    go_wp2_with fail
    refine hcall.mono ?_
    clear hcall
    rintro e w6 ⟨rfl,bs',hI6,hT6⟩
    have HDN:Hid _:=HR1.out.toldD HP.out (by omega) HLay.out hh2 Hf.out Hd.out hT6 hI6
    clear HR1 hI6 hT6 Hf Hd c0 c1 hlk'
    by_cases hbe:begun=st.length
    ·have hbe':((begun:Int)==(st.length:Int))=true:=by rw [beq_iff_eq];omega
     have HFIN:Hid (I (Qae nx (2*l.length+1) st st.length).1 bs' w6):=by rw [Hid,← hbe];exact HDN.out.inv
     clear hbe HDN
     go_wp2
     simp only [Exit.noGoto]
     refine bodyPost_end (results_none rfl _ _ _) rfl ?_
     exact⟨rfl,bs',by rw [HNX.out,HST.out];exact HFIN.out⟩
    ·have hbe':((begun:Int)==(st.length:Int))=false:=by rw [beq_eq_false_iff_ne];omega
     have hblt:begun<st.length:=by omega
     have hbl':(begun:Int)<(st.length:Int):=by omega
     obtain⟨sb,so,hps,hsb,hsc,s0,s1⟩:=(Drts.of_owns HDN.out.st).cellAt hblt
     have HGD:Hid (st[begun]=st.getD begun (0,0)):=by rw [Hid,YC,YB hblt];rfl
     have HDM:Hid (st[begun]∈S):=HDS.out _ (YG hblt)
     generalize st[begun]=d2 at *
     have g0:=HDN.out.dc.cell (j:=0) rfl
     have g1:=(HDN.out.dc.set 0 (.int .i64 d2.1)).cell (j:=1) rfl
     have f0:=HDN.out.dc.frozen 0
     have f1:=(HDN.out.dc.set 0 (.int .i64 d2.1)).frozen 1
     have HNXT:Hid _:=HDN.out.next HI.out HLay.out hblt HGD.out HDM.out
     have hsbd:sb≠bd:=(HLay.out.st sb (by rw [hps];rfl)).2.2
     clear hbe HDN
     subst hps
     go_wp2
     go_roundg (gk-1)
     case measure=>omega
     case rel=>exact⟨begun+1,left,[],d2,begun,bs',by go_num,HNXT.out,by omega,by omega⟩
structure GrpD (h0:Nat)(lv:Value)(svs:List Value)(pre:List (List Dt))(W:World):Prop where
 len:svs.length=pre.length
 own:W.ownsRow h0 92 1 lv svs.length svs
 inn:∀ (k:Nat) (sv:Value) (xs:List Dt),svs[k]? = some sv→pre[k]? = some xs→W.ownsRow h0 91 2 sv xs.length (flatD xs)
 apart:∀ (k j:Nat) (sv sv':Value),svs[k]? = some sv→svs[j]? = some sv'→k≠j→sv.ownBlock=none∨sv.ownBlock≠sv'.ownBlock
 outer:∀ (k:Nat) (sv:Value),svs[k]? = some sv→sv.ownBlock=none∨sv.ownBlock≠lv.ownBlock
theorem GrpD.start (h0:Nat)(W:World):GrpD h0 (.slice none 0 0) [] [] W:=
 ⟨rfl,World.ownsRow_nil _ _ _ _,fun k sv xs h=>by simp at h,fun k j sv sv' h=>by simp at h,fun k sv h=>by simp at h⟩
theorem GrpD.go {h0:Nat}{lv:Value}{svs:List Value}{pre:List (List Dt)}{A B:World}(h:GrpD h0 lv svs pre A)(hb:Below A.heap.size A B):GrpD h0 lv svs pre B:=by
 have hk:∀ {e:TypeId} {size:Nat} {v:Value} {n:Nat} {xs:List Value},A.ownsRow h0 e size v n xs→B.ownsRow h0 e size v n xs:=fun {e size v n xs} ho=>by
  refine Qau ho (grown_below' hb none) ?_
  cases v.ownBlock with
  | none=>exact .inl rfl
  | some k=>exact .inr (by simp)
 exact⟨h.len,hk h.own,fun k sv xs h1 h2=>hk (h.inn k sv xs h1 h2),h.apart,h.outer⟩
theorem GrpD.low {h0:Nat}{lv:Value}{svs:List Value}{pre:List (List Dt)}{W:World}(h:GrpD h0 lv svs pre W){p:Addr}(hp:p.block<h0)(u:Value):GrpD h0 lv svs pre (W.setCell p u):=
 ⟨h.len,Qaf h.own hp u,fun k sv xs h1 h2=>Qaf (h.inn k sv xs h1 h2) hp u,h.apart,h.outer⟩
theorem GrpD.add {h0:Nat}{lv lv' sv:Value}{svs:List Value}{pre:List (List Dt)}{W A B:World}{o:Obj}{xs:List Dt}(h:GrpD h0 lv svs pre W)(hh:h0≤W.heap.size)(hA:Below W.heap.size W A)(hs:A.ownsRow W.heap.size 91 2 sv xs.length (flatD xs))
  (hB:B.ownsRow h0 92 1 lv' (svs.length+1) (svs++[sv])) (hg:(A.alloc o).grownBy B lv.ownBlock) (hat:lv'.ownBlock=lv.ownBlock∨lv'.ownBlock=some (A.alloc o).heap.size):GrpD h0 lv' (svs++[sv]) (pre++[xs]) B:=by
 have hA':=h.go hA
 have hkA:∀ {e:TypeId} {size:Nat} {v:Value} {n:Nat} {zs:List Value},A.ownsRow h0 e size v n zs→(v.ownBlock=none∨v.ownBlock≠lv.ownBlock)→B.ownsRow h0 e size v n zs:=fun {e size v n zs} ho hne=>Qau (World.ownsRow.alloc ho o) hg hne
 have hlen:=h.len
 have far:∀ {e:TypeId} {size:Nat} {x:Value} {n:Nat} {zs:List Value},W.ownsRow h0 e size x n zs→sv.ownBlock=none∨sv.ownBlock≠x.ownBlock:=fun {e size x n zs} ho=>by
  cases hv:sv.ownBlock with
  | none=>exact .inl rfl
  | some b=>
   refine .inr fun e=>?_
   have h1:=(hs.lt b hv).1
   have h2:=(ho.lt b e.symm).2
   omega
 have far':∀ {e:TypeId} {size:Nat} {x:Value} {n:Nat} {zs:List Value},W.ownsRow h0 e size x n zs→x.ownBlock=none∨x.ownBlock≠sv.ownBlock:=fun {e size x n zs} ho=>by
  cases hv:x.ownBlock with
  | none=>exact .inl rfl
  | some b=>
   refine .inr fun e=>?_
   have h1:=(hs.lt b e.symm).1
   have h2:=(ho.lt b hv).2
   omega
 have split:∀ {k:Nat} {x:Value},(svs++[sv])[k]? = some x→(k<svs.length∧svs[k]? = some x)∨(k=svs.length∧x=sv):=fun {k x} hx=>by
  rw [List.getElem?_append] at hx
  by_cases hk:k<svs.length
  ·rw [if_pos hk] at hx
   exact .inl ⟨hk,hx⟩
  ·rw [if_neg hk] at hx
   have h1:=(YE hx).1
   simp at h1
   have h2:k=svs.length:=by omega
   subst h2
   simp at hx
   exact .inr ⟨rfl,hx.symm⟩
 have row:∀ {k:Nat} {x:Value},svs[k]? = some x→∃ zs:List Dt,W.ownsRow h0 91 2 x zs.length (flatD zs):=fun {k x} hx=>by
  have hk:=(YE hx).1
  exact⟨_,h.inn k x _ hx (YB (by omega))⟩
 have new:∀ {e:TypeId} {size:Nat} {x:Value} {n:Nat} {zs:List Value},A.ownsRow h0 e size x n zs→x.ownBlock=none∨x.ownBlock≠some (A.alloc o).heap.size:=fun {e size x n zs} ho=>QhX ho (by simp)
 refine⟨by simp [hlen],by rw [YI];exact hB,?_,?_,?_⟩
 ·intro k x zs hx hp
  rcases split hx with ⟨hk,hy⟩ | ⟨rfl,rfl⟩
  ·rw [List.getElem?_append_left (by omega)] at hp
   exact hkA (hA'.inn k x zs hy hp) (h.outer k x hy)
  ·rw [hlen,List.getElem?_append_right YA,Nat.sub_self] at hp
   simp at hp
   subst hp
   exact hkA (QaW hs hh) (far h.own)
 ·intro k j x x' hx hx' hkj
  rcases split hx with ⟨hk,hy⟩ | ⟨rfl,rfl⟩
  ·rcases split hx' with ⟨hj,hy'⟩ | ⟨rfl,rfl⟩
   ·exact h.apart k j x x' hy hy' hkj
   ·obtain⟨zs,hz⟩:=row hy
    exact far' hz
  ·rcases split hx' with ⟨hj,hy'⟩ | ⟨rfl,rfl⟩
   ·obtain⟨zs,hz⟩:=row hy'
    exact far hz
   ·exact absurd rfl hkj
 ·intro k x hx
  rcases split hx with ⟨hk,hy⟩ | ⟨rfl,rfl⟩
  ·rcases hat with e | e
   ·rw [e];exact h.outer k x hy
   ·rw [e]
    exact new (hA'.inn k x _ hy (YB (by omega)))
  ·rcases hat with e | e
   ·rw [e];exact far h.own
   ·rw [e]
    exact new (QaW hs hh)
theorem Qp1:(Tryz.prog.info? 92).map (fun i=>(i.zero,i.size,i.bytes))=some (some (.slice none 0 0),1,24):=by kernel_rfl
theorem GrpD.lts {h0:Nat}{lv:Value}{svs:List Value}{pre:List (List Dt)}{W:World}(h:GrpD h0 lv svs pre W){sv:Value}(hs:sv∈svs){q:Nat}(hq:sv.ownBlock=some q):h0≤q∧q<W.heap.size:=by
 obtain⟨k,hk⟩:=List.getElem?_of_mem hs
 have hlt:=(YE hk).1
 exact Qaz (h.inn k sv _ hk (YB (by rw [← h.len];exact hlt))) hq
theorem GrpD.base {h0 h1:Nat}{lv:Value}{svs:List Value}{pre:List (List Dt)}{W:World}(h:GrpD h0 lv svs pre W)(hh:h1≤h0):GrpD h1 lv svs pre W:=
 ⟨h.len,QaW h.own hh,fun k sv xs h1 h2=>QaW (h.inn k sv xs h1 h2) hh,h.apart,h.outer⟩
theorem Qbm:∀ L:List Dt,(flatD L).length=L.length*2
 | []=>rfl
 | d :: L=>by
  have e:flatD (d :: L)=[.int .i64 d.1,.int .i64 d.2]++flatD L:=rfl
  rw [e,YI,Qbm L,List.length_cons]
  simp
  omega
theorem Qij {n:Nat}{w:World}{b off c:Nat}{L:List Dt}(h:Drts n w (.slice (some ⟨b,off,none⟩) L.length c) L):∀ (j:Nat) (u:Value),(flatD L)[j]? = some u→w.cell? ((⟨b,off,none⟩:Addr).add j)=some u:=by
 intro j u hu
 have hj:=(YE hu).1
 rw [Qbm] at hj
 have hi:j / 2<L.length:=by omega
 obtain⟨b',off',e,_,_,c0,c1⟩:=h.cellAt hi
 simp only [Option.some.injEq,Addr.mk.injEq,and_true] at e
 obtain⟨rfl,rfl⟩:=e
 obtain⟨k0,k1⟩:=QbV (YB hi)
 rw [Go.WideShapes.add_plain]
 rcases Nat.mod_two_eq_zero_or_one j with h0 | h0
 ·have e:j=j / 2*2:=by omega
  rw [← e] at k0 c0
  rw [hu] at k0
  rw [Option.some.inj k0]
  exact c0
 ·have e:j=j / 2*2+1:=by omega
  rw [← e] at k1
  rw [hu] at k1
  rw [Option.some.inj k1]
  rw [Nat.add_assoc,← e] at c1
  exact c1
theorem QmD:∀ (L:List Dt) ,∀ u∈flatD L,u.oneCell'=true:=by
 intro L u hu
 unfold flatD at hu
 obtain⟨d,_,h⟩:=List.mem_flatMap.1 hu
 exact oneD d u h
theorem QkC (L:List Dt)(hL:L.length≤8388608)(hne:L≠[])(sv:Value)(w:World)(h:Drts w.heap.size w sv L):
  Calls Tryz.prog 107 #[sv] w fun e w'=>∃ v',e = .returned v'∧w'.ownsRow w.heap.size 91 2 v' L.length (flatD L)∧Below w.heap.size w w':=by
 obtain⟨p,c,rfl⟩:=h.len
 have hpos:=List.length_pos_iff.2 hne
 obtain⟨b,off,rfl,hbb,hcap,_,_⟩:=h.cellAt hpos
 obtain⟨i0,hi,hz0,hz1,hz2⟩:=info_parts Qmq
 have hbA:Below w.heap.size w (w.alloc (.cells #[] 91)):=YD.alloc YA _
 have hB:Blk 91 (w.alloc (.cells #[] 91)) w.heap.size []:=heap_alloc_new w _
 have hown:(w.alloc (.cells #[] 91)).ownsRow w.heap.size 91 2 (.slice (some ⟨w.heap.size,0,none⟩) 0 0) 0 []:=⟨by simp,.inr ⟨w.heap.size,0,#[],rfl,YA,hB,YA,by unfold maxLen;omega,rfl,rfl⟩⟩
 have heq:(binOp .eql 92 (.slice (some ⟨b,off,none⟩) L.length c) (.slice none 0 0)).run Tryz.prog w = .ok (.bool false) w:=by rfl
 have hnews:=Qij (h.go hbA)
 have hone:=QmD L
 have hfl:=Qbm L
 have hmx:0+L.length≤maxLen:=by unfold maxLen;omega
 have hby:(0+L.length)*16≤140737488355328:=by omega
 have hbs:w.heap.size≤(w.alloc (.cells #[] 91)).heap.size:=by simp
 go_enter Tryz.func107,Tryz.ntmps107
 go_wp2_with (at_builtin;refine wpList_append_own_at _ rfl _ _ 92 rfl w.heap.size 91 i0 (.agg #[.int .i64 0,.int .i64 0]) 2 16 Tryz.underlying92 hi hz0 hz1 hz2 rfl (by decide) (.slice (some ⟨w.heap.size,0,none⟩) 0 0) _ _ rfl hown ⟨b,off,none⟩ L.length c (flatD L) rfl hfl hnews hone hmx hby hbs ?_)
 intro v7 w7 hown7 hg7 hnil7 hat7
 obtain⟨a7,m7,k7,rfl⟩:=QaB hown7
 have hb7:Below w.heap.size w w7:=hbA.grown hg7 hbs (fun k e=>(hown.lt k e).1)
 have HO:Hid _:=hown7
 clear hown7 hg7 hnil7 hat7 hnews hone hfl hown
 go_wp2
 go_ret
 exact⟨.slice a7 m7 k7,rfl,HO.out,hb7⟩
structure IF (w0:World)(h0 fb:Nat)(fs:List (List Dt))(bs:List Nat)(W:World)(lv:Value)(svs:List Value):Prop where
 grp:GrpD h0 lv svs fs W
 var:Blk 75 W fb [lv]
 inl:∀ q,lv.ownBlock=some q→q∈bs
 ins:∀ sv∈svs,∀ q,sv.ownBlock=some q→q∈bs
 os:W.os=w0.os
 tape:W.tape=w0.tape
 output:W.output=w0.output
 size:h0≤W.heap.size
 low:∀ q,q<h0→q≠fb→W.heap[q]? = w0.heap[q]?
 few:fs.length≤(fs.map List.length).sum
theorem GrpD.same {h0:Nat}{lv:Value}{svs:List Value}{pre:List (List Dt)}{A B:World}(h:GrpD h0 lv svs pre A)(h1:∀ q,lv.ownBlock=some q→B.heap[q]? = A.heap[q]?)(h2:∀ sv∈svs,∀ q,sv.ownBlock=some q→B.heap[q]? = A.heap[q]?):GrpD h0 lv svs pre B:=
 ⟨h.len,Qbf h.own h1,fun k sv xs hk hp=>Qbf (h.inn k sv xs hk hp) (h2 sv (YK hk)),h.apart,h.outer⟩
theorem IF.still {w0:World}{h0 fb:Nat}(hfb:fb<h0){fs:List (List Dt)}{bs:List Nat}{A B:World}{lv:Value}{svs:List Value}(h:IF w0 h0 fb fs bs A lv svs)(hS:StillR h0 bs A B):IF w0 h0 fb fs bs B lv svs:=by
 refine⟨h.grp.same (fun q hq=>hS.block q (Qaz h.grp.own hq).2 (.inr (h.inl q hq))) (fun sv hs q hq=>hS.block q (h.grp.lts hs hq).2 (.inr (h.ins sv hs q hq))),(hS.block fb h.var.lt (.inl hfb)).trans h.var,h.inl,h.ins,hS.os.trans h.os,hS.tape.trans h.tape,hS.output.trans h.output,Nat.le_trans h.size hS.size,fun q hq hne=>(hS.block q (Nat.lt_of_lt_of_le hq h.size) (.inl hq)).trans (h.low q hq hne),h.few⟩
theorem Qhg (w0:World)(h0 fb:Nat)(hfb:fb<h0)(S:List Dt):Tells h0 106 #[.pointer (some ⟨fb,0,none⟩)] S (fun fs bs W=>∃ lv svs,IF w0 h0 fb fs bs W lv svs):=by
 intro fs bs face fv W hIF hbs hsz hne hfS hsum hfo hap
 obtain⟨lv,svs,hIF⟩:=hIF
 obtain⟨i0,hi,hz0,hz1,hz2⟩:=info_parts Qp1
 have hfp:=List.length_pos_iff.2 hne
 have hc0:=hIF.var.cell (j:=0) rfl
 obtain⟨pl,cl,rfl⟩:=Qag hIF.grp.own
 have hfew:=hIF.few
 have hlen:=hIF.grp.len
 have hmx:svs.length+1≤maxLen:=by unfold maxLen;omega
 have hby:(svs.length+1)*24≤140737488355328:=by omega
 clear hlen hfew
 have hmix:=mixed
 have hcl:=QkC face (by omega) hne fv
 show Calls Tryz.prog 106 #[fv,.pointer (some ⟨fb,0,none⟩)] W _
 obtain⟨pf,cf,rfl⟩:=Qag hfo
 have HIF:Hid _:=hIF
 have HFO:Hid _:=hfo
 have HBS:Hid _:=hbs
 clear hIF hfo hbs hap hfS
 go_enter Tryz.func106,Tryz.ntmps106
 go_wp2
 refine Qah (S:=(fun w':World=>w'.cell? ⟨fb,0,none⟩=some (.slice pl svs.length cl))) (by kernel_rfl) ?_ (fun hHeld=>?_)
 ·(try dsimp only);go_keep
 refine tL 0 ?_
 try simp only [YS]
 refine tL 1 ?_
 have hbd:Below W.heap.size W W.drew:=Qab YD 1
 generalize W.drew=wd at *
 refine Qad (rs:=[2]) (by kernel_rfl) (by simp) ?_
 refine AllReadyL.cons rfl (fun K hK=>?_) AllReadyL.nil
 go_simp
 refine (hcl wd ((Drts.of_owns HFO.out).go hbd)).mono ?_
 rintro e w4 ⟨v4,rfl,hO4,hb4⟩
 have hb34:=hbd.trans (hb4.mono hbd.size)
 have c4:=Qaa hb34 hc0
 refine hK.out _ _ c4 (fun hHeld4=>?_)
 clear hK K hHeld
 obtain⟨p4,k4,rfl⟩:=Qag hO4
 try simp only [Act.put,YS,YT,YU]
 have hb4A:Below w4.heap.size w4 (w4.alloc (.cells #[.slice p4 face.length k4] 92)):=YD.alloc YA _
 have hG4:=HIF.out.grp.go hb34
 have hownA:=QaU hG4.own hb4A
 have hnw:Src (w4.alloc (.cells #[.slice p4 face.length k4] 92)) (.slice (some ⟨w4.heap.size,0,none⟩) 1 1) 1 1 [.slice p4 face.length k4]:=.inr ⟨⟨w4.heap.size,0,none⟩,1,rfl,rfl,Qci w4 (.slice p4 face.length k4) 92,fun z hz=>by rw [YF hz];rfl⟩
 have hsz4:h0≤(w4.alloc (.cells #[.slice p4 face.length k4] 92)).heap.size:=by have:=hb34.size;simp;omega
 have hfb4:fb<w4.heap.size:=by have:=hb34.size;omega
 refine Qad (rs:=[3]) (by kernel_rfl) (by simp) ?_
 refine AllReadyL.cons rfl (fun K hK=>?_) AllReadyL.nil
 go_simp
 refine hK.out _ _ (Qaa hb4A c4) (fun hHeld5=>?_)
 clear hK K
 try simp only [Act.put,YS,YT,YU]
 refine Qad (rs:=[4]) (by kernel_rfl) (by simp) ?_
 refine AllReadyL.cons rfl (fun K hK=>?_) AllReadyL.nil
 refine Qap rfl _ _ 75 rfl h0 92 i0 (.slice none 0 0) 1 24 Tryz.underlying75 hi hz0 hz1 hz2 rfl (by decide) (.slice pl svs.length cl) svs.length svs rfl hownA (.slice (some ⟨w4.heap.size,0,none⟩) 1 1) 1 [.slice p4 face.length k4] rfl hnw hmx hby hsz4 ?_
 intro v8 w8 ho8 hg8 hat8
 obtain⟨a8,m8,k8,rfl⟩:=QaB ho8
 have hlvb:∀ q,(Value.slice pl svs.length cl).ownBlock=some q→h0≤q:=fun q hq=>(Qaz hownA hq).1
 have hV8:Blk 75 w8 fb [.slice pl svs.length cl]:=(hg8.block fb (by simp;omega) (fun e=>by have:=hlvb fb e.symm;omega)).trans ((HIF.out.var.go hb34).go hb4A)
 refine hK.out _ _ (hV8.cell (j:=0) rfl) (fun hHeld8=>?_)
 clear hK K
 try simp only [Act.put,YS]
 have g0:=hV8.cell (j:=0) rfl
 have f0:=hV8.frozen 0
 have hV9:=hV8.set 0 (.slice a8 m8 k8)
 have hb3A:=hb34.trans (hb4A.mono hb34.size)
 have hsz8:=hg8.size
 have hszA:=hb3A.size
 have hG9:GrpD h0 (.slice a8 m8 k8) (svs++[.slice p4 face.length k4]) (fs++[face]) (w8.setCell ⟨fb,0,none⟩ (.slice a8 m8 k8)):=GrpD.low (HIF.out.grp.add HIF.out.size hb34 (QaW hO4 hbd.size) ho8 hg8 hat8) (by simp;omega) _
 have HFIN:Hid (∃ bs',(∃ lv svs,IF w0 h0 fb (fs++[face]) bs' (w8.setCell ⟨fb,0,none⟩ (.slice a8 m8 k8)) lv svs)∧ToldR h0 bs bs' W (w8.setCell ⟨fb,0,none⟩ (.slice a8 m8 k8))):=by
  have h:=HIF.out
  refine⟨bs++((Value.slice p4 face.length k4).ownBlock.toList++(Value.slice a8 m8 k8).ownBlock.toList),⟨_,_,hG9,hV9,fun q hq=>by rw [hq];simp,fun sv hs q hq=>?_,?_,?_,?_,?_,fun q hq hne=>?_,?_⟩,?_,fun q h1 h2 h3=>?_,fun q hq=>?_,fun q hq=>?_⟩
  ·rcases YJ hs with h1 | h1
   ·exact List.mem_append_left _ (h.ins sv h1 q hq)
   ·rw [YF h1] at hq
    rw [hq]
    simp
  ·exact (hg8.os.trans hb3A.os).trans h.os
  ·exact (hg8.tape.trans hb3A.tape).trans h.tape
  ·exact (hg8.output.trans hb3A.output).trans h.output
  ·simp;omega
  ·have e1:(w8.setCell ⟨fb,0,none⟩ (.slice a8 m8 k8)).heap[q]? = w8.heap[q]?:=Below.heap_setCell _ _ _ _ (by simpa using hne)
   rw [e1,hg8.block q (by omega) (fun e=>by have:=hlvb q e.symm;omega),hb3A.block q (by omega)]
   exact h.low q hq hne
  ·rw [List.map_append,List.sum_append,YI]
   have:=h.few
   simp
   omega
  ·simp;omega
  ·have e1:(w8.setCell ⟨fb,0,none⟩ (.slice a8 m8 k8)).heap[q]? = w8.heap[q]?:=Below.heap_setCell _ _ _ _ (by simp;omega)
   rw [e1,hg8.block q (by omega) (fun e=>h3 (h.inl q e.symm)),hb3A.block q h2]
  ·rcases YJ hq with h1 | h1
   ·exact .inl h1
   ·rcases YJ h1 with h2 | h2
    ·right
     have e:(Value.slice p4 face.length k4).ownBlock=some q:=by simpa using h2
     have:=(Qaz hO4 e).1
     have:=hbd.size
     omega
    ·have e:(Value.slice a8 m8 k8).ownBlock=some q:=by simpa using h2
     rcases hat8 with h3 | h3
     ·rw [h3] at e
      exact .inl (h.inl q e)
     ·rw [h3] at e
      have:=Option.some.inj e
      right
      omega
  ·have hs:(w8.setCell ⟨fb,0,none⟩ (.slice a8 m8 k8)).heap.size=w8.heap.size:=by simp
   rw [hs]
   rcases YJ hq with h1 | h1
   ·have:=(HBS.out q h1).2
    omega
   ·rcases YJ h1 with h2 | h2
    ·have e:(Value.slice p4 face.length k4).ownBlock=some q:=by simpa using h2
     have:=(Qaz hO4 e).2
     have:=hb4A.size
     omega
    ·have e:(Value.slice a8 m8 k8).ownBlock=some q:=by simpa using h2
     exact (Qaz ho8 e).2
 clear ho8 hg8 hat8 hG9 hV9 hV8 hownA hnw hG4 hO4 hlvb hHeld4 hHeld5
 refine Qad (rs:=[5]) (by kernel_rfl) (by simp) ?_
 refine AllReadyL.last rfl (by kernel_rfl) (fun K hK=>?_)
 go_simp
 refine hK.out _ _ ?_
 clear hK K
 try simp only [Act.put,YS,YT,YU]
 refine Qaj (by kernel_rfl) ?_ _
 go_wp2
 refine bodyPost_end (results_none rfl _ _ _) rfl ?_
 exact⟨rfl,HFIN.out⟩
def LDr (n:Nat)(W:World)(sv:Value)(LL:List (List Dt)):Prop:=
 ((∃ p c,sv = .slice p 0 c)∧LL=[])∨∃ b off cap,sv = .slice (some ⟨b,off,none⟩) LL.length cap∧b<n∧LL.length≤cap∧∀ (j:Nat) (x:List Dt),LL[j]? = some x→∃ sx,W.cell? ⟨b,off+j,none⟩=some sx∧Drts n W sx x
theorem LDr.below {n:Nat}{W W':World}{sv:Value}{LL:List (List Dt)}(h:LDr n W sv LL)(hb:Below n W W'):LDr n W' sv LL:=by
 rcases h with h | ⟨b,off,cap,h1,h2,h3,h4⟩
 ·exact .inl h
 ·exact .inr ⟨b,off,cap,h1,h2,h3,fun j x hx=>by
   obtain⟨sx,h5,h6⟩:=h4 j x hx
   exact⟨sx,(hb.cell (p:=⟨b,_,none⟩) h2).trans h5,h6.below hb⟩⟩
theorem LDr.mono {n m:Nat}{W:World}{sv:Value}{LL:List (List Dt)}(h:LDr n W sv LL)(hb:n≤m):LDr m W sv LL:=by
 rcases h with h | ⟨b,off,cap,h1,h2,h3,h4⟩
 ·exact .inl h
 ·exact .inr ⟨b,off,cap,h1,Nat.lt_of_lt_of_le h2 hb,h3,fun j x hx=>by
   obtain⟨sx,h5,h6⟩:=h4 j x hx
   exact⟨sx,h5,h6.mono hb⟩⟩
theorem LDr.go {W W':World}{sv:Value}{LL:List (List Dt)}(h:LDr W.heap.size W sv LL)(hb:Below W.heap.size W W'):LDr W'.heap.size W' sv LL:=(h.below hb).mono hb.size
theorem LDr.len {n:Nat}{W:World}{sv:Value}{LL:List (List Dt)}(h:LDr n W sv LL):∃ p c,sv = .slice p LL.length c:=by
 rcases h with ⟨⟨p,c,rfl⟩,rfl⟩ | ⟨b,off,cap,rfl,_⟩ <;> exact⟨_,_,rfl⟩
theorem LDr.cellAt {n:Nat}{w:World}{p:Option Addr}{c:Nat}{L:List (List Dt)}(h:LDr n w (.slice p L.length c) L){j:Nat}(hj:j<L.length):
  ∃ b off,p=some ⟨b,off,none⟩∧b<n∧L.length≤c∧∃ px cx,Drts n w (.slice px L[j].length cx) L[j]∧w.cell? ⟨b,off+j,none⟩=some (.slice px L[j].length cx):=by
 rcases h with ⟨_,h0⟩ | ⟨b,off,cap,h1,h2,h3,h4⟩
 ·subst h0;simp at hj
 ·simp only [Value.slice.injEq] at h1
  obtain⟨rfl,_,rfl⟩:=h1
  obtain⟨sx,h5,h6⟩:=h4 j _ (YB hj)
  obtain⟨px,cx,rfl⟩:=h6.len
  exact⟨b,off,rfl,h2,h3,px,cx,h6,h5⟩
theorem GrpD.ldr {h0:Nat}{lv:Value}{svs:List Value}{pre:List (List Dt)}{W:World}(h:GrpD h0 lv svs pre W):LDr W.heap.size W lv pre:=by
 have hlen:=h.len
 rcases h.own.2 with ⟨rfl,h1⟩ | ⟨g,cap,cur,rfl,hb,hg,hn,hc⟩
 ·exact .inl ⟨⟨_,_,rfl⟩,List.eq_nil_of_length_eq_zero (by omega)⟩
 ·refine .inr ⟨g,0,cap,by rw [hlen],(Array.getElem?_eq_some_iff.1 hg).1,by omega,fun j x hx=>?_⟩
  have hj:=(YE hx).1
  obtain⟨sx,hs⟩:∃ sx,svs[j]? = some sx:=⟨_,YB (by omega)⟩
  refine⟨sx,?_,Drts.of_owns (h.inn j sx x hs hx)⟩
  have:=h.own.cells (g:=g) rfl j sx hs
  rwa [Go.WideShapes.add_plain] at this
end Go.Proofs.YtalflecmadacaaaGreat
