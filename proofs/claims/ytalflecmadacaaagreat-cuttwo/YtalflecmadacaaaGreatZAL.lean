import Derived.Laws.StructEq
import Derived.Maps.OwnSet
import Derived.Test.YtalflecmadacaaaGreatZAK
import Derived.Test.YtalflecmadacaaaGreatZAA
import Derived.Test.YtalflecmadacaaaGreatZAD
import Derived.Test.YtalflecmadacaaaGreatZAJ
set_option maxRecDepth 100000
set_option maxHeartbeats 8000000
namespace Go.Proofs.YtalflecmadacaaaGreat
open Go Go.Proofs Go.RowKit
def encD (d:Dt):Value:=.agg #[.int .i64 d.1,.int .i64 d.2]
theorem QfU (a b:Dt)(w:World):(Op.equal 91 (encD a) (encD b)).run Tryz.prog w = .ok (decide (a=b)) w:=by
 have u3:=Tryz.underlying3
 have a3:=Tryz.isAgg3
 have z3:=Tryz.sizeOf3
 have hS:Tryz.prog.underlying 91=some (.struct (Tryz.prog.fieldsOf 91)):=by kernel_rfl
 have hp:Tryz.prog.stoodInHeld 91=false:=by kernel_rfl
 show (Op.equalIn (9999+1) 91 (.agg #[.int .i64 a.1,.int .i64 a.2]) (.agg #[.int .i64 b.1,.int .i64 b.2])).run Tryz.prog w=_
 rw [run_equalIn_struct w 9999 91 _ _ hS hp]
 simp only [Program.fieldsOf,Tryz.underlying91]
 go_simp
 obtain⟨x0,x1⟩:=a
 obtain⟨y0,y1⟩:=b
 by_cases h0:x0=y0 <;> by_cases h1:x1=y1 <;> simp [h0,h1]
theorem QdM (w:World)(em:Bool)(d:Dt):(Instr.checkKey em 10000 91 (encD d)).run Tryz.prog w = .ok () w:=by
 have u3:=Tryz.underlying3
 have a3:=Tryz.isAgg3
 have z3:=Tryz.sizeOf3
 have hd:∀ k:Nat,(Instr.checkKey em (k+1+1) 91 (encD d)).run Tryz.prog w = .ok () w:=fun k=>by
  simp [Instr.checkKey,encD,run_underlying Tryz.underlying91,run_underlying Tryz.underlying3]
  go_simp
 exact hd 9998
theorem askD {d:Dt}{w:World}:∀ (es:List MapEntry) (L:List (Dt × Dt)) (i:Nat),es.map (fun e=>(e.key,e.val))=L.map (fun p=>(encD p.1,encD p.2)) →
  (Instr.findAsking 91 (encD d) es i).run Tryz.prog w = .ok ((L.findIdx? fun p=>decide (d=p.1)).map fun k=>(i+k,encD (L.getD k ((0,0),(0,0))).2)) w
 | [],[],i,_=>by simp [Instr.findAsking]
 | [],p :: L,i,h=>by simp at h
 | e :: es,[],i,h=>by simp at h
 | e :: es,p :: L,i,h=>by
  rw [List.map_cons,List.map_cons,List.cons.injEq,Prod.mk.injEq] at h
  obtain⟨⟨h1,h2⟩,h3⟩:=h
  have ih:=askD (d:=d) (w:=w) es L (i+1) h3
  unfold Instr.findAsking
  rw [h1,List.findIdx?_cons]
  by_cases hd:d=p.1
  ·simp [QfU,hd,h2]
  ·simp only [Sem.run_bind,QfU,decide_eq_false hd,Result.andThen_ok,Bool.false_eq_true,if_false,ih]
   congr 1
   cases L.findIdx? fun p=>decide (d=p.1) with
   | none=>rfl
   | some k=>
    simp only [Option.map_some,Option.some.injEq,Prod.mk.injEq,List.getD_cons_succ,and_true]
    omega
theorem findD {d:Dt}{w:World}{es:List MapEntry}{L:List (Dt × Dt)}(h:es.map (fun e=>(e.key,e.val))=L.map (fun p=>(encD p.1,encD p.2))):
  (Instr.findKey 91 (encD d) es).run Tryz.prog w = .ok ((L.findIdx? fun p=>decide (d=p.1)).map fun k=>(k,encD (L.getD k ((0,0),(0,0))).2)) w:=by
 have ha:=askD (d:=d) (w:=w) es L 0 h
 simp only [Nat.zero_add] at ha
 cases es with
 | nil=>
  cases L with
  | nil=>simp [Instr.findKey,run_underlying Tryz.underlying91,Instr.findNow]
  | cons p L=>simp at h
 | cons e es=>
  cases L with
  | nil=>simp at h
  | cons p L=>
   rw [List.map_cons,List.map_cons,List.cons.injEq,Prod.mk.injEq] at h
   simp [Instr.findKey,run_underlying Tryz.underlying91,Instr.findNow,Instr.sameNow,encD,h.1.1]
   exact ha
theorem Qlp {α β:Type}(f:α→β):∀ (l:List α) (k:Nat),(l.eraseIdx k).map f=(l.map f).eraseIdx k
 | [],_=>by simp
 | x :: l,0=>by simp
 | x :: l,k+1=>by simp [Qlp f l k]
def MapD (w:World)(m:Nat)(L:List (Dt × Dt)):Prop:=∃ es ck,w.heap[m]? = some (.map es ck)∧es.toList.map (fun e=>(e.key,e.val))=L.map (fun p=>(encD p.1,encD p.2))
theorem MapD.lt {w:World}{m:Nat}{L:List (Dt × Dt)}(h:MapD w m L):m<w.heap.size:=by
 obtain⟨es,ck,h1,_⟩:=h
 exact (Array.getElem?_eq_some_iff.1 h1).1
theorem MapD.keep {w w':World}{m:Nat}{L:List (Dt × Dt)}(h:MapD w m L)(hb:w'.heap[m]? = w.heap[m]?):MapD w' m L:=by
 obtain⟨es,ck,h1,h2⟩:=h
 exact⟨es,ck,hb.trans h1,h2⟩
theorem MapD.start (w:World):MapD (w.alloc (.map #[] 0)) w.heap.size []:=⟨#[],0,(MapKept.heap_alloc w _).1,rfl⟩
def lkD (L:List (Dt × Dt))(d:Dt):Option Dt:=(L.find? fun p=>decide (d=p.1)).map (·.2)
theorem MapD.lookup {w:World}{m:Nat}{L:List (Dt × Dt)}(h:MapD w m L)(d:Dt):
  (Instr.lookup 148 (.map (some m)) (encD d) true).run Tryz.prog w = .ok (.tuple #[encD ((lkD L d).getD (0,0)),.bool (lkD L d).isSome]) w:=by
 obtain⟨es,ck,h1,h2⟩:=h
 have hf:=findD (d:=d) (w:=w) h2
 have e1:(L.findIdx? fun p=>decide (d=p.1)).isSome=(lkD L d).isSome:=by
  unfold lkD
  rw [Option.isSome_map,List.findIdx?_isSome,Bool.eq_iff_iff,List.find?_isSome,List.any_eq_true]
 have e2:∀ k,(L.findIdx? fun p=>decide (d=p.1))=some k→lkD L d=some (L.getD k ((0,0),(0,0))).2:=fun k hk=>by
  obtain⟨hlt,hp,hno⟩:=List.findIdx?_eq_some_iff_getElem.1 hk
  unfold lkD
  have e:(L.find? fun p=>decide (d=p.1))=some L[k]:=List.find?_eq_some_iff_getElem.2 ⟨hp,k,hlt,rfl,fun j hj=>by simpa using hno j hj⟩
  rw [e]
  simp [hlt]
 cases hk:L.findIdx? fun p=>decide (d=p.1) with
 | none=>
  rw [hk] at hf e1
  have e3:lkD L d=none:=by
   cases hl:lkD L d with
   | none=>rfl
   | some x=>rw [hl] at e1;cases e1
  simp [Instr.lookup,run_underlying Tryz.underlying148,MapKept.run_getObj_map h1,QdM,hf,e3]
  rfl
 | some k=>
  rw [hk] at hf
  have e3:=e2 k hk
  simp [Instr.lookup,run_underlying Tryz.underlying148,MapKept.run_getObj_map h1,QdM,hf,e3]
theorem MapD.update {w:World}{m:Nat}{L:List (Dt × Dt)}(h:MapD w m L){d:Dt}(hd:∀ p∈L,p.1≠d)(e:Dt):
  ∃ w',(Instr.mapUpdate 148 (.map (some m)) (encD d) (encD e)).run Tryz.prog w = .ok () w'∧MapD w' m (L++[(d,e)])∧w.grownBy w' (some m):=by
 obtain⟨es,ck,h1,h2⟩:=h
 have hf:=findD (d:=d) (w:=w) h2
 have hno:(L.findIdx? fun p=>decide (d=p.1))=none:=by
  rw [List.findIdx?_eq_none_iff]
  intro p hp
  have:=hd p hp
  simp
  exact fun e=>this e.symm
 rw [hno] at hf
 have hlt:=(Array.getElem?_eq_some_iff.1 h1).1
 refine⟨{ w with heap:=w.heap.setIfInBounds m (.map (es.push { key:=encD d,val:=encD e,born:=ck }) (ck+1)) },?_,⟨es.push { key:=encD d,val:=encD e,born:=ck },ck+1,by simp [hlt],?_⟩,⟨rfl,rfl,rfl,by simp,fun i _ hi=>?_⟩⟩
 ·simp [Instr.mapUpdate,run_underlying Tryz.underlying148,MapKept.run_getObj_map h1,QdM,hf,MapKept.run_setObj_map _ h1]
 ·rw [Array.toList_push,List.map_append,h2,List.map_append]
  rfl
 ·have:m≠i:=fun e=>hi (by rw [e])
  simp [this]
theorem MapD.delete {w:World}{m:Nat}{L:List (Dt × Dt)}(h:MapD w m L)(d:Dt)(ty:TypeId):
  ∃ w',(Builtin.delete_ #[148,91] ty #[.map (some m),encD d]).run Tryz.prog w = .ok (.tuple #[]) w'∧MapD w' m (L.eraseP fun p=>decide (d=p.1))∧w.grownBy w' (some m):=by
 obtain⟨es,ck,h1,h2⟩:=h
 have hf:=findD (d:=d) (w:=w) h2
 have hlt:=(Array.getElem?_eq_some_iff.1 h1).1
 rw [List.eraseP_eq_eraseIdx]
 cases hk:L.findIdx? fun p=>decide (d=p.1) with
 | none=>
  rw [hk] at hf
  refine⟨{ w with heap:=w.heap.setIfInBounds m (.map es ck) },?_,⟨es,ck,by simp [hlt],h2⟩,⟨rfl,rfl,rfl,by simp,fun i _ hi=>?_⟩⟩
  ·simp [Builtin.delete_,run_underlying Tryz.underlying148,MapKept.run_getObj_map h1,QdM,hf,MapKept.run_setObj_map _ h1]
  ·have:m≠i:=fun e=>hi (by rw [e])
   simp [this]
 | some k=>
  rw [hk] at hf
  refine⟨{ w with heap:=w.heap.setIfInBounds m (.map (es.eraseIdxIfInBounds k) ck) },?_,⟨es.eraseIdxIfInBounds k,ck,by simp [hlt],?_⟩,⟨rfl,rfl,rfl,by simp,fun i _ hi=>?_⟩⟩
  ·simp [Builtin.delete_,run_underlying Tryz.underlying148,MapKept.run_getObj_map h1,QdM,hf,MapKept.run_setObj_map _ h1]
  ·rw [Array.toList_eraseIdxIfInBounds,Qlp,h2,Qlp]
  ·have:m≠i:=fun e=>hi (by rw [e])
   simp [this]
theorem Qmj (L:List Int)(k:Nat)(hk:k<L.length)(hL:L.length≤4194304)(sv:Value)(m:Nat)(w:World)(h:Ints m w sv L):
  Calls Tryz.prog 154 #[sv,.int .i64 (k:Int)] w fun r w'=>r = .returned (.int .i64 (aft L k))∧w'=w:=by
 obtain⟨p,c,rfl⟩:=h.len
 obtain⟨b,off,rfl,hbb,hcap,hc⟩:=h.open hk
 by_cases he:k+1=L.length
 ·have c0:=hc w YD 0 (by omega)
  rw [Nat.add_zero] at c0
  have hE:aft L k=L[0]'(by omega):=by
   unfold aft
   rw [if_pos he,YC,YB (by omega)]
   rfl
  have he':((k:Int)==(L.length:Int)-1)=true:=by
   rw [beq_iff_eq];omega
  have h0:(0:Int)<(L.length:Int):=by omega
  rw [hE]
  generalize L[0]=x at *
  clear hE he hc
  go_enter Tryz.func154,Tryz.ntmps154
  go_wp2
  go_ret
  exact⟨rfl,rfl⟩
 ·have c0:=hc w YD (k+1) (by omega)
  have hE:aft L k=L[k+1]'(by omega):=by
   unfold aft
   rw [if_neg he,YC,YB (by omega)]
   rfl
  have he':((k:Int)==(L.length:Int)-1)=false:=by
   rw [beq_eq_false_iff_ne];omega
  have h0:(k:Int)+1<(L.length:Int):=by omega
  rw [hE]
  generalize L[k+1]=x at *
  clear hE he hc
  go_enter Tryz.func154,Tryz.ntmps154
  go_wp2
  go_ret
  exact⟨rfl,rfl⟩
def rowE (L:List Int)(v:Int)(k:Nat):List (Dt × Dt):=(List.range k).map fun i=>((L.getD i 0,v),(v,aft L i))
theorem QkD (L:List Int)(v:Int)(k:Nat):rowE L v (k+1)=rowE L v k++[((L.getD k 0,v),(v,aft L k))]:=by
 unfold rowE
 rw [List.range_succ,List.map_append]
 rfl
def behL (r:List (List Int))(j:Nat):List (Dt × Dt):=(List.range j).flatMap fun (v:Nat)=>rowE (r.getD v []) (v:Int) (r.getD v []).length
theorem Qg5 (r:List (List Int))(j:Nat):behL r (j+1)=behL r j++rowE (r.getD j []) (j:Int) (r.getD j []).length:=by
 unfold behL
 rw [List.range_succ,List.flatMap_append]
 simp
theorem Qpe {r:List (List Int)}{j k:Nat}(hn:(r.getD j []).Nodup)(hk:k<(r.getD j []).length):∀ p∈behL r j++rowE (r.getD j []) (j:Int) k,p.1≠((r.getD j []).getD k 0,(j:Int)):=by
 intro p hp e
 rcases YJ hp with h | h
 ·unfold behL at h
  obtain⟨v,hv,h⟩:=List.mem_flatMap.1 h
  unfold rowE at h
  obtain⟨i,_,rfl⟩:=List.mem_map.1 h
  have:=congrArg Prod.snd e
  simp only at this
  have:=List.mem_range.1 hv
  omega
 ·unfold rowE at h
  obtain⟨i,hi,rfl⟩:=List.mem_map.1 h
  have hi':=List.mem_range.1 hi
  have e1:=congrArg Prod.fst e
  simp only at e1
  clear h hp e
  generalize r.getD j []=X at *
  have g1:X.getD i 0=X[i]'(by omega):=by rw [YC,YB (by omega)];rfl
  have g2:X.getD k 0=X[k]:=by rw [YC,YB hk];rfl
  rw [g1,g2] at e1
  have:=(List.getElem_inj hn).1 e1
  omega
theorem Qha (w:World){ops:Array Oper}{rest:List Oper}{o:Oper}{a:Act}{Q:Exit→Act→World→Prop}
  (hg:o.guard=none) (m x v:Operand) (hop:o.op=Op.mapUpdate 148 m x v) (M:Nat) (L:List (Dt × Dt)) (d e:Dt)
  (hm:a.eval m = .map (some M)) (h:MapD w M L) (hd:∀ p∈L,p.1≠d) (hx:a.eval x=encD d) (hv:a.eval v=encD e)
  (hK:∀ w',MapD w' M (L++[(d,e)])→w.grownBy w' (some M)→wpList Tryz.prog ops Q rest (a.put o.dst undef) w') :
  wpList Tryz.prog ops Q (o :: rest) a w:=by
 refine wpList_plain hg fun K' hK'=>?_
 obtain⟨w',hrun,r1,r2⟩:=h.update hd e
 unfold Oper.wp
 simp [execOp,hop,hm,hx,hv,hrun,Result.andThen]
 exact hK' _ _ (hK w' r1 r2)
theorem QeV (r:List (List Int))(hr:r.length≤4194304)(hin:∀ x∈r,x.length≤4194304∧x.Nodup)(sz:Nat)(sv:Value)(w:World)(h:Lsts w.heap.size w sv r):
  Calls Tryz.prog 124 #[sv,.int .i64 (sz:Int)] w fun e w'=>e = .returned (.map (some w.heap.size))∧MapD w' w.heap.size (behL r r.length)∧Below w.heap.size w w':=by
 obtain⟨p,c,rfl⟩:=h.len
 have hmm:(Instr.makeMap 148 (some (.int .i64 (sz:Int)))).run Tryz.prog w = .ok (.map (some w.heap.size)) (w.alloc (.map #[] 0)):=by
  simp [Instr.makeMap,run_underlying Tryz.underlying148,asInt]
  rfl
 have hM0:=MapD.start w
 have hbA:Below w.heap.size w (w.alloc (.map #[] 0)):=YD.alloc YA _
 go_enter Tryz.func124,Tryz.ntmps124
 go_wp2
 obtain⟨m,hm⟩:∃ m,m=w.heap.size:=⟨_,rfl⟩
 rw [← hm] at hM0 hbA ⊢
 have HM:Hid (m=w.heap.size):=hm
 have hR0:Lsts m w (.slice p r.length c) r:=by rw [hm];exact h
 clear hm h
 generalize w.alloc (.map #[] 0)=w1 at *
 go_loopw [14] (fun iv wr=>∃ j:Nat,j≤r.length∧iv = .int .i64 j∧Hid (MapD wr m (behL r j))∧Below m w wr) (fun i _=>r.length-(intOf i).toNat)
 case atStart=>exact⟨0,YN,rfl,hM0,hbA⟩
 case round=>
  obtain⟨j,hj,rfl,HMj,hb⟩:=hrel
  by_cases hlt:j<r.length
  ·have hjl:(j:Int)<(r.length:Int):=by omega
   have hRj:=hR0.below hb
   obtain⟨b,off,rfl,hbb,hcap,px,cx,hIx,c0⟩:=hRj.cellAt hlt
   obtain⟨hxl,hxn⟩:=hin r[j] (YG hlt)
   have hg:r.getD j []=r[j]:=by rw [YC,YB hlt];rfl
   have HNX:Hid (behL r (j+1)=behL r j++rowE r[j] (j:Int) r[j].length):=by rw [Hid,Qg5,hg]
   have HNW:Hid (∀ k,k<r[j].length→∀ q∈behL r j++rowE r[j] (j:Int) k,q.1≠(r[j].getD k 0,(j:Int))):=fun k hk=>by
    have:=Qpe (r:=r) (j:=j) (k:=k) (by rw [hg];exact hxn) (by rw [hg];exact hk)
    rw [hg] at this
    exact this
   clear hg
   generalize r[j]=X at *
   generalize wr=w4 at *
   go_wp2
   go_loopw [21] (fun iv wx=>∃ k:Nat,k≤X.length∧iv = .int .i64 k∧Hid (MapD wx m (behL r j++rowE X (j:Int) k))∧Below m w4 wx) (fun i _=>X.length-(intOf i).toNat)
   case atStart=>exact⟨0,YN,rfl,by unfold Hid rowE;simpa using HMj.out,YD⟩
   case round=>
    obtain⟨k,hk,rfl,HMk,hbk⟩:=hrel
    by_cases hkl:k<X.length
    ·have hkl':(k:Int)<(X.length:Int):=by omega
     have hIk:=hIx.below hbk
     obtain⟨b2,off2,hpx,hbb2,hcap2,hc2⟩:=hIk.open hkl
     have c2:=hc2 wr YD k hkl
     have hxe:X[k]=X.getD k 0:=by rw [YC,YB hkl];rfl
     have haf:=Qmj X k hkl hxl _ _ _ hIk
     have HRS:Hid (rowE X (j:Int) (k+1)=rowE X (j:Int) k++[((X[k],(j:Int)),((j:Int),aft X k))]):=by rw [Hid,QkD,hxe]
     have hnw:=HNW.out k hkl
     rw [← hxe] at hnw
     have HNK:Hid _:=hnw
     subst hpx
     clear hxe hnw hc2 hIk
     generalize X[k]=x at *
     generalize aft X k=y at *
     go_wp2_with fail
     refine haf.mono ?_
     clear haf
     rintro e w9 ⟨rfl,rfl⟩
     have hMk:=HMk.out
     have hnk:=HNK.out
     go_wp2_with (at_mapUpdate;refine Qha _ rfl _ _ _ rfl m (behL r j++rowE X (j:Int) k) (x,(j:Int)) ((j:Int),y) rfl hMk hnk rfl rfl ?_;intro w5 hM5 hg5)
     have HM5:Hid (MapD w5 m (behL r j++rowE X (j:Int) (k+1))):=by rw [Hid,HRS.out,← List.append_assoc];exact hM5
     have hb5:Below m w4 w5:=hbk.grown hg5 (by have:=hbk.size;have:=hMk.lt;omega) (fun q e=>by cases e;exact YA)
     clear hM5 hg5 hMk hnk HMk HNK
     go_wp2
     exact⟨⟨k+1,by omega,by go_num,HM5,hb5⟩,by simp [intOf];omega⟩
    ·obtain rfl:k=X.length:=by omega
     have hkl':¬ (X.length:Int)<(X.length:Int):=by omega
     go_wp2
     exact⟨⟨j+1,by omega,by go_num,by rw [HNX.out];exact HMk.out,hb.trans hbk⟩,by simp [intOf];omega⟩
  ·obtain rfl:j=r.length:=by omega
   have hjl:¬ (r.length:Int)<(r.length:Int):=by omega
   go_wp2
   go_ret
   exact⟨by rw [HM.out];rfl,by rw [← HM.out];exact HMj.out,by rw [← HM.out];exact hb⟩
theorem QiJ:(Tryz.prog.info? 91).map (fun i=>(i.zero,i.size,i.bytes))=some (some (.agg #[.int .i64 0,.int .i64 0]),2,16):=by kernel_rfl
def encDc (d:Dt):List Value:=[.int .i64 d.1,.int .i64 d.2]
def flatD (L:List Dt):List Value:=L.flatMap encDc
theorem Qdu (L:List Dt)(d:Dt):flatD (L++[d])=flatD L++encDc d:=by simp [flatD]
theorem QbQ:∀ {L:List Dt} {j:Nat} {x:Dt},L[j]? = some x→(flatD L)[j*2]? = some (.int .i64 x.1)∧(flatD L)[j*2+1]? = some (.int .i64 x.2)
 | [],j,x,h=>by simp at h
 | y :: L,0,x,h=>by
  have:y=x:=by simpa using h
  subst this
  exact⟨rfl,rfl⟩
 | y :: L,j+1,x,h=>by
  have h':L[j]? = some x:=by simpa using h
  obtain⟨h1,h2⟩:=QbQ h'
  have e:flatD (y :: L)=[.int .i64 y.1,.int .i64 y.2]++flatD L:=rfl
  rw [e,List.getElem?_append_right (by simp;omega),List.getElem?_append_right (by simp;omega)]
  have e1:(j+1)*2-[Value.int .i64 y.1,Value.int .i64 y.2].length=j*2:=by simp;omega
  have e2:(j+1)*2+1-[Value.int .i64 y.1,Value.int .i64 y.2].length=j*2+1:=by simp;omega
  rw [e1,e2]
  exact⟨h1,h2⟩
def Drts (n:Nat)(W:World)(sv:Value)(L:List Dt):Prop:=
 ((∃ p c,sv = .slice p 0 c)∧L=[])∨∃ b off cap,sv = .slice (some ⟨b,off,none⟩) L.length cap∧b<n∧L.length≤cap∧∀ j x,L[j]? = some x→W.cell? ⟨b,off+j*2,none⟩=some (.int .i64 x.1)∧W.cell? ⟨b,off+j*2+1,none⟩=some (.int .i64 x.2)
theorem Drts.below {n:Nat}{W W':World}{sv:Value}{L:List Dt}(h:Drts n W sv L)(hb:Below n W W'):Drts n W' sv L:=by
 rcases h with h | ⟨b,off,cap,h1,h2,h3,h4⟩
 ·exact .inl h
 ·exact .inr ⟨b,off,cap,h1,h2,h3,fun j x hx=>⟨(hb.cell (p:=⟨b,_,none⟩) h2).trans (h4 j x hx).1,(hb.cell (p:=⟨b,_,none⟩) h2).trans (h4 j x hx).2⟩⟩
theorem Drts.mono {n m:Nat}{W:World}{sv:Value}{L:List Dt}(h:Drts n W sv L)(hb:n≤m):Drts m W sv L:=by
 rcases h with h | ⟨b,off,cap,h1,h2,h3,h4⟩
 ·exact .inl h
 ·exact .inr ⟨b,off,cap,h1,Nat.lt_of_lt_of_le h2 hb,h3,h4⟩
theorem Drts.go {W W':World}{sv:Value}{L:List Dt}(h:Drts W.heap.size W sv L)(hb:Below W.heap.size W W'):Drts W'.heap.size W' sv L:=(h.below hb).mono hb.size
theorem Drts.len {n:Nat}{W:World}{sv:Value}{L:List Dt}(h:Drts n W sv L):∃ p c,sv = .slice p L.length c:=by
 rcases h with ⟨⟨p,c,rfl⟩,rfl⟩ | ⟨b,off,cap,rfl,_⟩ <;> exact⟨_,_,rfl⟩
theorem Drts.cellAt {n:Nat}{w:World}{p:Option Addr}{c:Nat}{L:List Dt}(h:Drts n w (.slice p L.length c) L){j:Nat}(hj:j<L.length):
  ∃ b off,p=some ⟨b,off,none⟩∧b<n∧L.length≤c∧w.cell? ⟨b,off+j*2,none⟩=some (.int .i64 L[j].1)∧w.cell? ⟨b,off+j*2+1,none⟩=some (.int .i64 L[j].2):=by
 rcases h with ⟨_,h0⟩ | ⟨b,off,cap,h1,h2,h3,h4⟩
 ·subst h0;simp at hj
 ·simp only [Value.slice.injEq] at h1
  obtain⟨rfl,_,rfl⟩:=h1
  obtain⟨h5,h6⟩:=h4 j _ (YB hj)
  exact⟨b,off,rfl,h2,h3,h5,h6⟩
theorem Drts.of_owns {W:World}{base:Nat}{e:TypeId}{v:Value}{L:List Dt}(h:W.ownsRow base e 2 v L.length (flatD L)):Drts W.heap.size W v L:=by
 rcases h.2 with ⟨rfl,h0⟩ | ⟨g,cap,cur,rfl,hb,hg,hn,hc⟩
 ·exact .inl ⟨⟨_,_,rfl⟩,List.eq_nil_of_length_eq_zero h0⟩
 ·refine .inr ⟨g,0,cap,rfl,(Array.getElem?_eq_some_iff.1 hg).1,hn,fun j x hx=>?_⟩
  obtain⟨k0,k1⟩:=QbQ hx
  have c0:=h.cells (g:=g) rfl (j*2) _ k0
  have c1:=h.cells (g:=g) rfl (j*2+1) _ k1
  rw [Go.WideShapes.add_plain] at c0 c1
  exact⟨c0,c1⟩
theorem newsD {w:World}{t:TypeId}(d:Dt):∀ (i:Nat) (u:Value),(encDc d)[i]? = some u→(w.alloc (.cells #[.int .i64 d.1,.int .i64 d.2] t)).cell? ((⟨w.heap.size,0,none⟩:Addr).add i)=some u:=by
 intro i u h
 match i,h with
 | 0,h=>
  have:u = .int .i64 d.1:=by simpa [encDc] using h.symm
  subst this
  simp [Addr.add]
 | 1,h=>
  have:u = .int .i64 d.2:=by simpa [encDc] using h.symm
  subst this
  simp [Addr.add]
 | i+2,h=>simp [encDc] at h
theorem oneD (d:Dt):∀ u∈encDc d,u.oneCell'=true:=by
 intro u hu
 simp only [encDc,List.mem_cons,List.not_mem_nil,or_false] at hu
 rcases hu with rfl | rfl <;> rfl
theorem QeM (l:List Ed)(j:Nat):Qah (j+1) l=Qah j l++(nb l (j:Int)).map fun v=>((j:Int),v):=by
 unfold Qah
 rw [List.range_succ,List.flatMap_append]
 simp
theorem Qci {l:List Ed}(hm:l.length≤4194304):∀ j,(Qah j l).length≤j*4194304
 | 0=>by simp [Qah]
 | j+1=>by
  have:=Qci hm j
  have:=QaO (j:Int) l
  rw [QeM,YI,List.length_map]
  omega
theorem NearI.grown {N g h0:Nat}{bs:List Nat}{deg:Nat→Nat}{pre:Nat→List Int}{A B:World}{q:Option Nat}(h:NearI N g h0 bs deg pre A)(hg:A.grownBy B q)(h1:some g≠q)(h2:∀ v,v<N→some (bs.getD v 0)≠q):NearI N g h0 bs deg pre B:=
 ⟨h.len,h.inj,h.low,h.out,h.row.grown hg h1,fun v hv=>Qal (h.own v hv) hg (.inr (h2 v hv))⟩
def preD (l:List Ed)(j k:Nat):List Dt:=Qah j l++((nb l (j:Int)).take k).map fun v=>((j:Int),v)
theorem QkR (l:List Ed)(j:Nat):preD l j 0=Qah j l:=by simp [preD]
theorem QkT (l:List Ed)(j:Nat):preD l j (nb l (j:Int)).length=Qah (j+1) l:=by unfold preD;rw [List.take_length,QeM]
theorem QkS {l:List Ed}{j k:Nat}(h:k<(nb l (j:Int)).length):preD l j (k+1)=preD l j k++[((j:Int),(nb l (j:Int))[k])]:=by
 unfold preD
 rw [List.take_add_one,YB h,List.map_append,List.append_assoc]
 rfl
theorem QmN {l:List Ed}(hm:l.length≤4194304)(j k:Nat):(preD l j k).length≤(j+1)*4194304:=by
 unfold preD
 have:=Qci hm j
 have:=QaO (j:Int) l
 rw [YI,List.length_map,List.length_take]
 omega
theorem Qma (N:Nat)(l:List Ed)(hR:RightG (N:Int) l)(sv:Value)(w:World)(hl:Edges w.heap.size w sv l):
  Calls Tryz.prog 125 #[.agg #[.int .i64 (N:Int),sv]] w fun r w'=>∃ dv,r = .returned dv∧w'.ownsRow w.heap.size 91 2 dv (Qah N l).length (flatD (Qah N l))∧Below w.heap.size w w':=by
 obtain⟨p,c,rfl⟩:=hl.len
 have hg1:Grew w (w.alloc (.cells #[.int .i64 (N:Int),.slice p l.length c] 24)):=(Grew.refl w).alloc _
 have hX1:Blk 24 (w.alloc (.cells #[.int .i64 (N:Int),.slice p l.length c] 24)) w.heap.size [.int .i64 (N:Int),.slice p l.length c]:=heap_alloc_new w _
 obtain⟨i0,hi,hz0,hz1,hz2⟩:=info_parts QiJ
 have hn1:=hR.n1
 have hm1:=hR.m1
 have q0:=hX1.cell (j:=0) rfl
 have q1:=hX1.cell (j:=1) rfl
 have hs1:(w.alloc (.cells #[.int .i64 (N:Int),.slice p l.length c] 24)).heap.size=w.heap.size+1:=by simp
 go_enter Tryz.func125,Tryz.ntmps125
 go_wp2_with (at_make;refine wpList_make_own _ rfl _ _ 92 rfl w.heap.size 91 i0 (.agg #[.int .i64 0,.int .i64 0]) 2 Tryz.underlying92 hi hz0 hz1 .i64 .i64 _ (2*l.length) rfl rfl (by go_num) (by rw [hz2];omega) (by unfold maxLen;omega) (by rw [hs1];omega) ?_;intro w3 hown hgrow;have hb3:Below (w.heap.size+1) (w.alloc (.cells #[.int .i64 (N:Int),.slice p l.length c] 24)) w3:=YD.grown hgrow (by rw [hs1];exact YA) (fun k e=>by cases e);have x0:=(hb3.cell (p:=⟨w.heap.size,0,none⟩) (by simp only;omega)).trans q0;have x1:=(hb3.cell (p:=⟨w.heap.size,1,none⟩) (by simp only;omega)).trans q1;have hbw3:Below w.heap.size w w3:=hg1.below.trans (hb3.mono (by omega));have hnr:=Qlm N l hR _ _ (hl.go hbw3);rw [hs1] at hown;have hsz3:w.heap.size+1<w3.heap.size:=(hown.lt _ rfl).2)
 clear hgrow hb3 hX1 hg1 hs1 q0 q1
 go_wp2_with fail
 refine hnr.mono ?_
 clear hnr
 rintro e w4 ⟨gn,hn0,bsn,degn,rfl,hN4,hgn,hb4⟩
 have hbw4:=hbw3.trans (hb4.mono hbw3.size)
 have hown4:=Qaz hown hb4
 have hn40:=hb4.size
 have hb30:=hbw3.size
 clear hown hb4 x0 x1 hbw3
 go_wp2
 go_loopw [3,16] (fun ov iv wr=>∃ j:Nat,j≤N∧iv = .int .i64 j∧wr.ownsRow w.heap.size 91 2 ov (Qah j l).length (flatD (Qah j l))∧NearI N gn hn0 bsn degn (fun v=>nb l (v:Int)) wr∧(ov.ownBlock=some (w.heap.size+1)∨∃ q,ov.ownBlock=some q∧w4.heap.size≤q)∧Below w.heap.size w wr∧w4.heap.size≤wr.heap.size) (fun _ iv _=>N-(intOf iv).toNat)
 case atStart=>exact⟨0,YN,rfl,hown4,hN4,.inl rfl,hbw4,YA⟩
 case round=>
  obtain⟨j,hj,rfl,hown,hNr,hob,hb,hsr⟩:=hrel
  have hfew:=Qci hm1 j
  obtain⟨ax,cx,rfl⟩:=Qaf hown
  by_cases hlt:j<N
  ·have hjl:(j:Int)<(N:Int):=by omega
   have c0:=hNr.row.cell (QbK hlt)
   obtain⟨bj,HBJ⟩:∃ bj,Hid (bsn.getD j 0=bj):=⟨_,rfl⟩
   rw [HBJ.out] at c0
   have hgn4:=hN4.row.lt
   have HBS4:Hid (∀ v,v<N→bsn.getD v 0<w4.heap.size):=fun v hv=>((hN4.own v hv).lt _ rfl).2
   have HBSL:Hid (∀ v,v<N→hn0≤bsn.getD v 0):=hN4.low
   have hno:=hN4.out
   rw [← QkR] at hown hob ⊢
   have HFL:Hid _:=QkT l j
   have hnl:=QaO (j:Int) l
   generalize wr=w5 at *
   go_wp2
   go_loopw [3,23] (fun ov iv wr=>∃ k:Nat,k≤(nb l (j:Int)).length∧iv = .int .i64 k∧wr.ownsRow w.heap.size 91 2 ov (preD l j k).length (flatD (preD l j k))∧NearI N gn hn0 bsn degn (fun v=>nb l (v:Int)) wr∧(ov.ownBlock=some (w.heap.size+1)∨∃ q,ov.ownBlock=some q∧w4.heap.size≤q)∧Below w.heap.size w wr∧w4.heap.size≤wr.heap.size) (fun _ iv _=>(nb l (j:Int)).length-(intOf iv).toNat)
   case atStart=>exact⟨0,YN,rfl,hown,hNr,hob,hb,hsr⟩
   case round=>
    obtain⟨k,hk,rfl,hownk,hNk,hobk,hbk,hsk⟩:=hrel
    have hfk:=QmN hm1 j k
    obtain⟨ay,cy,rfl⟩:=Qaf hownk
    by_cases hkl:k<(nb l (j:Int)).length
    ·have hkl':(k:Int)<((nb l (j:Int)).length:Int):=by omega
     obtain⟨rest,hBk,hnk,hck,hmk,hbk2⟩:=Qbh (hNk.own j hlt)
     rw [HBJ.out] at hBk
     have c1:wr.cell? ⟨bj,k,none⟩=some (.int .i64 (nb l (j:Int))[k]):=hBk.cell (by rw [List.getElem?_append_left (by simpa using hkl),YH,YB hkl];rfl)
     have HST:Hid _:=QkS hkl
     generalize (nb l (j:Int))[k]=x at *
     generalize preD l j k=R at *
     have hbA:wr.grownBy (wr.alloc (.cells #[.int .i64 (j:Int),.int .i64 x] 91)) none:=World.grownBy_alloc _ _ _
     have hownA:=hownk.alloc (.cells #[.int .i64 (j:Int),.int .i64 x] 91)
     have hnews:=newsD (w:=wr) (t:=91) ((j:Int),x)
     have hone:=oneD ((j:Int),x)
     have hmx:R.length+1≤maxLen:=by unfold maxLen;omega
     have hby:(R.length+1)*16≤140737488355328:=by omega
     have hbs:w.heap.size≤(wr.alloc (.cells #[.int .i64 (j:Int),.int .i64 x] 91)).heap.size:=by have:=hbk.size;simp;omega
     have hlow:∀ q,(Value.slice ay R.length cy).ownBlock=some q→w.heap.size≤q:=fun q hq=>(hownk.lt q hq).1
     go_wp2_with (at_builtin;refine wpList_append_own_at _ rfl _ _ 92 rfl w.heap.size 91 i0 (.agg #[.int .i64 0,.int .i64 0]) 2 16 Tryz.underlying92 hi hz0 hz1 hz2 rfl (by decide) (.slice ay R.length cy) _ _ rfl hownA ⟨wr.heap.size,0,none⟩ 1 1 (encDc ((j:Int),x)) rfl rfl hnews hone hmx hby hbs ?_)
     intro v7 w7 hown7 hg7 hnil7 hat7
     obtain⟨a7,m7,k7,rfl⟩:=Qar hown7
     have hb7:Below w.heap.size w w7:=(hbk.alloc hbk.size _).grown hg7 hbs hlow
     have hown7':w7.ownsRow w.heap.size 91 2 (.slice a7 m7 k7) (R++[((j:Int),x)]).length (flatD (R++[((j:Int),x)])):=by
      rw [YI,Qdu];exact hown7
     have hg17:wr.grownBy w7 (Value.slice ay R.length cy).ownBlock:=⟨hg7.os,hg7.tape,hg7.output,Nat.le_trans hbA.size hg7.size,fun q hq hne=>(hg7.block q (Nat.lt_of_lt_of_le hq hbA.size) hne).trans (hbA.block q hq (by simp))⟩
     have hNx:NearI N gn hn0 bsn degn (fun v=>nb l (v:Int)) w7:=by
      refine hNk.grown hg17 ?_ ?_
      ·rcases hobk with h1 | ⟨q,h1,h2⟩
       ·rw [h1];simp;omega
       ·rw [h1];simp;omega
      ·intro v hv
       have g1:=HBS4.out v hv
       have g2:=HBSL.out v hv
       rcases hobk with h1 | ⟨q,h1,h2⟩
       ·rw [h1];intro e;have:=Option.some.inj e;omega
       ·rw [h1];intro e;have:=Option.some.inj e;omega
     have hob7:(Value.slice a7 m7 k7).ownBlock=some (w.heap.size+1)∨∃ q,(Value.slice a7 m7 k7).ownBlock=some q∧w4.heap.size≤q:=by
      rcases hat7 with h1 | h1
      ·rw [h1];exact hobk
      ·right
       refine⟨_,h1,?_⟩
       omega
     have hs7:w4.heap.size≤w7.heap.size:=Nat.le_trans hsk hg17.size
     clear hown7 hg7 hnil7 hat7 hownA hnews hone hg17 hbA
     go_wp2
     exact⟨⟨k+1,by omega,by go_num,by rw [HST.out];exact hown7',hNx,hob7,hb7,hs7⟩,by simp [intOf];omega⟩
    ·obtain rfl:k=(nb l (j:Int)).length:=by omega
     have hkl':¬ ((nb l (j:Int)).length:Int)<((nb l (j:Int)).length:Int):=by omega
     rw [HFL.out] at hownk hobk ⊢
     go_wp2
     exact⟨⟨j+1,by omega,by go_num,hownk,hNk,hobk,hbk,hsk⟩,by simp [intOf];omega⟩
  ·obtain rfl:j=N:=by omega
   have hjl:¬ (j:Int)<(j:Int):=by omega
   obtain⟨m,HM⟩:∃ m,Hid ((Qah j l).length=m):=⟨_,rfl⟩
   rw [HM.out] at hown ⊢
   go_wp2
   go_ret
   exact⟨.slice ax m cx,rfl,by rw [HM.out];exact hown,hb⟩
def leftE (nx:Dt→Dt)(L:List Dt):List (Dt × Dt):=L.map fun x=>(x,nx x)
theorem Qlv {nx:Dt→Dt}{d:Dt}:∀ (L:List Dt),lkD (leftE nx L) d=if d∈L then some (nx d) else none
 | []=>by simp [lkD,leftE]
 | x :: L=>by
  have ih:=Qlv (nx:=nx) (d:=d) L
  unfold lkD leftE at *
  rw [List.map_cons,List.find?_cons]
  by_cases h:d=x
  ·subst h
   simp
  ·rw [show decide (d=(x,nx x).1)=false from decide_eq_false h]
   simp only [ih,List.mem_cons,h,false_or]
theorem Ql4 {nx:Dt→Dt}{d:Dt}:∀ (L:List Dt),(leftE nx L).eraseP (fun p=>decide (d=p.1))=leftE nx (L.erase d)
 | []=>by simp [leftE]
 | x :: L=>by
  have ih:=Ql4 (nx:=nx) (d:=d) L
  unfold leftE at *
  rw [List.map_cons,List.eraseP_cons,List.erase_cons]
  by_cases h:d=x
  ·subst h
   simp
  ·have h':¬ (x==d)=true:=by rw [beq_iff_eq];exact fun e=>h e.symm
   rw [show decide (d=(x,nx x).1)=false from decide_eq_false h,if_neg h',List.map_cons,← ih]
   rfl
def keysR (r:List (List Int))(N:Nat):List Dt:=(List.range N).flatMap fun (v:Nat)=>(r.getD v []).map fun u=>(u,(v:Int))
theorem Qfc (r:List (List Int))(j:Nat):keysR r (j+1)=keysR r j++(r.getD j []).map fun u=>(u,(j:Int)):=by
 unfold keysR
 rw [List.range_succ,List.flatMap_append]
 simp
section
variable {N:Nat} {l:List Ed} {r:List (List Int)}
theorem QmF {L:List Int}(hn:L.Nodup){v:Nat}(hL:r.getD v []=L):rowE L (v:Int) L.length=leftE (nxD r) (L.map fun u=>(u,(v:Int))):=by
 unfold rowE leftE
 rw [List.map_map]
 apply List.ext_getElem
 ·simp
 ·intro i h1 h2
  have hi:i<L.length:=by simpa using h1
  simp only [List.getElem_map,List.getElem_range,Function.comp]
  unfold nxD
  simp only [YM,hL]
  have e1:L.getD i 0=L[i]:=by rw [YC,YB hi];rfl
  rw [e1,hn.idxOf_getElem i hi]
theorem QiY (hS:SysR N l r)(hR:RightG (N:Int) l):∀ {j:Nat},j≤N→behL r j=leftE (nxD r) (keysR r j)
 | 0,_=>rfl
 | j+1,h=>by
  rw [Qg5,Qfc,QiY hS hR (by omega),QmF (r:=r) (v:=j) (hS.nodup hR (by omega)) rfl]
  unfold leftE
  rw [List.map_append]
theorem QlA (hS:SysR N l r){d:Dt}:d∈keysR r N↔∃ v:Nat,v<N∧d.2=(v:Int)∧d.1∈nb l (v:Int):=by
 unfold keysR
 rw [List.mem_flatMap]
 constructor
 ·rintro⟨v,hv,h⟩
  obtain⟨u,hu,rfl⟩:=List.mem_map.1 h
  have hv':=List.mem_range.1 hv
  exact⟨v,hv',rfl,(hS.perm v hv').mem_iff.1 hu⟩
 ·rintro⟨v,hv,h1,h2⟩
  exact⟨v,List.mem_range.2 hv,List.mem_map.2 ⟨d.1,(hS.perm v hv).mem_iff.2 h2,by rw [← h1]⟩⟩
theorem QaM (hS:SysR N l r)(hR:RightG (N:Int) l){d:Dt}:d∈keysR r N↔d∈Qah N l:=by
 rw [QlA hS,dartsL_mem]
 constructor
 ·rintro⟨v,hv,h1,h2⟩
  obtain⟨h3,h4,h5,_⟩:=QaZ hR h2
  have e:((d.1.toNat:Nat):Int)=d.1:=by omega
  refine⟨d.1.toNat,by omega,by omega,?_⟩
  rw [h1,e]
  exact h3
 ·rintro⟨u,hu,h1,h2⟩
  obtain⟨h3,h4,h5,_⟩:=QaZ hR h2
  have e:((d.2.toNat:Nat):Int)=d.2:=by omega
  refine⟨d.2.toNat,by omega,by omega,?_⟩
  rw [h1,e]
  exact h3
theorem Qcq (hS:SysR N l r)(hR:RightG (N:Int) l):(keysR r N).Nodup:=by
 unfold keysR List.Nodup
 rw [List.pairwise_flatMap]
 refine⟨fun v hv=>?_,?_⟩
 ·refine List.Pairwise.map _ (fun a b h=>?_) (hS.nodup hR (List.mem_range.1 hv))
  intro e
  exact h (congrArg Prod.fst e)
 ·refine List.nodup_range.imp fun {a b} hab=>?_
  intro x hx y hy e
  obtain⟨u,_,rfl⟩:=List.mem_map.1 hx
  obtain⟨u',_,rfl⟩:=List.mem_map.1 hy
  have:=congrArg Prod.snd e
  simp only at this
  omega
theorem Qc1 (hS:SysR N l r):∀ {j:Nat},j≤N→(keysR r j).length=degS l j
 | 0,_=>rfl
 | j+1,h=>by
  rw [Qfc,YI,List.length_map,Qc1 hS (by omega),(hS.perm j (by omega)).length_eq]
  rfl
theorem Qfs (hS:SysR N l r)(hR:RightG (N:Int) l):PermS (nxD r) (keysR r N):=
 ⟨fun _ h=>(QaM hS hR).2 (Qn4 hR hS ((QaM hS hR).1 h)),fun _ h _ h'=>Qpw hR hS ((QaM hS hR).1 h) ((QaM hS hR).1 h')⟩
theorem Qmb (hR:RightG (N:Int) l):((0:Int),(0:Int))∉Qah N l:=fun h=>by
 obtain⟨u,_,h1,h2⟩:=dartsL_mem.1 h
 have:=(QaZ hR h2).2.2.2
 exact this h1
end
structure Chg (X:Nat→Prop)(A B:World):Prop where
 os:B.os=A.os
 tape:B.tape=A.tape
 output:B.output=A.output
 size:A.heap.size≤B.heap.size
 block:∀ q,q<A.heap.size→¬ X q→B.heap[q]? = A.heap[q]?
theorem Chg.trans {X:Nat→Prop}{A B C:World}(h:Chg X A B)(k:Chg X B C):Chg X A C:=
 ⟨k.os.trans h.os,k.tape.trans h.tape,k.output.trans h.output,Nat.le_trans h.size k.size,fun q hq hx=>(k.block q (Nat.lt_of_lt_of_le hq h.size) hx).trans (h.block q hq hx)⟩
theorem Chg.of_below {X:Nat→Prop}{A B:World}(h:Below A.heap.size A B):Chg X A B:=⟨h.os,h.tape,h.output,h.size,fun q hq _=>h.block q hq⟩
theorem Chg.of_grown {X:Nat→Prop}{A B:World}{r:Option Nat}(h:A.grownBy B r)(hr:∀ q,r=some q→X q):Chg X A B:=⟨h.os,h.tape,h.output,h.size,fun q hq hx=>h.block q hq (fun e=>hx (hr q e.symm))⟩
theorem Chg.of_set {X:Nat→Prop}{A:World}{p:Addr}(hp:X p.block)(v:Value):Chg X A (A.setCell p v):=⟨rfl,rfl,rfl,by simp,fun q _ hx=>Below.heap_setCell _ _ _ _ (fun e=>hx (by rw [e];exact hp))⟩
theorem Qa6 {A B:World}{base:Nat}{e:TypeId}{size:Nat}{v:Value}{n:Nat}{xs:List Value}(h:A.ownsRow base e size v n xs)(hb:∀ q,v.ownBlock=some q→B.heap[q]? = A.heap[q]?):B.ownsRow base e size v n xs:=by
 obtain⟨h1,h2⟩:=h
 refine⟨h1,?_⟩
 rcases h2 with h2 | ⟨g,cap,cur,hv,hb2,hg,r⟩
 ·exact .inl h2
 ·exact .inr ⟨g,cap,cur,hv,hb2,(hb g (by rw [hv];rfl)).trans hg,r⟩
theorem Qk2 {A:World}{base:Nat}{e:TypeId}{size n c:Nat}{p:Option Addr}{xs:List Value}(h:A.ownsRow base e size (.slice p n c) n xs):A.ownsRow base e size (.slice p 0 c) 0 []:=by
 obtain⟨h1,h2⟩:=h
 refine⟨by simp,?_⟩
 rcases h2 with ⟨h2,_⟩ | ⟨g,cap,cur,hv,hb2,hg,h3,h4,h5,h6⟩
 ·simp only [Value.slice.injEq] at h2
  obtain⟨rfl,_,rfl⟩:=h2
  exact .inl ⟨rfl,rfl⟩
 ·simp only [Value.slice.injEq] at hv
  obtain⟨rfl,_,rfl⟩:=hv
  exact .inr ⟨g,c,cur,rfl,hb2,hg,YN,h4,h5,by simp⟩
theorem Qaw {A:World}{base:Nat}{e:TypeId}{size:Nat}{v:Value}{n:Nat}{xs:List Value}(h:A.ownsRow base e size v n xs){q:Nat}(hq:v.ownBlock=some q):base≤q∧q<A.heap.size:=h.lt q hq
structure StillR (h0:Nat)(bs:List Nat)(A B:World):Prop where
 os:B.os=A.os
 tape:B.tape=A.tape
 output:B.output=A.output
 size:A.heap.size≤B.heap.size
 block:∀ q,q<A.heap.size→(q<h0∨q∈bs)→B.heap[q]? = A.heap[q]?
structure ToldR (h0:Nat)(bs bs':List Nat)(A B:World):Prop where
 size:A.heap.size≤B.heap.size
 block:∀ q,h0≤q→q<A.heap.size→q∉bs→B.heap[q]? = A.heap[q]?
 new:∀ q∈bs',q∈bs∨A.heap.size≤q
 lt:∀ q∈bs',q<B.heap.size
theorem Qdk (nx:Dt→Dt)(F:Nat)(starts:List Dt):∀ j,((Qae nx F starts j).1.map List.length).sum=(Qae nx F starts j).2.length
 | 0=>rfl
 | j+1=>by
  rw [Qae]
  split
  ·exact Qdk nx F starts j
  ·rw [List.map_append,List.sum_append,Qdk nx F starts j,YI]
   simp
def Tells (h0 f:Nat)(cb:Array Value)(S:List Dt)(I:List (List Dt)→List Nat→World→Prop):Prop:=
 ∀ (fs:List (List Dt)) (bs:List Nat) (face:List Dt) (fv:Value) (W:World),I fs bs W→(∀ q∈bs,h0≤q∧q<W.heap.size)→h0≤W.heap.size→face≠[]→(∀ d∈face,d∈S)→(fs.map List.length).sum+face.length≤8388608 →
  W.ownsRow h0 91 2 fv face.length (flatD face)→(∀ q,fv.ownBlock=some q→q∉bs) →
  Calls Tryz.prog f (#[fv]++cb) W fun e W'=>e = .returned (.tuple #[])∧∃ bs',I (fs++[face]) bs' W'∧ToldR h0 bs bs' W W'
structure LayR (h0 h2 m bd:Nat)(stv:Value):Prop where
 m0:h0≤m
 m2:m<h2
 b0:h0≤bd
 b2:bd<h2
 ne:m≠bd
 st:∀ q,stv.ownBlock=some q→q<h2∧q≠m∧q≠bd
structure RI (nx:Dt→Dt)(S starts:List Dt)(F h0 h2 m bd:Nat)(stv:Value)(I:List (List Dt)→List Nat→World→Prop)(fv:Value)(begun:Nat)(W:World)(left face:List Dt)(d:Dt)(j:Nat)(bs:List Nat):Prop where
 go:Going nx S starts F left face d j
 ph:(begun=0∧j=0∧face=[]∧d=(0,0))∨(begun=j+1∧j<starts.length∧d∈S∧(face=[]→d=starts.getD j (0,0)))
 map:MapD W m (leftE nx left)
 dc:Blk 91 W bd [.int .i64 d.1,.int .i64 d.2]
 st:W.ownsRow h0 91 2 stv starts.length (flatD starts)
 fc:W.ownsRow h2 91 2 fv face.length (flatD face)
 ap:∀ q,fv.ownBlock=some q→q∉bs
 bsr:∀ q∈bs,h2≤q∧q<W.heap.size
 inv:I (Qae nx F starts j).1 bs W
 sz:h2≤W.heap.size
section
variable {nx:Dt→Dt} {S starts:List Dt} {F h0 h2 m bd:Nat} {stv:Value} {I:List (List Dt)→List Nat→World→Prop}
def XR (m bd:Nat)(fv:Value)(q:Nat):Prop:=q=m∨q=bd∨fv.ownBlock=some q
theorem RI.still {fv:Value}{begun:Nat}{W B:World}{left face:List Dt}{d:Dt}{j:Nat}{bs:List Nat}(h:RI nx S starts F h0 h2 m bd stv I fv begun W left face d j bs)(L:LayR h0 h2 m bd stv)(hC:Chg (XR m bd fv) W B):StillR h0 bs W B:=by
 refine⟨hC.os,hC.tape,hC.output,hC.size,fun q hq hx=>hC.block q hq ?_⟩
 have a:=L.m0
 have b:=L.m2
 have c:=L.b0
 have e:=L.b2
 rintro (h1 | h1 | h1)
 ·rcases hx with hx | hx
  ·omega
  ·have:=(h.bsr q hx).1;omega
 ·rcases hx with hx | hx
  ·omega
  ·have:=(h.bsr q hx).1;omega
 ·rcases hx with hx | hx
  ·have:=(Qaw h.fc h1).1
   omega
  ·exact h.ap q h1 hx
theorem RI.turn (hI:∀ fs bs A B,I fs bs A→StillR h0 bs A B→I fs bs B){fv fv':Value}{begun begun':Nat}{W B:World}{left left' face face':List Dt}{d d':Dt}{j:Nat}{bs:List Nat}(h:RI nx S starts F h0 h2 m bd stv I fv begun W left face d j bs)(L:LayR h0 h2 m bd stv)(hC:Chg (XR m bd fv) W B)
  (hg:Going nx S starts F left' face' d' j) (hp:(begun'=0∧j=0∧face'=[]∧d'=(0,0))∨(begun'=j+1∧j<starts.length∧d'∈S∧(face'=[]→d'=starts.getD j (0,0))))
  (hm:MapD B m (leftE nx left')) (hd:Blk 91 B bd [.int .i64 d'.1,.int .i64 d'.2]) (hf:B.ownsRow h2 91 2 fv' face'.length (flatD face')) (hfv:fv'.ownBlock=fv.ownBlock∨∃ q,fv'.ownBlock=some q∧W.heap.size≤q):RI nx S starts F h0 h2 m bd stv I fv' begun' B left' face' d' j bs:=by
 refine⟨hg,hp,hm,hd,Qa6 h.st fun q hq=>hC.block q (Qaw h.st hq).2 ?_,hf,fun q hq=>?_,fun q hq=>⟨(h.bsr q hq).1,Nat.lt_of_lt_of_le (h.bsr q hq).2 hC.size⟩,hI _ _ _ _ h.inv (h.still L hC),Nat.le_trans h.sz hC.size⟩
 ·obtain⟨s1,s2,s3⟩:=L.st q hq
  rintro (h1 | h1 | h1)
  ·exact s2 h1
  ·exact s3 h1
  ·have:=(Qaw h.fc h1).1
   omega
 ·rcases hfv with h1 | ⟨q',h1,h2⟩
  ·exact h.ap q (by rw [← h1];exact hq)
  ·rw [h1] at hq
   have:=Option.some.inj hq
   intro hb
   have:=(h.bsr q hb).2
   omega
theorem RI.told {fv:Value}{begun:Nat}{W B:World}{left face:List Dt}{d:Dt}{j:Nat}{bs bs':List Nat}(h:RI nx S starts F h0 h2 m bd stv I fv begun W left face d j bs)(L:LayR h0 h2 m bd stv)(hh:h0≤h2)(hT:ToldR h0 bs bs' W B)(he:(Qae nx F starts (j+1)).1=(Qae nx F starts j).1++[face])(hi:I ((Qae nx F starts j).1++[face]) bs' B):
  MapD B m (leftE nx left)∧Blk 91 B bd [.int .i64 d.1,.int .i64 d.2]∧B.ownsRow h0 91 2 stv starts.length (flatD starts)∧B.ownsRow h2 91 2 fv face.length (flatD face)∧(∀ q,fv.ownBlock=some q→q∉bs')∧(∀ q∈bs',h2≤q∧q<B.heap.size)∧I (Qae nx F starts (j+1)).1 bs' B∧h2≤B.heap.size:=by
 have a:=L.m0
 have b:=L.m2
 have c:=L.b0
 have e:=L.b2
 have hsz:=h.sz
 have nob:∀ q,q<h2→q∉bs:=fun q hq hq'=>by have:=(h.bsr q hq').1;omega
 refine⟨h.map.keep (hT.block m a h.map.lt (nob m b)),(hT.block bd c h.dc.lt (nob bd e)).trans h.dc,Qa6 h.st fun q hq=>?_,Qa6 h.fc fun q hq=>?_,fun q hq hq'=>?_,fun q hq=>⟨?_,hT.lt q hq⟩,by rw [he];exact hi,Nat.le_trans hsz hT.size⟩
 ·exact hT.block q (Qaw h.st hq).1 (Qaw h.st hq).2 (nob q (L.st q hq).1)
 ·exact hT.block q (Nat.le_trans hh (Qaw h.fc hq).1) (Qaw h.fc hq).2 (h.ap q hq)
 ·rcases hT.new q hq' with h1 | h1
  ·exact h.ap q hq h1
  ·have:=(Qaw h.fc hq).2
   omega
 ·rcases hT.new q hq with h1 | h1
  ·exact (h.bsr q h1).1
  ·omega
structure DNI (nx:Dt→Dt)(S starts:List Dt)(F h0 h2 m bd:Nat)(stv:Value)(I:List (List Dt)→List Nat→World→Prop)(fv:Value)(begun:Nat)(W:World)(left:List Dt)(d:Dt)(bs:List Nat):Prop where
 go:∀ d',Going nx S starts F left [] d' begun
 map:MapD W m (leftE nx left)
 dc:Blk 91 W bd [.int .i64 d.1,.int .i64 d.2]
 st:W.ownsRow h0 91 2 stv starts.length (flatD starts)
 fc:W.ownsRow h2 91 2 fv 0 []
 ap:∀ q,fv.ownBlock=some q→q∉bs
 bsr:∀ q∈bs,h2≤q∧q<W.heap.size
 inv:I (Qae nx F starts begun).1 bs W
 sz:h2≤W.heap.size
theorem Going.any {left:List Dt}{d:Dt}{j:Nat}(h:Going nx S starts F left [] d j)(d':Dt):Going nx S starts F left [] d' j:=⟨h.shut,h.nodup,h.all,h.len,fun e=>absurd rfl e⟩
theorem RI.none (hI:∀ fs bs A B,I fs bs A→StillR h0 bs A B→I fs bs B){fv:Value}{begun:Nat}{W B:World}{left:List Dt}{d:Dt}{j:Nat}{bs:List Nat}(h:RI nx S starts F h0 h2 m bd stv I fv begun W left [] d j bs)(L:LayR h0 h2 m bd stv)(hd:d∉left)(hb:Below W.heap.size W B):DNI nx S starts F h0 h2 m bd stv I fv begun B left d bs:=by
 have key:∀ jn,(∀ d',Going nx S starts F left [] d' jn)→(Qae nx F starts jn).1=(Qae nx F starts j).1→jn=begun→DNI nx S starts F h0 h2 m bd stv I fv begun B left d bs:=by
  intro jn h1 h2' e
  subst e
  refine⟨h1,h.map.keep (hb.block _ h.map.lt),h.dc.go hb,Qaz h.st hb,Qaz h.fc hb,h.ap,fun q hq=>⟨(h.bsr q hq).1,Nat.lt_of_lt_of_le (h.bsr q hq).2 hb.size⟩,?_,Nat.le_trans h.sz hb.size⟩
  rw [h2']
  exact hI _ _ _ _ h.inv (h.still L (Chg.of_below hb))
 rcases h.ph with ⟨e1,e2,_,e3⟩ | ⟨e1,e2,e3,e4⟩
 ·subst e2
  exact key 0 (fun d'=>h.go.any d') rfl e1.symm
 ·exact key (j+1) (fun d'=>(h.go.skip hd e3 (e4 rfl) d').2) (by rw [(h.go.skip hd e3 (e4 rfl) (0,0)).1]) e1.symm
theorem RI.toldD (hP:PermS nx S)(hF:S.length≤F){p:Option Addr}{c:Nat}{begun:Nat}{W B:World}{left face:List Dt}{d:Dt}{j:Nat}{bs bs':List Nat}(h:RI nx S starts F h0 h2 m bd stv I (.slice p face.length c) begun W left face d j bs)(L:LayR h0 h2 m bd stv)(hh:h0≤h2)(hf:face≠[])(hd:d∉left)(hT:ToldR h0 bs bs' W B)(hi:I ((Qae nx F starts j).1++[face]) bs' B):DNI nx S starts F h0 h2 m bd stv I (.slice p 0 c) begun B left d bs':=by
 have hph:begun=j+1∧d∈S:=by
  rcases h.ph with ⟨_,_,e,_⟩ | ⟨e1,_,e2,_⟩
  ·exact absurd e hf
  ·exact⟨e1,e2⟩
 obtain⟨e1,hdS⟩:=hph
 subst e1
 have hdn:=fun d'=>h.go.done hP hf hd hdS hF d'
 obtain⟨g1,g2,g3,g4,g5,g6,g7,g8⟩:=h.told L hh hT (by rw [(hdn (0,0)).1]) hi
 exact⟨fun d'=>(hdn d').2,g1,g2,g3,Qk2 g4,fun q hq=>g5 q (by rw [← hq];cases p <;> rfl),g6,g7,g8⟩
theorem DNI.next (hI:∀ fs bs A B,I fs bs A→StillR h0 bs A B→I fs bs B){fv:Value}{begun:Nat}{W:World}{left:List Dt}{d d':Dt}{bs:List Nat}(h:DNI nx S starts F h0 h2 m bd stv I fv begun W left d bs)(L:LayR h0 h2 m bd stv)(hb:begun<starts.length)(hd:d'=starts.getD begun (0,0))(hdS:d'∈S):RI nx S starts F h0 h2 m bd stv I fv (begun+1) ((W.setCell ⟨bd,0,none⟩ (.int .i64 d'.1)).setCell ⟨bd,1,none⟩ (.int .i64 d'.2)) left [] d' begun bs:=by
 have b:=L.b2
 have c:=L.b0
 have nb:∀ (q:Nat),q≠bd→((W.setCell ⟨bd,0,none⟩ (.int .i64 d'.1)).setCell ⟨bd,1,none⟩ (.int .i64 d'.2)).heap[q]? = W.heap[q]?:=fun q hq=>(Below.heap_setCell _ _ _ _ (by simp;omega)).trans (Below.heap_setCell _ _ _ _ (by simp;omega))
 refine⟨h.go d',.inr ⟨rfl,hb,hdS,fun _=>hd⟩,h.map.keep (nb m L.ne),(h.dc.set 0 _).set 1 _,Qa6 h.st fun q hq=>nb q (L.st q hq).2.2,Qa6 h.fc fun q hq=>nb q (by have:=(Qaw h.fc hq).1;omega),h.ap,fun q hq=>⟨(h.bsr q hq).1,by simp;exact (h.bsr q hq).2⟩,hI _ _ _ _ h.inv ⟨rfl,rfl,rfl,by simp,fun q _ hx=>nb q ?_⟩,by simp;exact h.sz⟩
 rcases hx with hx | hx
 ·omega
 ·have:=(h.bsr q hx).1
  omega
end
theorem Qhb (w:World){ops:Array Oper}{rest:List Oper}{o:Oper}{a:Act}{Q:Exit→Act→World→Prop}
  (hg:o.guard=none) (m x:Operand) (hop:o.op=Op.call { callee:=Callee.builtin Builtin.delete,args:=#[m,x],argTypes:=#[148,91] }) (M:Nat) (L:List (Dt × Dt)) (d:Dt)
  (hm:a.eval m = .map (some M)) (h:MapD w M L) (hx:a.eval x=encD d)
  (hK:∀ w',MapD w' M (L.eraseP fun p=>decide (d=p.1))→w.grownBy w' (some M)→wpList Tryz.prog ops Q rest (a.put o.dst (.tuple #[])) w') :
  wpList Tryz.prog ops Q (o :: rest) a w:=by
 refine wpList_plain hg fun K' hK'=>?_
 obtain⟨w',hrun,r1,r2⟩:=h.delete d o.type
 unfold Oper.wp
 simp [execOp,hop,resolve,invoke,builtin,hm,hx,hrun,Result.andThen]
 exact hK' _ _ (hK w' r1 r2)
end Go.Proofs.YtalflecmadacaaaGreat
