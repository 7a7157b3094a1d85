import Derived.Test.YtalflecmadacaaaGreatZAT
import Derived.Test.YtalflecmadacaaaGreatZAV
import Derived.Test.YtalflecmadacaaaGreatZAA
set_option maxRecDepth 100000
set_option maxHeartbeats 8000000
namespace Go.Proofs.YtalflecmadacaaaGreat
open Go Go.Proofs Go.RowKit
theorem askN {d:Dt}{w:World}:∀ (es:List MapEntry) (L:List (Dt × Int)) (i:Nat),es.map (fun e=>(e.key,e.val))=L.map (fun p=>(encD p.1,.int .i64 p.2)) →
  (Instr.findAsking 91 (encD d) es i).run Tryz.prog w = .ok ((L.findIdx? fun p=>decide (d=p.1)).map fun k=>(i+k,Value.int .i64 (L.getD k ((0,0),0)).2)) w
 | [],[],i,_=>by simp [Instr.findAsking]
 | [],p :: L,i,h=>by simp at h
 | e :: es,[],i,h=>by simp at h
 | e :: es,p :: L,i,h=>by
  rw [List.map_cons,List.map_cons,List.cons.injEq,Prod.mk.injEq] at h
  obtain⟨⟨h1,h2⟩,h3⟩:=h
  have ih:=askN (d:=d) (w:=w) es L (i+1) h3
  unfold Instr.findAsking
  rw [h1,List.findIdx?_cons]
  by_cases hd:d=p.1
  ·simp [Qf7,hd,h2]
  ·simp only [Sem.run_bind,Qf7,decide_eq_false hd,Result.andThen_ok,Bool.false_eq_true,if_false,ih]
   congr 1
   cases L.findIdx? fun p=>decide (d=p.1) with
   | none=>rfl
   | some k=>
    simp only [Option.map_some,Option.some.injEq,Prod.mk.injEq,List.getD_cons_succ,and_true]
    omega
theorem findN {d:Dt}{w:World}{es:List MapEntry}{L:List (Dt × Int)}(h:es.map (fun e=>(e.key,e.val))=L.map (fun p=>(encD p.1,.int .i64 p.2))):
  (Instr.findKey 91 (encD d) es).run Tryz.prog w = .ok ((L.findIdx? fun p=>decide (d=p.1)).map fun k=>(k,Value.int .i64 (L.getD k ((0,0),0)).2)) w:=by
 have ha:=askN (d:=d) (w:=w) es L 0 h
 simp only [Nat.zero_add] at ha
 cases es with
 | nil=>
  cases L with
  | nil=>simp [Instr.findKey,run_underlying Tryz.underlying91,Instr.findNow]
  | cons p L=>simp at h
 | cons e es=>
  cases L with
  | nil=>simp at h
  | cons p L=>
   rw [List.map_cons,List.map_cons,List.cons.injEq,Prod.mk.injEq] at h
   simp [Instr.findKey,run_underlying Tryz.underlying91,Instr.findNow,Instr.sameNow,encD,h.1.1]
   exact ha
def MapN (w:World)(m:Nat)(L:List (Dt × Int)):Prop:=∃ es ck,w.heap[m]? = some (.map es ck)∧es.toList.map (fun e=>(e.key,e.val))=L.map (fun p=>(encD p.1,.int .i64 p.2))
theorem MapN.lt {w:World}{m:Nat}{L:List (Dt × Int)}(h:MapN w m L):m<w.heap.size:=by
 obtain⟨es,ck,h1,_⟩:=h
 exact (Array.getElem?_eq_some_iff.1 h1).1
theorem MapN.keep {w w':World}{m:Nat}{L:List (Dt × Int)}(h:MapN w m L)(hb:w'.heap[m]? = w.heap[m]?):MapN w' m L:=by
 obtain⟨es,ck,h1,h2⟩:=h
 exact⟨es,ck,hb.trans h1,h2⟩
theorem MapN.start (w:World):MapN (w.alloc (.map #[] 0)) w.heap.size []:=⟨#[],0,(MapKept.heap_alloc w _).1,rfl⟩
def lkN (L:List (Dt × Int))(d:Dt):Option Int:=(L.find? fun p=>decide (d=p.1)).map (·.2)
theorem MapN.lookup {w:World}{m:Nat}{L:List (Dt × Int)}(h:MapN w m L)(d:Dt):
  (Instr.lookup 106 (.map (some m)) (encD d) false).run Tryz.prog w = .ok (.int .i64 ((lkN L d).getD 0)) w:=by
 obtain⟨es,ck,h1,h2⟩:=h
 have hf:=findN (d:=d) (w:=w) h2
 have e1:(L.findIdx? fun p=>decide (d=p.1)).isSome=(lkN L d).isSome:=by
  unfold lkN
  rw [Option.isSome_map,List.findIdx?_isSome,Bool.eq_iff_iff,List.find?_isSome,List.any_eq_true]
 have e2:∀ k,(L.findIdx? fun p=>decide (d=p.1))=some k→lkN L d=some (L.getD k ((0,0),0)).2:=fun k hk=>by
  obtain⟨hlt,hp,hno⟩:=List.findIdx?_eq_some_iff_getElem.1 hk
  unfold lkN
  have e:(L.find? fun p=>decide (d=p.1))=some L[k]:=List.find?_eq_some_iff_getElem.2 ⟨hp,k,hlt,rfl,fun j hj=>by simpa using hno j hj⟩
  rw [e]
  simp [hlt]
 cases hk:L.findIdx? fun p=>decide (d=p.1) with
 | none=>
  rw [hk] at hf e1
  have e3:lkN L d=none:=by
   cases hl:lkN L d with
   | none=>rfl
   | some x=>rw [hl] at e1;cases e1
  simp [Instr.lookup,run_underlying Tryz.underlying106,MapKept.run_getObj_map h1,QdQ,hf,e3]
 | some k=>
  rw [hk] at hf
  have e3:=e2 k hk
  simp [Instr.lookup,run_underlying Tryz.underlying106,MapKept.run_getObj_map h1,QdQ,hf,e3]
theorem MapN.update {w:World}{m:Nat}{L:List (Dt × Int)}(h:MapN w m L){d:Dt}(hd:∀ p∈L,p.1≠d)(e:Int):
  ∃ w',(Instr.mapUpdate 106 (.map (some m)) (encD d) (.int .i64 e)).run Tryz.prog w = .ok () w'∧MapN w' m (L++[(d,e)])∧w.grownBy w' (some m):=by
 obtain⟨es,ck,h1,h2⟩:=h
 have hf:=findN (d:=d) (w:=w) h2
 have hno:(L.findIdx? fun p=>decide (d=p.1))=none:=by
  rw [List.findIdx?_eq_none_iff]
  intro p hp
  have:=hd p hp
  simp
  exact fun e=>this e.symm
 rw [hno] at hf
 have hlt:=(Array.getElem?_eq_some_iff.1 h1).1
 refine⟨{ w with heap:=w.heap.setIfInBounds m (.map (es.push { key:=encD d,val:=.int .i64 e,born:=ck }) (ck+1)) },?_,⟨es.push { key:=encD d,val:=.int .i64 e,born:=ck },ck+1,by simp [hlt],?_⟩,⟨rfl,rfl,rfl,by simp,fun i _ hi=>?_⟩⟩
 ·simp [Instr.mapUpdate,run_underlying Tryz.underlying106,MapKept.run_getObj_map h1,QdQ,hf,MapKept.run_setObj_map _ h1]
 ·rw [Array.toList_push,List.map_append,h2,List.map_append]
  rfl
 ·have:m≠i:=fun e=>hi (by rw [e])
  simp [this]
theorem Qht (w:World){ops:Array Oper}{rest:List Oper}{o:Oper}{a:Act}{Q:Exit→Act→World→Prop}
  (hg:o.guard=none) (m x v:Operand) (hop:o.op=Op.mapUpdate 106 m x v) (M:Nat) (L:List (Dt × Int)) (d:Dt) (e:Int)
  (hm:a.eval m = .map (some M)) (h:MapN w M L) (hd:∀ p∈L,p.1≠d) (hx:a.eval x=encD d) (hv:a.eval v = .int .i64 e)
  (hK:∀ w',MapN w' M (L++[(d,e)])→w.grownBy w' (some M)→wpList Tryz.prog ops Q rest (a.put o.dst undef) w') :
  wpList Tryz.prog ops Q (o :: rest) a w:=by
 refine wpList_plain hg fun K' hK'=>?_
 obtain⟨w',hrun,r1,r2⟩:=h.update hd e
 unfold Oper.wp
 simp [execOp,hop,hm,hx,hv,hrun,Result.andThen]
 exact hK' _ _ (hK w' r1 r2)
def entL (fs:List (List Dt))(j:Nat):List (Dt × Int):=(List.range j).flatMap fun (v:Nat)=>(fs.getD v []).map fun d=>(d,(v:Int))
theorem Qhi (fs:List (List Dt))(j:Nat):entL fs (j+1)=entL fs j++(fs.getD j []).map fun d=>(d,(j:Int)):=by
 unfold entL
 rw [List.range_succ,List.flatMap_append]
 simp
theorem Qhj (fs:List (List Dt)):∀ j,(entL fs j).map Prod.fst=(fs.take j).flatten
 | 0=>rfl
 | j+1=>by
  rw [Qhi,List.map_append,Qhj fs j,List.take_add_one,List.flatten_append,List.map_map,YC]
  congr 1
  cases fs[j]? <;> simp [Function.comp_def]
theorem Qpx {fs:List (List Dt)}(hn:fs.flatten.Nodup){j k:Nat}(hj:j<fs.length)(hk:k<fs[j].length):∀ p∈entL fs j++(fs[j].take k).map fun d=>(d,(j:Int)),p.1≠fs[j][k]:=by
 intro p hp e
 have e1:fs.flatten=(fs.take j).flatten++(fs[j]++(fs.drop (j+1)).flatten):=by
  conv=>lhs;rw [← List.take_append_drop j fs,List.drop_eq_getElem_cons hj]
  rw [List.flatten_append,List.flatten_cons]
 rw [e1] at hn
 obtain⟨_,h2,h3⟩:=List.nodup_append.1 hn
 rcases YJ hp with h | h
 ·have h4:p.1∈(fs.take j).flatten:=by
   rw [← Qhj]
   exact List.mem_map_of_mem h
  exact h3 _ h4 _ (List.mem_append_left _ (YG hk)) e
 ·obtain⟨d,hd,rfl⟩:=List.mem_map.1 h
  obtain⟨i,hi,hid⟩:=List.mem_take_iff_getElem.1 hd
  have h5:=(List.nodup_append.1 h2).1
  simp only at e
  rw [← hid] at e
  have:=(List.getElem_inj h5).1 e
  omega
def faceOf (fs:List (List Dt))(d:Dt):Int:=(lkN (entL fs fs.length) d).getD 0
def Qb1 (fs:List (List Dt))(l:List Ed):List Dt:=l.map fun e=>(faceOf fs (e.1,e.2.1),faceOf fs (e.2.1,e.1))
theorem QjU (n:Nat):(madeCells (Value.agg #[.int .i64 0,.int .i64 0]).cells (n*2)).toList=flatD (List.replicate n (0,0)):=by
 apply List.ext_getElem
 ·rw [Qbm]
  simp [madeCells]
 ·intro i h1 h2
  rw [Qbm,List.length_replicate] at h2
  obtain⟨k0,k1⟩:=QbV (L:=List.replicate n ((0,0):Dt)) (j:=i / 2) (x:=(0,0)) (by rw [List.getElem?_replicate,if_pos (by omega)])
  have hz:(Value.agg #[.int .i64 0,.int .i64 0]).cells = #[.int .i64 0,.int .i64 0]:=by kernel_rfl
  rcases Nat.mod_two_eq_zero_or_one i with h0 | h0
  ·rw [show i / 2*2=i by omega] at k0
   rw [YB (by rw [Qbm,List.length_replicate];exact h2)] at k0
   rw [Option.some.inj k0]
   simp [madeCells,hz,h0]
  ·rw [show i / 2*2+1=i by omega] at k1
   rw [YB (by rw [Qbm,List.length_replicate];exact h2)] at k1
   rw [Option.some.inj k1]
   simp [madeCells,hz,h0]
theorem Qhf:∀ (L:List Dt)(j:Nat)(a b:Int) ,j<L.length→((flatD L).set (j*2) (.int .i64 a)).set (j*2+1) (.int .i64 b)=flatD (L.set j (a,b))
 | [],j,a,b,h=>by simp at h
 | d :: L,0,a,b,h=>rfl
 | d :: L,j+1,a,b,h=>by
  have h':j<L.length:=by simpa using h
  have ih:=Qhf L j a b h'
  have e:flatD (d :: L) = .int .i64 d.1 :: .int .i64 d.2 :: flatD L:=rfl
  have e2:∀ (x y a b:Value) (F:List Value),((x :: y :: F).set (j*2+1+1) a).set (j*2+1+1+1) b=x :: y :: ((F.set (j*2) a).set (j*2+1) b):=fun _ _ _ _ _=>rfl
  rw [e,show (j+1)*2=j*2+1+1 by omega,e2,ih]
  rfl
def sideH (fs:List (List Dt))(l:List Ed)(j:Nat):List Dt:=(Qb1 fs (l.take j))++List.replicate (l.length-j) (0,0)
theorem QjE (fs:List (List Dt))(l:List Ed):sideH fs l 0=List.replicate l.length (0,0):=by simp [sideH,Qb1]
theorem QjG (fs:List (List Dt))(l:List Ed):sideH fs l l.length=Qb1 fs l:=by simp [sideH]
theorem Qk9 (fs:List (List Dt))(l:List Ed){j:Nat}(h:j≤l.length):(sideH fs l j).length=l.length:=by
 simp [sideH,Qb1]
 omega
theorem QjF (fs:List (List Dt))(l:List Ed){j:Nat}(h:j<l.length):(sideH fs l j).set j (faceOf fs (l[j].1,l[j].2.1),faceOf fs (l[j].2.1,l[j].1))=sideH fs l (j+1):=by
 unfold sideH Qb1
 have e:l.length-j=(l.length-(j+1))+1:=by omega
 have h1:((l.take j).map fun e:Ed=>(faceOf fs (e.1,e.2.1),faceOf fs (e.2.1,e.1))).length=j:=by simp;omega
 rw [List.set_append,h1,if_neg (Nat.lt_irrefl j),Nat.sub_self,e,List.replicate_succ,List.set_cons_zero,List.take_add_one,YB h,List.map_append,List.append_assoc]
 rfl
theorem QpX:(Tryz.prog.info? 80).map (fun i=>(i.zero,i.size,i.bytes))=some (some (.agg #[.int .i64 0,.int .i64 0]),2,16):=by kernel_rfl
theorem Qk8 (n:Int)(l:List Ed)(hm:l.length≤4194304)(fs:List (List Dt))(hf:fs.length≤16777216)(hin:∀ x∈fs,x.length≤16777216)(hnd:fs.flatten.Nodup)(sv lv:Value)(w:World)(hl:Edges w.heap.size w sv l)(hg:LDr w.heap.size w lv fs):
  Calls Tryz.prog 58 #[.agg #[.int .i64 n,sv],lv] w fun e w'=>∃ g,e = .returned (.slice (some ⟨g,0,none⟩) l.length l.length)∧w.heap.size≤g∧Blk 80 w' g (flatD (Qb1 fs l))∧Below w.heap.size w w':=by
 obtain⟨p,c,rfl⟩:=hl.len
 obtain⟨pg,cg,rfl⟩:=hg.len
 obtain⟨i0,hi,hz0,hz1,hz2⟩:=info_parts QpX
 have hbA:Below w.heap.size w (w.alloc (.cells #[.int .i64 n,.slice p l.length c] 24)):=YD.alloc YA _
 have hX:Blk 24 (w.alloc (.cells #[.int .i64 n,.slice p l.length c] 24)) w.heap.size [.int .i64 n,.slice p l.length c]:=heap_alloc_new w _
 have q1:=hX.cell (j:=1) rfl
 have hs1:(w.alloc (.cells #[.int .i64 n,.slice p l.length c] 24)).heap.size=w.heap.size+1:=by simp
 have HL:Hid (Edges w.heap.size w (.slice p l.length c) l):=hl
 have HG:Hid (LDr w.heap.size w (.slice pg fs.length cg) fs):=hg
 have HND:Hid fs.flatten.Nodup:=hnd
 have HIN:Hid (∀ x∈fs,x.length≤16777216):=hin
 clear hl hg hnd hin
 go_enter Tryz.func58,Tryz.ntmps58
 generalize hw1:w.alloc (.cells #[.int .i64 n,.slice p l.length c] 24)=w1 at *
 have hwp:IntKind.i64.wrap (2*(l.length:Int))=2*(l.length:Int):=QaM _ (by omega) (by omega)
 have hmm:(Instr.makeMap 106 (some (.int .i64 (2*(l.length:Int))))).run Tryz.prog w1 = .ok (.map (some w1.heap.size)) (w1.alloc (.map #[] 0)):=by
  simp [Instr.makeMap,run_underlying Tryz.underlying106,asInt]
  rfl
 have hM0:MapN (w1.alloc (.map #[] 0)) (w.heap.size+1) []:=by rw [← hs1];exact MapN.start w1
 have hbB:Below (w.heap.size+1) w1 (w1.alloc (.map #[] 0)):=YD.alloc (by omega) _
 go_wp2
 generalize hwm:w.heap.size+1=m at *
 generalize w1.alloc (.map #[] 0)=w2 at *
 clear hwp hmm hX
 go_loopw [20] (fun iv wr=>∃ j:Nat,j≤fs.length∧iv = .int .i64 j∧Hid (MapN wr m (entL fs j))∧Below m w1 wr) (fun i _=>fs.length-(intOf i).toNat)
 case atStart=>exact⟨0,YN,rfl,hM0,hbB⟩
 case round=>
  obtain⟨j,hj,rfl,HMj,hb⟩:=hrel
  have hbw:Below w.heap.size w wr:=hbA.trans (hb.mono (by omega))
  by_cases hlt:j<fs.length
  ·have hjl:(j:Int)<(fs.length:Int):=by omega
   obtain⟨b,off,rfl,hbb,hcap,px,cx,hIx,c0⟩:=(HG.out.below hbw).cellAt hlt
   have hxl:=HIN.out fs[j] (YG hlt)
   have hg:fs.getD j []=fs[j]:=by rw [YC,YB hlt];rfl
   have HNX:Hid (entL fs (j+1)=entL fs j++(fs[j].take fs[j].length).map fun d=>(d,(j:Int))):=by rw [Hid,Qhi,hg,List.take_length]
   have HNW:Hid (∀ k (hk:k<fs[j].length),∀ q∈entL fs j++(fs[j].take k).map fun d=>(d,(j:Int)),q.1≠fs[j][k]):=fun k hk=>Qpx HND.out hlt hk
   have HBW:Hid (Below w.heap.size w wr):=hbw
   have HIX:Hid (Drts w.heap.size wr (.slice px fs[j].length cx) fs[j]):=hIx
   clear hg hIx hbw
   generalize fs[j]=X at *
   generalize wr=w4 at *
   go_wp2
   go_loopw [27] (fun iv wx=>∃ k:Nat,k≤X.length∧iv = .int .i64 k∧Hid (MapN wx m (entL fs j++(X.take k).map fun d=>(d,(j:Int))))∧Below m w4 wx) (fun i _=>X.length-(intOf i).toNat)
   case atStart=>exact⟨0,YN,rfl,by unfold Hid;simpa using HMj.out,YD⟩
   case round=>
    obtain⟨k,hk,rfl,HMk,hbk⟩:=hrel
    by_cases hkl:k<X.length
    ·have hkl':(k:Int)<(X.length:Int):=by omega
     obtain⟨b2,off2,hpx,hbb2,hcap2,c2,c3⟩:=(HIX.out.below (hbk.mono (by omega))).cellAt hkl
     have HNK:Hid _:=HNW.out k hkl
     have HRS:Hid ((X.take (k+1)).map (fun d=>(d,(j:Int)))=(X.take k).map (fun d=>(d,(j:Int)))++[(X[k],(j:Int))]):=by
      unfold Hid
      rw [List.take_add_one,YB hkl,List.map_append]
      rfl
     subst hpx
     have hms:m<wr.heap.size:=HMk.out.lt
     generalize X[k]=x at *
     obtain⟨xa,xb⟩:=x
     simp only at c2 c3
     have HBK:Hid (Below m w4 wr):=hbk
     have hbN:Below wr.heap.size wr (wr.alloc (.cells #[.int .i64 xa,.int .i64 xb] 91)):=YD.alloc YA _
     have HMN:Hid (MapN (wr.alloc (.cells #[.int .i64 xa,.int .i64 xb] 91)) m (entL fs j++(X.take k).map fun d=>(d,(j:Int)))):=HMk.out.keep (hbN.block m hms)
     clear hbk HMk hbN
     go_wp2_with (at_mapUpdate;refine Qht _ rfl _ _ _ rfl m (entL fs j++(X.take k).map fun d=>(d,(j:Int))) (xa,xb) (j:Int) rfl HMN.out HNK.out rfl rfl ?_;intro w5 hM5 hg5)
     have HM5:Hid (MapN w5 m (entL fs j++(X.take (k+1)).map fun d=>(d,(j:Int)))):=by rw [Hid,HRS.out,← List.append_assoc];exact hM5
     have hb5:Below m w4 w5:=(HBK.out.alloc (by omega) _).grown hg5 (by simp;omega) (fun q e=>by cases e;exact YA)
     exact⟨⟨k+1,by omega,by go_num,HM5,hb5⟩,by simp [intOf];omega⟩
    ·obtain rfl:k=X.length:=by omega
     have hkl':¬ (X.length:Int)<(X.length:Int):=by omega
     go_wp2
     exact⟨⟨j+1,by omega,by go_num,by rw [HNX.out];exact HMk.out,hb.trans hbk⟩,by simp [intOf];omega⟩
  ·obtain rfl:j=fs.length:=by omega
   have hjl:¬ (fs.length:Int)<(fs.length:Int):=by omega
   have y1:=(hb.cell (p:=⟨w.heap.size,1,none⟩) (by simp only;omega)).trans q1
   have hms:m<wr.heap.size:=HMj.out.lt
   clear q1 hM0 hbB HG HIN HND hj hlt
   go_wp2_with (at_make;refine wpList_make_full _ rfl _ _ 78 rfl m 80 i0 (.agg #[.int .i64 0,.int .i64 0]) 2 Tryz.underlying78 hi hz0 hz1 .i64 .i64 _ _ l.length rfl rfl rfl rfl (by rw [hz2];omega) (by unfold maxLen;omega) (Nat.le_of_lt hms) ?_;intro w3 hown hgrow;have hb3:Below wr.heap.size wr w3:=YD.grown hgrow YA (fun k e=>by cases e);have x1:=(hb3.cell (p:=⟨w.heap.size,1,none⟩) (by simp only;omega)).trans y1)
   have hrow:=Blk.made hown
   rw [QjU,← QjE fs l] at hrow
   have HM3:Hid (MapN w3 m (entL fs fs.length)):=HMj.out.keep (hb3.block m hms)
   have HB3:Hid (Below w.heap.size w w3):=hbw.trans (hb3.mono hbw.size)
   clear hown hgrow hi hz0 hz1 hz2 hb3 y1 hbw hb
   generalize hge:wr.heap.size=g at *
   go_loopw [43] (fun i wy=>∃ j:Nat,j≤l.length∧i = .int .i64 j∧Blk 80 wy g (flatD (sideH fs l j))∧Below g w3 wy) (fun i _=>l.length-(intOf i).toNat)
   case atStart=>exact⟨0,YN,rfl,hrow,YD⟩
   case round=>
    obtain⟨j,hj,rfl,hB,hb⟩:=hrel
    rename World=>w5
    by_cases hlt:j<l.length
    ·obtain⟨b,off,rfl,hbb,hcap,hc,-⟩:=HL.out.open hlt
     obtain⟨c0,c1,c2⟩:=hc w5 (HB3.out.trans (hb.mono (by omega))) j hlt
     have hjl:(j:Int)<(l.length:Int):=by omega
     have HS:Hid _:=QjF fs l hlt
     have hgl:=hB.lt
     have hM5:MapN w5 m (entL fs fs.length):=HM3.out.keep (hb.block m hms)
     have HLN:Hid (j<(sideH fs l j).length):=by rw [Hid,Qk9 fs l hj];exact hlt
     clear hc
     generalize l[j].1=u at *
     generalize l[j].2.1=v at *
     generalize l[j].2.2=wt at *
     have hbN:Below w5.heap.size w5 (w5.alloc (.cells #[.int .i64 u,.int .i64 v,.int .i64 wt] 50)):=YD.alloc YA _
     have hE:Blk 50 (w5.alloc (.cells #[.int .i64 u,.int .i64 v,.int .i64 wt] 50)) w5.heap.size [.int .i64 u,.int .i64 v,.int .i64 wt]:=heap_alloc_new w5 _
     have e0:=hE.cell (j:=0) rfl
     have e1:=hE.cell (j:=1) rfl
     have hMN:MapN (w5.alloc (.cells #[.int .i64 u,.int .i64 v,.int .i64 wt] 50)) m (entL fs fs.length):=hM5.keep (hbN.block m (by omega))
     have hBN:=hB.go hbN
     have HBN:Hid (Below g w3 (w5.alloc (.cells #[.int .i64 u,.int .i64 v,.int .i64 wt] 50))):=hb.alloc (by omega) _
     have hne:w5.heap.size≠g:=by omega
     clear hbN hE hM5 hB
     go_wp2_with fail
     generalize w5.alloc (.cells #[.int .i64 u,.int .i64 v,.int .i64 wt] 50)=w6 at *
     have l0:=hMN.lookup (u,v)
     have l1:=hMN.lookup (v,u)
     have e2:∀ d,(lkN (entL fs fs.length) d).getD 0=faceOf fs d:=fun _=>rfl
     rw [e2] at l0 l1
     have k0:(Instr.lookup 106 (.map (some m)) (.agg #[.int .i64 u,.int .i64 v]) false).run Tryz.prog w6.drew = .ok (.int .i64 (faceOf fs (u,v))) w6.drew:=(hMN.keep (w':=w6.drew) rfl).lookup (u,v)
     have k1:(Instr.lookup 106 (.map (some m)) (.agg #[.int .i64 v,.int .i64 u]) false).run Tryz.prog w6.drew = .ok (.int .i64 (faceOf fs (v,u))) w6.drew:=(hMN.keep (w':=w6.drew) rfl).lookup (v,u)
     have hBn:=(hBN.set (j*2) (.int .i64 (faceOf fs (u,v)))).set (j*2+1) (.int .i64 (faceOf fs (v,u)))
     rw [Qhf _ j _ _ HLN.out,HS.out] at hBn
     have HBn:Hid _:=hBn
     have f0:=hBN.frozen (j*2)
     have f1:=hBN.frozen (j*2+1)
     have z0:=hBN.cell (QbV (YB HLN.out)).1
     have z1:=hBN.cell (QbV (YB HLN.out)).2
     clear l0 l1 e2 hBn hBN hMN c0 c1 c2
     generalize faceOf fs (u,v)=x at *
     generalize faceOf fs (v,u)=y at *
     refine Qah (S:=(fun w':World=>w'.cell? ⟨w5.heap.size,0,none⟩=some (.int .i64 u)∧w'.cell? ⟨w5.heap.size,1,none⟩=some (.int .i64 v)∧(Instr.lookup 106 (.map (some m)) (.agg #[.int .i64 u,.int .i64 v]) false).run Tryz.prog w' = .ok (.int .i64 x) w'∧(Instr.lookup 106 (.map (some m)) (.agg #[.int .i64 v,.int .i64 u]) false).run Tryz.prog w' = .ok (.int .i64 y) w')) (by kernel_rfl) ⟨e0,e1,k0,k1⟩ (fun hHeld=>?_)
     refine tL 0 ?_
     try simp only [YS]
     refine tL 1 ?_
     refine tL 2 ?_
     refine tL 3 ?_
     refine tL 4 ?_
     refine tL 5 ?_
     refine tL 6 ?_
     refine tL 7 ?_
     refine tL 8 ?_
     refine tL 9 ?_
     refine tL 10 ?_
     refine tL 11 ?_
     refine tL 12 ?_
     refine tL 13 ?_
     refine tL 14 ?_
     refine tL 15 ?_
     refine tL 16 ?_
     refine tL 17 ?_
     clear e0 e1 k0 k1 hHeld
     have f0':w6.drew.frozen? ⟨g,j*2,none⟩=false:=f0
     have f1':w6.drew.frozen? ⟨g,j*2+1,none⟩=false:=f1
     refine Qad (rs:=[18]) (by kernel_rfl) (by simp) ?_
     refine AllReadyL.last rfl (by kernel_rfl) (fun K hK=>?_)
     go_simp
     refine hK.out _ _ ?_
     clear hK K
     try simp only [Act.put,YS,YT,YU]
     refine Qaj (by kernel_rfl) ?_ _
     have hBq:Blk 80 ((w6.setCell ⟨g,j*2,none⟩ (.int .i64 x)).setCell ⟨g,j*2+1,none⟩ (.int .i64 y)).drew g (flatD (sideH fs l (j+1))):=HBn.out
     have hbq:Below g w3 ((w6.setCell ⟨g,j*2,none⟩ (.int .i64 x)).setCell ⟨g,j*2+1,none⟩ (.int .i64 y)).drew:=Qab ((HBN.out.setCell (p:=⟨g,j*2,none⟩) YA _).setCell (p:=⟨g,j*2+1,none⟩) YA _) 1
     clear HBn HBN f0 f1 f0' f1' z0 z1 HS
     go_wp2
     exact⟨⟨j+1,by omega,by go_num,hBq,hbq⟩,by simp [intOf];omega⟩
    ·obtain rfl:j=l.length:=by omega
     have hjl:¬ (l.length:Int)<(l.length:Int):=by omega
     rw [QjG] at hB
     have HB:Hid _:=hB
     have HBW:Hid (Below w.heap.size w w5):=HB3.out.trans (hb.mono (by omega))
     clear hB hb
     go_wp2
     go_ret
     exact⟨g,rfl,by omega,HB.out,HBW.out⟩
def bumpL (L:List Int)(k:Nat)(x:Int):List Int:=L.set k (L.getD k 0+x)
theorem Qhn (L:List Int)(k:Nat)(x:Int):(bumpL L k x).length=L.length:=by simp [bumpL]
theorem Qgj (L:List Int)(k:Nat)(x:Int)(i:Nat):(bumpL L k x).getD i 0=if k=i∧k<L.length then L.getD k 0+x else L.getD i 0:=by unfold bumpL;rw [Qao]
def ofRow (O:List Int)(xs:List Int)(i:Int):List Int:=xs.foldl (fun O v=>O.set v.toNat i) O
def ofC (N:Nat)(C:List (List Int)):Nat→List Int
 | 0=>List.replicate N 0
 | j+1=>ofRow (ofC N C j) (C.getD j []) (j:Int)
theorem QgS (i:Int):∀ (xs:List Int) (O:List Int),(ofRow O xs i).length=O.length
 | [],_=>rfl
 | x :: xs,O=>by
  have:=QgS i xs (O.set x.toNat i)
  unfold ofRow at *
  rw [List.foldl_cons,this]
  simp
theorem QlG (N:Nat)(C:List (List Int)):∀ j,(ofC N C j).length=N
 | 0=>by simp [ofC]
 | j+1=>by rw [ofC,QgS];exact QlG N C j
def hd0 (r:List (List Int))(xs:List Int):Int:=if (r.getD (xs.getD 0 0).toNat []).length=0 then 1 else 0
def liC (C r:List (List Int))(j:Nat):List Int:=(List.range C.length).map fun i=>if i<j then ((C.getD i []).length:Int)+hd0 r (C.getD i []) else 0
def liE (O L:List Int)(es:List Ed):List Int:=es.foldl (fun L e=>bumpL L (O.getD e.1.toNat 0).toNat (-1)) L
def liF (O L:List Int)(fs:List (List Dt)):List Int:=fs.foldl (fun L f=>bumpL L (O.getD (f.getD 0 (0,0)).1.toNat 0).toNat 1) L
def numsM (N:Nat)(l:List Ed)(r C:List (List Int))(fs:List (List Dt)):List Int:=liF (ofC N C C.length) (liE (ofC N C C.length) (liC C r C.length) l) fs
theorem Ql9 (O:List Int):∀ (es:List Ed) (L:List Int),(liE O L es).length=L.length
 | [],_=>rfl
 | e :: es,L=>by
  have:=Ql9 O es (bumpL L (O.getD e.1.toNat 0).toNat (-1))
  unfold liE at *
  rw [List.foldl_cons,this,Qhn]
theorem Qf1 (O:List Int):∀ (fs:List (List Dt)) (L:List Int),(liF O L fs).length=L.length
 | [],_=>rfl
 | f :: fs,L=>by
  have:=Qf1 O fs (bumpL L (O.getD (f.getD 0 (0,0)).1.toNat 0).toNat 1)
  unfold liF at *
  rw [List.foldl_cons,this,Qhn]
theorem Qi7 (O L:List Int)(fs:List (List Dt))(f:List Dt):liF O L (fs++[f])=bumpL (liF O L fs) (O.getD (f.getD 0 (0,0)).1.toNat 0).toNat 1:=by
 unfold liF
 rw [List.foldl_append]
 rfl
def Betw (a b:Int)(L:List Int):Prop:=∀ i,a≤L.getD i 0∧L.getD i 0≤b
theorem Betw.bump {a b:Int}{L:List Int}(h:Betw a b L)(k:Nat){x:Int}(hx : -1≤x∧x≤1):Betw (a-1) (b+1) (bumpL L k x):=by
 intro i
 have h1:=h i
 have h2:=h k
 rw [Qgj]
 split <;> omega
structure IN (w0:World)(h0 lb:Nat)(O L:List Int)(fs:List (List Dt))(bs:List Nat)(W:World):Prop where
 none:bs=[]
 lst:Blk 3 W lb ((liF O L fs).map (Value.int .i64))
 os:W.os=w0.os
 tape:W.tape=w0.tape
 output:W.output=w0.output
 size:h0≤W.heap.size
 low:∀ q,q<h0→q≠lb→W.heap[q]? = w0.heap[q]?
 btw:Betw (-8388608) (8388608+((fs.map List.length).sum:Nat)) (liF O L fs)
theorem IN.still {w0:World}{h0 lb:Nat}{O L:List Int}(hlb:lb<h0){fs:List (List Dt)}{bs:List Nat}{A B:World}(h:IN w0 h0 lb O L fs bs A)(hS:StillR h0 bs A B):IN w0 h0 lb O L fs bs B:=
 ⟨h.none,(hS.block lb h.lst.lt (.inl hlb)).trans h.lst,hS.os.trans h.os,hS.tape.trans h.tape,hS.output.trans h.output,Nat.le_trans h.size hS.size,fun q hq hne=>(hS.block q (Nat.lt_of_lt_of_le hq h.size) (.inl hq)).trans (h.low q hq hne),h.btw⟩
theorem Qe5 (w0:World)(h0 lb ob lvb ovb n N:Nat)(O L:List Int)(hL:L.length=n)(hOl:O.length=N)(hO:∀ v,v<N→∃ k:Nat,O.getD v 0=(k:Int)∧k<n)(hlb:lb<h0)(hob:ob<h0)(hlv:lvb<h0)(hov:ovb<h0)(hn1:ob≠lb)(hn2:lvb≠lb)(hn3:ovb≠lb)
  (v1:Blk 27 w0 lvb [.slice (some ⟨lb,0,none⟩) n n]) (v2:Blk 27 w0 ovb [.slice (some ⟨ob,0,none⟩) N N]) (v3:Blk 3 w0 ob (O.map (Value.int .i64))) (S:List Dt) (hS:∀ d∈S,∃ u:Nat,d.1=(u:Int)∧u<N) :
  Tells h0 123 #[.pointer (some ⟨lvb,0,none⟩),.pointer (some ⟨ovb,0,none⟩)] S (IN w0 h0 lb O L):=by
 intro fs bs face fv W hI hbs hsz hne hfS hsum hfo hap
 have hfp:=List.length_pos_iff.2 hne
 obtain⟨u,hu,huN⟩:=hS face[0] (hfS _ (YG hfp))
 obtain⟨k,hk,hkn⟩:=hO u huN
 have hg0:face.getD 0 (0,0)=face[0]:=by rw [YC,YB hfp];rfl
 have hLn:(liF O L fs).length=n:=by rw [Qf1,hL]
 obtain⟨pf,cf,rfl⟩:=Qag hfo
 obtain⟨b,off,rfl,hbb,hcap,a0,a1⟩:=(Drts.of_owns hfo).cellAt hfp
 rw [hu,Nat.zero_mul,Nat.add_zero] at a0
 have V1:Blk 27 W lvb [.slice (some ⟨lb,0,none⟩) n n]:=(hI.low lvb hlv hn2).trans v1
 have V2:Blk 27 W ovb [.slice (some ⟨ob,0,none⟩) N N]:=(hI.low ovb hov hn3).trans v2
 have V3:Blk 3 W ob (O.map (Value.int .i64)):=(hI.low ob hob hn1).trans v3
 have c1:=V1.cell (j:=0) rfl
 have c2:=V2.cell (j:=0) rfl
 have c3:W.cell? ⟨ob,u,none⟩=some (.int .i64 (k:Int)):=V3.cell (by
  rw [YH,YB (by omega)]
  rw [YC,YB (by omega)] at hk
  simpa using hk)
 have c4:W.cell? ⟨lb,k,none⟩=some (.int .i64 ((liF O L fs).getD k 0)):=hI.lst.cell (by
  rw [YH,YB (by omega),YC,YB (by omega)]
  rfl)
 have f4:=hI.lst.frozen k
 have hbt:=hI.btw k
 have hB5:=hI.lst.set k (.int .i64 ((liF O L fs).getD k 0+1))
 have e5:(bumpL (liF O L fs) k 1).map (Value.int .i64)=((liF O L fs).map (Value.int .i64)).set k (.int .i64 ((liF O L fs).getD k 0+1)):=by unfold bumpL;rw [List.map_set]
 have HFIN:Hid (∀ q,IN w0 h0 lb O L (fs++[face]) [] ((W.drewN q).setCell ⟨lb,k,none⟩ (.int .i64 ((liF O L fs).getD k 0+1)))∧ToldR h0 bs [] W ((W.drewN q).setCell ⟨lb,k,none⟩ (.int .i64 ((liF O L fs).getD k 0+1)))):=fun q=>by
  have hset:∀ p,p≠lb→((W.drewN q).setCell ⟨lb,k,none⟩ (.int .i64 ((liF O L fs).getD k 0+1))).heap[p]? = W.heap[p]?:=fun p hp=>Below.heap_setCell _ _ _ _ (by simpa using hp)
  refine⟨⟨rfl,?_,hI.os,hI.tape,hI.output,by simp;exact hI.size,fun p hp hne=>(hset p hne).trans (hI.low p hp hne),?_⟩,by simp,fun p h1 h2 h3=>hset p (by omega),fun p hp=>by simp at hp,fun p hp=>by simp at hp⟩
  ·rw [Qi7,hg0,hu,YM,hk,YM,e5]
   exact hB5
  ·rw [Qi7]
   intro i
   have:=(hI.btw.bump (O.getD (face.getD 0 (0,0)).1.toNat 0).toNat (x:=1) (by omega)) i
   have h2:=hI.btw
   rw [List.map_append,List.sum_append]
   simp only [List.map_cons,List.map_nil,List.sum_cons,List.sum_nil,Nat.add_zero]
   have h3:=hI.btw i
   rw [Qgj] at *
   split
   ·have:=hI.btw (O.getD (face.getD 0 (0,0)).1.toNat 0).toNat
    omega
   ·omega
 have huN':(u:Int)<(N:Int):=by omega
 have hkn':(k:Int)<(n:Int):=by omega
 have hfp':(0:Int)<(face.length:Int):=by omega
 have hlo : -9000000≤(liF O L fs).getD k 0:=by omega
 have hhi:(liF O L fs).getD k 0≤20000000:=by omega
 generalize (liF O L fs).getD k 0=y at *
 show Calls Tryz.prog 123 #[.slice (some ⟨b,off,none⟩) face.length cf,.pointer (some ⟨lvb,0,none⟩),.pointer (some ⟨ovb,0,none⟩)] W _
 clear hI hbs hfo hap hfS hbt hB5 e5 v1 v2 v3 V1 V2 V3 hS hO hu hk hg0 hLn hL hOl hsum
 go_enter Tryz.func123,Tryz.ntmps123
 go_wp2
 refine Qah (S:=(fun w':World=>w'.cell? ⟨lvb,0,none⟩=some (.slice (some ⟨lb,0,none⟩) n n)∧w'.cell? ⟨ovb,0,none⟩=some (.slice (some ⟨ob,0,none⟩) N N)∧w'.cell? ⟨b,off,none⟩=some (.int .i64 (u:Int))∧w'.cell? ⟨ob,u,none⟩=some (.int .i64 (k:Int))∧w'.cell? ⟨lb,k,none⟩=some (.int .i64 y))) (by kernel_rfl) ?_ (fun hHeld=>?_)
 ·(try dsimp only);go_keep
 refine tL 0 ?_
 try simp only [YS]
 refine tL 1 ?_
 refine tL 2 ?_
 refine tL 3 ?_
 refine tL 4 ?_
 refine tL 5 ?_
 refine tL 6 ?_
 refine tL 7 ?_
 refine tL 8 ?_
 refine tL 9 ?_
 refine tL 10 ?_
 refine tL 11 ?_
 refine Qad (rs:=[12]) (by kernel_rfl) (by simp) ?_
 refine AllReadyL.last rfl (by kernel_rfl) (fun K hK=>?_)
 go_simp
 refine hK.out _ _ ?_
 clear hK K
 try simp only [Act.put,YS,YT,YU]
 refine Qaj (by kernel_rfl) ?_ _
 go_wp2
 refine bodyPost_end (results_none rfl _ _ _) rfl ?_
 rw [show IntKind.i64.wrap (y+1)=y+1 from QaM _ (by omega) (by omega)]
 exact⟨rfl,[],HFIN.out 1⟩
structure CompsOK (N:Nat)(C:List (List Int)):Prop where
 few:C.length≤N
 pos:0<N→0<C.length
 ne:∀ x∈C,x≠[]
 len:∀ x∈C,x.length≤N
 mem:∀ x∈C,∀ v∈x,∃ u:Nat,v=(u:Int)∧u<N
structure NW (w2:World)(lb lvb ob ovb n N:Nat)(O L:List Int)(W:World):Prop where
 lst:Blk 3 W lb (L.map (Value.int .i64))
 lv:Blk 27 W lvb [.slice (some ⟨lb,0,none⟩) n n]
 ofs:Blk 3 W ob (O.map (Value.int .i64))
 ov:Blk 27 W ovb [.slice (some ⟨ob,0,none⟩) N N]
 below:Below lb w2 W
 len:L.length=n
 olen:O.length=N
 o1:lb<lvb
 o2:lvb<ob
 o3:ob<ovb
section
variable {w2:World} {lb lvb ob ovb n N:Nat} {O L:List Int} {W:World}
theorem NW.setL (h:NW w2 lb lvb ob ovb n N O L W)(k:Nat)(x:Int):NW w2 lb lvb ob ovb n N O (L.set k x) (W.setCell ⟨lb,k,none⟩ (.int .i64 x)):=by
 have h1:=h.o1
 have h2:=h.o2
 have h3:=h.o3
 exact⟨by rw [List.map_set];exact h.lst.set k _,h.lv.other (by simp;omega) _,h.ofs.other (by simp;omega) _,h.ov.other (by simp;omega) _,h.below.setCell (p:=⟨lb,k,none⟩) YA _,by simpa using h.len,h.olen,h1,h2,h3⟩
theorem NW.setO (h:NW w2 lb lvb ob ovb n N O L W)(k:Nat)(x:Int):NW w2 lb lvb ob ovb n N (O.set k x) L (W.setCell ⟨ob,k,none⟩ (.int .i64 x)):=by
 have h1:=h.o1
 have h2:=h.o2
 have h3:=h.o3
 exact⟨h.lst.other (by simp;omega) _,h.lv.other (by simp;omega) _,by rw [List.map_set];exact h.ofs.set k _,h.ov.other (by simp;omega) _,h.below.setCell (p:=⟨ob,k,none⟩) (by simp;omega) _,h.len,by simpa using h.olen,h1,h2,h3⟩
theorem NW.go {B:World}(h:NW w2 lb lvb ob ovb n N O L W)(hb:Below W.heap.size W B):NW w2 lb lvb ob ovb n N O L B:=
 ⟨h.lst.go hb,h.lv.go hb,h.ofs.go hb,h.ov.go hb,h.below.trans (hb.mono (by have:=h.lst.lt;omega)),h.len,h.olen,h.o1,h.o2,h.o3⟩
theorem NW.cellL (h:NW w2 lb lvb ob ovb n N O L W){k:Nat}(hk:k<n):W.cell? ⟨lb,k,none⟩=some (.int .i64 (L.getD k 0)):=h.lst.cell (by
 have:=h.len
 rw [YH,YB (by omega),YC,YB (by omega)]
 rfl)
theorem NW.cellO (h:NW w2 lb lvb ob ovb n N O L W){k:Nat}(hk:k<N):W.cell? ⟨ob,k,none⟩=some (.int .i64 (O.getD k 0)):=h.ofs.cell (by
 have:=h.olen
 rw [YH,YB (by omega),YC,YB (by omega)]
 rfl)
end
theorem Qf2 (C r:List (List Int))(j:Nat):(liC C r j).length=C.length:=by simp [liC]
theorem QpT {C r:List (List Int)}{j i:Nat}(hi:i<C.length):(liC C r j).getD i 0=if i<j then ((C.getD i []).length:Int)+hd0 r (C.getD i []) else 0:=by
 unfold liC
 rw [YC,YH,YB (by simpa using hi)]
 simp
theorem QnZ (C r:List (List Int)):liC C r 0=List.replicate C.length 0:=by
 unfold liC
 refine List.ext_getElem (by simp) fun i h1 h2=>?_
 simp
theorem Qn0 {C r:List (List Int)}{j:Nat}:liC C r (j+1)=(liC C r j).set j (((C.getD j []).length:Int)+hd0 r (C.getD j [])):=by
 unfold liC
 refine List.ext_getElem (by simp) fun i h1 h2=>?_
 rw [List.getElem_set]
 simp only [List.getElem_map,List.getElem_range]
 by_cases h:j=i
 ·subst h
  simp
 ·rw [if_neg h]
  by_cases h3:i<j
  ·rw [if_pos h3,if_pos (by omega)]
  ·rw [if_neg h3,if_neg (by omega)]
theorem Qn1 {N:Nat}{C r:List (List Int)}(hC:CompsOK N C)(j:Nat):Betw 0 (N+1) (liC C r j):=by
 intro i
 by_cases hi:i<C.length
 ·rw [QpT hi]
  split
  ·have h1:C.getD i []∈C:=by rw [YC,YB hi];exact YG hi
   have h2:=hC.len _ h1
   unfold hd0
   split <;> omega
  ·omega
 ·rw [YC,YL (by rw [Qf2];omega)]
  simp
  omega
theorem QjX {O xs:List Int}{i:Int}{k:Nat}(hk:k<xs.length):ofRow O (xs.take (k+1)) i=(ofRow O (xs.take k) i).set (xs[k]).toNat i:=by
 unfold ofRow
 rw [List.take_add_one,List.foldl_append,YB hk]
 rfl
theorem Qi2 {n N:Nat}{i:Nat}(hi:i<n):∀ (xs:List Int) (O:List Int),(∀ v,v<N→∃ k:Nat,O.getD v 0=(k:Int)∧k<n)→∀ v,v<N→∃ k:Nat,(ofRow O xs (i:Int)).getD v 0=(k:Int)∧k<n
 | [],_,h=>h
 | x :: xs,O,h=>by
  have:=Qi2 (N:=N) hi xs (O.set x.toNat (i:Int)) (fun v hv=>by
   rw [Qao]
   split
   ·exact⟨i,rfl,hi⟩
   ·exact h v hv)
  unfold ofRow at *
  rw [List.foldl_cons]
  exact this
theorem QoH {N:Nat}{C:List (List Int)}(hC:CompsOK N C):∀ j,j≤C.length→∀ v,v<N→∃ k:Nat,(ofC N C j).getD v 0=(k:Int)∧k<C.length
 | 0,_=>fun v hv=>⟨0,by simp [ofC,hv],hC.pos (by omega)⟩
 | j+1,hj=>Qi2 (by omega) _ _ (QoH hC j (by omega))
theorem QnY {O L:List Int}{es:List Ed}{k:Nat}(hk:k<es.length):liE O L (es.take (k+1))=bumpL (liE O L (es.take k)) (O.getD (es[k]).1.toNat 0).toNat (-1):=by
 unfold liE
 rw [List.take_add_one,List.foldl_append,YB hk]
 rfl
theorem Qi8 {O L:List Int}{a b:Int}(h:Betw a b L):∀ es:List Ed,Betw (a-es.length) b (liE O L es):=by
 intro es
 induction es generalizing L a with
 | nil=>simpa [liE] using h
 | cons e es ih=>
  have h1:Betw (a-1) b (bumpL L (O.getD e.1.toNat 0).toNat (-1)):=fun i=>by
   have h1:=h i
   have h2:=h (O.getD e.1.toNat 0).toNat
   rw [Qgj]
   split <;> omega
  have h2:=ih h1
  intro i
  have h3:=h2 i
  have e1:liE O L (e :: es)=liE O (bumpL L (O.getD e.1.toNat 0).toNat (-1)) es:=rfl
  rw [e1]
  simp only [List.length_cons]
  omega
end Go.Proofs.YtalflecmadacaaaGreat
