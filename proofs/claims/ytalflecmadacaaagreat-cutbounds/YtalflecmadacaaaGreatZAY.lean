import Derived.Test.YtalflecmadacaaaGreatZAX
import Derived.Test.YtalflecmadacaaaGreatZAA
import Derived.Sort.OwnSortedInts
import Derived.Test.YtalflecmadacaaaGreatShelfS
import Derived.Test.YtalflecmadacaaaGreatZAW
import Derived.Test.YtalflecmadacaaaGreatZAV
set_option maxRecDepth 100000
set_option maxHeartbeats 8000000
namespace Go.Proofs.YtalflecmadacaaaGreat
open Go Go.Proofs Go.RowKit
def entL (fs:List (List Dt))(j:Nat):List (Dt × Int):=(List.range j).flatMap fun (v:Nat)=>(fs.getD v []).map fun d=>(d,(v:Int))
theorem Qhi (fs:List (List Dt))(j:Nat):entL fs (j+1)=entL fs j++(fs.getD j []).map fun d=>(d,(j:Int)):=by
 unfold entL
 rw [List.range_succ,List.flatMap_append]
 simp
theorem Qhj (fs:List (List Dt)):∀ j,(entL fs j).map Prod.fst=(fs.take j).flatten
 | 0=>rfl
 | j+1=>by
  rw [Qhi,List.map_append,Qhj fs j,List.take_add_one,List.flatten_append,List.map_map,YC]
  congr 1
  cases fs[j]? <;> simp [Function.comp_def]
theorem Qpx {fs:List (List Dt)}(hn:fs.flatten.Nodup){j k:Nat}(hj:j<fs.length)(hk:k<fs[j].length):∀ p∈entL fs j++(fs[j].take k).map fun d=>(d,(j:Int)),p.1≠fs[j][k]:=by
 intro p hp e
 have e1:fs.flatten=(fs.take j).flatten++(fs[j]++(fs.drop (j+1)).flatten):=by
  conv=>lhs;rw [← List.take_append_drop j fs,List.drop_eq_getElem_cons hj]
  rw [List.flatten_append,List.flatten_cons]
 rw [e1] at hn
 obtain⟨_,h2,h3⟩:=List.nodup_append.1 hn
 rcases YJ hp with h | h
 ·have h4:p.1∈(fs.take j).flatten:=by
   rw [← Qhj]
   exact List.mem_map_of_mem h
  exact h3 _ h4 _ (List.mem_append_left _ (YG hk)) e
 ·obtain⟨d,hd,rfl⟩:=List.mem_map.1 h
  obtain⟨i,hi,hid⟩:=List.mem_take_iff_getElem.1 hd
  have h5:=(List.nodup_append.1 h2).1
  simp only at e
  rw [← hid] at e
  have:=(List.getElem_inj h5).1 e
  omega
def faceOf (fs:List (List Dt))(d:Dt):Int:=(lkN (entL fs fs.length) d).getD 0
def Qb1 (fs:List (List Dt))(l:List Ed):List Dt:=l.map fun e=>(faceOf fs (e.1,e.2.1),faceOf fs (e.2.1,e.1))
theorem QjU (n:Nat):(madeCells (Value.agg #[.int .i64 0,.int .i64 0]).cells (n*2)).toList=flatD (List.replicate n (0,0)):=by
 apply List.ext_getElem
 ·rw [Qbm]
  simp [madeCells]
 ·intro i h1 h2
  rw [Qbm,List.length_replicate] at h2
  obtain⟨k0,k1⟩:=QbV (L:=List.replicate n ((0,0):Dt)) (j:=i / 2) (x:=(0,0)) (by rw [List.getElem?_replicate,if_pos (by omega)])
  have hz:(Value.agg #[.int .i64 0,.int .i64 0]).cells = #[.int .i64 0,.int .i64 0]:=by kernel_rfl
  rcases Nat.mod_two_eq_zero_or_one i with h0 | h0
  ·rw [show i / 2*2=i by omega] at k0
   rw [YB (by rw [Qbm,List.length_replicate];exact h2)] at k0
   rw [Option.some.inj k0]
   simp [madeCells,hz,h0]
  ·rw [show i / 2*2+1=i by omega] at k1
   rw [YB (by rw [Qbm,List.length_replicate];exact h2)] at k1
   rw [Option.some.inj k1]
   simp [madeCells,hz,h0]
theorem Qhf:∀ (L:List Dt)(j:Nat)(a b:Int) ,j<L.length→((flatD L).set (j*2) (.int .i64 a)).set (j*2+1) (.int .i64 b)=flatD (L.set j (a,b))
 | [],j,a,b,h=>by simp at h
 | d :: L,0,a,b,h=>rfl
 | d :: L,j+1,a,b,h=>by
  have h':j<L.length:=by simpa using h
  have ih:=Qhf L j a b h'
  have e:flatD (d :: L) = .int .i64 d.1 :: .int .i64 d.2 :: flatD L:=rfl
  have e2:∀ (x y a b:Value) (F:List Value),((x :: y :: F).set (j*2+1+1) a).set (j*2+1+1+1) b=x :: y :: ((F.set (j*2) a).set (j*2+1) b):=fun _ _ _ _ _=>rfl
  rw [e,show (j+1)*2=j*2+1+1 by omega,e2,ih]
  rfl
def sideH (fs:List (List Dt))(l:List Ed)(j:Nat):List Dt:=(Qb1 fs (l.take j))++List.replicate (l.length-j) (0,0)
theorem QjE (fs:List (List Dt))(l:List Ed):sideH fs l 0=List.replicate l.length (0,0):=by simp [sideH,Qb1]
theorem QjG (fs:List (List Dt))(l:List Ed):sideH fs l l.length=Qb1 fs l:=by simp [sideH]
theorem Qk9 (fs:List (List Dt))(l:List Ed){j:Nat}(h:j≤l.length):(sideH fs l j).length=l.length:=by
 simp [sideH,Qb1]
 omega
theorem QjF (fs:List (List Dt))(l:List Ed){j:Nat}(h:j<l.length):(sideH fs l j).set j (faceOf fs (l[j].1,l[j].2.1),faceOf fs (l[j].2.1,l[j].1))=sideH fs l (j+1):=by
 unfold sideH Qb1
 have e:l.length-j=(l.length-(j+1))+1:=by omega
 have h1:((l.take j).map fun e:Ed=>(faceOf fs (e.1,e.2.1),faceOf fs (e.2.1,e.1))).length=j:=by simp;omega
 rw [List.set_append,h1,if_neg (Nat.lt_irrefl j),Nat.sub_self,e,List.replicate_succ,List.set_cons_zero,List.take_add_one,YB h,List.map_append,List.append_assoc]
 rfl
theorem QpX:(Tryz.prog.info? 80).map (fun i=>(i.zero,i.size,i.bytes))=some (some (.agg #[.int .i64 0,.int .i64 0]),2,16):=by kernel_rfl
theorem Qk8 (n:Int)(l:List Ed)(hm:l.length≤4194304)(fs:List (List Dt))(hf:fs.length≤16777216)(hin:∀ x∈fs,x.length≤16777216)(hnd:fs.flatten.Nodup)(sv lv:Value)(w:World)(hl:Edges w.heap.size w sv l)(hg:LDr w.heap.size w lv fs):
  Calls Tryz.prog 58 #[.agg #[.int .i64 n,sv],lv] w fun e w'=>∃ g,e = .returned (.slice (some ⟨g,0,none⟩) l.length l.length)∧w.heap.size≤g∧Blk 80 w' g (flatD (Qb1 fs l))∧Below w.heap.size w w':=by
 obtain⟨p,c,rfl⟩:=hl.len
 obtain⟨pg,cg,rfl⟩:=hg.len
 obtain⟨i0,hi,hz0,hz1,hz2⟩:=info_parts QpX
 have hbA:Below w.heap.size w (w.alloc (.cells #[.int .i64 n,.slice p l.length c] 24)):=YD.alloc YA _
 have hX:Blk 24 (w.alloc (.cells #[.int .i64 n,.slice p l.length c] 24)) w.heap.size [.int .i64 n,.slice p l.length c]:=heap_alloc_new w _
 have q1:=hX.cell (j:=1) rfl
 have hs1:(w.alloc (.cells #[.int .i64 n,.slice p l.length c] 24)).heap.size=w.heap.size+1:=by simp
 have HL:Hid (Edges w.heap.size w (.slice p l.length c) l):=hl
 have HG:Hid (LDr w.heap.size w (.slice pg fs.length cg) fs):=hg
 have HND:Hid fs.flatten.Nodup:=hnd
 have HIN:Hid (∀ x∈fs,x.length≤16777216):=hin
 clear hl hg hnd hin
 go_enter Tryz.func58,Tryz.ntmps58
 generalize hw1:w.alloc (.cells #[.int .i64 n,.slice p l.length c] 24)=w1 at *
 have hwp:IntKind.i64.wrap (2*(l.length:Int))=2*(l.length:Int):=QaM _ (by omega) (by omega)
 have hmm:(Instr.makeMap 106 (some (.int .i64 (2*(l.length:Int))))).run Tryz.prog w1 = .ok (.map (some w1.heap.size)) (w1.alloc (.map #[] 0)):=by
  simp [Instr.makeMap,run_underlying Tryz.underlying106,asInt]
  rfl
 have hM0:MapN (w1.alloc (.map #[] 0)) (w.heap.size+1) []:=by rw [← hs1];exact MapN.start w1
 have hbB:Below (w.heap.size+1) w1 (w1.alloc (.map #[] 0)):=YD.alloc (by omega) _
 go_wp2
 generalize hwm:w.heap.size+1=m at *
 generalize w1.alloc (.map #[] 0)=w2 at *
 clear hwp hmm hX
 go_loopw [20] (fun iv wr=>∃ j:Nat,j≤fs.length∧iv = .int .i64 j∧Hid (MapN wr m (entL fs j))∧Below m w1 wr) (fun i _=>fs.length-(intOf i).toNat)
 case atStart=>exact⟨0,YN,rfl,hM0,hbB⟩
 case round=>
  obtain⟨j,hj,rfl,HMj,hb⟩:=hrel
  have hbw:Below w.heap.size w wr:=hbA.trans (hb.mono (by omega))
  by_cases hlt:j<fs.length
  ·have hjl:(j:Int)<(fs.length:Int):=by omega
   obtain⟨b,off,rfl,hbb,hcap,px,cx,hIx,c0⟩:=(HG.out.below hbw).cellAt hlt
   have hxl:=HIN.out fs[j] (YG hlt)
   have hg:fs.getD j []=fs[j]:=by rw [YC,YB hlt];rfl
   have HNX:Hid (entL fs (j+1)=entL fs j++(fs[j].take fs[j].length).map fun d=>(d,(j:Int))):=by rw [Hid,Qhi,hg,List.take_length]
   have HNW:Hid (∀ k (hk:k<fs[j].length),∀ q∈entL fs j++(fs[j].take k).map fun d=>(d,(j:Int)),q.1≠fs[j][k]):=fun k hk=>Qpx HND.out hlt hk
   have HBW:Hid (Below w.heap.size w wr):=hbw
   have HIX:Hid (Drts w.heap.size wr (.slice px fs[j].length cx) fs[j]):=hIx
   clear hg hIx hbw
   generalize fs[j]=X at *
   generalize wr=w4 at *
   go_wp2
   go_loopw [27] (fun iv wx=>∃ k:Nat,k≤X.length∧iv = .int .i64 k∧Hid (MapN wx m (entL fs j++(X.take k).map fun d=>(d,(j:Int))))∧Below m w4 wx) (fun i _=>X.length-(intOf i).toNat)
   case atStart=>exact⟨0,YN,rfl,by unfold Hid;simpa using HMj.out,YD⟩
   case round=>
    obtain⟨k,hk,rfl,HMk,hbk⟩:=hrel
    by_cases hkl:k<X.length
    ·have hkl':(k:Int)<(X.length:Int):=by omega
     obtain⟨b2,off2,hpx,hbb2,hcap2,c2,c3⟩:=(HIX.out.below (hbk.mono (by omega))).cellAt hkl
     have HNK:Hid _:=HNW.out k hkl
     have HRS:Hid ((X.take (k+1)).map (fun d=>(d,(j:Int)))=(X.take k).map (fun d=>(d,(j:Int)))++[(X[k],(j:Int))]):=by
      unfold Hid
      rw [List.take_add_one,YB hkl,List.map_append]
      rfl
     subst hpx
     have hms:m<wr.heap.size:=HMk.out.lt
     generalize X[k]=x at *
     obtain⟨xa,xb⟩:=x
     simp only at c2 c3
     have HBK:Hid (Below m w4 wr):=hbk
     have hbN:Below wr.heap.size wr (wr.alloc (.cells #[.int .i64 xa,.int .i64 xb] 91)):=YD.alloc YA _
     have HMN:Hid (MapN (wr.alloc (.cells #[.int .i64 xa,.int .i64 xb] 91)) m (entL fs j++(X.take k).map fun d=>(d,(j:Int)))):=HMk.out.keep (hbN.block m hms)
     clear hbk HMk hbN
     go_wp2_with (at_mapUpdate;refine Qht _ rfl _ _ _ rfl m (entL fs j++(X.take k).map fun d=>(d,(j:Int))) (xa,xb) (j:Int) rfl HMN.out HNK.out rfl rfl ?_;intro w5 hM5 hg5)
     have HM5:Hid (MapN w5 m (entL fs j++(X.take (k+1)).map fun d=>(d,(j:Int)))):=by rw [Hid,HRS.out,← List.append_assoc];exact hM5
     have hb5:Below m w4 w5:=(HBK.out.alloc (by omega) _).grown hg5 (by simp;omega) (fun q e=>by cases e;exact YA)
     exact⟨⟨k+1,by omega,by go_num,HM5,hb5⟩,by simp [intOf];omega⟩
    ·obtain rfl:k=X.length:=by omega
     have hkl':¬ (X.length:Int)<(X.length:Int):=by omega
     go_wp2
     exact⟨⟨j+1,by omega,by go_num,by rw [HNX.out];exact HMk.out,hb.trans hbk⟩,by simp [intOf];omega⟩
  ·obtain rfl:j=fs.length:=by omega
   have hjl:¬ (fs.length:Int)<(fs.length:Int):=by omega
   have y1:=(hb.cell (p:=⟨w.heap.size,1,none⟩) (by simp only;omega)).trans q1
   have hms:m<wr.heap.size:=HMj.out.lt
   clear q1 hM0 hbB HG HIN HND hj hlt
   go_wp2_with (at_make;refine wpList_make_full _ rfl _ _ 78 rfl m 80 i0 (.agg #[.int .i64 0,.int .i64 0]) 2 Tryz.underlying78 hi hz0 hz1 .i64 .i64 _ _ l.length rfl rfl rfl rfl (by rw [hz2];omega) (by unfold maxLen;omega) (Nat.le_of_lt hms) ?_;intro w3 hown hgrow;have hb3:Below wr.heap.size wr w3:=YD.grown hgrow YA (fun k e=>by cases e);have x1:=(hb3.cell (p:=⟨w.heap.size,1,none⟩) (by simp only;omega)).trans y1)
   have hrow:=Blk.made hown
   rw [QjU,← QjE fs l] at hrow
   have HM3:Hid (MapN w3 m (entL fs fs.length)):=HMj.out.keep (hb3.block m hms)
   have HB3:Hid (Below w.heap.size w w3):=hbw.trans (hb3.mono hbw.size)
   clear hown hgrow hi hz0 hz1 hz2 hb3 y1 hbw hb
   generalize hge:wr.heap.size=g at *
   go_loopw [43] (fun i wy=>∃ j:Nat,j≤l.length∧i = .int .i64 j∧Blk 80 wy g (flatD (sideH fs l j))∧Below g w3 wy) (fun i _=>l.length-(intOf i).toNat)
   case atStart=>exact⟨0,YN,rfl,hrow,YD⟩
   case round=>
    obtain⟨j,hj,rfl,hB,hb⟩:=hrel
    rename World=>w5
    by_cases hlt:j<l.length
    ·obtain⟨b,off,rfl,hbb,hcap,hc,-⟩:=HL.out.open hlt
     obtain⟨c0,c1,c2⟩:=hc w5 (HB3.out.trans (hb.mono (by omega))) j hlt
     have hjl:(j:Int)<(l.length:Int):=by omega
     have HS:Hid _:=QjF fs l hlt
     have hgl:=hB.lt
     have hM5:MapN w5 m (entL fs fs.length):=HM3.out.keep (hb.block m hms)
     have HLN:Hid (j<(sideH fs l j).length):=by rw [Hid,Qk9 fs l hj];exact hlt
     clear hc
     generalize l[j].1=u at *
     generalize l[j].2.1=v at *
     generalize l[j].2.2=wt at *
     have hbN:Below w5.heap.size w5 (w5.alloc (.cells #[.int .i64 u,.int .i64 v,.int .i64 wt] 50)):=YD.alloc YA _
     have hE:Blk 50 (w5.alloc (.cells #[.int .i64 u,.int .i64 v,.int .i64 wt] 50)) w5.heap.size [.int .i64 u,.int .i64 v,.int .i64 wt]:=heap_alloc_new w5 _
     have e0:=hE.cell (j:=0) rfl
     have e1:=hE.cell (j:=1) rfl
     have hMN:MapN (w5.alloc (.cells #[.int .i64 u,.int .i64 v,.int .i64 wt] 50)) m (entL fs fs.length):=hM5.keep (hbN.block m (by omega))
     have hBN:=hB.go hbN
     have HBN:Hid (Below g w3 (w5.alloc (.cells #[.int .i64 u,.int .i64 v,.int .i64 wt] 50))):=hb.alloc (by omega) _
     have hne:w5.heap.size≠g:=by omega
     clear hbN hE hM5 hB
     go_wp2_with fail
     generalize w5.alloc (.cells #[.int .i64 u,.int .i64 v,.int .i64 wt] 50)=w6 at *
     have l0:=hMN.lookup (u,v)
     have l1:=hMN.lookup (v,u)
     have e2:∀ d,(lkN (entL fs fs.length) d).getD 0=faceOf fs d:=fun _=>rfl
     rw [e2] at l0 l1
     have k0:(Instr.lookup 106 (.map (some m)) (.agg #[.int .i64 u,.int .i64 v]) false).run Tryz.prog w6.drew = .ok (.int .i64 (faceOf fs (u,v))) w6.drew:=(hMN.keep (w':=w6.drew) rfl).lookup (u,v)
     have k1:(Instr.lookup 106 (.map (some m)) (.agg #[.int .i64 v,.int .i64 u]) false).run Tryz.prog w6.drew = .ok (.int .i64 (faceOf fs (v,u))) w6.drew:=(hMN.keep (w':=w6.drew) rfl).lookup (v,u)
     have hBn:=(hBN.set (j*2) (.int .i64 (faceOf fs (u,v)))).set (j*2+1) (.int .i64 (faceOf fs (v,u)))
     rw [Qhf _ j _ _ HLN.out,HS.out] at hBn
     have HBn:Hid _:=hBn
     have f0:=hBN.frozen (j*2)
     have f1:=hBN.frozen (j*2+1)
     have z0:=hBN.cell (QbV (YB HLN.out)).1
     have z1:=hBN.cell (QbV (YB HLN.out)).2
     clear l0 l1 e2 hBn hBN hMN c0 c1 c2
     generalize faceOf fs (u,v)=x at *
     generalize faceOf fs (v,u)=y at *
     refine Qah (S:=(fun w':World=>w'.cell? ⟨w5.heap.size,0,none⟩=some (.int .i64 u)∧w'.cell? ⟨w5.heap.size,1,none⟩=some (.int .i64 v)∧(Instr.lookup 106 (.map (some m)) (.agg #[.int .i64 u,.int .i64 v]) false).run Tryz.prog w' = .ok (.int .i64 x) w'∧(Instr.lookup 106 (.map (some m)) (.agg #[.int .i64 v,.int .i64 u]) false).run Tryz.prog w' = .ok (.int .i64 y) w')) (by kernel_rfl) ⟨e0,e1,k0,k1⟩ (fun hHeld=>?_)
     refine tL 0 ?_
     try simp only [z4]
     refine tL 1 ?_
     refine tL 2 ?_
     refine tL 3 ?_
     refine tL 4 ?_
     refine tL 5 ?_
     refine tL 6 ?_
     refine tL 7 ?_
     refine tL 8 ?_
     refine tL 9 ?_
     refine tL 10 ?_
     refine tL 11 ?_
     refine tL 12 ?_
     refine tL 13 ?_
     refine tL 14 ?_
     refine tL 15 ?_
     refine tL 16 ?_
     refine tL 17 ?_
     clear e0 e1 k0 k1 hHeld
     have f0':w6.drew.frozen? ⟨g,j*2,none⟩=false:=f0
     have f1':w6.drew.frozen? ⟨g,j*2+1,none⟩=false:=f1
     refine Qad (rs:=[18]) (by kernel_rfl) (by simp) ?_
     refine AllReadyL.last rfl (by kernel_rfl) (fun K hK=>?_)
     go_simp
     refine hK.out _ _ ?_
     clear hK K
     try simp only [Act.put,z4,z5,z6]
     refine Qaj (by kernel_rfl) ?_ _
     have hBq:Blk 80 ((w6.setCell ⟨g,j*2,none⟩ (.int .i64 x)).setCell ⟨g,j*2+1,none⟩ (.int .i64 y)).drew g (flatD (sideH fs l (j+1))):=HBn.out
     have hbq:Below g w3 ((w6.setCell ⟨g,j*2,none⟩ (.int .i64 x)).setCell ⟨g,j*2+1,none⟩ (.int .i64 y)).drew:=Qab ((HBN.out.setCell (p:=⟨g,j*2,none⟩) YA _).setCell (p:=⟨g,j*2+1,none⟩) YA _) 1
     clear HBn HBN f0 f1 f0' f1' z0 z1 HS
     go_wp2
     exact⟨⟨j+1,by omega,by go_num,hBq,hbq⟩,by simp [intOf];omega⟩
    ·obtain rfl:j=l.length:=by omega
     have hjl:¬ (l.length:Int)<(l.length:Int):=by omega
     rw [QjG] at hB
     have HB:Hid _:=hB
     have HBW:Hid (Below w.heap.size w w5):=HB3.out.trans (hb.mono (by omega))
     clear hB hb
     go_wp2
     go_ret
     exact⟨g,rfl,by omega,HB.out,HBW.out⟩
def sortL (L:List Int):List Int:=L.mergeSort fun x y=>decide (x≤y)
theorem Qb0 (L:List Int):(sortL L).length=L.length:=by unfold sortL;simp
theorem Qfd (L:List Int):(sortL L).Perm L:=List.mergeSort_perm _ _
theorem QgF {L K:List Int}(hK:K.Pairwise (· < ·)):sortL L=K↔L.Perm K:=by
 constructor
 ·intro h
  rw [← h]
  exact (Qfd L).symm
 ·intro h
  have h1:(sortL L).Pairwise (fun x y=>decide (x≤y)=true):=List.pairwise_mergeSort (fun a b c h1 h2=>by simp at *;omega) (fun a b=>by simp;omega) L
  refine List.Perm.eq_of_pairwise (le:=fun x y=>decide (x≤y)=true) (fun a b _ _ h1 h2=>by simp at *;omega) h1 (hK.imp fun {a b} hab=>by simp;omega) ((Qfd L).trans h)
theorem Qdq {n:Nat}{w:World}{b off c:Nat}{L:List Int}(h:Ints n w (.slice (some ⟨b,off,none⟩) L.length c) L):∀ j,j<L.length→w.cell? ⟨b,off+j,none⟩=some (.int .i64 (L.getD j 0)):=fun j hj=>by
 obtain⟨b',off',e,_,_,hc⟩:=h.open hj
 simp only [Option.some.injEq,Addr.mk.injEq,and_true] at e
 obtain⟨rfl,rfl⟩:=e
 rw [hc w YD j hj,YC,YB hj]
 rfl
theorem Qic (L K:List Int)(hK:K.length≤4194304)(sl sk:Value)(w:World)(hl:Ints w.heap.size w sl L)(hk:Ints w.heap.size w sk K):
  Calls Tryz.prog 121 #[sl,sk] w fun e w'=>e = .returned (.bool (decide (sortL L=K)))∧Below w.heap.size w w':=by
 obtain⟨p,c,rfl⟩:=hl.len
 obtain⟨pk,ck,rfl⟩:=hk.len
 by_cases hlen:L.length=K.length
 ·have hL:L.length≤4194304:=by omega
  have hlen':((L.length:Int) != (K.length:Int))=false:=by rw [hlen];simp
  by_cases hz:L.length=0
  ·have hL0:L=[]:=List.eq_nil_of_length_eq_zero hz
   have hK0:K=[]:=List.eq_nil_of_length_eq_zero (by omega)
   subst hL0
   subst hK0
   have hE:decide (sortL []=[])=true:=by simp [sortL]
   rw [hE]
   have hcl:Calls Tryz.prog 152 #[.slice p 0 c] w fun e w'=>∃ q k,e = .returned (.slice q 0 k)∧Below w.heap.size w w':=by
    cases p with
    | none=>exact (Tryz.slices_Clone_int_nil 0 c w).mono fun e w' ⟨h1,h2⟩=>⟨none,0,h1,by rw [h2];exact YD⟩
    | some a=>
     refine (Tryz.slices_Clone_int_zero a c w).mono ?_
     rintro e w' ⟨v',h1,h2,_,h3⟩
     obtain⟨q,k,rfl⟩:=Qag h2
     exact⟨q,k,h1,h3⟩
   clear hE hlen hz
   go_enter Tryz.func121,Tryz.ntmps121
   go_wp2_with fail
   refine hcl.mono ?_
   rintro e w2 ⟨q,k,rfl,hb2⟩
   go_wp2_with fail
   refine (Tryz.slices_Sort_int_none q k w2).mono ?_
   rintro e w3 ⟨rfl,rfl⟩
   go_wp2_with fail
   refine (Tryz.slices_Equal_int_empty q pk k 0 ck w3 (by omega)).mono ?_
   rintro e w4 ⟨rfl,rfl⟩
   go_wp2
   go_ret
   exact⟨rfl,hb2⟩
  ·obtain⟨b,off,rfl,hbb,hcap,_⟩:=hl.open (show 0<L.length by omega)
   obtain⟨bk,offk,rfl,hbk,hcapk,_⟩:=hk.open (show 0<K.length by omega)
   have hcl:=Tryz.slices_Clone_int b off L.length c L w YA (by omega) (Qdq hl)
   rw [List.take_length] at hcl
   have HLEN:Hid _:=hlen
   have hpos:0<L.length:=by omega
   clear hlen hz
   go_enter Tryz.func121,Tryz.ntmps121
   go_wp2_with fail
   refine hcl.mono ?_
   clear hcl
   rintro e w2 ⟨v2,rfl,hO2,hn2,hb2⟩
   rcases hO2.2 with ⟨h0,_⟩ | ⟨g2,cap2,cur2,rfl,hbase,hblk,h1,h2,h3,h4⟩
   ·exact absurd h0 hn2
   have hgl:=(Array.getElem?_eq_some_iff.1 hblk).1
   have hso:=Tryz.slices_Sort_int g2 0 cap2 L w2 (holds_of_blockI hblk (by simpa using h4)) hgl (by omega)
   go_wp2_with fail
   refine hso.mono ?_
   clear hso
   rintro e w3 ⟨rfl,nn,os,hw3⟩
   have hO3:w3.ownsRow w.heap.size 3 1 (.slice (some ⟨g2,0,none⟩) L.length cap2) L.length ((sortL L).map (Value.int .i64)):=by
    rw [hw3]
    exact ownsRow_sortedI (ss:=L) (ts:=sortL L) (Qb0 L) hbase hblk h1 h2 h3
   have hg3:w2.grownBy w3 (some g2):=by
    rw [hw3]
    exact grownBy_sortedI _
   have hb3:Below w.heap.size w w3:=hb2.grown hg3 hb2.size (fun q e=>by cases e;exact hbase)
   have hI3:Ints w3.heap.size w3 (.slice (some ⟨g2,0,none⟩) (sortL L).length cap2) (sortL L):=by
    refine QjV (base:=w.heap.size) ?_
    rw [Qb0]
    exact hO3
   have hk3:=hk.go hb3
   have heq:=Tryz.slices_Equal_int g2 0 L.length cap2 bk offk K.length ck (sortL L) K _ (by rw [Qb0];exact YA) YA (by omega) (by omega) (Qdq hI3) (Qdq hk3)
   have e1:(sortL L).take L.length=sortL L:=List.take_of_length_le (by rw [Qb0];exact YA)
   rw [e1,List.take_length] at heq
   have hbe:(sortL L==K)=decide (sortL L=K):=by
    by_cases h:sortL L=K
    ·rw [decide_eq_true h,beq_iff_eq];exact h
    ·rw [decide_eq_false h,beq_eq_false_iff_ne];exact h
   rw [hbe] at heq
   clear e1 hbe hI3 hk3 hO3 hg3 hO2 hblk h1 h2 h3 h4 hw3
   have HB3:Hid _:=hb3
   clear hb3
   obtain⟨res,HRES⟩:∃ res,Hid (decide (sortL L=K)=res):=⟨_,rfl⟩
   rw [HRES.out] at heq
   go_wp2_with fail
   refine heq.mono ?_
   rintro e w4 ⟨rfl,q,rfl⟩
   go_wp2
   go_ret
   exact⟨by rw [HRES.out];rfl,Qab HB3.out q⟩
 ·have hlen':((L.length:Int) != (K.length:Int))=true:=by
   rw [bne_iff_ne];omega
  have hE:decide (sortL L=K)=false:=decide_eq_false fun e=>hlen (by rw [← e,Qb0])
  rw [hE]
  clear hE hlen
  go_enter Tryz.func121,Tryz.ntmps121
  go_wp2
  go_ret
  exact⟨rfl,YD⟩
theorem Qo4 {r K:List (List Int)}{j:Nat}(h1:j<r.length)(h2:j<K.length)(h:sortL r[j]≠K[j]):decide (r.map sortL=K)=false:=decide_eq_false fun e=>h (by
 have:=congrArg (fun L=>L[j]?) e
 simp only [YH,YB h1,YB h2,Option.map_some,Option.some.injEq] at this
 exact this)
theorem Qo5 {r K:List (List Int)}(hl:r.length=K.length)(h:∀ (i:Nat) (h1:i<r.length) (h2:i<K.length),sortL r[i]=K[i]):decide (r.map sortL=K)=true:=decide_eq_true (by
 refine List.ext_getElem (by simpa using hl) fun i h1 h2=>?_
 rw [List.getElem_map]
 exact h i (by simpa using h1) h2)
theorem Qpw (r K:List (List Int))(hK:∀ x∈K,x.length≤4194304)(hKl:K.length≤4194304)(sr sk:Value)(w:World)(hr:Lsts w.heap.size w sr r)(hk:Lsts w.heap.size w sk K):
  Calls Tryz.prog 119 #[sr,sk,.func (.func 121) #[] #[]] w fun e w'=>e = .returned (.bool (decide (r.map sortL=K)))∧Below w.heap.size w w':=by
 have hent:∀ (args:Array Value) (W:World),(callFunc 121 args).run Tryz.prog W = .ok (.enter 121 args) W:=fun args W=>by kernel_rfl
 obtain⟨p,c,rfl⟩:=hr.len
 obtain⟨pk,ck,rfl⟩:=hk.len
 by_cases hlen:r.length=K.length
 ·have hlen':((r.length:Int) != (K.length:Int))=false:=by rw [hlen];simp
  have HLEN:Hid _:=hlen
  have HR0:Hid (Lsts w.heap.size w (.slice p r.length c) r):=hr
  have HK0:Hid (Lsts w.heap.size w (.slice pk K.length ck) K):=hk
  have HK:Hid _:=hK
  have hrl:r.length≤4194304:=by omega
  clear hlen hr hk hK
  go_enter Tryz.func119,Tryz.ntmps119
  go_wp2
  go_loopw [17] (fun iv wr=>∃ j:Nat,j≤r.length∧iv = .int .i64 j∧Hid (∀ (i:Nat) (h1:i<r.length) (h2:i<K.length),i<j→sortL r[i]=K[i])∧Below w.heap.size w wr) (fun i _=>r.length-(intOf i).toNat)
  case atStart=>exact⟨0,YN,rfl,fun i _ _ h=>by omega,YD⟩
  case round=>
   obtain⟨j,hj,rfl,HS,hb⟩:=hrel
   by_cases hlt:j<r.length
   ·have hjl:(j:Int)<(r.length:Int):=by omega
    have hlk:j<K.length:=by have:=HLEN.out;omega
    have hjk:(j:Int)<(K.length:Int):=by omega
    obtain⟨b,off,rfl,hbb,hcap,px,cx,hIx,c0⟩:=(HR0.out.below hb).cellAt hlt
    obtain⟨bk,offk,rfl,hbk,hcapk,pk',ck',hIk,k0⟩:=(HK0.out.below hb).cellAt hlk
    have hc:=Qic r[j] K[j] (HK.out _ (YG hlk)) _ _ wr (hIx.mono hb.size) (hIk.mono hb.size)
    by_cases he:sortL r[j]=K[j]
    ·rw [decide_eq_true he] at hc
     have HS2:Hid (∀ (i:Nat) (h1:i<r.length) (h2:i<K.length),i<j+1→sortL r[i]=K[i]):=fun i h1 h2 h=>by
      by_cases e:i=j
      ·subst e;exact he
      ·exact HS.out i h1 h2 (by omega)
     have HLT:Hid (j<r.length):=hlt
     clear he HS hIx hIk
     generalize r[j]=X at c0 hc
     generalize K[j]=Y at k0 hc
     clear hlt hlk
     go_wp2_with fail
     refine hc.mono ?_
     clear hc
     rintro e w2 ⟨rfl,hb2⟩
     have HB2:Hid _:=hb.trans (hb2.mono hb.size)
     clear hb2
     go_wp2
     exact⟨⟨j+1,HLT.out,by go_num,HS2.out,HB2.out⟩,by have:=HLT.out;simp [intOf];omega⟩
    ·rw [decide_eq_false he] at hc
     have HE:Hid _:=Qo4 hlt hlk he
     have HLT:Hid (j<r.length):=hlt
     clear he HS hIx hIk
     generalize r[j]=X at c0 hc
     generalize K[j]=Y at k0 hc
     clear hlt hlk
     go_wp2_with fail
     refine hc.mono ?_
     clear hc
     rintro e w2 ⟨rfl,hb2⟩
     have HB2:Hid _:=hb.trans (hb2.mono hb.size)
     clear hb2
     go_wp2
     go_ret
     exact⟨by rw [HE.out];rfl,HB2.out⟩
   ·obtain rfl:j=r.length:=by omega
    have HE:Hid _:=Qo5 HLEN.out fun i h1 h2=>HS.out i h1 h2 h1
    clear HS
    go_wp2
    go_ret
    exact⟨by rw [HE.out];rfl,hb⟩
 ·have hlen':((r.length:Int) != (K.length:Int))=true:=by
   rw [bne_iff_ne];omega
  have hE:decide (r.map sortL=K)=false:=decide_eq_false fun e=>hlen (by rw [← e];simp)
  rw [hE]
  clear hE hlen
  go_enter Tryz.func119,Tryz.ntmps119
  go_wp2
  go_ret
  exact⟨rfl,YD⟩
theorem QfG {N:Nat}{l:List Ed}{r:List (List Int)}(hR:RightG (N:Int) l):r.map sortL=nearL N l↔SysR N l r:=by
 constructor
 ·intro h
  have hl:r.length=N:=by have:=congrArg List.length h;rw [Qa7] at this;simpa using this
  refine⟨hl,fun v hv=>?_⟩
  have h1:=congrArg (fun L=>L[v]?) h
  simp only [YH,QfY hv,YB (show v<r.length by omega),Option.map_some,Option.some.injEq] at h1
  rw [YC,YB (show v<r.length by omega)]
  exact (QgF (Qh4 hR _)).1 h1
 ·intro h
  refine List.ext_getElem (by rw [Qa7];simpa using h.len) fun i h1 h2=>?_
  rw [Qa7] at h2
  have h3:=h.perm i h2
  have h4:i<r.length:=by rw [h.len];exact h2
  rw [YC,YB h4] at h3
  have h5:=QfY (l:=l) h2
  rw [YB (by rw [Qa7];exact h2),Option.some.injEq] at h5
  rw [List.getElem_map,h5]
  exact (QgF (Qh4 hR _)).2 h3
def sysK (n:Int)(l:List Ed)(r:List (List Int)):Int:=if rightK n l=0 then (if r.map sortL=nearL n.toNat l then 0 else 12) else 1
theorem QhC {N:Nat}{l:List Ed}{r:List (List Int)}(hR:RightG (N:Int) l)(hS:SysR N l r):sysK (N:Int) l r=0:=by
 unfold sysK
 rw [if_pos (right_iff.2 hR)]
 exact if_pos ((QfG hR).2 hS)
theorem Qnl {N:Nat}{l:List Ed}{r:List (List Int)}(hR:RightG (N:Int) l)(hS:¬ SysR N l r):sysK (N:Int) l r=12:=by
 unfold sysK
 rw [if_pos (right_iff.2 hR)]
 exact if_neg fun h=>hS ((QfG hR).1 h)
theorem QdD (n:Int)(l:List Ed)(r:List (List Int))(sv rv:Value)(w:World)(hl:Edges w.heap.size w sv l)(hr:Lsts w.heap.size w rv r):
  Calls Tryz.prog 102 #[.agg #[.int .i64 n,sv],rv] w fun e w'=>e = .returned (.int .i64 (sysK n l r))∧Below w.heap.size w w':=by
 have hgA:Grew w (w.alloc (.cells #[.int .i64 n,sv] 24)):=(Grew.refl w).alloc _
 have hX:Blk 24 (w.alloc (.cells #[.int .i64 n,sv] 24)) w.heap.size [.int .i64 n,sv]:=heap_alloc_new w _
 have q0:=hX.cell (j:=0) rfl
 have q1:=hX.cell (j:=1) rfl
 have hrc:=Qbz n l sv _ (hl.go hgA.below)
 have HX:Hid (Blk 24 (w.alloc (.cells #[.int .i64 n,sv] 24)) w.heap.size [.int .i64 n,sv]):=hX
 have HL:Hid (Edges w.heap.size w sv l):=hl
 have HR0:Hid (Lsts w.heap.size w rv r):=hr
 have HBA:Hid _:=hgA.below
 clear hX hl hr hgA
 go_enter Tryz.func102,Tryz.ntmps102
 go_wp2_with fail
 generalize w.alloc (.cells #[.int .i64 n,sv] 24)=w1 at *
 refine hrc.mono ?_
 clear hrc
 rintro e w2 ⟨rfl,hg2⟩
 have hX2:=HX.out.go hg2.below
 have y0:=hX2.cell (j:=0) rfl
 have y1:=hX2.cell (j:=1) rfl
 have HB2:Hid (Below w.heap.size w w2):=HBA.out.trans (hg2.below.mono HBA.out.size)
 by_cases hk:rightK n l=0
 ·have hR:=right_iff.1 hk
  obtain⟨N,rfl⟩:∃ N:Nat,n=(N:Int):=⟨n.toNat,by have:=hR.n0;omega⟩
  have hne:=QnP N l hR sv w2 (HL.out.go HB2.out)
  have hn1:=hR.n1
  have hm1:=hR.m1
  rw [hk]
  have HR:Hid _:=hR
  clear hk hX2 hR q0 q1
  go_wp2_with fail
  refine hne.mono ?_
  clear hne
  rintro e w3 ⟨nv,rfl,hN3,hb3⟩
  have HB3:Hid (Below w.heap.size w w3):=HB2.out.trans (hb3.mono HB2.out.size)
  have heq:=Qpw r (nearL N l) (fun x hx=>by
   obtain⟨v,hv,rfl⟩:=List.mem_map.1 hx
   exact Nat.le_trans (QaX _ _) hm1) (by rw [Qa7];omega) rv nv w3 (HR0.out.go HB3.out) hN3
  clear y0 y1 hb3 hN3
  by_cases hS:SysR N l r
  ·rw [decide_eq_true ((QfG HR.out).2 hS)] at heq
   have HE:Hid _:=QhC HR.out hS
   clear hS
   go_wp2_with fail
   refine heq.mono ?_
   clear heq
   rintro e w4 ⟨rfl,hb4⟩
   go_wp2
   go_ret
   exact⟨by rw [HE.out];rfl,HB3.out.trans (hb4.mono HB3.out.size)⟩
  ·rw [decide_eq_false fun e=>hS ((QfG HR.out).1 e)] at heq
   have HE:Hid (sysK (N:Int) l r=12):=Qnl HR.out hS
   clear hS
   go_wp2_with fail
   refine heq.mono ?_
   clear heq
   rintro e w4 ⟨rfl,hb4⟩
   go_wp2
   go_ret
   exact⟨by rw [HE.out];rfl,HB3.out.trans (hb4.mono HB3.out.size)⟩
 ·have HE:Hid (sysK n l r=1):=if_neg hk
  generalize rightK n l=k at *
  go_wp2
  go_ret
  exact⟨by rw [HE.out];rfl,HB2.out⟩
def QaJ (N:Nat)(l:List Ed)(r:List (List Int)):List (List Dt):=(Qae (nxD r) (2*l.length+1) (Qal N l) (Qal N l).length).1
theorem QmI (N:Nat)(l:List Ed)(hR:RightG (N:Int) l)(r:List (List Int))(hS:SysR N l r)(sv rv:Value)(w:World)(hl:Edges w.heap.size w sv l)(hr:Lsts w.heap.size w rv r):
  Calls Tryz.prog 81 #[.agg #[.int .i64 (N:Int),sv],rv] w fun e w'=>∃ lv svs,e = .returned (.tuple #[lv,.int .i64 0])∧GrpD w.heap.size lv svs (QaJ N l r) w'∧Below w.heap.size w w':=by
 have hbA:Below w.heap.size w (w.alloc (.cells #[.int .i64 (N:Int),sv] 24)):=YD.alloc YA _
 have hX:Blk 24 (w.alloc (.cells #[.int .i64 (N:Int),sv] 24)) w.heap.size [.int .i64 (N:Int),sv]:=heap_alloc_new w _
 have q0:=hX.cell (j:=0) rfl
 have q1:=hX.cell (j:=1) rfl
 have hrc:=QdD (N:Int) l r sv rv _ (hl.go hbA) (hr.go hbA)
 rw [QhC hR hS] at hrc
 have hent:∀ (args:Array Value) (W:World),(callFunc 106 args).run Tryz.prog W = .ok (.enter 106 args) W:=fun args W=>by kernel_rfl
 have hgr:=fun W h1 h2 fb (hfb:fb<W.heap.size) h3=>QdP N l hR r hS 106 #[.pointer (some ⟨fb,0,none⟩)] hent (fun fs bs W'=>∃ lv svs,IF W W.heap.size fb fs bs W' lv svs) sv rv W h1 h2 h3 (fun fs bs A B ⟨lv,svs,h⟩ hSt=>⟨lv,svs,h.still hfb hSt⟩) (Qhg W W.heap.size fb hfb _)
 have HX:Hid (Blk 24 (w.alloc (.cells #[.int .i64 (N:Int),sv] 24)) w.heap.size [.int .i64 (N:Int),sv]):=hX
 have HL:Hid (Edges w.heap.size w sv l):=hl
 have HR0:Hid (Lsts w.heap.size w rv r):=hr
 have HBA:Hid _:=hbA
 clear hX hl hr hbA hR hS
 have HGR:Hid _:=hgr
 clear hgr
 go_enter Tryz.func81,Tryz.ntmps81
 go_wp2_with fail
 generalize w.alloc (.cells #[.int .i64 (N:Int),sv] 24)=w1 at *
 refine hrc.mono ?_
 clear hrc
 rintro e w2 ⟨rfl,hb2⟩
 have hX2:=HX.out.go hb2
 have hB2:Below w.heap.size w w2:=HBA.out.trans (hb2.mono HBA.out.size)
 have hbB:Below w2.heap.size w2 (w2.alloc (.cells #[.slice none 0 0] 75)):=YD.alloc YA _
 have hV:Blk 75 (w2.alloc (.cells #[.slice none 0 0] 75)) w2.heap.size [.slice none 0 0]:=heap_alloc_new w2 _
 have hX3:=hX2.go hbB
 have y0:=hX3.cell (j:=0) rfl
 have y1:=hX3.cell (j:=1) rfl
 have hB3:=hB2.trans (hbB.mono hB2.size)
 have hs3:(w2.alloc (.cells #[.slice none 0 0] 75)).heap.size=w2.heap.size+1:=by simp
 have hg:=HGR.out (w2.alloc (.cells #[.slice none 0 0] 75)) (HL.out.go hB3) (HR0.out.go hB3) w2.heap.size (by omega) ⟨_,_,GrpD.start _ _,hV,fun q hq=>by simp [Value.ownBlock] at hq,fun sv hs=>by simp at hs,rfl,rfl,rfl,YA,fun q _ _=>rfl,YA⟩
 have HB2:Hid (Below w.heap.size w w2):=hB2
 have HB3:Hid (Below w.heap.size w (w2.alloc (.cells #[.slice none 0 0] 75))):=hB3
 have HS3:Hid _:=hs3
 clear hX2 hX3 hV hB2 hbB hB3 hb2 HGR HX q0 q1 hs3
 go_wp2_with fail
 refine hg.mono ?_
 clear hg
 rintro e w4 ⟨rfl,bs,lv,svs,hIF⟩
 have z0:=hIF.var.cell (j:=0) rfl
 obtain⟨pl,cl,rfl⟩:=Qag hIF.grp.own
 have HF:Hid (∃ lv svs',Value.slice pl svs.length cl=lv∧GrpD w.heap.size lv svs' (QaJ N l r) w4∧Below w.heap.size w w4):=by
  have hs:=HS3.out
  have h2:=HB2.out.size
  refine⟨_,svs,rfl,hIF.grp.base (by omega),?_⟩
  have h3:=HB3.out
  exact⟨hIF.os.trans h3.os,hIF.tape.trans h3.tape,hIF.output.trans h3.output,by have:=hIF.size;omega,fun q hq=>(hIF.low q (by omega) (by omega)).trans (h3.block q hq)⟩
 clear hIF y0 y1
 go_wp2
 refine bodyPost_ret (results_tmp2 rfl _ _ _) rfl ?_
 obtain⟨lv,svs',e,h1,h2⟩:=HF.out
 exact⟨lv,svs',by rw [← e];rfl,h1,h2⟩
def bumpL (L:List Int)(k:Nat)(x:Int):List Int:=L.set k (L.getD k 0+x)
theorem Qhn (L:List Int)(k:Nat)(x:Int):(bumpL L k x).length=L.length:=by simp [bumpL]
theorem Qgj (L:List Int)(k:Nat)(x:Int)(i:Nat):(bumpL L k x).getD i 0=if k=i∧k<L.length then L.getD k 0+x else L.getD i 0:=by unfold bumpL;rw [Qao]
def ofRow (O:List Int)(xs:List Int)(i:Int):List Int:=xs.foldl (fun O v=>O.set v.toNat i) O
def ofC (N:Nat)(C:List (List Int)):Nat→List Int
 | 0=>List.replicate N 0
 | j+1=>ofRow (ofC N C j) (C.getD j []) (j:Int)
theorem QgS (i:Int):∀ (xs:List Int) (O:List Int),(ofRow O xs i).length=O.length
 | [],_=>rfl
 | x :: xs,O=>by
  have:=QgS i xs (O.set x.toNat i)
  unfold ofRow at *
  rw [List.foldl_cons,this]
  simp
theorem QlG (N:Nat)(C:List (List Int)):∀ j,(ofC N C j).length=N
 | 0=>by simp [ofC]
 | j+1=>by rw [ofC,QgS];exact QlG N C j
def hd0 (r:List (List Int))(xs:List Int):Int:=if (r.getD (xs.getD 0 0).toNat []).length=0 then 1 else 0
def liC (C r:List (List Int))(j:Nat):List Int:=(List.range C.length).map fun i=>if i<j then ((C.getD i []).length:Int)+hd0 r (C.getD i []) else 0
def liE (O L:List Int)(es:List Ed):List Int:=es.foldl (fun L e=>bumpL L (O.getD e.1.toNat 0).toNat (-1)) L
def liF (O L:List Int)(fs:List (List Dt)):List Int:=fs.foldl (fun L f=>bumpL L (O.getD (f.getD 0 (0,0)).1.toNat 0).toNat 1) L
def numsM (N:Nat)(l:List Ed)(r C:List (List Int))(fs:List (List Dt)):List Int:=liF (ofC N C C.length) (liE (ofC N C C.length) (liC C r C.length) l) fs
theorem Ql9 (O:List Int):∀ (es:List Ed) (L:List Int),(liE O L es).length=L.length
 | [],_=>rfl
 | e :: es,L=>by
  have:=Ql9 O es (bumpL L (O.getD e.1.toNat 0).toNat (-1))
  unfold liE at *
  rw [List.foldl_cons,this,Qhn]
theorem Qf1 (O:List Int):∀ (fs:List (List Dt)) (L:List Int),(liF O L fs).length=L.length
 | [],_=>rfl
 | f :: fs,L=>by
  have:=Qf1 O fs (bumpL L (O.getD (f.getD 0 (0,0)).1.toNat 0).toNat 1)
  unfold liF at *
  rw [List.foldl_cons,this,Qhn]
theorem Qi7 (O L:List Int)(fs:List (List Dt))(f:List Dt):liF O L (fs++[f])=bumpL (liF O L fs) (O.getD (f.getD 0 (0,0)).1.toNat 0).toNat 1:=by
 unfold liF
 rw [List.foldl_append]
 rfl
def Betw (a b:Int)(L:List Int):Prop:=∀ i,a≤L.getD i 0∧L.getD i 0≤b
theorem Betw.bump {a b:Int}{L:List Int}(h:Betw a b L)(k:Nat){x:Int}(hx : -1≤x∧x≤1):Betw (a-1) (b+1) (bumpL L k x):=by
 intro i
 have h1:=h i
 have h2:=h k
 rw [Qgj]
 split <;> omega
structure IN (w0:World)(h0 lb:Nat)(O L:List Int)(fs:List (List Dt))(bs:List Nat)(W:World):Prop where
 none:bs=[]
 lst:Blk 3 W lb ((liF O L fs).map (Value.int .i64))
 os:W.os=w0.os
 tape:W.tape=w0.tape
 output:W.output=w0.output
 size:h0≤W.heap.size
 low:∀ q,q<h0→q≠lb→W.heap[q]? = w0.heap[q]?
 btw:Betw (-8388608) (8388608+((fs.map List.length).sum:Nat)) (liF O L fs)
theorem IN.still {w0:World}{h0 lb:Nat}{O L:List Int}(hlb:lb<h0){fs:List (List Dt)}{bs:List Nat}{A B:World}(h:IN w0 h0 lb O L fs bs A)(hS:StillR h0 bs A B):IN w0 h0 lb O L fs bs B:=
 ⟨h.none,(hS.block lb h.lst.lt (.inl hlb)).trans h.lst,hS.os.trans h.os,hS.tape.trans h.tape,hS.output.trans h.output,Nat.le_trans h.size hS.size,fun q hq hne=>(hS.block q (Nat.lt_of_lt_of_le hq h.size) (.inl hq)).trans (h.low q hq hne),h.btw⟩
theorem Qe5 (w0:World)(h0 lb ob lvb ovb n N:Nat)(O L:List Int)(hL:L.length=n)(hOl:O.length=N)(hO:∀ v,v<N→∃ k:Nat,O.getD v 0=(k:Int)∧k<n)(hlb:lb<h0)(hob:ob<h0)(hlv:lvb<h0)(hov:ovb<h0)(hn1:ob≠lb)(hn2:lvb≠lb)(hn3:ovb≠lb)
  (v1:Blk 27 w0 lvb [.slice (some ⟨lb,0,none⟩) n n]) (v2:Blk 27 w0 ovb [.slice (some ⟨ob,0,none⟩) N N]) (v3:Blk 3 w0 ob (O.map (Value.int .i64))) (S:List Dt) (hS:∀ d∈S,∃ u:Nat,d.1=(u:Int)∧u<N) :
  Tells h0 123 #[.pointer (some ⟨lvb,0,none⟩),.pointer (some ⟨ovb,0,none⟩)] S (IN w0 h0 lb O L):=by
 intro fs bs face fv W hI hbs hsz hne hfS hsum hfo hap
 have hfp:=List.length_pos_iff.2 hne
 obtain⟨u,hu,huN⟩:=hS face[0] (hfS _ (YG hfp))
 obtain⟨k,hk,hkn⟩:=hO u huN
 have hg0:face.getD 0 (0,0)=face[0]:=by rw [YC,YB hfp];rfl
 have hLn:(liF O L fs).length=n:=by rw [Qf1,hL]
 obtain⟨pf,cf,rfl⟩:=Qag hfo
 obtain⟨b,off,rfl,hbb,hcap,a0,a1⟩:=(Drts.of_owns hfo).cellAt hfp
 rw [hu,Nat.zero_mul,Nat.add_zero] at a0
 have V1:Blk 27 W lvb [.slice (some ⟨lb,0,none⟩) n n]:=(hI.low lvb hlv hn2).trans v1
 have V2:Blk 27 W ovb [.slice (some ⟨ob,0,none⟩) N N]:=(hI.low ovb hov hn3).trans v2
 have V3:Blk 3 W ob (O.map (Value.int .i64)):=(hI.low ob hob hn1).trans v3
 have c1:=V1.cell (j:=0) rfl
 have c2:=V2.cell (j:=0) rfl
 have c3:W.cell? ⟨ob,u,none⟩=some (.int .i64 (k:Int)):=V3.cell (by
  rw [YH,YB (by omega)]
  rw [YC,YB (by omega)] at hk
  simpa using hk)
 have c4:W.cell? ⟨lb,k,none⟩=some (.int .i64 ((liF O L fs).getD k 0)):=hI.lst.cell (by
  rw [YH,YB (by omega),YC,YB (by omega)]
  rfl)
 have f4:=hI.lst.frozen k
 have hbt:=hI.btw k
 have hB5:=hI.lst.set k (.int .i64 ((liF O L fs).getD k 0+1))
 have e5:(bumpL (liF O L fs) k 1).map (Value.int .i64)=((liF O L fs).map (Value.int .i64)).set k (.int .i64 ((liF O L fs).getD k 0+1)):=by unfold bumpL;rw [List.map_set]
 have HFIN:Hid (∀ q,IN w0 h0 lb O L (fs++[face]) [] ((W.drewN q).setCell ⟨lb,k,none⟩ (.int .i64 ((liF O L fs).getD k 0+1)))∧ToldR h0 bs [] W ((W.drewN q).setCell ⟨lb,k,none⟩ (.int .i64 ((liF O L fs).getD k 0+1)))):=fun q=>by
  have hset:∀ p,p≠lb→((W.drewN q).setCell ⟨lb,k,none⟩ (.int .i64 ((liF O L fs).getD k 0+1))).heap[p]? = W.heap[p]?:=fun p hp=>Below.heap_setCell _ _ _ _ (by simpa using hp)
  refine⟨⟨rfl,?_,hI.os,hI.tape,hI.output,by simp;exact hI.size,fun p hp hne=>(hset p hne).trans (hI.low p hp hne),?_⟩,by simp,fun p h1 h2 h3=>hset p (by omega),fun p hp=>by simp at hp,fun p hp=>by simp at hp⟩
  ·rw [Qi7,hg0,hu,YM,hk,YM,e5]
   exact hB5
  ·rw [Qi7]
   intro i
   have:=(hI.btw.bump (O.getD (face.getD 0 (0,0)).1.toNat 0).toNat (x:=1) (by omega)) i
   have h2:=hI.btw
   rw [List.map_append,List.sum_append]
   simp only [List.map_cons,List.map_nil,List.sum_cons,List.sum_nil,Nat.add_zero]
   have h3:=hI.btw i
   rw [Qgj] at *
   split
   ·have:=hI.btw (O.getD (face.getD 0 (0,0)).1.toNat 0).toNat
    omega
   ·omega
 have huN':(u:Int)<(N:Int):=by omega
 have hkn':(k:Int)<(n:Int):=by omega
 have hfp':(0:Int)<(face.length:Int):=by omega
 have hlo : -9000000≤(liF O L fs).getD k 0:=by omega
 have hhi:(liF O L fs).getD k 0≤20000000:=by omega
 generalize (liF O L fs).getD k 0=y at *
 show Calls Tryz.prog 123 #[.slice (some ⟨b,off,none⟩) face.length cf,.pointer (some ⟨lvb,0,none⟩),.pointer (some ⟨ovb,0,none⟩)] W _
 clear hI hbs hfo hap hfS hbt hB5 e5 v1 v2 v3 V1 V2 V3 hS hO hu hk hg0 hLn hL hOl hsum
 go_enter Tryz.func123,Tryz.ntmps123
 go_wp2
 refine Qah (S:=(fun w':World=>w'.cell? ⟨lvb,0,none⟩=some (.slice (some ⟨lb,0,none⟩) n n)∧w'.cell? ⟨ovb,0,none⟩=some (.slice (some ⟨ob,0,none⟩) N N)∧w'.cell? ⟨b,off,none⟩=some (.int .i64 (u:Int))∧w'.cell? ⟨ob,u,none⟩=some (.int .i64 (k:Int))∧w'.cell? ⟨lb,k,none⟩=some (.int .i64 y))) (by kernel_rfl) ?_ (fun hHeld=>?_)
 ·(try dsimp only);go_keep
 refine tL 0 ?_
 try simp only [z4]
 refine tL 1 ?_
 refine tL 2 ?_
 refine tL 3 ?_
 refine tL 4 ?_
 refine tL 5 ?_
 refine tL 6 ?_
 refine tL 7 ?_
 refine tL 8 ?_
 refine tL 9 ?_
 refine tL 10 ?_
 refine tL 11 ?_
 refine Qad (rs:=[12]) (by kernel_rfl) (by simp) ?_
 refine AllReadyL.last rfl (by kernel_rfl) (fun K hK=>?_)
 go_simp
 refine hK.out _ _ ?_
 clear hK K
 try simp only [Act.put,z4,z5,z6]
 refine Qaj (by kernel_rfl) ?_ _
 go_wp2
 refine bodyPost_end (results_none rfl _ _ _) rfl ?_
 rw [show IntKind.i64.wrap (y+1)=y+1 from QaM _ (by omega) (by omega)]
 exact⟨rfl,[],HFIN.out 1⟩
end Go.Proofs.YtalflecmadacaaaGreat
