import Derived.Test.YtalflecmadacaaaGreatZAY
import Derived.Test.YtalflecmadacaaaGreatZAZ
import Derived.Test.YtalflecmadacaaaGreatZAV
import Derived.Test.YtalflecmadacaaaGreatZAA
set_option maxRecDepth 100000
set_option maxHeartbeats 8000000
namespace Go.Proofs.YtalflecmadacaaaGreat
open Go Go.Proofs Go.RowKit
def dualL (fs:List (List Dt))(l:List Ed):List Ed:=l.map fun e=>(faceOf fs (e.1,e.2.1),faceOf fs (e.2.1,e.1),e.2.2)
theorem QeX (fs:List (List Dt))(l:List Ed):(dualL fs l).length=l.length:=List.length_map ..
def dualH (fs:List (List Dt))(l:List Ed)(j:Nat):List Ed:=dualL fs (l.take j)++List.replicate (l.length-j) (0,0,0)
theorem Qkx (fs:List (List Dt))(l:List Ed):dualH fs l 0=List.replicate l.length (0,0,0):=by simp [dualH,dualL]
theorem Qkz (fs:List (List Dt))(l:List Ed):dualH fs l l.length=dualL fs l:=by simp [dualH]
theorem QmP (fs:List (List Dt))(l:List Ed){j:Nat}(h:j≤l.length):(dualH fs l j).length=l.length:=by
 simp [dualH,dualL]
 omega
theorem Qky (fs:List (List Dt))(l:List Ed){j:Nat}(h:j<l.length):(dualH fs l j).set j (faceOf fs (l[j].1,l[j].2.1),faceOf fs (l[j].2.1,l[j].1),l[j].2.2)=dualH fs l (j+1):=by
 unfold dualH dualL
 have e:l.length-j=(l.length-(j+1))+1:=by omega
 have h1:((l.take j).map fun e:Ed=>(faceOf fs (e.1,e.2.1),faceOf fs (e.2.1,e.1),e.2.2)).length=j:=by simp;omega
 rw [List.set_append,h1,if_neg (Nat.lt_irrefl j),Nat.sub_self,e,List.replicate_succ,List.set_cons_zero,List.take_add_one,YB h,List.map_append,List.append_assoc]
 rfl
theorem QjM {fn:Func}{p u:Tmp}(h:fn.results = #[.cell p 24,.tmp u]){tmps:Array Value}{w:World}{b:Nat}{x y:Value}(hp:tmps.getD p undef = .pointer (some ⟨b,0,none⟩))(h0:w.cell? ⟨b,0,none⟩=some x)(h1:w.cell? ⟨b,1,none⟩=some y):
  (results fn tmps).run Tryz.prog w = .ok (.tuple #[.agg #[x,y],tmps.getD u undef]) w:=by
 rw [results_cell_tmp h,hp]
 have a1:=Tryz.isAgg24
 have a2:=Tryz.sizeOf24
 go_simp
theorem Qom (n:Int)(l:List Ed)(hm:l.length≤4194304)(F:List (List Dt))(hf:F.length≤16777216)(hin:∀ x∈F,x.length≤16777216)(hnd:F.flatten.Nodup)(sv rv:Value)(w:World)(hl:Edges w.heap.size w sv l)
  (hP:∀ W,Below w.heap.size w W→Calls Tryz.prog 57 #[.agg #[.int .i64 n,sv],rv] W fun e w'=>∃ lv svs,e = .returned (.tuple #[lv,.int .i64 0])∧GrpD W.heap.size lv svs F w'∧Below W.heap.size W w') :
  Calls Tryz.prog 30 #[.agg #[.int .i64 n,sv],rv] w fun e w'=>∃ gv,e = .returned (.tuple #[.agg #[.int .i64 (F.length:Int),gv],.int .i64 0])∧Edges w'.heap.size w' gv (dualL F l)∧Below w.heap.size w w':=by
 obtain⟨p,c,rfl⟩:=hl.len
 obtain⟨i0,hi,hz0,hz1,hz2⟩:=info_parts infoE
 have hbA:Below w.heap.size w (w.alloc (.cells #[.int .i64 n,.slice p l.length c] 24)):=YD.alloc YA _
 have hX:Blk 24 (w.alloc (.cells #[.int .i64 n,.slice p l.length c] 24)) w.heap.size [.int .i64 n,.slice p l.length c]:=heap_alloc_new w _
 have hs1:(w.alloc (.cells #[.int .i64 n,.slice p l.length c] 24)).heap.size=w.heap.size+1:=by simp
 generalize hw1:w.alloc (.cells #[.int .i64 n,.slice p l.length c] 24)=w1 at *
 have hbB:Below w1.heap.size w1 (w1.alloc (.cells #[.int .i64 0,.slice none 0 0] 24)):=YD.alloc YA _
 have hY:Blk 24 (w1.alloc (.cells #[.int .i64 0,.slice none 0 0] 24)) w1.heap.size [.int .i64 0,.slice none 0 0]:=heap_alloc_new w1 _
 have hX1:=hX.go hbB
 rw [hs1] at hY
 have q0:=hX1.cell (j:=0) rfl
 have q1:=hX1.cell (j:=1) rfl
 have hbw2:Below w.heap.size w (w1.alloc (.cells #[.int .i64 0,.slice none 0 0] 24)):=hbA.trans (hbB.mono hbA.size)
 have hip:=hP _ hbw2
 have HL:Hid (Edges w.heap.size w (.slice p l.length c) l):=hl
 have HIN:Hid ((∀ x∈F,x.length≤16777216)∧F.flatten.Nodup):=⟨hin,hnd⟩
 have HX:Hid (Blk 24 (w1.alloc (.cells #[.int .i64 0,.slice none 0 0] 24)) w.heap.size [.int .i64 n,.slice p l.length c]):=hX1
 have HY:Hid (Blk 24 (w1.alloc (.cells #[.int .i64 0,.slice none 0 0] 24)) (w.heap.size+1) [.int .i64 0,.slice none 0 0]):=hY
 have HB2:Hid (Below w.heap.size w (w1.alloc (.cells #[.int .i64 0,.slice none 0 0] 24))):=hbw2
 clear hl hin hnd hP hX hX1 hY hbA hbB hbw2
 go_enter Tryz.func30,Tryz.ntmps30
 go_wp2_with fail
 generalize w1.alloc (.cells #[.int .i64 0,.slice none 0 0] 24)=w2 at *
 refine hip.mono ?_
 clear hip
 rintro e w3 ⟨lv,svs,rfl,hG,hb3⟩
 have hlen:=hG.len
 obtain⟨pl,cl,rfl⟩:=QcV hG.own
 rw [hlen] at hG
 have HG:Hid (LDr w3.heap.size w3 (.slice pl F.length cl) F):=by have:=hG.ldr;exact this
 have HX3:Hid (Blk 24 w3 w.heap.size [.int .i64 n,.slice p l.length c]):=HX.out.go hb3
 have HY3:Hid (Blk 24 w3 (w.heap.size+1) [.int .i64 0,.slice none 0 0]):=HY.out.go hb3
 have HB3:Hid (Below w.heap.size w w3):=HB2.out.trans (hb3.mono HB2.out.size)
 clear hG hb3 HX HY HB2 q0 q1
 have hly:=HY3.out.lt
 have q1:=HX3.out.cell (j:=1) rfl
 rw [hlen]
 go_wp2_with (at_make;refine wpList_make_full _ rfl _ _ 22 rfl w3.heap.size 50 i0 (.agg #[.int .i64 0,.int .i64 0,.int .i64 0]) 3 Tryz.underlying22 hi hz0 hz1 .i64 .i64 _ _ l.length rfl rfl rfl rfl (by rw [hz2];omega) (by unfold maxLen;omega) YA ?_;intro w4 hown hgrow;have hb4:Below w3.heap.size w3 w4:=YD.grown hgrow YA (fun k e=>by cases e);have x0:=(HX3.out.go hb4).cell (j:=0) rfl;have x1:=(HX3.out.go hb4).cell (j:=1) rfl)
 have hsd:=Qk8 n l hm F hf HIN.out.1 HIN.out.2 (.slice p l.length c) (.slice pl F.length cl) w4 (HL.out.go (HB3.out.trans (hb4.mono HB3.out.size))) (HG.out.go hb4)
 have hrow:=Blk.made hown
 rw [QmC,← Qkx F l] at hrow
 have HR4:Hid (Blk 50 w4 w3.heap.size (flat (dualH F l 0))):=hrow
 have HX4:Hid (Blk 24 w4 w.heap.size [.int .i64 n,.slice p l.length c]):=HX3.out.go hb4
 have HY4:Hid (Blk 24 w4 (w.heap.size+1) [.int .i64 0,.slice none 0 0]):=HY3.out.go hb4
 have HB4:Hid (Below w.heap.size w w4):=HB3.out.trans (hb4.mono HB3.out.size)
 clear hown hgrow hb4 hrow HX3 HY3 HB3 q1 x0 x1 HG HIN hi hz0 hz1 hz2
 generalize hge:w3.heap.size=g at *
 refine hsd.mono ?_
 clear hsd
 rintro e w5 ⟨gs,rfl,hgs,hB5,hb5⟩
 have hgl:=HR4.out.lt
 have hB0:=HR4.out.go hb5
 have HX5:Hid (Blk 24 w5 w.heap.size [.int .i64 n,.slice p l.length c]):=HX4.out.go hb5
 have HY5:Hid (Blk 24 w5 (w.heap.size+1) [.int .i64 0,.slice none 0 0]):=HY4.out.go hb5
 have HB5:Hid (Below w.heap.size w w5):=HB4.out.trans (hb5.mono HB4.out.size)
 clear hb5 HX4 HY4 HB4 HR4
 have hgg:g<gs:=by omega
 go_wp2
 go_loopw [29] (fun i wr=>∃ j:Nat,j≤l.length∧i = .int .i64 j∧Blk 50 wr g (flat (dualH F l j))∧Blk 80 wr gs (flatD (Qb1 F l))∧Below g w5 wr) (fun i _=>l.length-(intOf i).toNat)
 case atStart=>exact⟨0,YN,rfl,hB0,hB5,YD⟩
 case round=>
  clear hB0 hB5
  obtain⟨j,hj,rfl,hB,hS,hb⟩:=hrel
  rename World=>w6
  have hbX:=HX5.out
  have x1:=(hb.cell (p:=⟨w.heap.size,1,none⟩) (by simp only;omega)).trans (HX5.out.cell (j:=1) rfl)
  by_cases hlt:j<l.length
  ·obtain⟨b,off,rfl,hbb,hcap,hc,-⟩:=HL.out.open hlt
   obtain⟨-,-,c2⟩:=hc w6 (HB5.out.trans (hb.mono (by omega))) j hlt
   have hjl:(j:Int)<(l.length:Int):=by omega
   have HS:Hid _:=Qky F l hlt
   have hsl:=hS.lt
   obtain⟨d0,d1⟩:=QbV (L:=Qb1 F l) (j:=j) (x:=(faceOf F (l[j].1,l[j].2.1),faceOf F (l[j].2.1,l[j].1))) (by unfold Qb1;rw [YH,YB hlt];rfl)
   have s0:=hS.cell d0
   have s1:=hS.cell d1
   have hln:j<(dualH F l j).length:=by rw [QmP F l hj];exact hlt
   clear hc d0 d1
   generalize l[j].2.2=wt at *
   generalize faceOf F (l[j].1,l[j].2.1)=x at *
   generalize faceOf F (l[j].2.1,l[j].1)=y at *
   simp only at s0 s1
   have hbN:Below w6.heap.size w6 (w6.alloc (.cells #[.int .i64 x,.int .i64 y] 80)):=YD.alloc YA _
   have hE:Blk 80 (w6.alloc (.cells #[.int .i64 x,.int .i64 y] 80)) w6.heap.size [.int .i64 x,.int .i64 y]:=heap_alloc_new w6 _
   have e0:=hE.cell (j:=0) rfl
   have e1:=hE.cell (j:=1) rfl
   have hBN:=hB.go hbN
   have hSN:=hS.go hbN
   have y1:=(hbN.cell (p:=⟨w.heap.size,1,none⟩) (by simp only;have:=hb.size;omega)).trans x1
   have y2:=(hbN.cell (p:=⟨b,off+j*3+2,none⟩) (by simp only;have:=hb.size;omega)).trans c2
   have HBN:Hid (Below g w5 (w6.alloc (.cells #[.int .i64 x,.int .i64 y] 80))):=hb.alloc (by omega) _
   clear hbN hE hB hS hbX
   go_wp2_with fail
   generalize w6.alloc (.cells #[.int .i64 x,.int .i64 y] 80)=w7 at *
   have hBn:=((hBN.set (j*3) (.int .i64 x)).set (j*3+1) (.int .i64 y)).set (j*3+2) (.int .i64 wt)
   have efs:=Qjk (dualH F l j) j (x,y,wt)
   simp only at efs
   rw [efs,HS.out] at hBn
   have HBn:Hid _:=hBn
   have f0:w7.drew.frozen? ⟨g,j*3,none⟩=false:=hBN.frozen (j*3)
   have f1:w7.drew.frozen? ⟨g,j*3+1,none⟩=false:=hBN.frozen (j*3+1)
   have f2:w7.drew.frozen? ⟨g,j*3+2,none⟩=false:=hBN.frozen (j*3+2)
   have f3:w7.frozen? ⟨g,j*3+1,none⟩=false:=hBN.frozen (j*3+1)
   have f4:w7.frozen? ⟨g,j*3+2,none⟩=false:=hBN.frozen (j*3+2)
   have HSN:Hid (Blk 80 w7 gs (flatD (Qb1 F l))):=hSN
   have HBO:Hid (Blk 50 w7 g (flat (dualH F l j))):=hBN
   clear hBn hBN hSN s0 s1 x1 c2 efs
   obtain⟨⟨o0,g0⟩,⟨o1,g1⟩,⟨o2,g2⟩⟩:(∃ o,w7.cell? ⟨g,j*3,none⟩=some o)∧(∃ o,w7.cell? ⟨g,j*3+1,none⟩=some o)∧(∃ o,w7.cell? ⟨g,j*3+2,none⟩=some o):=by
    obtain⟨d0,d1,d2⟩:=Qdt (YB hln)
    exact⟨⟨_,HBO.out.cell d0⟩,⟨_,HBO.out.cell d1⟩,⟨_,HBO.out.cell d2⟩⟩
   have HGG:Hid (g<gs):=hgg
   clear hln hgg
   refine Qah (S:=(fun w':World=>w'.cell? ⟨w6.heap.size,0,none⟩=some (.int .i64 x)∧w'.cell? ⟨w6.heap.size,1,none⟩=some (.int .i64 y)∧w'.cell? ⟨w.heap.size,1,none⟩=some (.slice (some ⟨b,off,none⟩) l.length c)∧w'.cell? ⟨b,off+j*3+2,none⟩=some (.int .i64 wt))) (by kernel_rfl) ⟨e0,e1,y1,y2⟩ (fun hHeld=>?_)
   refine tL 0 ?_
   try simp only [z4]
   refine tL 1 ?_
   refine tL 2 ?_
   refine tL 3 ?_
   refine tL 4 ?_
   refine tL 5 ?_
   refine tL 6 ?_
   refine tL 7 ?_
   refine tL 8 ?_
   refine tL 9 ?_
   refine tL 10 ?_
   refine tL 11 ?_
   refine tL 12 ?_
   refine tL 13 ?_
   clear e0 e1 y1 y2 hHeld
   refine Qad (rs:=[14]) (by kernel_rfl) (by simp) ?_
   refine AllReadyL.last rfl (by kernel_rfl) (fun K hK=>?_)
   go_simp
   refine hK.out _ _ ?_
   clear hK K
   try simp only [Act.put,z4,z5,z6]
   refine Qaj (by kernel_rfl) ?_ _
   have hBq:Blk 50 (((w7.setCell ⟨g,j*3,none⟩ (.int .i64 x)).setCell ⟨g,j*3+1,none⟩ (.int .i64 y)).setCell ⟨g,j*3+2,none⟩ (.int .i64 wt)).drew g (flat (dualH F l (j+1))):=HBn.out
   have hSq:Blk 80 (((w7.setCell ⟨g,j*3,none⟩ (.int .i64 x)).setCell ⟨g,j*3+1,none⟩ (.int .i64 y)).setCell ⟨g,j*3+2,none⟩ (.int .i64 wt)).drew gs (flatD (Qb1 F l)):=by
    have hgg:=HGG.out
    have h1:=Below.heap_setCell w7 ⟨g,j*3,none⟩ (.int .i64 x) gs (by simp only;omega)
    have h2:=Below.heap_setCell (w7.setCell ⟨g,j*3,none⟩ (.int .i64 x)) ⟨g,j*3+1,none⟩ (.int .i64 y) gs (by simp only;omega)
    have h3:=Below.heap_setCell ((w7.setCell ⟨g,j*3,none⟩ (.int .i64 x)).setCell ⟨g,j*3+1,none⟩ (.int .i64 y)) ⟨g,j*3+2,none⟩ (.int .i64 wt) gs (by simp only;omega)
    exact (h3.trans (h2.trans h1)).trans HSN.out
   have hbq:Below g w5 (((w7.setCell ⟨g,j*3,none⟩ (.int .i64 x)).setCell ⟨g,j*3+1,none⟩ (.int .i64 y)).setCell ⟨g,j*3+2,none⟩ (.int .i64 wt)).drew:=Qab (((HBN.out.setCell (p:=⟨g,j*3,none⟩) YA _).setCell (p:=⟨g,j*3+1,none⟩) YA _).setCell (p:=⟨g,j*3+2,none⟩) YA _) 1
   clear HBn HBN f0 f1 f2 f3 f4 g0 g1 g2 HS HSN HBO
   go_wp2
   exact⟨⟨j+1,by omega,by go_num,hBq,hSq,hbq⟩,by simp [intOf];omega⟩
  ·obtain rfl:j=l.length:=by omega
   have hjl:¬ (l.length:Int)<(l.length:Int):=by omega
   rw [Qkz] at hB
   have hY6:Blk 24 w6 (w.heap.size+1) [.int .i64 0,.slice none 0 0]:=(hb.block _ (by omega)).trans HY5.out
   have y0:=hY6.cell (j:=0) rfl
   have y1:=hY6.cell (j:=1) rfl
   have f0:=hY6.frozen 0
   have f1:=hY6.frozen 1
   have hY7:=(hY6.set 0 (.int .i64 (F.length:Int))).set 1 (.slice (some ⟨g,0,none⟩) l.length l.length)
   have z0:=hY7.cell (j:=0) rfl
   have z1:=hY7.cell (j:=1) rfl
   have hBW:Below w.heap.size w w6:=HB5.out.trans (hb.mono (by omega))
   have HBF:Hid (Below w.heap.size w ((w6.setCell ⟨w.heap.size+1,0,none⟩ (.int .i64 (F.length:Int))).setCell ⟨w.heap.size+1,1,none⟩ (.slice (some ⟨g,0,none⟩) l.length l.length))):=(hBW.setCell (p:=⟨w.heap.size+1,0,none⟩) (by simp) _).setCell (p:=⟨w.heap.size+1,1,none⟩) (by simp) _
   have HBG:Hid (Blk 50 ((w6.setCell ⟨w.heap.size+1,0,none⟩ (.int .i64 (F.length:Int))).setCell ⟨w.heap.size+1,1,none⟩ (.slice (some ⟨g,0,none⟩) l.length l.length)) g (flat (dualL F l))):=by
    have h1:=Below.heap_setCell w6 ⟨w.heap.size+1,0,none⟩ (.int .i64 (F.length:Int)) g (by simp only;omega)
    have h2:=Below.heap_setCell (w6.setCell ⟨w.heap.size+1,0,none⟩ (.int .i64 (F.length:Int))) ⟨w.heap.size+1,1,none⟩ (.slice (some ⟨g,0,none⟩) l.length l.length) g (by simp only;omega)
    exact (h2.trans h1).trans hB
   have HLN:Hid (l.length=(dualL F l).length):=(QeX F l).symm
   clear hB hS hb hY6 hY7 hBW hbX x1 HX5 HY5 HL
   go_wp2
   refine bodyPost_ret (QjM rfl rfl z0 z1) rfl ?_
   refine⟨_,rfl,?_,HBF.out⟩
   have:=HBG.out.edges
   rw [QeX] at this
   exact this
def stepF (nx:Dt→Dt)(fuel:Nat)(s:List (List Dt) × List Dt)(d:Dt):List (List Dt) × List Dt:=if s.2.contains d then s else (s.1++[orb nx d fuel d],s.2++orb nx d fuel d)
def foldF (nx:Dt→Dt)(fuel:Nat)(starts:List Dt):List (List Dt) × List Dt:=starts.foldl (stepF nx fuel) ([],[])
theorem Qkq (nx:Dt→Dt)(fuel:Nat)(starts:List Dt)(d:Dt):foldF nx fuel (starts++[d])=stepF nx fuel (foldF nx fuel starts) d:=by
 unfold foldF
 rw [List.foldl_append]
 rfl
theorem Qek (nx:Dt→Dt)(fuel:Nat)(starts:List Dt):∀ {j:Nat},j≤starts.length→Qae nx fuel starts j=foldF nx fuel (starts.take j)
 | 0,_=>rfl
 | j+1,h=>by
  have hj:j<starts.length:=by omega
  have e:starts.getD j (0,0)=starts[j]:=by rw [YC,YB hj];rfl
  rw [Qae,e,Qek nx fuel starts (by omega:j≤starts.length),List.take_add_one,YB hj]
  show _=foldF nx fuel (starts.take j++[starts[j]])
  rw [Qkq]
  rfl
theorem QhY (nx:Dt→Dt)(d:Dt):∀ (k:Nat) (x:Dt),(orb nx d k x).length≤k
 | 0,_=>by simp [orb]
 | k+1,x=>by
  rw [orb]
  split
  ·simp
  ·have:=QhY nx d k (nx x)
   simp
   omega
theorem QmA (nx:Dt→Dt)(fuel:Nat)(starts:List Dt):(foldF nx fuel starts).1.length≤starts.length∧(foldF nx fuel starts).2.length≤starts.length*fuel:=by
 have aux:∀ (L:List Dt) (s:List (List Dt) × List Dt),(L.foldl (stepF nx fuel) s).1.length≤s.1.length+L.length∧(L.foldl (stepF nx fuel) s).2.length≤s.2.length+L.length*fuel:=by
  intro L
  induction L with
  | nil=>intro s;simp
  | cons d L ih=>
   intro s
   rw [List.foldl_cons]
   have h1:=ih (stepF nx fuel s d)
   have h2:(stepF nx fuel s d).1.length≤s.1.length+1∧(stepF nx fuel s d).2.length≤s.2.length+fuel:=by
    unfold stepF
    split
    ·exact⟨by omega,by omega⟩
    ·have:=QhY nx d fuel d
     simp
     omega
   rw [List.length_cons,Nat.succ_mul]
   omega
 have:=aux starts ([],[])
 unfold foldF
 simpa using this
theorem Qim (l:List Ed)(j:Nat):Qal (j+1) l=Qal j l++(nb l (j:Int)).map fun v=>((j:Int),v):=by
 unfold Qal
 rw [List.range_succ,List.flatMap_append]
 simp
theorem Going.any2 {nx:Dt→Dt}{S starts:List Dt}{F:Nat}{left:List Dt}{d:Dt}{j:Nat}(h:Going nx S starts F left [] d j)(d':Dt):Going nx S starts F left [] d' j:=⟨h.shut,h.nodup,h.all,h.len,fun e=>absurd rfl e⟩
section
variable {N:Nat} {l:List Ed} {r:List (List Int)}
def stsAt (l:List Ed)(u v:Nat):List Dt:=Qal u l++((nb l (u:Int)).filter fun x=>decide (x<(v:Int))).map fun x=>((u:Int),x)
theorem QjA (hR:RightG (N:Int) l)(u:Nat):stsAt l u 0=Qal u l:=by
 unfold stsAt
 have:(nb l (u:Int)).filter (fun x=>decide (x<((0:Nat):Int)))=[]:=by
  rw [List.filter_eq_nil_iff]
  intro x hx
  have:=(Qb6 hR hx).2.1
  simp
  omega
 rw [this]
 simp
def stF (l:List Ed)(r:List (List Int))(u v:Nat):List (List Dt) × List Dt:=foldF (nxD r) (2*l.length+1) (stsAt l u v)
theorem QfB (l:List Ed):∀ j,(Qal j l).length=degS l j
 | 0=>by simp [Qal,degS]
 | j+1=>by
  rw [Qim,YI,List.length_map,QfB l j]
  rfl
theorem Qk1 (hR:RightG (N:Int) l){u v:Nat}(hu:u≤N):(stsAt l u v).length≤3*l.length:=by
 unfold stsAt
 rw [YI,List.length_map,QfB]
 have h1:=Qcz (l:=l) hu
 have h2:degS l N=2*l.length:=Qcn (fun e he=>(hR.each e he).1)
 have h3:=List.length_filter_le (fun x=>decide (x<(v:Int))) (nb l (u:Int))
 have h4:=QaX (u:Int) l
 omega
theorem Qo3 (hR:RightG (N:Int) l)(r:List (List Int)){u v:Nat}(hu:u≤N):(stF l r u v).1.length≤3*l.length∧(stF l r u v).2.length≤3*l.length*(2*l.length+1):=by
 have h1:=Qk1 hR (v:=v) hu
 have h2:=QmA (nxD r) (2*l.length+1) (stsAt l u v)
 exact⟨Nat.le_trans h2.1 h1,Nat.le_trans h2.2 (Nat.mul_le_mul_right _ h1)⟩
end
section
variable {nx:Dt→Dt} {S starts:List Dt} {fuel:Nat}
def Rnd (nx:Dt→Dt)(f:List Dt):Prop:=f≠[]∧∃ d,Way nx d d f
theorem QeL (hP:PermS nx S){j:Nat}{left face:List Dt}{d:Dt}(h:Going nx S starts fuel left face d j)(hf:face≠[])(hd:d∉left)(hdS:d∈S):∃ d,Way nx d d face:=by
 have hw:=h.way hf
 have hnd:=(List.nodup_append.1 h.nodup).2.1
 have hnf:face.Nodup:=(List.nodup_append.1 hnd).1
 have hap:∀ y∈face,y∉(Qae nx fuel starts j).2:=fun y hy hy'=>(List.nodup_append.1 hnd).2.2 y hy y hy' rfl
 have hsub:∀ y∈face,y∈S:=fun y hy=>(h.all y).2 (.inr (.inl hy))
 have hdm:d∈(Qae nx fuel starts j).2∨d∈face:=by
  rcases (h.all d).1 hdS with h1 | h1 | h1
  ·exact absurd h1 hd
  ·exact .inr h1
  ·exact .inl h1
 have e:=Way.round hP h.shut hf hw hsub hnf hap hdm
 rw [← e] at hw
 exact⟨d,hw⟩
theorem Qkp (hP:PermS nx S)(hfu:S.length≤fuel){j:Nat}:∀ (n:Nat) {left face:List Dt} {d:Dt},left.length≤n→Going nx S starts fuel left face d j→d∈S→(face=[]→d=starts.getD j (0,0))→∃ left',Going nx S starts fuel left' [] (0,0) (j+1)∧∀ f∈(Qae nx fuel starts (j+1)).1,f∈(Qae nx fuel starts j).1∨Rnd nx f:=by
 intro n
 induction n with
 | zero=>
  intro left face d hn hG hd h0
  have hl:left=[]:=List.eq_nil_of_length_eq_zero (by omega)
  have hdl:d∉left:=by rw [hl];simp
  by_cases hf:face=[]
  ·subst hf
   obtain⟨e1,e2⟩:=hG.skip hdl hd (h0 rfl) (0,0)
   exact⟨left,e2,fun f hm=>.inl (by rw [e1] at hm;exact hm)⟩
  ·obtain⟨e1,e2⟩:=hG.done hP hf hdl hd hfu (0,0)
   exact⟨left,e2,fun f hm=>by
    rw [e1] at hm
    rcases YJ hm with h1 | h1
    ·exact .inl h1
    ·rw [YF h1]
     exact .inr ⟨hf,QeL hP hG hf hdl hd⟩⟩
 | succ n ih=>
  intro left face d hn hG hd h0
  by_cases hdl:d∈left
  ·have h1:=hG.take hdl h0
   refine ih ?_ h1 (hP.mem d hd) (fun e=>by simp at e)
   rw [List.length_erase_of_mem hdl]
   omega
  ·by_cases hf:face=[]
   ·subst hf
    obtain⟨e1,e2⟩:=hG.skip hdl hd (h0 rfl) (0,0)
    exact⟨left,e2,fun f hm=>.inl (by rw [e1] at hm;exact hm)⟩
   ·obtain⟨e1,e2⟩:=hG.done hP hf hdl hd hfu (0,0)
    exact⟨left,e2,fun f hm=>by
     rw [e1] at hm
     rcases YJ hm with h1 | h1
     ·exact .inl h1
     ·rw [YF h1]
      exact .inr ⟨hf,QeL hP hG hf hdl hd⟩⟩
theorem Qg7 (hP:PermS nx S)(hn:S.Nodup)(hfu:S.length≤fuel)(hst:∀ d∈starts,d∈S):∀ {j:Nat},j≤starts.length→(∃ left,Going nx S starts fuel left [] (0,0) j)∧∀ f∈(Qae nx fuel starts j).1,Rnd nx f
 | 0,_=>⟨⟨S,Going.start hn _ _ _⟩,fun f h=>by simp [Qae] at h⟩
 | j+1,h=>by
  obtain⟨⟨left,hG⟩,hr⟩:=Qg7 hP hn hfu hst (by omega:j≤starts.length)
  have hj:j<starts.length:=by omega
  have hm:starts.getD j (0,0)∈S:=by
   rw [YC,YB hj]
   exact hst _ (YG hj)
  obtain⟨left',hG',hr'⟩:=Qkp hP hfu left.length YA (hG.any2 (starts.getD j (0,0))) hm (fun _=>rfl)
  exact⟨⟨left',hG'⟩,fun f hf=>(hr' f hf).elim (hr f) id⟩
theorem QbN:∀ j,(Qae nx fuel starts j).1.flatten=(Qae nx fuel starts j).2
 | 0=>rfl
 | j+1=>by
  rw [Qae]
  split
  ·exact QbN j
  ·simp [QbN j]
theorem QhN (j:Nat):∀ x∈(Qae nx fuel starts j).2,x∈(Qae nx fuel starts (j+1)).2:=by
 intro x hx
 rw [Qae]
 split
 ·exact hx
 ·exact List.mem_append_left _ hx
theorem QgJ (hf:0<fuel)(j:Nat):starts.getD j (0,0)∈(Qae nx fuel starts (j+1)).2:=by
 rw [Qae]
 split
 ·rename_i h
  simpa using h
 ·refine List.mem_append_right _ ?_
  match fuel,hf with
  | k+1,_=>rw [orb];exact List.mem_cons_self ..
theorem QcO (hf:0<fuel):∀ (k j:Nat),j<k→starts.getD j (0,0)∈(Qae nx fuel starts k).2
 | k+1,j,h=>by
  by_cases e:j=k
  ·subst e;exact QgJ hf j
  ·exact QhN k _ (QcO hf k j (by omega))
end
section
variable {nx:Dt→Dt}
structure Dec (nx:Dt→Dt)(P:Dt→Prop)(C:List (List Dt)):Prop where
 rnd:∀ f∈C,Rnd nx f
 nodup:C.flatten.Nodup
 mem:∀ x,x∈C.flatten↔P x
end
end Go.Proofs.YtalflecmadacaaaGreat
