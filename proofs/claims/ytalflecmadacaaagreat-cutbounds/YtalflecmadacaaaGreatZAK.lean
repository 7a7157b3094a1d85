import Derived.Test.YtalflecmadacaaaGreatZAJ
import Derived.Test.YtalflecmadacaaaGreatZAI
import Derived.Deep.RegionHeld3
import Derived.Test.YtalflecmadacaaaGreatZAA
import Derived.WalkMore
import Derived.Test.YtalflecmadacaaaGreatZAH
import Derived.Deep.QuietTactic
import Derived.BigQuiet
import Derived.Test.YtalflecmadacaaaGreatZAB
import Derived.Deep.DrawnRows
import Derived.Maps.AppendAt
set_option maxRecDepth 100000
set_option maxHeartbeats 8000000
namespace Go.Proofs.YtalflecmadacaaaGreat
open Go Go.Proofs Go.RowKit
theorem Qjb:(Tryz.prog.info? 3).map (fun i=>(i.zero,i.size,i.bytes))=some (some (.int .i64 0),1,8):=by kernel_rfl
theorem QpW:(Tryz.prog.info? 27).map (fun i=>(i.zero,i.size,i.bytes))=some (some (.slice none 0 0),1,24):=by kernel_rfl
theorem Qid (n:Nat):(madeCells (Value.int .i64 0).cells (n*1)).toList.length=n:=by
 simp [madeCells]
theorem QdK (N:Nat)(l:List Ed)(hR:RightG (N:Int) l)(sv:Value)(w:World)(hl:Edges w.heap.size w sv l):
  Calls Tryz.prog 68 #[.agg #[.int .i64 (N:Int),sv]] w fun r w'=>∃ lb sb,r = .returned (.slice (some ⟨lb,0,none⟩) N N)∧w.heap.size<lb∧w.heap.size<sb∧lb≠sb∧PlsI N lb sb (2*l.length) (offR l (2*l.length)) (fun v=>(nb l (v:Int)).length) (fun v=>plOf (v:Int) l) w'∧Below w.heap.size w w':=by
 have hmix:=mixed
 have hg1:Grew w (w.alloc (.cells #[.int .i64 (N:Int),sv] 24)):=(Grew.refl w).alloc _
 obtain⟨p,c,rfl⟩:=hl.len
 obtain⟨i0,hi,hz0,hz1,hz2⟩:=info_parts QpW
 obtain⟨k0,hki,hkz0,hkz1,hkz2⟩:=info_parts Qjb
 have hn1:=hR.n1
 have hm1:=hR.m1
 have hM2:degS l N=2*l.length:=Qcn fun e he=>(hR.each e he).1
 have hbw:=hg1.below
 have q0:(w.alloc (.cells #[.int .i64 (N:Int),.slice p l.length c] 24)).cell? ⟨w.heap.size,0,none⟩=some (.int .i64 (N:Int)):=Qan rfl rfl
 have q1:(w.alloc (.cells #[.int .i64 (N:Int),.slice p l.length c] 24)).cell? ⟨w.heap.size,1,none⟩=some (.slice p l.length c):=Qan rfl rfl
 have hsz1:(w.alloc (.cells #[.int .i64 (N:Int),.slice p l.length c] 24)).heap.size=w.heap.size+1:=by simp
 go_enter Tryz.func68,Tryz.ntmps68
 go_wp2_with (first | (at_make;refine wpList_make_full _ rfl _ _ 35 rfl (w.alloc (.cells #[.int .i64 (N:Int),.slice p l.length c] 24)).heap.size 27 i0 (.slice none 0 0) 1 Tryz.underlying35 hi hz0 hz1 .i64 .i64 _ _ N rfl rfl rfl rfl (by rw [hz2];omega) (by unfold maxLen;omega) YA ?_;intro w3 hown hgrow;have hb3:Below (w.alloc (.cells #[.int .i64 (N:Int),.slice p l.length c] 24)).heap.size (w.alloc (.cells #[.int .i64 (N:Int),.slice p l.length c] 24)) w3:=YD.grown hgrow YA (fun k e=>by cases e);have x0:=Qaa hb3 q0;have x1:=Qaa hb3 q1) | (at_make;refine wpList_make_full _ rfl _ _ 27 rfl 0 3 k0 (.int .i64 0) 1 Tryz.underlying27 hki hkz0 hkz1 .i64 .i64 _ _ (2*l.length) rfl rfl rfl rfl (by rw [hkz2];omega) (by unfold maxLen;omega) YN ?_;intro w4 hown4 hgrow4;have hb4:Below w3.heap.size w3 w4:=YD.grown hgrow4 YA (fun k e=>by cases e);have y0:=Qaa hb4 x0;have y1:=Qaa hb4 x1))
 have hrow:=Blk.made hown
 rw [QdF,hsz1] at hrow
 have hcs:=Blk.made hown4
 have hcl:=Qid (2*l.length)
 generalize (madeCells (Value.int .i64 0).cells (2*l.length*1)).toList=cs at hcs hcl
 have hrow4:=hrow.go hb4
 have hbw3:=hbw.trans (hb3.mono (by rw [hsz1];omega))
 have hbw4:=hbw3.trans (hb4.mono hbw3.size)
 have hs3:w.heap.size+1<w3.heap.size:=hrow.lt
 have hs4:w3.heap.size<w4.heap.size:=hcs.lt
 clear hown hgrow hi hz0 hz1 hz2 hki hkz0 hkz1 hkz2 hb3 q0 q1 hg1 hbw hrow hown4 hgrow4 hb4 x0 x1 hbw3 hsz1
 generalize w3.heap.size=sb at *
 generalize hlb:w.heap.size+1=lb at *
 refine (Qcy N l hR _ _ (hl.go hbw4)).mono ?_
 rintro e w5 ⟨dv,rfl,hdI,⟨gd,rfl,hgd⟩,hb5⟩
 have hrow5:=hrow4.go hb5
 have hcs5:=hcs.go hb5
 have z0:=Qaa hb5 y0
 have z1:=Qaa hb5 y1
 have hbw5:=hbw4.trans (hb5.mono hbw4.size)
 have hs5:=hb5.size
 have hdI':∀ v,v<N→w5.cell? ⟨gd,v,none⟩=some (.int .i64 ((nb l (v:Int)).length:Int)):=fun v hv=>by
  rcases hdI with ⟨_,h0⟩ | ⟨b,off,cap,h1,h2,h3,h4⟩
  ·have:=congrArg List.length h0;rw [QbW] at this;simp at this;omega
  ·simp only [Value.slice.injEq,Option.some.injEq,Addr.mk.injEq] at h1
   obtain⟨⟨rfl,rfl,_⟩,_,_⟩:=h1
   have:=h4 v _ (QcA (l:=l) (j:=l.length) hv)
   rwa [Nat.zero_add,List.take_length] at this
 have hgd5:N=0∨gd<w5.heap.size:=by
  by_cases h:N=0
  ·exact .inl h
  ·exact .inr (World.block_lt_of_cell? w5 ⟨gd,0,none⟩ (hdI' 0 (by omega)))
 clear hdI hrow4 hcs hb5 y0 y1 hbw4
 go_wp2
 go_loopw [4,20] (fun rv iv wr=>∃ (j:Nat),j≤N∧iv = .int .i64 j∧rv = .slice (some ⟨sb,offR l (2*l.length) j,none⟩) (2*l.length-degS l j) (2*l.length-degS l j)∧Blk 27 wr lb (halfP N sb (offR l (2*l.length)) (fun v=>(nb l (v:Int)).length) j)∧w5.grownBy wr (some lb)) (fun _ i _=>N-(intOf i).toNat)
 case atStart=>exact⟨0,YN,rfl,by simp [offR,degS],by rw [Qkj];exact hrow5,⟨rfl,rfl,rfl,YA,fun _ _ _=>rfl⟩⟩
 case round=>
  obtain⟨j,hj,rfl,rfl,hH,hgr⟩:=hrel
  by_cases hlt:j<N
  ·have hgdl:gd<w5.heap.size:=by omega
   have c0:=hgr.cell (hdI' j hlt) (by simp;omega)
   have hjl:(j:Int)<(N:Int):=by omega
   have hdl:=QaX (j:Int) l
   have hgs:=hgr.size
   have o1:=hH.cell (Qd2 hlt)
   have f1:=hH.frozen j
   rw [if_neg (Nat.lt_irrefl j)] at o1
   have hds:degS l (j+1)=degS l j+(nb l (j:Int)).length:=rfl
   have hle:=Qcz (l:=l) (v:=j+1) (n:=N) hlt
   have HST:Hid _:=Qkk (N:=N) (sb:=sb) (off:=offR l (2*l.length)) (deg:=fun v=>(nb l (v:Int)).length) (j:=j)
   have HO:Hid (offR l (2*l.length) (j+1)=if (nb l (j:Int)).length=2*l.length-degS l j then offR l (2*l.length) j else offR l (2*l.length) j+(nb l (j:Int)).length):=rfl
   have hgr6:w5.grownBy (wr.setCell ⟨lb,j,none⟩ (.slice (some ⟨sb,offR l (2*l.length) j,none⟩) 0 (nb l (j:Int)).length)).drew (some lb):=by
    refine⟨hgr.os,hgr.tape,hgr.output,by show w5.heap.size≤(wr.setCell _ _).heap.size;simp;exact hgs,fun k hk hne=>?_⟩
    exact (Below.heap_setCell _ _ _ _ (fun e=>hne (by rw [e]))).trans (hgr.block k hk hne)
   have hB7:=hH.set j (.slice (some ⟨sb,offR l (2*l.length) j,none⟩) 0 (nb l (j:Int)).length)
   rw [HST.out] at hB7
   have HB7:Hid (Blk 27 (wr.setCell ⟨lb,j,none⟩ (.slice (some ⟨sb,offR l (2*l.length) j,none⟩) 0 (nb l (j:Int)).length)).drew lb _):=hB7
   have HG6:Hid _:=hgr6
   rw [hM2,hds] at hle
   have HDS:Hid (degS l (j+1)=degS l j+(nb l (j:Int)).length):=hds
   clear hB7 hgr6 hH hgr hrow5 hcs5 hcl hdI' hl hR hds HST
   generalize (nb l (j:Int)).length=d at *
   generalize degS l j=q at *
   generalize offR l (2*l.length) j=o at *
   generalize 2*l.length=M2 at *
   have hd0:(d:Int)≤((M2-q:Nat):Int):=by omega
   go_wp2
   go_big_region_o
   go_wp2
   refine⟨⟨j+1,by omega,by go_num,?_,HB7.out,HG6.out⟩,by simp [intOf];omega⟩
   rw [HO.out,HDS.out,Nat.sub_sub]
   by_cases he:d=M2-q
   ·rw [if_pos he,if_pos he.symm]
   ·rw [if_neg he,if_neg (Ne.symm he)]
  ·obtain rfl:j=N:=by omega
   have hI0:PlsI j lb sb (2*l.length) (offR l (2*l.length)) (fun v=>(nb l (v:Int)).length) (fun v=>plOf (v:Int) (l.take 0)) wr:=by
    refine⟨?_,fun v _=>by simp [plOf,Qai],cs,hgr.block sb (by omega) (by simp;omega) |>.trans hcs5,hcl,fun v j x _ hx=>by simp [plOf,Qai] at hx⟩
    have:=hH
    rw [Qkl] at this
    simpa [plOf,Qai] using this
   have y1:=hgr.cell z1 (by simp;omega)
   have hbr:Below lb w5 wr:=⟨hgr.os,hgr.tape,hgr.output,hgr.size,fun k hk=>hgr.block k (by omega) (by simp;omega)⟩
   have hbwr:=hbw5.trans (hbr.mono (by omega))
   clear hH hgr hdI' hrow5 hcs5 hcl z0 z1
   have hsep:=fun u v a b hu hv ha hb he=>QiZ (l:=l) hM2 (u:=u) (v:=v) (j:=a) (k:=b) hu hv ha hb he
   have hin:=fun v a hv ha=>QlE (l:=l) hM2 (v:=v) (j:=a) hv ha
   have Hsep:Hid _:=hsep
   have Hin:Hid _:=hin
   clear hsep hin hM2
   generalize wr=wq at *
   generalize 2*l.length-degS l j=rs
   generalize offR l (2*l.length) j=oj
   go_wp2
   go_loopw [38] (fun i w6=>∃ (i':Nat),i'≤l.length∧i = .int .i64 i'∧PlsI j lb sb (2*l.length) (offR l (2*l.length)) (fun v=>(nb l (v:Int)).length) (fun v=>plOf (v:Int) (l.take i')) w6∧Below lb wq w6) (fun i _=>l.length-(intOf i).toNat)
   case atStart=>exact⟨0,YN,rfl,hI0,YD⟩
   case round=>
    obtain⟨i',hi',rfl,hI,hb⟩:=hrel
    have hbw6:=hbwr.trans (hb.mono (by omega))
    by_cases hlt:i'<l.length
    ·obtain⟨b,off,rfl,hbb,hcap,hc,-⟩:=hl.open hlt
     obtain⟨c0,c1,c2⟩:=hc _ hbw6 i' hlt
     have hok:=(hR.each l[i'] (YG hlt)).1
     unfold okE at hok
     obtain⟨u,hu⟩:∃ u:Nat,l[i'].1=(u:Int):=⟨l[i'].1.toNat,by omega⟩
     obtain⟨v,hv⟩:∃ v:Nat,l[i'].2.1=(v:Int):=⟨l[i'].2.1.toNat,by omega⟩
     have huN:u<j:=by omega
     have hvN:v<j:=by omega
     have hne:u≠v:=by omega
     have huN':(u:Int)<(j:Int):=by omega
     have hvN':(v:Int)<(j:Int):=by omega
     have hjl:(i':Int)<(l.length:Int):=by omega
     have HF:Hid ((fun x:Nat=>plOf (x:Int) (l.take (i'+1)))=updP (updP (fun x:Nat=>plOf (x:Int) (l.take i')) u (i':Int)) v (i':Int)):=by
      unfold Hid
      funext x
      rw [Qes hlt]
      unfold updP
      rw [hu,hv]
      by_cases hxv:x=v
      ·subst hxv
       have h1:¬ ((u:Int)=(x:Int)):=by omega
       have h2:¬ x=u:=by omega
       simp [h1,h2]
      ·by_cases hxu:x=u
       ·subst hxu
        simp [hxv]
       ·have h1:¬ ((u:Int)=(x:Int)):=by omega
        have h2:¬ ((v:Int)=(x:Int)):=by omega
        simp [hxv,hxu,h1,h2]
     have hpu:(plOf (u:Int) (l.take i')).length+1≤(nb l (u:Int)).length:=by
      have h1:=QgW l (u:Int) (i'+1)
      rw [Qb5 hlt,YI] at h1
      unfold nbOf at h1
      rw [hu,if_pos rfl] at h1
      rw [QdY]
      simpa using h1
     have hpv:(plOf (v:Int) (l.take i')).length+1≤(nb l (v:Int)).length:=by
      have h1:=QgW l (v:Int) (i'+1)
      rw [Qb5 hlt,YI] at h1
      unfold nbOf at h1
      rw [hu,hv,if_neg (by omega),if_pos rfl] at h1
      rw [QdY]
      simpa using h1
     rw [hu] at c0
     rw [hv] at c1
     have hul:=QaX (u:Int) l
     have hvl:=QaX (v:Int) l
     have hP1:=hI.push (by omega) Hsep.out Hin.out huN (i':Int) hpu
     have hlen2:(updP (fun x:Nat=>plOf (x:Int) (l.take i')) u (i':Int) v).length+1≤(nb l (v:Int)).length:=by
      unfold updP;rw [if_neg (Ne.symm hne)];exact hpv
     have o1:=hI.row.cell (Qch huN)
     have fo1:=hI.row.frozen u
     obtain⟨cq,hcq,hcql,-⟩:=hI.cur
     have hiu:=Hin.out u (plOf (u:Int) (l.take i')).length huN hpu
     obtain⟨z0,hz0⟩:∃ z,wr.cell? ⟨sb,offR l (2*l.length) u+(plOf (u:Int) (l.take i')).length,none⟩=some z:=⟨_,hcq.cell (YB (by rw [hcql];omega))⟩
     have fz0:=hcq.frozen (offR l (2*l.length) u+(plOf (u:Int) (l.take i')).length)
     have hlbl:=hI.row.lt
     have hsbl:=hcq.lt
     have HP1:Hid _:=hP1
     have HI:Hid _:=hI
     have HL2:Hid _:=hlen2
     have HC:Hid _:=hb
     have HW6:Hid _:=hbw6
     have HW0:Hid _:=hbwr
     have HLT:Hid (i'<l.length):=hlt
     have hbq:b≠lb∧b≠sb:=by omega
     obtain⟨hb1,hb2⟩:=hbq
     clear hc hok hu hv hI hP1 hcq hcql hlen2 hb hbw6 hI0 hbr hbwr hpv y1 hgd5 hR
     generalize (plOf (u:Int) (l.take i')).length=pu at *
     generalize (nb l (u:Int)).length=du at *
     generalize offR l (2*l.length) u=ou at *
     generalize l[i'].2.2=wv at c2
     go_wp2
     go_big_region_o
     have hgr2:Grew ((wr.setCell ⟨sb,ou+pu,none⟩ (.int .i64 (i':Int))).setCell ⟨lb,u,none⟩ (.slice (some ⟨sb,ou,none⟩) (pu+1) du)) (((((wr.setCell ⟨sb,ou+pu,none⟩ (.int .i64 (i':Int))).setCell ⟨lb,u,none⟩ (.slice (some ⟨sb,ou,none⟩) (pu+1) du)).alloc (.cells #[.int .i64 (u:Int),.int .i64 (v:Int),.int .i64 wv] 50)).alloc (.cells #[.int .i64 (i':Int)] 3)).drew):=(((Grew.refl _).alloc _).alloc _).drewN 1
     have hsz2:((wr.setCell ⟨sb,ou+pu,none⟩ (.int .i64 (i':Int))).setCell ⟨lb,u,none⟩ (.slice (some ⟨sb,ou,none⟩) (pu+1) du)).heap.size=wr.heap.size:=by simp
     have hI2:=HP1.out.go hgr2.below
     have hb2':Below lb wr ((wr.setCell ⟨sb,ou+pu,none⟩ (.int .i64 (i':Int))).setCell ⟨lb,u,none⟩ (.slice (some ⟨sb,ou,none⟩) (pu+1) du)):=(YD.setCell (p:=⟨sb,_,none⟩) (by simp only;omega) _).setCell (p:=⟨lb,u,none⟩) YA _
     have hb3:Below lb wq (((((wr.setCell ⟨sb,ou+pu,none⟩ (.int .i64 (i':Int))).setCell ⟨lb,u,none⟩ (.slice (some ⟨sb,ou,none⟩) (pu+1) du)).alloc (.cells #[.int .i64 (u:Int),.int .i64 (v:Int),.int .i64 wv] 50)).alloc (.cells #[.int .i64 (i':Int)] 3)).drew):=(HC.out.trans hb2').trans (hgr2.below.mono (by rw [hsz2];omega))
     have e0:(((((wr.setCell ⟨sb,ou+pu,none⟩ (.int .i64 (i':Int))).setCell ⟨lb,u,none⟩ (.slice (some ⟨sb,ou,none⟩) (pu+1) du)).alloc (.cells #[.int .i64 (u:Int),.int .i64 (v:Int),.int .i64 wv] 50)).alloc (.cells #[.int .i64 (i':Int)] 3)).drew).cell? ⟨wr.heap.size,0,none⟩=some (.int .i64 (u:Int)):=by go_simp
     have e1:(((((wr.setCell ⟨sb,ou+pu,none⟩ (.int .i64 (i':Int))).setCell ⟨lb,u,none⟩ (.slice (some ⟨sb,ou,none⟩) (pu+1) du)).alloc (.cells #[.int .i64 (u:Int),.int .i64 (v:Int),.int .i64 wv] 50)).alloc (.cells #[.int .i64 (i':Int)] 3)).drew).cell? ⟨wr.heap.size,1,none⟩=some (.int .i64 (v:Int)):=by go_simp
     have hs6:wr.heap.size<(((((wr.setCell ⟨sb,ou+pu,none⟩ (.int .i64 (i':Int))).setCell ⟨lb,u,none⟩ (.slice (some ⟨sb,ou,none⟩) (pu+1) du)).alloc (.cells #[.int .i64 (u:Int),.int .i64 (v:Int),.int .i64 wv] 50)).alloc (.cells #[.int .i64 (i':Int)] 3)).drew).heap.size:=by simp;omega
     generalize (((((wr.setCell ⟨sb,ou+pu,none⟩ (.int .i64 (i':Int))).setCell ⟨lb,u,none⟩ (.slice (some ⟨sb,ou,none⟩) (pu+1) du)).alloc (.cells #[.int .i64 (u:Int),.int .i64 (v:Int),.int .i64 wv] 50)).alloc (.cells #[.int .i64 (i':Int)] 3)).drew)=w7 at hI2 hb3 e0 e1 hs6 ⊢
     clear HP1 hgr2 hsz2 hb2' o1 fo1 hz0 fz0 c0 c1 c2 HI
     have hP2:=hI2.push (by omega) Hsep.out Hin.out hvN (i':Int) HL2.out
     rw [← HF.out] at hP2
     have o2:=hI2.row.cell (Qch hvN)
     have fo2:=hI2.row.frozen v
     obtain⟨cq2,hcq,hcql,-⟩:=hI2.cur
     have hiv:=Hin.out v (updP (fun x:Nat=>plOf (x:Int) (l.take i')) u (i':Int) v).length hvN HL2.out
     obtain⟨z2,hz2⟩:∃ z,w7.cell? ⟨sb,offR l (2*l.length) v+(updP (fun x:Nat=>plOf (x:Int) (l.take i')) u (i':Int) v).length,none⟩=some z:=⟨_,hcq.cell (YB (by rw [hcql];omega))⟩
     have fz2:=hcq.frozen (offR l (2*l.length) v+(updP (fun x:Nat=>plOf (x:Int) (l.take i')) u (i':Int) v).length)
     have hl7:=hI2.row.lt
     have hs7:=hcq.lt
     have HP2:Hid _:=hP2
     have hlen2:=HL2.out
     clear hP2 hI2 hcq hcql hiv HL2
     generalize (updP (fun x:Nat=>plOf (x:Int) (l.take i')) u (i':Int) v).length=pv at *
     generalize (nb l (v:Int)).length=dv at *
     generalize offR l (2*l.length) v=ov at *
     have hgr3:Grew ((w7.setCell ⟨sb,ov+pv,none⟩ (.int .i64 (i':Int))).setCell ⟨lb,v,none⟩ (.slice (some ⟨sb,ov,none⟩) (pv+1) dv)) ((((w7.setCell ⟨sb,ov+pv,none⟩ (.int .i64 (i':Int))).setCell ⟨lb,v,none⟩ (.slice (some ⟨sb,ov,none⟩) (pv+1) dv)).alloc (.cells #[.int .i64 (i':Int)] 3)).drew):=((Grew.refl _).alloc _).drewN 1
     have hsz3:((w7.setCell ⟨sb,ov+pv,none⟩ (.int .i64 (i':Int))).setCell ⟨lb,v,none⟩ (.slice (some ⟨sb,ov,none⟩) (pv+1) dv)).heap.size=w7.heap.size:=by simp
     have HI3:Hid _:=HP2.out.go hgr3.below
     have hb4:Below lb w7 ((w7.setCell ⟨sb,ov+pv,none⟩ (.int .i64 (i':Int))).setCell ⟨lb,v,none⟩ (.slice (some ⟨sb,ov,none⟩) (pv+1) dv)):=(YD.setCell (p:=⟨sb,_,none⟩) (by simp only;omega) _).setCell (p:=⟨lb,v,none⟩) YA _
     have HB5:Hid (Below lb wq ((((w7.setCell ⟨sb,ov+pv,none⟩ (.int .i64 (i':Int))).setCell ⟨lb,v,none⟩ (.slice (some ⟨sb,ov,none⟩) (pv+1) dv)).alloc (.cells #[.int .i64 (i':Int)] 3)).drew)):=(hb3.trans hb4).trans (hgr3.below.mono (by rw [hsz3];omega))
     have hse:sb≠wr.heap.size:=by omega
     have hle:lb≠wr.heap.size:=by omega
     have hls:lb≠sb:=by omega
     clear hgr3 hsz3 hb4 hb3 HP2 HF hl hbb hcap hb1 hb2 hlbl hsbl hs3 hs4 hs5 hgd hlb hbw5 HC HW6 HW0 Hsep Hin hpu hul hiu hi' hlt hjl huN huN'
     generalize wr.heap.size=eb at *
     go_wp2
     refine Qah (S:=(fun w':World=>w'.cell? ⟨eb,0,none⟩=some (.int .i64 (u:Int))∧w'.cell? ⟨eb,1,none⟩=some (.int .i64 (v:Int))∧w'.cell? ⟨lb,v,none⟩=some (.slice (some ⟨sb,ov,none⟩) pv dv))) (by kernel_rfl) ?_ (fun hHeld=>?_)
     ·(try dsimp only);go_keep
     refine tL 0 ?_
     try simp only [YS]
     refine tL 1 ?_
     refine tL 2 ?_
     refine tL 3 ?_
     refine tL 4 ?_
     refine tL 5 ?_
     refine tL 6 ?_
     refine tL 7 ?_
     refine tL 8 ?_
     refine Qad (rs:=[9]) (by kernel_rfl) (by simp) ?_
     refine AllReadyL.cons rfl (fun K hK=>?_) AllReadyL.nil
     go_simp
     refine hK.out _ _ ?_ (fun hHeld=>?_)
     ·(try dsimp only);first | (go_keep;done) | ((repeat' apply And.intro) <;> go_simp)
     clear hK K
     try simp only [Act.put,YS,YT,YU]
     refine Qad (rs:=[10]) (by kernel_rfl) (by simp) ?_
     refine AllReadyL.cons rfl (fun K hK=>?_) AllReadyL.nil
     go_simp
     refine hK.out _ _ ?_ (fun hHeld=>?_)
     ·(try dsimp only);first | (go_keep;done) | ((repeat' apply And.intro) <;> go_simp)
     clear hK K
     try simp only [Act.put,YS,YT,YU]
     refine tL 11 ?_
     try simp only [YS]
     refine Qad (rs:=[12]) (by kernel_rfl) (by simp) ?_
     refine AllReadyL.last rfl (by kernel_rfl) (fun K hK=>?_)
     go_simp
     refine hK.out _ _ ?_
     clear hK K
     try simp only [Act.put,YS,YT,YU]
     refine Qaj (by kernel_rfl) ?_ _
     have hlt2:=HLT.out
     go_wp2
     exact⟨⟨i'+1,HLT.out,by go_num,HI3.out,HB5.out⟩,by have:=HLT.out;simp [intOf];omega⟩
    ·obtain rfl:i'=l.length:=by omega
     rw [List.take_length] at hI
     go_wp2
     go_ret
     exact⟨lb,sb,rfl,by omega,by omega,by omega,hI,hbw6⟩
def idxF (p:Int→Bool)(L:List Int):Int:=match L.findIdx? p with
 | some i=>i
 | none=>-1
theorem Qms {p:Int→Bool}{L:List Int}{j:Nat}(hj:j<L.length)(h:p L[j]=true)(hno:∀ (i:Nat) (h1:i<L.length),i<j→p L[i]=false):idxF p L=j:=by
 unfold idxF
 have:L.findIdx? p=some j:=by
  rw [List.findIdx?_eq_some_iff_getElem]
  exact⟨hj,h,fun i hi=>by rw [hno i (by omega) hi];simp⟩
 rw [this]
theorem Qmr {p:Int→Bool}{L:List Int}(hno:∀ (i:Nat) (h1:i<L.length),p L[i]=false):idxF p L = -1:=by
 unfold idxF
 have:L.findIdx? p=none:=by
  rw [List.findIdx?_eq_none_iff]
  intro x hx
  obtain⟨i,hi,rfl⟩:=List.getElem_of_mem hx
  exact hno i hi
 rw [this]
theorem Qjc (p:Int→Bool)(L:List Int):decide (0≤idxF p L)=L.any p:=by
 unfold idxF
 cases h:L.findIdx? p with
 | none=>
  rw [List.findIdx?_eq_none_iff] at h
  have:L.any p=false:=by rw [List.any_eq_false];intro x hx;rw [h x hx];simp
  rw [this]
  rfl
 | some i=>
  have h1:=h
  rw [List.findIdx?_eq_some_iff_getElem] at h1
  obtain⟨hi,hp,_⟩:=h1
  have:L.any p=true:=by rw [List.any_eq_true];exact⟨L[i],YG hi,hp⟩
  rw [this]
  simp
theorem Qkc (f:Nat)(caps:Array Value)(p:Int→Bool)(hent:∀ (args:Array Value) (W:World),(callFunc f args).run Tryz.prog W = .ok (.enter f args) W)(L:List Int)(hL:L.length≤8388608)(sv:Value)(n:Nat)(w:World)(h:Ints n w sv L)
  (hp:∀ x∈L,Calls Tryz.prog f (#[.int .i64 x]++caps) w fun e w'=>e = .returned (.bool (p x))∧w'=w) :
  Calls Tryz.prog 74 #[sv,.func (.func f) #[] caps] w fun e w'=>e = .returned (.int .i64 (idxF p L))∧w'=w:=by
 obtain⟨pp,c,rfl⟩:=h.len
 have HI:Hid (Ints n w (.slice pp L.length c) L):=h
 have HP:Hid (∀ x∈L,Calls Tryz.prog f (#[.int .i64 x]++caps) w fun e w'=>e = .returned (.bool (p x))∧w'=w):=hp
 clear h hp
 go_enter Tryz.func74,Tryz.ntmps74
 go_wp2
 go_loopw [8] (fun iv wr=>∃ j:Nat,j≤L.length∧iv = .int .i64 j∧Hid (∀ (i:Nat) (h1:i<L.length),i<j→p L[i]=false)∧wr=w) (fun i _=>L.length-(intOf i).toNat)
 case atStart=>exact⟨0,YN,rfl,fun i _ h=>by omega,rfl⟩
 case round=>
  obtain⟨j,hj,rfl,HS,rfl⟩:=hrel
  by_cases hlt:j<L.length
  ·have hjl:(j:Int)<(L.length:Int):=by omega
   obtain⟨b,off,rfl,hbb,hcap,hc⟩:=HI.out.open hlt
   have c0:=hc wr YD j hlt
   have hcl:=HP.out L[j] (YG hlt)
   cases hv:p L[j] with
   | false=>
    have HS2:Hid (∀ (i:Nat) (h1:i<L.length),i<j+1→p L[i]=false):=fun i h1 h=>by
     by_cases e:i=j
     ·subst e;exact hv
     ·exact HS.out i h1 (by omega)
    have HLT:Hid (j<L.length):=hlt
    rw [hv] at hcl
    generalize L[j]=x at c0 hcl
    clear HS hlt hc hv
    go_wp2_with fail
    refine hcl.mono ?_
    clear hcl
    rintro e w2 ⟨rfl,rfl⟩
    go_wp2
    exact⟨⟨j+1,HLT.out,by go_num,HS2.out,trivial⟩,by have:=HLT.out;simp [intOf];omega⟩
   | true=>
    have HE:Hid (idxF p L=j):=Qms hlt hv HS.out
    rw [hv] at hcl
    generalize L[j]=x at c0 hcl
    clear HS hlt hc hv
    go_wp2_with fail
    refine hcl.mono ?_
    clear hcl
    rintro e w2 ⟨rfl,rfl⟩
    go_wp2
    go_ret
    exact⟨by rw [HE.out];rfl,rfl⟩
  ·obtain rfl:j=L.length:=by omega
   have HE:Hid (idxF p L = -1):=Qmr fun i hi=>HS.out i hi hi
   clear HS
   go_wp2
   go_ret
   exact⟨by rw [HE.out];rfl,rfl⟩
theorem Qdd (f:Nat)(caps:Array Value)(p:Int→Bool)(hent:∀ (args:Array Value) (W:World),(callFunc f args).run Tryz.prog W = .ok (.enter f args) W)(L:List Int)(hL:L.length≤8388608)(sv:Value)(n:Nat)(w:World)(h:Ints n w sv L)
  (hp:∀ x∈L,Calls Tryz.prog f (#[.int .i64 x]++caps) w fun e w'=>e = .returned (.bool (p x))∧w'=w) :
  Calls Tryz.prog 46 #[sv,.func (.func f) #[] caps] w fun e w'=>e = .returned (.bool (L.any p))∧w'=w:=by
 have hi:=Qkc f caps p hent L hL sv n w h hp
 obtain⟨pp,c,rfl⟩:=h.len
 have HA:Hid (decide (0≤idxF p L)=L.any p):=Qjc p L
 clear h hp
 generalize idxF p L=k at *
 go_enter Tryz.func46,Tryz.ntmps46
 go_wp2_with fail
 refine hi.mono ?_
 clear hi
 rintro e w2 ⟨rfl,rfl⟩
 go_wp2
 go_ret
 exact⟨by rw [← HA.out];rfl,rfl⟩
def vtxB (n v:Int):Bool:=decide (0≤v∧v<n)
theorem vtx_iff {n v:Int}:vtxB n v=true↔0≤v∧v<n:=by simp [vtxB]
def fitW (n:Int)(e:Ed):Int:=if vtxB n e.1=false∨vtxB n e.2.1=false then 5 else if e.2.2<0 then 10 else if 2147483648≤e.2.2 then 8 else 0
def lstW (n:Int):List Ed→Int
 | []=>0
 | e :: l=>if fitW n e=0 then lstW n l else fitW n e
def rgtW (n:Int)(l:List Ed):Int:=if n<0 then 1 else if 1048576<n∨4194304<(l.length:Int) then 4 else lstW n l
theorem Ql0 {n:Int}{l:List Ed}{j:Nat}(h:j<l.length):lstW n (l.drop j)=if fitW n l[j]=0 then lstW n (l.drop (j+1)) else fitW n l[j]:=by
 rw [List.drop_eq_getElem_cons h];rfl
theorem QnT (n:Int)(l:List Ed):lstW n (l.drop l.length)=0:=by simp [lstW]
theorem Qb8 (n v:Int)(sv:Value)(w:World)(hs:∃ p k c,sv = .slice p k c):Calls Tryz.prog 126 #[.agg #[.int .i64 n,sv],.int .i64 v] w fun r w'=>r = .returned (.bool (vtxB n v))∧Grew w w':=by
 obtain⟨p,k,c,rfl⟩:=hs
 unfold vtxB
 go_enter Tryz.func126,Tryz.ntmps126
 go_wp2
 all_goals go_ret
 all_goals refine⟨?_,(Grew.refl w).alloc _⟩
 all_goals simp
 all_goals omega
theorem QmE (n:Int)(sv:Value)(e:Ed)(w:World)(hs:∃ p k c,sv = .slice p k c):Calls Tryz.prog 108 #[.agg #[.int .i64 n,sv],edV e] w fun r w'=>r = .returned (.int .i64 (fitW n e))∧Grew w w':=by
 have hv:=fun v W=>Qb8 n v sv W hs
 obtain⟨p,k,c,rfl⟩:=hs
 unfold edV
 obtain⟨x,y,z⟩:=e
 simp only
 have hbox:∀ W',Grew ((w.alloc (.cells #[.int .i64 n,.slice p k c] 24)).alloc (.cells #[.int .i64 x,.int .i64 y,.int .i64 z] 50)) W'→W'.cell? ⟨w.heap.size,0,none⟩=some (.int .i64 n)∧W'.cell? ⟨w.heap.size,1,none⟩=some (.slice p k c)∧W'.cell? ⟨w.heap.size+1,0,none⟩=some (.int .i64 x)∧W'.cell? ⟨w.heap.size+1,1,none⟩=some (.int .i64 y)∧W'.cell? ⟨w.heap.size+1,2,none⟩=some (.int .i64 z):=fun W' h=>
  ⟨(h.below.cell (p:=⟨w.heap.size,0,none⟩) (by simp;omega)).trans (by simp),(h.below.cell (p:=⟨w.heap.size,1,none⟩) (by simp;omega)).trans (by simp),(h.below.cell (p:=⟨w.heap.size+1,0,none⟩) (by simp)).trans (by simp),(h.below.cell (p:=⟨w.heap.size+1,1,none⟩) (by simp)).trans (by simp),(h.below.cell (p:=⟨w.heap.size+1,2,none⟩) (by simp)).trans (by simp)⟩
 have hg0:Grew w ((w.alloc (.cells #[.int .i64 n,.slice p k c] 24)).alloc (.cells #[.int .i64 x,.int .i64 y,.int .i64 z] 50)):=((Grew.refl w).alloc _).alloc _
 by_cases h1:vtxB n x=true
 ·by_cases h2:vtxB n y=true
  ·have hE:(z<0∧fitW n (x,y,z)=10)∨(¬ z<0∧2147483648≤z∧fitW n (x,y,z)=8)∨(¬ z<0∧¬ 2147483648≤z∧fitW n (x,y,z)=0):=by
    unfold fitW
    simp only [h1,h2]
    by_cases z0:z<0
    ·exact .inl ⟨z0,by simp [z0]⟩
    ·by_cases z1:2147483648≤z
     ·exact .inr (.inl ⟨z0,z1,by simp [z0,z1]⟩)
     ·exact .inr (.inr ⟨z0,z1,by simp [z0,z1]⟩)
   generalize fitW n (x,y,z)=r at hE
   have H1:Hid _:=h1
   have H2:Hid _:=h2
   clear h1 h2
   rcases hE with ⟨z0,rfl⟩ | ⟨z0,z1,rfl⟩ | ⟨z0,z1,rfl⟩
   all_goals
    go_enter Tryz.func108,Tryz.ntmps108
    go_wp2_with fail
    refine (hv _ _).mono ?_
    rintro e w1 ⟨rfl,hg1⟩
    obtain⟨c0,c1,c2,c3,c4⟩:=hbox _ hg1
    rw [H1.out]
    go_wp2_with fail
    refine (hv _ _).mono ?_
    rintro e w2 ⟨rfl,hg2⟩
    clear c0 c1 c2 c3 c4
    obtain⟨c0,c1,c2,c3,c4⟩:=hbox _ (hg1.trans hg2)
    rw [H2.out]
    go_wp2
    go_ret
    exact⟨rfl,hg0.trans (hg1.trans hg2)⟩
  ·have hE:fitW n (x,y,z)=5:=if_pos (.inr (by simpa using h2))
   rw [hE]
   have H1:Hid _:=h1
   have H2:Hid (vtxB n y=false):=by unfold Hid;simpa using h2
   clear h1 h2 hE
   go_enter Tryz.func108,Tryz.ntmps108
   go_wp2_with fail
   refine (hv _ _).mono ?_
   rintro e w1 ⟨rfl,hg1⟩
   obtain⟨c0,c1,c2,c3,c4⟩:=hbox _ hg1
   rw [H1.out]
   go_wp2_with fail
   refine (hv _ _).mono ?_
   rintro e w2 ⟨rfl,hg2⟩
   rw [H2.out]
   go_wp2
   go_ret
   exact⟨rfl,hg0.trans (hg1.trans hg2)⟩
 ·have hE:fitW n (x,y,z)=5:=if_pos (.inl (by simpa using h1))
  rw [hE]
  have H1:Hid (vtxB n x=false):=by unfold Hid;simpa using h1
  clear h1 hE
  go_enter Tryz.func108,Tryz.ntmps108
  go_wp2_with fail
  refine (hv _ _).mono ?_
  rintro e w1 ⟨rfl,hg1⟩
  rw [H1.out]
  go_wp2
  go_ret
  exact⟨rfl,hg0.trans hg1⟩
theorem Qdm (n:Int)(l:List Ed)(sv:Value)(w:World)(hl:Edges w.heap.size w sv l):
  Calls Tryz.prog 82 #[.agg #[.int .i64 n,sv]] w fun r w'=>r = .returned (.int .i64 (rgtW n l))∧Grew w w':=by
 obtain⟨p,c,rfl⟩:=hl.len
 have hmix:=mixed
 have hg1:Grew w (w.alloc (.cells #[.int .i64 n,.slice p l.length c] 24)):=(Grew.refl w).alloc _
 have hf:=fun e W=>QmE n (.slice p l.length c) e W ⟨_,_,_,rfl⟩
 by_cases h0:n<0
 ·have hE:rgtW n l=1:=if_pos h0
  rw [hE]
  go_enter Tryz.func82,Tryz.ntmps82
  go_wp2
  go_ret
  exact⟨rfl,hg1⟩
 ·by_cases h1:1048576<n
  ·have hE:rgtW n l=4:=by unfold rgtW;rw [if_neg h0,if_pos (.inl h1)]
   rw [hE]
   go_enter Tryz.func82,Tryz.ntmps82
   go_wp2
   go_ret
   exact⟨rfl,hg1⟩
  ·by_cases h2:4194304<(l.length:Int)
   ·have hE:rgtW n l=4:=by unfold rgtW;rw [if_neg h0,if_pos (.inr h2)]
    rw [hE]
    go_enter Tryz.func82,Tryz.ntmps82
    go_wp2
    go_ret
    exact⟨rfl,hg1⟩
   ·have hR:Hid (rgtW n l=lstW n l):=by unfold Hid rgtW;rw [if_neg h0,if_neg (by omega)]
    go_enter Tryz.func82,Tryz.ntmps82
    go_wp2
    go_loopw [21] (fun i wr=>∃ j:Nat,j≤l.length∧i = .int .i64 j∧Hid (lstW n (l.drop j)=lstW n l)∧Grew (w.alloc (.cells #[.int .i64 n,.slice p l.length c] 24)) wr) (fun i _=>l.length-(intOf i).toNat)
    case atStart=>exact⟨0,YN,rfl,rfl,Grew.refl _⟩
    case round=>
     obtain⟨j,hj,rfl,hr,hg⟩:=hrel
     have q0:=(box2 _ hg).1
     have q1:=(box2 _ hg).2
     have hsz:=Qe1 hg
     by_cases hlt:j<l.length
     ·obtain⟨b,off,rfl,hbb,hcap,hc⟩:=hl.at hlt
      have hb0:=(hg1.trans hg).below
      obtain⟨c0,c1,c2⟩:=hc j _ (YB hlt)
      replace c0:=(hb0.cell (p:=⟨b,off+j*3,none⟩) hbb).trans c0
      replace c1:=(hb0.cell (p:=⟨b,off+j*3+1,none⟩) hbb).trans c1
      replace c2:=(hb0.cell (p:=⟨b,off+j*3+2,none⟩) hbb).trans c2
      have hjl:(j:Int)<(l.length:Int):=by omega
      have HST:Hid _:=(Ql0 (n:=n) hlt).symm.trans hr
      clear hc hr
      have hbr:b<wr.heap.size:=by omega
      go_wp2_with fail
      refine (hf l[j] _).mono ?_
      rintro e w7 ⟨rfl,hg7⟩
      have hg8:Grew (w.alloc (.cells #[.int .i64 n,.slice (some ⟨b,off,none⟩) l.length c] 24)) w7:=hg.trans (((Grew.refl wr).alloc _).trans hg7)
      clear q0 q1 c0 c1 c2 hb0 hg hg7
      by_cases hk:fitW n l[j]=0
      ·rw [hk]
       have HS:Hid (lstW n (l.drop (j+1))=lstW n l):=by
        have h2:=HST.out
        rwa [if_pos hk] at h2
       clear HST hk
       go_wp2
       exact⟨⟨j+1,by omega,by go_num,HS,hg8⟩,by simp [intOf];omega⟩
      ·have HE:Hid (rgtW n l=fitW n l[j]):=by
        have h2:=HST.out
        rw [if_neg hk] at h2
        unfold Hid;rw [hR.out,← h2]
       generalize fitW n l[j]=k at HE hk
       have hk':(k==0)=false:=by simpa using hk
       clear HST hk
       go_wp2
       go_ret
       exact⟨by rw [HE.out];rfl,hg1.trans hg8⟩
     ·obtain rfl:j=l.length:=by omega
      have HE:Hid (rgtW n l=0):=by
       unfold Hid;rw [hR.out,← hr.out,QnT]
      clear hr
      go_wp2
      go_ret
      exact⟨by rw [HE.out];rfl,hg1.trans hg⟩
theorem QoC {l:List Eg}{u v:Nat}{L':List Nat}{c':Nat}(h':SW l u (v :: L') c'):∀ {L:List Nat} {w c:Nat},SW l v (w :: L) c→∃ L'',SW l u (w :: L'') (c'+c)
 | [],w,c,h=>by
  obtain⟨rfl,rfl⟩:=h
  exact⟨L',h'⟩
 | x :: t,w,c,h=>by
  obtain⟨e,he,hj,c1,rfl,h1⟩:=h
  obtain⟨L2,h2⟩:=QoC h' h1
  exact⟨x :: L2,by rw [← Nat.add_assoc];exact h2.cons he hj⟩
def ConnT (l:List Eg)(u v:Nat):Prop:=∃ L c,SW l u (v :: L) c
theorem ConnT.refl (l:List Eg)(u:Nat):ConnT l u u:=⟨[],0,SW.one l u⟩
theorem ConnT.symm {l:List Eg}{u v:Nat}(h:ConnT l u v):ConnT l v u:=by
 obtain⟨L,c,h⟩:=h
 obtain⟨L',h'⟩:=QkT h
 exact⟨L',c,h'⟩
theorem ConnT.trans {l:List Eg}{u v w:Nat}(h:ConnT l u v)(h':ConnT l v w):ConnT l u w:=by
 obtain⟨L,c,h⟩:=h
 obtain⟨L',c',h'⟩:=h'
 obtain⟨L2,h2⟩:=QoC h h'
 exact⟨L2,_,h2⟩
theorem ConnT.edge {l:List Eg}{e:Eg}(he:e∈l):ConnT l e.1 e.2.1:=⟨[e.1],_,(SW.one l e.1).cons he (.inl ⟨rfl,rfl⟩)⟩
theorem Qdx {l:List Eg}{R:Nat→Nat}(hR:∀ e∈l,R e.1=R e.2.1){u:Nat}:∀ {L:List Nat} {v c:Nat},SW l u (v :: L) c→R v=R u
 | [],v,c,h=>by rw [h.1]
 | x :: t,v,c,h=>by
  obtain⟨e,he,hj,c1,_,h1⟩:=h
  rw [← Qdx hR h1]
  have:=hR e he
  rcases hj with ⟨a,b⟩ | ⟨a,b⟩
  ·rw [← a,← b];exact this.symm
  ·rw [← a,← b];exact this
def pf (P:List Nat)(v:Nat):Nat:=P.getD v 0
theorem QbX {P:List Nat}{v x u:Nat}(h:v<P.length):pf (P.set v x) u=if u=v then x else pf P u:=by
 unfold pf
 by_cases e:u=v
 ·subst e;simp [List.getD,h]
 ·rw [if_neg e];simp [List.getD,List.getElem?_set_ne (Ne.symm e)]
theorem pf_get? {P:List Nat}{v:Nat}(h:v<P.length):P[v]? = some (pf P v):=by simp [pf,h]
structure UF (l:List Eg)(N k:Nat)(P:List Nat)(R:Nat→Nat):Prop where
 len:P.length=N
 le:∀ v,v<N→pf P v≤v
 par:∀ v,v<N→R (pf P v)=R v
 root:∀ v,v<N→pf P v=v→R v=v
 low:∀ v,v<N→R v≤v
 conn:∀ v,v<N→ConnT l v (R v)
 done:∀ i,i<k→∀ e,l[i]? = some e→R e.1=R e.2.1
theorem UF.start (l:List Eg)(N:Nat):UF l N 0 (List.range N) id:=
 ⟨by simp,fun v hv=>by simp [pf,hv],fun v hv=>by simp [pf,hv],fun _ _ _=>rfl,fun _ _=>YA,fun v _=>ConnT.refl l v,fun i hi=>absurd hi (by omega)⟩
theorem UF.half {l:List Eg}{N k:Nat}{P:List Nat}{R:Nat→Nat}(h:UF l N k P R){v:Nat}(hv:v<N):UF l N k (P.set v (pf P (pf P v))) R:=by
 have hl:v<P.length:=by rw [h.len];exact hv
 have h1:=h.le v hv
 have h2:=h.le (pf P v) (by omega)
 refine⟨by rw [List.length_set];exact h.len,fun u hu=>?_,fun u hu=>?_,fun u hu he=>?_,h.low,h.conn,h.done⟩
 ·rw [QbX hl];split
  ·omega
  ·exact h.le u hu
 ·rw [QbX hl];split
  ·next e=>subst e;rw [h.par _ (by omega),h.par _ hv]
  ·exact h.par u hu
 ·rw [QbX hl] at he
  split at he
  ·next e=>subst e;exact h.root u hv (by omega)
  ·exact h.root u hu he
theorem UF.rooted {l:List Eg}{N k:Nat}{P:List Nat}{R:Nat→Nat}(h:UF l N k P R){a:Nat}(ha:a<N)(hr:R a=a):pf P a=a:=by
 have h1:=h.le a ha
 have h2:=h.par a ha
 have h3:=h.low (pf P a) (by omega)
 omega
theorem UF.stays {l:List Eg}{N k:Nat}{P:List Nat}{R:Nat→Nat}(h:UF l N k P R){v:Nat}(hv:v<N){i:Nat}(hi:i<N)(he:pf P i=R i):pf (P.set v (pf P (pf P v))) i=R i:=by
 have hl:v<P.length:=by rw [h.len];exact hv
 rw [QbX hl]
 split
 ·next e=>
  subst e
  have h1:=h.par i hi
  have h2:=h.le i hi
  rw [he] at h1 ⊢
  exact h.rooted (by omega) h1
 ·exact he
theorem UF.join {l:List Eg}{N k:Nat}{P:List Nat}{R:Nat→Nat}(h:UF l N k P R){a b:Nat}(ha:a<N)(hb:b<N)(pa:pf P a=a)(pb:pf P b=b){e:Eg}(he:l[k]? = some e)(ea:R e.1=a)(eb:R e.2.1=b)(h1:e.1<N)(h2:e.2.1<N):
  UF l N (k+1) (P.set (max a b) (min a b)) (fun w=>if R w=max a b then min a b else R w):=by
 have hl:max a b<P.length:=by rw [h.len];omega
 have ra:=h.root a ha pa
 have rb:=h.root b hb pb
 have rmn:R (min a b)=min a b:=by
  rcases Nat.le_total a b with k | k
  ·rw [Nat.min_eq_left k];exact ra
  ·rw [Nat.min_eq_right k];exact rb
 have rmx:R (max a b)=max a b:=by
  rcases Nat.le_total a b with k | k
  ·rw [Nat.max_eq_right k];exact rb
  ·rw [Nat.max_eq_left k];exact ra
 have hmm:min a b≤max a b:=by omega
 have cab:ConnT l a b:=by
  have c0:=ConnT.edge (YK he)
  have c1:=h.conn e.1 h1
  have c2:=h.conn e.2.1 h2
  rw [ea] at c1
  rw [eb] at c2
  exact c1.symm.trans (c0.trans c2)
 have cmm:ConnT l (max a b) (min a b):=by
  rcases Nat.le_total a b with k | k
  ·rw [Nat.max_eq_right k,Nat.min_eq_left k];exact cab.symm
  ·rw [Nat.max_eq_left k,Nat.min_eq_right k];exact cab
 refine⟨by rw [List.length_set];exact h.len,fun u hu=>?_,fun u hu=>?_,fun u hu he'=>?_,fun u hu=>?_,fun u hu=>?_,fun i hi e' he'=>?_⟩
 ·rw [QbX hl];split
  ·omega
  ·exact h.le u hu
 ·rw [QbX hl]
  show (if R (if u=max a b then min a b else pf P u)=max a b then min a b else R (if u=max a b then min a b else pf P u))=if R u=max a b then min a b else R u
  by_cases eu:u=max a b
  ·rw [if_pos eu,rmn,eu,rmx,if_pos rfl]
   by_cases k:min a b=max a b
   ·rw [if_pos k]
   ·rw [if_neg k]
  ·rw [if_neg eu,h.par u hu]
 ·show (if R u=max a b then min a b else R u)=u
  rw [QbX hl] at he'
  by_cases eu:u=max a b
  ·rw [if_pos eu] at he'
   rw [eu,rmx,if_pos rfl,he',eu]
  ·rw [if_neg eu] at he'
   have:=h.root u hu he'
   rw [this,if_neg eu]
 ·show (if R u=max a b then min a b else R u)≤u
  have:=h.low u hu
  split <;> omega
 ·show ConnT l u (if R u=max a b then min a b else R u)
  split
  ·next k=>have:=h.conn u hu;rw [k] at this;exact this.trans cmm
  ·exact h.conn u hu
 ·show (if R e'.1=max a b then min a b else R e'.1)=if R e'.2.1=max a b then min a b else R e'.2.1
  by_cases ik:i=k
  ·subst ik
   rw [he] at he'
   cases he'
   rw [ea,eb]
   rcases Nat.le_total a b with k | k
   ·rw [Nat.max_eq_right k,Nat.min_eq_left k,if_pos rfl];split <;> omega
   ·rw [Nat.max_eq_left k,Nat.min_eq_right k,if_pos rfl];split <;> omega
  ·rw [h.done i (by omega) e' he']
theorem UF.all {l:List Eg}{N:Nat}{P:List Nat}{R:Nat→Nat}(h:UF l N l.length P R):∀ e∈l,R e.1=R e.2.1:=fun e he=>by
 obtain⟨i,hi,rfl⟩:=List.getElem_of_mem he
 exact h.done i hi _ (YB hi)
theorem UF.iff {l:List Eg}{N:Nat}{P:List Nat}{R:Nat→Nat}(h:UF l N l.length P R){u v:Nat}(hu:u<N)(hv:v<N):R u=R v↔ConnT l u v:=by
 constructor
 ·intro e
  have h1:=h.conn u hu
  rw [e] at h1
  exact h1.trans (h.conn v hv).symm
 ·rintro⟨L,c,h'⟩
  exact (Qdx h.all h').symm
theorem UF.twice {l:List Eg}{N:Nat}{P:List Nat}{R:Nat→Nat}(h:UF l N l.length P R){v:Nat}(hv:v<N):R (R v)=R v:=by
 obtain⟨L,c,h'⟩:=h.conn v hv
 exact Qdx h.all h'
theorem UF.flat {l:List Eg}{N:Nat}{P:List Nat}{R:Nat→Nat}(h:UF l N l.length P R){v:Nat}(hv:v<N):UF l N l.length (P.set v (R v)) R:=by
 have hl:v<P.length:=by rw [h.len];exact hv
 refine⟨by rw [List.length_set];exact h.len,fun u hu=>?_,fun u hu=>?_,fun u hu he=>?_,h.low,h.conn,h.done⟩
 ·rw [QbX hl];split
  ·next e=>subst e;exact h.low u hv
  ·exact h.le u hu
 ·rw [QbX hl];split
  ·next e=>subst e;exact h.twice hv
  ·exact h.par u hu
 ·rw [QbX hl] at he
  split at he
  ·next e=>subst e;exact he
  ·exact h.root u hu he
structure LeadP (l:List Eg)(N:Nat)(R:Nat→Nat):Prop where
 low:∀ v,v<N→R v≤v
 all:∀ e∈l,R e.1=R e.2.1
 iff:∀ u v,u<N→v<N→(R u=R v↔ConnT l u v)
theorem UF.lead {l:List Eg}{N:Nat}{P:List Nat}{R:Nat→Nat}(h:UF l N l.length P R):LeadP l N R:=⟨h.low,h.all,fun _ _ hu hv=>h.iff hu hv⟩
structure Tch (g:Nat)(A B:World):Prop where
 os:B.os=A.os
 tape:B.tape=A.tape
 output:B.output=A.output
 size:A.heap.size≤B.heap.size
 block:∀ k,k<A.heap.size→k≠g→B.heap[k]? = A.heap[k]?
theorem Tch.refl (g:Nat)(A:World):Tch g A A:=⟨rfl,rfl,rfl,YA,fun _ _ _=>rfl⟩
theorem Tch.trans {g:Nat}{A B C:World}(h:Tch g A B)(h':Tch g B C):Tch g A C:=
 ⟨h'.os.trans h.os,h'.tape.trans h.tape,h'.output.trans h.output,Nat.le_trans h.size h'.size,fun k hk hg=>(h'.block k (Nat.lt_of_lt_of_le hk h.size) hg).trans (h.block k hk hg)⟩
theorem Tch.drew {g:Nat}{A B:World}(h:Tch g A B):Tch g A B.drew:=⟨h.os,h.tape,h.output,h.size,h.block⟩
theorem Tch.set {g:Nat}{A B:World}(h:Tch g A B)(j:Nat)(v:Value):Tch g A (B.setCell ⟨g,j,none⟩ v):=
 ⟨h.os,h.tape,h.output,by simpa using h.size,fun k hk hg=>(heap_setCell_other _ ⟨g,j,none⟩ k _ hg).trans (h.block k hk hg)⟩
theorem Tch.below {g n:Nat}{w A B:World}(hb:Below n w A)(h:Tch g A B)(hg:n≤g)(hn:n≤A.heap.size):Below n w B:=
 ⟨h.os.trans hb.os,h.tape.trans hb.tape,h.output.trans hb.output,Nat.le_trans hb.size h.size,fun k hk=>(h.block k (by omega) (by omega)).trans (hb.block k hk)⟩
theorem Tch.of_below {g:Nat}{A B:World}(h:Below A.heap.size A B):Tch g A B:=⟨h.os,h.tape,h.output,h.size,fun k hk _=>h.block k hk⟩
theorem Tch.cell {g:Nat}{A B:World}(h:Tch g A B){b o:Nat}{v:Value}(hv:A.cell? ⟨b,o,none⟩=some v)(hb:b≠g):B.cell? ⟨b,o,none⟩=some v:=
 (World.cell?_of_block (a:=⟨b,o,none⟩) (h.block b (World.block_lt_of_cell? A _ hv) hb)).trans hv
def natsV (P:List Nat):List Value:=P.map fun x:Nat=>Value.int .i64 (x:Int)
theorem QcZ (P:List Nat)(v x:Nat):natsV (P.set v x)=(natsV P).set v (.int .i64 (x:Int)):=by simp [natsV,List.map_set]
theorem Qc0 {P:List Nat}{v:Nat}(h:v<P.length):(natsV P)[v]? = some (.int .i64 (pf P v:Int)):=by
 unfold natsV
 rw [YH,pf_get? h];rfl
theorem Qf5 (l:List Eg)(N k:Nat)(P:List Nat)(R:Nat→Nat)(hU:UF l N k P R)(v:Nat)(hv:v<N)(lb g:Nat)(hne:lb≠g)(w:World)(hlb:w.cell? ⟨lb,0,none⟩=some (.slice (some ⟨g,0,none⟩) N N))(hB:Blk 3 w g (natsV P)):
  Calls Tryz.prog 84 #[.int .i64 (v:Int),.pointer (some ⟨lb,0,none⟩)] w fun e w'=>e = .returned (.int .i64 (R v:Int))∧∃ P',UF l N k P' R∧pf P' (R v)=R v∧(∀ i,i<N→pf P i=R i→pf P' i=R i)∧Blk 3 w' g (natsV P')∧Tch g w w':=by
 have hmix:=mixed
 have HU:Hid _:=hU
 have HBk:Hid _:=hB
 clear hU hB
 go_enter Tryz.func84,Tryz.ntmps84
 go_wp2
 go_loopw [0] (fun t wr=>∃ (x:Nat) (P':List Nat),t = .int .i64 (x:Int)∧x<N∧Hid (R x=R v)∧Hid (UF l N k P' R)∧Hid (∀ i,i<N→pf P i=R i→pf P' i=R i)∧Hid (Blk 3 wr g (natsV P'))∧Hid (Tch g w wr)) (fun t _=>(intOf t).toNat)
 case atStart=>exact⟨v,P,rfl,hv,rfl,HU,fun _ _ h=>h,HBk,Tch.refl _ _⟩
 case round=>
  obtain⟨x,P',rfl,hx,HR,HU',HS',HB',HT⟩:=hrel
  have hl:P'.length=N:=HU'.out.len
  have hxP:x<P'.length:=by omega
  have hy:=HU'.out.le x hx
  have c0:=HT.out.cell hlb hne
  have c1:wr.cell? ⟨g,x,none⟩=some (.int .i64 (pf P' x:Int)):=HB'.out.cell (Qc0 hxP)
  have c2:wr.cell? ⟨g,pf P' x,none⟩=some (.int .i64 (pf P' (pf P' x):Int)):=HB'.out.cell (Qc0 (by omega))
  have f1:=HB'.out.frozen x
  have hxi:(x:Int)<(N:Int):=by omega
  have hyi:(pf P' x:Int)<(N:Int):=by omega
  have Hl:Hid _:=hl
  have HPx:Hid _:=hxP
  clear hl hxP
  by_cases he:pf P' x=x
  ·have heb:((pf P' x:Int)==(x:Int))=true:=by rw [he];simp
   have HE:Hid _:=he
   clear he c2
   go_wp2
   go_ret
   have hrx:=HU'.out.root x hx HE.out
   have e1:R v=x:=HR.out.symm.trans hrx
   exact⟨by rw [e1];rfl,P',HU'.out,by rw [e1];exact HE.out,HS'.out,HB'.out,HT.out⟩
  ·have heb:((pf P' x:Int)==(x:Int))=false:=by rw [beq_eq_false_iff_ne];omega
   have hlt:pf P' x<x:=by omega
   have hz:=HU'.out.le (pf P' x) (by omega)
   have HU2:Hid _:=HU'.out.half hx
   have HS2:Hid (∀ i,i<N→pf P i=R i→pf (P'.set x (pf P' (pf P' x))) i=R i):=fun i hi h=>HU'.out.stays hx hi (HS'.out i hi h)
   have HB2:Hid (Blk 3 (wr.setCell ⟨g,x,none⟩ (.int .i64 (pf P' (pf P' x):Int))) g (natsV (P'.set x (pf P' (pf P' x))))):=by
    have:=HB'.out.set x (.int .i64 (pf P' (pf P' x):Int))
    rw [← QcZ] at this
    exact this
   have HT2:Hid _:=HT.out.set x (.int .i64 (pf P' (pf P' x):Int))
   have HRz:Hid (R (pf P' (pf P' x))=R v):=by
    show R (pf P' (pf P' x))=R v
    rw [HU'.out.par _ (by omega),HU'.out.par _ hx];exact HR.out
   have Hset:Hid (pf (P'.set x (pf P' (pf P' x))) x=pf P' (pf P' x)):=by
    show pf (P'.set x (pf P' (pf P' x))) x=pf P' (pf P' x)
    rw [QbX HPx.out,if_pos rfl]
   generalize hy1:pf P' x=y at *
   generalize hz1:pf P' y=z at *
   clear he hy1 hz1
   go_wp2
   go_big_region_o
   go_wp2
   go_roundw
   case rel=>exact⟨z,_,rfl,by omega,HRz,HU2,HS2,HB2,HT2.out.drew⟩
   case measure=>simp [intOf];omega
def Src (W:World)(xv:Value)(m size:Nat)(news:List Value):Prop:=
 ((∃ c,xv = .slice none 0 c)∧m=0∧news=[])∨∃ ad c,xv = .slice (some ad) m c∧news.length=m*size∧(∀ j u,news[j]? = some u→W.cell? (ad.add j)=some u)∧∀ u∈news,u.oneCell'=true
theorem Qe4 {P:Program}(w:World)(base:Nat)(t ty e:TypeId)(i:TypeInfo)(z:Value)(size bytes:Nat)(ht:P.underlying t=some (.slice e))(hi:P.info? e=some i)(hz:i.zero=some z)
  (hsize:i.size=size) (hby:i.bytes=bytes) (hzs:z.cells.size=size) (hsz:0<size)
  (v:Value) (n:Nat) (xs:List Value) (hown:w.ownsRow base e size v n xs) (xv:Value) (m:Nat) (news:List Value) (hsrc:Src w xv m size news)
  (h63:n+m≤maxLen) (hbytes:(n+m)*bytes≤140737488355328) (hbase:base≤w.heap.size) :
  ∃ v' w',(Builtin.append_ #[t,t] ty #[v,xv]).run P w = .ok v' w'∧w'.ownsRow base e size v' (n+m) (xs++news)∧w.grownBy w' v.ownBlock∧(v'.ownBlock=v.ownBlock∨v'.ownBlock=some w.heap.size):=by
 rcases hsrc with ⟨⟨c,rfl⟩,rfl,rfl⟩ | ⟨ad,c,rfl,hl,hnews,h1⟩
 ·refine⟨v,w,?_,by simpa using hown,⟨rfl,rfl,rfl,YA,fun _ _ _=>rfl⟩,.inl rfl⟩
  rcases hown.2 with ⟨rfl,rfl⟩ | ⟨g,cap,cur,rfl,hbg,hg,hnc,_⟩
  ·simp [Builtin.append_,run_underlying ht,sizeOf,typeInfo,hi,Builtin.lenOf,Builtin.firstCells]
  ·have hnc':n≤cap:=hnc
   simp [Builtin.append_,run_underlying ht,sizeOf,typeInfo,hi,Builtin.lenOf,Builtin.firstCells,hnc',storeCells]
 ·obtain⟨v',w',h2,h3,h4,_,h5⟩:=run_append_own_at (P:=P) w base t ty e i z size bytes ht hi hz hsize hby hzs hsz v n xs hown ad m c news hl hnews h1 h63 hbytes hbase
  exact⟨v',w',h2,h3,h4,h5⟩
theorem Qap {P:Program}{ops:Array Oper}{o:Oper}{a:Act}{w:World}{K:Act→World→Prop}{Q:Exit→Act→World→Prop}{E:Prop}
  (hgd:o.guard=none) (s x:Operand) (t:TypeId) (ho:o.op = .call { callee:=.builtin .append,args:=#[s,x],argTypes:=#[t,t] })
  (base:Nat) (e:TypeId) (i:TypeInfo) (z:Value) (size bytes:Nat) (ht:P.underlying t=some (.slice e)) (hi:P.info? e=some i) (hz:i.zero=some z)
  (hsize:i.size=size) (hby:i.bytes=bytes) (hzs:z.cells.size=size) (hsz:0<size)
  (v:Value) (n:Nat) (xs:List Value) (hs:a.eval s=v) (hown:w.ownsRow base e size v n xs)
  (xv:Value) (m:Nat) (news:List Value) (hx:a.eval x=xv) (hsrc:Src w xv m size news)
  (h63:n+m≤maxLen) (hbytes:(n+m)*bytes≤140737488355328) (hbase:base≤w.heap.size)
  (h:∀ v' w',w'.ownsRow base e size v' (n+m) (xs++news)→w.grownBy w' v.ownBlock→(v'.ownBlock=v.ownBlock∨v'.ownBlock=some w.heap.size)→K (a.put o.dst v') w') :
  if Region.wanted o (yielded ops a.tmps)=true then Oper.wp P o a w K Q else E:=by
 have hw:Region.wanted o (yielded ops a.tmps)=true:=by simp [Region.wanted,hgd]
 rw [if_pos hw]
 obtain⟨v',w',hr,h2,h3,h5⟩:=Qe4 (P:=P) w base t o.type e i z size bytes ht hi hz hsize hby hzs hsz v n xs hown xv m news hsrc h63 hbytes hbase
 unfold Oper.wp
 simp [execOp,ho,resolve,invoke,builtin,hs,hx,hr,Result.andThen]
 exact h v' w' h2 h3 h5
end Go.Proofs.YtalflecmadacaaaGreat
