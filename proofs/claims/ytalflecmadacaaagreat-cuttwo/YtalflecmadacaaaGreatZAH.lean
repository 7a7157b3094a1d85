import Derived.Test.YtalflecmadacaaaGreatZAG
import Derived.Deep.RegionHeld3
import Derived.Test.YtalflecmadacaaaGreatZAA
import Derived.Test.YtalflecmadacaaaGreatZAF
set_option maxRecDepth 100000
set_option maxHeartbeats 8000000
namespace Go.Proofs.YtalflecmadacaaaGreat
open Go Go.Proofs Go.RowKit
theorem infoK:(Tryz.prog.info? 142).map (fun i=>(i.zero,i.size,i.bytes))=some (some (.agg #[.int .i64 0,.int .i64 0]),2,16):=by kernel_rfl
theorem QpG:(Tryz.prog.info? 140).map (fun i=>(i.zero,i.size,i.bytes))=some (some (.slice none 0 0),1,24):=by kernel_rfl
theorem QdE (n:Nat):(madeCells (Value.slice none 0 0).cells (n*1)).toList=List.replicate n (.slice none 0 0):=by
 apply List.ext_getElem
 ·simp [madeCells]
 ·intro i h1 h2
  simp [madeCells,Value.cells,Nat.mod_one]
theorem Qad {A B:World}(hb:Below A.heap.size A B){a:Addr}{v:Value}(h:A.cell? a=some v):B.cell? a=some v:=(hb.cell (World.block_lt_of_cell? A a h)).trans h
theorem QhP (n:Nat):(madeCells (Value.agg #[.int .i64 0,.int .i64 0]).cells (n*2)).toList.length=n*2:=by
 simp [madeCells]
theorem Qjx (N:Nat)(l:List Ed)(hR:RightG (N:Int) l)(sv:Value)(w:World)(hl:Edges w.heap.size w sv l):
  Calls Tryz.prog 97 #[.agg #[.int .i64 (N:Int),sv]] w fun r w'=>∃ lb sb,r = .returned (.slice (some ⟨lb,0,none⟩) N N)∧w.heap.size<lb∧w.heap.size<sb∧lb≠sb∧LnkI N lb sb (2*l.length) (offR l (2*l.length)) (fun v=>(nb l (v:Int)).length) (fun v=>Qaj (v:Int) 0 l) w'∧Below w.heap.size w w':=by
 have hmix:=mixed
 have hg1:Grew w (w.alloc (.cells #[.int .i64 (N:Int),sv] 24)):=(Grew.refl w).alloc _
 obtain⟨p,c,rfl⟩:=hl.len
 obtain⟨i0,hi,hz0,hz1,hz2⟩:=info_parts QpG
 obtain⟨k0,hki,hkz0,hkz1,hkz2⟩:=info_parts infoK
 have hn1:=hR.n1
 have hm1:=hR.m1
 have hM2:degS l N=2*l.length:=QbR fun e he=>(hR.each e he).1
 have hbw:=hg1.below
 have q0:(w.alloc (.cells #[.int .i64 (N:Int),.slice p l.length c] 24)).cell? ⟨w.heap.size,0,none⟩=some (.int .i64 (N:Int)):=Qam rfl rfl
 have q1:(w.alloc (.cells #[.int .i64 (N:Int),.slice p l.length c] 24)).cell? ⟨w.heap.size,1,none⟩=some (.slice p l.length c):=Qam rfl rfl
 have hsz1:(w.alloc (.cells #[.int .i64 (N:Int),.slice p l.length c] 24)).heap.size=w.heap.size+1:=by simp
 go_enter Tryz.func97,Tryz.ntmps97
 go_wp2_with (first | (at_make;refine wpList_make_full _ rfl _ _ 94 rfl (w.alloc (.cells #[.int .i64 (N:Int),.slice p l.length c] 24)).heap.size 140 i0 (.slice none 0 0) 1 Tryz.underlying94 hi hz0 hz1 .i64 .i64 _ _ N rfl rfl rfl rfl (by rw [hz2];omega) (by unfold maxLen;omega) YA ?_;intro w3 hown hgrow;have hb3:Below (w.alloc (.cells #[.int .i64 (N:Int),.slice p l.length c] 24)).heap.size (w.alloc (.cells #[.int .i64 (N:Int),.slice p l.length c] 24)) w3:=YD.grown hgrow YA (fun k e=>by cases e);have x0:=Qad hb3 q0;have x1:=Qad hb3 q1) | (at_make;refine wpList_make_full _ rfl _ _ 140 rfl 0 142 k0 (.agg #[.int .i64 0,.int .i64 0]) 2 Tryz.underlying140 hki hkz0 hkz1 .i64 .i64 _ _ (2*l.length) rfl rfl rfl rfl (by rw [hkz2];omega) (by unfold maxLen;omega) YN ?_;intro w4 hown4 hgrow4;have hb4:Below w3.heap.size w3 w4:=YD.grown hgrow4 YA (fun k e=>by cases e);have y0:=Qad hb4 x0;have y1:=Qad hb4 x1))
 have hrow:=Blk.made hown
 rw [QdE,hsz1] at hrow
 have hcs:=Blk.made hown4
 have hcl:=QhP (2*l.length)
 generalize (madeCells (Value.agg #[.int .i64 0,.int .i64 0]).cells (2*l.length*2)).toList=cs at hcs hcl
 have hrow4:=hrow.go hb4
 have hbw3:=hbw.trans (hb3.mono (by rw [hsz1];omega))
 have hbw4:=hbw3.trans (hb4.mono hbw3.size)
 have hs3:w.heap.size+1<w3.heap.size:=hrow.lt
 have hs4:w3.heap.size<w4.heap.size:=hcs.lt
 clear hown hgrow hi hz0 hz1 hz2 hki hkz0 hkz1 hkz2 hb3 q0 q1 hg1 hbw hrow hown4 hgrow4 hb4 x0 x1 hbw3 hsz1
 generalize w3.heap.size=sb at *
 generalize hlb:w.heap.size+1=lb at *
 refine (Qcs N l hR _ _ (hl.go hbw4)).mono ?_
 rintro e w5 ⟨dv,rfl,hdI,⟨gd,rfl,hgd⟩,hb5⟩
 have hrow5:=hrow4.go hb5
 have hcs5:=hcs.go hb5
 have z0:=Qad hb5 y0
 have z1:=Qad hb5 y1
 have hbw5:=hbw4.trans (hb5.mono hbw4.size)
 have hs5:=hb5.size
 have hdI':∀ v,v<N→w5.cell? ⟨gd,v,none⟩=some (.int .i64 ((nb l (v:Int)).length:Int)):=fun v hv=>by
  rcases hdI with ⟨_,h0⟩ | ⟨b,off,cap,h1,h2,h3,h4⟩
  ·have:=congrArg List.length h0;rw [QbS] at this;simp at this;omega
  ·simp only [Value.slice.injEq,Option.some.injEq,Addr.mk.injEq] at h1
   obtain⟨⟨rfl,rfl,_⟩,_,_⟩:=h1
   have:=h4 v _ (Qcu (l:=l) (j:=l.length) hv)
   rwa [Nat.zero_add,List.take_length] at this
 have hgd5:N=0∨gd<w5.heap.size:=by
  by_cases h:N=0
  ·exact .inl h
  ·exact .inr (World.block_lt_of_cell? w5 ⟨gd,0,none⟩ (hdI' 0 (by omega)))
 clear hdI hrow4 hcs hb5 y0 y1 hbw4
 go_wp2
 go_loopw [4,20] (fun rv iv wr=>∃ (j:Nat),j≤N∧iv = .int .i64 j∧rv = .slice (some ⟨sb,offR l (2*l.length) j*2,none⟩) (2*l.length-degS l j) (2*l.length-degS l j)∧Blk 140 wr lb (halfK N sb (offR l (2*l.length)) (fun v=>(nb l (v:Int)).length) j)∧w5.grownBy wr (some lb)) (fun _ i _=>N-(intOf i).toNat)
 case atStart=>exact⟨0,YN,rfl,by simp [offR,degS],by rw [QjN];exact hrow5,⟨rfl,rfl,rfl,YA,fun _ _ _=>rfl⟩⟩
 case round=>
  obtain⟨j,hj,rfl,rfl,hH,hgr⟩:=hrel
  by_cases hlt:j<N
  ·have hgdl:gd<w5.heap.size:=by omega
   have c0:=hgr.cell (hdI' j hlt) (by simp;omega)
   have hjl:(j:Int)<(N:Int):=by omega
   have hdl:=QaO (j:Int) l
   have hgs:=hgr.size
   have o1:=hH.cell (QdU hlt)
   have f1:=hH.frozen j
   rw [if_neg (Nat.lt_irrefl j)] at o1
   have hds:degS l (j+1)=degS l j+(nb l (j:Int)).length:=rfl
   have hle:=Qct (l:=l) (v:=j+1) (n:=N) hlt
   have HST:Hid _:=QjO (N:=N) (sb:=sb) (off:=offR l (2*l.length)) (deg:=fun v=>(nb l (v:Int)).length) (j:=j)
   have HO:Hid (offR l (2*l.length) (j+1)=if (nb l (j:Int)).length=2*l.length-degS l j then offR l (2*l.length) j else offR l (2*l.length) j+(nb l (j:Int)).length):=rfl
   have hgr6:w5.grownBy (wr.setCell ⟨lb,j,none⟩ (.slice (some ⟨sb,offR l (2*l.length) j*2,none⟩) 0 (nb l (j:Int)).length)).drew (some lb):=by
    refine⟨hgr.os,hgr.tape,hgr.output,by show w5.heap.size≤(wr.setCell _ _).heap.size;simp;exact hgs,fun k hk hne=>?_⟩
    exact (Below.heap_setCell _ _ _ _ (fun e=>hne (by rw [e]))).trans (hgr.block k hk hne)
   have hB7:=hH.set j (.slice (some ⟨sb,offR l (2*l.length) j*2,none⟩) 0 (nb l (j:Int)).length)
   rw [HST.out] at hB7
   have HB7:Hid (Blk 140 (wr.setCell ⟨lb,j,none⟩ (.slice (some ⟨sb,offR l (2*l.length) j*2,none⟩) 0 (nb l (j:Int)).length)).drew lb _):=hB7
   have HG6:Hid _:=hgr6
   rw [hM2,hds] at hle
   have HDS:Hid (degS l (j+1)=degS l j+(nb l (j:Int)).length):=hds
   clear hB7 hgr6 hH hgr hrow5 hcs5 hcl hdI' hl hR hds HST
   generalize (nb l (j:Int)).length=d at *
   generalize degS l j=q at *
   generalize offR l (2*l.length) j=o at *
   generalize 2*l.length=M2 at *
   have hd0:(d:Int)≤((M2-q:Nat):Int):=by omega
   go_wp2
   go_big_region_o
   go_wp2
   refine⟨⟨j+1,by omega,by go_num,?_,HB7.out,HG6.out⟩,by simp [intOf];omega⟩
   rw [HO.out,HDS.out,Nat.sub_sub]
   by_cases he:d=M2-q
   ·rw [if_pos he,if_pos he.symm]
   ·rw [if_neg he,if_neg (Ne.symm he),Nat.add_mul]
  ·obtain rfl:j=N:=by omega
   have hI0:LnkI j lb sb (2*l.length) (offR l (2*l.length)) (fun v=>(nb l (v:Int)).length) (fun v=>Qaj (v:Int) 0 (l.take 0)) wr:=by
    refine⟨?_,fun v _=>by simp [Qaj],cs,hgr.block sb (by omega) (by simp;omega) |>.trans hcs5,hcl,fun v j x _ hx=>by simp [Qaj] at hx⟩
    have:=hH
    rw [QjP] at this
    simpa [Qaj] using this
   have y1:=hgr.cell z1 (by simp;omega)
   have hbr:Below lb w5 wr:=⟨hgr.os,hgr.tape,hgr.output,hgr.size,fun k hk=>hgr.block k (by omega) (by simp;omega)⟩
   have hbwr:=hbw5.trans (hbr.mono (by omega))
   clear hH hgr hdI' hrow5 hcs5 hcl z0 z1
   have hsep:=fun u v a b hu hv ha hb he=>Qiz (l:=l) hM2 (u:=u) (v:=v) (j:=a) (k:=b) hu hv ha hb he
   have hin:=fun v a hv ha=>Qk8 (l:=l) hM2 (v:=v) (j:=a) hv ha
   have Hsep:Hid _:=hsep
   have Hin:Hid _:=hin
   clear hsep hin hM2
   generalize wr=wq at *
   generalize 2*l.length-degS l j=rs
   generalize offR l (2*l.length) j=oj
   go_wp2
   go_loopw [38] (fun i w6=>∃ (i':Nat),i'≤l.length∧i = .int .i64 i'∧LnkI j lb sb (2*l.length) (offR l (2*l.length)) (fun v=>(nb l (v:Int)).length) (fun v=>Qaj (v:Int) 0 (l.take i')) w6∧Below lb wq w6) (fun i _=>l.length-(intOf i).toNat)
   case atStart=>exact⟨0,YN,rfl,hI0,YD⟩
   case round=>
    obtain⟨i',hi',rfl,hI,hb⟩:=hrel
    have hbw6:=hbwr.trans (hb.mono (by omega))
    by_cases hlt:i'<l.length
    ·obtain⟨b,off,rfl,hbb,hcap,hc,-⟩:=hl.open hlt
     obtain⟨c0,c1,c2⟩:=hc _ hbw6 i' hlt
     have hok:=(hR.each l[i'] (YG hlt)).1
     unfold okE at hok
     obtain⟨u,hu⟩:∃ u:Nat,l[i'].1=(u:Int):=⟨l[i'].1.toNat,by omega⟩
     obtain⟨v,hv⟩:∃ v:Nat,l[i'].2.1=(v:Int):=⟨l[i'].2.1.toNat,by omega⟩
     have huN:u<j:=by omega
     have hvN:v<j:=by omega
     have hne:u≠v:=by omega
     have huN':(u:Int)<(j:Int):=by omega
     have hvN':(v:Int)<(j:Int):=by omega
     have hjl:(i':Int)<(l.length:Int):=by omega
     have HF:Hid ((fun x:Nat=>Qaj (x:Int) 0 (l.take (i'+1)))=updK (updK (fun x:Nat=>Qaj (x:Int) 0 (l.take i')) u ((v:Int),(i':Int))) v ((u:Int),(i':Int))):=by
      unfold Hid
      funext x
      rw [Qev hlt]
      unfold updK
      rw [hu,hv]
      by_cases hxv:x=v
      ·subst hxv
       have h1:¬ ((u:Int)=(x:Int)):=by omega
       have h2:¬ x=u:=by omega
       simp [h1,h2]
      ·by_cases hxu:x=u
       ·subst hxu
        simp [hxv]
       ·have h1:¬ ((u:Int)=(x:Int)):=by omega
        have h2:¬ ((v:Int)=(x:Int)):=by omega
        simp [hxv,hxu,h1,h2]
     have hpu:(Qaj (u:Int) 0 (l.take i')).length+1≤(nb l (u:Int)).length:=by
      have h1:=QgI l (u:Int) (i'+1)
      rw [Qb4 hlt,YI] at h1
      unfold nbOf at h1
      rw [hu,if_pos rfl] at h1
      rw [QbC]
      simpa using h1
     have hpv:(Qaj (v:Int) 0 (l.take i')).length+1≤(nb l (v:Int)).length:=by
      have h1:=QgI l (v:Int) (i'+1)
      rw [Qb4 hlt,YI] at h1
      unfold nbOf at h1
      rw [hu,hv,if_neg (by omega),if_pos rfl] at h1
      rw [QbC]
      simpa using h1
     rw [hu] at c0
     rw [hv] at c1
     have hul:=QaO (u:Int) l
     have hvl:=QaO (v:Int) l
     have hP1:=hI.push (by omega) Hsep.out Hin.out huN ((v:Int),(i':Int)) hpu
     have hlen2:(updK (fun x:Nat=>Qaj (x:Int) 0 (l.take i')) u ((v:Int),(i':Int)) v).length+1≤(nb l (v:Int)).length:=by
      unfold updK;rw [if_neg (Ne.symm hne)];exact hpv
     have o1:=hI.row.cell (QcI huN)
     have fo1:=hI.row.frozen u
     obtain⟨cq,hcq,hcql,-⟩:=hI.cur
     have hiu:=Hin.out u (Qaj (u:Int) 0 (l.take i')).length huN hpu
     obtain⟨z0,hz0⟩:∃ z,wr.cell? ⟨sb,(offR l (2*l.length) u+(Qaj (u:Int) 0 (l.take i')).length)*2,none⟩=some z:=⟨_,hcq.cell (YB (by rw [hcql];omega))⟩
     obtain⟨z1,hz1⟩:∃ z,wr.cell? ⟨sb,(offR l (2*l.length) u+(Qaj (u:Int) 0 (l.take i')).length)*2+1,none⟩=some z:=⟨_,hcq.cell (YB (by rw [hcql];omega))⟩
     have fz0:=hcq.frozen ((offR l (2*l.length) u+(Qaj (u:Int) 0 (l.take i')).length)*2)
     have fz1:=hcq.frozen ((offR l (2*l.length) u+(Qaj (u:Int) 0 (l.take i')).length)*2+1)
     have hlbl:=hI.row.lt
     have hsbl:=hcq.lt
     have HP1:Hid _:=hP1
     rw [Nat.add_mul] at HP1 hz0 hz1 fz0 fz1
     have HI:Hid _:=hI
     have HL2:Hid _:=hlen2
     have HC:Hid _:=hb
     have HW6:Hid _:=hbw6
     have HW0:Hid _:=hbwr
     have HLT:Hid (i'<l.length):=hlt
     have hbq:b≠lb∧b≠sb:=by omega
     obtain⟨hb1,hb2⟩:=hbq
     clear hc hok hu hv hI hP1 hcq hcql hlen2 hb hbw6 hI0 hbr hbwr hpv y1 hgd5 hR
     generalize (Qaj (u:Int) 0 (l.take i')).length=pu at *
     generalize (nb l (u:Int)).length=du at *
     generalize offR l (2*l.length) u*2=ou at *
     generalize l[i'].2.2=wv at c2
     go_wp2
     go_big_region_o
     have hsz2:(((wr.setCell ⟨sb,ou+pu*2,none⟩ (.int .i64 (v:Int))).setCell ⟨sb,ou+pu*2+1,none⟩ (.int .i64 (i':Int))).setCell ⟨lb,u,none⟩ (.slice (some ⟨sb,ou,none⟩) (pu+1) du)).heap.size=wr.heap.size:=by simp
     have hgr2:Grew (((wr.setCell ⟨sb,ou+pu*2,none⟩ (.int .i64 (v:Int))).setCell ⟨sb,ou+pu*2+1,none⟩ (.int .i64 (i':Int))).setCell ⟨lb,u,none⟩ (.slice (some ⟨sb,ou,none⟩) (pu+1) du)) ((((((wr.setCell ⟨sb,ou+pu*2,none⟩ (.int .i64 (v:Int))).setCell ⟨sb,ou+pu*2+1,none⟩ (.int .i64 (i':Int))).setCell ⟨lb,u,none⟩ (.slice (some ⟨sb,ou,none⟩) (pu+1) du)).alloc (.cells #[.int .i64 (u:Int),.int .i64 (v:Int),.int .i64 wv] 50)).alloc (.cells #[.int .i64 (v:Int),.int .i64 (i':Int)] 142)).drew):=(((Grew.refl _).alloc _).alloc _).drewN 1
     have hI2:=HP1.out.go hgr2.below
     have hb2':Below lb wr (((wr.setCell ⟨sb,ou+pu*2,none⟩ (.int .i64 (v:Int))).setCell ⟨sb,ou+pu*2+1,none⟩ (.int .i64 (i':Int))).setCell ⟨lb,u,none⟩ (.slice (some ⟨sb,ou,none⟩) (pu+1) du)):=((YD.setCell (p:=⟨sb,_,none⟩) (by simp only;omega) _).setCell (p:=⟨sb,_,none⟩) (by simp only;omega) _).setCell (p:=⟨lb,u,none⟩) YA _
     have hb3:Below lb wq ((((((wr.setCell ⟨sb,ou+pu*2,none⟩ (.int .i64 (v:Int))).setCell ⟨sb,ou+pu*2+1,none⟩ (.int .i64 (i':Int))).setCell ⟨lb,u,none⟩ (.slice (some ⟨sb,ou,none⟩) (pu+1) du)).alloc (.cells #[.int .i64 (u:Int),.int .i64 (v:Int),.int .i64 wv] 50)).alloc (.cells #[.int .i64 (v:Int),.int .i64 (i':Int)] 142)).drew):=(HC.out.trans hb2').trans (hgr2.below.mono (by rw [hsz2];omega))
     have e0:((((((wr.setCell ⟨sb,ou+pu*2,none⟩ (.int .i64 (v:Int))).setCell ⟨sb,ou+pu*2+1,none⟩ (.int .i64 (i':Int))).setCell ⟨lb,u,none⟩ (.slice (some ⟨sb,ou,none⟩) (pu+1) du)).alloc (.cells #[.int .i64 (u:Int),.int .i64 (v:Int),.int .i64 wv] 50)).alloc (.cells #[.int .i64 (v:Int),.int .i64 (i':Int)] 142)).drew).cell? ⟨wr.heap.size,0,none⟩=some (.int .i64 (u:Int)):=by go_simp
     have e1:((((((wr.setCell ⟨sb,ou+pu*2,none⟩ (.int .i64 (v:Int))).setCell ⟨sb,ou+pu*2+1,none⟩ (.int .i64 (i':Int))).setCell ⟨lb,u,none⟩ (.slice (some ⟨sb,ou,none⟩) (pu+1) du)).alloc (.cells #[.int .i64 (u:Int),.int .i64 (v:Int),.int .i64 wv] 50)).alloc (.cells #[.int .i64 (v:Int),.int .i64 (i':Int)] 142)).drew).cell? ⟨wr.heap.size,1,none⟩=some (.int .i64 (v:Int)):=by go_simp
     have hs6:wr.heap.size<((((((wr.setCell ⟨sb,ou+pu*2,none⟩ (.int .i64 (v:Int))).setCell ⟨sb,ou+pu*2+1,none⟩ (.int .i64 (i':Int))).setCell ⟨lb,u,none⟩ (.slice (some ⟨sb,ou,none⟩) (pu+1) du)).alloc (.cells #[.int .i64 (u:Int),.int .i64 (v:Int),.int .i64 wv] 50)).alloc (.cells #[.int .i64 (v:Int),.int .i64 (i':Int)] 142)).drew).heap.size:=by simp;omega
     generalize (((((wr.setCell ⟨sb,ou+pu*2,none⟩ (.int .i64 (v:Int))).setCell ⟨sb,ou+pu*2+1,none⟩ (.int .i64 (i':Int))).setCell ⟨lb,u,none⟩ (.slice (some ⟨sb,ou,none⟩) (pu+1) du)).alloc (.cells #[.int .i64 (u:Int),.int .i64 (v:Int),.int .i64 wv] 50)).alloc (.cells #[.int .i64 (v:Int),.int .i64 (i':Int)] 142)).drew=w7 at hI2 hb3 e0 e1 hs6 ⊢
     clear HP1 hgr2 hsz2 hb2' o1 fo1 hz0 hz1 fz0 fz1 c0 c1 c2 HI
     have hP2:=hI2.push (by omega) Hsep.out Hin.out hvN ((u:Int),(i':Int)) HL2.out
     rw [← HF.out] at hP2
     have o2:=hI2.row.cell (QcI hvN)
     have fo2:=hI2.row.frozen v
     obtain⟨cq2,hcq,hcql,-⟩:=hI2.cur
     have hiv:=Hin.out v (updK (fun x:Nat=>Qaj (x:Int) 0 (l.take i')) u ((v:Int),(i':Int)) v).length hvN HL2.out
     obtain⟨z2,hz2⟩:∃ z,w7.cell? ⟨sb,(offR l (2*l.length) v+(updK (fun x:Nat=>Qaj (x:Int) 0 (l.take i')) u ((v:Int),(i':Int)) v).length)*2,none⟩=some z:=⟨_,hcq.cell (YB (by rw [hcql];omega))⟩
     obtain⟨z3,hz3⟩:∃ z,w7.cell? ⟨sb,(offR l (2*l.length) v+(updK (fun x:Nat=>Qaj (x:Int) 0 (l.take i')) u ((v:Int),(i':Int)) v).length)*2+1,none⟩=some z:=⟨_,hcq.cell (YB (by rw [hcql];omega))⟩
     have fz2:=hcq.frozen ((offR l (2*l.length) v+(updK (fun x:Nat=>Qaj (x:Int) 0 (l.take i')) u ((v:Int),(i':Int)) v).length)*2)
     have fz3:=hcq.frozen ((offR l (2*l.length) v+(updK (fun x:Nat=>Qaj (x:Int) 0 (l.take i')) u ((v:Int),(i':Int)) v).length)*2+1)
     have hl7:=hI2.row.lt
     have hs7:=hcq.lt
     have HP2:Hid _:=hP2
     have hlen2:=HL2.out
     rw [Nat.add_mul] at HP2 hz2 hz3 fz2 fz3
     clear hP2 hI2 hcq hcql hiv HL2
     generalize (updK (fun x:Nat=>Qaj (x:Int) 0 (l.take i')) u ((v:Int),(i':Int)) v).length=pv at *
     generalize (nb l (v:Int)).length=dv at *
     generalize offR l (2*l.length) v*2=ov at *
     have hgr3:Grew (((w7.setCell ⟨sb,ov+pv*2,none⟩ (.int .i64 (u:Int))).setCell ⟨sb,ov+pv*2+1,none⟩ (.int .i64 (i':Int))).setCell ⟨lb,v,none⟩ (.slice (some ⟨sb,ov,none⟩) (pv+1) dv)) (((((w7.setCell ⟨sb,ov+pv*2,none⟩ (.int .i64 (u:Int))).setCell ⟨sb,ov+pv*2+1,none⟩ (.int .i64 (i':Int))).setCell ⟨lb,v,none⟩ (.slice (some ⟨sb,ov,none⟩) (pv+1) dv)).alloc (.cells #[.int .i64 (u:Int),.int .i64 (i':Int)] 142)).drew):=((Grew.refl _).alloc _).drewN 1
     have hsz3:(((w7.setCell ⟨sb,ov+pv*2,none⟩ (.int .i64 (u:Int))).setCell ⟨sb,ov+pv*2+1,none⟩ (.int .i64 (i':Int))).setCell ⟨lb,v,none⟩ (.slice (some ⟨sb,ov,none⟩) (pv+1) dv)).heap.size=w7.heap.size:=by simp
     have HI3:Hid _:=HP2.out.go hgr3.below
     have hb4:Below lb w7 (((w7.setCell ⟨sb,ov+pv*2,none⟩ (.int .i64 (u:Int))).setCell ⟨sb,ov+pv*2+1,none⟩ (.int .i64 (i':Int))).setCell ⟨lb,v,none⟩ (.slice (some ⟨sb,ov,none⟩) (pv+1) dv)):=((YD.setCell (p:=⟨sb,_,none⟩) (by simp only;omega) _).setCell (p:=⟨sb,_,none⟩) (by simp only;omega) _).setCell (p:=⟨lb,v,none⟩) YA _
     have HB5:Hid (Below lb wq (((((w7.setCell ⟨sb,ov+pv*2,none⟩ (.int .i64 (u:Int))).setCell ⟨sb,ov+pv*2+1,none⟩ (.int .i64 (i':Int))).setCell ⟨lb,v,none⟩ (.slice (some ⟨sb,ov,none⟩) (pv+1) dv)).alloc (.cells #[.int .i64 (u:Int),.int .i64 (i':Int)] 142)).drew)):=(hb3.trans hb4).trans (hgr3.below.mono (by rw [hsz3];omega))
     have hse:sb≠wr.heap.size:=by omega
     have hle:lb≠wr.heap.size:=by omega
     have hls:lb≠sb:=by omega
     clear hgr3 hsz3 hb4 hb3 HP2 HF hl hbb hcap hb1 hb2 hlbl hsbl hs3 hs4 hs5 hgd hlb hbw5 HC HW6 HW0 Hsep Hin hpu hul hiu hi' hlt hjl huN huN'
     generalize wr.heap.size=eb at *
     go_wp2
     refine Qai (S:=(fun w':World=>w'.cell? ⟨eb,0,none⟩=some (.int .i64 (u:Int))∧w'.cell? ⟨eb,1,none⟩=some (.int .i64 (v:Int))∧w'.cell? ⟨lb,v,none⟩=some (.slice (some ⟨sb,ov,none⟩) pv dv))) (by kernel_rfl) ?_ (fun hHeld=>?_)
     ·(try dsimp only);go_keep
     refine tL 0 ?_
     try simp only [YS]
     refine tL 1 ?_
     refine tL 2 ?_
     refine tL 3 ?_
     refine tL 4 ?_
     refine tL 5 ?_
     refine tL 6 ?_
     refine tL 7 ?_
     refine tL 8 ?_
     refine tL 9 ?_
     refine tL 10 ?_
     refine tL 11 ?_
     refine Qac (rs:=[12]) (by kernel_rfl) (by simp) ?_
     refine AllReadyL.cons rfl (fun K hK=>?_) AllReadyL.nil
     go_simp
     refine hK.out _ _ ?_ (fun hHeld=>?_)
     ·(try dsimp only);first | (go_keep;done) | ((repeat' apply And.intro) <;> go_simp)
     clear hK K
     try simp only [Act.put,YS,YT,YU]
     refine Qac (rs:=[13]) (by kernel_rfl) (by simp) ?_
     refine AllReadyL.cons rfl (fun K hK=>?_) AllReadyL.nil
     go_simp
     refine hK.out _ _ ?_ (fun hHeld=>?_)
     ·(try dsimp only);first | (go_keep;done) | ((repeat' apply And.intro) <;> go_simp)
     clear hK K
     try simp only [Act.put,YS,YT,YU]
     refine tL 14 ?_
     try simp only [YS]
     refine Qac (rs:=[15]) (by kernel_rfl) (by simp) ?_
     refine AllReadyL.last rfl (by kernel_rfl) (fun K hK=>?_)
     go_simp
     refine hK.out _ _ ?_
     clear hK K
     try simp only [Act.put,YS,YT,YU]
     refine Qak (by kernel_rfl) ?_ _
     have hlt2:=HLT.out
     go_wp2
     exact⟨⟨i'+1,HLT.out,by go_num,HI3.out,HB5.out⟩,by have:=HLT.out;simp [intOf];omega⟩
    ·obtain rfl:i'=l.length:=by omega
     rw [List.take_length] at hI
     go_wp2
     go_ret
     exact⟨lb,sb,rfl,by omega,by omega,by omega,hI,hbw6⟩
theorem QfC {N M C:Nat}{lk:List (List (Int × Int))}{s:WS}{r:Nat}(h:OkW N M C lk s)(hp:s.path=[])(hr:r<N)(hs:s.depth.getD r 0<0):
  pot lk N { s with root:=s.root.set r (r:Int),from_:=s.from_.set r (-1),depth:=s.depth.set r 0,path:=s.path++[⟨(r:Int),-1,0,0,0⟩] }≤pot lk N s:=by
 have hpe:s.path++[(⟨(r:Int),-1,0,0,0⟩:Stp)]=[⟨(r:Int),-1,0,0,0⟩]:=by rw [hp];rfl
 have hu:=Qcc (lk:=lk) h.lenD hr hs (Int.le_refl 0)
 unfold pot
 show 2*QaF lk N (s.depth.set r 0)+Qax lk (s.path++[(⟨(r:Int),-1,0,0,0⟩:Stp)])≤2*QaF lk N s.depth+Qax lk s.path
 rw [hpe,QaE,hp]
 simp only
 have:degW lk (r:Int)=(lk.getD r []).length:=by unfold degW;rfl
 rw [this]
 have:Qax lk []=0:=rfl
 omega
theorem QdI {v:Int}{x:Int × Int}:∀ {l:List Ed} {p:Nat},x∈Qaj v p l→∃ k:Nat,x.2=(k:Int)∧k<p+l.length
 | [],_,h=>by simp [Qaj] at h
 | e :: l,p,h=>by
  rw [Qaj] at h
  rcases YJ h with h1 | h1
  ·refine⟨p,?_,by simp⟩
   split at h1
   ·rw [YF h1]
   ·split at h1
    ·rw [YF h1]
    ·simp at h1
  ·obtain⟨k,e1,e2⟩:=QdI h1
   exact⟨k,e1,by rw [List.length_cons];omega⟩
theorem Qe9 {N:Nat}{l:List Ed}{v:Nat}(h:¬ v<N):(QaJ N l).getD v []=[]:=by
 rw [YC,YL (by simp [QaJ];omega)]
 rfl
theorem QfM {N:Nat}{l:List Ed}(hR:RightG (N:Int) l):QbU N l.length (QaJ N l):=by
 intro v x hx
 by_cases hv:v<N
 ·obtain⟨u,e,hu,_⟩:=(QfL hR).sound v x hv hx
  rw [QbB hv] at hx
  obtain⟨k,e1,e2⟩:=QdI hx
  exact⟨⟨u,e,hu⟩,k,e1,by omega⟩
 ·rw [Qe9 hv] at hx
  simp at hx
theorem OkW.step {N M C:Nat}{lk:List (List (Int × Int))}{s:WS}(h:OkW N M C lk s)(hK:QbU N M lk)(hne:s.path≠[]):OkW N M C lk (stepW lk s)∧pot lk N (stepW lk s)+1≤pot lk N s:=by
 unfold stepW
 cases hl:s.path.getLast? with
 | none=>exact absurd (List.getLast?_eq_none_iff.1 hl) hne
 | some top=>
  have hp:=QcN hl
  simp only
  split
  ·exact⟨h.leave hp,Qcf hp⟩
  ·rename_i hn
   have hle:=h.nxt top (by rw [hp];simp)
   have hlt:top.next<degW lk top.v:=by unfold degW at hle ⊢;omega
   have hx:=YB (l:=lk.getD top.v.toNat []) hlt
   have e:(lk.getD top.v.toNat []).getD top.next (0,0)=(lk.getD top.v.toNat [])[top.next]:=by rw [YC,hx];rfl
   obtain⟨v,ev,hv,hsv⟩:=h.way top.v (by rw [hp];simp)
   have evt:top.v.toNat=v:=by rw [ev];rfl
   obtain⟨⟨u,eu,hu⟩,_⟩:=hK _ _ (YG hlt)
   rw [e]
   exact⟨h.look hK hp hx,QcZ hp hlt h.lenD (by rw [eu];exact hu) (by unfold at_;rw [evt];exact hsv)⟩
theorem OkW.run {N M C:Nat}{lk:List (List (Int × Int))}(hK:QbU N M lk):∀ (k:Nat) {s:WS},OkW N M C lk s→pot lk N s≤k→OkW N M C lk (runW lk k s)∧(runW lk k s).path=[]
 | 0,s,h,hk=>by
  refine⟨h,?_⟩
  have:=QkU (lk:=lk) (N:=N) (s:=s)
  exact List.length_eq_zero_iff.1 (by show s.path.length=0;omega)
 | k+1,s,h,hk=>by
  rw [runW]
  by_cases hp:s.path=[]
  ·rw [QcE hp,QcF hp]
   exact⟨h,hp⟩
  ·obtain⟨h1,h2⟩:=h.step hK hp
   exact OkW.run hK k h1 (by omega)
theorem OkW.start {N M C:Nat}{lk:List (List (Int × Int))}(hK:QbU N M lk){s:WS}{r:Nat}(h:OkW N M C lk s)(hp:s.path=[])(hr:r<N):OkW N M C lk (QaC lk C s r)∧(QaC lk C s r).path=[]:=by
 unfold QaC
 split
 ·exact⟨h,hp⟩
 ·refine OkW.run hK C (h.root hp hr (by omega)) ?_
  have:=QfC h hp hr (by omega)
  have:=h.bo
  omega
theorem Qhe {N:Nat}{l:List Ed}(hR:RightG (N:Int) l):∀ k,k≤N→OkW N l.length (4*(N+l.length)+4) (QaJ N l) ((List.range k).foldl (QaC (QaJ N l) (4*(N+l.length)+4)) (Qau N l.length))∧((List.range k).foldl (QaC (QaJ N l) (4*(N+l.length)+4)) (Qau N l.length)).path=[]
 | 0,_=>⟨OkW.fresh (QdY N l _),rfl⟩
 | k+1,hk=>by
  obtain⟨h1,h2⟩:=Qhe hR k (by omega)
  rw [List.range_succ,List.foldl_append]
  exact h1.start (QfM hR) h2 (by omega)
theorem Qmt {N:Nat}{l:List Ed}(hR:RightG (N:Int) l):OkW N l.length (4*(N+l.length)+4) (QaJ N l) (walkW N l):=(Qhe hR N YA).1
end Go.Proofs.YtalflecmadacaaaGreat
