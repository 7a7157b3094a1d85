import Derived.Test.YtalflecmadacaaaGreatZAG
import Derived.Test.YtalflecmadacaaaGreatZAH
import Derived.Deep.RegionHeld3
import Derived.Test.YtalflecmadacaaaGreatZAA
import Derived.Test.YtalflecmadacaaaGreatZAS
set_option maxRecDepth 100000
set_option maxHeartbeats 8000000
namespace Go.Proofs.YtalflecmadacaaaGreat
open Go Go.Proofs Go.RowKit
def plOf (v:Int)(l:List Ed):List Int:=(Qaj v 0 l).map (·.2)
theorem QfD (v:Int)(l:List Ed):(plOf v l).length=(nb l v).length:=by
 unfold plOf
 rw [List.length_map,QbC]
theorem QgB {l:List Ed}{i:Nat}(h:i<l.length)(v:Int):plOf v (l.take (i+1))=plOf v (l.take i)++(if l[i].1=v then [(i:Int)] else if l[i].2.1=v then [(i:Int)] else []):=by
 unfold plOf
 rw [Qev h,List.map_append]
 congr 1
 split
 ·rfl
 ·split <;> rfl
theorem QmQ:∀ {l:List Ed} {v:Int} {x:Int},x∈plOf v l→∃ i:Nat,x=i∧∃ h:i<l.length,l[i].1=v∨l[i].2.1=v:=by
 intro l v x hx
 have hall:∀ k,k≤l.length→∀ x∈plOf v (l.take k),∃ i:Nat,x=i∧∃ h:i<l.length,l[i].1=v∨l[i].2.1=v:=by
  intro k
  induction k with
  | zero=>intro _ x hx;simp [plOf,Qaj] at hx
  | succ k ih=>
   intro hk x hx
   rw [QgB (by omega)] at hx
   rcases YJ hx with h | h
   ·exact ih (by omega) x h
   ·split at h
    ·rename_i h1
     exact⟨k,YF h,by omega,.inl h1⟩
    ·split at h
     ·rename_i h1
      exact⟨k,YF h,by omega,.inr h1⟩
     ·simp at h
 have:=hall l.length YA x
 rw [List.take_length] at this
 exact this hx
def rowsP (N sb:Nat)(off deg:Nat→Nat)(pre:Nat→List Int):List Value:=(List.range N).map fun v=>.slice (some ⟨sb,off v,none⟩) (pre v).length (deg v)
theorem QcH {N sb:Nat}{off deg:Nat→Nat}{pre:Nat→List Int}{v:Nat}(h:v<N):(rowsP N sb off deg pre)[v]? = some (.slice (some ⟨sb,off v,none⟩) (pre v).length (deg v)):=by simp [rowsP,h]
theorem Qea (N sb:Nat)(off deg:Nat→Nat)(pre:Nat→List Int):(rowsP N sb off deg pre).length=N:=by simp [rowsP]
def halfP (N sb:Nat)(off deg:Nat→Nat)(j:Nat):List Value:=(List.range N).map fun v=>if v<j then .slice (some ⟨sb,off v,none⟩) 0 (deg v) else .slice none 0 0
theorem QdT {N sb:Nat}{off deg:Nat→Nat}{j v:Nat}(h:v<N):(halfP N sb off deg j)[v]? = some (if v<j then .slice (some ⟨sb,off v,none⟩) 0 (deg v) else .slice none 0 0):=by simp [halfP,h]
theorem Qc3 (N sb:Nat)(off deg:Nat→Nat)(j:Nat):(halfP N sb off deg j).length=N:=by simp [halfP]
theorem QjK (N sb:Nat)(off deg:Nat→Nat):halfP N sb off deg 0=List.replicate N (.slice none 0 0):=by
 apply List.ext_getElem?
 intro i
 by_cases h:i<N
 ·rw [QdT h];simp [h]
 ·rw [YL (by rw [Qc3];omega),YL (by simp;omega)]
theorem QjL {N sb:Nat}{off deg:Nat→Nat}{j:Nat}:(halfP N sb off deg j).set j (.slice (some ⟨sb,off j,none⟩) 0 (deg j))=halfP N sb off deg (j+1):=by
 apply List.ext_getElem?
 intro i
 by_cases h:i<N
 ·rw [List.getElem?_set,QdT h,QdT h,Qc3]
  by_cases e:j=i
  ·subst e;rw [if_pos rfl,if_pos h,if_pos (by omega)]
  ·rw [if_neg e]
   by_cases hi:i<j
   ·rw [if_pos hi,if_pos (by omega)]
   ·rw [if_neg hi,if_neg (by omega)]
 ·rw [YL (by rw [List.length_set,Qc3];omega),YL (by rw [Qc3];omega)]
theorem QjM (N sb:Nat)(off deg:Nat→Nat):halfP N sb off deg N=rowsP N sb off deg (fun _=>[]):=by
 unfold halfP rowsP
 refine List.map_congr_left fun v hv=>?_
 rw [if_pos (List.mem_range.1 hv)]
 rfl
def updP (pre:Nat→List Int)(v:Nat)(y:Int):Nat→List Int:=fun i=>if i=v then pre v++[y] else pre i
structure PlsI (N lb sb M2:Nat)(off deg:Nat→Nat)(pre:Nat→List Int)(W:World):Prop where
 row:Blk 27 W lb (rowsP N sb off deg pre)
 le:∀ v,v<N→(pre v).length≤deg v
 cur:∃ cs,Blk 3 W sb cs∧cs.length=M2∧∀ v j x,v<N→(pre v)[j]? = some x→cs[off v+j]? = some (.int .i64 x)
theorem PlsI.go {N lb sb M2:Nat}{off deg:Nat→Nat}{pre:Nat→List Int}{A B:World}(h:PlsI N lb sb M2 off deg pre A)(hb:Below A.heap.size A B):PlsI N lb sb M2 off deg pre B:=by
 obtain⟨cs,h1,h2,h3⟩:=h.cur
 exact⟨h.row.go hb,h.le,cs,h1.go hb,h2,h3⟩
theorem PlsI.push {N lb sb M2:Nat}{off deg:Nat→Nat}{pre:Nat→List Int}{W:World}(h:PlsI N lb sb M2 off deg pre W)(hne:lb≠sb)(hsep:∀ u v j k,u<N→v<N→j<deg u→k<deg v→off u+j=off v+k→u=v∧j=k)(hin:∀ v j,v<N→j<deg v→off v+j<M2){v:Nat}(hv:v<N)(y:Int)(hd:(pre v).length+1≤deg v):
  PlsI N lb sb M2 off deg (updP pre v y) ((W.setCell ⟨sb,off v+(pre v).length,none⟩ (.int .i64 y)).setCell ⟨lb,v,none⟩ (.slice (some ⟨sb,off v,none⟩) ((pre v).length+1) (deg v))):=by
 obtain⟨cs,h1,h2,h3⟩:=h.cur
 have hr:=(h.row.other (p:=⟨sb,off v+(pre v).length,none⟩) hne (.int .i64 y)).set v (.slice (some ⟨sb,off v,none⟩) ((pre v).length+1) (deg v))
 have e1:(rowsP N sb off deg pre).set v (.slice (some ⟨sb,off v,none⟩) ((pre v).length+1) (deg v))=rowsP N sb off deg (updP pre v y):=by
  apply List.ext_getElem?
  intro i
  by_cases hi:i<N
  ·rw [List.getElem?_set,Qea,QcH hi,QcH hi]
   by_cases e:v=i
   ·subst e;rw [if_pos rfl,if_pos hi];simp [updP]
   ·rw [if_neg e]
    have:updP pre v y i=pre i:=by unfold updP;rw [if_neg (Ne.symm e)]
    rw [this]
  ·rw [YL (by rw [List.length_set,Qea];omega),YL (by rw [Qea];omega)]
 rw [e1] at hr
 have hcs:=(h1.set (off v+(pre v).length) (.int .i64 y)).other (p:=⟨lb,v,none⟩) (Ne.symm hne) (.slice (some ⟨sb,off v,none⟩) ((pre v).length+1) (deg v))
 have hO:=hin v (pre v).length hv (by omega)
 refine⟨hr,fun u hu=>?_,_,hcs,by simp only [List.length_set];exact h2,fun u j x hu hx=>?_⟩
 ·unfold updP
  by_cases e:u=v
  ·subst e;rw [if_pos rfl,YI];exact hd
  ·rw [if_neg e];exact h.le u hu
 ·have old:(pre u)[j]? = some x→(cs.set (off v+(pre v).length) (.int .i64 y))[off u+j]? = some (.int .i64 x):=fun hx'=>by
   have g1:=h3 u j x hu hx'
   have hjl:=(YE hx').1
   have hle:=h.le u hu
   have hnq:off v+(pre v).length≠off u+j:=fun e=>by
    obtain⟨e1,e2⟩:=hsep v u (pre v).length j hv hu (by omega) (by omega) e
    subst e1
    omega
   rw [List.getElem?_set_ne (by omega)];exact g1
  unfold updP at hx
  by_cases e:u=v
  ·subst e
   rw [if_pos rfl] at hx
   by_cases hjl:j<(pre u).length
   ·rw [List.getElem?_append_left hjl] at hx
    exact old hx
   ·have hj:=(YE hx).1
    rw [YI,List.length_singleton] at hj
    obtain rfl:j=(pre u).length:=by omega
    rw [List.getElem?_append_right YA,Nat.sub_self] at hx
    obtain rfl:y=x:=by simpa using hx
    rw [List.getElem?_set_self (by rw [h2];omega)]
  ·rw [if_neg e] at hx
   exact old hx
theorem PlsI.at {N lb sb M2:Nat}{off deg:Nat→Nat}{pre:Nat→List Int}{W:World}(h:PlsI N lb sb M2 off deg pre W){v j:Nat}{x:Int}(hv:v<N)(hx:(pre v)[j]? = some x):W.cell? ⟨sb,off v+j,none⟩=some (.int .i64 x):=by
 obtain⟨cs,h1,_,h3⟩:=h.cur
 exact h1.cell (h3 v j x hv hx)
theorem QgP:(Tryz.prog.info? 3).map (fun i=>(i.zero,i.size,i.bytes))=some (some (.int .i64 0),1,8):=by kernel_rfl
theorem QpC:(Tryz.prog.info? 27).map (fun i=>(i.zero,i.size,i.bytes))=some (some (.slice none 0 0),1,24):=by kernel_rfl
theorem QhV (n:Nat):(madeCells (Value.int .i64 0).cells (n*1)).toList.length=n:=by
 simp [madeCells]
theorem Qgz (N:Nat)(l:List Ed)(hR:RightG (N:Int) l)(sv:Value)(w:World)(hl:Edges w.heap.size w sv l):
  Calls Tryz.prog 68 #[.agg #[.int .i64 (N:Int),sv]] w fun r w'=>∃ lb sb,r = .returned (.slice (some ⟨lb,0,none⟩) N N)∧w.heap.size<lb∧w.heap.size<sb∧lb≠sb∧PlsI N lb sb (2*l.length) (offR l (2*l.length)) (fun v=>(nb l (v:Int)).length) (fun v=>plOf (v:Int) l) w'∧Below w.heap.size w w':=by
 have hmix:=mixed
 have hg1:Grew w (w.alloc (.cells #[.int .i64 (N:Int),sv] 24)):=(Grew.refl w).alloc _
 obtain⟨p,c,rfl⟩:=hl.len
 obtain⟨i0,hi,hz0,hz1,hz2⟩:=info_parts QpC
 obtain⟨k0,hki,hkz0,hkz1,hkz2⟩:=info_parts QgP
 have hn1:=hR.n1
 have hm1:=hR.m1
 have hM2:degS l N=2*l.length:=QbR fun e he=>(hR.each e he).1
 have hbw:=hg1.below
 have q0:(w.alloc (.cells #[.int .i64 (N:Int),.slice p l.length c] 24)).cell? ⟨w.heap.size,0,none⟩=some (.int .i64 (N:Int)):=Qam rfl rfl
 have q1:(w.alloc (.cells #[.int .i64 (N:Int),.slice p l.length c] 24)).cell? ⟨w.heap.size,1,none⟩=some (.slice p l.length c):=Qam rfl rfl
 have hsz1:(w.alloc (.cells #[.int .i64 (N:Int),.slice p l.length c] 24)).heap.size=w.heap.size+1:=by simp
 go_enter Tryz.func68,Tryz.ntmps68
 go_wp2_with (first | (at_make;refine wpList_make_full _ rfl _ _ 35 rfl (w.alloc (.cells #[.int .i64 (N:Int),.slice p l.length c] 24)).heap.size 27 i0 (.slice none 0 0) 1 Tryz.underlying35 hi hz0 hz1 .i64 .i64 _ _ N rfl rfl rfl rfl (by rw [hz2];omega) (by unfold maxLen;omega) YA ?_;intro w3 hown hgrow;have hb3:Below (w.alloc (.cells #[.int .i64 (N:Int),.slice p l.length c] 24)).heap.size (w.alloc (.cells #[.int .i64 (N:Int),.slice p l.length c] 24)) w3:=YD.grown hgrow YA (fun k e=>by cases e);have x0:=Qad hb3 q0;have x1:=Qad hb3 q1) | (at_make;refine wpList_make_full _ rfl _ _ 27 rfl 0 3 k0 (.int .i64 0) 1 Tryz.underlying27 hki hkz0 hkz1 .i64 .i64 _ _ (2*l.length) rfl rfl rfl rfl (by rw [hkz2];omega) (by unfold maxLen;omega) YN ?_;intro w4 hown4 hgrow4;have hb4:Below w3.heap.size w3 w4:=YD.grown hgrow4 YA (fun k e=>by cases e);have y0:=Qad hb4 x0;have y1:=Qad hb4 x1))
 have hrow:=Blk.made hown
 rw [QdE,hsz1] at hrow
 have hcs:=Blk.made hown4
 have hcl:=QhV (2*l.length)
 generalize (madeCells (Value.int .i64 0).cells (2*l.length*1)).toList=cs at hcs hcl
 have hrow4:=hrow.go hb4
 have hbw3:=hbw.trans (hb3.mono (by rw [hsz1];omega))
 have hbw4:=hbw3.trans (hb4.mono hbw3.size)
 have hs3:w.heap.size+1<w3.heap.size:=hrow.lt
 have hs4:w3.heap.size<w4.heap.size:=hcs.lt
 clear hown hgrow hi hz0 hz1 hz2 hki hkz0 hkz1 hkz2 hb3 q0 q1 hg1 hbw hrow hown4 hgrow4 hb4 x0 x1 hbw3 hsz1
 generalize w3.heap.size=sb at *
 generalize hlb:w.heap.size+1=lb at *
 refine (Qcs N l hR _ _ (hl.go hbw4)).mono ?_
 rintro e w5 ⟨dv,rfl,hdI,⟨gd,rfl,hgd⟩,hb5⟩
 have hrow5:=hrow4.go hb5
 have hcs5:=hcs.go hb5
 have z0:=Qad hb5 y0
 have z1:=Qad hb5 y1
 have hbw5:=hbw4.trans (hb5.mono hbw4.size)
 have hs5:=hb5.size
 have hdI':∀ v,v<N→w5.cell? ⟨gd,v,none⟩=some (.int .i64 ((nb l (v:Int)).length:Int)):=fun v hv=>by
  rcases hdI with ⟨_,h0⟩ | ⟨b,off,cap,h1,h2,h3,h4⟩
  ·have:=congrArg List.length h0;rw [QbS] at this;simp at this;omega
  ·simp only [Value.slice.injEq,Option.some.injEq,Addr.mk.injEq] at h1
   obtain⟨⟨rfl,rfl,_⟩,_,_⟩:=h1
   have:=h4 v _ (Qcu (l:=l) (j:=l.length) hv)
   rwa [Nat.zero_add,List.take_length] at this
 have hgd5:N=0∨gd<w5.heap.size:=by
  by_cases h:N=0
  ·exact .inl h
  ·exact .inr (World.block_lt_of_cell? w5 ⟨gd,0,none⟩ (hdI' 0 (by omega)))
 clear hdI hrow4 hcs hb5 y0 y1 hbw4
 go_wp2
 go_loopw [4,20] (fun rv iv wr=>∃ (j:Nat),j≤N∧iv = .int .i64 j∧rv = .slice (some ⟨sb,offR l (2*l.length) j,none⟩) (2*l.length-degS l j) (2*l.length-degS l j)∧Blk 27 wr lb (halfP N sb (offR l (2*l.length)) (fun v=>(nb l (v:Int)).length) j)∧w5.grownBy wr (some lb)) (fun _ i _=>N-(intOf i).toNat)
 case atStart=>exact⟨0,YN,rfl,by simp [offR,degS],by rw [QjK];exact hrow5,⟨rfl,rfl,rfl,YA,fun _ _ _=>rfl⟩⟩
 case round=>
  obtain⟨j,hj,rfl,rfl,hH,hgr⟩:=hrel
  by_cases hlt:j<N
  ·have hgdl:gd<w5.heap.size:=by omega
   have c0:=hgr.cell (hdI' j hlt) (by simp;omega)
   have hjl:(j:Int)<(N:Int):=by omega
   have hdl:=QaO (j:Int) l
   have hgs:=hgr.size
   have o1:=hH.cell (QdT hlt)
   have f1:=hH.frozen j
   rw [if_neg (Nat.lt_irrefl j)] at o1
   have hds:degS l (j+1)=degS l j+(nb l (j:Int)).length:=rfl
   have hle:=Qct (l:=l) (v:=j+1) (n:=N) hlt
   have HST:Hid _:=QjL (N:=N) (sb:=sb) (off:=offR l (2*l.length)) (deg:=fun v=>(nb l (v:Int)).length) (j:=j)
   have HO:Hid (offR l (2*l.length) (j+1)=if (nb l (j:Int)).length=2*l.length-degS l j then offR l (2*l.length) j else offR l (2*l.length) j+(nb l (j:Int)).length):=rfl
   have hgr6:w5.grownBy (wr.setCell ⟨lb,j,none⟩ (.slice (some ⟨sb,offR l (2*l.length) j,none⟩) 0 (nb l (j:Int)).length)).drew (some lb):=by
    refine⟨hgr.os,hgr.tape,hgr.output,by show w5.heap.size≤(wr.setCell _ _).heap.size;simp;exact hgs,fun k hk hne=>?_⟩
    exact (Below.heap_setCell _ _ _ _ (fun e=>hne (by rw [e]))).trans (hgr.block k hk hne)
   have hB7:=hH.set j (.slice (some ⟨sb,offR l (2*l.length) j,none⟩) 0 (nb l (j:Int)).length)
   rw [HST.out] at hB7
   have HB7:Hid (Blk 27 (wr.setCell ⟨lb,j,none⟩ (.slice (some ⟨sb,offR l (2*l.length) j,none⟩) 0 (nb l (j:Int)).length)).drew lb _):=hB7
   have HG6:Hid _:=hgr6
   rw [hM2,hds] at hle
   have HDS:Hid (degS l (j+1)=degS l j+(nb l (j:Int)).length):=hds
   clear hB7 hgr6 hH hgr hrow5 hcs5 hcl hdI' hl hR hds HST
   generalize (nb l (j:Int)).length=d at *
   generalize degS l j=q at *
   generalize offR l (2*l.length) j=o at *
   generalize 2*l.length=M2 at *
   have hd0:(d:Int)≤((M2-q:Nat):Int):=by omega
   go_wp2
   go_big_region_o
   go_wp2
   refine⟨⟨j+1,by omega,by go_num,?_,HB7.out,HG6.out⟩,by simp [intOf];omega⟩
   rw [HO.out,HDS.out,Nat.sub_sub]
   by_cases he:d=M2-q
   ·rw [if_pos he,if_pos he.symm]
   ·rw [if_neg he,if_neg (Ne.symm he)]
  ·obtain rfl:j=N:=by omega
   have hI0:PlsI j lb sb (2*l.length) (offR l (2*l.length)) (fun v=>(nb l (v:Int)).length) (fun v=>plOf (v:Int) (l.take 0)) wr:=by
    refine⟨?_,fun v _=>by simp [plOf,Qaj],cs,hgr.block sb (by omega) (by simp;omega) |>.trans hcs5,hcl,fun v j x _ hx=>by simp [plOf,Qaj] at hx⟩
    have:=hH
    rw [QjM] at this
    simpa [plOf,Qaj] using this
   have y1:=hgr.cell z1 (by simp;omega)
   have hbr:Below lb w5 wr:=⟨hgr.os,hgr.tape,hgr.output,hgr.size,fun k hk=>hgr.block k (by omega) (by simp;omega)⟩
   have hbwr:=hbw5.trans (hbr.mono (by omega))
   clear hH hgr hdI' hrow5 hcs5 hcl z0 z1
   have hsep:=fun u v a b hu hv ha hb he=>Qiz (l:=l) hM2 (u:=u) (v:=v) (j:=a) (k:=b) hu hv ha hb he
   have hin:=fun v a hv ha=>Qk8 (l:=l) hM2 (v:=v) (j:=a) hv ha
   have Hsep:Hid _:=hsep
   have Hin:Hid _:=hin
   clear hsep hin hM2
   generalize wr=wq at *
   generalize 2*l.length-degS l j=rs
   generalize offR l (2*l.length) j=oj
   go_wp2
   go_loopw [38] (fun i w6=>∃ (i':Nat),i'≤l.length∧i = .int .i64 i'∧PlsI j lb sb (2*l.length) (offR l (2*l.length)) (fun v=>(nb l (v:Int)).length) (fun v=>plOf (v:Int) (l.take i')) w6∧Below lb wq w6) (fun i _=>l.length-(intOf i).toNat)
   case atStart=>exact⟨0,YN,rfl,hI0,YD⟩
   case round=>
    obtain⟨i',hi',rfl,hI,hb⟩:=hrel
    have hbw6:=hbwr.trans (hb.mono (by omega))
    by_cases hlt:i'<l.length
    ·obtain⟨b,off,rfl,hbb,hcap,hc,-⟩:=hl.open hlt
     obtain⟨c0,c1,c2⟩:=hc _ hbw6 i' hlt
     have hok:=(hR.each l[i'] (YG hlt)).1
     unfold okE at hok
     obtain⟨u,hu⟩:∃ u:Nat,l[i'].1=(u:Int):=⟨l[i'].1.toNat,by omega⟩
     obtain⟨v,hv⟩:∃ v:Nat,l[i'].2.1=(v:Int):=⟨l[i'].2.1.toNat,by omega⟩
     have huN:u<j:=by omega
     have hvN:v<j:=by omega
     have hne:u≠v:=by omega
     have huN':(u:Int)<(j:Int):=by omega
     have hvN':(v:Int)<(j:Int):=by omega
     have hjl:(i':Int)<(l.length:Int):=by omega
     have HF:Hid ((fun x:Nat=>plOf (x:Int) (l.take (i'+1)))=updP (updP (fun x:Nat=>plOf (x:Int) (l.take i')) u (i':Int)) v (i':Int)):=by
      unfold Hid
      funext x
      rw [QgB hlt]
      unfold updP
      rw [hu,hv]
      by_cases hxv:x=v
      ·subst hxv
       have h1:¬ ((u:Int)=(x:Int)):=by omega
       have h2:¬ x=u:=by omega
       simp [h1,h2]
      ·by_cases hxu:x=u
       ·subst hxu
        simp [hxv]
       ·have h1:¬ ((u:Int)=(x:Int)):=by omega
        have h2:¬ ((v:Int)=(x:Int)):=by omega
        simp [hxv,hxu,h1,h2]
     have hpu:(plOf (u:Int) (l.take i')).length+1≤(nb l (u:Int)).length:=by
      have h1:=QgI l (u:Int) (i'+1)
      rw [Qb4 hlt,YI] at h1
      unfold nbOf at h1
      rw [hu,if_pos rfl] at h1
      rw [QfD]
      simpa using h1
     have hpv:(plOf (v:Int) (l.take i')).length+1≤(nb l (v:Int)).length:=by
      have h1:=QgI l (v:Int) (i'+1)
      rw [Qb4 hlt,YI] at h1
      unfold nbOf at h1
      rw [hu,hv,if_neg (by omega),if_pos rfl] at h1
      rw [QfD]
      simpa using h1
     rw [hu] at c0
     rw [hv] at c1
     have hul:=QaO (u:Int) l
     have hvl:=QaO (v:Int) l
     have hP1:=hI.push (by omega) Hsep.out Hin.out huN (i':Int) hpu
     have hlen2:(updP (fun x:Nat=>plOf (x:Int) (l.take i')) u (i':Int) v).length+1≤(nb l (v:Int)).length:=by
      unfold updP;rw [if_neg (Ne.symm hne)];exact hpv
     have o1:=hI.row.cell (QcH huN)
     have fo1:=hI.row.frozen u
     obtain⟨cq,hcq,hcql,-⟩:=hI.cur
     have hiu:=Hin.out u (plOf (u:Int) (l.take i')).length huN hpu
     obtain⟨z0,hz0⟩:∃ z,wr.cell? ⟨sb,offR l (2*l.length) u+(plOf (u:Int) (l.take i')).length,none⟩=some z:=⟨_,hcq.cell (YB (by rw [hcql];omega))⟩
     have fz0:=hcq.frozen (offR l (2*l.length) u+(plOf (u:Int) (l.take i')).length)
     have hlbl:=hI.row.lt
     have hsbl:=hcq.lt
     have HP1:Hid _:=hP1
     have HI:Hid _:=hI
     have HL2:Hid _:=hlen2
     have HC:Hid _:=hb
     have HW6:Hid _:=hbw6
     have HW0:Hid _:=hbwr
     have HLT:Hid (i'<l.length):=hlt
     have hbq:b≠lb∧b≠sb:=by omega
     obtain⟨hb1,hb2⟩:=hbq
     clear hc hok hu hv hI hP1 hcq hcql hlen2 hb hbw6 hI0 hbr hbwr hpv y1 hgd5 hR
     generalize (plOf (u:Int) (l.take i')).length=pu at *
     generalize (nb l (u:Int)).length=du at *
     generalize offR l (2*l.length) u=ou at *
     generalize l[i'].2.2=wv at c2
     go_wp2
     go_big_region_o
     have hgr2:Grew ((wr.setCell ⟨sb,ou+pu,none⟩ (.int .i64 (i':Int))).setCell ⟨lb,u,none⟩ (.slice (some ⟨sb,ou,none⟩) (pu+1) du)) (((((wr.setCell ⟨sb,ou+pu,none⟩ (.int .i64 (i':Int))).setCell ⟨lb,u,none⟩ (.slice (some ⟨sb,ou,none⟩) (pu+1) du)).alloc (.cells #[.int .i64 (u:Int),.int .i64 (v:Int),.int .i64 wv] 50)).alloc (.cells #[.int .i64 (i':Int)] 3)).drew):=(((Grew.refl _).alloc _).alloc _).drewN 1
     have hsz2:((wr.setCell ⟨sb,ou+pu,none⟩ (.int .i64 (i':Int))).setCell ⟨lb,u,none⟩ (.slice (some ⟨sb,ou,none⟩) (pu+1) du)).heap.size=wr.heap.size:=by simp
     have hI2:=HP1.out.go hgr2.below
     have hb2':Below lb wr ((wr.setCell ⟨sb,ou+pu,none⟩ (.int .i64 (i':Int))).setCell ⟨lb,u,none⟩ (.slice (some ⟨sb,ou,none⟩) (pu+1) du)):=(YD.setCell (p:=⟨sb,_,none⟩) (by simp only;omega) _).setCell (p:=⟨lb,u,none⟩) YA _
     have hb3:Below lb wq (((((wr.setCell ⟨sb,ou+pu,none⟩ (.int .i64 (i':Int))).setCell ⟨lb,u,none⟩ (.slice (some ⟨sb,ou,none⟩) (pu+1) du)).alloc (.cells #[.int .i64 (u:Int),.int .i64 (v:Int),.int .i64 wv] 50)).alloc (.cells #[.int .i64 (i':Int)] 3)).drew):=(HC.out.trans hb2').trans (hgr2.below.mono (by rw [hsz2];omega))
     have e0:(((((wr.setCell ⟨sb,ou+pu,none⟩ (.int .i64 (i':Int))).setCell ⟨lb,u,none⟩ (.slice (some ⟨sb,ou,none⟩) (pu+1) du)).alloc (.cells #[.int .i64 (u:Int),.int .i64 (v:Int),.int .i64 wv] 50)).alloc (.cells #[.int .i64 (i':Int)] 3)).drew).cell? ⟨wr.heap.size,0,none⟩=some (.int .i64 (u:Int)):=by go_simp
     have e1:(((((wr.setCell ⟨sb,ou+pu,none⟩ (.int .i64 (i':Int))).setCell ⟨lb,u,none⟩ (.slice (some ⟨sb,ou,none⟩) (pu+1) du)).alloc (.cells #[.int .i64 (u:Int),.int .i64 (v:Int),.int .i64 wv] 50)).alloc (.cells #[.int .i64 (i':Int)] 3)).drew).cell? ⟨wr.heap.size,1,none⟩=some (.int .i64 (v:Int)):=by go_simp
     have hs6:wr.heap.size<(((((wr.setCell ⟨sb,ou+pu,none⟩ (.int .i64 (i':Int))).setCell ⟨lb,u,none⟩ (.slice (some ⟨sb,ou,none⟩) (pu+1) du)).alloc (.cells #[.int .i64 (u:Int),.int .i64 (v:Int),.int .i64 wv] 50)).alloc (.cells #[.int .i64 (i':Int)] 3)).drew).heap.size:=by simp;omega
     generalize (((((wr.setCell ⟨sb,ou+pu,none⟩ (.int .i64 (i':Int))).setCell ⟨lb,u,none⟩ (.slice (some ⟨sb,ou,none⟩) (pu+1) du)).alloc (.cells #[.int .i64 (u:Int),.int .i64 (v:Int),.int .i64 wv] 50)).alloc (.cells #[.int .i64 (i':Int)] 3)).drew)=w7 at hI2 hb3 e0 e1 hs6 ⊢
     clear HP1 hgr2 hsz2 hb2' o1 fo1 hz0 fz0 c0 c1 c2 HI
     have hP2:=hI2.push (by omega) Hsep.out Hin.out hvN (i':Int) HL2.out
     rw [← HF.out] at hP2
     have o2:=hI2.row.cell (QcH hvN)
     have fo2:=hI2.row.frozen v
     obtain⟨cq2,hcq,hcql,-⟩:=hI2.cur
     have hiv:=Hin.out v (updP (fun x:Nat=>plOf (x:Int) (l.take i')) u (i':Int) v).length hvN HL2.out
     obtain⟨z2,hz2⟩:∃ z,w7.cell? ⟨sb,offR l (2*l.length) v+(updP (fun x:Nat=>plOf (x:Int) (l.take i')) u (i':Int) v).length,none⟩=some z:=⟨_,hcq.cell (YB (by rw [hcql];omega))⟩
     have fz2:=hcq.frozen (offR l (2*l.length) v+(updP (fun x:Nat=>plOf (x:Int) (l.take i')) u (i':Int) v).length)
     have hl7:=hI2.row.lt
     have hs7:=hcq.lt
     have HP2:Hid _:=hP2
     have hlen2:=HL2.out
     clear hP2 hI2 hcq hcql hiv HL2
     generalize (updP (fun x:Nat=>plOf (x:Int) (l.take i')) u (i':Int) v).length=pv at *
     generalize (nb l (v:Int)).length=dv at *
     generalize offR l (2*l.length) v=ov at *
     have hgr3:Grew ((w7.setCell ⟨sb,ov+pv,none⟩ (.int .i64 (i':Int))).setCell ⟨lb,v,none⟩ (.slice (some ⟨sb,ov,none⟩) (pv+1) dv)) ((((w7.setCell ⟨sb,ov+pv,none⟩ (.int .i64 (i':Int))).setCell ⟨lb,v,none⟩ (.slice (some ⟨sb,ov,none⟩) (pv+1) dv)).alloc (.cells #[.int .i64 (i':Int)] 3)).drew):=((Grew.refl _).alloc _).drewN 1
     have hsz3:((w7.setCell ⟨sb,ov+pv,none⟩ (.int .i64 (i':Int))).setCell ⟨lb,v,none⟩ (.slice (some ⟨sb,ov,none⟩) (pv+1) dv)).heap.size=w7.heap.size:=by simp
     have HI3:Hid _:=HP2.out.go hgr3.below
     have hb4:Below lb w7 ((w7.setCell ⟨sb,ov+pv,none⟩ (.int .i64 (i':Int))).setCell ⟨lb,v,none⟩ (.slice (some ⟨sb,ov,none⟩) (pv+1) dv)):=(YD.setCell (p:=⟨sb,_,none⟩) (by simp only;omega) _).setCell (p:=⟨lb,v,none⟩) YA _
     have HB5:Hid (Below lb wq ((((w7.setCell ⟨sb,ov+pv,none⟩ (.int .i64 (i':Int))).setCell ⟨lb,v,none⟩ (.slice (some ⟨sb,ov,none⟩) (pv+1) dv)).alloc (.cells #[.int .i64 (i':Int)] 3)).drew)):=(hb3.trans hb4).trans (hgr3.below.mono (by rw [hsz3];omega))
     have hse:sb≠wr.heap.size:=by omega
     have hle:lb≠wr.heap.size:=by omega
     have hls:lb≠sb:=by omega
     clear hgr3 hsz3 hb4 hb3 HP2 HF hl hbb hcap hb1 hb2 hlbl hsbl hs3 hs4 hs5 hgd hlb hbw5 HC HW6 HW0 Hsep Hin hpu hul hiu hi' hlt hjl huN huN'
     generalize wr.heap.size=eb at *
     go_wp2
     refine Qai (S:=(fun w':World=>w'.cell? ⟨eb,0,none⟩=some (.int .i64 (u:Int))∧w'.cell? ⟨eb,1,none⟩=some (.int .i64 (v:Int))∧w'.cell? ⟨lb,v,none⟩=some (.slice (some ⟨sb,ov,none⟩) pv dv))) (by kernel_rfl) ?_ (fun hHeld=>?_)
     ·(try dsimp only);go_keep
     refine tL 0 ?_
     try simp only [YS]
     refine tL 1 ?_
     refine tL 2 ?_
     refine tL 3 ?_
     refine tL 4 ?_
     refine tL 5 ?_
     refine tL 6 ?_
     refine tL 7 ?_
     refine tL 8 ?_
     refine Qac (rs:=[9]) (by kernel_rfl) (by simp) ?_
     refine AllReadyL.cons rfl (fun K hK=>?_) AllReadyL.nil
     go_simp
     refine hK.out _ _ ?_ (fun hHeld=>?_)
     ·(try dsimp only);first | (go_keep;done) | ((repeat' apply And.intro) <;> go_simp)
     clear hK K
     try simp only [Act.put,YS,YT,YU]
     refine Qac (rs:=[10]) (by kernel_rfl) (by simp) ?_
     refine AllReadyL.cons rfl (fun K hK=>?_) AllReadyL.nil
     go_simp
     refine hK.out _ _ ?_ (fun hHeld=>?_)
     ·(try dsimp only);first | (go_keep;done) | ((repeat' apply And.intro) <;> go_simp)
     clear hK K
     try simp only [Act.put,YS,YT,YU]
     refine tL 11 ?_
     try simp only [YS]
     refine Qac (rs:=[12]) (by kernel_rfl) (by simp) ?_
     refine AllReadyL.last rfl (by kernel_rfl) (fun K hK=>?_)
     go_simp
     refine hK.out _ _ ?_
     clear hK K
     try simp only [Act.put,YS,YT,YU]
     refine Qak (by kernel_rfl) ?_ _
     have hlt2:=HLT.out
     go_wp2
     exact⟨⟨i'+1,HLT.out,by go_num,HI3.out,HB5.out⟩,by have:=HLT.out;simp [intOf];omega⟩
    ·obtain rfl:i'=l.length:=by omega
     rw [List.take_length] at hI
     go_wp2
     go_ret
     exact⟨lb,sb,rfl,by omega,by omega,by omega,hI,hbw6⟩
def unm (MT:List Bool):Nat:=MT.count false
theorem Qhf:∀ {MT:List Bool} {u:Nat},MT[u]? = some false→unm (MT.set u true)+1=unm MT
 | [],u,h=>by simp at h
 | b :: MT,0,h=>by
  have:b=false:=by simpa using h
  subst this
  simp [unm]
 | b :: MT,u+1,h=>by
  have ih:=Qhf (MT:=MT) (u:=u) (by simpa using h)
  unfold unm at ih ⊢
  rw [List.set_cons_succ,List.count_cons,List.count_cons]
  omega
theorem Qpp (MT:List Bool):unm MT≤MT.length:=List.count_le_length
theorem PlsI.hi {N lb sb M2 z:Nat}{off deg:Nat→Nat}{pre:Nat→List Int}{A B:World}(h:PlsI N lb sb M2 off deg pre A)(h1:lb<z)(h2:sb<z)(hb:Below z A B):PlsI N lb sb M2 off deg pre B:=by
 obtain⟨cs,a,b,c⟩:=h.cur
 exact⟨(hb.block lb h1).trans h.row,h.le,cs,(hb.block sb h2).trans a,b,c⟩
theorem PlsI.far {N lb sb M2:Nat}{off deg:Nat→Nat}{pre:Nat→List Int}{A:World}(h:PlsI N lb sb M2 off deg pre A){p:Addr}(h1:lb≠p.block)(h2:sb≠p.block)(v:Value):PlsI N lb sb M2 off deg pre (A.setCell p v):=by
 obtain⟨cs,a,b,c⟩:=h.cur
 exact⟨h.row.other h1 v,h.le,cs,a.other h2 v,b,c⟩
structure SpS (N x lb sb M2 sx mx z:Nat)(off deg:Nat→Nat)(pre:Nat→List Int)(gr:List Value)(w0:World)(SD MT:List Bool)(W:World):Prop where
 gr:Blk 24 W x gr
 pl:PlsI N lb sb M2 off deg pre W
 sd:Blk 4 W sx (SD.map Value.bool)
 mt:Blk 4 W mx (MT.map Value.bool)
 sl:SD.length=N
 ml:MT.length=N
 bel:Below x w0 W
 o:x<lb∧x<sb∧lb<sx∧sb<sx∧sx<mx∧mx<z
variable {N x lb sb M2 sx mx z:Nat} {off deg:Nat→Nat} {pre:Nat→List Int} {gr:List Value} {w0:World} {SD MT:List Bool} {W W':World}
theorem SpS.hi (h:SpS N x lb sb M2 sx mx z off deg pre gr w0 SD MT W)(hb:Below z W W'):SpS N x lb sb M2 sx mx z off deg pre gr w0 SD MT W':=by
 have ho:=h.o
 exact⟨(hb.block x (by omega)).trans h.gr,h.pl.hi (by omega) (by omega) hb,(hb.block sx (by omega)).trans h.sd,(hb.block mx (by omega)).trans h.mt,h.sl,h.ml,h.bel.trans (hb.mono (by omega)),ho⟩
theorem SpS.setM (h:SpS N x lb sb M2 sx mx z off deg pre gr w0 SD MT W)(v:Nat)(b:Bool):SpS N x lb sb M2 sx mx z off deg pre gr w0 SD (MT.set v b) (W.setCell ⟨mx,v,none⟩ (.bool b)):=by
 have ho:=h.o
 refine⟨h.gr.other (p:=⟨mx,v,none⟩) (by show x≠mx;omega) _,h.pl.far (p:=⟨mx,v,none⟩) (by show lb≠mx;omega) (by show sb≠mx;omega) _,h.sd.other (p:=⟨mx,v,none⟩) (by show sx≠mx;omega) _,?_,h.sl,by rw [List.length_set];exact h.ml,h.bel.setCell (p:=⟨mx,v,none⟩) (by show x≤mx;omega) _,ho⟩
 rw [List.map_set]
 exact h.mt.set v _
theorem SpS.setS (h:SpS N x lb sb M2 sx mx z off deg pre gr w0 SD MT W)(v:Nat)(b:Bool):SpS N x lb sb M2 sx mx z off deg pre gr w0 (SD.set v b) MT (W.setCell ⟨sx,v,none⟩ (.bool b)):=by
 have ho:=h.o
 refine⟨h.gr.other (p:=⟨sx,v,none⟩) (by show x≠sx;omega) _,h.pl.far (p:=⟨sx,v,none⟩) (by show lb≠sx;omega) (by show sb≠sx;omega) _,?_,h.mt.other (p:=⟨sx,v,none⟩) (by show mx≠sx;omega) _,by rw [List.length_set];exact h.sl,h.ml,h.bel.setCell (p:=⟨sx,v,none⟩) (by show x≤sx;omega) _,ho⟩
 rw [List.map_set]
 exact h.sd.set v _
theorem QiZ {T:List Bool}{v:Nat}{b:Bool}(h:v≠0):bAt (T.set v b) 0=bAt T 0:=by
 unfold bAt
 rw [YC,YC,List.getElem?_set_ne h]
theorem Qf2 {T:List Bool}{v:Nat}(h:bAt T 0=true):bAt (T.set v true) 0=true:=by
 unfold bAt at *
 rw [YC,List.getElem?_set] at *
 by_cases e:v=0
 ·subst e
  cases T with
  | nil=>simp at h
  | cons a T=>simp
 ·rw [if_neg e];exact h
theorem QmR {A:World}{t:TypeId}{v:Value}{h:Nat}(hz:h≤A.heap.size):(A.alloc (.cells #[v] t)).ownsRow h t 1 (.slice (some ⟨A.heap.size,0,none⟩) 1 1) 1 [v]:=
 ⟨rfl,.inr ⟨A.heap.size,1,#[v],rfl,hz,heap_alloc_new A _,YA,by unfold maxLen;omega,rfl,rfl⟩⟩
theorem QmE {A:World}{base:Nat}{e:TypeId}{v:Value}{l:List Nat}(h:A.ownsRow base e 1 v l.length (natsV l))(h0:0<l.length):∃ g cap,v = .slice (some ⟨g,0,none⟩) l.length cap∧base≤g∧l.length≤cap∧g<A.heap.size∧∀ (j y:Nat),l[j]? = some y→A.cell? ⟨g,j,none⟩=some (.int .i64 (y:Int)):=by
 obtain⟨g,cap,rfl⟩:=QcQ h h0
 have hcap:l.length≤cap:=by
  rcases h.2 with ⟨h1,_⟩ | ⟨g',c',cur,h1,_,_,h2,_⟩
  ·simp at h1
  ·simp only [Value.slice.injEq] at h1
   obtain⟨_,_,rfl⟩:=h1
   exact h2
 refine⟨g,cap,rfl,(h.lt g rfl).1,hcap,(h.lt g rfl).2,fun j y hy=>?_⟩
 have hj:=(YE hy).1
 rw [h.cellAt j (by omega)]
 unfold natsV
 rw [YH,hy]
 rfl
theorem QaY {A B:World}{base:Nat}{e:TypeId}{size:Nat}{v:Value}{n:Nat}{xs:List Value}(h:A.ownsRow base e size v n xs)(hb:Below A.heap.size A B):B.ownsRow base e size v n xs:=by
 refine h.kept (row:=none) (⟨hb.os,hb.tape,hb.output,hb.size,fun k hk _=>hb.block k hk⟩:A.grownBy B none) ?_
 cases v.ownBlock with
 | none=>exact .inl rfl
 | some k=>exact .inr (by simp)
theorem QcS (A:World)(v:Value)(t:TypeId):∀ (q:Nat) (u:Value),[v][q]? = some u→(A.alloc (.cells #[v] t)).cell? ((⟨A.heap.size,0,none⟩:Addr).add q)=some u:=by
 intro q u hu
 cases q with
 | zero=>simp at hu;subst hu;simp [Addr.add]
 | succ q=>simp at hu
end Go.Proofs.YtalflecmadacaaaGreat
