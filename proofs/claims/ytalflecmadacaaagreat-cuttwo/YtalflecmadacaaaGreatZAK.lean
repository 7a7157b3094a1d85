import Derived.Deep.RegionHeld3
import Derived.Test.YtalflecmadacaaaGreatZAB
import Derived.Test.YtalflecmadacaaaGreatZAD
import Derived.Deep.AppendLies
import Derived.Test.YtalflecmadacaaaGreatZAJ
import Derived.Test.YtalflecmadacaaaGreatZAA
set_option maxRecDepth 100000
set_option maxHeartbeats 8000000
namespace Go.Proofs.YtalflecmadacaaaGreat
open Go Go.Proofs Go.RowKit
theorem infoS:(Tryz.prog.info? 27).map (fun i=>(i.zero,i.size,i.bytes))=some (some (.slice none 0 0),1,24):=by kernel_rfl
theorem Qd9 (n:Nat):(madeCells (Value.slice none 0 0).cells (n*1)).toList=List.replicate n (.slice none 0 0):=by
 apply List.ext_getElem
 ·simp [madeCells]
 ·intro i h1 h2
  simp [madeCells,Value.cells,Nat.mod_one]
def rowsV (N:Nat)(bs:List Nat)(pre:Nat→List Int)(deg:Nat→Nat):List Value:=(List.range N).map fun v=>.slice (some ⟨bs.getD v 0,0,none⟩) (pre v).length (deg v)
theorem QbK {N:Nat}{bs:List Nat}{pre:Nat→List Int}{deg:Nat→Nat}{v:Nat}(h:v<N):(rowsV N bs pre deg)[v]? = some (.slice (some ⟨bs.getD v 0,0,none⟩) (pre v).length (deg v)):=by simp [rowsV,h]
theorem QcG (N:Nat)(bs:List Nat)(pre:Nat→List Int)(deg:Nat→Nat):(rowsV N bs pre deg).length=N:=by simp [rowsV]
def upd (pre:Nat→List Int)(v:Nat)(y:Int):Nat→List Int:=fun i=>if i=v then pre v++[y] else pre i
structure NearI (N g h0:Nat)(bs:List Nat)(deg:Nat→Nat)(pre:Nat→List Int)(W:World):Prop where
 len:bs.length=N
 inj:∀ u v,u<N→v<N→bs.getD u 0=bs.getD v 0→u=v
 low:∀ v,v<N→h0≤bs.getD v 0
 out:g<h0
 row:Blk 27 W g (rowsV N bs pre deg)
 own:∀ v,v<N→W.ownsRow h0 3 1 (.slice (some ⟨bs.getD v 0,0,none⟩) (pre v).length (deg v)) (pre v).length ((pre v).map (Value.int .i64))
theorem NearI.go {N g h0:Nat}{bs:List Nat}{deg:Nat→Nat}{pre:Nat→List Int}{A B:World}(h:NearI N g h0 bs deg pre A)(hb:Below A.heap.size A B):NearI N g h0 bs deg pre B:=
 ⟨h.len,h.inj,h.low,h.out,h.row.go hb,fun v hv=>Qaz (h.own v hv) hb⟩
theorem Qbh {w:World}{base:Nat}{e:TypeId}{b n c:Nat}{xs:List Int}(h:w.ownsRow base e 1 (.slice (some ⟨b,0,none⟩) n c) n (xs.map (Value.int .i64))):∃ rest,Blk e w b (xs.map (Value.int .i64)++rest)∧xs.length=n∧n+rest.length=c∧c≤maxLen∧base≤b:=by
 obtain⟨h1,h2⟩:=h
 rcases h2 with ⟨h2,_⟩ | ⟨g,cap,cur,hv,hb,hg,hn,hc,hsz,ht⟩
 ·cases h2
 ·simp only [Value.slice.injEq,Option.some.injEq,Addr.mk.injEq] at hv
  obtain⟨⟨rfl,_,_⟩,_,rfl⟩:=hv
  have h1':xs.length=n:=by simpa using h1
  refine⟨cur.toList.drop (n*1),?_,h1',?_,hc,hb⟩
  ·unfold Blk
   rw [hg,← ht,List.take_append_drop]
  ·simp at hsz ⊢;omega
theorem QgO {w:World}{base:Nat}{e:TypeId}{b n c:Nat}{xs:List Int}{rest:List Value}(hB:Blk e w b (xs.map (Value.int .i64)++rest))(hn:xs.length=n)(hc:n+rest.length=c)(hm:c≤maxLen)(hb:base≤b):w.ownsRow base e 1 (.slice (some ⟨b,0,none⟩) n c) n (xs.map (Value.int .i64)):=by
 refine⟨by simp [hn],.inr ⟨b,c,_,rfl,hb,hB,by omega,hm,by simp;omega,?_⟩⟩
 simp [hn]
theorem NearI.push {N g h0:Nat}{bs:List Nat}{deg:Nat→Nat}{pre:Nat→List Int}{W:World}(h:NearI N g h0 bs deg pre W){v:Nat}(hv:v<N)(y:Int)(hd:(pre v).length<deg v):
  NearI N g h0 bs deg (upd pre v y) ((W.setCell ⟨bs.getD v 0,(pre v).length,none⟩ (.int .i64 y)).setCell ⟨g,v,none⟩ (.slice (some ⟨bs.getD v 0,0,none⟩) ((pre v).length+1) (deg v))):=by
 have hgo:=h.out
 refine⟨h.len,h.inj,h.low,h.out,?_,?_⟩
 ·have h1:=(h.row.other (p:=⟨bs.getD v 0,(pre v).length,none⟩) (by have:=h.low v hv;simp only;omega) (.int .i64 y)).set v (.slice (some ⟨bs.getD v 0,0,none⟩) ((pre v).length+1) (deg v))
  have h2:(rowsV N bs pre deg).set v (.slice (some ⟨bs.getD v 0,0,none⟩) ((pre v).length+1) (deg v))=rowsV N bs (upd pre v y) deg:=by
   apply List.ext_getElem?
   intro i
   rw [List.getElem?_set,QcG]
   by_cases hi:i<N
   ·rw [QbK hi,QbK hi]
    by_cases he:v=i
    ·subst he;rw [if_pos rfl,if_pos hv];simp [upd]
    ·rw [if_neg he];simp [upd,Ne.symm he]
   ·rw [YL (by rw [QcG];omega),YL (by rw [QcG];omega)]
    split
    ·rename_i e;omega
    ·rfl
  rwa [h2] at h1
 ·intro u hu
  obtain⟨rest,hB,hn,hc,hm,hb⟩:=Qbh (h.own u hu)
  by_cases he:u=v
  ·subst he
   match rest,hc with
   | [],hc=>simp at hc;omega
   | z :: rest,hc=>
    have h1:=(hB.set (pre u).length (.int .i64 y)).other (p:=⟨g,u,none⟩) (by simp only;omega) (.slice (some ⟨bs.getD u 0,0,none⟩) ((pre u).length+1) (deg u))
    have h2:((pre u).map (Value.int .i64)++z :: rest).set (pre u).length (.int .i64 y)=(upd pre u y u).map (Value.int .i64)++rest:=by
     rw [List.set_append_right _ _ (by simp)]
     simp [upd]
    rw [h2] at h1
    exact QgO h1 rfl (by simp [upd] at hc ⊢;omega) hm hb
  ·have hne:bs.getD u 0≠bs.getD v 0:=fun e=>he (h.inj u v hu hv e)
   have h1:=(hB.other (p:=⟨bs.getD v 0,(pre v).length,none⟩) hne (.int .i64 y)).other (p:=⟨g,v,none⟩) (by simp only;omega) (.slice (some ⟨bs.getD v 0,0,none⟩) ((pre v).length+1) (deg v))
   have hup:upd pre v y u=pre u:=by simp [upd,he]
   rw [hup]
   exact QgO h1 hn hc hm hb
def nearL (N:Nat)(l:List Ed):List (List Int):=(List.range N).map fun (v:Nat)=>nb l (v:Int)
theorem QcW {N:Nat}{l:List Ed}{v:Nat}(h:v<N):(nearL N l)[v]? = some (nb l (v:Int)):=by simp [nearL,h]
theorem QaA (N:Nat)(l:List Ed):(nearL N l).length=N:=by simp [nearL]
theorem NearI.lsts {N g h0:Nat}{bs:List Nat}{deg:Nat→Nat}{l:List Ed}{W:World}(h:NearI N g h0 bs deg (fun v=>nb l (v:Int)) W):Lsts W.heap.size W (.slice (some ⟨g,0,none⟩) N N) (nearL N l):=by
 refine .inr ⟨g,0,N,by rw [QaA],h.row.lt,by rw [QaA];exact YA,fun j x hx=>?_⟩
 have hj:j<N:=by have:=(YE hx).1;rwa [QaA] at this
 rw [QcW hj] at hx
 cases hx
 refine⟨_,by rw [Nat.zero_add];exact h.row.cell (QbK hj),?_⟩
 obtain⟨rest,hB,hn,hc,hm,hb⟩:=Qbh (h.own j hj)
 exact .inr ⟨bs.getD j 0,0,deg j,rfl,hB.lt,by omega,fun i y hy=>by
  rw [Nat.zero_add]
  refine hB.cell ?_
  have hi:=(YE hy).1
  rw [List.getElem?_append_left (by simpa using hi),YH,hy];rfl⟩
theorem Qfo {A B:World}(hb:Below A.heap.size A B){a:Addr}{v:Value}(h:A.cell? a=some v):B.cell? a=some v:=(hb.cell (World.block_lt_of_cell? A a h)).trans h
def halfV (N:Nat)(bs:List Nat)(deg:Nat→Nat)(j:Nat):List Value:=(List.range N).map fun v=>if v<j then .slice (some ⟨bs.getD v 0,0,none⟩) 0 (deg v) else .slice none 0 0
theorem QdS {N:Nat}{bs:List Nat}{deg:Nat→Nat}{j v:Nat}(h:v<N):(halfV N bs deg j)[v]? = some (if v<j then .slice (some ⟨bs.getD v 0,0,none⟩) 0 (deg v) else .slice none 0 0):=by simp [halfV,h]
theorem Qc2 (N:Nat)(bs:List Nat)(deg:Nat→Nat)(j:Nat):(halfV N bs deg j).length=N:=by simp [halfV]
theorem QjH (N:Nat)(deg:Nat→Nat):halfV N [] deg 0=List.replicate N (.slice none 0 0):=by
 apply List.ext_getElem <;> simp [halfV]
theorem QjI {N:Nat}{bs:List Nat}{deg:Nat→Nat}{j b:Nat}(hj:j<N)(hl:bs.length=j):(halfV N bs deg j).set j (.slice (some ⟨b,0,none⟩) 0 (deg j))=halfV N (bs++[b]) deg (j+1):=by
 apply List.ext_getElem?
 intro i
 rw [List.getElem?_set,Qc2]
 by_cases hi:i<N
 ·rw [QdS hi,QdS hi]
  by_cases he:j=i
  ·subst he
   rw [if_pos rfl,if_pos hj,if_pos (by omega)]
   simp [← hl]
  ·rw [if_neg he]
   by_cases h2:i<j
   ·rw [if_pos h2,if_pos (by omega)]
    have:(bs++[b]).getD i 0=bs.getD i 0:=by simp [List.getElem?_append_left (show i<bs.length by omega)]
    rw [this]
   ·rw [if_neg h2,if_neg (by omega)]
 ·rw [YL (by rw [Qc2];omega),YL (by rw [Qc2];omega)]
  split
  ·rename_i e;omega
  ·rfl
theorem QjJ (N:Nat)(bs:List Nat)(deg:Nat→Nat):halfV N bs deg N=rowsV N bs (fun _=>[]) deg:=by
 apply List.ext_getElem?
 intro i
 by_cases hi:i<N
 ·rw [QdS hi,QbK hi,if_pos hi];rfl
 ·rw [YL (by rw [Qc2];omega),YL (by rw [QcG];omega)]
structure HalfI (N g h0:Nat)(bs:List Nat)(deg:Nat→Nat)(j:Nat)(W:World):Prop where
 len:bs.length=j
 lt:∀ v,v<j→bs.getD v 0<W.heap.size
 inj:∀ u v,u<j→v<j→bs.getD u 0=bs.getD v 0→u=v
 low:∀ v,v<j→h0≤bs.getD v 0
 row:Blk 27 W g (halfV N bs deg j)
 own:∀ v,v<j→W.ownsRow h0 3 1 (.slice (some ⟨bs.getD v 0,0,none⟩) 0 (deg v)) 0 []
theorem Qbl {bs:List Nat}{b v:Nat}(h:v<bs.length):(bs++[b]).getD v 0=bs.getD v 0:=by simp [List.getElem?_append_left h]
theorem Qb7 {bs:List Nat}{b:Nat}:(bs++[b]).getD bs.length 0=b:=by simp
theorem HalfI.step {N g h0:Nat}{bs:List Nat}{deg:Nat→Nat}{j:Nat}{W w6:World}(h:HalfI N g h0 bs deg j W)(hj:j<N)(hgl:g<h0)(hh0:h0≤W.heap.size)(hg:W.grownBy w6 none)
  (hown:w6.ownsRow h0 3 1 (.slice (some ⟨W.heap.size,0,none⟩) 0 (deg j)) 0 []):HalfI N g h0 (bs++[W.heap.size]) deg (j+1) (w6.setCell ⟨g,j,none⟩ (.slice (some ⟨W.heap.size,0,none⟩) 0 (deg j))):=by
 have hlt6:W.heap.size<w6.heap.size:=(hown.lt W.heap.size rfl).2
 have hsz:(w6.setCell ⟨g,j,none⟩ (.slice (some ⟨W.heap.size,0,none⟩) 0 (deg j))).heap.size=w6.heap.size:=by simp
 have hgs:=hg.size
 have hl:=h.len
 refine⟨by simp [hl],fun v hv=>?_,fun u v hu hv he=>?_,fun v hv=>?_,?_,fun v hv=>?_⟩
 ·rw [hsz]
  by_cases e:v=j
  ·subst e;rw [← hl,Qb7];exact hlt6
  ·rw [Qbl (by omega)];have:=h.lt v (by omega);omega
 ·by_cases e:u=j
  ·by_cases e2:v=j
   ·omega
   ·subst e
    rw [← hl,Qb7,Qbl (by omega)] at he
    have:=h.lt v (by omega);omega
  ·by_cases e2:v=j
   ·subst e2
    rw [← hl,Qb7,Qbl (by omega)] at he
    have:=h.lt u (by omega);omega
   ·rw [Qbl (by omega),Qbl (by omega)] at he
    exact h.inj u v (by omega) (by omega) he
 ·by_cases e:v=j
  ·subst e;rw [← hl,Qb7];exact hh0
  ·rw [Qbl (by omega)];exact h.low v (by omega)
 ·have h1:=(h.row.grown hg (by simp)).set j (.slice (some ⟨W.heap.size,0,none⟩) 0 (deg j))
  rwa [QjI hj hl] at h1
 ·refine QfF ?_ hgl _
  by_cases e:v=j
  ·subst e;rw [← hl,Qb7,hl];exact hown
  ·rw [Qbl (by omega)]
   exact (h.own v (by omega)).kept (row:=none) hg (.inr (by simp [Value.ownBlock]))
theorem HalfI.full {N g h0:Nat}{bs:List Nat}{deg:Nat→Nat}{W:World}(h:HalfI N g h0 bs deg N W)(hgl:g<h0):NearI N g h0 bs deg (fun _=>[]) W:=
 ⟨h.len,h.inj,h.low,hgl,by rw [← QjJ];exact h.row,fun v hv=>h.own v hv⟩
theorem Qlm (N:Nat)(l:List Ed)(hR:RightG (N:Int) l)(sv:Value)(w:World)(hl:Edges w.heap.size w sv l):
  Calls Tryz.prog 120 #[.agg #[.int .i64 (N:Int),sv]] w fun r w'=>∃ g h0 bs deg,r = .returned (.slice (some ⟨g,0,none⟩) N N)∧NearI N g h0 bs deg (fun v=>nb l (v:Int)) w'∧w.heap.size≤g∧Below w.heap.size w w':=by
 have hmix:=mixed
 have hg1:Grew w (w.alloc (.cells #[.int .i64 (N:Int),sv] 24)):=(Grew.refl w).alloc _
 have hl1:=hl.go hg1.below
 obtain⟨p,c,rfl⟩:=hl.len
 obtain⟨i0,hi,hz0,hz1,hz2⟩:=info_parts infoS
 obtain⟨k0,hki,hkz0,hkz1,hkz2⟩:=info_parts infoI
 have hrc:=fun W h=>Qbg (N:Int) l (.slice p l.length c) W h
 rw [right_iff.2 hR] at hrc
 have hn1:=hR.n1
 have hm1:=hR.m1
 go_enter Tryz.func120,Tryz.ntmps120
 go_wp2_with fail
 refine (hrc _ hl1).mono ?_
 rintro e w2 ⟨rfl,hg2⟩
 have q0:=(box2 _ hg2).1
 have q1:=(box2 _ hg2).2
 have hbox:=QeP hg2
 have hbw:=(hg1.trans hg2).below
 clear hrc hl1
 go_wp2_with (at_make;refine wpList_make_full _ rfl _ _ 35 rfl w2.heap.size 27 i0 (.slice none 0 0) 1 Tryz.underlying35 hi hz0 hz1 .i64 .i64 _ _ N rfl rfl rfl rfl (by rw [hz2];omega) (by unfold maxLen;omega) YA ?_;intro w3 hown hgrow;have hb3:Below w2.heap.size w2 w3:=YD.grown hgrow YA (fun k e=>by cases e);have x0:=(hb3.cell (p:=⟨w.heap.size,0,none⟩) hbox).trans q0;have x1:=(hb3.cell (p:=⟨w.heap.size,1,none⟩) hbox).trans q1)
 have hrow:=Blk.made hown
 rw [Qd9] at hrow
 have hbw3:=hbw.trans (hb3.mono hbw.size)
 have hgl3:=hrow.lt
 clear hown hgrow hi hz0 hz1 hz2 hb3 q0 q1 hg2 hg1 hbw
 generalize w2.heap.size=g at hrow hbox hgl3
 go_wp2_with fail
 refine (Qcs N l hR _ _ (hl.go hbw3)).mono ?_
 rintro e w4 ⟨dv,rfl,hdI,⟨gd,rfl,hgd⟩,hb4⟩
 have hrow4:=hrow.go hb4
 have y0:=Qfo hb4 x0
 have y1:=Qfo hb4 x1
 have hbw4:=hbw3.trans (hb4.mono hbw3.size)
 have hgl4:=hrow4.lt
 have hdI':∀ v,v<N→w4.cell? ⟨gd,v,none⟩=some (.int .i64 ((nb l (v:Int)).length:Int)):=fun v hv=>by
  rcases hdI with ⟨_,h0⟩ | ⟨b,off,cap,h1,h2,h3,h4⟩
  ·have:=congrArg List.length h0;rw [QbS] at this;simp at this;omega
  ·simp only [Value.slice.injEq,Option.some.injEq,Addr.mk.injEq] at h1
   obtain⟨⟨rfl,rfl,_⟩,_,_⟩:=h1
   have:=h4 v _ (Qcu (l:=l) (j:=l.length) hv)
   rwa [Nat.zero_add,List.take_length] at this
 have hgd4:N=0∨gd<w4.heap.size:=by
  by_cases h:N=0
  ·exact .inl h
  ·exact .inr (World.block_lt_of_cell? w4 ⟨gd,0,none⟩ (hdI' 0 (by omega)))
 clear hdI hrow hb4 x0 x1 hbw3
 go_wp2
 go_loopw [17] (fun i wr=>∃ (j:Nat) (bs:List Nat),j≤N∧i = .int .i64 j∧HalfI N g w4.heap.size bs (fun v=>(nb l (v:Int)).length) j wr∧w4.grownBy wr (some g)) (fun i _=>N-(intOf i).toNat)
 case atStart=>exact⟨0,[],YN,rfl,⟨rfl,fun v h=>by omega,fun u v h=>by omega,fun v h=>by omega,by rw [QjH];exact hrow4,fun v h=>by omega⟩,⟨rfl,rfl,rfl,YA,fun _ _ _=>rfl⟩⟩
 case round=>
  obtain⟨j,bs,hj,rfl,hH,hgr⟩:=hrel
  by_cases hlt:j<N
  ·have hgdl:gd<w4.heap.size:=by omega
   have c0:=(hgr.cell_far ⟨gd,j,none⟩ hgdl (by simp;omega)).trans (hdI' j hlt)
   have hjl:(j:Int)<(N:Int):=by omega
   have hdl:=QaO (j:Int) l
   have hgs:=hgr.size
   go_wp2_with (at_make;refine wpList_make_own _ rfl _ _ 27 rfl w4.heap.size 3 k0 (.int .i64 0) 1 Tryz.underlying27 hki hkz0 hkz1 .i64 .i64 _ (nb l (j:Int)).length rfl rfl rfl (by rw [hkz2];omega) (by unfold maxLen;omega) hgs ?_;intro w6 hown6 hgrow6;have hR6:=hH.row.grown hgrow6 (by simp);have o1:=hR6.cell (QdS hlt);have f1:=hR6.frozen j;rw [if_neg (Nat.lt_irrefl j)] at o1)
   have hgr6:w4.grownBy (w6.setCell ⟨g,j,none⟩ (.slice (some ⟨wr.heap.size,0,none⟩) 0 (nb l (j:Int)).length)) (some g):=by
    refine⟨hgrow6.os.trans hgr.os,hgrow6.tape.trans hgr.tape,hgrow6.output.trans hgr.output,by have:=hgrow6.size;simp;omega,fun k hk hne=>?_⟩
    have hkg:k≠g:=fun e=>hne (by rw [e])
    exact ((Below.heap_setCell _ _ _ _ hkg).trans (hgrow6.block k (by omega) (by simp))).trans (hgr.block k hk hne)
   exact⟨⟨j+1,_,by omega,by go_num,hH.step hlt hgl4 hgs hgrow6 hown6,hgr6⟩,by simp [intOf];omega⟩
  ·obtain rfl:j=N:=by omega
   have hN:=hH.full hgl4
   have z1:=(hgr.cell_far ⟨w.heap.size,1,none⟩ (by show w.heap.size<_;omega) (by simp;omega)).trans y1
   have hbr:Below g w4 wr:=⟨hgr.os,hgr.tape,hgr.output,hgr.size,fun k hk=>hgr.block k (by omega) (by simp;omega)⟩
   have hbwr:=hbw4.trans (hbr.mono (by omega))
   have hszr:=hgr.size
   clear hH hgr hdI' hrow4 y0 y1 hki hkz0 hkz1 hkz2
   generalize w4.heap.size=h0 at hN hgl4 hszr
   go_wp2
   go_loopw [31] (fun i w5=>∃ (i':Nat),i'≤l.length∧i = .int .i64 i'∧NearI j g h0 bs (fun v=>(nb l (v:Int)).length) (fun v=>nb (l.take i') (v:Int)) w5∧Below g wr w5∧h0≤w5.heap.size) (fun i _=>l.length-(intOf i).toNat)
   case atStart=>exact⟨0,YN,rfl,hN,YD,hszr⟩
   case round=>
    obtain⟨i',hi',rfl,hI,hb,hs5⟩:=hrel
    have hbw5:=hbwr.trans (hb.mono (by omega))
    by_cases hlt:i'<l.length
    ·obtain⟨b,off,rfl,hbb,hcap,hc,-⟩:=hl.open hlt
     obtain⟨c0,c1,c2⟩:=hc _ hbw5 i' hlt
     have hok:=hR.each l[i'] (YG hlt)
     unfold okE at hok
     obtain⟨u,hu⟩:∃ u:Nat,l[i'].1=(u:Int):=⟨l[i'].1.toNat,by omega⟩
     obtain⟨v,hv⟩:∃ v:Nat,l[i'].2.1=(v:Int):=⟨l[i'].2.1.toNat,by omega⟩
     have huN:u<j:=by omega
     have hvN:v<j:=by omega
     have hne:u≠v:=by omega
     have huN':(u:Int)<(j:Int):=by omega
     have hvN':(v:Int)<(j:Int):=by omega
     have hjl:(i':Int)<(l.length:Int):=by omega
     have HF:Hid ((fun x:Nat=>nb (l.take (i'+1)) (x:Int))=upd (upd (fun x:Nat=>nb (l.take i') (x:Int)) u (v:Int)) v (u:Int)):=by
      unfold Hid
      funext x
      rw [Qb4 hlt]
      unfold upd nbOf
      rw [hu,hv]
      by_cases hxv:x=v
      ·subst hxv
       have h1:¬ ((u:Int)=(x:Int)):=by omega
       have h2:¬ x=u:=by omega
       simp [h1,h2]
      ·by_cases hxu:x=u
       ·subst hxu
        simp [hxv]
       ·have h1:¬ ((u:Int)=(x:Int)):=by omega
        have h2:¬ ((v:Int)=(x:Int)):=by omega
        simp [hxv,hxu,h1,h2]
     have hpu:(nb (l.take i') (u:Int)).length+1≤(nb l (u:Int)).length:=by
      have h1:=QgI l (u:Int) (i'+1)
      rw [Qb4 hlt,YI] at h1
      unfold nbOf at h1
      rw [hu,if_pos rfl] at h1
      simpa using h1
     have hpv:(nb (l.take i') (v:Int)).length+1≤(nb l (v:Int)).length:=by
      have h1:=QgI l (v:Int) (i'+1)
      rw [Qb4 hlt,YI] at h1
      unfold nbOf at h1
      rw [hu,hv,if_neg (by omega),if_pos rfl] at h1
      simpa using h1
     rw [hu] at c0
     rw [hv] at c1
     have hP1:=hI.push huN (v:Int) hpu
     have hlen2:(upd (fun x:Nat=>nb (l.take i') (x:Int)) u (v:Int) v).length+1≤(nb l (v:Int)).length:=by
      unfold upd;rw [if_neg (Ne.symm hne)];exact hpv
     have o1:=hI.row.cell (QbK huN)
     have fo1:=hI.row.frozen u
     obtain⟨rest,hBu,hnu,hcu,-,hbu⟩:=Qbh (hI.own u huN)
     have hgl5:=hI.row.lt
     have hbl5v:bs.getD v 0<wr.heap.size:=by obtain⟨_,h,_⟩:=Qbh (hI.own v hvN);exact h.lt
     have hbl5:=hBu.lt
     have hbg:bs.getD u 0≠g:=by omega
     obtain⟨z,hz⟩:∃ z,wr.cell? ⟨bs.getD u 0,(nb (l.take i') (u:Int)).length,none⟩=some z:=by
      refine⟨_,hBu.cell (YB ?_)⟩
      simp only [YI,List.length_map];omega
     have fz:=hBu.frozen (nb (l.take i') (u:Int)).length
     have HI:Hid _:=hI
     have hb2:Below g wr ((wr.setCell ⟨bs.getD u 0,(nb (l.take i') (u:Int)).length,none⟩ (.int .i64 (v:Int))).setCell ⟨g,u,none⟩ (.slice (some ⟨bs.getD u 0,0,none⟩) ((nb (l.take i') (u:Int)).length+1) (nb l (u:Int)).length)):=(YD.setCell (p:=⟨bs.getD u 0,_,none⟩) (by simp only;omega) _).setCell (p:=⟨g,u,none⟩) YA _
     have HP1:Hid _:=hP1
     have HB2:Hid _:=hb2
     clear hc hok hu hv hI hBu hP1 hb2
     generalize (nb (l.take i') (u:Int)).length=pu at *
     generalize hdu:(nb l (u:Int)).length=du at *
     generalize bs.getD u 0=bu at *
     generalize l[i'].2.2=wv at c2
     go_wp2
     go_big_region_o
     have hsz2:((wr.setCell ⟨bu,pu,none⟩ (.int .i64 (v:Int))).setCell ⟨g,u,none⟩ (.slice (some ⟨bu,0,none⟩) (pu+1) du)).heap.size=wr.heap.size:=by simp
     have hgr2:Grew ((wr.setCell ⟨bu,pu,none⟩ (.int .i64 (v:Int))).setCell ⟨g,u,none⟩ (.slice (some ⟨bu,0,none⟩) (pu+1) du)) (((((wr.setCell ⟨bu,pu,none⟩ (.int .i64 (v:Int))).setCell ⟨g,u,none⟩ (.slice (some ⟨bu,0,none⟩) (pu+1) du)).alloc (.cells #[.int .i64 (u:Int),.int .i64 (v:Int),.int .i64 wv] 50)).alloc (.cells #[.int .i64 (v:Int)] 3)).drew):=(((Grew.refl _).alloc _).alloc _).drewN 1
     have hI2:=HP1.out.go hgr2.below
     have hb3:Below g wr (((((wr.setCell ⟨bu,pu,none⟩ (.int .i64 (v:Int))).setCell ⟨g,u,none⟩ (.slice (some ⟨bu,0,none⟩) (pu+1) du)).alloc (.cells #[.int .i64 (u:Int),.int .i64 (v:Int),.int .i64 wv] 50)).alloc (.cells #[.int .i64 (v:Int)] 3)).drew):=HB2.out.trans (hgr2.below.mono (by rw [hsz2];omega))
     have e0:(((((wr.setCell ⟨bu,pu,none⟩ (.int .i64 (v:Int))).setCell ⟨g,u,none⟩ (.slice (some ⟨bu,0,none⟩) (pu+1) du)).alloc (.cells #[.int .i64 (u:Int),.int .i64 (v:Int),.int .i64 wv] 50)).alloc (.cells #[.int .i64 (v:Int)] 3)).drew).cell? ⟨wr.heap.size,0,none⟩=some (.int .i64 (u:Int)):=by go_simp
     have e1:(((((wr.setCell ⟨bu,pu,none⟩ (.int .i64 (v:Int))).setCell ⟨g,u,none⟩ (.slice (some ⟨bu,0,none⟩) (pu+1) du)).alloc (.cells #[.int .i64 (u:Int),.int .i64 (v:Int),.int .i64 wv] 50)).alloc (.cells #[.int .i64 (v:Int)] 3)).drew).cell? ⟨wr.heap.size,1,none⟩=some (.int .i64 (v:Int)):=by go_simp
     have hs6:wr.heap.size<(((((wr.setCell ⟨bu,pu,none⟩ (.int .i64 (v:Int))).setCell ⟨g,u,none⟩ (.slice (some ⟨bu,0,none⟩) (pu+1) du)).alloc (.cells #[.int .i64 (u:Int),.int .i64 (v:Int),.int .i64 wv] 50)).alloc (.cells #[.int .i64 (v:Int)] 3)).drew).heap.size:=by simp;omega
     generalize ((((wr.setCell ⟨bu,pu,none⟩ (.int .i64 (v:Int))).setCell ⟨g,u,none⟩ (.slice (some ⟨bu,0,none⟩) (pu+1) du)).alloc (.cells #[.int .i64 (u:Int),.int .i64 (v:Int),.int .i64 wv] 50)).alloc (.cells #[.int .i64 (v:Int)] 3)).drew=w6 at hI2 hb3 e0 e1 hs6 ⊢
     clear HP1 HB2 hgr2 hsz2 o1 fo1 hz fz
     have hP2:=hI2.push hvN (u:Int) hlen2
     have o2:=hI2.row.cell (QbK hvN)
     have fo2:=hI2.row.frozen v
     obtain⟨rest2,hBv,hnv,hcv,-,hbv⟩:=Qbh (hI2.own v hvN)
     have hgl6:=hI2.row.lt
     have hbl6:=hBv.lt
     have hbg2:bs.getD v 0≠g:=by omega
     obtain⟨z2,hz2⟩:∃ z,w6.cell? ⟨bs.getD v 0,(upd (fun x:Nat=>nb (l.take i') (x:Int)) u (v:Int) v).length,none⟩=some z:=by
      refine⟨_,hBv.cell (YB ?_)⟩
      simp only [YI,List.length_map];omega
     have fz2:=hBv.frozen (upd (fun x:Nat=>nb (l.take i') (x:Int)) u (v:Int) v).length
     have hb4:Below g wr ((w6.setCell ⟨bs.getD v 0,(upd (fun x:Nat=>nb (l.take i') (x:Int)) u (v:Int) v).length,none⟩ (.int .i64 (u:Int))).setCell ⟨g,v,none⟩ (.slice (some ⟨bs.getD v 0,0,none⟩) ((upd (fun x:Nat=>nb (l.take i') (x:Int)) u (v:Int) v).length+1) (nb l (v:Int)).length)):=(hb3.setCell (p:=⟨bs.getD v 0,_,none⟩) (by simp only;omega) _).setCell (p:=⟨g,v,none⟩) YA _
     rw [← HF.out] at hP2
     have HP2:Hid _:=hP2
     have HB4:Hid _:=hb4
     clear hI2 hBv hP2 hb4 hnv hcv
     generalize (upd (fun x:Nat=>nb (l.take i') (x:Int)) u (v:Int) v).length=pv at *
     generalize (nb l (v:Int)).length=dv at *
     have hbe:bs.getD v 0≠wr.heap.size:=by omega
     have hge:g≠wr.heap.size:=by omega
     have hbg2':g≠bs.getD v 0:=by omega
     have HB0:Hid _:=hb
     have HZ:Hid (h0≤w6.heap.size∧g≤w6.heap.size):=⟨by omega,by omega⟩
     have hgr3:Grew ((w6.setCell ⟨bs.getD v 0,pv,none⟩ (.int .i64 (u:Int))).setCell ⟨g,v,none⟩ (.slice (some ⟨bs.getD v 0,0,none⟩) (pv+1) dv)) ((((w6.setCell ⟨bs.getD v 0,pv,none⟩ (.int .i64 (u:Int))).setCell ⟨g,v,none⟩ (.slice (some ⟨bs.getD v 0,0,none⟩) (pv+1) dv)).alloc (.cells #[.int .i64 (u:Int)] 3)).drew):=((Grew.refl _).alloc _).drewN 1
     have hsz3:((w6.setCell ⟨bs.getD v 0,pv,none⟩ (.int .i64 (u:Int))).setCell ⟨g,v,none⟩ (.slice (some ⟨bs.getD v 0,0,none⟩) (pv+1) dv)).heap.size=w6.heap.size:=by simp
     have HI3:Hid _:=HP2.out.go hgr3.below
     have HB5:Hid (Below g wr ((((w6.setCell ⟨bs.getD v 0,pv,none⟩ (.int .i64 (u:Int))).setCell ⟨g,v,none⟩ (.slice (some ⟨bs.getD v 0,0,none⟩) (pv+1) dv)).alloc (.cells #[.int .i64 (u:Int)] 3)).drew)):=HB4.out.trans (hgr3.below.mono (by rw [hsz3];exact HZ.out.2))
     have HS7:Hid (h0≤((((w6.setCell ⟨bs.getD v 0,pv,none⟩ (.int .i64 (u:Int))).setCell ⟨g,v,none⟩ (.slice (some ⟨bs.getD v 0,0,none⟩) (pv+1) dv)).alloc (.cells #[.int .i64 (u:Int)] 3)).drew).heap.size):=by have:=HZ.out.1;unfold Hid;simp;omega
     have HLT:Hid (i'<l.length):=hlt
     clear hgr3 hsz3 HP2 HB4
     clear hcu hpu hpv c0 c1 c2 hb hbl5 hbl5v hbg HF HI hl z1 hbb hcap hbw5 hi' hs5 hb3 hbu hbv hgl5 hbw4 hbwr hszr hN hR hn1 hgd4 hbr hgl3 hgd hbox hjl huN huN'
     generalize bs.getD v 0=bv at *
     go_wp2
     refine wp_region_held_drew (S:=(fun w':World=>w'.cell? ⟨wr.heap.size,0,none⟩=some (.int .i64 (u:Int))∧w'.cell? ⟨wr.heap.size,1,none⟩=some (.int .i64 (v:Int)))) (by kernel_rfl) ?_ (fun hHeld=>?_)
     ·(try dsimp only);go_keep
     refine tH 0 ?_
     try simp only [YS]
     refine tH 1 ?_
     refine tH 2 ?_
     refine tH 3 ?_
     refine tH 4 ?_
     refine tH 5 ?_
     refine tH 6 ?_
     refine tH 8 ?_
     refine tH 9 ?_
     refine wpAnyH_ready (rs:=[7,10]) (by kernel_rfl) (by simp) ?_
     refine AllReadyH.cons rfl (fun K hK=>?_) (AllReadyH.cons rfl (fun K hK=>?_) AllReadyH.nil)
     ·go_simp
      refine hK.out _ _ ?_ (fun hHeld=>?_)
      ·(try dsimp only);go_keep
      clear hK K
      try simp only [Act.put,YS,YT,YU]
      refine wpAnyH_ready (rs:=[10]) (by kernel_rfl) (by simp) ?_
      refine AllReadyH.cons rfl (fun K hK=>?_) AllReadyH.nil
      go_simp
      refine hK.out _ _ ?_ (fun hHeld=>?_)
      ·(try dsimp only);go_keep
      clear hK K
      try simp only [Act.put,YS,YT,YU]
      refine wpAnyH_ready (rs:=[11]) (by kernel_rfl) (by simp) ?_
      refine AllReadyH.cons rfl (fun K hK=>?_) AllReadyH.nil
      go_simp
      refine hK.out _ _ ?_ (fun hHeld=>?_)
      ·(try dsimp only);go_keep
      clear hK K
      try simp only [Act.put,YS,YT,YU]
      refine tH 12 ?_
      try simp only [YS]
      refine wpAnyH_ready (rs:=[13]) (by kernel_rfl) (by simp) ?_
      refine AllReadyH.cons rfl (fun K hK=>?_) AllReadyH.nil
      go_simp
      refine hK.out _ _ ?_ (fun hHeld=>?_)
      ·(try dsimp only);go_keep
      clear hK K
      try simp only [Act.put,YS,YT,YU]
      refine wpAnyH_done (by kernel_rfl) ?_ _
      go_wp2
      exact⟨⟨i'+1,HLT.out,by go_num,HI3.out,HB0.out.trans HB5.out,HS7.out⟩,by have:=HLT.out;simp [intOf];omega⟩
     ·go_simp
      refine hK.out _ _ ?_ (fun hHeld=>?_)
      ·(try dsimp only);go_keep
      clear hK K
      try simp only [Act.put,YS,YT,YU]
      refine wpAnyH_ready (rs:=[7]) (by kernel_rfl) (by simp) ?_
      refine AllReadyH.cons rfl (fun K hK=>?_) AllReadyH.nil
      go_simp
      refine hK.out _ _ ?_ (fun hHeld=>?_)
      ·(try dsimp only);go_keep
      clear hK K
      try simp only [Act.put,YS,YT,YU]
      refine wpAnyH_ready (rs:=[11]) (by kernel_rfl) (by simp) ?_
      refine AllReadyH.cons rfl (fun K hK=>?_) AllReadyH.nil
      go_simp
      refine hK.out _ _ ?_ (fun hHeld=>?_)
      ·(try dsimp only);go_keep
      clear hK K
      try simp only [Act.put,YS,YT,YU]
      refine tH 12 ?_
      try simp only [YS]
      refine wpAnyH_ready (rs:=[13]) (by kernel_rfl) (by simp) ?_
      refine AllReadyH.cons rfl (fun K hK=>?_) AllReadyH.nil
      go_simp
      refine hK.out _ _ ?_ (fun hHeld=>?_)
      ·(try dsimp only);go_keep
      clear hK K
      try simp only [Act.put,YS,YT,YU]
      refine wpAnyH_done (by kernel_rfl) ?_ _
      go_wp2
      exact⟨⟨i'+1,HLT.out,by go_num,HI3.out,HB0.out.trans HB5.out,HS7.out⟩,by have:=HLT.out;simp [intOf];omega⟩
    ·obtain rfl:i'=l.length:=by omega
     rw [List.take_length] at hI
     have hwg:w.heap.size≤g:=by omega
     go_wp2
     go_ret
     exact⟨g,h0,bs,_,rfl,hI,hwg,hbw5⟩
theorem Qm9 (N:Nat)(l:List Ed)(hR:RightG (N:Int) l)(sv:Value)(w:World)(hl:Edges w.heap.size w sv l):
  Calls Tryz.prog 120 #[.agg #[.int .i64 (N:Int),sv]] w fun r w'=>∃ nv,r = .returned nv∧Lsts w'.heap.size w' nv (nearL N l)∧Below w.heap.size w w':=
 (Qlm N l hR sv w hl).mono fun _ _ ⟨_,_,_,_,h1,h2,_,h3⟩=>⟨_,h1,h2.lsts,h3⟩
abbrev Dt:=Int × Int
def aft (L:List Int)(at_:Nat):Int:=if at_+1=L.length then L.getD 0 0 else L.getD (at_+1) 0
def nxD (r:List (List Int))(d:Dt):Dt:=(d.2,aft (r.getD d.2.toNat []) ((r.getD d.2.toNat []).idxOf d.1))
structure SysR (N:Nat)(l:List Ed)(r:List (List Int)):Prop where
 len:r.length=N
 perm:∀ v:Nat,v<N→(r.getD v []).Perm (nb l (v:Int))
def Qah (N:Nat)(l:List Ed):List Dt:=(List.range N).flatMap fun (u:Nat)=>(nb l (u:Int)).map fun v=>((u:Int),v)
theorem dartsL_mem {N:Nat}{l:List Ed}{d:Dt}:d∈Qah N l↔∃ u:Nat,u<N∧d.1=(u:Int)∧d.2∈nb l (u:Int):=by
 unfold Qah
 rw [List.mem_flatMap]
 constructor
 ·rintro⟨u,hu,h⟩
  obtain⟨v,hv,rfl⟩:=List.mem_map.1 h
  exact⟨u,List.mem_range.1 hu,rfl,hv⟩
 ·rintro⟨u,hu,h1,h2⟩
  exact⟨u,List.mem_range.2 hu,List.mem_map.2 ⟨d.2,h2,by rw [← h1]⟩⟩
theorem QdL {N:Nat}{l:List Ed}(hR:RightG (N:Int) l):(Qah N l).Nodup:=by
 unfold Qah
 unfold List.Nodup
 rw [List.pairwise_flatMap]
 refine⟨fun u _=>?_,?_⟩
 ·refine List.Pairwise.map _ (fun a b h=>?_) ((Qco hR (u:Int)).imp fun {a b} (h:a<b)=>(show a≠b by omega))
  intro e
  exact h (congrArg Prod.snd e)
 ·refine List.nodup_range.imp fun {a b} hab=>?_
  intro x hx y hy e
  obtain⟨v,_,rfl⟩:=List.mem_map.1 hx
  obtain⟨v',_,rfl⟩:=List.mem_map.1 hy
  have:=congrArg Prod.fst e
  simp only at this
  omega
section
variable {N:Nat} {l:List Ed} {r:List (List Int)}
theorem SysR.nodup (hS:SysR N l r)(hR:RightG (N:Int) l){v:Nat}(hv:v<N):(r.getD v []).Nodup:=(hS.perm v hv).nodup_iff.2 ((Qco hR (v:Int)).imp fun {a b} (h:a<b)=>(show a≠b by omega))
theorem Qpg {L:List Int}{k:Nat}(h:k<L.length):aft L k∈L:=by
 unfold aft
 split
 ·rw [YC,YB (by omega)]
  exact YG _
 ·rw [YC,YB (by omega)]
  exact YG _
theorem Qph {L:List Int}(hn:L.Nodup){j k:Nat}(hj:j<L.length)(hk:k<L.length)(h:aft L j=aft L k):j=k:=by
 have get:∀ {i:Nat} (hi:i<L.length),L.getD i 0=L[i]:=fun hi=>by rw [YC,YB hi];rfl
 have inj:∀ {a b:Nat},a<L.length→b<L.length→L.getD a 0=L.getD b 0→a=b:=fun {a b} ha hb e=>by
  rw [get ha,get hb] at e
  exact (List.getElem_inj hn).1 e
 unfold aft at h
 by_cases h1:j+1=L.length
 ·by_cases h2:k+1=L.length
  ·omega
  ·rw [if_pos h1,if_neg h2] at h
   have:=inj (by omega) (by omega) h
   omega
 ·by_cases h2:k+1=L.length
  ·rw [if_neg h1,if_pos h2] at h
   have:=inj (by omega) (by omega) h
   omega
  ·rw [if_neg h1,if_neg h2] at h
   have:=inj (by omega) (by omega) h
   omega
theorem QbI (hR:RightG (N:Int) l){d:Dt}(h:d∈Qah N l):∃ u v:Nat,d=((u:Int),(v:Int))∧u<N∧v<N∧(u:Int)∈nb l (v:Int)∧(v:Int)∈nb l (u:Int):=by
 obtain⟨u,hu,h1,h2⟩:=dartsL_mem.1 h
 obtain⟨h3,h4,h5,_⟩:=QaZ hR h2
 have e:d.2=((d.2.toNat:Nat):Int):=by omega
 refine⟨u,d.2.toNat,by rw [← e,← h1],hu,by omega,by rw [← e];exact h3,by rw [← e];exact h2⟩
theorem Qn4 (hR:RightG (N:Int) l)(hS:SysR N l r){d:Dt}(h:d∈Qah N l):nxD r d∈Qah N l:=by
 obtain⟨u,v,rfl,hu,hv,h1,h2⟩:=QbI hR h
 refine dartsL_mem.2 ⟨v,hv,rfl,?_⟩
 unfold nxD
 simp only [YM]
 have hm:(u:Int)∈r.getD v []:=(hS.perm v hv).mem_iff.2 h1
 exact (hS.perm v hv).mem_iff.1 (Qpg (List.idxOf_lt_length_iff.2 hm))
theorem Qpw (hR:RightG (N:Int) l)(hS:SysR N l r){d e:Dt}(hd:d∈Qah N l)(he:e∈Qah N l)(h:nxD r d=nxD r e):d=e:=by
 obtain⟨u,v,rfl,hu,hv,h1,h2⟩:=QbI hR hd
 obtain⟨u',v',rfl,hu',hv',h1',h2'⟩:=QbI hR he
 unfold nxD at h
 simp only [YM,Prod.mk.injEq] at h
 obtain⟨e1,e2⟩:=h
 have:v=v':=by omega
 subst this
 have m1:(u:Int)∈r.getD v []:=(hS.perm v hv).mem_iff.2 h1
 have m2:(u':Int)∈r.getD v []:=(hS.perm v hv).mem_iff.2 h1'
 have l1:=List.idxOf_lt_length_iff.2 m1
 have l2:=List.idxOf_lt_length_iff.2 m2
 have e3:=Qph (hS.nodup hR hv) l1 l2 e2
 have g1:=List.getElem_idxOf l1
 have g2:=List.getElem_idxOf l2
 have:(u:Int)=(u':Int):=by
  rw [← g1,← g2]
  congr 1
 have:u=u':=by omega
 rw [this]
end
section
variable {nx:Dt→Dt} {S:List Dt}
structure PermS (nx:Dt→Dt)(S:List Dt):Prop where
 mem:∀ d∈S,nx d∈S
 inj:∀ d∈S,∀ e∈S,nx d=nx e→d=e
def Way (nx:Dt→Dt)(d:Dt):Dt→List Dt→Prop
 | x,[]=>x=d
 | x,y :: L=>x=y∧Way nx d (nx x) L
theorem Way.snoc {d:Dt}:∀ {x:Dt} {L:List Dt},Way nx d x L→Way nx (nx d) x (L++[d])
 | x,[],h=>⟨h,by show nx x=nx d;rw [show x=d from h]⟩
 | x,y :: L,h=>⟨h.1,Way.snoc h.2⟩
def orb (nx:Dt→Dt)(d:Dt):Nat→Dt→List Dt
 | 0,_=>[]
 | k+1,x=>x :: if nx x=d then [] else orb nx d k (nx x)
theorem Qk5 {d:Dt}:∀ {L:List Dt} {x:Dt} {k:Nat},L≠[]→Way nx d x L→(∀ y∈L.tail,y≠d)→L.length≤k→orb nx d k x=L
 | [],_,_,h,_,_,_=>absurd rfl h
 | [y],x,k,_,hw,_,hk=>by
  obtain⟨rfl,h2⟩:=hw
  match k,hk with
  | k+1,_=>
   rw [orb,if_pos (show nx x=d from h2)]
 | y :: z :: L,x,k,_,hw,hne,hk=>by
  obtain⟨rfl,h2⟩:=hw
  match k,hk with
  | k+1,hk=>
   have hz:nx x=z:=h2.1
   have hzd:¬ nx x=d:=by rw [hz];exact hne z (List.mem_cons_self ..)
   rw [orb,if_neg hzd,Qk5 (L:=z :: L) (by simp) h2 (fun y hy=>hne y (List.mem_cons_of_mem _ hy)) (by simpa using hk)]
structure Shut2 (nx:Dt→Dt)(S met:List Dt):Prop where
 sub:∀ d∈met,d∈S
 fwd:∀ d∈met,nx d∈met
 bwd:∀ d∈S,nx d∈met→d∈met
theorem Way.mem_back {d:Dt}:∀ {x:Dt} {L:List Dt},Way nx d x L→∀ y∈L,y=x∨∃ z∈L,nx z=y
 | x,[],_,y,hy=>by simp at hy
 | x,y :: L,h,z,hz=>by
  obtain⟨rfl,h2⟩:=h
  rcases List.mem_cons.1 hz with rfl | hz
  ·exact .inl rfl
  ·rcases Way.mem_back h2 z hz with rfl | ⟨t,ht,e⟩
   ·exact .inr ⟨x,List.mem_cons_self ..,rfl⟩
   ·exact .inr ⟨t,List.mem_cons_of_mem _ ht,e⟩
theorem Way.mem_next {d:Dt}:∀ {x:Dt} {L:List Dt},Way nx d x L→∀ y∈L,nx y=d∨nx y∈L
 | x,[],_,y,hy=>by simp at hy
 | x,y :: L,h,z,hz=>by
  obtain⟨rfl,h2⟩:=h
  rcases List.mem_cons.1 hz with rfl | hz
  ·match L,h2 with
   | [],h2=>exact .inl h2
   | t :: L,h2=>exact .inr (List.mem_cons_of_mem _ (by rw [h2.1];exact List.mem_cons_self ..))
  ·rcases Way.mem_next h2 z hz with h3 | h3
   ·exact .inl h3
   ·exact .inr (List.mem_cons_of_mem _ h3)
theorem Way.last {d:Dt}:∀ {x:Dt} {L:List Dt},L≠[]→Way nx d x L→∃ z∈L,nx z=d
 | x,[],h,_=>absurd rfl h
 | x,[y],_,h=>⟨y,List.mem_cons_self ..,by obtain⟨rfl,h2⟩:=h;exact h2⟩
 | x,y :: z :: L,_,h=>by
  obtain⟨t,ht,e⟩:=Way.last (L:=z :: L) (by simp) h.2
  exact⟨t,List.mem_cons_of_mem _ ht,e⟩
theorem Way.pred {d:Dt}:∀ {x:Dt} {L:List Dt},Way nx d x L→∀ y∈L.tail,∃ A t B,L=A++t :: y :: B∧nx t=y
 | x,[],_,y,hy=>by simp at hy
 | x,[z],_,y,hy=>by simp at hy
 | x,z :: t :: L,h,y,hy=>by
  obtain⟨rfl,h2⟩:=h
  have hy':y∈t :: L:=hy
  rcases List.mem_cons.1 hy' with rfl | hy'
  ·exact⟨[],x,L,rfl,h2.1⟩
  ·obtain⟨A,u,B,e,hu⟩:=Way.pred h2 y hy'
   exact⟨x :: A,u,B,by rw [e];rfl,hu⟩
theorem Way.last2 {d:Dt}:∀ {x:Dt} {L:List Dt},L≠[]→Way nx d x L→∃ C z,L=C++[z]∧nx z=d
 | x,[],h,_=>absurd rfl h
 | x,[y],_,h=>⟨[],y,rfl,by obtain⟨rfl,h2⟩:=h;exact h2⟩
 | x,y :: z :: L,_,h=>by
  obtain⟨C,t,e,ht⟩:=Way.last2 (L:=z :: L) (by simp) h.2
  exact⟨y :: C,t,by rw [e];rfl,ht⟩
theorem Way.round (hP:PermS nx S){met:List Dt}(hM:Shut2 nx S met){d x:Dt}{L:List Dt}(hne:L≠[])(hw:Way nx d x L)(hS:∀ y∈L,y∈S)(hn:L.Nodup)(hno:∀ y∈L,y∉met)(hd:d∈met∨d∈L):d=x:=by
 obtain⟨C,z,eC,ez⟩:=hw.last2 hne
 have hz:z∈L:=by rw [eC];simp
 rcases hd with hd | hd
 ·exact absurd (hM.bwd z (hS z hz) (by rw [ez];exact hd)) (hno z hz)
 ·match L,hne,hd,hw with
  | y :: L',_,hd,hw=>
   rcases List.mem_cons.1 hd with rfl | hd
   ·exact hw.1.symm
   ·exfalso
    obtain⟨A,t,B,eA,et⟩:=hw.pred d hd
    have ht:t∈y :: L':=by rw [eA];simp
    have e1:t=z:=hP.inj t (hS t ht) z (hS z hz) (et.trans ez.symm)
    subst e1
    have hl:(C++[t]).getLast? = (A++t :: d :: B).getLast?:=by rw [← eC,← eA]
    rw [eA] at hn
    have hn2:=(List.nodup_append.1 hn).2.1
    rw [List.nodup_cons] at hn2
    refine hn2.1 ?_
    have h3:(A++t :: d :: B).getLast? = (d :: B).getLast?:=by
     rw [show A++t :: d :: B=(A++[t])++(d :: B) by simp,List.getLast?_append]
     cases hB:(d :: B).getLast? with
     | none=>simp at hB
     | some q=>rfl
    rw [h3] at hl
    have h4:(d :: B).getLast? = some t:=by rw [← hl];simp
    exact List.mem_of_getLast? h4
def Qae (nx:Dt→Dt)(fuel:Nat)(starts:List Dt):Nat→List (List Dt) × List Dt
 | 0=>([],[])
 | j+1=>if (Qae nx fuel starts j).2.contains (starts.getD j (0,0)) then Qae nx fuel starts j
  else ((Qae nx fuel starts j).1++[orb nx (starts.getD j (0,0)) fuel (starts.getD j (0,0))],(Qae nx fuel starts j).2++orb nx (starts.getD j (0,0)) fuel (starts.getD j (0,0)))
theorem Shut2.add (hP:PermS nx S){met:List Dt}(hM:Shut2 nx S met){d:Dt}{L:List Dt}(hne:L≠[])(hw:Way nx d d L)(hS:∀ y∈L,y∈S):Shut2 nx S (met++L):=by
 have hd:d∈L:=by
  match L,hne,hw with
  | y :: L',_,hw=>rw [hw.1];exact List.mem_cons_self ..
 refine⟨fun y hy=>?_,fun y hy=>?_,fun y hy h=>?_⟩
 ·rcases YJ hy with h | h
  ·exact hM.sub y h
  ·exact hS y h
 ·rcases YJ hy with h | h
  ·exact List.mem_append_left _ (hM.fwd y h)
  ·rcases hw.mem_next y h with h1 | h1
   ·rw [h1];exact List.mem_append_right _ hd
   ·exact List.mem_append_right _ h1
 ·rcases YJ h with h1 | h1
  ·exact List.mem_append_left _ (hM.bwd y hy h1)
  ·refine List.mem_append_right _ ?_
   rcases hw.mem_back _ h1 with h2 | ⟨z,hz,ez⟩
   ·obtain⟨z,hz,ez⟩:=hw.last hne
    rw [hP.inj y hy z (hS z hz) (h2.trans ez.symm)]
    exact hz
   ·rw [hP.inj y hy z (hS z hz) ez.symm]
    exact hz
structure Going (nx:Dt→Dt)(S starts:List Dt)(fuel:Nat)(left face:List Dt)(d:Dt)(j:Nat):Prop where
 shut:Shut2 nx S (Qae nx fuel starts j).2
 nodup:(left++(face++(Qae nx fuel starts j).2)).Nodup
 all:∀ x,x∈S↔x∈left∨x∈face∨x∈(Qae nx fuel starts j).2
 len:left.length+face.length+(Qae nx fuel starts j).2.length=S.length
 way:face≠[]→Way nx d (starts.getD j (0,0)) face
theorem Going.start (hn:S.Nodup)(d:Dt)(starts:List Dt)(fuel:Nat):Going nx S starts fuel S [] d 0:=by
 refine⟨⟨fun d h=>by simp [Qae] at h,fun d h=>by simp [Qae] at h,fun d _ h=>by simp [Qae] at h⟩,by simpa [Qae] using hn,fun x=>by simp [Qae],by simp [Qae],fun h=>absurd rfl h⟩
theorem Going.take {starts left face:List Dt}{fuel j:Nat}{d:Dt}(h:Going nx S starts fuel left face d j)(hd:d∈left)(h0:face=[]→d=starts.getD j (0,0)):Going nx S starts fuel (left.erase d) (face++[d]) (nx d) j:=by
 have hnl:left.Nodup:=(List.nodup_append.1 h.nodup).1
 have hp:(left.erase d++(face++[d]++(Qae nx fuel starts j).2)).Perm (left++(face++(Qae nx fuel starts j).2)):=by
  have h1:left.Perm (d :: left.erase d):=List.perm_cons_erase hd
  have h2:(face++[d]++(Qae nx fuel starts j).2).Perm (d :: (face++(Qae nx fuel starts j).2)):=by
   rw [List.append_assoc]
   exact List.perm_middle
  refine ((h2.append_left (left.erase d)).trans ?_).trans (h1.symm.append_right _)
  exact List.perm_middle
 refine⟨h.shut,hp.nodup_iff.2 h.nodup,fun x=>?_,?_,fun _=>?_⟩
 ·rw [h.all x]
  have:=hp.mem_iff (a:=x)
  simp only [List.mem_append] at this
  simp only [List.mem_append]
  constructor
  ·intro hx
   rcases this.2 hx with h1 | ⟨h1 | h1⟩ | h1
   ·exact .inl h1
   ·exact .inr (.inl (.inl h1))
   ·exact .inr (.inl (.inr ‹_›))
   ·exact .inr (.inr h1)
  ·intro hx
   exact this.1 (by
    rcases hx with h1 | h1 | h1
    ·exact .inl h1
    ·exact .inr (.inl h1)
    ·exact .inr (.inr h1))
 ·have:=h.len
  rw [List.length_erase_of_mem hd,YI,List.length_singleton]
  have:=List.length_pos_of_mem hd
  omega
 ·by_cases hf:face=[]
  ·subst hf
   exact⟨(h0 rfl).symm,by show nx (starts.getD j (0,0))=nx d;rw [← h0 rfl]⟩
  ·exact (h.way hf).snoc
theorem Going.done (hP:PermS nx S){starts left face:List Dt}{fuel j:Nat}{d:Dt}(h:Going nx S starts fuel left face d j)(hf:face≠[])(hd:d∉left)(hdS:d∈S)(hfu:S.length≤fuel)(d':Dt):Qae nx fuel starts (j+1)=((Qae nx fuel starts j).1++[face],(Qae nx fuel starts j).2++face)∧Going nx S starts fuel left [] d' (j+1):=by
 have hw:=h.way hf
 have hnd:=(List.nodup_append.1 h.nodup).2.1
 have hnf:face.Nodup:=(List.nodup_append.1 hnd).1
 have hap:∀ y∈face,y∉(Qae nx fuel starts j).2:=fun y hy hy'=>(List.nodup_append.1 hnd).2.2 y hy y hy' rfl
 have hsub:∀ y∈face,y∈S:=fun y hy=>(h.all y).2 (.inr (.inl hy))
 have hdm:d∈(Qae nx fuel starts j).2∨d∈face:=by
  rcases (h.all d).1 hdS with h1 | h1 | h1
  ·exact absurd h1 hd
  ·exact .inr h1
  ·exact .inl h1
 have e:=Way.round hP h.shut hf hw hsub hnf hap hdm
 rw [e] at hw
 have hst:starts.getD j (0,0)∈face:=by
  match face,hf,hw with
  | y :: L,_,hw=>rw [hw.1];exact List.mem_cons_self ..
 have horb:orb nx (starts.getD j (0,0)) fuel (starts.getD j (0,0))=face:=by
  refine Qk5 hf hw (fun y hy e1=>?_) (by have:=h.len;omega)
  match face,hf,hw,hy,hnf with
  | z :: L,_,hw,hy,hnf=>
   have h1:=hw.1
   rw [e1,h1] at hy
   exact (List.nodup_cons.1 hnf).1 hy
 have hc:(Qae nx fuel starts j).2.contains (starts.getD j (0,0))=false:=by
  rw [List.contains_eq_mem,decide_eq_false_iff_not]
  exact hap _ hst
 have er:Qae nx fuel starts (j+1)=((Qae nx fuel starts j).1++[face],(Qae nx fuel starts j).2++face):=by
  rw [Qae,hc,horb]
  rfl
 refine⟨er,?_⟩
 have hp:(left++([]++((Qae nx fuel starts j).2++face))).Perm (left++(face++(Qae nx fuel starts j).2)):=by
  rw [List.nil_append]
  exact List.perm_append_comm.append_left left
 refine⟨by rw [er];exact h.shut.add hP hf hw hsub,by rw [er];exact hp.nodup_iff.2 h.nodup,fun x=>?_,?_,fun h1=>absurd rfl h1⟩
 ·rw [er,h.all x]
  simp only [List.mem_append,List.not_mem_nil,false_or]
  constructor
  ·rintro (h1 | h1 | h1)
   ·exact .inl h1
   ·exact .inr (.inr h1)
   ·exact .inr (.inl h1)
  ·rintro (h1 | h1 | h1)
   ·exact .inl h1
   ·exact .inr (.inr h1)
   ·exact .inr (.inl h1)
 ·rw [er]
  have:=h.len
  rw [YI,List.length_nil]
  omega
theorem Going.skip {starts left:List Dt}{fuel j:Nat}{d:Dt}(h:Going nx S starts fuel left [] d j)(hd:d∉left)(hdS:d∈S)(e:d=starts.getD j (0,0))(d':Dt):Qae nx fuel starts (j+1)=Qae nx fuel starts j∧Going nx S starts fuel left [] d' (j+1):=by
 have hm:d∈(Qae nx fuel starts j).2:=by
  rcases (h.all d).1 hdS with h1 | h1 | h1
  ·exact absurd h1 hd
  ·simp at h1
  ·exact h1
 have er:Qae nx fuel starts (j+1)=Qae nx fuel starts j:=by
  rw [Qae,if_pos (by rw [List.contains_iff_mem,← e];exact hm)]
 exact⟨er,by rw [er];exact h.shut,by rw [er];exact h.nodup,by rw [er];exact h.all,by rw [er];exact h.len,fun h1=>absurd rfl h1⟩
end
end Go.Proofs.YtalflecmadacaaaGreat
