import Derived.Deep.RegionHeld3
import Derived.Test.YtalflecmadacaaaGreatZAB
import Derived.Test.YtalflecmadacaaaGreatZAP
import Derived.Deep.AppendLies
import Derived.Test.YtalflecmadacaaaGreatZAR
import Derived.Test.YtalflecmadacaaaGreatZAT
import Derived.Test.YtalflecmadacaaaGreatZAA
set_option maxRecDepth 100000
set_option maxHeartbeats 8000000
namespace Go.Proofs.YtalflecmadacaaaGreat
open Go Go.Proofs Go.RowKit
theorem infoS:(Tryz.prog.info? 27).map (fun i=>(i.zero,i.size,i.bytes))=some (some (.slice none 0 0),1,24):=by kernel_rfl
theorem QhM (n:Nat):(madeCells (Value.slice none 0 0).cells (n*1)).toList=List.replicate n (.slice none 0 0):=by
 apply List.ext_getElem
 ·simp [madeCells]
 ·intro i h1 h2
  simp [madeCells,Value.cells,Nat.mod_one]
def rowsV (N:Nat)(bs:List Nat)(pre:Nat→List Int)(deg:Nat→Nat):List Value:=(List.range N).map fun v=>.slice (some ⟨bs.getD v 0,0,none⟩) (pre v).length (deg v)
theorem QbM {N:Nat}{bs:List Nat}{pre:Nat→List Int}{deg:Nat→Nat}{v:Nat}(h:v<N):(rowsV N bs pre deg)[v]? = some (.slice (some ⟨bs.getD v 0,0,none⟩) (pre v).length (deg v)):=by simp [rowsV,h]
theorem QcL (N:Nat)(bs:List Nat)(pre:Nat→List Int)(deg:Nat→Nat):(rowsV N bs pre deg).length=N:=by simp [rowsV]
def upd (pre:Nat→List Int)(v:Nat)(y:Int):Nat→List Int:=fun i=>if i=v then pre v++[y] else pre i
structure NearI (N g h0:Nat)(bs:List Nat)(deg:Nat→Nat)(pre:Nat→List Int)(W:World):Prop where
 len:bs.length=N
 inj:∀ u v,u<N→v<N→bs.getD u 0=bs.getD v 0→u=v
 low:∀ v,v<N→h0≤bs.getD v 0
 out:g<h0
 row:Blk 27 W g (rowsV N bs pre deg)
 own:∀ v,v<N→W.ownsRow h0 3 1 (.slice (some ⟨bs.getD v 0,0,none⟩) (pre v).length (deg v)) (pre v).length ((pre v).map (Value.int .i64))
theorem NearI.go {N g h0:Nat}{bs:List Nat}{deg:Nat→Nat}{pre:Nat→List Int}{A B:World}(h:NearI N g h0 bs deg pre A)(hb:Below A.heap.size A B):NearI N g h0 bs deg pre B:=
 ⟨h.len,h.inj,h.low,h.out,h.row.go hb,fun v hv=>QaU (h.own v hv) hb⟩
theorem QbB {w:World}{base:Nat}{e:TypeId}{b n c:Nat}{xs:List Int}(h:w.ownsRow base e 1 (.slice (some ⟨b,0,none⟩) n c) n (xs.map (Value.int .i64))):∃ rest,Blk e w b (xs.map (Value.int .i64)++rest)∧xs.length=n∧n+rest.length=c∧c≤maxLen∧base≤b:=by
 obtain⟨h1,h2⟩:=h
 rcases h2 with ⟨h2,_⟩ | ⟨g,cap,cur,hv,hb,hg,hn,hc,hsz,ht⟩
 ·cases h2
 ·simp only [Value.slice.injEq,Option.some.injEq,Addr.mk.injEq] at hv
  obtain⟨⟨rfl,_,_⟩,_,rfl⟩:=hv
  have h1':xs.length=n:=by simpa using h1
  refine⟨cur.toList.drop (n*1),?_,h1',?_,hc,hb⟩
  ·unfold Blk
   rw [hg,← ht,List.take_append_drop]
  ·simp at hsz ⊢;omega
theorem Qg5 {w:World}{base:Nat}{e:TypeId}{b n c:Nat}{xs:List Int}{rest:List Value}(hB:Blk e w b (xs.map (Value.int .i64)++rest))(hn:xs.length=n)(hc:n+rest.length=c)(hm:c≤maxLen)(hb:base≤b):w.ownsRow base e 1 (.slice (some ⟨b,0,none⟩) n c) n (xs.map (Value.int .i64)):=by
 refine⟨by simp [hn],.inr ⟨b,c,_,rfl,hb,hB,by omega,hm,by simp;omega,?_⟩⟩
 simp [hn]
theorem NearI.push {N g h0:Nat}{bs:List Nat}{deg:Nat→Nat}{pre:Nat→List Int}{W:World}(h:NearI N g h0 bs deg pre W){v:Nat}(hv:v<N)(y:Int)(hd:(pre v).length<deg v):
  NearI N g h0 bs deg (upd pre v y) ((W.setCell ⟨bs.getD v 0,(pre v).length,none⟩ (.int .i64 y)).setCell ⟨g,v,none⟩ (.slice (some ⟨bs.getD v 0,0,none⟩) ((pre v).length+1) (deg v))):=by
 have hgo:=h.out
 refine⟨h.len,h.inj,h.low,h.out,?_,?_⟩
 ·have h1:=(h.row.other (p:=⟨bs.getD v 0,(pre v).length,none⟩) (by have:=h.low v hv;simp only;omega) (.int .i64 y)).set v (.slice (some ⟨bs.getD v 0,0,none⟩) ((pre v).length+1) (deg v))
  have h2:(rowsV N bs pre deg).set v (.slice (some ⟨bs.getD v 0,0,none⟩) ((pre v).length+1) (deg v))=rowsV N bs (upd pre v y) deg:=by
   apply List.ext_getElem?
   intro i
   rw [List.getElem?_set,QcL]
   by_cases hi:i<N
   ·rw [QbM hi,QbM hi]
    by_cases he:v=i
    ·subst he;rw [if_pos rfl,if_pos hv];simp [upd]
    ·rw [if_neg he];simp [upd,Ne.symm he]
   ·rw [YL (by rw [QcL];omega),YL (by rw [QcL];omega)]
    split
    ·rename_i e;omega
    ·rfl
  rwa [h2] at h1
 ·intro u hu
  obtain⟨rest,hB,hn,hc,hm,hb⟩:=QbB (h.own u hu)
  by_cases he:u=v
  ·subst he
   match rest,hc with
   | [],hc=>simp at hc;omega
   | z :: rest,hc=>
    have h1:=(hB.set (pre u).length (.int .i64 y)).other (p:=⟨g,u,none⟩) (by simp only;omega) (.slice (some ⟨bs.getD u 0,0,none⟩) ((pre u).length+1) (deg u))
    have h2:((pre u).map (Value.int .i64)++z :: rest).set (pre u).length (.int .i64 y)=(upd pre u y u).map (Value.int .i64)++rest:=by
     rw [List.set_append_right _ _ (by simp)]
     simp [upd]
    rw [h2] at h1
    exact Qg5 h1 rfl (by simp [upd] at hc ⊢;omega) hm hb
  ·have hne:bs.getD u 0≠bs.getD v 0:=fun e=>he (h.inj u v hu hv e)
   have h1:=(hB.other (p:=⟨bs.getD v 0,(pre v).length,none⟩) hne (.int .i64 y)).other (p:=⟨g,v,none⟩) (by simp only;omega) (.slice (some ⟨bs.getD v 0,0,none⟩) ((pre v).length+1) (deg v))
   have hup:upd pre v y u=pre u:=by simp [upd,he]
   rw [hup]
   exact Qg5 h1 hn hc hm hb
def nearL (N:Nat)(l:List Ed):List (List Int):=(List.range N).map fun (v:Nat)=>nb l (v:Int)
theorem QfY {N:Nat}{l:List Ed}{v:Nat}(h:v<N):(nearL N l)[v]? = some (nb l (v:Int)):=by simp [nearL,h]
theorem Qa7 (N:Nat)(l:List Ed):(nearL N l).length=N:=by simp [nearL]
theorem NearI.lsts {N g h0:Nat}{bs:List Nat}{deg:Nat→Nat}{l:List Ed}{W:World}(h:NearI N g h0 bs deg (fun v=>nb l (v:Int)) W):Lsts W.heap.size W (.slice (some ⟨g,0,none⟩) N N) (nearL N l):=by
 refine .inr ⟨g,0,N,by rw [Qa7],h.row.lt,by rw [Qa7];exact YA,fun j x hx=>?_⟩
 have hj:j<N:=by have:=(YE hx).1;rwa [Qa7] at this
 rw [QfY hj] at hx
 cases hx
 refine⟨_,by rw [Nat.zero_add];exact h.row.cell (QbM hj),?_⟩
 obtain⟨rest,hB,hn,hc,hm,hb⟩:=QbB (h.own j hj)
 exact .inr ⟨bs.getD j 0,0,deg j,rfl,hB.lt,by omega,fun i y hy=>by
  rw [Nat.zero_add]
  refine hB.cell ?_
  have hi:=(YE hy).1
  rw [List.getElem?_append_left (by simpa using hi),YH,hy];rfl⟩
theorem QfC {A B:World}(hb:Below A.heap.size A B){a:Addr}{v:Value}(h:A.cell? a=some v):B.cell? a=some v:=(hb.cell (World.block_lt_of_cell? A a h)).trans h
def halfV (N:Nat)(bs:List Nat)(deg:Nat→Nat)(j:Nat):List Value:=(List.range N).map fun v=>if v<j then .slice (some ⟨bs.getD v 0,0,none⟩) 0 (deg v) else .slice none 0 0
theorem Qd1 {N:Nat}{bs:List Nat}{deg:Nat→Nat}{j v:Nat}(h:v<N):(halfV N bs deg j)[v]? = some (if v<j then .slice (some ⟨bs.getD v 0,0,none⟩) 0 (deg v) else .slice none 0 0):=by simp [halfV,h]
theorem Qc5 (N:Nat)(bs:List Nat)(deg:Nat→Nat)(j:Nat):(halfV N bs deg j).length=N:=by simp [halfV]
theorem Qkg (N:Nat)(deg:Nat→Nat):halfV N [] deg 0=List.replicate N (.slice none 0 0):=by
 apply List.ext_getElem <;> simp [halfV]
theorem Qkh {N:Nat}{bs:List Nat}{deg:Nat→Nat}{j b:Nat}(hj:j<N)(hl:bs.length=j):(halfV N bs deg j).set j (.slice (some ⟨b,0,none⟩) 0 (deg j))=halfV N (bs++[b]) deg (j+1):=by
 apply List.ext_getElem?
 intro i
 rw [List.getElem?_set,Qc5]
 by_cases hi:i<N
 ·rw [Qd1 hi,Qd1 hi]
  by_cases he:j=i
  ·subst he
   rw [if_pos rfl,if_pos hj,if_pos (by omega)]
   simp [← hl]
  ·rw [if_neg he]
   by_cases h2:i<j
   ·rw [if_pos h2,if_pos (by omega)]
    have:(bs++[b]).getD i 0=bs.getD i 0:=by simp [List.getElem?_append_left (show i<bs.length by omega)]
    rw [this]
   ·rw [if_neg h2,if_neg (by omega)]
 ·rw [YL (by rw [Qc5];omega),YL (by rw [Qc5];omega)]
  split
  ·rename_i e;omega
  ·rfl
theorem Qki (N:Nat)(bs:List Nat)(deg:Nat→Nat):halfV N bs deg N=rowsV N bs (fun _=>[]) deg:=by
 apply List.ext_getElem?
 intro i
 by_cases hi:i<N
 ·rw [Qd1 hi,QbM hi,if_pos hi];rfl
 ·rw [YL (by rw [Qc5];omega),YL (by rw [QcL];omega)]
structure HalfI (N g h0:Nat)(bs:List Nat)(deg:Nat→Nat)(j:Nat)(W:World):Prop where
 len:bs.length=j
 lt:∀ v,v<j→bs.getD v 0<W.heap.size
 inj:∀ u v,u<j→v<j→bs.getD u 0=bs.getD v 0→u=v
 low:∀ v,v<j→h0≤bs.getD v 0
 row:Blk 27 W g (halfV N bs deg j)
 own:∀ v,v<j→W.ownsRow h0 3 1 (.slice (some ⟨bs.getD v 0,0,none⟩) 0 (deg v)) 0 []
theorem Qbk {bs:List Nat}{b v:Nat}(h:v<bs.length):(bs++[b]).getD v 0=bs.getD v 0:=by simp [List.getElem?_append_left h]
theorem Qb9 {bs:List Nat}{b:Nat}:(bs++[b]).getD bs.length 0=b:=by simp
theorem HalfI.step {N g h0:Nat}{bs:List Nat}{deg:Nat→Nat}{j:Nat}{W w6:World}(h:HalfI N g h0 bs deg j W)(hj:j<N)(hgl:g<h0)(hh0:h0≤W.heap.size)(hg:W.grownBy w6 none)
  (hown:w6.ownsRow h0 3 1 (.slice (some ⟨W.heap.size,0,none⟩) 0 (deg j)) 0 []):HalfI N g h0 (bs++[W.heap.size]) deg (j+1) (w6.setCell ⟨g,j,none⟩ (.slice (some ⟨W.heap.size,0,none⟩) 0 (deg j))):=by
 have hlt6:W.heap.size<w6.heap.size:=(hown.lt W.heap.size rfl).2
 have hsz:(w6.setCell ⟨g,j,none⟩ (.slice (some ⟨W.heap.size,0,none⟩) 0 (deg j))).heap.size=w6.heap.size:=by simp
 have hgs:=hg.size
 have hl:=h.len
 refine⟨by simp [hl],fun v hv=>?_,fun u v hu hv he=>?_,fun v hv=>?_,?_,fun v hv=>?_⟩
 ·rw [hsz]
  by_cases e:v=j
  ·subst e;rw [← hl,Qb9];exact hlt6
  ·rw [Qbk (by omega)];have:=h.lt v (by omega);omega
 ·by_cases e:u=j
  ·by_cases e2:v=j
   ·omega
   ·subst e
    rw [← hl,Qb9,Qbk (by omega)] at he
    have:=h.lt v (by omega);omega
  ·by_cases e2:v=j
   ·subst e2
    rw [← hl,Qb9,Qbk (by omega)] at he
    have:=h.lt u (by omega);omega
   ·rw [Qbk (by omega),Qbk (by omega)] at he
    exact h.inj u v (by omega) (by omega) he
 ·by_cases e:v=j
  ·subst e;rw [← hl,Qb9];exact hh0
  ·rw [Qbk (by omega)];exact h.low v (by omega)
 ·have h1:=(h.row.grown hg (by simp)).set j (.slice (some ⟨W.heap.size,0,none⟩) 0 (deg j))
  rwa [Qkh hj hl] at h1
 ·refine QfS ?_ hgl _
  by_cases e:v=j
  ·subst e;rw [← hl,Qb9,hl];exact hown
  ·rw [Qbk (by omega)]
   exact (h.own v (by omega)).kept (row:=none) hg (.inr (by simp [Value.ownBlock]))
theorem HalfI.full {N g h0:Nat}{bs:List Nat}{deg:Nat→Nat}{W:World}(h:HalfI N g h0 bs deg N W)(hgl:g<h0):NearI N g h0 bs deg (fun _=>[]) W:=
 ⟨h.len,h.inj,h.low,hgl,by rw [← Qki];exact h.row,fun v hv=>h.own v hv⟩
theorem QlV (N:Nat)(l:List Ed)(hR:RightG (N:Int) l)(sv:Value)(w:World)(hl:Edges w.heap.size w sv l):
  Calls Tryz.prog 120 #[.agg #[.int .i64 (N:Int),sv]] w fun r w'=>∃ g h0 bs deg,r = .returned (.slice (some ⟨g,0,none⟩) N N)∧NearI N g h0 bs deg (fun v=>nb l (v:Int)) w'∧w.heap.size≤g∧Below w.heap.size w w':=by
 have hmix:=mixed
 have hg1:Grew w (w.alloc (.cells #[.int .i64 (N:Int),sv] 24)):=(Grew.refl w).alloc _
 have hl1:=hl.go hg1.below
 obtain⟨p,c,rfl⟩:=hl.len
 obtain⟨i0,hi,hz0,hz1,hz2⟩:=info_parts infoS
 obtain⟨k0,hki,hkz0,hkz1,hkz2⟩:=info_parts infoI
 have hrc:=fun W h=>Qbz (N:Int) l (.slice p l.length c) W h
 rw [right_iff.2 hR] at hrc
 have hn1:=hR.n1
 have hm1:=hR.m1
 go_enter Tryz.func120,Tryz.ntmps120
 go_wp2_with fail
 refine (hrc _ hl1).mono ?_
 rintro e w2 ⟨rfl,hg2⟩
 have q0:=(box2 _ hg2).1
 have q1:=(box2 _ hg2).2
 have hbox:=Qe1 hg2
 have hbw:=(hg1.trans hg2).below
 clear hrc hl1
 go_wp2_with (at_make;refine wpList_make_full _ rfl _ _ 35 rfl w2.heap.size 27 i0 (.slice none 0 0) 1 Tryz.underlying35 hi hz0 hz1 .i64 .i64 _ _ N rfl rfl rfl rfl (by rw [hz2];omega) (by unfold maxLen;omega) YA ?_;intro w3 hown hgrow;have hb3:Below w2.heap.size w2 w3:=YD.grown hgrow YA (fun k e=>by cases e);have x0:=(hb3.cell (p:=⟨w.heap.size,0,none⟩) hbox).trans q0;have x1:=(hb3.cell (p:=⟨w.heap.size,1,none⟩) hbox).trans q1)
 have hrow:=Blk.made hown
 rw [QhM] at hrow
 have hbw3:=hbw.trans (hb3.mono hbw.size)
 have hgl3:=hrow.lt
 clear hown hgrow hi hz0 hz1 hz2 hb3 q0 q1 hg2 hg1 hbw
 generalize w2.heap.size=g at hrow hbox hgl3
 go_wp2_with fail
 refine (Qcy N l hR _ _ (hl.go hbw3)).mono ?_
 rintro e w4 ⟨dv,rfl,hdI,⟨gd,rfl,hgd⟩,hb4⟩
 have hrow4:=hrow.go hb4
 have y0:=QfC hb4 x0
 have y1:=QfC hb4 x1
 have hbw4:=hbw3.trans (hb4.mono hbw3.size)
 have hgl4:=hrow4.lt
 have hdI':∀ v,v<N→w4.cell? ⟨gd,v,none⟩=some (.int .i64 ((nb l (v:Int)).length:Int)):=fun v hv=>by
  rcases hdI with ⟨_,h0⟩ | ⟨b,off,cap,h1,h2,h3,h4⟩
  ·have:=congrArg List.length h0;rw [QbW] at this;simp at this;omega
  ·simp only [Value.slice.injEq,Option.some.injEq,Addr.mk.injEq] at h1
   obtain⟨⟨rfl,rfl,_⟩,_,_⟩:=h1
   have:=h4 v _ (QcA (l:=l) (j:=l.length) hv)
   rwa [Nat.zero_add,List.take_length] at this
 have hgd4:N=0∨gd<w4.heap.size:=by
  by_cases h:N=0
  ·exact .inl h
  ·exact .inr (World.block_lt_of_cell? w4 ⟨gd,0,none⟩ (hdI' 0 (by omega)))
 clear hdI hrow hb4 x0 x1 hbw3
 go_wp2
 go_loopw [17] (fun i wr=>∃ (j:Nat) (bs:List Nat),j≤N∧i = .int .i64 j∧HalfI N g w4.heap.size bs (fun v=>(nb l (v:Int)).length) j wr∧w4.grownBy wr (some g)) (fun i _=>N-(intOf i).toNat)
 case atStart=>exact⟨0,[],YN,rfl,⟨rfl,fun v h=>by omega,fun u v h=>by omega,fun v h=>by omega,by rw [Qkg];exact hrow4,fun v h=>by omega⟩,⟨rfl,rfl,rfl,YA,fun _ _ _=>rfl⟩⟩
 case round=>
  obtain⟨j,bs,hj,rfl,hH,hgr⟩:=hrel
  by_cases hlt:j<N
  ·have hgdl:gd<w4.heap.size:=by omega
   have c0:=(hgr.cell_far ⟨gd,j,none⟩ hgdl (by simp;omega)).trans (hdI' j hlt)
   have hjl:(j:Int)<(N:Int):=by omega
   have hdl:=QaX (j:Int) l
   have hgs:=hgr.size
   go_wp2_with (at_make;refine wpList_make_own _ rfl _ _ 27 rfl w4.heap.size 3 k0 (.int .i64 0) 1 Tryz.underlying27 hki hkz0 hkz1 .i64 .i64 _ (nb l (j:Int)).length rfl rfl rfl (by rw [hkz2];omega) (by unfold maxLen;omega) hgs ?_;intro w6 hown6 hgrow6;have hR6:=hH.row.grown hgrow6 (by simp);have o1:=hR6.cell (Qd1 hlt);have f1:=hR6.frozen j;rw [if_neg (Nat.lt_irrefl j)] at o1)
   have hgr6:w4.grownBy (w6.setCell ⟨g,j,none⟩ (.slice (some ⟨wr.heap.size,0,none⟩) 0 (nb l (j:Int)).length)) (some g):=by
    refine⟨hgrow6.os.trans hgr.os,hgrow6.tape.trans hgr.tape,hgrow6.output.trans hgr.output,by have:=hgrow6.size;simp;omega,fun k hk hne=>?_⟩
    have hkg:k≠g:=fun e=>hne (by rw [e])
    exact ((Below.heap_setCell _ _ _ _ hkg).trans (hgrow6.block k (by omega) (by simp))).trans (hgr.block k hk hne)
   exact⟨⟨j+1,_,by omega,by go_num,hH.step hlt hgl4 hgs hgrow6 hown6,hgr6⟩,by simp [intOf];omega⟩
  ·obtain rfl:j=N:=by omega
   have hN:=hH.full hgl4
   have z1:=(hgr.cell_far ⟨w.heap.size,1,none⟩ (by show w.heap.size<_;omega) (by simp;omega)).trans y1
   have hbr:Below g w4 wr:=⟨hgr.os,hgr.tape,hgr.output,hgr.size,fun k hk=>hgr.block k (by omega) (by simp;omega)⟩
   have hbwr:=hbw4.trans (hbr.mono (by omega))
   have hszr:=hgr.size
   clear hH hgr hdI' hrow4 y0 y1 hki hkz0 hkz1 hkz2
   generalize w4.heap.size=h0 at hN hgl4 hszr
   go_wp2
   go_loopw [31] (fun i w5=>∃ (i':Nat),i'≤l.length∧i = .int .i64 i'∧NearI j g h0 bs (fun v=>(nb l (v:Int)).length) (fun v=>nb (l.take i') (v:Int)) w5∧Below g wr w5∧h0≤w5.heap.size) (fun i _=>l.length-(intOf i).toNat)
   case atStart=>exact⟨0,YN,rfl,hN,YD,hszr⟩
   case round=>
    obtain⟨i',hi',rfl,hI,hb,hs5⟩:=hrel
    have hbw5:=hbwr.trans (hb.mono (by omega))
    by_cases hlt:i'<l.length
    ·obtain⟨b,off,rfl,hbb,hcap,hc,-⟩:=hl.open hlt
     obtain⟨c0,c1,c2⟩:=hc _ hbw5 i' hlt
     have hok:=hR.each l[i'] (YG hlt)
     unfold okE at hok
     obtain⟨u,hu⟩:∃ u:Nat,l[i'].1=(u:Int):=⟨l[i'].1.toNat,by omega⟩
     obtain⟨v,hv⟩:∃ v:Nat,l[i'].2.1=(v:Int):=⟨l[i'].2.1.toNat,by omega⟩
     have huN:u<j:=by omega
     have hvN:v<j:=by omega
     have hne:u≠v:=by omega
     have huN':(u:Int)<(j:Int):=by omega
     have hvN':(v:Int)<(j:Int):=by omega
     have hjl:(i':Int)<(l.length:Int):=by omega
     have HF:Hid ((fun x:Nat=>nb (l.take (i'+1)) (x:Int))=upd (upd (fun x:Nat=>nb (l.take i') (x:Int)) u (v:Int)) v (u:Int)):=by
      unfold Hid
      funext x
      rw [Qb5 hlt]
      unfold upd nbOf
      rw [hu,hv]
      by_cases hxv:x=v
      ·subst hxv
       have h1:¬ ((u:Int)=(x:Int)):=by omega
       have h2:¬ x=u:=by omega
       simp [h1,h2]
      ·by_cases hxu:x=u
       ·subst hxu
        simp [hxv]
       ·have h1:¬ ((u:Int)=(x:Int)):=by omega
        have h2:¬ ((v:Int)=(x:Int)):=by omega
        simp [hxv,hxu,h1,h2]
     have hpu:(nb (l.take i') (u:Int)).length+1≤(nb l (u:Int)).length:=by
      have h1:=QgW l (u:Int) (i'+1)
      rw [Qb5 hlt,YI] at h1
      unfold nbOf at h1
      rw [hu,if_pos rfl] at h1
      simpa using h1
     have hpv:(nb (l.take i') (v:Int)).length+1≤(nb l (v:Int)).length:=by
      have h1:=QgW l (v:Int) (i'+1)
      rw [Qb5 hlt,YI] at h1
      unfold nbOf at h1
      rw [hu,hv,if_neg (by omega),if_pos rfl] at h1
      simpa using h1
     rw [hu] at c0
     rw [hv] at c1
     have hP1:=hI.push huN (v:Int) hpu
     have hlen2:(upd (fun x:Nat=>nb (l.take i') (x:Int)) u (v:Int) v).length+1≤(nb l (v:Int)).length:=by
      unfold upd;rw [if_neg (Ne.symm hne)];exact hpv
     have o1:=hI.row.cell (QbM huN)
     have fo1:=hI.row.frozen u
     obtain⟨rest,hBu,hnu,hcu,-,hbu⟩:=QbB (hI.own u huN)
     have hgl5:=hI.row.lt
     have hbl5v:bs.getD v 0<wr.heap.size:=by obtain⟨_,h,_⟩:=QbB (hI.own v hvN);exact h.lt
     have hbl5:=hBu.lt
     have hbg:bs.getD u 0≠g:=by omega
     obtain⟨z,hz⟩:∃ z,wr.cell? ⟨bs.getD u 0,(nb (l.take i') (u:Int)).length,none⟩=some z:=by
      refine⟨_,hBu.cell (YB ?_)⟩
      simp only [YI,List.length_map];omega
     have fz:=hBu.frozen (nb (l.take i') (u:Int)).length
     have HI:Hid _:=hI
     have hb2:Below g wr ((wr.setCell ⟨bs.getD u 0,(nb (l.take i') (u:Int)).length,none⟩ (.int .i64 (v:Int))).setCell ⟨g,u,none⟩ (.slice (some ⟨bs.getD u 0,0,none⟩) ((nb (l.take i') (u:Int)).length+1) (nb l (u:Int)).length)):=(YD.setCell (p:=⟨bs.getD u 0,_,none⟩) (by simp only;omega) _).setCell (p:=⟨g,u,none⟩) YA _
     have HP1:Hid _:=hP1
     have HB2:Hid _:=hb2
     clear hc hok hu hv hI hBu hP1 hb2
     generalize (nb (l.take i') (u:Int)).length=pu at *
     generalize hdu:(nb l (u:Int)).length=du at *
     generalize bs.getD u 0=bu at *
     generalize l[i'].2.2=wv at c2
     go_wp2
     go_big_region_o
     have hsz2:((wr.setCell ⟨bu,pu,none⟩ (.int .i64 (v:Int))).setCell ⟨g,u,none⟩ (.slice (some ⟨bu,0,none⟩) (pu+1) du)).heap.size=wr.heap.size:=by simp
     have hgr2:Grew ((wr.setCell ⟨bu,pu,none⟩ (.int .i64 (v:Int))).setCell ⟨g,u,none⟩ (.slice (some ⟨bu,0,none⟩) (pu+1) du)) (((((wr.setCell ⟨bu,pu,none⟩ (.int .i64 (v:Int))).setCell ⟨g,u,none⟩ (.slice (some ⟨bu,0,none⟩) (pu+1) du)).alloc (.cells #[.int .i64 (u:Int),.int .i64 (v:Int),.int .i64 wv] 50)).alloc (.cells #[.int .i64 (v:Int)] 3)).drew):=(((Grew.refl _).alloc _).alloc _).drewN 1
     have hI2:=HP1.out.go hgr2.below
     have hb3:Below g wr (((((wr.setCell ⟨bu,pu,none⟩ (.int .i64 (v:Int))).setCell ⟨g,u,none⟩ (.slice (some ⟨bu,0,none⟩) (pu+1) du)).alloc (.cells #[.int .i64 (u:Int),.int .i64 (v:Int),.int .i64 wv] 50)).alloc (.cells #[.int .i64 (v:Int)] 3)).drew):=HB2.out.trans (hgr2.below.mono (by rw [hsz2];omega))
     have e0:(((((wr.setCell ⟨bu,pu,none⟩ (.int .i64 (v:Int))).setCell ⟨g,u,none⟩ (.slice (some ⟨bu,0,none⟩) (pu+1) du)).alloc (.cells #[.int .i64 (u:Int),.int .i64 (v:Int),.int .i64 wv] 50)).alloc (.cells #[.int .i64 (v:Int)] 3)).drew).cell? ⟨wr.heap.size,0,none⟩=some (.int .i64 (u:Int)):=by go_simp
     have e1:(((((wr.setCell ⟨bu,pu,none⟩ (.int .i64 (v:Int))).setCell ⟨g,u,none⟩ (.slice (some ⟨bu,0,none⟩) (pu+1) du)).alloc (.cells #[.int .i64 (u:Int),.int .i64 (v:Int),.int .i64 wv] 50)).alloc (.cells #[.int .i64 (v:Int)] 3)).drew).cell? ⟨wr.heap.size,1,none⟩=some (.int .i64 (v:Int)):=by go_simp
     have hs6:wr.heap.size<(((((wr.setCell ⟨bu,pu,none⟩ (.int .i64 (v:Int))).setCell ⟨g,u,none⟩ (.slice (some ⟨bu,0,none⟩) (pu+1) du)).alloc (.cells #[.int .i64 (u:Int),.int .i64 (v:Int),.int .i64 wv] 50)).alloc (.cells #[.int .i64 (v:Int)] 3)).drew).heap.size:=by simp;omega
     generalize ((((wr.setCell ⟨bu,pu,none⟩ (.int .i64 (v:Int))).setCell ⟨g,u,none⟩ (.slice (some ⟨bu,0,none⟩) (pu+1) du)).alloc (.cells #[.int .i64 (u:Int),.int .i64 (v:Int),.int .i64 wv] 50)).alloc (.cells #[.int .i64 (v:Int)] 3)).drew=w6 at hI2 hb3 e0 e1 hs6 ⊢
     clear HP1 HB2 hgr2 hsz2 o1 fo1 hz fz
     have hP2:=hI2.push hvN (u:Int) hlen2
     have o2:=hI2.row.cell (QbM hvN)
     have fo2:=hI2.row.frozen v
     obtain⟨rest2,hBv,hnv,hcv,-,hbv⟩:=QbB (hI2.own v hvN)
     have hgl6:=hI2.row.lt
     have hbl6:=hBv.lt
     have hbg2:bs.getD v 0≠g:=by omega
     obtain⟨z2,hz2⟩:∃ z,w6.cell? ⟨bs.getD v 0,(upd (fun x:Nat=>nb (l.take i') (x:Int)) u (v:Int) v).length,none⟩=some z:=by
      refine⟨_,hBv.cell (YB ?_)⟩
      simp only [YI,List.length_map];omega
     have fz2:=hBv.frozen (upd (fun x:Nat=>nb (l.take i') (x:Int)) u (v:Int) v).length
     have hb4:Below g wr ((w6.setCell ⟨bs.getD v 0,(upd (fun x:Nat=>nb (l.take i') (x:Int)) u (v:Int) v).length,none⟩ (.int .i64 (u:Int))).setCell ⟨g,v,none⟩ (.slice (some ⟨bs.getD v 0,0,none⟩) ((upd (fun x:Nat=>nb (l.take i') (x:Int)) u (v:Int) v).length+1) (nb l (v:Int)).length)):=(hb3.setCell (p:=⟨bs.getD v 0,_,none⟩) (by simp only;omega) _).setCell (p:=⟨g,v,none⟩) YA _
     rw [← HF.out] at hP2
     have HP2:Hid _:=hP2
     have HB4:Hid _:=hb4
     clear hI2 hBv hP2 hb4 hnv hcv
     generalize (upd (fun x:Nat=>nb (l.take i') (x:Int)) u (v:Int) v).length=pv at *
     generalize (nb l (v:Int)).length=dv at *
     have hbe:bs.getD v 0≠wr.heap.size:=by omega
     have hge:g≠wr.heap.size:=by omega
     have hbg2':g≠bs.getD v 0:=by omega
     have HB0:Hid _:=hb
     have HZ:Hid (h0≤w6.heap.size∧g≤w6.heap.size):=⟨by omega,by omega⟩
     have hgr3:Grew ((w6.setCell ⟨bs.getD v 0,pv,none⟩ (.int .i64 (u:Int))).setCell ⟨g,v,none⟩ (.slice (some ⟨bs.getD v 0,0,none⟩) (pv+1) dv)) ((((w6.setCell ⟨bs.getD v 0,pv,none⟩ (.int .i64 (u:Int))).setCell ⟨g,v,none⟩ (.slice (some ⟨bs.getD v 0,0,none⟩) (pv+1) dv)).alloc (.cells #[.int .i64 (u:Int)] 3)).drew):=((Grew.refl _).alloc _).drewN 1
     have hsz3:((w6.setCell ⟨bs.getD v 0,pv,none⟩ (.int .i64 (u:Int))).setCell ⟨g,v,none⟩ (.slice (some ⟨bs.getD v 0,0,none⟩) (pv+1) dv)).heap.size=w6.heap.size:=by simp
     have HI3:Hid _:=HP2.out.go hgr3.below
     have HB5:Hid (Below g wr ((((w6.setCell ⟨bs.getD v 0,pv,none⟩ (.int .i64 (u:Int))).setCell ⟨g,v,none⟩ (.slice (some ⟨bs.getD v 0,0,none⟩) (pv+1) dv)).alloc (.cells #[.int .i64 (u:Int)] 3)).drew)):=HB4.out.trans (hgr3.below.mono (by rw [hsz3];exact HZ.out.2))
     have HS7:Hid (h0≤((((w6.setCell ⟨bs.getD v 0,pv,none⟩ (.int .i64 (u:Int))).setCell ⟨g,v,none⟩ (.slice (some ⟨bs.getD v 0,0,none⟩) (pv+1) dv)).alloc (.cells #[.int .i64 (u:Int)] 3)).drew).heap.size):=by have:=HZ.out.1;unfold Hid;simp;omega
     have HLT:Hid (i'<l.length):=hlt
     clear hgr3 hsz3 HP2 HB4
     clear hcu hpu hpv c0 c1 c2 hb hbl5 hbl5v hbg HF HI hl z1 hbb hcap hbw5 hi' hs5 hb3 hbu hbv hgl5 hbw4 hbwr hszr hN hR hn1 hgd4 hbr hgl3 hgd hbox hjl huN huN'
     generalize bs.getD v 0=bv at *
     go_wp2
     refine wp_region_held_drew (S:=(fun w':World=>w'.cell? ⟨wr.heap.size,0,none⟩=some (.int .i64 (u:Int))∧w'.cell? ⟨wr.heap.size,1,none⟩=some (.int .i64 (v:Int)))) (by kernel_rfl) ?_ (fun hHeld=>?_)
     ·(try dsimp only);go_keep
     refine tH 0 ?_
     try simp only [YS]
     refine tH 1 ?_
     refine tH 2 ?_
     refine tH 3 ?_
     refine tH 4 ?_
     refine tH 5 ?_
     refine tH 6 ?_
     refine tH 8 ?_
     refine tH 9 ?_
     refine wpAnyH_ready (rs:=[7,10]) (by kernel_rfl) (by simp) ?_
     refine AllReadyH.cons rfl (fun K hK=>?_) (AllReadyH.cons rfl (fun K hK=>?_) AllReadyH.nil)
     ·go_simp
      refine hK.out _ _ ?_ (fun hHeld=>?_)
      ·(try dsimp only);go_keep
      clear hK K
      try simp only [Act.put,YS,YT,YU]
      refine wpAnyH_ready (rs:=[10]) (by kernel_rfl) (by simp) ?_
      refine AllReadyH.cons rfl (fun K hK=>?_) AllReadyH.nil
      go_simp
      refine hK.out _ _ ?_ (fun hHeld=>?_)
      ·(try dsimp only);go_keep
      clear hK K
      try simp only [Act.put,YS,YT,YU]
      refine wpAnyH_ready (rs:=[11]) (by kernel_rfl) (by simp) ?_
      refine AllReadyH.cons rfl (fun K hK=>?_) AllReadyH.nil
      go_simp
      refine hK.out _ _ ?_ (fun hHeld=>?_)
      ·(try dsimp only);go_keep
      clear hK K
      try simp only [Act.put,YS,YT,YU]
      refine tH 12 ?_
      try simp only [YS]
      refine wpAnyH_ready (rs:=[13]) (by kernel_rfl) (by simp) ?_
      refine AllReadyH.cons rfl (fun K hK=>?_) AllReadyH.nil
      go_simp
      refine hK.out _ _ ?_ (fun hHeld=>?_)
      ·(try dsimp only);go_keep
      clear hK K
      try simp only [Act.put,YS,YT,YU]
      refine wpAnyH_done (by kernel_rfl) ?_ _
      go_wp2
      exact⟨⟨i'+1,HLT.out,by go_num,HI3.out,HB0.out.trans HB5.out,HS7.out⟩,by have:=HLT.out;simp [intOf];omega⟩
     ·go_simp
      refine hK.out _ _ ?_ (fun hHeld=>?_)
      ·(try dsimp only);go_keep
      clear hK K
      try simp only [Act.put,YS,YT,YU]
      refine wpAnyH_ready (rs:=[7]) (by kernel_rfl) (by simp) ?_
      refine AllReadyH.cons rfl (fun K hK=>?_) AllReadyH.nil
      go_simp
      refine hK.out _ _ ?_ (fun hHeld=>?_)
      ·(try dsimp only);go_keep
      clear hK K
      try simp only [Act.put,YS,YT,YU]
      refine wpAnyH_ready (rs:=[11]) (by kernel_rfl) (by simp) ?_
      refine AllReadyH.cons rfl (fun K hK=>?_) AllReadyH.nil
      go_simp
      refine hK.out _ _ ?_ (fun hHeld=>?_)
      ·(try dsimp only);go_keep
      clear hK K
      try simp only [Act.put,YS,YT,YU]
      refine tH 12 ?_
      try simp only [YS]
      refine wpAnyH_ready (rs:=[13]) (by kernel_rfl) (by simp) ?_
      refine AllReadyH.cons rfl (fun K hK=>?_) AllReadyH.nil
      go_simp
      refine hK.out _ _ ?_ (fun hHeld=>?_)
      ·(try dsimp only);go_keep
      clear hK K
      try simp only [Act.put,YS,YT,YU]
      refine wpAnyH_done (by kernel_rfl) ?_ _
      go_wp2
      exact⟨⟨i'+1,HLT.out,by go_num,HI3.out,HB0.out.trans HB5.out,HS7.out⟩,by have:=HLT.out;simp [intOf];omega⟩
    ·obtain rfl:i'=l.length:=by omega
     rw [List.take_length] at hI
     have hwg:w.heap.size≤g:=by omega
     go_wp2
     go_ret
     exact⟨g,h0,bs,_,rfl,hI,hwg,hbw5⟩
theorem QnP (N:Nat)(l:List Ed)(hR:RightG (N:Int) l)(sv:Value)(w:World)(hl:Edges w.heap.size w sv l):
  Calls Tryz.prog 120 #[.agg #[.int .i64 (N:Int),sv]] w fun r w'=>∃ nv,r = .returned nv∧Lsts w'.heap.size w' nv (nearL N l)∧Below w.heap.size w w':=
 (QlV N l hR sv w hl).mono fun _ _ ⟨_,_,_,_,h1,h2,_,h3⟩=>⟨_,h1,h2.lsts,h3⟩
theorem Qmq:(Tryz.prog.info? 91).map (fun i=>(i.zero,i.size,i.bytes))=some (some (.agg #[.int .i64 0,.int .i64 0]),2,16):=by kernel_rfl
def encDc (d:Dt):List Value:=[.int .i64 d.1,.int .i64 d.2]
def flatD (L:List Dt):List Value:=L.flatMap encDc
theorem QfA (L:List Dt)(d:Dt):flatD (L++[d])=flatD L++encDc d:=by simp [flatD]
theorem QbV:∀ {L:List Dt}{j:Nat}{x:Dt} ,L[j]? = some x→(flatD L)[j*2]? = some (.int .i64 x.1)∧(flatD L)[j*2+1]? = some (.int .i64 x.2)
 | [],j,x,h=>by simp at h
 | y :: L,0,x,h=>by
  have:y=x:=by simpa using h
  subst this
  exact⟨rfl,rfl⟩
 | y :: L,j+1,x,h=>by
  have h':L[j]? = some x:=by simpa using h
  obtain⟨h1,h2⟩:=QbV h'
  have e:flatD (y :: L)=[.int .i64 y.1,.int .i64 y.2]++flatD L:=rfl
  rw [e,List.getElem?_append_right (by simp;omega),List.getElem?_append_right (by simp;omega)]
  have e1:(j+1)*2-[Value.int .i64 y.1,Value.int .i64 y.2].length=j*2:=by simp;omega
  have e2:(j+1)*2+1-[Value.int .i64 y.1,Value.int .i64 y.2].length=j*2+1:=by simp;omega
  rw [e1,e2]
  exact⟨h1,h2⟩
def Drts (n:Nat)(W:World)(sv:Value)(L:List Dt):Prop:=
 ((∃ p c,sv = .slice p 0 c)∧L=[])∨∃ b off cap,sv = .slice (some ⟨b,off,none⟩) L.length cap∧b<n∧L.length≤cap∧∀ j x,L[j]? = some x→W.cell? ⟨b,off+j*2,none⟩=some (.int .i64 x.1)∧W.cell? ⟨b,off+j*2+1,none⟩=some (.int .i64 x.2)
theorem Drts.below {n:Nat}{W W':World}{sv:Value}{L:List Dt}(h:Drts n W sv L)(hb:Below n W W'):Drts n W' sv L:=by
 rcases h with h | ⟨b,off,cap,h1,h2,h3,h4⟩
 ·exact .inl h
 ·exact .inr ⟨b,off,cap,h1,h2,h3,fun j x hx=>⟨(hb.cell (p:=⟨b,_,none⟩) h2).trans (h4 j x hx).1,(hb.cell (p:=⟨b,_,none⟩) h2).trans (h4 j x hx).2⟩⟩
theorem Drts.mono {n m:Nat}{W:World}{sv:Value}{L:List Dt}(h:Drts n W sv L)(hb:n≤m):Drts m W sv L:=by
 rcases h with h | ⟨b,off,cap,h1,h2,h3,h4⟩
 ·exact .inl h
 ·exact .inr ⟨b,off,cap,h1,Nat.lt_of_lt_of_le h2 hb,h3,h4⟩
theorem Drts.go {W W':World}{sv:Value}{L:List Dt}(h:Drts W.heap.size W sv L)(hb:Below W.heap.size W W'):Drts W'.heap.size W' sv L:=(h.below hb).mono hb.size
theorem Drts.len {n:Nat}{W:World}{sv:Value}{L:List Dt}(h:Drts n W sv L):∃ p c,sv = .slice p L.length c:=by
 rcases h with ⟨⟨p,c,rfl⟩,rfl⟩ | ⟨b,off,cap,rfl,_⟩ <;> exact⟨_,_,rfl⟩
theorem Drts.cellAt {n:Nat}{w:World}{p:Option Addr}{c:Nat}{L:List Dt}(h:Drts n w (.slice p L.length c) L){j:Nat}(hj:j<L.length):
  ∃ b off,p=some ⟨b,off,none⟩∧b<n∧L.length≤c∧w.cell? ⟨b,off+j*2,none⟩=some (.int .i64 L[j].1)∧w.cell? ⟨b,off+j*2+1,none⟩=some (.int .i64 L[j].2):=by
 rcases h with ⟨_,h0⟩ | ⟨b,off,cap,h1,h2,h3,h4⟩
 ·subst h0;simp at hj
 ·simp only [Value.slice.injEq] at h1
  obtain⟨rfl,_,rfl⟩:=h1
  obtain⟨h5,h6⟩:=h4 j _ (YB hj)
  exact⟨b,off,rfl,h2,h3,h5,h6⟩
theorem Drts.of_owns {W:World}{base:Nat}{e:TypeId}{v:Value}{L:List Dt}(h:W.ownsRow base e 2 v L.length (flatD L)):Drts W.heap.size W v L:=by
 rcases h.2 with ⟨rfl,h0⟩ | ⟨g,cap,cur,rfl,hb,hg,hn,hc⟩
 ·exact .inl ⟨⟨_,_,rfl⟩,List.eq_nil_of_length_eq_zero h0⟩
 ·refine .inr ⟨g,0,cap,rfl,(Array.getElem?_eq_some_iff.1 hg).1,hn,fun j x hx=>?_⟩
  obtain⟨k0,k1⟩:=QbV hx
  have c0:=h.cells (g:=g) rfl (j*2) _ k0
  have c1:=h.cells (g:=g) rfl (j*2+1) _ k1
  rw [Go.WideShapes.add_plain] at c0 c1
  exact⟨c0,c1⟩
theorem newsD {w:World}{t:TypeId}(d:Dt):∀ (i:Nat) (u:Value),(encDc d)[i]? = some u→(w.alloc (.cells #[.int .i64 d.1,.int .i64 d.2] t)).cell? ((⟨w.heap.size,0,none⟩:Addr).add i)=some u:=by
 intro i u h
 match i,h with
 | 0,h=>
  have:u = .int .i64 d.1:=by simpa [encDc] using h.symm
  subst this
  simp [Addr.add]
 | 1,h=>
  have:u = .int .i64 d.2:=by simpa [encDc] using h.symm
  subst this
  simp [Addr.add]
 | i+2,h=>simp [encDc] at h
theorem oneD (d:Dt):∀ u∈encDc d,u.oneCell'=true:=by
 intro u hu
 simp only [encDc,List.mem_cons,List.not_mem_nil,or_false] at hu
 rcases hu with rfl | rfl <;> rfl
theorem QeY (l:List Ed)(j:Nat):Qal (j+1) l=Qal j l++(nb l (j:Int)).map fun v=>((j:Int),v):=by
 unfold Qal
 rw [List.range_succ,List.flatMap_append]
 simp
theorem Qco {l:List Ed}(hm:l.length≤4194304):∀ j,(Qal j l).length≤j*4194304
 | 0=>by simp [Qal]
 | j+1=>by
  have:=Qco hm j
  have:=QaX (j:Int) l
  rw [QeY,YI,List.length_map]
  omega
theorem NearI.grown {N g h0:Nat}{bs:List Nat}{deg:Nat→Nat}{pre:Nat→List Int}{A B:World}{q:Option Nat}(h:NearI N g h0 bs deg pre A)(hg:A.grownBy B q)(h1:some g≠q)(h2:∀ v,v<N→some (bs.getD v 0)≠q):NearI N g h0 bs deg pre B:=
 ⟨h.len,h.inj,h.low,h.out,h.row.grown hg h1,fun v hv=>Qau (h.own v hv) hg (.inr (h2 v hv))⟩
def preD (l:List Ed)(j k:Nat):List Dt:=Qal j l++((nb l (j:Int)).take k).map fun v=>((j:Int),v)
theorem Qln (l:List Ed)(j:Nat):preD l j 0=Qal j l:=by simp [preD]
theorem Qlp (l:List Ed)(j:Nat):preD l j (nb l (j:Int)).length=Qal (j+1) l:=by unfold preD;rw [List.take_length,QeY]
theorem Qlo {l:List Ed}{j k:Nat}(h:k<(nb l (j:Int)).length):preD l j (k+1)=preD l j k++[((j:Int),(nb l (j:Int))[k])]:=by
 unfold preD
 rw [List.take_add_one,YB h,List.map_append,List.append_assoc]
 rfl
theorem QnC {l:List Ed}(hm:l.length≤4194304)(j k:Nat):(preD l j k).length≤(j+1)*4194304:=by
 unfold preD
 have:=Qco hm j
 have:=QaX (j:Int) l
 rw [YI,List.length_map,List.length_take]
 omega
theorem QmS (N:Nat)(l:List Ed)(hR:RightG (N:Int) l)(sv:Value)(w:World)(hl:Edges w.heap.size w sv l):
  Calls Tryz.prog 125 #[.agg #[.int .i64 (N:Int),sv]] w fun r w'=>∃ dv,r = .returned dv∧w'.ownsRow w.heap.size 91 2 dv (Qal N l).length (flatD (Qal N l))∧Below w.heap.size w w':=by
 obtain⟨p,c,rfl⟩:=hl.len
 have hg1:Grew w (w.alloc (.cells #[.int .i64 (N:Int),.slice p l.length c] 24)):=(Grew.refl w).alloc _
 have hX1:Blk 24 (w.alloc (.cells #[.int .i64 (N:Int),.slice p l.length c] 24)) w.heap.size [.int .i64 (N:Int),.slice p l.length c]:=heap_alloc_new w _
 obtain⟨i0,hi,hz0,hz1,hz2⟩:=info_parts Qmq
 have hn1:=hR.n1
 have hm1:=hR.m1
 have q0:=hX1.cell (j:=0) rfl
 have q1:=hX1.cell (j:=1) rfl
 have hs1:(w.alloc (.cells #[.int .i64 (N:Int),.slice p l.length c] 24)).heap.size=w.heap.size+1:=by simp
 go_enter Tryz.func125,Tryz.ntmps125
 go_wp2_with (at_make;refine wpList_make_own _ rfl _ _ 92 rfl w.heap.size 91 i0 (.agg #[.int .i64 0,.int .i64 0]) 2 Tryz.underlying92 hi hz0 hz1 .i64 .i64 _ (2*l.length) rfl rfl (by go_num) (by rw [hz2];omega) (by unfold maxLen;omega) (by rw [hs1];omega) ?_;intro w3 hown hgrow;have hb3:Below (w.heap.size+1) (w.alloc (.cells #[.int .i64 (N:Int),.slice p l.length c] 24)) w3:=YD.grown hgrow (by rw [hs1];exact YA) (fun k e=>by cases e);have x0:=(hb3.cell (p:=⟨w.heap.size,0,none⟩) (by simp only;omega)).trans q0;have x1:=(hb3.cell (p:=⟨w.heap.size,1,none⟩) (by simp only;omega)).trans q1;have hbw3:Below w.heap.size w w3:=hg1.below.trans (hb3.mono (by omega));have hnr:=QlV N l hR _ _ (hl.go hbw3);rw [hs1] at hown;have hsz3:w.heap.size+1<w3.heap.size:=(hown.lt _ rfl).2)
 clear hgrow hb3 hX1 hg1 hs1 q0 q1
 go_wp2_with fail
 refine hnr.mono ?_
 clear hnr
 rintro e w4 ⟨gn,hn0,bsn,degn,rfl,hN4,hgn,hb4⟩
 have hbw4:=hbw3.trans (hb4.mono hbw3.size)
 have hown4:=QaU hown hb4
 have hn40:=hb4.size
 have hb30:=hbw3.size
 clear hown hb4 x0 x1 hbw3
 go_wp2
 go_loopw [3,16] (fun ov iv wr=>∃ j:Nat,j≤N∧iv = .int .i64 j∧wr.ownsRow w.heap.size 91 2 ov (Qal j l).length (flatD (Qal j l))∧NearI N gn hn0 bsn degn (fun v=>nb l (v:Int)) wr∧(ov.ownBlock=some (w.heap.size+1)∨∃ q,ov.ownBlock=some q∧w4.heap.size≤q)∧Below w.heap.size w wr∧w4.heap.size≤wr.heap.size) (fun _ iv _=>N-(intOf iv).toNat)
 case atStart=>exact⟨0,YN,rfl,hown4,hN4,.inl rfl,hbw4,YA⟩
 case round=>
  obtain⟨j,hj,rfl,hown,hNr,hob,hb,hsr⟩:=hrel
  have hfew:=Qco hm1 j
  obtain⟨ax,cx,rfl⟩:=Qag hown
  by_cases hlt:j<N
  ·have hjl:(j:Int)<(N:Int):=by omega
   have c0:=hNr.row.cell (QbM hlt)
   obtain⟨bj,HBJ⟩:∃ bj,Hid (bsn.getD j 0=bj):=⟨_,rfl⟩
   rw [HBJ.out] at c0
   have hgn4:=hN4.row.lt
   have HBS4:Hid (∀ v,v<N→bsn.getD v 0<w4.heap.size):=fun v hv=>((hN4.own v hv).lt _ rfl).2
   have HBSL:Hid (∀ v,v<N→hn0≤bsn.getD v 0):=hN4.low
   have hno:=hN4.out
   rw [← Qln] at hown hob ⊢
   have HFL:Hid _:=Qlp l j
   have hnl:=QaX (j:Int) l
   generalize wr=w5 at *
   go_wp2
   go_loopw [3,23] (fun ov iv wr=>∃ k:Nat,k≤(nb l (j:Int)).length∧iv = .int .i64 k∧wr.ownsRow w.heap.size 91 2 ov (preD l j k).length (flatD (preD l j k))∧NearI N gn hn0 bsn degn (fun v=>nb l (v:Int)) wr∧(ov.ownBlock=some (w.heap.size+1)∨∃ q,ov.ownBlock=some q∧w4.heap.size≤q)∧Below w.heap.size w wr∧w4.heap.size≤wr.heap.size) (fun _ iv _=>(nb l (j:Int)).length-(intOf iv).toNat)
   case atStart=>exact⟨0,YN,rfl,hown,hNr,hob,hb,hsr⟩
   case round=>
    obtain⟨k,hk,rfl,hownk,hNk,hobk,hbk,hsk⟩:=hrel
    have hfk:=QnC hm1 j k
    obtain⟨ay,cy,rfl⟩:=Qag hownk
    by_cases hkl:k<(nb l (j:Int)).length
    ·have hkl':(k:Int)<((nb l (j:Int)).length:Int):=by omega
     obtain⟨rest,hBk,hnk,hck,hmk,hbk2⟩:=QbB (hNk.own j hlt)
     rw [HBJ.out] at hBk
     have c1:wr.cell? ⟨bj,k,none⟩=some (.int .i64 (nb l (j:Int))[k]):=hBk.cell (by rw [List.getElem?_append_left (by simpa using hkl),YH,YB hkl];rfl)
     have HST:Hid _:=Qlo hkl
     generalize (nb l (j:Int))[k]=x at *
     generalize preD l j k=R at *
     have hbA:wr.grownBy (wr.alloc (.cells #[.int .i64 (j:Int),.int .i64 x] 91)) none:=World.grownBy_alloc _ _ _
     have hownA:=hownk.alloc (.cells #[.int .i64 (j:Int),.int .i64 x] 91)
     have hnews:=newsD (w:=wr) (t:=91) ((j:Int),x)
     have hone:=oneD ((j:Int),x)
     have hmx:R.length+1≤maxLen:=by unfold maxLen;omega
     have hby:(R.length+1)*16≤140737488355328:=by omega
     have hbs:w.heap.size≤(wr.alloc (.cells #[.int .i64 (j:Int),.int .i64 x] 91)).heap.size:=by have:=hbk.size;simp;omega
     have hlow:∀ q,(Value.slice ay R.length cy).ownBlock=some q→w.heap.size≤q:=fun q hq=>(hownk.lt q hq).1
     go_wp2_with (at_builtin;refine wpList_append_own_at _ rfl _ _ 92 rfl w.heap.size 91 i0 (.agg #[.int .i64 0,.int .i64 0]) 2 16 Tryz.underlying92 hi hz0 hz1 hz2 rfl (by decide) (.slice ay R.length cy) _ _ rfl hownA ⟨wr.heap.size,0,none⟩ 1 1 (encDc ((j:Int),x)) rfl rfl hnews hone hmx hby hbs ?_)
     intro v7 w7 hown7 hg7 hnil7 hat7
     obtain⟨a7,m7,k7,rfl⟩:=QaB hown7
     have hb7:Below w.heap.size w w7:=(hbk.alloc hbk.size _).grown hg7 hbs hlow
     have hown7':w7.ownsRow w.heap.size 91 2 (.slice a7 m7 k7) (R++[((j:Int),x)]).length (flatD (R++[((j:Int),x)])):=by
      rw [YI,QfA];exact hown7
     have hg17:wr.grownBy w7 (Value.slice ay R.length cy).ownBlock:=⟨hg7.os,hg7.tape,hg7.output,Nat.le_trans hbA.size hg7.size,fun q hq hne=>(hg7.block q (Nat.lt_of_lt_of_le hq hbA.size) hne).trans (hbA.block q hq (by simp))⟩
     have hNx:NearI N gn hn0 bsn degn (fun v=>nb l (v:Int)) w7:=by
      refine hNk.grown hg17 ?_ ?_
      ·rcases hobk with h1 | ⟨q,h1,h2⟩
       ·rw [h1];simp;omega
       ·rw [h1];simp;omega
      ·intro v hv
       have g1:=HBS4.out v hv
       have g2:=HBSL.out v hv
       rcases hobk with h1 | ⟨q,h1,h2⟩
       ·rw [h1];intro e;have:=Option.some.inj e;omega
       ·rw [h1];intro e;have:=Option.some.inj e;omega
     have hob7:(Value.slice a7 m7 k7).ownBlock=some (w.heap.size+1)∨∃ q,(Value.slice a7 m7 k7).ownBlock=some q∧w4.heap.size≤q:=by
      rcases hat7 with h1 | h1
      ·rw [h1];exact hobk
      ·right
       refine⟨_,h1,?_⟩
       omega
     have hs7:w4.heap.size≤w7.heap.size:=Nat.le_trans hsk hg17.size
     clear hown7 hg7 hnil7 hat7 hownA hnews hone hg17 hbA
     go_wp2
     exact⟨⟨k+1,by omega,by go_num,by rw [HST.out];exact hown7',hNx,hob7,hb7,hs7⟩,by simp [intOf];omega⟩
    ·obtain rfl:k=(nb l (j:Int)).length:=by omega
     have hkl':¬ ((nb l (j:Int)).length:Int)<((nb l (j:Int)).length:Int):=by omega
     rw [HFL.out] at hownk hobk ⊢
     go_wp2
     exact⟨⟨j+1,by omega,by go_num,hownk,hNk,hobk,hbk,hsk⟩,by simp [intOf];omega⟩
  ·obtain rfl:j=N:=by omega
   have hjl:¬ (j:Int)<(j:Int):=by omega
   obtain⟨m,HM⟩:∃ m,Hid ((Qal j l).length=m):=⟨_,rfl⟩
   rw [HM.out] at hown ⊢
   go_wp2
   go_ret
   exact⟨.slice ax m cx,rfl,by rw [HM.out];exact hown,hb⟩
def leftE (nx:Dt→Dt)(L:List Dt):List (Dt × Dt):=L.map fun x=>(x,nx x)
theorem Ql4 {nx:Dt→Dt}{d:Dt}:∀ (L:List Dt),lkD (leftE nx L) d=if d∈L then some (nx d) else none
 | []=>by simp [lkD,leftE]
 | x :: L=>by
  have ih:=Ql4 (nx:=nx) (d:=d) L
  unfold lkD leftE at *
  rw [List.map_cons,List.find?_cons]
  by_cases h:d=x
  ·subst h
   simp
  ·rw [show decide (d=(x,nx x).1)=false from decide_eq_false h]
   simp only [ih,List.mem_cons,h,false_or]
theorem QmO {nx:Dt→Dt}{d:Dt}:∀ (L:List Dt),(leftE nx L).eraseP (fun p=>decide (d=p.1))=leftE nx (L.erase d)
 | []=>by simp [leftE]
 | x :: L=>by
  have ih:=QmO (nx:=nx) (d:=d) L
  unfold leftE at *
  rw [List.map_cons,List.eraseP_cons,List.erase_cons]
  by_cases h:d=x
  ·subst h
   simp
  ·have h':¬ (x==d)=true:=by rw [beq_iff_eq];exact fun e=>h e.symm
   rw [show decide (d=(x,nx x).1)=false from decide_eq_false h,if_neg h',List.map_cons,← ih]
   rfl
def keysR (r:List (List Int))(N:Nat):List Dt:=(List.range N).flatMap fun (v:Nat)=>(r.getD v []).map fun u=>(u,(v:Int))
theorem Qfp (r:List (List Int))(j:Nat):keysR r (j+1)=keysR r j++(r.getD j []).map fun u=>(u,(j:Int)):=by
 unfold keysR
 rw [List.range_succ,List.flatMap_append]
 simp
section
variable {N:Nat} {l:List Ed} {r:List (List Int)}
theorem Qnv {L:List Int}(hn:L.Nodup){v:Nat}(hL:r.getD v []=L):rowE L (v:Int) L.length=leftE (nxD r) (L.map fun u=>(u,(v:Int))):=by
 unfold rowE leftE
 rw [List.map_map]
 apply List.ext_getElem
 ·simp
 ·intro i h1 h2
  have hi:i<L.length:=by simpa using h1
  simp only [List.getElem_map,List.getElem_range,Function.comp]
  unfold nxD
  simp only [YM,hL]
  have e1:L.getD i 0=L[i]:=by rw [YC,YB hi];rfl
  rw [e1,hn.idxOf_getElem i hi]
theorem Qju (hS:SysR N l r)(hR:RightG (N:Int) l):∀ {j:Nat},j≤N→behL r j=leftE (nxD r) (keysR r j)
 | 0,_=>rfl
 | j+1,h=>by
  rw [Qhq,Qfp,Qju hS hR (by omega),Qnv (r:=r) (v:=j) (hS.nodup hR (by omega)) rfl]
  unfold leftE
  rw [List.map_append]
theorem Qmd (hS:SysR N l r){d:Dt}:d∈keysR r N↔∃ v:Nat,v<N∧d.2=(v:Int)∧d.1∈nb l (v:Int):=by
 unfold keysR
 rw [List.mem_flatMap]
 constructor
 ·rintro⟨v,hv,h⟩
  obtain⟨u,hu,rfl⟩:=List.mem_map.1 h
  have hv':=List.mem_range.1 hv
  exact⟨v,hv',rfl,(hS.perm v hv').mem_iff.1 hu⟩
 ·rintro⟨v,hv,h1,h2⟩
  exact⟨v,List.mem_range.2 hv,List.mem_map.2 ⟨d.1,(hS.perm v hv).mem_iff.2 h2,by rw [← h1]⟩⟩
theorem QaL (hS:SysR N l r)(hR:RightG (N:Int) l){d:Dt}:d∈keysR r N↔d∈Qal N l:=by
 rw [Qmd hS,dartsL_mem]
 constructor
 ·rintro⟨v,hv,h1,h2⟩
  obtain⟨h3,h4,h5,_⟩:=Qb6 hR h2
  have e:((d.1.toNat:Nat):Int)=d.1:=by omega
  refine⟨d.1.toNat,by omega,by omega,?_⟩
  rw [h1,e]
  exact h3
 ·rintro⟨u,hu,h1,h2⟩
  obtain⟨h3,h4,h5,_⟩:=Qb6 hR h2
  have e:((d.2.toNat:Nat):Int)=d.2:=by omega
  refine⟨d.2.toNat,by omega,by omega,?_⟩
  rw [h1,e]
  exact h3
theorem QeI (hS:SysR N l r)(hR:RightG (N:Int) l):(keysR r N).Nodup:=by
 unfold keysR List.Nodup
 rw [List.pairwise_flatMap]
 refine⟨fun v hv=>?_,?_⟩
 ·refine List.Pairwise.map _ (fun a b h=>?_) (hS.nodup hR (List.mem_range.1 hv))
  intro e
  exact h (congrArg Prod.fst e)
 ·refine List.nodup_range.imp fun {a b} hab=>?_
  intro x hx y hy e
  obtain⟨u,_,rfl⟩:=List.mem_map.1 hx
  obtain⟨u',_,rfl⟩:=List.mem_map.1 hy
  have:=congrArg Prod.snd e
  simp only at this
  omega
theorem QeJ (hS:SysR N l r):∀ {j:Nat},j≤N→(keysR r j).length=degS l j
 | 0,_=>rfl
 | j+1,h=>by
  rw [Qfp,YI,List.length_map,QeJ hS (by omega),(hS.perm j (by omega)).length_eq]
  rfl
theorem QiH (hS:SysR N l r)(hR:RightG (N:Int) l):PermS (nxD r) (keysR r N):=
 ⟨fun _ h=>(QaL hS hR).2 (QpQ hR hS ((QaL hS hR).1 h)),fun _ h _ h'=>QpR hR hS ((QaL hS hR).1 h) ((QaL hS hR).1 h')⟩
theorem QmT (hR:RightG (N:Int) l):((0:Int),(0:Int))∉Qal N l:=fun h=>by
 obtain⟨u,_,h1,h2⟩:=dartsL_mem.1 h
 have:=(Qb6 hR h2).2.2.2
 exact this h1
end
end Go.Proofs.YtalflecmadacaaaGreat
