import Derived.Test.YtalflecmadacaaaGreatZBJ
import Derived.Test.YtalflecmadacaaaGreatXTjSplit
import Derived.Test.YtalflecmadacaaaGreatZBB
import Derived.Test.YtalflecmadacaaaGreatZAU
import Derived.Test.YtalflecmadacaaaGreatZAA
set_option maxRecDepth 100000
set_option maxHeartbeats 8000000
namespace Go.Proofs.YtalflecmadacaaaGreat
open Go Go.Proofs Go.RowKit
section
variable (x:Nat) (w0:World) (Bk:Nat→Nat) (b off c q:Nat) (sp:Value)
theorem Qjo (hP:FP x w0 Bk b off c)(w:World)(hM:FM x w0 Bk (.slice (some ⟨b,off,none⟩) 1 q) (VS c sp A2 B2 C0 (-(c:Int)) (-(c:Int)) 1 0) w):Calls Tryz.prog 115 #[.pointer (some ⟨Bk 0,0,none⟩)] w fun e w'=>e = .returned (.agg #[.slice (some ⟨Bk 2,0,none⟩) 2 2,.slice none 0 0])∧Below w.heap.size w w':=by
 have hmix:=mixed
 have hxw:=FP.le x w0 Bk b off c hP hM
 have HM:Hid (FM x w0 Bk (.slice (some ⟨b,off,none⟩) 1 q) (VS c sp A2 B2 C0 (-(c:Int)) (-(c:Int)) 1 0) w):=hM
 have k4:=hM.cell 0 4 (by omega) rfl
 have k2:=hM.cell 0 2 (by omega) rfl
 have z0:w.cell? ⟨Bk 1,9,none⟩=some (.int .i64 0):=hM.cell 1 9 (by omega) rfl
 have z1:w.cell? ⟨Bk 1,19,none⟩=some (.int .i64 0):=hM.cell 1 19 (by omega) rfl
 have z2:w.cell? ⟨Bk 1,29,none⟩=some (.int .i64 0):=hM.cell 1 29 (by omega) rfl
 have hlt0:=hM.lt 0 (by omega)
 have hlt1:=hM.lt 1 (by omega)
 clear hM hP HM
 go_enter Tryz.func115,Tryz.ntmps115
 go_wp2
 obtain⟨w1,hw1⟩:∃ W,((w.alloc (.cells #[.slice none 0 0,.slice none 0 0] 114)).alloc (.cells #[.slice (some ⟨Bk 2,0,none⟩) 2 2,.slice none 0 0] 114))=W:=⟨_,rfl⟩
 have hb1:Below w.heap.size w w1:=by rw [← hw1];exact (YD.alloc YA _).alloc (by simp only [World.size_alloc];omega) _
 have k2':=Qab hb1 k2
 have z0':=Qab hb1 z0
 have z1':=Qab hb1 z1
 have z2':=Qab hb1 z2
 have h2:Blk 114 w1 (w.heap.size+1) [.slice (some ⟨Bk 2,0,none⟩) 2 2,.slice none 0 0]:=by
  have hs:(w.alloc (.cells #[.slice none 0 0,.slice none 0 0] 114)).heap.size=w.heap.size+1:=by simp
  rw [← hw1,← hs];exact heap_alloc_new (w.alloc (.cells #[.slice none 0 0,.slice none 0 0] 114)) _
 have h1:Blk 114 w1 w.heap.size [.slice none 0 0,.slice none 0 0]:=by
  have hh:Blk 114 (w.alloc (.cells #[.slice none 0 0,.slice none 0 0] 114)) w.heap.size [.slice none 0 0,.slice none 0 0]:=heap_alloc_new w _
  rw [← hw1];exact hh.go (YD.alloc YA _)
 rw [hw1]
 clear hw1 k2 k4 z0 z1 z2 hlt0 hlt1
 have q0:=h2.cell (j:=0) rfl
 have q1:=h2.cell (j:=1) rfl
 have r0:=h1.cell (j:=0) rfl
 have r1:=h1.cell (j:=1) rfl
 have H1:Hid (Blk 114 w1 w.heap.size [.slice none 0 0,.slice none 0 0]):=h1
 have f0:=h1.frozen 0
 have f1:=h1.frozen 1
 have HB1:Hid (Below w.heap.size w w1):=hb1
 have hl1:=h1.lt
 clear h1 h2 hb1
 go_loopw [16] (fun i wr=>(i = .int .i64 0∨i = .int .i64 1∨i = .int .i64 2∨i = .int .i64 3)∧wr=w1) (fun i _=>3-(intOf i).toNat)
 case atStart=>exact⟨.inl rfl,rfl⟩
 case round=>
  obtain⟨rfl | rfl | rfl | rfl,rfl⟩:=hrel
  ·go_wp2
   exact⟨⟨.inr (.inl rfl),trivial⟩,by simp [intOf]⟩
  ·go_wp2
   exact⟨⟨.inr (.inr (.inl rfl)),trivial⟩,by simp [intOf]⟩
  ·go_wp2
   exact⟨⟨.inr (.inr (.inr rfl)),trivial⟩,by simp [intOf]⟩
  ·go_wp2
   have hR:=(H1.out.set 0 (.slice (some ⟨Bk 2,0,none⟩) 2 2)).set 1 (.slice none 0 0)
   refine bodyPost_ret (results_cell_row rfl _ _ w.heap.size 114 #[.slice (some ⟨Bk 2,0,none⟩) 2 2,.slice none 0 0] _ _ rfl hR Tryz.underlying114 rfl rfl) rfl ?_
   exact⟨rfl,(HB1.out.setCell YA _).setCell YA _⟩
end
theorem QmG {fn:Func}{a p u:Tmp}(h:fn.results = #[.tmp a,.cell p 114,.tmp u]){tmps:Array Value}{w:World}{b:Nat}{x y:Value}(hp:tmps.getD p undef = .pointer (some ⟨b,0,none⟩))(h0:w.cell? ⟨b,0,none⟩=some x)(h1:w.cell? ⟨b,1,none⟩=some y):
  (results fn tmps).run Tryz.prog w = .ok (.tuple #[tmps.getD a undef,.agg #[x,y],tmps.getD u undef]) w:=by
 have hp':tmps[p]?.getD undef = .pointer (some ⟨b,0,none⟩):=by simpa using hp
 have a1:=Tryz.isAgg114
 have a2:=Tryz.sizeOf114
 simp [results,h,hp',asAddr]
 go_simp
theorem QhF (c:Nat)(hc:c<1099511627776)(p:Option Addr)(q:Nat)(w:World)(hl:Edges w.heap.size w (.slice p 1 q) ((L2 c).map edE)):Calls Tryz.prog 87 #[.agg #[.int .i64 2,.slice p 1 q]] w fun r w'=>∃ g cap px,r = .returned (.tuple #[.slice (some ⟨g,0,none⟩) 1 cap,.agg #[.slice (some ⟨px,0,none⟩) 2 2,.slice none 0 0],.int .i64 0])∧w'.cell? ⟨g,0,none⟩=some (.int .i64 0)∧w.heap.size≤g∧1≤cap∧Below w.heap.size w w':=by
 obtain⟨w1,hw1⟩:∃ W,((w.alloc (.cells #[.int .i64 2,.slice p 1 q] 24)).alloc (.cells #[.slice none 0 0,.slice none 0 0] 114))=W:=⟨_,rfl⟩
 have hb1:Below w.heap.size w w1:=by rw [← hw1];exact (YD.alloc YA _).alloc (by simp only [World.size_alloc];omega) _
 have hX:Blk 24 w1 w.heap.size [.int .i64 2,.slice p 1 q]:=by
  have hh:Blk 24 (w.alloc (.cells #[.int .i64 2,.slice p 1 q] 24)) w.heap.size [.int .i64 2,.slice p 1 q]:=heap_alloc_new w _
  rw [← hw1];exact hh.go (YD.alloc YA _)
 have hP:Blk 114 w1 (w.heap.size+1) [.slice none 0 0,.slice none 0 0]:=by
  have hs:(w.alloc (.cells #[.int .i64 2,.slice p 1 q] 24)).heap.size=w.heap.size+1:=by simp
  rw [← hw1,← hs];exact heap_alloc_new (w.alloc (.cells #[.int .i64 2,.slice p 1 q] 24)) _
 have hl1:Edges w1.heap.size w1 (.slice p 1 q) ((L2 c).map edE):=hl.go hb1
 have x0:=hX.cell (j:=0) rfl
 have x1:=hX.cell (j:=1) rfl
 have HX:Hid (Blk 24 w1 w.heap.size [.int .i64 2,.slice p 1 q]):=hX
 have HPr:Hid (Blk 114 w1 (w.heap.size+1) [.slice none 0 0,.slice none 0 0]):=hP
 have HB1:Hid (Below w.heap.size w w1):=hb1
 have HL1:Hid (Edges w1.heap.size w1 (.slice p 1 q) ((L2 c).map edE)):=hl1
 have hsz:=hb1.size
 have hlP:=hP.lt
 clear hX hP hb1 hl1 hl
 go_enter Tryz.func87,Tryz.ntmps87
 have hri:=Qjw c hc p q w1 HL1.out
 go_wp2_with fail
 clear hw1
 refine hri.mono ?_
 rintro e w2 ⟨rfl,hb2⟩
 clear hri
 have hX2:=HX.out.go hb2
 have hP2:=HPr.out.go hb2
 have x0:=hX2.cell (j:=0) rfl
 have x1:=hX2.cell (j:=1) rfl
 have HX2:Hid (Blk 24 w2 w.heap.size [.int .i64 2,.slice p 1 q]):=hX2
 have HP2:Hid (Blk 114 w2 (w.heap.size+1) [.slice none 0 0,.slice none 0 0]):=hP2
 have HB2:Hid (Below w.heap.size w w2):=HB1.out.trans (hb2.mono HB1.out.size)
 have hnf:=QfI c hc p q w2 (HL1.out.go hb2)
 have hlP2:=hP2.lt
 clear hX2 hP2 hb2 HX HPr HB1 HL1
 go_wp2_with fail
 refine hnf.mono ?_
 rintro e w3 ⟨b,off,x,wA,Bk,sp,rfl,rfl,hbA,hx,hFP,hM3⟩
 clear hnf
 have hle3:=FP.le x wA Bk b off c hFP hM3
 have hb23:Below w2.heap.size w2 w3:=hbA.trans (hM3.bel.mono hx)
 have hX3:=HX2.out.go hb23
 have x0:=hX3.cell (j:=0) rfl
 have HFP:Hid (FP x wA Bk b off c):=hFP
 have HM3:Hid (FM x wA Bk (.slice (some ⟨b,off,none⟩) 1 q) (V4 c sp) w3):=hM3
 have HbA:Hid (Below w2.heap.size w2 wA):=hbA
 have Hx:Hid (w2.heap.size≤x):=hx
 have HlP:Hid (w.heap.size+1<w2.heap.size):=hlP2
 clear hFP hM3 hbA hx hb23 x1 hX3 hlP2 hle3 hc
 go_wp2
 go_loopw [23] (fun i wr=>(i = .int .i64 0∧FM x wA Bk (.slice (some ⟨b,off,none⟩) 1 q) (V4 c sp) wr)∨(i = .int .i64 1∧FM x wA Bk (.slice (some ⟨b,off,none⟩) 1 q) (VS c sp A2 B2 C0 (-(c:Int)) (-(c:Int)) 1 0) wr)) (fun i _=>1-(intOf i).toNat)
 case atStart=>exact .inl ⟨rfl,HM3.out⟩
 case round=>
  clear x0
  rcases hrel with ⟨rfl,hMr⟩ | ⟨rfl,hMr⟩
  ·have hau:=Qif x wA Bk b off c q sp HFP.out wr hMr
   clear hMr
   go_wp2_with fail
   refine hau.mono ?_
   rintro e w4 ⟨rfl,hM4⟩
   have HM4:Hid (FM x wA Bk (.slice (some ⟨b,off,none⟩) 1 q) (VS c sp A2 B2 C0 (-(c:Int)) (-(c:Int)) 1 0) w4):=hM4
   clear hau hM4
   go_wp2
   exact⟨.inr ⟨rfl,HM4.out⟩,by simp [intOf]⟩
  ·have hma:=QfJ x wA Bk b off c q sp HFP.out wr hMr
   have HMr:Hid (FM x wA Bk (.slice (some ⟨b,off,none⟩) 1 q) (VS c sp A2 B2 C0 (-(c:Int)) (-(c:Int)) 1 0) wr):=hMr
   clear hMr
   go_wp2_with fail
   refine hma.mono ?_
   rintro e w5 ⟨g,cap,rfl,hg0,hgr,hcap,hb5⟩
   clear hma
   have hM5:=HMr.out.go (FP.le x wA Bk b off c HFP.out HMr.out) hb5
   have hpr:=Qjo x wA Bk b off c q sp HFP.out w5 hM5
   clear hM5
   go_wp2_with fail
   refine hpr.mono ?_
   rintro e w6 ⟨rfl,hb6⟩
   clear hpr
   have hg6:=Qab hb6 hg0
   have hbr:Below w2.heap.size w2 wr:=HbA.out.trans (HMr.out.bel.mono Hx.out)
   have hb26:Below w2.heap.size w2 w6:=hbr.trans ((hb5.mono hbr.size).trans (hb6.mono (by have:=hbr.size;have:=hb5.size;omega)))
   have hP6:=HP2.out.go hb26
   have HP6:Hid (Blk 114 w6 (w.heap.size+1) [.slice none 0 0,.slice none 0 0]):=hP6
   have HB6:Hid (Below w.heap.size w w6):=HB2.out.trans (hb26.mono HB2.out.size)
   have f0:=hP6.frozen 0
   have f1:=hP6.frozen 1
   have r0:=hP6.cell (j:=0) rfl
   have r1:=hP6.cell (j:=1) rfl
   have hgn:w.heap.size+1<g:=by have:=HlP.out;have:=hbr.size;omega
   clear hP6 hb26 hbr hb5 hb6 hg0
   go_wp2
   have hR:=(HP6.out.set 0 (.slice (some ⟨Bk 2,0,none⟩) 2 2)).set 1 (.slice none 0 0)
   refine bodyPost_ret (QmG rfl rfl (hR.cell (j:=0) rfl) (hR.cell (j:=1) rfl)) rfl ?_
   refine⟨g,cap,_,rfl,?_,by omega,hcap,(HB6.out.setCell (p:=⟨w.heap.size+1,0,none⟩) (by show _≤w.heap.size+1;omega) _).setCell (p:=⟨w.heap.size+1,1,none⟩) (by show _≤w.heap.size+1;omega) _⟩
   rw [World.cell?_setCell_far _ _ _ _ (by show w.heap.size+1≠g;omega),World.cell?_setCell_far _ _ _ _ (by show w.heap.size+1≠g;omega)]
   exact hg6
theorem Qjj {fn:Func}{p u:Tmp}(h:fn.results = #[.cell p 24,.tmp u]){tmps:Array Value}{w:World}{b:Nat}{x y:Value}(hp:tmps.getD p undef = .pointer (some ⟨b,0,none⟩))(h0:w.cell? ⟨b,0,none⟩=some x)(h1:w.cell? ⟨b,1,none⟩=some y):
  (results fn tmps).run Tryz.prog w = .ok (.tuple #[.agg #[x,y],tmps.getD u undef]) w:=by
 have hp':tmps[p]?.getD undef = .pointer (some ⟨b,0,none⟩):=by simpa using hp
 have a1:=Tryz.isAgg24
 have a2:=Tryz.sizeOf24
 simp [results,h,hp',asAddr]
 go_simp
theorem Qdx {W:World}{gE cE:Nat}{l:List Ed}{p:Addr}(h:Edges W.heap.size W (.slice (some ⟨gE,0,none⟩) 1 cE) l)(hp:p.block≠gE)(v:Value):Edges (W.setCell p v).heap.size (W.setCell p v) (.slice (some ⟨gE,0,none⟩) 1 cE) l:=by
 rcases h with ⟨⟨p',c,h1⟩,_⟩ | ⟨b,off,cap,h1,h2,h3,h4⟩
 ·simp at h1
 ·have hbg:gE=b:=by
   simp only [Value.slice.injEq,Option.some.injEq,Addr.mk.injEq] at h1
   exact h1.1.1
  have hp':p.block≠b:=by rw [← hbg];exact hp
  refine .inr ⟨b,off,cap,h1,by simpa using h2,h3,fun j x hx=>?_⟩
  obtain⟨k0,k1,k2⟩:=h4 j x hx
  exact⟨(World.cell?_setCell_far _ _ _ _ hp').trans k0,(World.cell?_setCell_far _ _ _ _ hp').trans k1,(World.cell?_setCell_far _ _ _ _ hp').trans k2⟩
theorem Qk1 (N:Nat)(L:List Eg)(a b:Nat)(hN:N≤40)(ha:a<N)(hb:b<N)(hm:L.length≤4194304)(hE:∀ e∈L,e.1<N∧e.2.1<N)(hW:∀ e∈L,e.2.2≤2147483647)(hk:rgtW (N:Int) (L.map edE)=0)(sE sP:Value)(pk bT cT:Nat)(w:World)(hPc:Blk 110 w pk [.int .i64 (N:Int),sE,sP,.slice (some ⟨bT,0,none⟩) 2 cT])(hEd:Edges w.heap.size w sE (L.map edE))(t0:w.cell? ⟨bT,0,none⟩=some (.int .i64 (a:Int)))(t1:w.cell? ⟨bT,1,none⟩=some (.int .i64 (b:Int)))(hd:∀ D V,OKc L b N D V→∃ d:Nat,at' D a=d∧d<1099511627776):
  Calls Tryz.prog 86 #[.pointer (some ⟨pk,0,none⟩)] w fun e w'=>∃ (d gE cE:Nat) (D V:List Int),e = .returned (.tuple #[.agg #[.int .i64 2,.slice (some ⟨gE,0,none⟩) 1 cE],.int .i64 0])∧d<1099511627776∧OKc L b N D V∧at' D a=d∧Edges w'.heap.size w' (.slice (some ⟨gE,0,none⟩) 1 cE) ((L2 d).map edE)∧Below w.heap.size w w':=by
 have hmix:=mixed
 obtain⟨w1,hw1⟩:∃ W,((w.alloc (.cells #[.int .i64 0,.slice none 0 0] 24)).alloc (.cells #[.int .i64 2,.slice none 0 0] 24))=W:=⟨_,rfl⟩
 have hb1:Below w.heap.size w w1:=by rw [← hw1];exact (YD.alloc YA _).alloc (by simp only [World.size_alloc];omega) _
 have hR1:Blk 24 w1 w.heap.size [.int .i64 0,.slice none 0 0]:=by
  have hh:Blk 24 (w.alloc (.cells #[.int .i64 0,.slice none 0 0] 24)) w.heap.size [.int .i64 0,.slice none 0 0]:=heap_alloc_new w _
  rw [← hw1];exact hh.go (YD.alloc YA _)
 have hG1:Blk 24 w1 (w.heap.size+1) [.int .i64 2,.slice none 0 0]:=by
  have hs:(w.alloc (.cells #[.int .i64 0,.slice none 0 0] 24)).heap.size=w.heap.size+1:=by simp
  rw [← hw1,← hs];exact heap_alloc_new (w.alloc (.cells #[.int .i64 0,.slice none 0 0] 24)) _
 have hlp:=hPc.lt
 have p3:=hPc.cell (j:=3) rfl
 have HPc:Hid (Blk 110 w1 pk [.int .i64 (N:Int),sE,sP,.slice (some ⟨bT,0,none⟩) 2 cT]):=hPc.go hb1
 have HT:Hid (w1.cell? ⟨bT,0,none⟩=some (.int .i64 (a:Int))∧w1.cell? ⟨bT,1,none⟩=some (.int .i64 (b:Int))):=⟨Qab hb1 t0,Qab hb1 t1⟩
 have HEd:Hid (Edges w1.heap.size w1 sE (L.map edE)):=hEd.go hb1
 have HB1:Hid (Below w.heap.size w w1):=hb1
 have HR1:Hid (Blk 24 w1 w.heap.size [.int .i64 0,.slice none 0 0]):=hR1
 have HG1:Hid (Blk 24 w1 (w.heap.size+1) [.int .i64 2,.slice none 0 0]):=hG1
 obtain⟨pE,cE0,rfl⟩:=hEd.lenG
 have HH:Hid ((∀ e∈L,e.1<N∧e.2.1<N)∧(∀ e∈L,e.2.2≤2147483647)∧rgtW (N:Int) (L.map edE)=0∧∀ D V,OKc L b N D V→∃ d:Nat,at' D a=d∧d<1099511627776):=⟨hE,hW,hk,hd⟩
 have HW1:Hid (((w.alloc (.cells #[.int .i64 0,.slice none 0 0] 24)).alloc (.cells #[.int .i64 2,.slice none 0 0] 24))=w1):=hw1
 clear hw1 hPc hEd t0 t1 hb1 hR1 hG1 hE hW hk hd
 go_enter Tryz.func86,Tryz.ntmps86
 go_wp2
 rw [HW1.out]
 clear HW1 p3
 have hsz:=HB1.out.size
 go_loopw [19] (fun i wr=>((i = .int .i64 0∨i = .int .i64 1)∧wr=w1)∨(i = .int .i64 2∧∃ (d gE cE:Nat) (D V:List Int),Hid (d<1099511627776∧OKc L b N D V∧at' D a=d)∧Hid (Blk 24 wr w.heap.size [.int .i64 0,.slice none 0 0])∧Hid (Blk 24 wr (w.heap.size+1) [.int .i64 2,.slice (some ⟨gE,0,none⟩) 1 cE])∧Hid (Edges wr.heap.size wr (.slice (some ⟨gE,0,none⟩) 1 cE) ((L2 d).map edE)∧w.heap.size+1<gE)∧Hid (Below w.heap.size w wr))) (fun i _=>2-(intOf i).toNat)
 case atStart=>exact .inl ⟨.inl rfl,rfl⟩
 case round=>
  rcases hrel with ⟨rfl | rfl,rfl⟩ | ⟨rfl,d,gE,cE,D,V,HD,HR,HG,HE,HB⟩
  ·go_wp2
   exact⟨.inl ⟨.inr rfl,trivial⟩,by simp [intOf]⟩
  ·have p0:=HPc.out.cell (j:=0) rfl
   have p1:=HPc.out.cell (j:=1) rfl
   have p3:=HPc.out.cell (j:=3) rfl
   have t1:=HT.out.2
   have hfr:=fun W hW=>QiM N L b hN hb hm HH.out.1 HH.out.2.1 HH.out.2.2.1 (.slice pE L.length cE0) W hW
   go_wp2
   refine wp_region_held_drew (S:=(fun w':World=>w'.cell? ⟨pk,0,none⟩=some (.int .i64 (N:Int))∧w'.cell? ⟨pk,1,none⟩=some (.slice pE L.length cE0)∧w'.cell? ⟨pk,3,none⟩=some (.slice (some ⟨bT,0,none⟩) 2 cT)∧w'.cell? ⟨bT,1,none⟩=some (.int .i64 (b:Int)))) (by kernel_rfl) ⟨p0,p1,p3,t1⟩ (fun hHeld=>?_)
   refine tH 0 ?_
   try simp only [YS]
   refine tH 1 ?_
   refine tH 2 ?_
   refine tH 3 ?_
   refine tH 4 ?_
   refine tH 5 ?_
   simp only [YS,YT,YU]
   refine tH 6 ?_
   refine tH 7 ?_
   refine tH 8 ?_
   refine tH 9 ?_
   refine tH 10 ?_
   simp only [YS,YT,YU]
   refine wpAnyH_ready (rs:=[11]) (by kernel_rfl) (by simp) ?_
   refine AllReadyH.cons rfl (fun K hK=>?_) AllReadyH.nil
   go_simp
   have hbd:Below wr.heap.size wr wr.drew:=Qaa YD 1
   refine (hfr wr.drew (HEd.out.go hbd)).mono ?_
   rintro e w2 ⟨D,V,bD,bV,rfl,hok,hD,hV,hb2,hbD,hbV⟩
   have hbw:Below wr.heap.size wr w2:=hbd.trans hb2
   refine hK.out _ _ ⟨Qab hbw p0,Qab hbw p1,Qab hbw p3,Qab hbw t1⟩ (fun hHeld2=>?_)
   have t0:=Qab hbw HT.out.1
   have q3:=Qab hbw p3
   have HR2:Hid (Blk 24 w2 w.heap.size [.int .i64 0,.slice none 0 0]):=HR1.out.go hbw
   have HG2:Hid (Blk 24 w2 (w.heap.size+1) [.int .i64 2,.slice none 0 0]):=HG1.out.go hbw
   have HB2:Hid (Below w.heap.size w w2):=HB1.out.trans (hbw.mono hsz)
   obtain⟨d,hd1,hd2⟩:=HH.out.2.2.2 D V hok
   have hld:D.length=N:=hok.dist.1
   have d0:w2.cell? ⟨bD,a,none⟩=some (.int .i64 (d:Int)):=hD.cell (by rw [YH,YB (by omega),← hd1,QbJ (by omega)];rfl)
   have HOK:Hid (d<1099511627776∧OKc L b N D V∧at' D a=d):=⟨hd2,hok,hd1⟩
   clear hK K hHeld p0 p1 p3 t1 hok hD hV hb2 hbD hbV hbw hbd hfr hd1
   try simp only [Act.put,YS,YT,YU]
   refine tH 12 ?_
   refine tH 13 ?_
   refine tH 14 ?_
   refine tH 15 ?_
   refine tH 16 ?_
   simp only [YS,YT,YU]
   refine tH 17 ?_
   refine tH 18 ?_
   refine wpAnyH_done (by kernel_rfl) ?_ _
   clear hHeld2
   go_wp2
   go_loopw [45] (fun i wr2=>(i = .int .i64 0∧wr2=w2)∨(i = .int .i64 1∧∃ gE cE:Nat,Hid (Blk 24 wr2 w.heap.size [.int .i64 0,.slice none 0 0])∧Hid (Blk 24 wr2 (w.heap.size+1) [.int .i64 2,.slice (some ⟨gE,0,none⟩) 1 cE])∧Hid (Edges wr2.heap.size wr2 (.slice (some ⟨gE,0,none⟩) 1 cE) ((L2 d).map edE)∧w.heap.size+1<gE)∧Hid (Below w.heap.size w wr2))) (fun i _=>1-(intOf i).toNat)
   case atStart=>exact .inl ⟨rfl,rfl⟩
   case round=>
    rcases hrel with ⟨rfl,rfl⟩ | ⟨rfl,gE,cE,HR,HG,HE,HB⟩
    ·have y1:=HG2.out.cell (j:=1) rfl
     have f1:=HG2.out.frozen 1
     have hgl:=HG2.out.lt
     have hdI:¬ (1099511627776:Int)≤(d:Int):=by omega
     have haN:(a:Int)<(N:Int):=by omega
     clear hd2 hld
     obtain⟨i3,hi,hz0,hz1,hz2⟩:=info_parts Qoc
     have hownA:(wr.alloc (.cells #[.int .i64 1,.int .i64 0,.int .i64 (d:Int)] 50)).ownsRow (w.heap.size+2) 50 3 (.slice none 0 0) 0 []:=World.ownsRow_nil _ _ _ _
     have hnews:=Qn5 (w:=wr) (t:=50) ((1:Int),(0:Int),(d:Int))
     have hone:=one3J ((1:Int),(0:Int),(d:Int))
     have hbs:w.heap.size+2≤(wr.alloc (.cells #[.int .i64 1,.int .i64 0,.int .i64 (d:Int)] 50)).heap.size:=by simp;omega
     have hmx:0+1≤maxLen:=by unfold maxLen;omega
     go_wp2_with (at_builtin;refine wpList_append_own_at _ rfl _ _ 22 rfl (w.heap.size+2) 50 i3 (.agg #[.int .i64 0,.int .i64 0,.int .i64 0]) 3 24 Tryz.underlying22 hi hz0 hz1 hz2 (by first | rfl | simp [Value.cells]) (by decide) (.slice none 0 0) 0 [] rfl hownA ⟨wr.heap.size,0,none⟩ 1 1 (encE ((1:Int),(0:Int),(d:Int))) rfl rfl hnews hone hmx (by omega) hbs ?_)
     intro v6 w6 ho6 hg6 hnil6 hat6
     have hE6:Edges w6.heap.size w6 v6 ((L2 d).map edE):=QeL (l:=(L2 d).map edE) ho6
     obtain⟨gE,cE,rfl,hgE⟩:∃ gE cE,v6 = .slice (some ⟨gE,0,none⟩) 1 cE∧w.heap.size+1<gE:=by
      rcases ho6.2 with ⟨_,h0⟩ | ⟨gE,cE,cur,h1,h2,_⟩
      ·exact absurd h0 (by omega)
      ·exact⟨gE,cE,h1,by omega⟩
     have hb6:Below (w.heap.size+2) wr w6:=(YD.alloc (by omega) _).grown hg6 hbs (fun k e=>by cases e)
     have hR6:Blk 24 w6 w.heap.size [.int .i64 0,.slice none 0 0]:=(hb6.block _ (by omega)).trans HR2.out
     have hG6:Blk 24 w6 (w.heap.size+1) [.int .i64 2,.slice none 0 0]:=(hb6.block _ (by omega)).trans HG2.out
     have y6:=hG6.cell (j:=1) rfl
     have f6:=hG6.frozen 1
     have HRF:Hid _:=hR6.other (p:=⟨w.heap.size+1,1,none⟩) (by show w.heap.size≠w.heap.size+1;omega) (.slice (some ⟨gE,0,none⟩) 1 cE)
     have HGF:Hid _:=hG6.set 1 (.slice (some ⟨gE,0,none⟩) 1 cE)
     have HEF:Hid _:=Qdx hE6 (p:=⟨w.heap.size+1,1,none⟩) (by show w.heap.size+1≠gE;omega) (.slice (some ⟨gE,0,none⟩) 1 cE)
     have HBF:Hid _:=(HB2.out.trans (hb6.mono (by omega))).setCell (p:=⟨w.heap.size+1,1,none⟩) (by show w.heap.size≤w.heap.size+1;omega) (.slice (some ⟨gE,0,none⟩) 1 cE)
     clear ho6 hg6 hnil6 hat6 hE6 hb6 hR6 hG6 hownA hnews hone hbs hmx
     go_wp2
     exact⟨.inr ⟨rfl,gE,cE,HRF,HGF,⟨HEF.out,hgE⟩,HBF⟩,by simp [intOf]⟩
    ·go_wp2
     exact⟨.inr ⟨rfl,d,gE,cE,D,V,HOK,HR,HG,HE,HB⟩,by simp [intOf]⟩
  ·have y0:=HG.out.cell (j:=0) rfl
   have y1:=HG.out.cell (j:=1) rfl
   have r0:=HR.out.cell (j:=0) rfl
   have r1:=HR.out.cell (j:=1) rfl
   have f0:=HR.out.frozen 0
   have f1:=HR.out.frozen 1
   go_wp2
   have hR:=(HR.out.set 0 (.int .i64 2)).set 1 (.slice (some ⟨gE,0,none⟩) 1 cE)
   have hgE:=HE.out.2
   refine bodyPost_ret (Qjj rfl rfl (hR.cell (j:=0) rfl) (hR.cell (j:=1) rfl)) rfl ?_
   exact⟨d,gE,cE,D,V,rfl,HD.out.1,HD.out.2.1,HD.out.2.2,Qdx (Qdx HE.out.1 (p:=⟨w.heap.size,0,none⟩) (by show w.heap.size≠gE;omega) _) (p:=⟨w.heap.size,1,none⟩) (by show w.heap.size≠gE;omega) _,(HB.out.setCell (p:=⟨w.heap.size,0,none⟩) YA _).setCell (p:=⟨w.heap.size,1,none⟩) YA _⟩
theorem Qfy {W:World}{base:Nat}{e:TypeId}{v:Value}{l:List Int}(h:W.ownsRow base e 1 v l.length (l.map (Value.int .i64)))(h0:0<l.length):∃ g cap,v = .slice (some ⟨g,0,none⟩) l.length cap∧base≤g∧∀ j x,l[j]? = some x→W.cell? ⟨g,j,none⟩=some (.int .i64 x):=by
 obtain⟨g,cap,rfl⟩:=QcP h h0
 refine⟨g,cap,rfl,(h.lt g rfl).1,fun j x hx=>?_⟩
 have hj:=(YE hx).1
 rw [h.cellAt j (by omega),YH,hx]
 rfl
def plcW (P:List Int)(A:List Int):List Int:=A.map fun p=>P.getD p.toNat 0
theorem Qnx (N:Nat)(L:List Eg)(a b d:Nat)(P:List Int)(T:List Bool)(hN:N≤40)(ha:a<N)(hb:b<N)(hm:L.length≤4194304)(hE:∀ e∈L,e.1<N∧e.2.1<N)(hW:∀ e∈L,e.2.2≤2147483647)(hk:rgtW (N:Int) (L.map edE)=0)(hPl:P.length=L.length)(hPT:∀ p∈P,0≤p∧p<(T.length:Int))(sE sP:Value)(pk bT cT tk base:Nat)(w:World)(hPc:Blk 110 w pk [.int .i64 (N:Int),sE,sP,.slice (some ⟨bT,0,none⟩) 2 cT])(hEd:Edges w.heap.size w sE (L.map edE))(t0:w.cell? ⟨bT,0,none⟩=some (.int .i64 (a:Int)))(t1:w.cell? ⟨bT,1,none⟩=some (.int .i64 (b:Int)))(hTk:Blk 4 w tk (T.map Value.bool))(hPr:w.ownsRow base 3 1 sP P.length (P.map (Value.int .i64)))(htb:tk<base)(hpk:pk≠tk):
  Calls Tryz.prog 88 #[.pointer (some ⟨pk,0,none⟩),.agg #[.int .i64 1,.int .i64 0,.int .i64 (d:Int)],.slice (some ⟨tk,0,none⟩) T.length T.length] w fun e w'=>∃ (D V:List Int),e = .returned (.tuple #[])∧OKc L b N D V∧Blk 4 w' tk ((flips T (plcW P (wayM L V N a).reverse)).map Value.bool)∧Tch tk w w':=by
 have hmix:=mixed
 obtain⟨w1,hw1⟩:∃ W,(w.alloc (.cells #[.int .i64 1,.int .i64 0,.int .i64 (d:Int)] 50))=W:=⟨_,rfl⟩
 have hb1:Below w.heap.size w w1:=by rw [← hw1];exact YD.alloc YA _
 have hX1:Blk 50 w1 w.heap.size [.int .i64 1,.int .i64 0,.int .i64 (d:Int)]:=by rw [← hw1];exact heap_alloc_new w _
 have HW1:Hid ((w.alloc (.cells #[.int .i64 1,.int .i64 0,.int .i64 (d:Int)] 50))=w1):=hw1
 have HPc:Hid (Blk 110 w1 pk [.int .i64 (N:Int),sE,sP,.slice (some ⟨bT,0,none⟩) 2 cT]):=hPc.go hb1
 have HT:Hid (w1.cell? ⟨bT,0,none⟩=some (.int .i64 (a:Int))∧w1.cell? ⟨bT,1,none⟩=some (.int .i64 (b:Int))):=⟨Qab hb1 t0,Qab hb1 t1⟩
 have HEd:Hid (Edges w1.heap.size w1 sE (L.map edE)):=hEd.go hb1
 have HB1:Hid (Below w.heap.size w w1):=hb1
 have HTk:Hid (Blk 4 w1 tk (T.map Value.bool)):=hTk.go hb1
 have HPr:Hid (w1.ownsRow base 3 1 sP P.length (P.map (Value.int .i64))):=Qaq hPr hb1
 have htl:=hTk.lt
 have p0:=HPc.out.cell (j:=0) rfl
 have p2:=HPc.out.cell (j:=3) rfl
 have x0:=hX1.cell (j:=0) rfl
 have x1:=hX1.cell (j:=1) rfl
 have t1':=HT.out.2
 have HX:Hid (Blk 50 w1 w.heap.size [.int .i64 1,.int .i64 0,.int .i64 (d:Int)]):=hX1
 obtain⟨pE,cE0,rfl⟩:=hEd.lenG
 have hsz:=hb1.size
 have hs1:w1.heap.size=w.heap.size+1:=by rw [← hw1];simp
 have hfr:=fun W hW2=>QiM N L b hN hb hm hE hW hk (.slice pE L.length cE0) W hW2
 have HH:Hid ((∀ e∈L,e.1<N∧e.2.1<N)∧(∀ p∈P,0≤p∧p<(T.length:Int))):=⟨hE,hPT⟩
 clear hw1 hPc hEd t0 t1 hb1 hX1 hTk hPr hE hW hk hPT
 go_enter Tryz.func88,Tryz.ntmps88
 go_wp2
 rw [HW1.out]
 clear HW1
 refine wp_region_held_drew (S:=(fun w':World=>w'.cell? ⟨pk,0,none⟩=some (.int .i64 (N:Int))∧w'.cell? ⟨pk,1,none⟩=some (.slice pE L.length cE0)∧w'.cell? ⟨pk,3,none⟩=some (.slice (some ⟨bT,0,none⟩) 2 cT)∧w'.cell? ⟨bT,1,none⟩=some (.int .i64 (b:Int))∧w'.cell? ⟨w.heap.size,0,none⟩=some (.int .i64 1))) (by kernel_rfl) ⟨p0,HPc.out.cell (j:=1) rfl,p2,t1',x0⟩ (fun hHeld=>?_)
 refine tH 0 ?_
 try simp only [YS]
 refine tH 1 ?_
 refine tH 2 ?_
 refine tH 3 ?_
 refine tH 4 ?_
 simp only [YS,YT,YU]
 refine tH 5 ?_
 refine tH 6 ?_
 refine tH 7 ?_
 refine tH 8 ?_
 refine tH 9 ?_
 simp only [YS,YT,YU]
 refine tH 10 ?_
 refine tH 11 ?_
 refine wpAnyH_ready (rs:=[12]) (by kernel_rfl) (by simp) ?_
 refine AllReadyH.cons rfl (fun K hK=>?_) AllReadyH.nil
 go_simp
 have hbd:Below w1.heap.size w1 w1.drew:=Qaa YD 1
 refine (hfr w1.drew (HEd.out.go hbd)).mono ?_
 rintro e w2 ⟨D,V,bD,bV,rfl,hok,hD,hV,hb2,hbD,hbV⟩
 have hbw:Below w1.heap.size w1 w2:=hbd.trans hb2
 have q0:=Qab hbw p0
 have q1:=Qab hbw (HPc.out.cell (j:=1) rfl)
 have q3:=Qab hbw p2
 have y1:=Qab hbw x1
 have s0:=Qab hbw HT.out.1
 refine hK.out _ _ ⟨q0,q1,q3,Qab hbw t1',Qab hbw x0⟩ (fun hHeld2=>?_)
 have HV2:Hid (Blk 3 w2 bV (V.map (Value.int .i64))):=hV
 have HB2:Hid (Below w1.heap.size w1 w2):=hbw
 have HOK:Hid (OKc L b N D V):=hok
 clear hK K hHeld hok hD hV hb2 hbD hbV hbw hbd hfr p0 p2 x0 x1 t1'
 try simp only [Act.put,YS,YT,YU]
 refine tH 13 ?_
 refine tH 14 ?_
 refine tH 15 ?_
 refine tH 16 ?_
 simp only [YS,YT,YU]
 refine tH 17 ?_
 refine tH 18 ?_
 refine tH 19 ?_
 try simp only [YS,YT,YU]
 refine wpAnyH_done (by kernel_rfl) ?_ _
 try simp only [YP,YQ,YR,YS,YT,YU]
 clear hHeld2
 go_wp2
 refine wp_region_held_drew (S:=(fun w':World=>w'.cell? ⟨pk,0,none⟩=some (.int .i64 (N:Int))∧w'.cell? ⟨pk,1,none⟩=some (.slice pE L.length cE0)∧w'.cell? ⟨pk,3,none⟩=some (.slice (some ⟨bT,0,none⟩) 2 cT)∧w'.cell? ⟨bT,0,none⟩=some (.int .i64 (a:Int))∧w'.cell? ⟨w.heap.size,1,none⟩=some (.int .i64 0))) (by kernel_rfl) ⟨q0,q1,q3,s0,y1⟩ (fun hHeld=>?_)
 try simp only [YP,YQ,YR,YS,YT,YU]
 refine tH 0 ?_
 try simp only [YS]
 refine tH 1 ?_
 refine tH 2 ?_
 refine tH 3 ?_
 refine tH 4 ?_
 simp only [YS,YT,YU]
 refine tH 5 ?_
 refine tH 6 ?_
 refine tH 7 ?_
 refine tH 8 ?_
 refine tH 9 ?_
 simp only [YS,YT,YU]
 refine tH 10 ?_
 refine tH 11 ?_
 refine tH 12 ?_
 refine tH 15 ?_
 simp only [YS,YT,YU]
 refine wpAnyH_ready (rs:=[13]) (by kernel_rfl) (by simp) ?_
 refine AllReadyH.cons rfl (fun K hK=>?_) AllReadyH.nil
 go_simp
 have hbd:Below w2.heap.size w2 w2.drew:=Qaa YD 1
 have hlV:V.length=N:=HOK.out.len
 have hIV:Ints w2.drew.heap.size w2.drew (.slice (some ⟨bV,0,none⟩) N N) V:=by
  have h1:Blk 3 w2.drew bV (V.map (Value.int .i64)):=HV2.out
  exact .inr ⟨bV,0,N,by rw [hlV],h1.lt,by omega,fun j x hx=>by rw [Nat.zero_add];exact h1.cell (by rw [YH,hx];rfl)⟩
 refine (Qom N L hN HH.out.1 V hlV HOK.out.valid a ha (.slice pE L.length cE0) (.slice (some ⟨bV,0,none⟩) N N) w2.drew (HEd.out.go (HB2.out.trans (hbd.mono HB2.out.size))) hIV).mono ?_
 rintro e w3 ⟨rv,rfl,hrow,hb3⟩
 have hbw:Below w2.heap.size w2 w3:=hbd.trans hb3
 refine hK.out _ _ ⟨Qab hbw q0,Qab hbw q1,Qab hbw q3,Qab hbw s0,Qab hbw y1⟩ (fun hHeld2=>?_)
 have HB3:Hid (Below w1.heap.size w1 w3):=HB2.out.trans (hbw.mono HB2.out.size)
 have hval:=Qdd HH.out.1 HOK.out.valid N a ha
 obtain⟨A,hA⟩:∃ A,(wayM L V N a).reverse=A:=⟨_,rfl⟩
 have hAl:(wayM L V N a).length=A.length:=by rw [← hA];simp
 rw [hA,hAl] at hrow
 have HA:Hid ((wayM L V N a).reverse=A∧∀ p∈A,∃ i:Nat,p=i∧i<P.length):=⟨hA,fun p hp=>by
  rw [← hA] at hp
  rw [hPl]
  exact hval p (List.mem_reverse.1 hp)⟩
 have HRow:Hid (w3.ownsRow w2.heap.size 3 1 rv A.length (A.map (Value.int .i64))):=hrow
 obtain⟨pa,ca,rfl⟩:=Qan hrow
 have hA40:A.length≤40:=by rw [← hAl];have:=Qih L V N a;omega
 have htw2:tk<w2.heap.size:=by have:=HB2.out.size;omega
 have HSZ:Hid (tk<w2.heap.size∧w.heap.size≤w1.heap.size):=⟨htw2,hsz⟩
 clear hK K hHeld hrow hval hA hAl hIV hlV hb3 hbw hbd q0 q1 q3 y1 s0
 try simp only [Act.put,YS,YT,YU]
 refine tH 14 ?_
 try simp only [YS,YT,YU]
 refine wpAnyH_done (by kernel_rfl) ?_ _
 try simp only [YP,YQ,YR,YS,YT,YU]
 clear hHeld2
 go_wp2
 have HT3:Hid (Tch tk w1 w3):=Tch.of_below HB3.out
 have HP3:Hid (Blk 4 w3 tk (T.map Value.bool)):=HTk.out.go HB3.out
 go_loopw [44] (fun i wr=>∃ k:Nat,k≤A.length∧i = .int .i64 (k:Int)∧Hid (Blk 4 wr tk ((flips T (plcW P (A.take k))).map Value.bool))∧Hid (Tch tk w3 wr)) (fun i _=>A.length-(intOf i).toNat)
 case atStart=>exact⟨0,YN,rfl,HP3,Tch.refl _ _⟩
 case round=>
  obtain⟨k,hk,rfl,HR,HT'⟩:=hrel
  by_cases hlt:k<A.length
  ·have hkl:(k:Int)<(A.length:Int):=by omega
   obtain⟨gw,cw,hgw,hgb,hgc⟩:=Qfy HRow.out (by omega)
   simp only [Value.slice.injEq] at hgw
   obtain⟨rfl,_,rfl⟩:=hgw
   obtain⟨i,hi1,hi2⟩:=HA.out.2 A[k] (YG hlt)
   have c0:=HT'.out.cell (hgc k A[k] (YB hlt)) (show gw≠tk by have:=HSZ.out.1;omega)
   rw [hi1] at c0
   have p2:=HT'.out.cell (Qab HB3.out (HPc.out.cell (j:=2) rfl)) hpk
   obtain⟨gp,cp,rfl,hgpb,hgpc⟩:=Qfy HPr.out (by omega)
   obtain⟨hq1,hq2⟩:=HH.out.2 P[i] (YG hi2)
   obtain⟨q,hq⟩:∃ q:Nat,P[i]=(q:Int):=⟨P[i].toNat,by omega⟩
   have c1:=HT'.out.cell (Qab HB3.out (hgpc i P[i] (YB hi2))) (show gp≠tk by omega)
   rw [hq] at c1
   have hqT:q<T.length:=by omega
   have hi3:(i:Int)<(P.length:Int):=by omega
   have hq3:(q:Int)<(T.length:Int):=by omega
   have hfl:(flips T (plcW P (A.take k))).length=T.length:=Qc6 _ _
   have HST:Hid (flipB (flips T (plcW P (A.take k))) q=flips T (plcW P (A.take (k+1)))):=by
    show _=_
    rw [List.take_succ_eq_append_getElem hlt]
    unfold plcW
    rw [List.map_append,List.map_cons,List.map_nil,QjR,hi1,YM]
    congr 1
    rw [YC,YB hi2,hq]
    rfl
   have t0:=HR.out.bcell (v:=q) (by omega)
   have f0:=HR.out.frozen q
   have HR2:Hid _:=HR.out.flip q
   have HT2:Hid _:=HT'.out.set q (.bool (!bAt (flips T (plcW P (A.take k))) q))
   have HLT:Hid (k<A.length):=hlt
   generalize flips T (plcW P (A.take k))=T2 at *
   clear hgc hgpc hlt hq hi1 hq1 hq2 hqT HR HT'
   go_wp2
   refine⟨⟨k+1,HLT.out,by go_num,?_,HT2.out⟩,by have:=HLT.out;simp [intOf];omega⟩
   rw [← HST.out]
   exact HR2.out
  ·obtain rfl:k=A.length:=by omega
   go_wp2
   refine bodyPost_end (results_none rfl _ _ _) rfl ?_
   refine⟨D,V,rfl,HOK.out,?_,(Tch.of_below HB1.out).trans (HT3.out.trans HT'.out)⟩
   have h1:=HR.out
   rw [List.take_length] at h1
   rw [HA.out.1]
   exact h1
theorem Qhw (N v:Nat):bAt (List.replicate N false) v=false:=by
 unfold bAt
 rw [YC,List.getElem?_replicate]
 split <;> rfl
theorem Qgd {T:List Bool}(h:∀ v,v<T.length→bAt T v=false):T.contains true=false:=by
 rw [← Bool.not_eq_true,bAt_true]
 rintro⟨v,h1,h2⟩
 rw [h v h1] at h2
 cases h2
theorem Qmu {R:Nat→Nat}{N a b:Nat}(hr:R a=R b)(ha:R a<N):(turnT R (List.replicate N false) [(a:Int),(b:Int)]).contains true=false:=by
 refine Qgd fun v _=>?_
 show bAt (flipB (flipB (List.replicate N false) (R (a:Int).toNat)) (R (b:Int).toNat)) v=false
 rw [YM,YM,Qc7 (by rw [QaP,List.length_replicate,← hr];exact ha),Qc7 (by rw [List.length_replicate];exact ha),Qhw,hr,Bool.false_xor,Bool.xor_self]
theorem Qpq {N:Nat}{L:List Eg}(hN:N≤1048576)(hm:L.length≤4194304)(hE:∀ e∈L,e.1<N∧e.2.1<N)(hW:∀ e∈L,e.2.2≤2147483647):rgtW (N:Int) (L.map edE)=0:=by
 unfold rgtW
 rw [if_neg (by omega),if_neg (by rw [List.length_map];omega)]
 have hall:∀ l:List Eg,(∀ e∈l,e∈L)→lstW (N:Int) (l.map edE)=0:=by
  intro l
  induction l with
  | nil=>intro _;rfl
  | cons e l ih=>
   intro h
   have he:=h e (by simp)
   have h1:=hE e he
   have h2:=hW e he
   have hf:fitW (N:Int) (edE e)=0:=by
    unfold fitW edE
    have q1:vtxB (N:Int) (e.1:Int)=true:=vtx_iff.2 (by omega)
    have q2:vtxB (N:Int) (e.2.1:Int)=true:=vtx_iff.2 (by omega)
    simp only [q1,q2]
    rw [if_neg (by simp),if_neg (by omega),if_neg (by omega)]
   show (if fitW (N:Int) (edE e)=0 then lstW (N:Int) (l.map edE) else fitW (N:Int) (edE e))=0
   rw [if_pos hf]
   exact ih fun x hx=>h x (by simp [hx])
 exact hall L fun e he=>he
theorem Qhn {R:Nat→Nat}{r:Nat}{l:List Eg}(hW:∀ e∈l,e.2.2≤2147483647):∀ e∈subE R r l,e.2.2≤2147483647:=fun e' he'=>by
 obtain⟨e,h1,_,rfl⟩:=subE_mem.1 he'
 exact hW e h1
theorem Qip {R:Nat→Nat}{r N a b:Nat}{l:List Eg}(hN:N≤40)(hl:∀ e∈l,e.1<N∧e.2.1<N)(hW:∀ e∈l,e.2.2≤2147483647)(hR:∀ e∈l,R e.1=R e.2.1)(ha:a<N)(hb:b<N)(ra:R a=r)(rb:R b=r)(hc:ConnT l b a){D:List Int}(h:IsD (subE R r l) (nm R r b) (nm R r N) D):∃ d:Nat,at' D (nm R r a)=d∧d<1099511627776:=by
 obtain⟨L,c,h1⟩:=hc
 have h2:=(Qfw hR rb h1).2
 have hna:=Qep ra ha
 have hfew:=h.few (QdO hl hR) (Qep rb hb) (Qhn hW) hna
 have hn:=Qlh R r N
 have h4:nm R r N*2147483647≤40*2147483647:=Nat.mul_le_mul_right _ (by omega)
 rcases h.2 _ hna with ⟨_,k⟩ | ⟨d,k,_⟩
 ·exact absurd h2 (k _ _)
 ·exact⟨d,k,by omega⟩
theorem QmP (R:Nat→Nat)(r:Nat)(l:List Eg)(A:List Int):plcW ((subP R r l).map fun i:Nat=>(i:Int)) A=whole R r l A:=by
 unfold plcW whole
 apply List.map_congr_left
 intro p _
 rw [YC,YC,YH]
 cases (subP R r l)[p.toNat]? <;> rfl
theorem QmA {R:Nat→Nat}{r:Nat}{l:List Eg}:∀ p∈((subP R r l).map fun i:Nat=>(i:Int)),0≤p∧p<(l.length:Int):=fun p hp=>by
 obtain⟨i,hi,rfl⟩:=List.mem_map.1 hp
 have:=Qow hi
 omega
end Go.Proofs.YtalflecmadacaaaGreat
