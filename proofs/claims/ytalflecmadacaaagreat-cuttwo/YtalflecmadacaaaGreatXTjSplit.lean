import Derived.Test.YtalflecmadacaaaGreatZAU
import Derived.Test.YtalflecmadacaaaGreatZAT
import Derived.Test.YtalflecmadacaaaGreatZBJ
import Derived.Test.YtalflecmadacaaaGreatZAA
import Derived.Test.YtalflecmadacaaaGreatZAD
import Derived.Test.YtalflecmadacaaaGreatZAQ
import Derived.Test.YtalflecmadacaaaGreatZAB
set_option maxRecDepth 100000
set_option maxHeartbeats 8000000
namespace Go.Proofs.YtalflecmadacaaaGreat
open Go Go.Proofs Go.RowKit
theorem QlI:(Tryz.prog.info? 84).map (fun i=>(i.zero,i.size,i.bytes))=some (some (.pointer none),1,8):=by kernel_rfl
theorem QgG (n:Nat):(madeCells (Value.pointer none).cells (n*1)).toList=List.replicate n (.pointer none):=by
 apply List.ext_getElem
 ·simp [madeCells]
 ·intro i h1 h2
  simp [madeCells,Value.cells,Nat.mod_one]
def ofV (N r pb:Nat):List Value:=(List.replicate N (Value.pointer none)).set r (.pointer (some ⟨pb,0,none⟩))
theorem QiA {N r pb i:Nat}(h:i<N):(ofV N r pb)[i]? = some (if i=r then .pointer (some ⟨pb,0,none⟩) else .pointer none):=by
 unfold ofV
 rw [List.getElem?_set]
 by_cases e:r=i
 ·subst e;simp [h]
 ·rw [if_neg e,if_neg (fun k=>e k.symm)];simp [h]
def nmL (R:Nat→Nat)(r N j:Nat):List Nat:=(List.range N).map fun v=>if v<j∧R v=r then nm R r v else 0
theorem QfG (R:Nat→Nat)(r N j:Nat):(nmL R r N j).length=N:=by simp [nmL]
theorem Qm5 (R:Nat→Nat)(r N:Nat):nmL R r N 0=List.replicate N 0:=by
 apply List.ext_getElem
 ·simp [nmL]
 ·intro i h1 h2;simp [nmL]
theorem Qer {R:Nat→Nat}{r N j v:Nat}(h:v<N):(nmL R r N j)[v]? = some (if v<j∧R v=r then nm R r v else 0):=by simp [nmL,h]
theorem QoS {R:Nat→Nat}{r N j:Nat}(h:R j=r):(nmL R r N j).set j (nm R r j)=nmL R r N (j+1):=by
 apply List.ext_getElem?
 intro i
 rw [List.getElem?_set,QfG]
 by_cases e:j=i
 ·subst e
  rw [if_pos rfl]
  by_cases hN:j<N
  ·rw [if_pos hN,Qer hN,if_pos ⟨by omega,h⟩]
  ·rw [if_neg hN,YL (by rw [QfG];omega)]
 ·rw [if_neg e]
  by_cases hN:i<N
  ·rw [Qer hN,Qer hN]
   have:(i<j∧R i=r)↔(i<j+1∧R i=r):=⟨fun ⟨a,b⟩=>⟨by omega,b⟩,fun ⟨a,b⟩=>⟨by omega,b⟩⟩
   simp only [this]
  ·rw [YL (by rw [QfG];omega),YL (by rw [QfG];omega)]
theorem Qm6 {R:Nat→Nat}{r N j:Nat}(h:R j≠r):nmL R r N (j+1)=nmL R r N j:=by
 unfold nmL
 apply List.map_congr_left
 intro i _
 by_cases e:i=j
 ·subst e;rw [if_neg (fun k=>h k.2),if_neg (fun k=>h k.2)]
 ·have:(i<j+1∧R i=r)↔(i<j∧R i=r):=⟨fun ⟨a,b⟩=>⟨by omega,b⟩,fun ⟨a,b⟩=>⟨by omega,b⟩⟩
  simp only [this]
theorem Qjt (l:List Nat)(j v:Nat):(natsV l).set j (.int .i64 (v:Int))=natsV (l.set j v):=by simp [natsV,List.map_set]
structure Sp (w:World)(x N r pk pl nb:Nat)(gv:Value)(pc:List Value)(nv:List Nat)(W:World):Prop where
 of:Blk 84 W (x+1) (ofV N r pk)
 gr:Blk 24 W x [.int .i64 (N:Int),gv]
 cpl:W.cell? ⟨pl,0,none⟩=some (.pointer (some ⟨pk,0,none⟩))
 cpc:Blk 110 W pk pc
 cnm:Blk 3 W nb (natsV nv)
 bel:Below x w W
 o:x+1<pk∧x+1<pl∧pl≠pk∧pk<nb∧pl<nb
section
variable {w:World} {x N r pk pl nb:Nat} {gv:Value} {pc:List Value} {nv:List Nat} {W W':World}
theorem Sp.hi (h:Sp w x N r pk pl nb gv pc nv W)(hb:Below (nb+1) W W'):Sp w x N r pk pl nb gv pc nv W':=by
 have ho:=h.o
 exact⟨(hb.block _ (by omega)).trans h.of,(hb.block _ (by omega)).trans h.gr,(hb.cell (p:=⟨pl,0,none⟩) (by simp only;omega)).trans h.cpl,(hb.block _ (by omega)).trans h.cpc,(hb.block _ (by omega)).trans h.cnm,h.bel.trans (hb.mono (by omega)),ho⟩
theorem Sp.setP (h:Sp w x N r pk pl nb gv pc nv W)(k:Nat)(v:Value):Sp w x N r pk pl nb gv (pc.set k v) nv (W.setCell ⟨pk,k,none⟩ v):=by
 have ho:=h.o
 exact⟨h.of.other (p:=⟨pk,k,none⟩) (by simp only;omega) v,h.gr.other (p:=⟨pk,k,none⟩) (by simp only;omega) v,(World.cell?_setCell_far _ _ _ _ (by simp only;omega)).trans h.cpl,h.cpc.set k v,h.cnm.other (p:=⟨pk,k,none⟩) (by simp only;omega) v,h.bel.setCell (p:=⟨pk,k,none⟩) (by simp only;omega) v,ho⟩
theorem Sp.setN (h:Sp w x N r pk pl nb gv pc nv W)(k v:Nat):Sp w x N r pk pl nb gv pc (nv.set k v) (W.setCell ⟨nb,k,none⟩ (.int .i64 (v:Int))):=by
 have ho:=h.o
 exact⟨h.of.other (p:=⟨nb,k,none⟩) (by simp only;omega) _,h.gr.other (p:=⟨nb,k,none⟩) (by simp only;omega) _,(World.cell?_setCell_far _ _ _ _ (by simp only;omega)).trans h.cpl,h.cpc.other (p:=⟨nb,k,none⟩) (by simp only;omega) _,by rw [← Qjt];exact h.cnm.set k _,h.bel.setCell (p:=⟨nb,k,none⟩) (by simp only;omega) _,ho⟩
end
theorem Qk7 (w:World)(v:Value)(e:TypeId)(j:Nat)(u:Value)(h:[v][j]? = some u):(w.alloc (.cells #[v] e)).cell? ((⟨w.heap.size,0,none⟩:Addr).add j)=some u:=by
 cases j with
 | zero=>simp only [List.getElem?_cons_zero,Option.some.injEq] at h;subst h;exact Qam rfl rfl
 | succ j=>simp at h
theorem QbN {W:World}{base:Nat}{e:TypeId}{size:Nat}{v:Value}{n:Nat}{xs:List Value}(h:W.ownsRow base e size v n xs){p:Addr}(hp:p.block<base)(u:Value):(W.setCell p u).ownsRow base e size v n xs:=
 h.kept (row:=some p.block) ⟨rfl,rfl,rfl,by simp,fun k hk hne=>Below.heap_setCell _ _ _ _ (by intro e;subst e;exact hne rfl)⟩ (by
  by_cases e:v.ownBlock=none
  ·exact .inl e
  ·exact .inr (fun e2=>by have:=(h.lt _ e2).1;omega))
theorem Qoc:(Tryz.prog.info? 50).map (fun i=>(i.zero,i.size,i.bytes))=some (some (.agg #[.int .i64 0,.int .i64 0,.int .i64 0]),3,24):=by kernel_rfl
def flE (l:List Ed):List Value:=l.flatMap encE
theorem Qny (l:List Ed)(e:Ed):flE (l++[e])=flE l++encE e:=by simp [flE]
theorem Qoe:∀ {l:List Ed} {j:Nat} {x:Ed},l[j]? = some x→(flE l)[j*3]? = some (.int .i64 x.1)∧(flE l)[j*3+1]? = some (.int .i64 x.2.1)∧(flE l)[j*3+2]? = some (.int .i64 x.2.2)
 | [],j,x,h=>by simp at h
 | y :: l,0,x,h=>by
  simp only [List.getElem?_cons_zero,Option.some.injEq] at h
  subst h
  exact⟨rfl,rfl,rfl⟩
 | y :: l,j+1,x,h=>by
  have h2:=Qoe (l:=l) (j:=j) (x:=x) (by simpa using h)
  have e:flE (y :: l)=encE y++flE l:=rfl
  have el:(encE y).length=3:=rfl
  rw [e,List.getElem?_append_right (by omega),List.getElem?_append_right (by omega),List.getElem?_append_right (by omega),el,show (j+1)*3-3=j*3 from by omega,show (j+1)*3+1-3=j*3+1 from by omega,show (j+1)*3+2-3=j*3+2 from by omega]
  exact h2
theorem QeL {W:World}{base:Nat}{e:TypeId}{v:Value}{l:List Ed}(h:W.ownsRow base e 3 v l.length (flE l)):Edges W.heap.size W v l:=by
 rcases h.2 with ⟨rfl,h0⟩ | ⟨g,cap,cur,rfl,hb,hg,hn,hc⟩
 ·exact .inl ⟨⟨_,_,rfl⟩,List.eq_nil_of_length_eq_zero h0⟩
 ·refine .inr ⟨g,0,cap,rfl,(Array.getElem?_eq_some_iff.1 hg).1,hn,fun j x hx=>?_⟩
  obtain⟨k0,k1,k2⟩:=Qoe hx
  have c0:=h.cells (g:=g) rfl (j*3) _ k0
  have c1:=h.cells (g:=g) rfl (j*3+1) _ k1
  have c2:=h.cells (g:=g) rfl (j*3+2) _ k2
  rw [Go.WideShapes.add_plain] at c0 c1 c2
  exact⟨c0,c1,c2⟩
theorem Qn5 {w:World}{t:TypeId}(e:Ed):∀ (i:Nat) (u:Value),(encE e)[i]? = some u→(w.alloc (.cells #[.int .i64 e.1,.int .i64 e.2.1,.int .i64 e.2.2] t)).cell? ((⟨w.heap.size,0,none⟩:Addr).add i)=some u:=by
 intro i u hu
 rw [Go.WideShapes.add_plain,Nat.zero_add]
 match i with
 | 0=>simp [encE] at hu;subst hu;simp
 | 1=>simp [encE] at hu;subst hu;simp
 | 2=>simp [encE] at hu;subst hu;simp
 | i+3=>simp [encE] at hu
theorem one3J (e:Ed):∀ u∈encE e,u.oneCell'=true:=by
 intro u hu
 simp [encE] at hu
 rcases hu with rfl | rfl | rfl <;> rfl
def AP (a b:Value):Prop:=∀ q,a.ownBlock=some q→b.ownBlock≠some q
theorem AP.ne {a b:Value}(h:AP a b):b.ownBlock=none∨b.ownBlock≠a.ownBlock:=by
 by_cases e:b.ownBlock=none
 ·exact .inl e
 ·refine .inr fun e2=>?_
  cases ha:a.ownBlock with
  | none=>rw [ha] at e2;exact e e2
  | some q=>exact h q ha (e2.trans ha)
theorem AP.symm {a b:Value}(h:AP a b):AP b a:=fun q h1 h2=>h q h2 h1
theorem AP.new {a a' b:Value}(h:AP a b){n:Nat}(hat:a'.ownBlock=a.ownBlock∨a'.ownBlock=some n)(hb:∀ q,b.ownBlock=some q→q<n):AP a' b:=fun q h1 h2=>by
 rcases hat with h3 | h3
 ·exact h q (h3.symm.trans h1) h2
 ·have e:n=q:=Option.some.inj (h3.symm.trans h1)
  have:=hb q h2
  omega
theorem AP.low {a b:Value}{z:Nat}(ha:∀ q,a.ownBlock=some q→z≤q)(hb:∀ q,b.ownBlock=some q→q<z):AP a b:=fun q h1 h2=>by have:=ha q h1;have:=hb q h2;omega
def tkL (R:Nat→Nat)(r:Nat)(B:List Int):List Int:=B.map fun v=>((nm R r v.toNat:Nat):Int)
theorem Qor (R:Nat→Nat)(r:Nat)(B:List Int):(tkL R r B).length=B.length:=by simp [tkL]
theorem Qmw {R:Nat→Nat}{r:Nat}{B:List Int}{j v:Nat}(h:j<B.length)(hv:B[j]=(v:Int)):tkL R r (B.take (j+1))=tkL R r (B.take j)++[((nm R r v:Nat):Int)]:=by
 rw [List.take_succ_eq_append_getElem h,hv]
 simp [tkL]
theorem Qky (N:Nat)(L:List Eg)(R:Nat→Nat)(r:Nat)(B:List Int)(hN:N≤1048576)(hm:L.length≤4194304)(hE:∀ e∈L,e.1<N∧e.2.1<N)(hR:∀ v,v<N→R v<N)(hRe:∀ e∈L,R e.1=R e.2.1)(hB:plcB N B=true)(hBr:∀ v∈B,R v.toNat=r)(hBn:B≠[])(hBl:B.length≤1048576)(g:Nat)(sv bv:Value)(w:World)(hl:Edges w.heap.size w sv (L.map edE))(hG:Blk 3 w g (natsV (leadL N R)))(hI:Ints w.heap.size w bv B):
  Calls Tryz.prog 62 #[.agg #[.int .i64 (N:Int),sv],bv,.slice (some ⟨g,0,none⟩) N N] w fun e w'=>∃ (pl pk cap:Nat) (sE sP sT:Value),e = .returned (.slice (some ⟨pl,0,none⟩) 1 cap)∧w'.cell? ⟨pl,0,none⟩=some (.pointer (some ⟨pk,0,none⟩))∧w.heap.size≤pl∧w.heap.size≤pk∧Blk 110 w' pk [.int .i64 (nm R r N:Int),sE,sP,sT]∧w'.ownsRow w.heap.size 50 3 sE ((subE R r L).map edE).length (flE ((subE R r L).map edE))∧w'.ownsRow w.heap.size 3 1 sP ((subP R r L).map fun i:Nat=>(i:Int)).length (((subP R r L).map fun i:Nat=>(i:Int)).map (Value.int .i64))∧w'.ownsRow w.heap.size 3 1 sT (tkL R r B).length ((tkL R r B).map (Value.int .i64))∧Below w.heap.size w w':=by
 have hmix:=mixed
 obtain⟨p,c,rfl⟩:=hl.lenG
 obtain⟨pb,cb,rfl,ho⟩:=hI.openW
 have HO:Hid _:=fun (j:Nat) (hj:j<B.length)=>ho (j:=j) hj
 clear ho
 obtain⟨i0,hi,hz0,hz1,hz2⟩:=info_parts QlI
 have HG:Hid (Blk 3 w g (natsV (leadL N R))):=hG
 have HLE:Hid (Edges w.heap.size w (.slice p L.length c) (L.map edE)):=hl
 have hgl:=hG.lt
 have hg1:Grew w (w.alloc (.cells #[.int .i64 (N:Int),.slice p L.length c] 24)):=(Grew.refl w).alloc _
 have E1:Hid ((w.alloc (.cells #[.int .i64 (N:Int),.slice p L.length c] 24)).heap.size=w.heap.size+1):=by show _=_;simp
 clear hG hl hI
 go_enter Tryz.func62,Tryz.ntmps62
 go_wp2_with (at_make;refine wpList_make_full _ rfl _ _ 82 rfl w.heap.size 84 i0 (.pointer none) 1 Tryz.underlying82 hi hz0 hz1 .i64 .i64 _ _ N rfl rfl rfl rfl (by rw [hz2];omega) (by unfold maxLen;omega) (by simp) ?_;intro w3 hown hgrow;have hb3:Below (w.alloc (.cells #[.int .i64 (N:Int),.slice p L.length c] 24)).heap.size (w.alloc (.cells #[.int .i64 (N:Int),.slice p L.length c] 24)) w3:=YD.grown hgrow YA (fun k e=>by cases e);have hX3:Blk 24 w3 w.heap.size [.int .i64 (N:Int),.slice p L.length c]:=Blk.go (heap_alloc_new w _) hb3;have hbw:Below w.heap.size w w3:=hg1.below.trans (hb3.mono (by rw [E1.out];omega));rw [E1.out] at hown;have hrow:=Blk.made hown;have hsz:=hrow.lt;rw [QgG] at hrow;have HX3:Hid (Blk 24 w3 w.heap.size [.int .i64 (N:Int),.slice p L.length c]):=hX3;have HRow:Hid (Blk 84 w3 (w.heap.size+1) (List.replicate N (.pointer none))):=hrow;have HB3:Hid (Below w.heap.size w w3):=hbw;clear hown hgrow hb3 hrow hbw hX3)
 obtain⟨x,hx⟩:∃ n,w.heap.size=n:=⟨_,rfl⟩
 rw [hx] at HX3 HRow hsz HB3 hgl ⊢
 clear E1 hg1 hi hz0 hz1 hz2
 obtain⟨i1,hi,hz0,hz1,hz2⟩:=info_parts QlI
 have hBpos:0<B.length:=List.length_pos_iff.2 hBn
 go_loopw [8,25] (fun lv i wr=>(i = .int .i64 0∧lv = .slice none 0 0∧wr=w3)∨∃ j pk pl cap:Nat,1≤j∧j≤B.length∧i = .int .i64 j∧lv = .slice (some ⟨pl,0,none⟩) 1 cap∧wr.cell? ⟨pl,0,none⟩=some (.pointer (some ⟨pk,0,none⟩))∧Hid (Blk 84 wr (x+1) (ofV N r pk))∧Hid (Blk 110 wr pk [.int .i64 0,.slice none 0 0,.slice none 0 0,.slice none 0 0])∧Hid (Blk 24 wr x [.int .i64 (N:Int),.slice p L.length c])∧Hid (Below x w wr)∧x+1<pk∧x+1<pl∧pl≠pk) (fun _ i _=>B.length-(intOf i).toNat)
 case atStart=>exact .inl ⟨rfl,rfl,rfl⟩
 case round=>
  rcases hrel with ⟨rfl,rfl,rfl⟩ | ⟨j,pk,pl,cap,hj1,hj,rfl,rfl,hpl,HOf,HPc,HGr,HB,hpk,hpl1,hne⟩
  ·have hjl:(0:Int)<(B.length:Int):=by omega
   obtain⟨b2,off2,rfl,hb2,hc2⟩:=HO.out 0 hBpos
   rw [hx] at hb2 hc2
   have c0:=hc2 wr HB3.out 0 hBpos
   rw [QbJ hBpos,Nat.add_zero] at c0
   obtain⟨v,hv1,hv2⟩:=Qgy hB hBpos
   have hvr:R v=r:=by have:=hBr _ (YG hBpos);rw [hv1,YM] at this;exact this
   have hrN:r<N:=by rw [← hvr];exact hR v hv2
   rw [hv1] at c0
   have hvl:(v:Int)<(N:Int):=by omega
   have hrl:(r:Int)<(N:Int):=by omega
   have g0:wr.cell? ⟨g,v,none⟩=some (.int .i64 (r:Int)):=by rw [← hvr];exact (HG.out.go (by rw [hx];exact HB3.out)).cell (Qbs hv2)
   have o0:wr.cell? ⟨x+1,r,none⟩=some (.pointer none):=HRow.out.cell (by simp [hrN])
   have f0:=HRow.out.frozen r
   have hgr:=World.block_lt_of_cell? wr _ g0
   have hxr:=HRow.out.lt
   clear hc2 hv1 hvr
   go_wp2
   generalize (Question.appendCap 1 0 84).cut (wr.tape wr.drawn (Question.appendCap 1 0 84))=cap
   generalize Builtin.zeroCells #[Value.pointer none] (cap-1)=zs
   have hOf:=HRow.out.set r (.pointer (some ⟨wr.heap.size,0,none⟩))
   have hX0:=HX3.out.other (p:=⟨x+1,r,none⟩) (by simp only;omega) (.pointer (some ⟨wr.heap.size,0,none⟩))
   have hb0:Below x w (wr.setCell ⟨x+1,r,none⟩ (.pointer (some ⟨wr.heap.size,0,none⟩))):=HB3.out.setCell (p:=⟨x+1,r,none⟩) (by simp only;omega) _
   have hs0:(wr.setCell ⟨x+1,r,none⟩ (.pointer (some ⟨wr.heap.size,0,none⟩))).heap.size=wr.heap.size:=by simp
   generalize wr.setCell ⟨x+1,r,none⟩ (.pointer (some ⟨wr.heap.size,0,none⟩))=W0 at hOf hX0 hb0 hs0 ⊢
   generalize wr.heap.size=pk at hs0 hOf hxr ⊢
   subst hs0
   have hPc:Blk 110 (W0.alloc (.cells #[.int .i64 0,.slice none 0 0,.slice none 0 0,.slice none 0 0] 110)) W0.heap.size [.int .i64 0,.slice none 0 0,.slice none 0 0,.slice none 0 0]:=heap_alloc_new W0 _
   have hb1:Below W0.heap.size W0 (W0.alloc (.cells #[.int .i64 0,.slice none 0 0,.slice none 0 0,.slice none 0 0] 110)):=YD.alloc YA _
   have hs1:(W0.alloc (.cells #[.int .i64 0,.slice none 0 0,.slice none 0 0,.slice none 0 0] 110)).heap.size=W0.heap.size+1:=by simp
   generalize W0.alloc (.cells #[.int .i64 0,.slice none 0 0,.slice none 0 0,.slice none 0 0] 110)=W1 at hPc hb1 hs1 ⊢
   have hb2':Below W1.heap.size W1 (W1.alloc (.cells #[.pointer (some ⟨W0.heap.size,0,none⟩)] 84)):=YD.alloc YA _
   have hs2:(W1.alloc (.cells #[.pointer (some ⟨W0.heap.size,0,none⟩)] 84)).heap.size=W0.heap.size+1+1:=by simp [hs1]
   generalize W1.alloc (.cells #[.pointer (some ⟨W0.heap.size,0,none⟩)] 84)=W2 at hb2' hs2 ⊢
   have hq:(W2.alloc (.cells (#[Value.pointer (some ⟨W0.heap.size,0,none⟩)]++zs) 84)).cell? ⟨W0.heap.size+1+1,0,none⟩=some (.pointer (some ⟨W0.heap.size,0,none⟩)):=by rw [← hs2];exact Qam (cs:=#[Value.pointer (some ⟨W0.heap.size,0,none⟩)]++zs) rfl (by rw [Array.getElem?_append_left (by simp)];rfl)
   have hb3:Below W2.heap.size W2 (W2.alloc (.cells (#[Value.pointer (some ⟨W0.heap.size,0,none⟩)]++zs) 84)):=YD.alloc YA _
   generalize W2.alloc (.cells (#[Value.pointer (some ⟨W0.heap.size,0,none⟩)]++zs) 84)=W3 at hq hb3 ⊢
   have hb13:Below W1.heap.size W1 W3:=hb2'.trans (hb3.mono hb2'.size)
   have hb03:Below W0.heap.size W0 W3:=hb1.trans (hb13.mono hb1.size)
   refine⟨.inr ⟨1,W0.heap.size,W0.heap.size+1+1,cap,by omega,hBpos,rfl,rfl,hq,?_,?_,?_,?_,by omega,by omega,by omega⟩,by simp [intOf];omega⟩
   ·exact (hOf.go hb03:Blk _ W3 _ _)
   ·exact (hPc.go hb13:Blk _ W3 _ _)
   ·exact (hX0.go hb03:Blk _ W3 _ _)
   ·exact Qaa (hb0.trans (hb03.mono (by omega))) 1
  ·by_cases hlt:j<B.length
   ·have hjl:(j:Int)<(B.length:Int):=by omega
    obtain⟨b2,off2,rfl,hb2,hc2⟩:=HO.out j hlt
    rw [hx] at hb2 hc2
    have c0:=hc2 wr HB.out j hlt
    rw [QbJ hlt] at c0
    obtain⟨v,hv1,hv2⟩:=Qgy hB hlt
    have hvr:R v=r:=by have:=hBr _ (YG hlt);rw [hv1,YM] at this;exact this
    have hrN:r<N:=by rw [← hvr];exact hR v hv2
    rw [hv1] at c0
    have hvl:(v:Int)<(N:Int):=by omega
    have hrl:(r:Int)<(N:Int):=by omega
    have g0:wr.cell? ⟨g,v,none⟩=some (.int .i64 (r:Int)):=by rw [← hvr];exact (HG.out.go (by rw [hx];exact HB.out)).cell (Qbs hv2)
    have o0:wr.cell? ⟨x+1,r,none⟩=some (.pointer (some ⟨pk,0,none⟩)):=HOf.out.cell (by rw [QiA hrN,if_pos rfl])
    have HX:Hid (wr.cell? ⟨pl,0,none⟩=some (.pointer (some ⟨pk,0,none⟩))):=hpl
    have HLT:Hid (j<B.length):=hlt
    have HP:Hid (x+1<pk∧x+1<pl∧pl≠pk):=⟨hpk,hpl1,hne⟩
    clear hc2 hv1 hvr hpl hpk hpl1 hne hlt
    go_wp2
    exact⟨.inr ⟨j+1,pk,pl,cap,by omega,HLT.out,by go_num,rfl,HX.out,HOf,HPc,HGr,HB,HP.out.1,HP.out.2.1,HP.out.2.2⟩,by have:=HLT.out;simp [intOf];omega⟩
   ·obtain rfl:j=B.length:=by omega
    have hpx:=HB.out.size
    have x0:=HGr.out.cell (j:=0) rfl
    have hpl2:=World.block_lt_of_cell? wr _ hpl
    have hpk2:=HPc.out.lt
    have HX:Hid (wr.cell? ⟨pl,0,none⟩=some (.pointer (some ⟨pk,0,none⟩))):=hpl
    have HP:Hid (x+1<pk∧x+1<pl∧pl≠pk):=⟨hpk,hpl1,hne⟩
    clear hpl hpk hpl1 hne hi hz0 hz1 hz2 hj hj1 hlt
    obtain⟨i2,hi,hz0,hz1,hz2⟩:=info_parts infoI
    go_wp2_with (at_make;refine wpList_make_full _ rfl _ _ 27 rfl wr.heap.size 3 i2 (.int .i64 0) 1 Tryz.underlying27 hi hz0 hz1 .i64 .i64 _ _ N rfl rfl rfl rfl (by rw [hz2];omega) (by unfold maxLen;omega) (by simp) ?_;intro w4 hown hgrow;have hb4:Below wr.heap.size wr w4:=YD.grown hgrow YA (fun k e=>by cases e);have hrow:=Blk.made hown;rw [QaK,Qe6] at hrow;have hiz:iotaL N 0=nmL R r N 0:=(by rw [Qm5];simp [iotaL]);rw [hiz] at hrow;have HS4:Hid (Sp w x N r pk pl wr.heap.size (.slice p L.length c) [.int .i64 (nm R r 0:Int),.slice none 0 0,.slice none 0 0,.slice none 0 0] (nmL R r N 0) w4):=⟨HOf.out.go hb4,HGr.out.go hb4,(hb4.cell (p:=⟨pl,0,none⟩) hpl2).trans HX.out,HPc.out.go hb4,hrow,HB.out.trans (hb4.mono (by omega)),HP.out.1,HP.out.2.1,HP.out.2.2,hpk2,hpl2⟩;clear hown hgrow hrow hb4 hiz;have x0:=HS4.out.gr.cell (j:=0) rfl)
    clear HOf HPc HGr HB HX HP hpl2 hpk2 hpx HRow HB3 HX3 hsz hi hz0 hz1 hz2
    obtain⟨nb,hnb⟩:∃ n,wr.heap.size=n:=⟨_,rfl⟩
    rw [hnb] at HS4 ⊢
    clear hnb
    go_loopw [61] (fun i wr=>∃ j:Nat,j≤N∧i = .int .i64 j∧Hid (Sp w x N r pk pl nb (.slice p L.length c) [.int .i64 (nm R r j:Int),.slice none 0 0,.slice none 0 0,.slice none 0 0] (nmL R r N j) wr)) (fun i _=>N-(intOf i).toNat)
    case atStart=>exact⟨0,YN,rfl,HS4⟩
    case round=>
     clear HS4 x0
     obtain⟨j,hj,rfl,HS⟩:=hrel
     by_cases hlt:j<N
     ·have hjl:(j:Int)<(N:Int):=by omega
      have hRj:=hR j hlt
      have hRl:((R j:Nat):Int)<(N:Int):=by omega
      have g0:wr.cell? ⟨g,j,none⟩=some (.int .i64 (R j:Int)):=(HG.out.go (by rw [hx];exact HS.out.bel)).cell (Qbs hlt)
      have o0:=HS.out.of.cell (QiA hRj)
      have HLT:Hid (j<N):=hlt
      have ho:=HS.out.o
      by_cases hr:R j=r
      ·rw [if_pos hr] at o0
       have p0:=HS.out.cpc.cell (j:=0) rfl
       have f0:=HS.out.cpc.frozen 0
       have n0:=HS.out.cnm.cell (j:=j) (by rw [natsV,YH,Qer hlt];rfl)
       have f1:=HS.out.cnm.frozen j
       have HE1:Hid ((nmL R r N j).set j (nm R r j)=nmL R r N (j+1)):=QoS hr
       have HE2:Hid (nm R r (j+1)=nm R r j+1):=by show _=_;rw [Qeo,if_pos hr]
       have hq:=Qlh R r j
       have HS1:Hid _:=HS.out.setN j (nm R r j)
       generalize nm R r j=q at *
       have HS2:Hid _:=HS1.out.setP 0 (.int .i64 ((q+1:Nat):Int))
       have hne:pk≠nb:=by omega
       clear hlt HS HS1 hr
       go_wp2
       refine⟨⟨j+1,HLT.out,by go_num,?_⟩,by have:=HLT.out;simp [intOf];omega⟩
       rw [← HE1.out,HE2.out]
       exact HS2.out
      ·rw [if_neg hr] at o0
       have HE1:Hid (nmL R r N (j+1)=nmL R r N j):=Qm6 hr
       have HE2:Hid (nm R r (j+1)=nm R r j):=by show _=_;rw [Qeo,if_neg hr];rfl
       clear hlt hr
       go_wp2
       refine⟨⟨j+1,HLT.out,by go_num,?_⟩,by have:=HLT.out;simp [intOf];omega⟩
       rw [HE1.out,HE2.out]
       exact HS
     ·obtain rfl:N=j:=by omega
      go_wp2
      go_loopw [93] (fun i wr=>∃ (j:Nat) (sT:Value),j≤B.length∧i = .int .i64 j∧Hid (Sp w x N r pk pl nb (.slice p L.length c) [.int .i64 (nm R r N:Int),.slice none 0 0,.slice none 0 0,sT] (nmL R r N N) wr)∧Hid (wr.ownsRow (nb+1) 3 1 sT (tkL R r (B.take j)).length ((tkL R r (B.take j)).map (Value.int .i64)))) (fun i _=>B.length-(intOf i).toNat)
      case atStart=>exact⟨0,_,YN,rfl,HS,World.ownsRow_nil _ _ _ _⟩
      case round=>
       clear HS hlt
       obtain⟨j,sT,hj,rfl,HS,HT⟩:=hrel
       obtain⟨i2,hi,hz0,hz1,hz2⟩:=info_parts infoI
       by_cases hlt:j<B.length
       ·have hjl:(j:Int)<(B.length:Int):=by omega
        obtain⟨b2,off2,rfl,hb2,hc2⟩:=HO.out j hlt
        rw [hx] at hb2 hc2
        have c0:=hc2 wr HS.out.bel j hlt
        rw [QbJ hlt] at c0
        obtain⟨v,hv1,hv2⟩:=Qgy hB hlt
        have hvr:R v=r:=by have:=hBr _ (YG hlt);rw [hv1,YM] at this;exact this
        have hrN:r<N:=by rw [← hvr];exact hR v hv2
        have HST:Hid _:=Qmw (R:=R) (r:=r) hlt hv1
        rw [hv1] at c0
        have hvl:(v:Int)<(N:Int):=by omega
        have hrl:(r:Int)<(N:Int):=by omega
        have g0:wr.cell? ⟨g,v,none⟩=some (.int .i64 (r:Int)):=by rw [← hvr];exact (HG.out.go (by rw [hx];exact HS.out.bel)).cell (Qbs hv2)
        have o0:wr.cell? ⟨x+1,r,none⟩=some (.pointer (some ⟨pk,0,none⟩)):=HS.out.of.cell (by rw [QiA hrN,if_pos rfl])
        have t3:=HS.out.cpc.cell (j:=3) rfl
        have f3:=HS.out.cpc.frozen 3
        have n0:wr.cell? ⟨nb,v,none⟩=some (.int .i64 (nm R r v:Int)):=HS.out.cnm.cell (by rw [natsV,YH,Qer hv2,if_pos ⟨hv2,hvr⟩];rfl)
        have HLT:Hid (j<B.length):=hlt
        have hTl:(tkL R r (B.take j)).length≤1048576:=by rw [Qor,List.length_take];omega
        generalize tkL R r (B.take j)=TL at *
        generalize nm R r v=q at *
        obtain⟨px,cx,nx,rfl⟩:=Qa3 HT.out
        have ho:=HS.out.o
        have hnbl:=HS.out.cnm.lt
        clear hc2 hv1 hvr hlt
        go_wp2
        refine Qai (S:=(fun w':World=>w'.cell? ⟨pk,3,none⟩=some (.slice px cx nx)∧w'.cell? ⟨nb,v,none⟩=some (.int .i64 (q:Int)))) (by kernel_rfl) ⟨t3,n0⟩ (fun hHeld=>?_)
        refine tL 0 ?_
        try simp only [YS]
        refine tL 1 ?_
        refine tL 2 ?_
        refine tL 3 ?_
        refine tL 4 ?_
        refine tL 5 ?_
        refine tL 6 ?_
        refine tL 7 ?_
        refine tL 8 ?_
        have HS0:Hid (Sp w x N r pk pl nb (.slice p L.length c) [.int .i64 (nm R r N:Int),.slice none 0 0,.slice none 0 0,.slice px cx nx] (nmL R r N N) wr):=HS
        have hbd:Below wr.heap.size wr wr.drew:=Qaa YD 1
        have hbA:Below wr.heap.size wr (wr.drew.alloc (.cells #[.int .i64 (q:Int)] 3)):=hbd.alloc YA _
        have hownA:(wr.drew.alloc (.cells #[.int .i64 (q:Int)] 3)).ownsRow (nb+1) 3 1 (.slice px cx nx) TL.length (TL.map (Value.int .i64)):=World.ownsRow.alloc HT.out.drew _
        have hnw:Src (wr.drew.alloc (.cells #[.int .i64 (q:Int)] 3)) (.slice (some ⟨wr.heap.size,0,none⟩) 1 1) 1 1 [.int .i64 (q:Int)]:=.inr ⟨⟨wr.heap.size,0,none⟩,1,rfl,rfl,Qk7 wr.drew (.int .i64 (q:Int)) 3,fun z hz=>by rw [YF hz];rfl⟩
        have hmx:TL.length+1≤maxLen:=by unfold maxLen;omega
        have hby:(TL.length+1)*8≤140737488355328:=by omega
        have hsA:nb+1≤(wr.drew.alloc (.cells #[.int .i64 (q:Int)] 3)).heap.size:=Nat.le_trans hnbl hbA.size
        refine Qac (rs:=[9]) (by kernel_rfl) (by simp) ?_
        refine AllReadyL.cons rfl (fun K hK=>?_) AllReadyL.nil
        go_simp
        refine hK.out _ _ ⟨Qab hbA t3,Qab hbA n0⟩ (fun hHeld2=>?_)
        clear hK K
        try simp only [Act.put,YS,YT,YU]
        refine Qac (rs:=[10]) (by kernel_rfl) (by simp) ?_
        refine AllReadyL.cons rfl (fun K hK=>?_) AllReadyL.nil
        refine Qap rfl _ _ 27 rfl (nb+1) 3 i2 (.int .i64 0) 1 8 Tryz.underlying27 hi hz0 hz1 hz2 rfl (by decide) (.slice px cx nx) TL.length (TL.map (Value.int .i64)) rfl hownA (.slice (some ⟨wr.heap.size,0,none⟩) 1 1) 1 [.int .i64 (q:Int)] rfl hnw hmx hby hsA ?_
        intro v8 w12 ho8 hg8 hat8
        obtain⟨a8,m8,k8,rfl⟩:=Qa3 ho8
        have hb12:Below (nb+1) wr w12:=(hbA.mono hnbl).grown hg8 hsA (fun q hq=>(hownA.lt q hq).1)
        have HS12:=HS.out.hi hb12
        have t3:=HS12.cpc.cell (j:=3) rfl
        have f3:=HS12.cpc.frozen 3
        have n12:w12.cell? ⟨nb,v,none⟩=some (.int .i64 (q:Int)):=(hb12.cell (p:=⟨nb,v,none⟩) (Nat.lt_succ_self _)).trans n0
        have HSF:Hid _:=HS12.setP 3 (.slice a8 m8 k8)
        have HOF:Hid _:=QbN ho8 (p:=⟨pk,3,none⟩) (by show pk<nb+1;omega) (.slice a8 m8 k8)
        refine hK.out _ _ ⟨t3,n12⟩ (fun hHeld3=>?_)
        clear hK K
        try simp only [Act.put,YS]
        clear ho8 hg8 hat8 hownA hnw hbA hbd hHeld hHeld2 HS12 hb12 hmx hby hsA HS HS0 HT
        refine tL 11 ?_
        refine tL 12 ?_
        refine Qac (rs:=[13]) (by kernel_rfl) (by simp) ?_
        refine AllReadyL.last rfl (by kernel_rfl) (fun K hK=>?_)
        go_simp
        refine hK.out _ _ ?_
        clear hK K
        try simp only [Act.put,YS,YT,YU]
        refine Qak (by kernel_rfl) ?_ _
        go_wp2
        refine⟨⟨j+1,_,HLT.out,by go_num,HSF,?_⟩,by have:=HLT.out;simp [intOf];omega⟩
        rw [HST.out,YI,List.map_append]
        exact HOF
       ·obtain rfl:j=B.length:=by omega
        have x1:=HS.out.gr.cell (j:=1) rfl
        have HTz:Hid (∀ q,sT.ownBlock=some q→q<wr.heap.size):=fun q hq=>(HT.out.lt q hq).2
        have hnbl:=HS.out.cnm.lt
        obtain⟨z,hz⟩:∃ n,wr.heap.size=n:=⟨_,rfl⟩
        have HE0:Hid (wr.ownsRow z 50 3 (.slice none 0 0) ((subE R r (L.take 0)).map edE).length (flE ((subE R r (L.take 0)).map edE))):=World.ownsRow_nil _ _ _ _
        have HP0:Hid (wr.ownsRow z 3 1 (.slice none 0 0) ((subP R r (L.take 0)).map fun i:Nat=>(i:Int)).length (((subP R r (L.take 0)).map fun i:Nat=>(i:Int)).map (Value.int .i64))):=World.ownsRow_nil _ _ _ _
        have HT0:Hid (wr.ownsRow (nb+1) 3 1 sT (tkL R r B).length ((tkL R r B).map (Value.int .i64))):=by
         have h1:=HT.out
         rw [List.take_length] at h1
         exact h1
        have hzw:z≤wr.heap.size:=by omega
        rw [hz] at HTz hnbl
        clear HT hz hi hz0 hz1 hz2 hj hlt
        go_wp2
        go_loopw [121] (fun i wr=>∃ (j:Nat) (sE sP:Value),j≤L.length∧i = .int .i64 j∧z≤wr.heap.size∧Hid (Sp w x N r pk pl nb (.slice p L.length c) [.int .i64 (nm R r N:Int),sE,sP,sT] (nmL R r N N) wr)∧Hid (wr.ownsRow z 50 3 sE ((subE R r (L.take j)).map edE).length (flE ((subE R r (L.take j)).map edE)))∧Hid (wr.ownsRow z 3 1 sP ((subP R r (L.take j)).map fun i:Nat=>(i:Int)).length (((subP R r (L.take j)).map fun i:Nat=>(i:Int)).map (Value.int .i64)))∧Hid (wr.ownsRow (nb+1) 3 1 sT (tkL R r B).length ((tkL R r B).map (Value.int .i64)))∧Hid (AP sE sP)) (fun i _=>L.length-(intOf i).toNat)
        case atStart=>exact⟨0,_,_,YN,rfl,hzw,HS,HE0,HP0,HT0,fun q hq=>by cases hq⟩
        case round=>
         clear HS HE0 HP0 HT0 hzw x1
         obtain⟨j,sE,sP,hj,rfl,hzw,HS,HEr,HPr,HTr,HAP⟩:=hrel
         by_cases hlt:j<L.length
         ·have hjl:(j:Int)<(L.length:Int):=by omega
          obtain⟨b,off,rfl,hb1,hcap,hc⟩:=HLE.out.eg hlt
          rw [hx] at hc hb1
          obtain⟨e0,e1,e2⟩:=hc wr HS.out.bel j hlt
          obtain⟨hu,hv⟩:=hE L[j] (YG hlt)
          have hRR:=hRe L[j] (YG hlt)
          have HS1:Hid _:=Qkq (R:=R) (r:=r) hlt
          have HS2:Hid _:=Qkp (R:=R) (r:=r) hlt
          have hlE:(subE R r (L.take j)).length≤4194304:=by have:=(Qd7 R r (L.take j)).2;rw [List.length_take] at this;omega
          have hlP:(subP R r (L.take j)).length≤4194304:=by have:=(Qd7 R r (L.take j)).1;omega
          have HLT:Hid (j<L.length):=hlt
          generalize subE R r (L.take j)=EL at *
          generalize subP R r (L.take j)=PL at *
          generalize L[j]=e at *
          obtain⟨u,v,wt⟩:=e
          simp only at hu hv hRR e0 e1 e2 HS1 HS2
          have HRR:Hid (R u=R v):=hRR
          clear hc hlt hRR
          have hu':(u:Int)<(N:Int):=by omega
          have hv':(v:Int)<(N:Int):=by omega
          have hRu:=hR u hu
          have hRl:((R u:Nat):Int)<(N:Int):=by omega
          have g0:wr.cell? ⟨g,u,none⟩=some (.int .i64 (R u:Int)):=(HG.out.go (by rw [hx];exact HS.out.bel)).cell (Qbs hu)
          have o0:=HS.out.of.cell (QiA hRu)
          have ho:=HS.out.o
          have hgz:=World.block_lt_of_cell? wr _ g0
          have hoz:=HS.out.of.lt
          have HE6:Hid (Blk 50 (wr.alloc (.cells #[.int .i64 (u:Int),.int .i64 (v:Int),.int .i64 (wt:Int)] 50)) wr.heap.size [.int .i64 (u:Int),.int .i64 (v:Int),.int .i64 (wt:Int)]):=heap_alloc_new wr _
          have HB6:Hid (Below wr.heap.size wr (wr.alloc (.cells #[.int .i64 (u:Int),.int .i64 (v:Int),.int .i64 (wt:Int)] 50))):=YD.alloc YA _
          by_cases hr:R u=r
          ·rw [if_pos hr] at o0
           rw [if_pos hr] at HS1 HS2
           rw [hr] at g0 o0 hRl
           have nu:wr.cell? ⟨nb,u,none⟩=some (.int .i64 (nm R r u:Int)):=HS.out.cnm.cell (by rw [natsV,YH,Qer hu,if_pos ⟨hu,hr⟩];rfl)
           have nv:wr.cell? ⟨nb,v,none⟩=some (.int .i64 (nm R r v:Int)):=HS.out.cnm.cell (by rw [natsV,YH,Qer hv,if_pos ⟨hv,HRR.out.symm.trans hr⟩];rfl)
           have hren:ren R r (u,v,wt)=(nm R r u,nm R r v,wt):=rfl
           rw [hren] at HS1
           generalize nm R r u=qu at *
           generalize nm R r v=qv at *
           clear hr hren
           have HNU:Hid (wr.cell? ⟨nb,u,none⟩=some (.int .i64 (qu:Int))∧wr.cell? ⟨nb,v,none⟩=some (.int .i64 (qv:Int))):=⟨nu,nv⟩
           go_wp2
           obtain⟨w6,hw6⟩:∃ W,wr.alloc (.cells #[.int .i64 (u:Int),.int .i64 (v:Int),.int .i64 (wt:Int)] 50)=W:=⟨_,rfl⟩
           rw [hw6] at HE6 HB6 ⊢
           clear hw6 e0 e1 e2 g0 o0
           have hnw6:nb+1≤wr.heap.size:=by omega
           have HS6:Hid (Sp w x N r pk pl nb (.slice (some ⟨b,off,none⟩) L.length c) [.int .i64 (nm R r N:Int),sE,sP,sT] (nmL R r N N) w6):=HS.out.hi (HB6.out.mono hnw6)
           have HE7:Hid (w6.ownsRow z 50 3 sE (EL.map edE).length (flE (EL.map edE))):=Qaq HEr.out HB6.out
           have HP7:Hid (w6.ownsRow z 3 1 sP (PL.map fun i:Nat=>(i:Int)).length ((PL.map fun i:Nat=>(i:Int)).map (Value.int .i64))):=Qaq HPr.out HB6.out
           have HT7:Hid (w6.ownsRow (nb+1) 3 1 sT (tkL R r B).length ((tkL R r B).map (Value.int .i64))):=Qaq HTr.out HB6.out
           have hz6:z≤w6.heap.size:=Nat.le_trans hzw HB6.out.size
           obtain⟨eb,heb⟩:∃ n,wr.heap.size=n:=⟨_,rfl⟩
           have hne6:eb≠pk∧nb<eb:=by omega
           rw [heb] at HE6 ⊢
           have HEq:Hid (∀ q,sE.ownBlock=some q→q<eb):=fun q hq=>by rw [← heb];exact (HEr.out.lt q hq).2
           have n6:w6.cell? ⟨nb,u,none⟩=some (.int .i64 (qu:Int)):=Qab HB6.out HNU.out.1
           have m6:w6.cell? ⟨nb,v,none⟩=some (.int .i64 (qv:Int)):=Qab HB6.out HNU.out.2
           clear HS HEr HPr HTr HB6 heb hgz hoz HNU
           obtain⟨pE,cE,rfl⟩:=Qan HE7.out
           obtain⟨pP,cP,rfl⟩:=Qan HP7.out
           simp only [List.length_map] at HE7 HP7 HS6 HAP HEq
           have k1:=HS6.out.cpc.cell (j:=1) rfl
           have a0:=HE6.out.cell (j:=0) rfl
           have a1:=HE6.out.cell (j:=1) rfl
           have a2:=HE6.out.cell (j:=2) rfl
           clear nu nv
           refine Qai (S:=(fun w':World=>w'.cell? ⟨pk,1,none⟩=some (.slice pE EL.length cE)∧w'.cell? ⟨nb,u,none⟩=some (.int .i64 (qu:Int))∧w'.cell? ⟨nb,v,none⟩=some (.int .i64 (qv:Int))∧w'.cell? ⟨eb,0,none⟩=some (.int .i64 (u:Int))∧w'.cell? ⟨eb,1,none⟩=some (.int .i64 (v:Int))∧w'.cell? ⟨eb,2,none⟩=some (.int .i64 (wt:Int)))) (by kernel_rfl) ⟨k1,n6,m6,a0,a1,a2⟩ (fun hHeld=>?_)
           refine tL 0 ?_
           try simp only [YS]
           refine tL 1 ?_
           refine tL 2 ?_
           refine tL 3 ?_
           refine tL 4 ?_
           simp only [YS,YT,YU]
           refine tL 5 ?_
           refine tL 6 ?_
           refine tL 7 ?_
           refine tL 8 ?_
           refine tL 9 ?_
           simp only [YS,YT,YU]
           refine tL 10 ?_
           refine tL 11 ?_
           refine tL 12 ?_
           refine tL 13 ?_
           refine tL 14 ?_
           simp only [YS,YT,YU]
           refine tL 15 ?_
           refine tL 16 ?_
           refine tL 17 ?_
           refine tL 18 ?_
           simp only [YS,YT,YU]
           obtain⟨i3,hi,hz0,hz1,hz2⟩:=info_parts Qoc
           have hbA:Below w6.heap.size w6 (w6.drew.alloc (.cells #[.int .i64 (qu:Int),.int .i64 (qv:Int),.int .i64 (wt:Int)] 50)):=(Qaa YD 1).alloc YA _
           have hownA:(w6.drew.alloc (.cells #[.int .i64 (qu:Int),.int .i64 (qv:Int),.int .i64 (wt:Int)] 50)).ownsRow z 50 3 (.slice pE EL.length cE) EL.length (flE (EL.map edE)):=World.ownsRow.alloc HE7.out.drew _
           have hpwA:(w6.drew.alloc (.cells #[.int .i64 (qu:Int),.int .i64 (qv:Int),.int .i64 (wt:Int)] 50)).ownsRow z 3 1 (.slice pP PL.length cP) PL.length ((PL.map fun i:Nat=>(i:Int)).map (Value.int .i64)):=World.ownsRow.alloc HP7.out.drew _
           have htwA:(w6.drew.alloc (.cells #[.int .i64 (qu:Int),.int .i64 (qv:Int),.int .i64 (wt:Int)] 50)).ownsRow (nb+1) 3 1 sT (tkL R r B).length ((tkL R r B).map (Value.int .i64)):=World.ownsRow.alloc HT7.out.drew _
           have hnw:Src (w6.drew.alloc (.cells #[.int .i64 (qu:Int),.int .i64 (qv:Int),.int .i64 (wt:Int)] 50)) (.slice (some ⟨w6.heap.size,0,none⟩) 1 1) 1 3 (encE ((qu:Int),(qv:Int),(wt:Int))):=.inr ⟨⟨w6.heap.size,0,none⟩,1,rfl,rfl,Qn5 (w:=w6.drew) ((qu:Int),(qv:Int),(wt:Int)),one3J _⟩
           have hmx:EL.length+1≤maxLen:=by unfold maxLen;omega
           have hby:(EL.length+1)*24≤140737488355328:=by omega
           have hsA:z≤(w6.drew.alloc (.cells #[.int .i64 (qu:Int),.int .i64 (qv:Int),.int .i64 (wt:Int)] 50)).heap.size:=Nat.le_trans hz6 hbA.size
           refine Qac (rs:=[19]) (by kernel_rfl) (by simp) ?_
           refine AllReadyL.cons rfl (fun K hK=>?_) AllReadyL.nil
           go_simp
           refine hK.out _ _ ⟨Qab hbA k1,Qab hbA n6,Qab hbA m6,Qab hbA a0,Qab hbA a1,Qab hbA a2⟩ (fun hHeld2=>?_)
           clear hK K
           try simp only [Act.put,YS,YT,YU]
           refine Qac (rs:=[20]) (by kernel_rfl) (by simp) ?_
           refine AllReadyL.cons rfl (fun K hK=>?_) AllReadyL.nil
           refine Qap rfl _ _ 22 rfl z 50 i3 (.agg #[.int .i64 0,.int .i64 0,.int .i64 0]) 3 24 Tryz.underlying22 hi hz0 hz1 hz2 (by first | rfl | simp [Value.cells]) (by decide) (.slice pE EL.length cE) EL.length (flE (EL.map edE)) rfl hownA (.slice (some ⟨w6.heap.size,0,none⟩) 1 1) 1 (encE ((qu:Int),(qv:Int),(wt:Int))) rfl hnw hmx hby hsA ?_
           intro v8 w12 ho8 hg8 hat8
           obtain⟨a8,m8,k8,rfl⟩:=Qa3 ho8
           have hneb:some eb≠(Value.slice pE EL.length cE).ownBlock:=fun e=>by have:=HEq.out eb e.symm;omega
           have hb12:Below (nb+1) w6 w12:=(hbA.mono (by omega)).grown hg8 (by omega) (fun q hq=>by have:=(hownA.lt q hq).1;omega)
           have HS12:=HS6.out.hi hb12
           have k12:=HS12.cpc.cell (j:=1) rfl
           have f12:=HS12.cpc.frozen 1
           have n12:w12.cell? ⟨nb,u,none⟩=some (.int .i64 (qu:Int)):=(hb12.cell (p:=⟨nb,u,none⟩) (Nat.lt_succ_self _)).trans n6
           have m12:w12.cell? ⟨nb,v,none⟩=some (.int .i64 (qv:Int)):=(hb12.cell (p:=⟨nb,v,none⟩) (Nat.lt_succ_self _)).trans m6
           have b0:w12.cell? ⟨eb,0,none⟩=some (.int .i64 (u:Int)):=hg8.cell (Qab hbA a0) hneb
           have b1:w12.cell? ⟨eb,1,none⟩=some (.int .i64 (v:Int)):=hg8.cell (Qab hbA a1) hneb
           have b2:w12.cell? ⟨eb,2,none⟩=some (.int .i64 (wt:Int)):=hg8.cell (Qab hbA a2) hneb
           have HP12:=hpwA.kept hg8 HAP.out.ne
           have HT12:=htwA.kept hg8 ((AP.low (fun q hq=>(HE7.out.lt q hq).1) HTz.out).ne)
           have hpk:pk<z∧pk<nb+1:=by omega
           have HAP14:Hid (AP (.slice a8 m8 k8) (.slice pP PL.length cP)):=HAP.out.new hat8 (fun q hq=>(hpwA.lt q hq).2)
           have HS14:Hid _:=HS12.setP 1 (.slice a8 m8 k8)
           have HE14:Hid _:=QbN ho8 (p:=⟨pk,1,none⟩) hpk.1 (.slice a8 m8 k8)
           have HP14:Hid _:=QbN HP12 (p:=⟨pk,1,none⟩) hpk.1 (.slice a8 m8 k8)
           have HT14:Hid _:=QbN HT12 (p:=⟨pk,1,none⟩) hpk.2 (.slice a8 m8 k8)
           have Hz14:Hid (z≤(w12.setCell ⟨pk,1,none⟩ (.slice a8 m8 k8)).heap.size):=by
            have h1:z≤w12.heap.size:=Nat.le_trans hsA hg8.size
            show z≤_
            simpa using h1
           refine hK.out _ _ ⟨k12,n12,m12,b0,b1,b2⟩ (fun hHeld3=>?_)
           clear hK K
           try simp only [Act.put,YS]
           clear n12 m12 b0 b1 b2 HP12 HT12 HS12 hb12 hneb hat8 ho8 hg8 hsA hby hmx hnw hownA hpwA htwA hbA hHeld hHeld2 HE7 HP7 HT7 HS6 HE6 HEq HAP k1 n6 m6 a0 a1 a2 hi hz0 hz1 hz2 hz6
           refine tL 21 ?_
           refine tL 22 ?_
           refine tL 23 ?_
           refine Qac (rs:=[24]) (by kernel_rfl) (by simp) ?_
           refine AllReadyL.last rfl (by kernel_rfl) (fun K hK=>?_)
           go_simp
           refine hK.out _ _ ?_
           clear hK K
           try simp only [Act.put,YS,YT,YU]
           refine Qak (by kernel_rfl) ?_ _
           clear hHeld3 k12 f12
           generalize w12.setCell ⟨pk,1,none⟩ (.slice a8 m8 k8)=w14 at *
           obtain⟨i4,hi,hz0,hz1,hz2⟩:=info_parts infoI
           have k2:w14.cell? ⟨pk,2,none⟩=some (.slice pP PL.length cP):=HS14.out.cpc.cell (j:=2) rfl
           have f2:=HS14.out.cpc.frozen 2
           have hownB:=World.ownsRow.alloc HP14.out (.cells #[.int .i64 (j:Int)] 3)
           have hnews:=Qbi w14 (.int .i64 (j:Int)) 3
           have hone:∀ u∈[Value.int .i64 (j:Int)],u.oneCell'=true:=YO
           have hmx:PL.length+1≤maxLen:=by unfold maxLen;omega
           have hby:(PL.length+1)*8≤140737488355328:=by omega
           have hbs:z≤(w14.alloc (.cells #[.int .i64 (j:Int)] 3)).heap.size:=by have:=Hz14.out;simp;omega
           have hpl14:=HS14.out.cpc.lt
           go_wp2_with (at_builtin;refine wpList_append_own_at _ rfl _ _ 27 rfl z 3 i4 (.int .i64 0) 1 8 Tryz.underlying27 hi hz0 hz1 hz2 rfl (by decide) (.slice pP PL.length cP) _ _ rfl hownB ⟨w14.heap.size,0,none⟩ 1 1 [.int .i64 (j:Int)] rfl rfl hnews hone hmx hby hbs ?_)
           intro v16 w16 ho16 hg16 hnil16 hat16
           obtain⟨a6,m6,c6,rfl⟩:=Qa3 ho16
           have hnb14:nb<w14.heap.size:=HS14.out.cnm.lt
           have hb16:Below (nb+1) w14 w16:=(YD.alloc (by omega) _).grown hg16 (by omega) (fun q hq=>by have:=(hownB.lt q hq).1;omega)
           have HS16:=HS14.out.hi hb16
           have p2:=HS16.cpc.cell (j:=2) rfl
           have f16:=HS16.cpc.frozen 2
           have HE16:=(World.ownsRow.alloc HE14.out (.cells #[.int .i64 (j:Int)] 3)).kept hg16 HAP14.out.symm.ne
           have HT16:=(World.ownsRow.alloc HT14.out (.cells #[.int .i64 (j:Int)] 3)).kept hg16 ((AP.low (fun q hq=>(World.ownsRow.lt HP14.out q hq).1) HTz.out).ne)
           have HAP18:Hid (AP (.slice a8 m8 k8) (.slice a6 m6 c6)):=(HAP14.out.symm.new hat16 (fun q hq=>by have:=(World.ownsRow.lt HE14.out q hq).2;simp;omega)).symm
           have HS18:Hid _:=HS16.setP 2 (.slice a6 m6 c6)
           have HE18:Hid _:=QbN HE16 (p:=⟨pk,2,none⟩) hpk.1 (.slice a6 m6 c6)
           have HP18:Hid _:=QbN ho16 (p:=⟨pk,2,none⟩) hpk.1 (.slice a6 m6 c6)
           have HT18:Hid _:=QbN HT16 (p:=⟨pk,2,none⟩) hpk.2 (.slice a6 m6 c6)
           have hz18:z≤(w16.setCell ⟨pk,2,none⟩ (.slice a6 m6 c6)).heap.size:=by
            have h1:z≤w16.heap.size:=Nat.le_trans hbs hg16.size
            simpa using h1
           clear HE16 HT16 HS16 hb16 ho16 hg16 hnil16 hat16 hownB hnews hone hmx hby hbs HS14 HE14 HP14 HT14 HAP14 Hz14 k2 f2 hpl14
           go_wp2
           refine⟨⟨j+1,_,_,HLT.out,by go_num,hz18,HS18,?_,?_,HT18,HAP18⟩,by have:=HLT.out;simp [intOf];omega⟩
           ·rw [HS1.out]
            have h1:=HE18.out
            rw [show (EL++[(qu,qv,wt)]).map edE=EL.map edE++[((qu:Int),(qv:Int),(wt:Int))] from by rw [List.map_append];rfl,Qny,YI,List.length_map]
            exact h1
           ·rw [HS2.out]
            have h1:=HP18.out
            rw [show (PL++[j]).map (fun i:Nat=>(i:Int))=PL.map (fun i:Nat=>(i:Int))++[(j:Int)] from by rw [List.map_append];rfl,YI,List.length_map,List.map_append,List.map_map]
            exact h1
          ·rw [if_neg hr] at o0
           rw [if_neg hr,List.append_nil] at HS1 HS2
           go_wp2
           refine⟨⟨j+1,sE,sP,HLT.out,by go_num,Nat.le_trans hzw HB6.out.size,HS.out.hi (HB6.out.mono (by omega)),?_,?_,Qaq HTr.out HB6.out,HAP⟩,by have:=HLT.out;simp [intOf];omega⟩
           ·rw [HS1.out];exact Qaq HEr.out HB6.out
           ·rw [HS2.out];exact Qaq HPr.out HB6.out
         ·obtain rfl:j=L.length:=by omega
          have hE1:=HEr.out
          have hP1:=HPr.out
          rw [List.take_length] at hE1 hP1
          have HE1:Hid _:=hE1
          have HP1:Hid _:=hP1
          have ho:=HS.out.o
          clear hE1 hP1 HEr HPr
          go_wp2
          go_ret
          rw [hx]
          exact⟨pl,pk,cap,sE,sP,sT,rfl,HS.out.cpl,by omega,by omega,HS.out.cpc,QaW HE1.out (by omega),QaW HP1.out (by omega),QaW HTr.out (by omega),HS.out.bel⟩
end Go.Proofs.YtalflecmadacaaaGreat
