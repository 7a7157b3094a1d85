import Derived.Test.YtalflecmadacaaaGreatZBA
import Derived.Deep.OwnRows
import Derived.Test.YtalflecmadacaaaGreatZAI
import Derived.Deep.LoopGhost
import Derived.Test.YtalflecmadacaaaGreatZAA
set_option maxRecDepth 100000
set_option maxHeartbeats 8000000
namespace Go.Proofs.YtalflecmadacaaaGreat
open Go Go.Proofs Go.RowKit
theorem QnH (S:SL)(D V:List Int)(qv:Value)(Q:List StpT)(v c:Nat)(i x:Int)(w:World)(h:SM S D V qv Q w)(hv:v<S.N)(hx:D[v]? = some x)(h0:0≤x)(h1:x≤(c:Int)):
  Calls Tryz.prog 128 #[.pointer (some ⟨S.sb,0,none⟩),.int .i64 (v:Int),.int .i64 (c:Int),.int .i64 i] w fun e w'=>e = .returned (.tuple #[])∧w'=w:=by
 have c3:=h.cells.2.2.2.1
 have d0:w.cell? ⟨S.bD,v,none⟩=some (.int .i64 x):=h.dist.cell (by rw [YH,hx];rfl)
 have hvl:(v:Int)<(S.N:Int):=by omega
 have hne:¬ x = -1:=by omega
 clear h hx
 go_enter Tryz.func128,Tryz.ntmps128
 go_wp2
 exact bodyPost_ret (v:=.tuple #[]) (results_none rfl _ _ _) rfl ⟨rfl,rfl⟩
theorem QiT (S:SL)(ok:SLok S)(D V:List Int)(qv:Value)(Q:List StpT)(v c:Nat)(i x:Int)(w:World)(h:SM S D V qv Q w)(hv:v<S.N)(hx:D[v]? = some x)(hV:V.length=S.N)(h1:x = -1∨(c:Int)<x)(hQ:Q.length≤8796093022207):
  Calls Tryz.prog 128 #[.pointer (some ⟨S.sb,0,none⟩),.int .i64 (v:Int),.int .i64 (c:Int),.int .i64 i] w fun e w'=>e = .returned (.tuple #[])∧∃ qv' Q',Q'.Perm (Q++[(c,v)])∧SM S (D.set v (c:Int)) (V.set v i) qv' Q' w'∧Fr S w w'∧NewQ w qv qv'∧∀ k,k<w.heap.size→S.h1≤k→some k≠qv.ownBlock→w'.heap[k]? = w.heap[k]?:=by
 have c3:=h.cells.2.2.2.1
 have c4:=h.cells.2.2.2.2.1
 obtain⟨y,hy⟩:∃ y,V[v]? = some y:=⟨_,YB (by omega)⟩
 have d0:w.cell? ⟨S.bD,v,none⟩=some (.int .i64 x):=h.dist.cell (by rw [YH,hx];rfl)
 have v0:w.cell? ⟨S.bV,v,none⟩=some (.int .i64 y):=h.via.cell (by rw [YH,hy];rfl)
 have fd:w.frozen? ⟨S.bD,v,none⟩=false:=h.dist.frozen v
 have fv:w.frozen? ⟨S.bV,v,none⟩=false:=h.via.frozen v
 have hvl:(v:Int)<(S.N:Int):=by omega
 have n1:S.sb≠S.bD:=ok.s.2.2.1
 have n2:S.sb≠S.bV:=ok.s.2.2.2
 have n3:S.bV≠S.bD:=Ne.symm ok.d.2.2
 have hput:=SM.put h ok v (c:Int) i
 have hp1:=hput.1.drewN 1
 have hf1:=hput.2.drewN 1
 have hpush:=QlO S.sb S.h1 S.X S.X_len qv Q (c,v) _ (hp1.qs ok) hQ hp1.size
 have hmix:=mixed
 have HKp:Hid (∀ k,S.h1≤k→(((w.setCell ⟨S.bD,v,none⟩ (.int .i64 (c:Int))).setCell ⟨S.bV,v,none⟩ (.int .i64 i)).drewN 1).heap[k]? = w.heap[k]?):=fun k hk=>by
  have h2:=ok.d.1
  have h3:=ok.v.1
  show ((w.setCell ⟨S.bD,v,none⟩ (.int .i64 (c:Int))).setCell ⟨S.bV,v,none⟩ (.int .i64 i)).heap[k]? = w.heap[k]?
  rw [heap_setCell_other _ ⟨S.bV,v,none⟩ k _ (by show k≠S.bV;omega),heap_setCell_other _ ⟨S.bD,v,none⟩ k _ (by show k≠S.bD;omega)]
 have HP1:Hid _:=hp1
 have HF1:Hid _:=hf1
 clear h hx hy hput hp1 hf1
 rcases h1 with h1 | h1
 ·subst h1
  go_enter Tryz.func128,Tryz.ntmps128
  go_wp2
  go_big_region_o
  go_wp2_with fail
  refine hpush.mono ?_
  rintro e w2 ⟨rfl,qv2,Q2,hp2,hq2,hn2,hm2⟩
  go_wp2
  exact bodyPost_end (results_none rfl _ _ _) rfl ⟨rfl,qv2,Q2,hp2,SM.act HP1.out ok hm2 hq2,HF1.out.trans (SM.fr HP1.out hm2),hn2.elim .inl (fun ⟨k,e,hk⟩=>.inr ⟨k,e,by simpa using hk⟩),fun k hk h1 h2=>(hm2.2.2.2.2 k (by simpa using hk) (by have:=ok.s.1;omega) h2).trans (HKp.out k h1)⟩
 ·have hn:¬ x = -1:=by omega
  have hle:¬ x≤(c:Int):=by omega
  go_enter Tryz.func128,Tryz.ntmps128
  go_wp2
  go_big_region_o
  go_wp2_with fail
  refine hpush.mono ?_
  rintro e w2 ⟨rfl,qv2,Q2,hp2,hq2,hn2,hm2⟩
  go_wp2
  exact bodyPost_end (results_none rfl _ _ _) rfl ⟨rfl,qv2,Q2,hp2,SM.act HP1.out ok hm2 hq2,HF1.out.trans (SM.fr HP1.out hm2),hn2.elim .inl (fun ⟨k,e,hk⟩=>.inr ⟨k,e,by simpa using hk⟩),fun k hk h1 h2=>(hm2.2.2.2.2 k (by simpa using hk) (by have:=ok.s.1;omega) h2).trans (HKp.out k h1)⟩
theorem QhL (S:SL)(ok:SLok S)(D V:List Int)(qv:Value)(Q:List StpT)(w:World)(h:SM S D V qv Q w)(h0:0<Q.length)(hQ:Q.length≤8796093022208):
  Calls Tryz.prog 131 #[.pointer (some ⟨S.sb,0,none⟩)] w fun e w'=>∃ (x:StpT) (qv':Value) (Q':List StpT),e = .returned (.agg #[.int .i64 (x.1:Int),.int .i64 (x.2:Int)])∧(x :: Q').Perm Q∧SM S D V qv' Q' w'∧Fr S w w':=by
 have hal:Below w.heap.size w (w.alloc (.cells #[.int .i64 0,.int .i64 0] 161)):=YD.alloc YA _
 have hA:=h.go ok hal
 have hpop:=Qnv S.sb S.h1 S.X S.X_len qv Q _ (hA.qs ok) h0 hQ
 have hwl:w.heap.size<(w.alloc (.cells #[.int .i64 0,.int .i64 0] 161)).heap.size:=by simp
 have hXw:Blk 161 (w.alloc (.cells #[.int .i64 0,.int .i64 0] 161)) w.heap.size [.int .i64 0,.int .i64 0]:=heap_alloc_new w _
 have HFr:Hid (Fr S w (w.alloc (.cells #[.int .i64 0,.int .i64 0] 161))):=Fr.of_below h.size hal
 have hmix:=mixed
 have hta:=fun w a b=>QeQ a b w
 have hsize:=h.size
 have hqb:∀ k,qv.ownBlock=some k→k<w.heap.size:=fun k hk=>(h.own.lt k hk).2
 have HA:Hid _:=hA
 clear h hA hal
 go_enter Tryz.func131,Tryz.ntmps131
 go_wp2_with fail
 refine hpop.mono ?_
 rintro e w2 ⟨x,qv2,Q2,rfl,hp2,hq2,hn2,hm2⟩
 have hX2:Blk 161 w2 w.heap.size [.int .i64 0,.int .i64 0]:=by
  refine (hm2.2.2.2.2 w.heap.size hwl (fun e=>?_) (fun e=>?_)).trans hXw
  ·have:=ok.s.1;omega
  ·have:=hqb _ e.symm;omega
 have x0:=hX2.cell (j:=0) rfl
 have x1:=hX2.cell (j:=1) rfl
 have f0:=hX2.frozen 0
 have f1:=hX2.frozen 1
 have hn:qv2.ownBlock≠some w.heap.size:=by
  rcases hn2 with e | ⟨k,e,hk⟩
  ·rw [e];intro e';have:=hqb _ e';omega
  ·rw [e];intro e';have:=Option.some.inj e';omega
 have hS2:=SM.act HA.out ok hm2 hq2
 have hF2:=HFr.out.trans (SM.fr HA.out hm2)
 have hS3:=(hS2.high ok (k:=w.heap.size) hsize hn 0 (.int .i64 (x.1:Int))).high ok (k:=w.heap.size) hsize hn 1 (.int .i64 (x.2:Int))
 have hF3:=(hF2.high (k:=w.heap.size) hsize 0 (.int .i64 (x.1:Int))).high (k:=w.heap.size) hsize 1 (.int .i64 (x.2:Int))
 clear hS2 hF2 hX2 HA HFr hq2 hn2 hm2
 go_wp2
 exact bodyPost_ret (v:=.agg #[.int .i64 (x.1:Int),.int .i64 (x.2:Int)]) (by simp [results,Tryz.results131,go_sem,x0,x1]) rfl ⟨x,qv2,Q2,rfl,hp2,hS3,hF3⟩
def Qbt (N:Nat):Nat:=N*2147483647+1
def Left' (S:SL)(s K:Nat)(w w':World):Prop:=∃ D' V' qv' Q',SM S D' V' qv' Q' w'∧FIT S.L s S.N D' V' Q'∧Opn S.L S.N D' Q' S.N []∧2*potT (Qbt S.N) D'+Q'.length≤K∧Fr S w w'
def LvI (S:SL)(s K:Nat)(w:World)(xb c v k:Nat)(W:World):Prop:=∃ D V qv Q pls,SM S D V qv Q W∧FIT S.L s S.N D V Q∧Opn S.L S.N D Q v pls∧(∀ i∈(plW S.L S.L.length v).take k,i∈pls)∧at' D v=(c:Int)∧2*potT (Qbt S.N) D+Q.length≤K∧Fr S w W∧Blk 161 W xb [.int .i64 (c:Int),.int .i64 (v:Int)]∧some xb≠qv.ownBlock
theorem QjA (S:SL)(ok:SLok S)(s:Nat)(hs:s<S.N)(hN:S.N≤40)(w0:World)(hE:Edges w0.heap.size w0 (.slice S.p S.L.length S.c) (S.L.map edE))(h1:w0.heap.size≤S.sb)(h2:w0.heap.size≤S.bD)(h3:w0.heap.size≤S.bV)
  (D V:List Int) (qv:Value) (Q Q0:List StpT) (c v:Nat) (w:World) (hb:Below w0.heap.size w0 w) (h:SM S D V qv Q w) (hF:FIT S.L s S.N D V Q) (hv:v<S.N) (h0:0≤at' D v) (hc:at' D v≤(c:Int)) (ho:Opn S.L S.N D Q0 S.N []) (hQ0:∀ x∈Q0,x=(c,v)∨x∈Q) (K:Nat) (hK:2*potT (Qbt S.N) D+Q.length≤K) (hK2:K≤8796093022207) :
  Calls Tryz.prog 130 #[.pointer (some ⟨S.sb,0,none⟩),.agg #[.int .i64 (c:Int),.int .i64 (v:Int)]] w fun e w'=>e = .returned (.tuple #[])∧Left' S s K w w':=by
 have hmix:=mixed
 have hal:Below w.heap.size w (w.alloc (.cells #[.int .i64 (c:Int),.int .i64 (v:Int)] 161)):=YD.alloc YA _
 have hA:=h.go ok hal
 have hFrA:Fr S w (w.alloc (.cells #[.int .i64 (c:Int),.int .i64 (v:Int)] 161)):=Fr.of_below h.size hal
 have hbA:=hb.trans (hal.mono hb.size)
 have hXA:Blk 161 (w.alloc (.cells #[.int .i64 (c:Int),.int .i64 (v:Int)] 161)) w.heap.size [.int .i64 (c:Int),.int .i64 (v:Int)]:=heap_alloc_new w _
 have hqb:some w.heap.size≠qv.ownBlock:=fun e=>by have:=(h.own.lt _ e.symm).2;omega
 have hxh:S.h1≤w.heap.size:=h.size
 have hvl:(v:Int)<(S.N:Int):=by omega
 have hDl:v<D.length:=by rw [hF.lenD];exact hv
 have hdv:D[v]? = some (at' D v):=QbJ? hDl
 have h1':w0.heap.size≤S.h1:=by have:=ok.s.1;omega
 have HF:Hid _:=hF
 have HO:Hid _:=ho
 have HQ:Hid _:=hQ0
 have HOK:Hid _:=ok
 have HBw:Hid _:=hb
 clear h hb hal hF ho hQ0
 go_enter Tryz.func130,Tryz.ntmps130
 go_wp2
 generalize w.alloc (.cells #[.int .i64 (c:Int),.int .i64 (v:Int)] 161)=wA at *
 generalize w.heap.size=xb at hXA hqb hxh ⊢
 have c3:=hA.cells.2.2.2.1
 have c2:=hA.cells.2.2.1
 have x0:=hXA.cell (j:=0) rfl
 have x1:=hXA.cell (j:=1) rfl
 have d0:wA.cell? ⟨S.bD,v,none⟩=some (.int .i64 (at' D v)):=hA.dist.cell (by rw [YH,hdv];rfl)
 clear hdv
 go_quiet (fail)
 by_cases hst:at' D v<(c:Int)
 ·have HST:Hid _:=hst
  go_wp2
  refine bodyPost_ret (v:=.tuple #[]) (results_none rfl _ _ _) rfl ⟨rfl,D,V,qv,Q,hA.drewN nq,HF.out,Opn.stale HO.out (by have:=HST.out;omega) HQ.out,hK,hFrA.drewN nq⟩
 ·have hcv:at' D v=(c:Int):=by omega
  have HC:Hid _:=hcv
  have hOp:=Opn.take HO.out HQ.out
  have hB:=hA.drewN nq
  have hFrB:=hFrA.drewN nq
  have hbB:=Qaa hbA nq
  have hXB:Blk 161 (wA.drewN nq) xb [.int .i64 (c:Int),.int .i64 (v:Int)]:=hXA
  clear hA hFrA hbA hXA c3 c2 x0 x1 d0
  go_wp2
  generalize wA.drewN nq=wB at *
  obtain⟨hlo,hhi,hrows⟩:=hB.at'
  obtain⟨pp,cp,r0,hpl⟩:=hrows v hv
  clear hrows
  have HPL:Hid _:=hpl
  clear hpl hcv
  have c2:=hB.cells.2.2.1
  have x1:=hXB.cell (j:=1) rfl
  go_quiet (fail)
  have hstart:LvI S s K w xb c v 0 (wB.drewN nq):=⟨D,V,qv,Q,[],hB.drewN nq,HF.out,hOp,fun i hi=>by simp at hi,HC.out,hK,hFrB.drewN nq,hXB,hqb⟩
  have hbl:∀ W,Fr S w W→∀ k,S.lo≤k→k<S.hi→W.heap[k]? = wB.heap[k]?:=fun W hW k k1 k2=>by
   have o1:=HOK.out.hi
   have o2:=HOK.out.s
   have o3:=HOK.out.d
   have o4:=HOK.out.v
   have a1:k≠S.sb:=fun e=>o2.2.1 (e ▸ ⟨k1,k2⟩)
   have a2:k≠S.bD:=fun e=>o3.2.1 (e ▸ ⟨k1,k2⟩)
   have a3:k≠S.bV:=fun e=>o4.2 (e ▸ ⟨k1,k2⟩)
   exact (hW.block k (by omega) a1 a2 a3).trans (hFrB.block k (by omega) a1 a2 a3).symm
  have hbel:∀ W,Fr S w W→Below w0.heap.size w0 W:=fun W hW=>by
   exact Fr.below HBw.out hW h1' h1 h2 h3
  have HBL:Hid _:=hbl
  have HBE:Hid _:=hbel
  clear hbl hbel hB hFrB hbB hXB hqb hOp c2 x1 r0 HF HO HQ
  have hplen:(plW S.L S.L.length v).length≤4194304:=by have:=QhD S.L S.L.length v;have:=HOK.out.m;omega
  go_wp2
  generalize wB.drewN nq=wC at hstart ⊢
  go_loopw [27] (fun i wr=>∃ k:Nat,k≤(plW S.L S.L.length v).length∧i = .int .i64 k∧LvI S s K w xb c v k wr) (fun i _=>(plW S.L S.L.length v).length-(intOf i).toNat)
  case atStart=>exact⟨0,YN,rfl,hstart⟩
  case round=>
   clear hstart
   obtain⟨k,hk,rfl,hI⟩:=hrel
   obtain⟨D1,V1,qv1,Q1,pls,hS,hF,hO,hT,hcv,hK1,hFr,hX,hq⟩:=hI
   by_cases hlt:k<(plW S.L S.L.length v).length
   ·obtain⟨bp,offp,rfl,p1,p2,rc0⟩:=HPL.out k hlt
    have rc:wr.cell? ⟨bp,offp+k,none⟩=some (.int .i64 ((plW S.L S.L.length v)[k]:Int)):=(World.cell?_of_block (a:=⟨bp,offp+k,none⟩) (HBL.out wr hFr bp p1 p2)).trans rc0
    have hmem:=mem_plW.1 (YG hlt)
    have hT2:∀ j∈(plW S.L S.L.length v).take (k+1),j=(plW S.L S.L.length v)[k]∨j∈pls:=fun j hj=>by
     rw [List.take_succ_eq_append_getElem hlt] at hj
     rcases YJ hj with h | h
     ·exact .inr (hT j h)
     ·exact .inl (by simpa using h)
    have HT2:Hid _:=hT2
    generalize (plW S.L S.L.length v)[k]=i at rc hmem HT2
    obtain⟨hil,hat⟩:=hmem
    have heL:S.L[i]? = some S.L[i]:=YB hil
    have hat':(S.L[i].1=v∨S.L[i].2.1=v)∧S.L[i].1≠S.L[i].2.1:=by
     unfold isAt at hat
     rw [heL] at hat
     simpa using hat
    obtain⟨be,offe,hpe,hbe,hce,hcells⟩:=hE.eg hil
    obtain⟨e0,e1,e2⟩:=hcells wr (HBE.out wr hFr) i hil
    have hem:=YG hil
    have hends:=HOK.out.ends _ hem
    have hwt:=HOK.out.few _ hem
    have hj:=(Qe5 hat'.1).symm
    have hbn:oth S.L[i] v<S.N:=by rcases hj with ⟨a,b⟩ | ⟨a,b⟩ <;> omega
    have hbv:v≠oth S.L[i] v:=by rcases hj with ⟨a,b⟩ | ⟨a,b⟩ <;> (have:=hat'.2;omega)
    have hcN:=hF.few HOK.out.ends hs HOK.out.few hv
    have HOT:Hid _:=QgC S.L[i] v
    generalize S.L[i]=e at heL hat' e0 e1 e2 hem hends hwt hj hbn hbv HOT
    obtain⟨b,HB⟩:∃ b,Hid (oth e v=b):=⟨_,show Hid _ from rfl⟩
    rw [HB.out] at hj hbn hbv
    have c1:=hS.cells.2.1
    rw [hpe] at c1
    have hil':(i:Int)<(S.L.length:Int):=by omega
    have hkl:(k:Int)<((plW S.L S.L.length v).length:Int):=by omega
    have hcb:(c:Int)≤85899345880:=by
     have:S.N*2147483647≤85899345880:=by omega
     omega
    have hwb:(e.2.2:Int)≤2147483647:=by omega
    have hal:Below wr.heap.size wr (wr.alloc (.cells #[.int .i64 (e.1:Int),.int .i64 (e.2.1:Int),.int .i64 (e.2.2:Int)] 50)):=YD.alloc YA _
    have hSD:=hS.go HOK.out hal
    have hFD:=hFr.trans (Fr.of_below hS.size hal)
    have hXD:=hX.go hal
    have hXe:Blk 50 (wr.alloc (.cells #[.int .i64 (e.1:Int),.int .i64 (e.2.1:Int),.int .i64 (e.2.2:Int)] 50)) wr.heap.size [.int .i64 (e.1:Int),.int .i64 (e.2.1:Int),.int .i64 (e.2.2:Int)]:=heap_alloc_new wr _
    have HHE:Hid _:=heL
    have HAT:Hid _:=hat'
    have HHJ:Hid _:=hj
    have HCV:Hid _:=hcv
    clear hT hT2 hcells hat heL hat' hj hcv rc0 hcN
    go_wp2_with fail
    clear e0 e1 e2 c1 rc hal hS hFr hX
    generalize wr.heap.size=eb at *
    generalize wr.alloc (.cells #[.int .i64 (e.1:Int),.int .i64 (e.2.1:Int),.int .i64 (e.2.2:Int)] 50)=wD at *
    have x0:=hXD.cell (j:=0) rfl
    have x1:=hXD.cell (j:=1) rfl
    have y0:=hXe.cell (j:=0) rfl
    have y1:=hXe.cell (j:=1) rfl
    have y2:=hXe.cell (j:=2) rfl
    have hwr:=QaU ((c:Int)+(e.2.2:Int)) (by omega) (by omega)
    refine Qai (S:=(fun w':World=>w'.cell? ⟨eb,0,none⟩=some (.int .i64 (e.1:Int))∧w'.cell? ⟨eb,1,none⟩=some (.int .i64 (e.2.1:Int))∧w'.cell? ⟨eb,2,none⟩=some (.int .i64 (e.2.2:Int))∧w'.cell? ⟨xb,0,none⟩=some (.int .i64 (c:Int))∧w'.cell? ⟨xb,1,none⟩=some (.int .i64 (v:Int)))) (by kernel_rfl) ?_ (fun hHeld=>?_)
    ·(try dsimp only);go_keep
    refine tL 0 ?_
    try simp only [YS]
    refine tL 1 ?_
    refine tL 2 ?_
    refine tL 3 ?_
    refine tL 5 ?_
    refine tL 6 ?_
    refine tL 7 ?_
    refine tL 8 ?_
    refine tL 9 ?_
    refine tL 10 ?_
    have hSd:=hSD.drewN 1
    have hFd:=hFD.drewN 1
    have hXd:Blk 161 (wD.drewN 1) xb [.int .i64 (c:Int),.int .i64 (v:Int)]:=hXD
    have hdd:wD.drewN 1=wD.drew:=rfl
    rw [hdd] at hSd hFd hXd
    generalize wD.drew=wd at *
    clear hdd hSD hFD hXD hXe x0 x1 y0 y1 y2 hwr
    refine Qac (rs:=[4]) (by kernel_rfl) (by simp) ?_
    refine AllReadyL.cons rfl (fun K' hK'=>?_) AllReadyL.nil
    go_simp
    refine (HOT.out wd).mono ?_
    rw [HB.out]
    rintro r w2 ⟨rfl,hg2⟩
    have hb2:=hg2.below
    refine hK'.out _ _ ⟨Qab hb2 hHeld.1,Qab hb2 hHeld.2.1,Qab hb2 hHeld.2.2.1,Qab hb2 hHeld.2.2.2.1,Qab hb2 hHeld.2.2.2.2⟩ (fun hHeld12=>?_)
    clear hK' K'
    try simp only [Act.put,YS,YT,YU]
    have hS2:=hSd.go HOK.out hb2
    have hF2:=hFd.trans (Fr.of_below hSd.size hb2)
    have hX2:=hXd.go hb2
    clear hSd hFd hXd hHeld hHeld12 hb2 hg2
    have hcw:(c:Int)+(e.2.2:Int)=((c+e.2.2:Nat):Int):=by omega
    have hbD:b<D1.length:=by rw [hF.lenD];exact hbn
    have hQb:Q1.length≤8796093022207:=by omega
    refine Qac (rs:=[11]) (by kernel_rfl) (by simp) ?_
    refine AllReadyL.last rfl (by kernel_rfl) (fun K' hK'=>?_)
    by_cases hold:0≤at' D1 b∧at' D1 b≤((c+e.2.2:Nat):Int)
    ·have hco:=QnH S D1 V1 qv1 Q1 b (c+e.2.2) (i:Int) (at' D1 b) w2 hS2 hbn (QbJ? hbD) hold.1 hold.2
     rw [← hcw] at hco
     have HHO:Hid _:=hold
     clear hold hcw
     go_simp
     refine hco.mono ?_
     rintro r w3 ⟨rfl,rfl⟩
     refine hK'.out _ _ ?_
     clear hK' K' hco
     try simp only [Act.put,YS,YT,YU]
     refine Qak (by kernel_rfl) ?_ _
     go_wp2
     refine⟨⟨k+1,by omega,by go_num,D1,V1,qv1,Q1,i :: pls,hS2,hF,hO.skip HHE.out HHJ.out HCV.out HHO.out,fun j hj=>?_,HCV.out,hK1,hF2,hX2,hq⟩,by simp [intOf];omega⟩
     rcases HT2.out j hj with e' | e'
     ·rw [e'];simp
     ·exact List.mem_cons_of_mem _ e'
    ·have hge:=hF.ge hbn
     have hnew:at' D1 b = -1∨((c+e.2.2:Nat):Int)<at' D1 b:=by omega
     have hco:=QiT S HOK.out D1 V1 qv1 Q1 b (c+e.2.2) (i:Int) (at' D1 b) w2 hS2 hbn (QbJ? hbD) hF.lenV hnew hQb
     rw [← hcw] at hco
     have HNEW:Hid _:=hnew
     have HCW:Hid _:=hcw
     clear hold hcw hnew
     go_simp
     refine hco.mono ?_
     rintro r w3 ⟨rfl,qv3,Q3,hp3,hS3,hF3,hn3,hk3⟩
     refine hK'.out _ _ ?_
     clear hK' K' hco
     try simp only [Act.put,YS,YT,YU]
     refine Qak (by kernel_rfl) ?_ _
     rw [HCW.out] at hS3
     have hx2:xb<w2.heap.size:=hX2.lt
     have hX3:Blk 161 w3 xb [.int .i64 (c:Int),.int .i64 (v:Int)]:=(hk3 xb hx2 hxh hq).trans hX2
     have hq3:some xb≠qv3.ownBlock:=by
      rcases hn3 with e' | ⟨m,e',hm⟩
      ·rw [e'];exact hq
      ·rw [e'];intro e'';have:=Option.some.inj e'';omega
     have hFn:FIT S.L s S.N (D1.set b ((c+e.2.2:Nat):Int)) (V1.set b (i:Int)) Q3:=hF.come HOK.out.ends HHE.out HHJ.out hv hbn HCV.out HNEW.out fun x hx=>by
      rcases YJ (hp3.mem_iff.1 hx) with h | h
      ·exact .inr h
      ·exact .inl (by simpa using h)
     have hOn:Opn S.L S.N (D1.set b ((c+e.2.2:Nat):Int)) Q3 v (i :: pls):=hO.come hF.lenD HHE.out HHJ.out hbv hbn HCV.out HNEW.out (hp3.mem_iff.2 (by simp)) fun x hx=>hp3.mem_iff.2 (by simp [hx])
     have hcv3:at' (D1.set b ((c+e.2.2:Nat):Int)) v=(c:Int):=by rw [Qba _ hbD,if_neg hbv];exact HCV.out
     have hfew:=hFn.few HOK.out.ends hs HOK.out.few hbn
     rw [Qba _ hbD,if_pos rfl] at hfew
     have hpot:=QmO (B:=Qbt S.N) hbD (x:=c+e.2.2) (by unfold Qbt;omega) HNEW.out
     have hl3:Q3.length=Q1.length+1:=by rw [hp3.length_eq];simp
     go_wp2
     refine⟨⟨k+1,by omega,by go_num,_,_,qv3,Q3,i :: pls,hS3,hFn,hOn,fun j hj=>?_,hcv3,by omega,hF2.trans hF3,hX3,hq3⟩,by simp [intOf];omega⟩
     rcases HT2.out j hj with e' | e'
     ·rw [e'];simp
     ·exact List.mem_cons_of_mem _ e'
   ·obtain rfl:k=(plW S.L S.L.length v).length:=by omega
    have hpl:∀ (i:Nat) e,S.L[i]? = some e→(e.1=v∨e.2.1=v)→i∈pls∨e.1=e.2.1:=fun i e he hx=>by
     by_cases hl:e.1=e.2.1
     ·exact .inr hl
     ·refine .inl (hT i ?_)
      rw [List.take_length,mem_plW]
      exact⟨(YE he).1,by unfold isAt;rw [he];simpa using ⟨hx,hl⟩⟩
    go_wp2
    exact bodyPost_end (results_none rfl _ _ _) rfl ⟨rfl,D1,V1,qv1,Q1,hS,hF,hO.full hpl,hK1,hFr⟩
def rowZW (n : Nat) : List Value := (List.replicate n (0 : Int)).map (Value.int .i64)
theorem Qjf (n : Nat) : (madeCells #[Value.int .i64 0] n).toList = rowZW n := by
  have := Qfe n
  rw [Nat.mul_one] at this
  exact this
theorem infoL : (Tryz.prog.info? 2).map (fun i => (i.zero, i.size, i.bytes)) = some (some (.int .i64 0), 1, 8) := by kernel_rfl
structure JN (N : Nat) (L : List Eg) (n1 : Nat) (ds : List Nat) (x2 x5 x8 : Value) (b2 h2 b5 b8 : Nat) (W : World) : Prop where
  a : 2 ∈ ds → x2 = .slice (some ⟨b2, 0, none⟩) N N ∧ ATI b2 h2 b2 N (plW L L.length) W ∧ n1 ≤ b2 ∧ h2 ≤ W.heap.size
  d : 5 ∈ ds → x5 = .slice (some ⟨b5, 0, none⟩) N N ∧ Blk 2 W b5 (rowZW N) ∧ n1 ≤ b5
  v : 8 ∈ ds → x8 = .slice (some ⟨b8, 0, none⟩) N N ∧ Blk 3 W b8 (rowZW N) ∧ n1 ≤ b8
  dv : 5 ∈ ds → 8 ∈ ds → b5 ≠ b8
  ad : 2 ∈ ds → 5 ∈ ds → ¬ (b2 ≤ b5 ∧ b5 < h2)
  av : 2 ∈ ds → 8 ∈ ds → ¬ (b2 ≤ b8 ∧ b8 < h2)
theorem JN.nil (N : Nat) (L : List Eg) (n1 : Nat) (x2 x5 x8 : Value) (b2 h2 b5 b8 : Nat) (W : World) : JN N L n1 [] x2 x5 x8 b2 h2 b5 b8 W :=
  ⟨fun h => by simp at h, fun h => by simp at h, fun h => by simp at h, fun h => by simp at h, fun h => by simp at h, fun h => by simp at h⟩
theorem JN.go {N : Nat} {L : List Eg} {n1 : Nat} {d : List Nat} {x2 x5 x8 : Value} {b2 h2 b5 b8 : Nat} {W W' : World} (h : JN N L n1 d x2 x5 x8 b2 h2 b5 b8 W) (hb : Below W.heap.size W W') : JN N L n1 d x2 x5 x8 b2 h2 b5 b8 W' :=
  ⟨fun h2' => by obtain ⟨a, b, c, e⟩ := h.a h2'; exact ⟨a, b.keep fun k _ hk => hb.block k (by omega), c, Nat.le_trans e hb.size⟩,
   fun h5 => by obtain ⟨a, b, c⟩ := h.d h5; exact ⟨a, b.go hb, c⟩, fun h8 => by obtain ⟨a, b, c⟩ := h.v h8; exact ⟨a, b.go hb, c⟩, h.dv, h.ad, h.av⟩
theorem JN.addA {N : Nat} {L : List Eg} {n1 : Nat} {d : List Nat} {x2 x5 x8 : Value} {b2 h2 b5 b8 : Nat} {W W' : World} (h : JN N L n1 d x2 x5 x8 b2 h2 b5 b8 W) (hb : Below W.heap.size W W') {h0 : Nat} (hh : W.heap.size ≤ h0) (hn : n1 ≤ W.heap.size) (hA : ATI h0 W'.heap.size h0 N (plW L L.length) W') : JN N L n1 (2 :: d) (.slice (some ⟨h0, 0, none⟩) N N) x5 x8 h0 W'.heap.size b5 b8 W' := by
  have hg := h.go hb
  refine ⟨fun _ => ⟨rfl, hA, by omega, YA⟩, fun h5 => hg.d (by simpa using h5), fun h8 => hg.v (by simpa using h8), fun h5 h8 => hg.dv (by simpa using h5) (by simpa using h8), fun _ h5 hx => ?_, fun _ h8 hx => ?_⟩
  · have := (h.d (by simpa using h5)).2.1.lt; omega
  · have := (h.v (by simpa using h8)).2.1.lt; omega
theorem JN.addD {N : Nat} {L : List Eg} {n1 : Nat} {d : List Nat} {x2 x5 x8 : Value} {b2 h2 b5 b8 : Nat} {W W' : World} (h : JN N L n1 d x2 x5 x8 b2 h2 b5 b8 W) (hb : Below W.heap.size W W') (hn : n1 ≤ W.heap.size) (hB : Blk 2 W' W.heap.size (rowZW N)) : JN N L n1 (5 :: d) x2 (.slice (some ⟨W.heap.size, 0, none⟩) N N) x8 b2 h2 W.heap.size b8 W' := by
  have hg := h.go hb
  refine ⟨fun h2' => hg.a (by simpa using h2'), fun _ => ⟨rfl, hB, hn⟩, fun h8 => hg.v (by simpa using h8), fun _ h8 => ?_, fun h2' _ hx => ?_, fun h2' h8 => hg.av (by simpa using h2') (by simpa using h8)⟩
  · have := (h.v (by simpa using h8)).2.1.lt; omega
  · have := (h.a (by simpa using h2')).2.2.2; omega
theorem JN.addV {N : Nat} {L : List Eg} {n1 : Nat} {d : List Nat} {x2 x5 x8 : Value} {b2 h2 b5 b8 : Nat} {W W' : World} (h : JN N L n1 d x2 x5 x8 b2 h2 b5 b8 W) (hb : Below W.heap.size W W') (hn : n1 ≤ W.heap.size) (hB : Blk 3 W' W.heap.size (rowZW N)) : JN N L n1 (8 :: d) x2 x5 (.slice (some ⟨W.heap.size, 0, none⟩) N N) b2 h2 b5 W.heap.size W' := by
  have hg := h.go hb
  refine ⟨fun h2' => hg.a (by simpa using h2'), fun h5 => hg.d (by simpa using h5), fun _ => ⟨rfl, hB, hn⟩, fun h5 _ => ?_, fun h2' h5 => hg.ad (by simpa using h2') (by simpa using h5), fun h2' _ hx => ?_⟩
  · have := (h.d (by simpa using h5)).2.1.lt; omega
  · have := (h.a (by simpa using h2')).2.2.2; omega
theorem QiX (W : World) (N : Nat) (t : TypeId) : Blk t (W.alloc (.cells (madeCells #[.int .i64 0] N) t)) W.heap.size (rowZW N) := by
  have h0 : (W.alloc (.cells (madeCells #[.int .i64 0] N) t)).heap[W.heap.size]? = some (.cells (madeCells #[.int .i64 0] N) t (0, 0)) := heap_alloc_new W _
  show _ = some (Obj.cells (rowZW N).toArray t (0, 0))
  rw [← Qjf]
  simpa using h0
def negK (N j : Nat) : List Int := List.replicate j (-1) ++ List.replicate (N - j) 0
theorem Qm8 (N j : Nat) (hj : j < N) : (negK N j).set j (-1) = negK N (j + 1) := by
  unfold negK
  rw [List.set_append_right _ _ (by simp), List.length_replicate, Nat.sub_self]
  obtain ⟨m, hm⟩ : ∃ m, N - j = m + 1 := ⟨N - j - 1, by omega⟩
  rw [hm, List.replicate_succ, List.set_cons_zero, show N - (j + 1) = m from by omega, List.replicate_succ', List.append_assoc]
  rfl
theorem QgH (N : Nat) : (negK N 0).map (Value.int .i64) = rowZW N := by simp [negK, rowZW]
theorem Qlk (N : Nat) : negK N N = negs N := by simp [negK, negs]
theorem Qll {N j : Nat} (hj : j < N) : (negK N j)[j]? = some 0 := by
  unfold negK
  rw [List.getElem?_append_right (by simp), List.length_replicate, Nat.sub_self, List.getElem?_replicate, if_pos (by omega)]
theorem QfH (N : Nat) (L : List Eg) (hn1 : N ≤ 1048576) (hm1 : L.length ≤ 4194304) (hE : ∀ e ∈ L, e.1 < N ∧ e.2.1 < N) (hF : ∀ e ∈ L, e.2.2 ≤ 2147483647) (sv : Value) (w : World) (hl : Edges w.heap.size w sv (L.map edE)) :
    Calls Tryz.prog 127 #[.agg #[.int .i64 (N : Int), sv]] w fun r w' => ∃ S : SL, r = .returned (.pointer (some ⟨S.sb, 0, none⟩)) ∧ S.N = N ∧ S.L = L ∧ sv = .slice S.p L.length S.c ∧ SLok S ∧ SM S (negs N) (negs N) (.slice none 0 0) [] w' ∧ Below w.heap.size w w' ∧ w.heap.size ≤ S.sb ∧ w.heap.size ≤ S.bD ∧ w.heap.size ≤ S.bV := by
  have hmix := mixed
  obtain ⟨p, c, rfl⟩ := hl.lenG
  have hb1 : Below w.heap.size w (w.alloc (.cells #[.int .i64 (N : Int), .slice p L.length c] 24)) := YD.alloc YA _
  have q0 : (w.alloc (.cells #[.int .i64 (N : Int), .slice p L.length c] 24)).cell? ⟨w.heap.size, 0, none⟩ = some (.int .i64 (N : Int)) := Qam rfl rfl
  have q1 : (w.alloc (.cells #[.int .i64 (N : Int), .slice p L.length c] 24)).cell? ⟨w.heap.size, 1, none⟩ = some (.slice p L.length c) := Qam rfl rfl
  have hsz1 : (w.alloc (.cells #[.int .i64 (N : Int), .slice p L.length c] 24)).heap.size = w.heap.size + 1 := by simp
  have HL : Hid (Edges w.heap.size w (.slice p L.length c) (L.map edE)) := hl
  have HE : Hid _ := hE
  have HF : Hid _ := hF
  clear hl hE hF
  go_enter Tryz.func127, Tryz.ntmps127
  go_wp2
  generalize hw1 : (w.alloc (.cells #[.int .i64 (N : Int), .slice p L.length c] 24)) = w1 at *
  generalize hxb : w.heap.size = xb at *
  refine wp_region_held_drew (S := (fun w' : World => w'.cell? ⟨xb, 0, none⟩ = some (.int .i64 (N : Int)) ∧ w'.cell? ⟨xb, 1, none⟩ = some (.slice p L.length c))) (by kernel_rfl) ?_ (fun hHeld => ?_)
  · (try dsimp only); go_keep
  refine tH 0 ?_
  try simp only [ YS]
  refine tH 1 ?_
  refine tH 3 ?_
  refine tH 4 ?_
  refine tH 6 ?_
  refine tH 7 ?_
  simp only [YS, YT, YU]
  refine Qck [2, 5, 8] (by decide) #[true, true, true, true, true, true, true, true, true, false, false, false] (fun d a W => ∃ x2 x5 x8 b2 h2 b5 b8, a = { tmps := #[.agg #[.int .i64 (N : Int), .slice p L.length c], .pointer (some ⟨xb, 0, none⟩), .pointer none, undef, undef, .agg #[.int .i64 (N : Int), .slice p L.length c], .agg #[.int .i64 (N : Int), .slice p L.length c], x2, .pointer (some ⟨xb, 0, none⟩), .int .i64 (N : Int), x5, .pointer (some ⟨xb, 0, none⟩), .int .i64 (N : Int), x8, undef, undef, undef, undef, undef, undef, undef, undef, undef, undef, undef, undef, undef, undef, undef, undef, undef, undef, undef, undef, undef], defers := [] } ∧ JN N L (xb + 1) d x2 x5 x8 b2 h2 b5 b8 W ∧ Below (xb + 1) w1 W) 3 ?_ ?_ 3 _ [] _ _ rfl (by kernel_rfl) ?_
  · intro i hi d a W hid hJ
    obtain ⟨x2, x5, x8, b2, h2, b5, b8, rfl, hJ, hb⟩ := hJ
    have hi' : i = 2 ∨ i = 5 ∨ i = 8 := by simpa using hi
    have hWs : xb + 1 ≤ W.heap.size := by have := hb.size; omega
    have hbw : Below xb w W := hb1.trans (hb.mono (by omega))
    have keep : ∀ W', Below W.heap.size W W' → W'.cell? ⟨xb, 0, none⟩ = some (.int .i64 (N : Int)) ∧ W'.cell? ⟨xb, 1, none⟩ = some (.slice p L.length c) := fun W' h => by
      have h' := hb.trans (h.mono hWs)
      exact ⟨(h'.cell (p := ⟨xb, 0, none⟩) (by simp)).trans q0, (h'.cell (p := ⟨xb, 1, none⟩) (by simp)).trans q1⟩
    clear hi hHeld
    rcases hi' with rfl | rfl | rfl
    · refine Qas rfl (fun K hK => ?_)
      have HJ : Hid _ := hJ
      have HKp : Hid _ := keep
      clear hJ keep
      go_simp
      refine (Qh5 N L hn1 hm1 HE.out _ W ((Edges.below HL.out hbw).mono (by omega))).mono ?_
      rintro e W2 ⟨h0, svs, rfl, g1, g2, g3⟩
      exact hK.out _ _ (HKp.out _ g3) ⟨_, _, _, _, _, _, _, rfl, HJ.out.addA g3 g1 hWs (ATI.of_grp g2), hb.trans (g3.mono hWs)⟩
    · refine Qas rfl (fun K hK => ?_)
      have hmk := run_make_row' (P := Tryz.prog) 48 2 (.int .i64 0) 8 Tryz.underlying48 infoL rfl .i64 .i64 (N) (by omega) (by omega)
      have HJ : Hid _ := hJ
      have HKp : Hid _ := keep
      clear hJ keep
      go_simp
      have hbx : Below W.heap.size W (W.alloc (.cells (madeCells #[.int .i64 0] (N)) 2)) := YD.alloc YA _
      exact hK.out _ _ (HKp.out _ hbx) ⟨_, _, _, _, _, _, _, rfl, HJ.out.addD hbx hWs (QiX W N _), hb.trans (hbx.mono hWs)⟩
    · refine Qas rfl (fun K hK => ?_)
      have hmk := run_make_row' (P := Tryz.prog) 27 3 (.int .i64 0) 8 Tryz.underlying27 QlL rfl .i64 .i64 (N) (by omega) (by omega)
      have HJ : Hid _ := hJ
      have HKp : Hid _ := keep
      clear hJ keep
      go_simp
      have hbx : Below W.heap.size W (W.alloc (.cells (madeCells #[.int .i64 0] (N)) 3)) := YD.alloc YA _
      exact hK.out _ _ (HKp.out _ hbx) ⟨_, _, _, _, _, _, _, rfl, HJ.out.addV hbx hWs (QiX W N _), hb.trans (hbx.mono hWs)⟩
  · intro d a W hall hJ
    obtain ⟨x2, x5, x8, b2, h2, b5, b8, rfl, hJ, hb⟩ := hJ
    obtain ⟨rfl, hA, hA1, hA2⟩ := hJ.a (hall 2 (by simp))
    obtain ⟨rfl, hD, hD1⟩ := hJ.d (hall 5 (by simp))
    obtain ⟨rfl, hV, hV1⟩ := hJ.v (hall 8 (by simp))
    have hdv := hJ.dv (hall 5 (by simp)) (hall 8 (by simp))
    have had := hJ.ad (hall 2 (by simp)) (hall 5 (by simp))
    have hav := hJ.av (hall 2 (by simp)) (hall 8 (by simp))
    clear hJ hall
    have hWs : xb + 1 ≤ W.heap.size := by have := hb.size; omega
    have hHeld2 : W.cell? ⟨xb, 0, none⟩ = some (.int .i64 (N : Int)) ∧ W.cell? ⟨xb, 1, none⟩ = some (.slice p L.length c) := ⟨(hb.cell (p := ⟨xb, 0, none⟩) (by simp)).trans q0, (hb.cell (p := ⟨xb, 1, none⟩) (by simp)).trans q1⟩
    obtain ⟨k0, k1⟩ := hHeld2
    dsimp only
    refine wpAnyH_ready (rs := [9]) (by kernel_rfl) (by simp) ?_
    refine AllReadyH.cons rfl (fun K hK => ?_) AllReadyH.nil
    go_simp
    refine hK.out _ _ ?_ (fun hHeld => ?_)
    · (try dsimp only); first | (go_keep; done) | ((repeat' apply And.intro) <;> go_simp)
    clear hK K
    try simp only [YS, YT, YU]
    refine wpAnyH_ready (rs := [10]) (by kernel_rfl) (by simp) ?_
    refine AllReadyH.cons rfl (fun K hK => ?_) AllReadyH.nil
    go_simp
    refine hK.out _ _ ?_ (fun hHeld => ?_)
    · (try dsimp only); first | (go_keep; done) | ((repeat' apply And.intro) <;> go_simp)
    clear hK K
    try simp only [YS, YT, YU]
    refine wpAnyH_ready (rs := [11]) (by kernel_rfl) (by simp) ?_
    refine AllReadyH.cons rfl (fun K hK => ?_) AllReadyH.nil
    go_simp
    refine hK.out _ _ ?_ (fun hHeld => ?_)
    · (try dsimp only); first | (go_keep; done) | ((repeat' apply And.intro) <;> go_simp)
    clear hK K
    try simp only [YS, YT, YU]
    refine wpAnyH_done (by kernel_rfl) ?_ _
    have hbW : Below W.heap.size W (W.alloc (.cells #[.int .i64 (N : Int), .slice p L.length c, .slice (some ⟨b2, 0, none⟩) N N, .slice (some ⟨b5, 0, none⟩) N N, .slice (some ⟨b8, 0, none⟩) N N, .slice none 0 0] 157)) := YD.alloc YA _
    have hsz2 : (W.alloc (.cells #[.int .i64 (N : Int), .slice p L.length c, .slice (some ⟨b2, 0, none⟩) N N, .slice (some ⟨b5, 0, none⟩) N N, .slice (some ⟨b8, 0, none⟩) N N, .slice none 0 0] 157)).heap.size = W.heap.size + 1 := by simp
    have hnew : (W.alloc (.cells #[.int .i64 (N : Int), .slice p L.length c, .slice (some ⟨b2, 0, none⟩) N N, .slice (some ⟨b5, 0, none⟩) N N, .slice (some ⟨b8, 0, none⟩) N N, .slice none 0 0] 157)).heap[W.heap.size]? = _ := heap_alloc_new W _
    have hDl := hD.lt
    have hVl := hV.lt
    have hok : SLok ⟨N, L, p, c, W.heap.size + 1, b2, h2, b2, W.heap.size, b5, b8⟩ := ⟨hn1, hm1, HE.out, HF.out, by show h2 ≤ W.heap.size + 1; omega, ⟨by show W.heap.size < W.heap.size + 1; omega, by show ¬ (b2 ≤ W.heap.size ∧ W.heap.size < h2); omega, by show W.heap.size ≠ b5; omega, by show W.heap.size ≠ b8; omega⟩, ⟨by show b5 < W.heap.size + 1; omega, had, hdv⟩, ⟨by show b8 < W.heap.size + 1; omega, hav⟩⟩
    have hSM : SM ⟨N, L, p, c, W.heap.size + 1, b2, h2, b2, W.heap.size, b5, b8⟩ (negK N 0) (negK N 0) (.slice none 0 0) [] (W.alloc (.cells #[.int .i64 (N : Int), .slice p L.length c, .slice (some ⟨b2, 0, none⟩) N N, .slice (some ⟨b5, 0, none⟩) N N, .slice (some ⟨b8, 0, none⟩) N N, .slice none 0 0] 157)) :=
      ⟨hnew, by rw [QgH]; exact hD.go hbW, by rw [QgH]; exact hV.go hbW, hA.keep fun k _ hk => hbW.block k (by omega), World.ownsRow_nil _ _ _ _, by rw [hsz2]; exact YA⟩
    have y0 := Qab hbW k0
    have hbx : Below xb w (W.alloc (.cells #[.int .i64 (N : Int), .slice p L.length c, .slice (some ⟨b2, 0, none⟩) N N, .slice (some ⟨b5, 0, none⟩) N N, .slice (some ⟨b8, 0, none⟩) N N, .slice none 0 0] 157)) := hb1.trans ((hb.trans (hbW.mono hWs)).mono (by omega))
    clear hnew hA hD hV k0 k1 hbW hHeld q0 q1 hb
    generalize W.alloc (.cells #[.int .i64 (N : Int), .slice p L.length c, .slice (some ⟨b2, 0, none⟩) N N, .slice (some ⟨b5, 0, none⟩) N N, .slice (some ⟨b8, 0, none⟩) N N, .slice none 0 0] 157) = w2 at *
    generalize W.heap.size = sb at *
    have hsx : xb < sb := by omega
    clear HE HF
    go_wp2
    go_loopw [18] (fun i wr => ∃ j : Nat, j ≤ N ∧ i = .int .i64 j ∧ SM ⟨N, L, p, c, sb + 1, b2, h2, b2, sb, b5, b8⟩ (negK N j) (negK N j) (.slice none 0 0) [] wr ∧ Fr ⟨N, L, p, c, sb + 1, b2, h2, b2, sb, b5, b8⟩ w2 wr) (fun i _ => N - (intOf i).toNat)
    case atStart => exact ⟨0, YN, rfl, hSM, Fr.refl _ _⟩
    case round =>
      clear hSM
      obtain ⟨j, hj, rfl, hSM, hFr⟩ := hrel
      have hblow : Below xb w wr := by
        have := Fr.below (w0 := w) (by rw [hxb]; exact hbx) hFr (by show w.heap.size ≤ sb + 1; omega) (by show w.heap.size ≤ sb; omega) (by show w.heap.size ≤ b5; omega) (by show w.heap.size ≤ b8; omega)
        rwa [hxb] at this
      by_cases hlt : j < N
      · have c3 : wr.cell? ⟨sb, 3, none⟩ = some (.slice (some ⟨b5, 0, none⟩) N N) := hSM.cells.2.2.2.1
        have c4 : wr.cell? ⟨sb, 4, none⟩ = some (.slice (some ⟨b8, 0, none⟩) N N) := hSM.cells.2.2.2.2.1
        have d0 : wr.cell? ⟨b5, j, none⟩ = some (.int .i64 0) := hSM.dist.cell (by rw [YH, Qll hlt]; rfl)
        have v0 : wr.cell? ⟨b8, j, none⟩ = some (.int .i64 0) := hSM.via.cell (by rw [YH, Qll hlt]; rfl)
        have fd : wr.frozen? ⟨b5, j, none⟩ = false := hSM.dist.frozen j
        have fv : wr.frozen? ⟨b8, j, none⟩ = false := hSM.via.frozen j
        have n1 : sb ≠ b5 := by omega
        have n2 : sb ≠ b8 := by omega
        have n3 : b8 ≠ b5 := Ne.symm hdv
        have hjl : (j : Int) < (N : Int) := by omega
        have hput := SM.put hSM hok j (-1) (-1)
        rw [Qm8 N j hlt] at hput
        clear hSM had hav
        go_wp2
        go_big_region_o
        go_wp2
        exact ⟨⟨j + 1, by omega, by go_num, hput.1.drewN 1, (hFr.trans hput.2).drewN 1⟩, by simp [intOf]; omega⟩
      · obtain rfl : N = j := by omega
        rw [Qlk] at hSM
        go_wp2
        go_ret
        exact ⟨_, rfl, rfl, rfl, rfl, hok, hSM, by rw [hxb]; exact hblow, by show w.heap.size ≤ sb; omega, by show w.heap.size ≤ b5; omega, by show w.heap.size ≤ b8; omega⟩
  · exact ⟨undef, undef, undef, 0, 0, 0, 0, rfl, JN.nil _ _ _ _ _ _ _ _ _ _ _, Qaa YD 1⟩
theorem QnY (B:Nat):∀ D:List Int,(∀ x∈D,x≤(B:Int))→potT B D≤D.length*B
 | [],_=>by simp [potT]
 | x :: D,h=>by
  have h1:=QnY B D fun y hy=>h y (by simp [hy])
  have h2:=h x (by simp)
  have h3:potI B x≤B:=by unfold potI;split <;> omega
  have e1:(x :: D).length*B=D.length*B+B:=Nat.succ_mul _ _
  have e2:potT B (x :: D)=potI B x+potT B D:=by simp [potT]
  omega
theorem QkV (N s:Nat):potT (Qbt N) (dist0 N s)≤N*Qbt N:=by
 have h:=QnY (Qbt N) (dist0 N s) fun x hx=>by
  unfold dist0 negs at hx
  rcases List.mem_or_eq_of_mem_set hx with hx | rfl
  ·rw [(List.mem_replicate.1 hx).2];omega
  ·omega
 have e:(dist0 N s).length=N:=by simp [dist0,negs]
 rwa [e] at h
theorem Qmn {N:Nat}(hN:N≤40):2*(N*Qbt N)+1≤8796093022207:=by
 have h1:Qbt N≤85899345881:=by unfold Qbt;omega
 have h2:=Nat.mul_le_mul hN h1
 omega
def FromP (L:List Eg)(s N:Nat)(w:World)(e:Ending)(w':World):Prop:=∃ (D V:List Int) (bD bV:Nat),e = .returned (.tuple #[.slice (some ⟨bD,0,none⟩) N N,.slice (some ⟨bV,0,none⟩) N N,.int .i64 0])∧OKc L s N D V∧Blk 2 w' bD (D.map (Value.int .i64))∧Blk 3 w' bV (V.map (Value.int .i64))∧Below w.heap.size w w'∧w.heap.size≤bD∧w.heap.size≤bV
theorem QiM (N:Nat)(L:List Eg)(s:Nat)(hN:N≤40)(hs:s<N)(hm:L.length≤4194304)(hE:∀ e∈L,e.1<N∧e.2.1<N)(hW:∀ e∈L,e.2.2≤2147483647)(hk:rgtW (N:Int) (L.map edE)=0)(sv:Value)(w:World)(hl:Edges w.heap.size w sv (L.map edE)):
  Calls Tryz.prog 110 #[.agg #[.int .i64 (N:Int),sv],.int .i64 (s:Int)] w fun e w'=>FromP L s N w e w':=by
 obtain⟨p,c,rfl⟩:=hl.lenG
 have hmix:=mixed
 have hg1:Grew w (w.alloc (.cells #[.int .i64 (N:Int),.slice p L.length c] 24)):=(Grew.refl w).alloc _
 have hrt:=Qdl (N:Int) (L.map edE) _ _ (hl.go hg1.below)
 have hiv:=fun W=>Qb6 (N:Int) (s:Int) (.slice p L.length c) W ⟨_,_,_,rfl⟩
 rw [hk] at hrt
 have hvt:vtxB (N:Int) (s:Int)=true:=vtx_iff.2 (by omega)
 rw [hvt] at hiv
 clear hk hvt
 go_enter Tryz.func110,Tryz.ntmps110
 go_wp2_with fail
 refine hrt.mono ?_
 rintro e w1 ⟨rfl,hg2⟩
 clear hrt
 have q0:=(box2 _ hg2).1
 have q1:=(box2 _ hg2).2
 go_wp2_with fail
 refine (hiv _).mono ?_
 rintro e w2 ⟨rfl,hg3⟩
 clear hiv q0 q1
 have q0:=(box2 _ (hg2.trans hg3)).1
 have q1:=(box2 _ (hg2.trans hg3)).2
 have hgw:Grew w w2:=(hg1.trans hg2).trans hg3
 have hns:=QfH N L (by omega) hm hE hW _ w2 (hl.go hgw.below)
 clear hg1 hg2 hg3
 go_wp2_with fail
 refine hns.mono ?_
 rintro e w3 ⟨S,rfl,hSN,hSL,hSp,ok,hSM,hb3,hb4,hb5,hb6⟩
 clear hns q0 q1
 obtain⟨hp,hc⟩:p=S.p∧c=S.c:=by
  simp only [Value.slice.injEq] at hSp
  exact⟨hSp.1,hSp.2.2⟩
 subst hSN hSL hp hc
 have hbw:Below w.heap.size w w3:=hgw.below.trans (hb3.mono hgw.below.size)
 have hww2:=hgw.below.size
 have hcome:=QiT S ok (negs S.N) (negs S.N) (.slice none 0 0) [] s 0 (-1) (-1) w3 hSM hs (by simp [negs,hs]) (by simp [negs]) (.inl rfl) (by simp)
 have HS:Hid _:=ok
 clear hSM hSp
 go_wp2_with fail
 refine hcome.mono ?_
 rintro e w4 ⟨rfl,qv4,Q4,hp4,hS4,hF4,_,_⟩
 clear hcome
 have hQ4:∀ x,x∈Q4↔x=(0,s):=fun x=>by rw [hp4.mem_iff];simp
 obtain⟨hFI,hOp⟩:=FIT.start S.L hs hQ4
 have hl4:Q4.length=1:=by rw [hp4.length_eq];rfl
 have hpot:=QkV S.N s
 have hK:=Qmn hN
 have hS4':SM S (dist0 S.N s) ((negs S.N).set s (-1)) qv4 Q4 w4:=hS4
 go_wp2
 go_loopg [] (2*(S.N*Qbt S.N)+1) (fun k wr=>k≤8796093022207∧Left' S s k w4 wr)
 case atStart=>exact⟨hK,_,_,qv4,Q4,hS4',hFI,hOp,by omega,Fr.refl _ _⟩
 case round=>
  obtain⟨hk,D,V,qv,Q,hSr,hFr,hOr,hKr,hFm⟩:=hrel
  obtain⟨pq,cq,rfl⟩:=Qcm hSr.own
  have c5:=hSr.cells.2.2.2.2.2
  have hbr:Below w.heap.size w wr:=Fr.below hbw (hF4.trans hFm) (by have:=HS.out.s.1;omega) (by omega) (by omega) (by omega)
  by_cases h0:0<Q.length
  ·have h0':(0:Int)<(Q.length:Int):=by omega
   have hnr:=QhL S HS.out D V _ Q wr hSr h0 (by omega)
   go_wp2_with (first | (go_at_call 129;refine (QdR _ _ _ _).mono ?_;rintro e w' ⟨rfl,rfl⟩))
   refine hnr.mono ?_
   rintro e w5 ⟨⟨c,v⟩,qv5,Q5,rfl,hp5,hS5,hF5⟩
   clear hnr c5
   have hl5:Q5.length+1=Q.length:=by have:=hp5.length_eq;simpa using this
   have hin:(c,v)∈Q:=hp5.mem_iff.1 (by simp)
   obtain⟨hvN,hv0,hvc⟩:=hFr.queue _ hin
   have hb5:Below w.heap.size w w5:=Fr.below hbw ((hF4.trans hFm).trans hF5) (by have:=HS.out.s.1;omega) (by omega) (by omega) (by omega)
   have hFI5:FIT S.L s S.N D V Q5:=hFr.perm fun x hx=>hp5.mem_iff.1 (by simp [hx])
   have hlv:=QjA S HS.out s hs hN w hl (by omega) (by omega) (by omega) D V qv5 Q5 Q c v w5 hb5 hS5 hFI5 hvN hv0 hvc hOr (fun x hx=>by
    rcases List.mem_cons.1 (hp5.mem_iff.2 hx) with h | h
    ·exact .inl h
    ·exact .inr h) (2*potT (Qbt S.N) D+Q5.length) YA (by omega)
   go_wp2_with fail
   refine hlv.mono ?_
   rintro e w6 ⟨rfl,hL6⟩
   clear hlv
   go_wp2
   go_roundg (2*potT (Qbt S.N) D+Q5.length)
   case measure=>omega
   case rel=>
    obtain⟨D6,V6,qv6,Q6,g1,g2,g3,g4,g5⟩:=hL6
    exact⟨by omega,D6,V6,qv6,Q6,g1,g2,g3,g4,(hFm.trans hF5).trans g5⟩
  ·obtain rfl:Q=[]:=List.eq_nil_of_length_eq_zero (by omega)
   have hOK:=FIT.okc hFr hOr HS.out.ends
   have c3:=hSr.cells.2.2.2.1
   have c4:=hSr.cells.2.2.2.2.1
   have hD:=hSr.dist
   have hV:=hSr.via
   clear hSr hFr hOr
   go_wp2_with (first | (go_at_call 129;refine (QdR _ _ _ _).mono ?_;rintro e w' ⟨rfl,rfl⟩))
   go_quiet (fail)
   go_wp2
   exact bodyPost_ret (v:=.tuple #[.slice (some ⟨S.bD,0,none⟩) S.N S.N,.slice (some ⟨S.bV,0,none⟩) S.N S.N,.int .i64 0]) (by simp [results,Tryz.results110,go_sem]) rfl ⟨D,V,S.bD,S.bV,rfl,hOK,hD,hV,Qaa hbr nq,by omega,by omega⟩
end Go.Proofs.YtalflecmadacaaaGreat
