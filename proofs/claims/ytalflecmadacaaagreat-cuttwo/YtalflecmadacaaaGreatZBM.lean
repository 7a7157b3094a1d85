import Derived.Test.YtalflecmadacaaaGreatZBL
import Derived.Test.YtalflecmadacaaaGreatShelfS
import Derived.Test.YtalflecmadacaaaGreatZAS
import Derived.Test.YtalflecmadacaaaGreatZAU
import Derived.Test.YtalflecmadacaaaGreatXTjSplit
set_option maxRecDepth 100000
set_option maxHeartbeats 8000000
namespace Go.Proofs.YtalflecmadacaaaGreat
open Go Go.Proofs Go.RowKit
theorem QkZ (N:Nat)(L:List Eg)(a b:Nat)(P:List Int)(T:List Bool)(hN:N≤40)(ha:a<N)(hb:b<N)(hm:L.length≤4194304)(hE:∀ e∈L,e.1<N∧e.2.1<N)(hW:∀ e∈L,e.2.2≤2147483647)(hk:rgtW (N:Int) (L.map edE)=0)(hPl:P.length=L.length)(hPT:∀ p∈P,0≤p∧p<(T.length:Int))(sE sP:Value)(pk bT cT tk base:Nat)(w:World)(hPc:Blk 110 w pk [.int .i64 (N:Int),sE,sP,.slice (some ⟨bT,0,none⟩) 2 cT])(hEd:Edges w.heap.size w sE (L.map edE))(t0:w.cell? ⟨bT,0,none⟩=some (.int .i64 (a:Int)))(t1:w.cell? ⟨bT,1,none⟩=some (.int .i64 (b:Int)))(hTk:Blk 4 w tk (T.map Value.bool))(hPr:w.ownsRow base 3 1 sP P.length (P.map (Value.int .i64)))(htb:tk<base)(hpk:pk≠tk)(hd:∀ D V,OKc L b N D V→∃ d:Nat,at' D a=d∧d<1099511627776):
  Calls Tryz.prog 63 #[.pointer (some ⟨pk,0,none⟩),.slice (some ⟨tk,0,none⟩) T.length T.length] w fun e w'=>∃ (D V:List Int),e = .returned (.int .i64 0)∧OKc L b N D V∧Blk 4 w' tk ((flips T (plcW P (wayM L V N a).reverse)).map Value.bool)∧Tch tk w w':=by
 have hmix:=mixed
 have hpr:=Qk1 N L a b hN ha hb hm hE hW hk sE sP pk bT cT w hPc hEd t0 t1 hd
 have hfo:=fun d W h1 h2 h3 h4 h5 h6=>Qnx N L a b d P T hN ha hb hm hE hW hk hPl hPT sE sP pk bT cT tk base W h1 h2 h3 h4 h5 h6 htb hpk
 have HFO:Hid _:=hfo
 have HPc:Hid (Blk 110 w pk [.int .i64 (N:Int),sE,sP,.slice (some ⟨bT,0,none⟩) 2 cT]):=hPc
 have HEd:Hid (Edges w.heap.size w sE (L.map edE)):=hEd
 have HT:Hid _:=And.intro t0 t1
 have HTk:Hid (Blk 4 w tk (T.map Value.bool)):=hTk
 have HPr:Hid (w.ownsRow base 3 1 sP P.length (P.map (Value.int .i64))):=hPr
 have htl:=hTk.lt
 clear hfo hPc hEd t0 t1 hTk hPr hd hPT hk hW hE
 go_enter Tryz.func63,Tryz.ntmps63
 go_wp2_with fail
 refine hpr.mono ?_
 rintro e w2 ⟨d,gE,cE,D,V,rfl,hd,hok,hD,hEg,hb2⟩
 clear hpr
 have HEg:Hid (Edges w2.heap.size w2 (.slice (some ⟨gE,0,none⟩) 1 cE) ((L2 d).map edE)):=hEg
 have HB2:Hid _:=hb2
 have HG:Hid (Blk 24 (w2.alloc (.cells #[.int .i64 2,.slice (some ⟨gE,0,none⟩) 1 cE] 24)) w2.heap.size [.int .i64 2,.slice (some ⟨gE,0,none⟩) 1 cE]):=heap_alloc_new w2 _
 have HA:Hid (Below w2.heap.size w2 (w2.alloc (.cells #[.int .i64 2,.slice (some ⟨gE,0,none⟩) 1 cE] 24))):=YD.alloc YA _
 clear hEg hb2 hok hD
 obtain⟨w3,hw3⟩:∃ W,w2.alloc (.cells #[.int .i64 2,.slice (some ⟨gE,0,none⟩) 1 cE] 24)=W:=⟨_,rfl⟩
 rw [hw3] at HG HA
 have x0:=HG.out.cell (j:=0) rfl
 have x1:=HG.out.cell (j:=1) rfl
 have hpf:=QhF d hd (some ⟨gE,0,none⟩) cE w3 (HEg.out.go HA.out)
 rw [← hw3] at hpf
 go_wp2_with fail
 rw [hw3] at hpf
 clear hw3
 refine hpf.mono ?_
 rintro e w4 ⟨g,cap,px,rfl,hg0,hgl,hcap,hb4⟩
 clear hpf x0 x1
 have HB4:Hid (Below w3.heap.size w3 w4):=hb4
 obtain⟨w5,hw5⟩:∃ W,w4.alloc (.cells #[.slice (some ⟨px,0,none⟩) 2 2,.slice none 0 0] 114)=W:=⟨_,rfl⟩
 have hb5:Below w4.heap.size w4 w5:=by rw [← hw5];exact YD.alloc YA _
 have hb35:Below w3.heap.size w3 w5:=hb4.trans (hb5.mono hb4.size)
 have hb25:Below w2.heap.size w2 w5:=HA.out.trans (hb35.mono HA.out.size)
 have HB5:Hid (Below w.heap.size w w5):=HB2.out.trans (hb25.mono HB2.out.size)
 have g0:=Qab hb5 hg0
 have y1:=(HG.out.go hb35).cell (j:=1) rfl
 have hEg5:=HEg.out.go hb25
 obtain⟨e0,e1,e2⟩:w5.cell? ⟨gE,0,none⟩=some (.int .i64 1)∧w5.cell? ⟨gE,1,none⟩=some (.int .i64 0)∧w5.cell? ⟨gE,2,none⟩=some (.int .i64 (d:Int)):=by
  rcases hEg5 with ⟨⟨p',c,h1⟩,_⟩ | ⟨b',off,cap',h1,h2,h3,h4⟩
  ·simp at h1
  ·simp only [Value.slice.injEq,Option.some.injEq,Addr.mk.injEq] at h1
   obtain⟨⟨rfl,rfl,_⟩,_,_⟩:=h1
   have:=h4 0 (1,0,(d:Int)) rfl
   simpa using this
 have hgt:w2.heap.size≠tk:=by have:=HB2.out.size;omega
 have HW5:Hid (w4.alloc (.cells #[.slice (some ⟨px,0,none⟩) 2 2,.slice none 0 0] 114)=w5):=hw5
 clear hb4 hb5 hb35 hb25 hg0 hEg5 hw5
 go_wp2
 rw [HW5.out]
 clear HW5
 go_loopw [30] (fun i wr=>(i = .int .i64 0∧wr=w5)∨(i = .int .i64 1∧∃ D V,Hid (OKc L b N D V∧Blk 4 wr tk ((flips T (plcW P (wayM L V N a).reverse)).map Value.bool)∧Tch tk w wr))) (fun i _=>1-(intOf i).toNat)
 case atStart=>exact .inl ⟨rfl,rfl⟩
 case round=>
  rcases hrel with ⟨rfl,rfl⟩ | ⟨rfl,D2,V2,HF⟩
  ·have hfo:=HFO.out d wr (HPc.out.go HB5.out) (HEd.out.go HB5.out) (Qab HB5.out HT.out.1) (Qab HB5.out HT.out.2) (HTk.out.go HB5.out) (Qaq HPr.out HB5.out)
   go_wp2_with fail
   refine hfo.mono ?_
   rintro e w6 ⟨D2,V2,rfl,hok2,hT2,hTc⟩
   have HF:Hid (OKc L b N D2 V2∧Blk 4 w6 tk ((flips T (plcW P (wayM L V2 N a).reverse)).map Value.bool)∧Tch tk w w6):=⟨hok2,hT2,(Tch.of_below HB5.out).trans hTc⟩
   clear hfo hok2 hT2 hTc
   go_wp2
   exact⟨.inr ⟨rfl,D2,V2,HF⟩,by simp [intOf]⟩
  ·go_wp2
   go_ret
   exact⟨D2,V2,rfl,HF.out.1,HF.out.2.1,HF.out.2.2⟩
def fitT (n:Int)(l:List Ed)(T:List Int):Int:=if rgtW n l=0 then if rsB T n=true then 0 else 1 else rgtW n l
theorem QgX (n:Int)(l:List Ed)(T:List Int)(hT:T.length≤8388608)(sv tv:Value)(w:World)(hl:Edges w.heap.size w sv l)(hI:Ints w.heap.size w tv T):
  Calls Tryz.prog 59 #[.agg #[.int .i64 n,sv],tv] w fun r w'=>r = .returned (.int .i64 (fitT n l T))∧Grew w w':=by
 obtain⟨p,c,rfl⟩:=hl.len
 have hg1:Grew w (w.alloc (.cells #[.int .i64 n,.slice p l.length c] 24)):=(Grew.refl w).alloc _
 have hrt:=Qdl n l _ _ (hl.go hg1.below)
 by_cases hk:rgtW n l=0
 ·obtain⟨N,L,rfl,hN,rfl,hm,hE,hW⟩:=Qgr hk
  have hE:Hid (fitT (N:Int) (L.map edE) T=if rsB T N=true then 0 else 1):=by show _=_;unfold fitT;rw [if_pos hk]
  rw [hk] at hrt
  rw [List.length_map] at hrt hg1 hl ⊢
  have HI:Hid (Ints w.heap.size w tv T):=hI
  clear hk hI hl
  go_enter Tryz.func59,Tryz.ntmps59
  go_wp2_with fail
  refine hrt.mono ?_
  rintro e w1 ⟨rfl,hg2⟩
  clear hrt
  have q0:=(box2 _ hg2).1
  have hbw:Below w.heap.size w w1:=(hg1.trans hg2).below
  have hr:=Qjg T (N:Int) (by omega) (by omega) hT tv w1 ((HI.out.below hbw).mono hbw.size)
  cases hb:rsB T (N:Int) with
  | true=>
   rw [hb] at hr
   have HE:Hid (fitT (N:Int) (L.map edE) T=0):=by show _=_;rw [hE.out,hb];rfl
   clear hb
   go_wp2_with fail
   refine hr.mono ?_
   rintro e w2 ⟨rfl,rfl⟩
   go_wp2
   go_ret
   exact⟨by rw [HE.out];rfl,hg1.trans hg2⟩
  | false=>
   rw [hb] at hr
   have HE:Hid (fitT (N:Int) (L.map edE) T=1):=by show _=_;rw [hE.out,hb];rfl
   clear hb
   go_wp2_with fail
   refine hr.mono ?_
   rintro e w2 ⟨rfl,rfl⟩
   go_wp2
   go_ret
   exact⟨by rw [HE.out];rfl,hg1.trans hg2⟩
 ·have HE:Hid (fitT n l T=rgtW n l):=if_neg hk
  generalize rgtW n l=k at hrt hk HE
  have hk':(k==0)=false:=by simpa using hk
  go_enter Tryz.func59,Tryz.ntmps59
  go_wp2_with fail
  refine hrt.mono ?_
  rintro e w1 ⟨rfl,hg2⟩
  clear hrt
  go_wp2
  go_ret
  exact⟨by rw [HE.out];rfl,hg1.trans hg2⟩
theorem QnW {B:List Int}{m:Nat}(h:rsB B m=true):plcB m B=true:=by
 rw [plc_iff]
 exact (rs_iff.1 h).1
theorem Qnn (N:Nat)(L:List Eg)(a b:Nat)(hN:N≤40)(hab:a<b)(hb:b<N)(hk:rgtW (N:Int) (L.map edE)=0)(hm:L.length≤4194304)(hE:∀ e∈L,e.1<N∧e.2.1<N)(hW:∀ e∈L,e.2.2≤2147483647)(hc:ConnT L b a)(sv bv:Value)(w:World)(hl:Edges w.heap.size w sv (L.map edE))(hI:Ints w.heap.size w bv [(a:Int),(b:Int)]):
  Calls Tryz.prog 31 #[.agg #[.int .i64 (N:Int),sv],bv] w fun e w'=>∃ (lv:Value) (T:List Bool),e = .returned (.tuple #[lv,.int .i64 (sumP L (trueL T)),.int .i64 0])∧T.length=L.length∧w'.ownsRow w.heap.size 3 1 lv (trueL T).length ((trueL T).map (Value.int .i64))∧rsB (trueL T) L.length=true∧oddV N L (trueL T)=[(a:Int),(b:Int)]∧(∀ D,IsD L b N D→sumP L (trueL T)=at' D a)∧Below w.heap.size w w':=by
 have hmix:=mixed
 obtain⟨p,c,rfl⟩:=hl.lenG
 obtain⟨pb,cb,rfl⟩:=hI.len
 have ha:a<N:=by omega
 have hN2:N≤1048576:=by omega
 have hrs:rsB [(a:Int),(b:Int)] (N:Int)=true:=by
  rw [rs_iff]
  refine⟨fun x hx=>?_,by simp;omega⟩
  simp only [List.mem_cons,List.not_mem_nil,or_false] at hx
  rcases hx with rfl | rfl <;> omega
 have hplc:plcB N [(a:Int),(b:Int)]=true:=QnW hrs
 have hfit:fitT (N:Int) (L.map edE) [(a:Int),(b:Int)]=0:=by
  unfold fitT
  rw [if_pos hk,if_pos hrs]
 obtain⟨w1,hw1⟩:∃ W,(w.alloc (.cells #[.int .i64 (N:Int),.slice p L.length c] 24))=W:=⟨_,rfl⟩
 have hb1:Below w.heap.size w w1:=by rw [← hw1];exact YD.alloc YA _
 have hX1:Blk 24 w1 w.heap.size [.int .i64 (N:Int),.slice p L.length c]:=by rw [← hw1];exact heap_alloc_new w _
 have hl1:Edges w1.heap.size w1 (.slice p L.length c) (L.map edE):=hl.go hb1
 have hI1:Ints w1.heap.size w1 (.slice pb 2 cb) [(a:Int),(b:Int)]:=(hI.below hb1).mono hb1.size
 have hft:=QgX (N:Int) (L.map edE) [(a:Int),(b:Int)] (by simp) _ _ w1 hl1 hI1
 rw [hfit] at hft
 have x0:=hX1.cell (j:=0) rfl
 have x1:=hX1.cell (j:=1) rfl
 have HX1:Hid (Blk 24 w1 w.heap.size [.int .i64 (N:Int),.slice p L.length c]):=hX1
 have HB1:Hid (Below w.heap.size w w1):=hb1
 have HL1:Hid (Edges w1.heap.size w1 (.slice p L.length c) (L.map edE)):=hl1
 have HI1:Hid (Ints w1.heap.size w1 (.slice pb 2 cb) [(a:Int),(b:Int)]):=hI1
 have HH:Hid ((∀ e∈L,e.1<N∧e.2.1<N)∧(∀ e∈L,e.2.2≤2147483647)∧ConnT L b a):=⟨hE,hW,hc⟩
 have HPLC:Hid (plcB N [(a:Int),(b:Int)]=true):=hplc
 clear hX1 hb1 hl1 hI1 hl hI hE hW hc hk hrs hplc hfit
 go_enter Tryz.func31,Tryz.ntmps31
 go_wp2_with fail
 refine hft.mono ?_
 rintro e w2 ⟨rfl,hg2⟩
 clear hft hw1 x0 x1
 have hb2:=hg2.below
 have hX2:=HX1.out.go hb2
 have x0:=hX2.cell (j:=0) rfl
 have x1:=hX2.cell (j:=1) rfl
 have HX2:Hid (Blk 24 w2 w.heap.size [.int .i64 (N:Int),.slice p L.length c]):=hX2
 have HB2:Hid (Below w.heap.size w w2):=HB1.out.trans (hb2.mono HB1.out.size)
 have HL2:Hid (Edges w2.heap.size w2 (.slice p L.length c) (L.map edE)):=HL1.out.go hb2
 have HI2:Hid (Ints w2.heap.size w2 (.slice pb 2 cb) [(a:Int),(b:Int)]):=(HI1.out.below hb2).mono hb2.size
 have hld:=Qex N L hN2 hm HH.out.1 _ w2 HL2.out
 clear hX2 hb2 hg2 HX1 HB1 HL1 HI1
 go_wp2_with fail
 refine hld.mono ?_
 rintro e w3 ⟨g,R,rfl,hR,hG,hb3,hg⟩
 clear hld x0 x1
 have hX3:=HX2.out.go hb3
 have x0:=hX3.cell (j:=0) rfl
 have x1:=hX3.cell (j:=1) rfl
 have HX3:Hid (Blk 24 w3 w.heap.size [.int .i64 (N:Int),.slice p L.length c]):=hX3
 have HB3:Hid (Below w.heap.size w w3):=HB2.out.trans (hb3.mono HB2.out.size)
 have HL3:Hid (Edges w3.heap.size w3 (.slice p L.length c) (L.map edE)):=HL2.out.go hb3
 have HI3:Hid (Ints w3.heap.size w3 (.slice pb 2 cb) [(a:Int),(b:Int)]):=(HI2.out.below hb3).mono hb3.size
 have HG3:Hid (Blk 3 w3 g (natsV (leadL N R))):=hG
 have HR:Hid (LeadP L N R):=hR
 have hRN:∀ v,v<N→R v<N:=fun v hv=>Nat.lt_of_le_of_lt (hR.low v hv) hv
 have HRab:Hid (R b=R a):=(hR.iff b a hb ha).2 HH.out.2.2
 have hio:=QgN N R [(a:Int),(b:Int)] hN2 hRN HPLC.out (by simp) g _ w3 HG3.out HI3.out
 rw [Qmu HRab.out.symm (hRN a ha)] at hio
 have HRN:Hid _:=hRN
 clear hX3 hb3 HX2 HB2 HL2 HI2 hG hR hg hRN
 go_wp2_with fail
 refine hio.mono ?_
 rintro e w4 ⟨rfl,hb4⟩
 clear hio x0 x1
 have hX4:=HX3.out.go hb4
 have x0:=hX4.cell (j:=0) rfl
 have x1:=hX4.cell (j:=1) rfl
 have HX4:Hid (Blk 24 w4 w.heap.size [.int .i64 (N:Int),.slice p L.length c]):=hX4
 have HB4:Hid (Below w.heap.size w w4):=HB3.out.trans (hb4.mono HB3.out.size)
 have HL4:Hid (Edges w4.heap.size w4 (.slice p L.length c) (L.map edE)):=HL3.out.go hb4
 have HI4:Hid (Ints w4.heap.size w4 (.slice pb 2 cb) [(a:Int),(b:Int)]):=(HI3.out.below hb4).mono hb4.size
 have HG4:Hid (Blk 3 w4 g (natsV (leadL N R))):=HG3.out.go hb4
 clear hX4 hb4 HX3 HB3 HL3 HI3 HG3
 have HBR:Hid (∀ v∈[(a:Int),(b:Int)],R v.toNat=R a):=by
  intro v hv
  simp only [List.mem_cons,List.not_mem_nil,or_false] at hv
  rcases hv with rfl | rfl
  ·rfl
  ·exact HRab.out
 obtain⟨i0,hi,hz0,hz1,hz2⟩:=info_parts Qff
 go_wp2_with (at_make;refine wpList_make_full _ rfl _ _ 25 rfl w4.heap.size 4 i0 (.bool false) 1 Tryz.underlying25 hi hz0 hz1 .i64 .i64 _ _ L.length rfl rfl rfl rfl (by rw [hz2];omega) (by unfold maxLen;omega) YA ?_;intro w5 hown hgrow;have hb5:Below w4.heap.size w4 w5:=YD.grown hgrow YA (fun k e=>by cases e);have hrow:=Blk.made hown;rw [QaT] at hrow;have HTk5:Hid (Blk 4 w5 w4.heap.size ((List.replicate L.length false).map Value.bool)):=hrow;clear hown hgrow hrow x0 x1;have hX5:=HX4.out.go hb5;have x0:=hX5.cell (j:=0) rfl;have x1:=hX5.cell (j:=1) rfl;have HX5:Hid (Blk 24 w5 w.heap.size [.int .i64 (N:Int),.slice p L.length c]):=hX5;have HB5:Hid (Below w4.heap.size w4 w5):=hb5;clear hX5;have hsp:=Qky N L R (R a) [(a:Int),(b:Int)] hN2 hm HH.out.1 HRN.out HR.out.all HPLC.out HBR.out (by simp) (by simp) g (.slice p L.length c) (.slice pb 2 cb) w5 (HL4.out.go hb5) (HG4.out.go hb5) ((HI4.out.below hb5).mono hb5.size);clear hb5)
 refine hsp.mono ?_
 rintro e w6 ⟨pl,pk,cap,sE,sP,sT,rfl,hpl0,hpl,hpk,hPc,hsE,hsP,hsT,hb6⟩
 clear hsp x0 x1 hi hz0 hz1 hz2
 obtain⟨bT,cT,rfl,hbT,htc⟩:=Qfy hsT (by simp [tkL])
 have ht0:w6.cell? ⟨bT,0,none⟩=some (.int .i64 (nm R (R a) a:Int)):=htc 0 _ (by simp [tkL])
 have ht1:w6.cell? ⟨bT,1,none⟩=some (.int .i64 (nm R (R a) b:Int)):=htc 1 _ (by simp [tkL])
 have hX6:=HX5.out.go hb6
 have x0:=hX6.cell (j:=0) rfl
 have x1:=hX6.cell (j:=1) rfl
 have HX6:Hid (Blk 24 w6 w.heap.size [.int .i64 (N:Int),.slice p L.length c]):=hX6
 have HB56:Hid (Below w5.heap.size w5 w6):=hb6
 have hs5:=HTk5.out.lt
 have hTk6:=HTk5.out.go hb6
 have hPl:((subP R (R a) L).map fun i:Nat=>(i:Int)).length=(subE R (R a) L).length:=by rw [List.length_map];exact (Qd7 R (R a) L).1.symm
 have hsl:=(Qd7 R (R a) L).2
 have hrep:(List.replicate L.length false).length=L.length:=List.length_replicate
 have hpj:=QkZ (nm R (R a) N) (subE R (R a) L) (nm R (R a) a) (nm R (R a) b) ((subP R (R a) L).map fun i:Nat=>(i:Int)) (List.replicate L.length false) (by have:=Qlh R (R a) N;omega) (Qep rfl ha) (Qep HRab.out hb) (by omega) (QdO HH.out.1 HR.out.all) (Qhn HH.out.2.1) (Qpq (by have:=Qlh R (R a) N;omega) (by omega) (QdO HH.out.1 HR.out.all) (Qhn HH.out.2.1)) hPl (fun q hq=>by rw [hrep];exact QmA q hq) sE sP pk bT cT w4.heap.size w5.heap.size w6 hPc (QeL hsE) ht0 ht1 hTk6 hsP hs5 (by omega) (fun D V hok=>Qip hN HH.out.1 HH.out.2.1 HR.out.all ha hb rfl HRab.out HH.out.2.2 hok.dist)
 rw [hrep] at hpj
 have hpl6:=hpl0
 clear hX6 hPc hsE hsP hsT hb6 htc ht0 ht1 hTk6 hPl hsl hrep hpk
 go_wp2
 go_loopw [5,38] (fun c5 i wr=>c5 = .int .i64 0∧((i = .int .i64 0∧wr=w6)∨(i = .int .i64 1∧∃ D V,Hid (OKc (subE R (R a) L) (nm R (R a) b) (nm R (R a) N) D V∧Blk 4 wr w4.heap.size ((tookT R (R a) (nm R (R a) N) L V a).map Value.bool)∧Tch w4.heap.size w6 wr)))) (fun _ i _=>1-(intOf i).toNat)
 case atStart=>exact⟨rfl,.inl ⟨rfl,rfl⟩⟩
 case round=>
  obtain⟨rfl,hrel⟩:=hrel
  rcases hrel with ⟨rfl,rfl⟩ | ⟨rfl,D,V,HF⟩
  ·go_wp2_with fail
   refine hpj.mono ?_
   rintro e w7 ⟨D,V,rfl,hok,hT7,hTc⟩
   have HF:Hid (OKc (subE R (R a) L) (nm R (R a) b) (nm R (R a) N) D V∧Blk 4 w7 w4.heap.size ((tookT R (R a) (nm R (R a) N) L V a).map Value.bool)∧Tch w4.heap.size wr w7):=by
    rw [QmP] at hT7
    exact⟨hok,hT7,hTc⟩
   clear hpj hok hT7 hTc
   go_wp2
   exact⟨⟨rfl,.inr ⟨rfl,D,V,HF⟩⟩,by simp [intOf]⟩
  ·clear hpj hpl6 hpl0 ha
   obtain⟨T,hT⟩:∃ T,tookT R (R a) (nm R (R a) N) L V a=T:=⟨_,rfl⟩
   have hlT:T.length=L.length:=by rw [← hT];exact Qij _ _ _ _ _ _
   obtain⟨d,hd1,hd2⟩:=Qip hN HH.out.1 HH.out.2.1 HR.out.all (show a<N by omega) hb rfl HRab.out HH.out.2.2 HF.out.1.dist
   have HALL:Hid (rsB (trueL T) L.length=true∧oddV N L (trueL T)=[(a:Int),(b:Int)]∧∀ D',IsD L b N D'→sumP L (trueL T)=at' D' a):=by
    obtain⟨h1,h2,h3⟩:=Qmv HH.out.1 HR.out.all (show a<N by omega) hb hab rfl HRab.out HF.out.1 (by omega)
    rw [hT] at h1 h2 h3
    exact⟨h1,h2,fun D' hD'=>h3.trans (Qmz HR.out.all HRab.out rfl (show a<N by omega) hD' HF.out.1.dist)⟩
   have hTk:=HF.out.2.1
   rw [hT] at hTk
   have hb4r:Below w4.heap.size w4 wr:=HF.out.2.2.below (HB5.out.trans (HB56.out.mono HB5.out.size)) YA (by have:=HB5.out.size;have:=HB56.out.size;omega)
   have HB4r:Hid (Below w4.heap.size w4 wr):=hb4r
   have hto:=QbX T (by omega) (.slice (some ⟨w4.heap.size,0,none⟩) L.length L.length) wr (hTk.boolsT hlT)
   have HlT:Hid (T.length=L.length):=hlT
   clear HF hTk hb4r hT hd1 hd2 d hlT x0 x1
   go_wp2_with fail
   refine hto.mono ?_
   rintro e w8 ⟨lv,rfl,ho,hb8⟩
   clear hto
   have HB8:Hid (Below w4.heap.size w4 w8):=HB4r.out.trans (hb8.mono HB4r.out.size)
   have HO:Hid (w8.ownsRow wr.heap.size 3 1 lv (trueL T).length ((trueL T).map (Value.int .i64))):=ho
   obtain⟨pa,ca,rfl⟩:=Qan ho
   have HX8:Hid (Blk 24 w8 w.heap.size [.int .i64 (N:Int),.slice p L.length c]):=HX4.out.go HB8.out
   have HPL:Hid (∀ x∈trueL T,∃ i:Nat,x=i∧i<L.length):=fun x hx=>by
    obtain⟨i,h1,h2,_⟩:=trueL_mem.1 hx
    exact⟨i,h1,by have:=HlT.out;omega⟩
   have hIl:(trueL T).length≤4194304:=by have:=QbY T T.length;have:=HlT.out;show (trueK T T.length).length≤_;omega
   have HT2:Hid (w8.ownsRow wr.heap.size 3 1 (.slice pa (trueL T).length ca) (trueL T).length ((trueL T).map (Value.int .i64))∧trueL T=trueL T):=⟨ho,rfl⟩
   clear ho hb8
   have HF2:Hid (∀ A:List Int,0≤sumP L A∧sumP L A≤((A.length*2147483647:Nat):Int)):=Qio HH.out.2.1
   obtain⟨I,hI⟩:∃ I,trueL T=I:=⟨_,rfl⟩
   have HI:Hid (trueL T=I):=hI
   rw [hI] at HALL HO HPL hIl ⊢
   clear HT2 hI
   go_wp2
   go_loopw [5,53] (fun cv i wr2=>∃ k:Nat,k≤I.length∧cv = .int .i64 (sumP L (I.take k))∧i = .int .i64 (k:Int)∧wr2=w8) (fun _ i _=>I.length-(intOf i).toNat)
   case atStart=>exact⟨0,YN,rfl,rfl,rfl⟩
   case round=>
    obtain⟨k,hk,rfl,rfl,rfl⟩:=hrel
    by_cases hlt:k<I.length
    ·have hkl:(k:Int)<(I.length:Int):=by omega
     obtain⟨gw,cw,hgw,hgb,hgc⟩:=Qfy HO.out (by omega)
     simp only [Value.slice.injEq] at hgw
     obtain⟨rfl,_,rfl⟩:=hgw
     have c0:=hgc k I[k] (YB hlt)
     obtain⟨i,hi1,hi2⟩:=HPL.out I[k] (YG hlt)
     rw [hi1] at c0
     obtain⟨b',off,rfl,hb',hcap,hcc⟩:=HL4.out.eg hi2
     obtain⟨e0,e1,e2⟩:=hcc _ HB8.out i hi2
     have x1:=HX8.out.cell (j:=1) rfl
     have hi3:(i:Int)<(L.length:Int):=by omega
     have HST:Hid (sumP L (I.take (k+1))=sumP L (I.take k)+(L[i].2.2:Int)):=by
      show _=_
      rw [List.take_succ_eq_append_getElem hlt,Qd4,hi1,QaG,Qfu]
      unfold wP
      rw [YM,YC,YB hi2]
      simp
     obtain⟨s0,s1⟩:=HF2.out (I.take k)
     have hwl:=HH.out.2.1 L[i] (YG hi2)
     have s2:(I.take k).length*2147483647≤4194304*2147483647:=Nat.mul_le_mul_right _ (by rw [List.length_take];omega)
     have hs0:0≤sumP L (I.take k):=s0
     have hs1:sumP L (I.take k)≤9007199254740992:=by omega
     generalize L[i].2.2=wt at *
     generalize sumP L (I.take k)=S at *
     have HLT:Hid (k<I.length):=hlt
     have hwr:IntKind.i64.wrap (S+(wt:Int))=S+(wt:Int):=QaU _ (by omega) (by omega)
     clear hgc hlt hi1 hi2 hcc hb' hcap s0 s1 s2 e0 e1
     go_wp2
     refine⟨⟨k+1,HLT.out,?_,by go_num,trivial⟩,by have:=HLT.out;simp [intOf];omega⟩
     rw [HST.out]
    ·obtain rfl:k=I.length:=by omega
     go_wp2
     refine bodyPost_ret (v:=.tuple #[.slice pa I.length ca,.int .i64 (sumP L (I.take I.length)),.int .i64 0]) (by simp [results,Tryz.results31,go_sem]) rfl ?_
     refine⟨.slice pa I.length ca,T,?_,HlT.out,?_,?_,?_,?_,HB4.out.trans (HB8.out.mono HB4.out.size)⟩
     ·rw [HI.out,List.take_length]
     ·rw [HI.out]
      exact QaW HO.out (by have:=HB4.out.size;have:=HB4r.out.size;omega)
     ·rw [HI.out];exact HALL.out.1
     ·rw [HI.out];exact HALL.out.2.1
     ·rw [HI.out];exact HALL.out.2.2
theorem Qki (M:Nat):trueL (List.replicate M false)=[]:=by
 rw [List.eq_nil_iff_forall_not_mem]
 intro x hx
 obtain⟨i,_,_,h⟩:=trueL_mem.1 hx
 rw [Qhw] at h
 cases h
theorem Qkx (pb:Option Addr)(cb:Nat)(N:Nat)(L:List Eg)(R:Nat→Nat)(hN:N≤1048576)(hm:L.length≤4194304)(hE:∀ e∈L,e.1<N∧e.2.1<N)(hR:∀ v,v<N→R v<N)(g:Nat)(sv:Value)(w:World)(hl:Edges w.heap.size w sv (L.map edE))(hG:Blk 3 w g (natsV (leadL N R))):
  Calls Tryz.prog 62 #[.agg #[.int .i64 (N:Int),sv],.slice pb 0 cb,.slice (some ⟨g,0,none⟩) N N] w fun e w'=>e = .returned (.slice none 0 0)∧Below w.heap.size w w':=by
 have hmix:=mixed
 obtain⟨p,c,rfl⟩:=hl.lenG
 obtain⟨i0,hi,hz0,hz1,hz2⟩:=info_parts QlI
 have HG:Hid (Blk 3 w g (natsV (leadL N R))):=hG
 have HLE:Hid (Edges w.heap.size w (.slice p L.length c) (L.map edE)):=hl
 have hgl:=hG.lt
 have hg1:Grew w (w.alloc (.cells #[.int .i64 (N:Int),.slice p L.length c] 24)):=(Grew.refl w).alloc _
 have E1:Hid ((w.alloc (.cells #[.int .i64 (N:Int),.slice p L.length c] 24)).heap.size=w.heap.size+1):=by show _=_;simp
 clear hG hl
 go_enter Tryz.func62,Tryz.ntmps62
 go_wp2_with (at_make;refine wpList_make_full _ rfl _ _ 82 rfl w.heap.size 84 i0 (.pointer none) 1 Tryz.underlying82 hi hz0 hz1 .i64 .i64 _ _ N rfl rfl rfl rfl (by rw [hz2];omega) (by unfold maxLen;omega) (by simp) ?_;intro w3 hown hgrow;have hb3:Below (w.alloc (.cells #[.int .i64 (N:Int),.slice p L.length c] 24)).heap.size (w.alloc (.cells #[.int .i64 (N:Int),.slice p L.length c] 24)) w3:=YD.grown hgrow YA (fun k e=>by cases e);have hX3:Blk 24 w3 w.heap.size [.int .i64 (N:Int),.slice p L.length c]:=Blk.go (heap_alloc_new w _) hb3;have hbw:Below w.heap.size w w3:=hg1.below.trans (hb3.mono (by rw [E1.out];omega));rw [E1.out] at hown;have hrow:=Blk.made hown;have hsz:=hrow.lt;rw [QgG] at hrow;have HX3:Hid (Blk 24 w3 w.heap.size [.int .i64 (N:Int),.slice p L.length c]):=hX3;have HRow:Hid (Blk 84 w3 (w.heap.size+1) (List.replicate N (.pointer none))):=hrow;have HB3:Hid (Below w.heap.size w w3):=hbw;clear hown hgrow hb3 hrow hbw hX3)
 obtain⟨x,hx⟩:∃ n,w.heap.size=n:=⟨_,rfl⟩
 rw [hx] at HX3 HRow hsz HB3 hgl ⊢
 clear E1 hg1 hi hz0 hz1 hz2
 go_loopw [8,25] (fun lv i wr=>lv = .slice none 0 0∧i = .int .i64 0∧wr=w3) (fun _ _ _=>0)
 case atStart=>exact⟨rfl,rfl,rfl⟩
 case round=>
  obtain⟨rfl,rfl,rfl⟩:=hrel
  have x0:=HX3.out.cell (j:=0) rfl
  obtain⟨i2,hi,hz0,hz1,hz2⟩:=info_parts infoI
  go_wp2_with (at_make;refine wpList_make_full _ rfl _ _ 27 rfl wr.heap.size 3 i2 (.int .i64 0) 1 Tryz.underlying27 hi hz0 hz1 .i64 .i64 _ _ N rfl rfl rfl rfl (by rw [hz2];omega) (by unfold maxLen;omega) (by simp) ?_;intro w4 hown hgrow;have hb4:Below wr.heap.size wr w4:=YD.grown hgrow YA (fun k e=>by cases e);have HX4:Hid (Blk 24 w4 x [.int .i64 (N:Int),.slice p L.length c]):=HX3.out.go hb4;have HRow4:Hid (Blk 84 w4 (x+1) (List.replicate N (.pointer none))):=HRow.out.go hb4;have HB4:Hid (Below x w w4):=HB3.out.trans (hb4.mono (by omega));clear hown hgrow hb4 x0;have x0:=HX4.out.cell (j:=0) rfl)
  clear HX3 HRow HB3 hi hz0 hz1 hz2 hsz
  go_loopw [61] (fun i wr2=>∃ j:Nat,j≤N∧i = .int .i64 j∧wr2=w4) (fun i _=>N-(intOf i).toNat)
  case atStart=>exact⟨0,YN,rfl,rfl⟩
  case round=>
   obtain⟨j,hj,rfl,rfl⟩:=hrel
   clear x0
   by_cases hlt:j<N
   ·have hjl:(j:Int)<(N:Int):=by omega
    have hRj:=hR j hlt
    have hRl:((R j:Nat):Int)<(N:Int):=by omega
    have g0:=(HG.out.go (by rw [hx];exact HB4.out)).cell (Qbs (R:=R) hlt)
    have o0:=HRow4.out.cell (j:=R j) (v:=.pointer none) (by simp [hRj])
    have HLT:Hid (j<N):=hlt
    clear hlt
    go_wp2
    exact⟨⟨j+1,HLT.out,by go_num,trivial⟩,by have:=HLT.out;simp [intOf];omega⟩
   ·obtain rfl:N=j:=by omega
    go_wp2
    go_loopw [93] (fun i wr3=>i = .int .i64 0∧wr3=wr) (fun _ _=>0)
    case atStart=>exact⟨rfl,rfl⟩
    case round=>
     obtain⟨rfl,rfl⟩:=hrel
     have x1:=HX4.out.cell (j:=1) rfl
     go_wp2
     obtain⟨wz,hwz⟩:∃ W,wr=W:=⟨_,rfl⟩
     rw [hwz] at HX4 HRow4 HB4 x1 ⊢
     clear hwz
     go_loopw [121] (fun i wrx=>∃ j:Nat,j≤L.length∧i = .int .i64 j∧Hid (Below wz.heap.size wz wrx)) (fun i _=>L.length-(intOf i).toNat)
     case atStart=>exact⟨0,YN,rfl,YD⟩
     case round=>
      clear x1
      obtain⟨j,hj,rfl,HB⟩:=hrel
      have hbx:Below x w wr:=HB4.out.trans (HB.out.mono (by rw [← hx];exact HB4.out.size))
      by_cases hlt:j<L.length
      ·have hjl:(j:Int)<(L.length:Int):=by omega
       obtain⟨b,off,rfl,hb1,hcap,hc⟩:=HLE.out.eg hlt
       rw [hx] at hc hb1
       obtain⟨e0,e1,e2⟩:=hc wr hbx j hlt
       obtain⟨hu,hv⟩:=hE L[j] (YG hlt)
       have HLT:Hid (j<L.length):=hlt
       generalize L[j]=e at *
       obtain⟨u,v,wt⟩:=e
       simp only at hu hv e0 e1 e2
       have hu':(u:Int)<(N:Int):=by omega
       have hRu:=hR u hu
       have hRl:((R u:Nat):Int)<(N:Int):=by omega
       have g0:wr.cell? ⟨g,u,none⟩=some (.int .i64 (R u:Int)):=(HG.out.go (by rw [hx];exact hbx)).cell (Qbs hu)
       have o0:=(HRow4.out.go HB.out).cell (j:=R u) (v:=.pointer none) (by simp [hRu])
       have hgz:=World.block_lt_of_cell? wr _ g0
       have hoz:=(HRow4.out.go HB.out).lt
       have HB6:Hid (Below wr.heap.size wr (wr.alloc (.cells #[.int .i64 (u:Int),.int .i64 (v:Int),.int .i64 (wt:Int)] 50))):=YD.alloc YA _
       clear hc hlt hbx hb1 hcap
       go_wp2
       exact⟨⟨j+1,HLT.out,by go_num,HB.out.trans (HB6.out.mono HB.out.size)⟩,by have:=HLT.out;simp [intOf];omega⟩
      ·obtain rfl:j=L.length:=by omega
       go_wp2
       go_ret
       exact⟨rfl,by rw [hx];exact hbx⟩
end Go.Proofs.YtalflecmadacaaaGreat
