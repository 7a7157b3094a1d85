import Derived.Test.YtalflecmadacaaaGreatShelfS
import Derived.Test.YtalflecmadacaaaGreatZAN
import Derived.Test.YtalflecmadacaaaGreatZBO
import Derived.Test.YtalflecmadacaaaGreatZAZ
import Derived.Test.YtalflecmadacaaaGreatXCtSpread
import Derived.Test.YtalflecmadacaaaGreatZBH
import Derived.Test.YtalflecmadacaaaGreatZBL
import Derived.Test.YtalflecmadacaaaGreatZBJ
import Derived.Test.YtalflecmadacaaaGreatZAQ
import Derived.Test.YtalflecmadacaaaGreatZAA
set_option maxRecDepth 100000
set_option maxHeartbeats 8000000
namespace Go.Proofs.YtalflecmadacaaaGreat
open Go Go.Proofs Go.RowKit
def fitT (n:Int)(l:List Ed)(T:List Int):Int:=if rgtW n l=0 then if rsB T n=true then 0 else 1 else rgtW n l
theorem QmF (n:Int)(l:List Ed)(T:List Int)(hT:T.length≤8388608)(sv tv:Value)(w:World)(hl:Edges w.heap.size w sv l)(hI:Ints w.heap.size w tv T):
  Calls Tryz.prog 59 #[.agg #[.int .i64 n,sv],tv] w fun r w'=>r = .returned (.int .i64 (fitT n l T))∧Grew w w':=by
 obtain⟨p,c,rfl⟩:=hl.len
 have hg1:Grew w (w.alloc (.cells #[.int .i64 n,.slice p l.length c] 24)):=(Grew.refl w).alloc _
 have hrt:=Qdm n l _ _ (hl.go hg1.below)
 by_cases hk:rgtW n l=0
 ·obtain⟨N,L,rfl,hN,rfl,hm,hE,hW⟩:=QgM hk
  have hE:Hid (fitT (N:Int) (L.map edE) T=if rsB T N=true then 0 else 1):=by show _=_;unfold fitT;rw [if_pos hk]
  rw [hk] at hrt
  rw [List.length_map] at hrt hg1 hl ⊢
  have HI:Hid (Ints w.heap.size w tv T):=hI
  clear hk hI hl
  go_enter Tryz.func59,Tryz.ntmps59
  go_wp2_with fail
  refine hrt.mono ?_
  rintro e w1 ⟨rfl,hg2⟩
  clear hrt
  have q0:=(box2 _ hg2).1
  have hbw:Below w.heap.size w w1:=(hg1.trans hg2).below
  have hr:=QjI T (N:Int) (by omega) (by omega) hT tv w1 ((HI.out.below hbw).mono hbw.size)
  cases hb:rsB T (N:Int) with
  | true=>
   rw [hb] at hr
   have HE:Hid (fitT (N:Int) (L.map edE) T=0):=by show _=_;rw [hE.out,hb];rfl
   clear hb
   go_wp2_with fail
   refine hr.mono ?_
   rintro e w2 ⟨rfl,rfl⟩
   go_wp2
   go_ret
   exact⟨by rw [HE.out];rfl,hg1.trans hg2⟩
  | false=>
   rw [hb] at hr
   have HE:Hid (fitT (N:Int) (L.map edE) T=1):=by show _=_;rw [hE.out,hb];rfl
   clear hb
   go_wp2_with fail
   refine hr.mono ?_
   rintro e w2 ⟨rfl,rfl⟩
   go_wp2
   go_ret
   exact⟨by rw [HE.out];rfl,hg1.trans hg2⟩
 ·have HE:Hid (fitT n l T=rgtW n l):=if_neg hk
  generalize rgtW n l=k at hrt hk HE
  have hk':(k==0)=false:=by simpa using hk
  go_enter Tryz.func59,Tryz.ntmps59
  go_wp2_with fail
  refine hrt.mono ?_
  rintro e w1 ⟨rfl,hg2⟩
  clear hrt
  go_wp2
  go_ret
  exact⟨by rw [HE.out];rfl,hg1.trans hg2⟩
theorem QpJ {B:List Int}{m:Nat}(h:rsB B m=true):plcB m B=true:=by
 rw [plc_iff]
 exact (rs_iff.1 h).1
theorem Qn9 (N:Nat)(L:List Eg)(a b:Nat)(hN:N≤40)(hab:a<b)(hb:b<N)(hk:rgtW (N:Int) (L.map edE)=0)(hm:L.length≤4194304)(hE:∀ e∈L,e.1<N∧e.2.1<N)(hW:∀ e∈L,e.2.2≤2147483647)(hc:ConnT L b a)(sv bv:Value)(w:World)(hl:Edges w.heap.size w sv (L.map edE))(hI:Ints w.heap.size w bv [(a:Int),(b:Int)]):
  Calls Tryz.prog 31 #[.agg #[.int .i64 (N:Int),sv],bv] w fun e w'=>∃ (lv:Value) (T:List Bool),e = .returned (.tuple #[lv,.int .i64 (sumP L (trueL T)),.int .i64 0])∧T.length=L.length∧w'.ownsRow w.heap.size 3 1 lv (trueL T).length ((trueL T).map (Value.int .i64))∧rsB (trueL T) L.length=true∧oddV N L (trueL T)=[(a:Int),(b:Int)]∧(∀ D,IsD L b N D→sumP L (trueL T)=at' D a)∧Below w.heap.size w w':=by
 have hmix:=mixed
 obtain⟨p,c,rfl⟩:=hl.lenG
 obtain⟨pb,cb,rfl⟩:=hI.len
 have ha:a<N:=by omega
 have hN2:N≤1048576:=by omega
 have hrs:rsB [(a:Int),(b:Int)] (N:Int)=true:=by
  rw [rs_iff]
  refine⟨fun x hx=>?_,by simp;omega⟩
  simp only [List.mem_cons,List.not_mem_nil,or_false] at hx
  rcases hx with rfl | rfl <;> omega
 have hplc:plcB N [(a:Int),(b:Int)]=true:=QpJ hrs
 have hfit:fitT (N:Int) (L.map edE) [(a:Int),(b:Int)]=0:=by
  unfold fitT
  rw [if_pos hk,if_pos hrs]
 obtain⟨w1,hw1⟩:∃ W,(w.alloc (.cells #[.int .i64 (N:Int),.slice p L.length c] 24))=W:=⟨_,rfl⟩
 have hb1:Below w.heap.size w w1:=by rw [← hw1];exact YD.alloc YA _
 have hX1:Blk 24 w1 w.heap.size [.int .i64 (N:Int),.slice p L.length c]:=by rw [← hw1];exact heap_alloc_new w _
 have hl1:Edges w1.heap.size w1 (.slice p L.length c) (L.map edE):=hl.go hb1
 have hI1:Ints w1.heap.size w1 (.slice pb 2 cb) [(a:Int),(b:Int)]:=(hI.below hb1).mono hb1.size
 have hft:=QmF (N:Int) (L.map edE) [(a:Int),(b:Int)] (by simp) _ _ w1 hl1 hI1
 rw [hfit] at hft
 have x0:=hX1.cell (j:=0) rfl
 have x1:=hX1.cell (j:=1) rfl
 have HX1:Hid (Blk 24 w1 w.heap.size [.int .i64 (N:Int),.slice p L.length c]):=hX1
 have HB1:Hid (Below w.heap.size w w1):=hb1
 have HL1:Hid (Edges w1.heap.size w1 (.slice p L.length c) (L.map edE)):=hl1
 have HI1:Hid (Ints w1.heap.size w1 (.slice pb 2 cb) [(a:Int),(b:Int)]):=hI1
 have HH:Hid ((∀ e∈L,e.1<N∧e.2.1<N)∧(∀ e∈L,e.2.2≤2147483647)∧ConnT L b a):=⟨hE,hW,hc⟩
 have HPLC:Hid (plcB N [(a:Int),(b:Int)]=true):=hplc
 clear hX1 hb1 hl1 hI1 hl hI hE hW hc hk hrs hplc hfit
 go_enter Tryz.func31,Tryz.ntmps31
 go_wp2_with fail
 refine hft.mono ?_
 rintro e w2 ⟨rfl,hg2⟩
 clear hft hw1 x0 x1
 have hb2:=hg2.below
 have hX2:=HX1.out.go hb2
 have x0:=hX2.cell (j:=0) rfl
 have x1:=hX2.cell (j:=1) rfl
 have HX2:Hid (Blk 24 w2 w.heap.size [.int .i64 (N:Int),.slice p L.length c]):=hX2
 have HB2:Hid (Below w.heap.size w w2):=HB1.out.trans (hb2.mono HB1.out.size)
 have HL2:Hid (Edges w2.heap.size w2 (.slice p L.length c) (L.map edE)):=HL1.out.go hb2
 have HI2:Hid (Ints w2.heap.size w2 (.slice pb 2 cb) [(a:Int),(b:Int)]):=(HI1.out.below hb2).mono hb2.size
 have hld:=Qia N L hN2 hm HH.out.1 _ w2 HL2.out
 clear hX2 hb2 hg2 HX1 HB1 HL1 HI1
 go_wp2_with fail
 refine hld.mono ?_
 rintro e w3 ⟨g,R,rfl,hR,hG,hb3,hg⟩
 clear hld x0 x1
 have hX3:=HX2.out.go hb3
 have x0:=hX3.cell (j:=0) rfl
 have x1:=hX3.cell (j:=1) rfl
 have HX3:Hid (Blk 24 w3 w.heap.size [.int .i64 (N:Int),.slice p L.length c]):=hX3
 have HB3:Hid (Below w.heap.size w w3):=HB2.out.trans (hb3.mono HB2.out.size)
 have HL3:Hid (Edges w3.heap.size w3 (.slice p L.length c) (L.map edE)):=HL2.out.go hb3
 have HI3:Hid (Ints w3.heap.size w3 (.slice pb 2 cb) [(a:Int),(b:Int)]):=(HI2.out.below hb3).mono hb3.size
 have HG3:Hid (Blk 3 w3 g (natsV (leadL N R))):=hG
 have HR:Hid (LeadP L N R):=hR
 have hRN:∀ v,v<N→R v<N:=fun v hv=>Nat.lt_of_le_of_lt (hR.low v hv) hv
 have HRab:Hid (R b=R a):=(hR.iff b a hb ha).2 HH.out.2.2
 have hio:=Qmh N R [(a:Int),(b:Int)] hN2 hRN HPLC.out (by simp) g _ w3 HG3.out HI3.out
 rw [Qnh HRab.out.symm (hRN a ha)] at hio
 have HRN:Hid _:=hRN
 clear hX3 hb3 HX2 HB2 HL2 HI2 hG hR hg hRN
 go_wp2_with fail
 refine hio.mono ?_
 rintro e w4 ⟨rfl,hb4⟩
 clear hio x0 x1
 have hX4:=HX3.out.go hb4
 have x0:=hX4.cell (j:=0) rfl
 have x1:=hX4.cell (j:=1) rfl
 have HX4:Hid (Blk 24 w4 w.heap.size [.int .i64 (N:Int),.slice p L.length c]):=hX4
 have HB4:Hid (Below w.heap.size w w4):=HB3.out.trans (hb4.mono HB3.out.size)
 have HL4:Hid (Edges w4.heap.size w4 (.slice p L.length c) (L.map edE)):=HL3.out.go hb4
 have HI4:Hid (Ints w4.heap.size w4 (.slice pb 2 cb) [(a:Int),(b:Int)]):=(HI3.out.below hb4).mono hb4.size
 have HG4:Hid (Blk 3 w4 g (natsV (leadL N R))):=HG3.out.go hb4
 clear hX4 hb4 HX3 HB3 HL3 HI3 HG3
 have HBR:Hid (∀ v∈[(a:Int),(b:Int)],R v.toNat=R a):=by
  intro v hv
  simp only [List.mem_cons,List.not_mem_nil,or_false] at hv
  rcases hv with rfl | rfl
  ·rfl
  ·exact HRab.out
 obtain⟨i0,hi,hz0,hz1,hz2⟩:=info_parts Qg6
 go_wp2_with (at_make;refine wpList_make_full _ rfl _ _ 25 rfl w4.heap.size 4 i0 (.bool false) 1 Tryz.underlying25 hi hz0 hz1 .i64 .i64 _ _ L.length rfl rfl rfl rfl (by rw [hz2];omega) (by unfold maxLen;omega) YA ?_;intro w5 hown hgrow;have hb5:Below w4.heap.size w4 w5:=YD.grown hgrow YA (fun k e=>by cases e);have hrow:=Blk.made hown;rw [QaR] at hrow;have HTk5:Hid (Blk 4 w5 w4.heap.size ((List.replicate L.length false).map Value.bool)):=hrow;clear hown hgrow hrow x0 x1;have hX5:=HX4.out.go hb5;have x0:=hX5.cell (j:=0) rfl;have x1:=hX5.cell (j:=1) rfl;have HX5:Hid (Blk 24 w5 w.heap.size [.int .i64 (N:Int),.slice p L.length c]):=hX5;have HB5:Hid (Below w4.heap.size w4 w5):=hb5;clear hX5;have hsp:=Qk7 N L R (R a) [(a:Int),(b:Int)] hN2 hm HH.out.1 HRN.out HR.out.all HPLC.out HBR.out (by simp) (by simp) g (.slice p L.length c) (.slice pb 2 cb) w5 (HL4.out.go hb5) (HG4.out.go hb5) ((HI4.out.below hb5).mono hb5.size);clear hb5)
 refine hsp.mono ?_
 rintro e w6 ⟨pl,pk,cap,sE,sP,sT,rfl,hpl0,hpl,hpk,hPc,hsE,hsP,hsT,hb6⟩
 clear hsp x0 x1 hi hz0 hz1 hz2
 obtain⟨bT,cT,rfl,hbT,htc⟩:=QfM hsT (by simp [tkL])
 have ht0:w6.cell? ⟨bT,0,none⟩=some (.int .i64 (nm R (R a) a:Int)):=htc 0 _ (by simp [tkL])
 have ht1:w6.cell? ⟨bT,1,none⟩=some (.int .i64 (nm R (R a) b:Int)):=htc 1 _ (by simp [tkL])
 have hX6:=HX5.out.go hb6
 have x0:=hX6.cell (j:=0) rfl
 have x1:=hX6.cell (j:=1) rfl
 have HX6:Hid (Blk 24 w6 w.heap.size [.int .i64 (N:Int),.slice p L.length c]):=hX6
 have HB56:Hid (Below w5.heap.size w5 w6):=hb6
 have hs5:=HTk5.out.lt
 have hTk6:=HTk5.out.go hb6
 have hPl:((subP R (R a) L).map fun i:Nat=>(i:Int)).length=(subE R (R a) L).length:=by rw [List.length_map];exact (Qeh R (R a) L).1.symm
 have hsl:=(Qeh R (R a) L).2
 have hrep:(List.replicate L.length false).length=L.length:=List.length_replicate
 have hpj:=Qlu (nm R (R a) N) (subE R (R a) L) (nm R (R a) a) (nm R (R a) b) ((subP R (R a) L).map fun i:Nat=>(i:Int)) (List.replicate L.length false) (by have:=QlO R (R a) N;omega) (Qez rfl ha) (Qez HRab.out hb) (by omega) (QdT HH.out.1 HR.out.all) (QhG HH.out.2.1) (QpK (by have:=QlO R (R a) N;omega) (by omega) (QdT HH.out.1 HR.out.all) (QhG HH.out.2.1)) hPl (fun q hq=>by rw [hrep];exact Qnr q hq) sE sP pk bT cT w4.heap.size w5.heap.size w6 hPc (QeW hsE) ht0 ht1 hTk6 hsP hs5 (by omega) (fun D V hok=>QiL hN HH.out.1 HH.out.2.1 HR.out.all ha hb rfl HRab.out HH.out.2.2 hok.dist)
 rw [hrep] at hpj
 have hpl6:=hpl0
 clear hX6 hPc hsE hsP hsT hb6 htc ht0 ht1 hTk6 hPl hsl hrep hpk
 go_wp2
 go_loopw [5,38] (fun c5 i wr=>c5 = .int .i64 0∧((i = .int .i64 0∧wr=w6)∨(i = .int .i64 1∧∃ D V,Hid (OKc (subE R (R a) L) (nm R (R a) b) (nm R (R a) N) D V∧Blk 4 wr w4.heap.size ((tookT R (R a) (nm R (R a) N) L V a).map Value.bool)∧Tch w4.heap.size w6 wr)))) (fun _ i _=>1-(intOf i).toNat)
 case atStart=>exact⟨rfl,.inl ⟨rfl,rfl⟩⟩
 case round=>
  obtain⟨rfl,hrel⟩:=hrel
  rcases hrel with ⟨rfl,rfl⟩ | ⟨rfl,D,V,HF⟩
  ·go_wp2_with fail
   refine hpj.mono ?_
   rintro e w7 ⟨D,V,rfl,hok,hT7,hTc⟩
   have HF:Hid (OKc (subE R (R a) L) (nm R (R a) b) (nm R (R a) N) D V∧Blk 4 w7 w4.heap.size ((tookT R (R a) (nm R (R a) N) L V a).map Value.bool)∧Tch w4.heap.size wr w7):=by
    rw [QnE] at hT7
    exact⟨hok,hT7,hTc⟩
   clear hpj hok hT7 hTc
   go_wp2
   exact⟨⟨rfl,.inr ⟨rfl,D,V,HF⟩⟩,by simp [intOf]⟩
  ·clear hpj hpl6 hpl0 ha
   obtain⟨T,hT⟩:∃ T,tookT R (R a) (nm R (R a) N) L V a=T:=⟨_,rfl⟩
   have hlT:T.length=L.length:=by rw [← hT];exact QiE _ _ _ _ _ _
   obtain⟨d,hd1,hd2⟩:=QiL hN HH.out.1 HH.out.2.1 HR.out.all (show a<N by omega) hb rfl HRab.out HH.out.2.2 HF.out.1.dist
   have HALL:Hid (rsB (trueL T) L.length=true∧oddV N L (trueL T)=[(a:Int),(b:Int)]∧∀ D',IsD L b N D'→sumP L (trueL T)=at' D' a):=by
    obtain⟨h1,h2,h3⟩:=Qni HH.out.1 HR.out.all (show a<N by omega) hb hab rfl HRab.out HF.out.1 (by omega)
    rw [hT] at h1 h2 h3
    exact⟨h1,h2,fun D' hD'=>h3.trans (Qnq HR.out.all HRab.out rfl (show a<N by omega) hD' HF.out.1.dist)⟩
   have hTk:=HF.out.2.1
   rw [hT] at hTk
   have hb4r:Below w4.heap.size w4 wr:=HF.out.2.2.below (HB5.out.trans (HB56.out.mono HB5.out.size)) YA (by have:=HB5.out.size;have:=HB56.out.size;omega)
   have HB4r:Hid (Below w4.heap.size w4 wr):=hb4r
   have hto:=QdB T (by omega) (.slice (some ⟨w4.heap.size,0,none⟩) L.length L.length) wr (hTk.boolsT hlT)
   have HlT:Hid (T.length=L.length):=hlT
   clear HF hTk hb4r hT hd1 hd2 d hlT x0 x1
   go_wp2_with fail
   refine hto.mono ?_
   rintro e w8 ⟨lv,rfl,ho,hb8⟩
   clear hto
   have HB8:Hid (Below w4.heap.size w4 w8):=HB4r.out.trans (hb8.mono HB4r.out.size)
   have HO:Hid (w8.ownsRow wr.heap.size 3 1 lv (trueL T).length ((trueL T).map (Value.int .i64))):=ho
   obtain⟨pa,ca,rfl⟩:=Qaq ho
   have HX8:Hid (Blk 24 w8 w.heap.size [.int .i64 (N:Int),.slice p L.length c]):=HX4.out.go HB8.out
   have HPL:Hid (∀ x∈trueL T,∃ i:Nat,x=i∧i<L.length):=fun x hx=>by
    obtain⟨i,h1,h2,_⟩:=trueL_mem.1 hx
    exact⟨i,h1,by have:=HlT.out;omega⟩
   have hIl:(trueL T).length≤4194304:=by have:=Qed T T.length;have:=HlT.out;show (trueK T T.length).length≤_;omega
   have HT2:Hid (w8.ownsRow wr.heap.size 3 1 (.slice pa (trueL T).length ca) (trueL T).length ((trueL T).map (Value.int .i64))∧trueL T=trueL T):=⟨ho,rfl⟩
   clear ho hb8
   have HF2:Hid (∀ A:List Int,0≤sumP L A∧sumP L A≤((A.length*2147483647:Nat):Int)):=QiK HH.out.2.1
   obtain⟨I,hI⟩:∃ I,trueL T=I:=⟨_,rfl⟩
   have HI:Hid (trueL T=I):=hI
   rw [hI] at HALL HO HPL hIl ⊢
   clear HT2 hI
   go_wp2
   go_loopw [5,53] (fun cv i wr2=>∃ k:Nat,k≤I.length∧cv = .int .i64 (sumP L (I.take k))∧i = .int .i64 (k:Int)∧wr2=w8) (fun _ i _=>I.length-(intOf i).toNat)
   case atStart=>exact⟨0,YN,rfl,rfl,rfl⟩
   case round=>
    obtain⟨k,hk,rfl,rfl,rfl⟩:=hrel
    by_cases hlt:k<I.length
    ·have hkl:(k:Int)<(I.length:Int):=by omega
     obtain⟨gw,cw,hgw,hgb,hgc⟩:=QfM HO.out (by omega)
     simp only [Value.slice.injEq] at hgw
     obtain⟨rfl,_,rfl⟩:=hgw
     have c0:=hgc k I[k] (YB hlt)
     obtain⟨i,hi1,hi2⟩:=HPL.out I[k] (YG hlt)
     rw [hi1] at c0
     obtain⟨b',off,rfl,hb',hcap,hcc⟩:=HL4.out.eg hi2
     obtain⟨e0,e1,e2⟩:=hcc _ HB8.out i hi2
     have x1:=HX8.out.cell (j:=1) rfl
     have hi3:(i:Int)<(L.length:Int):=by omega
     have HST:Hid (sumP L (I.take (k+1))=sumP L (I.take k)+(L[i].2.2:Int)):=by
      show _=_
      rw [List.take_succ_eq_append_getElem hlt,Qef,hi1,QaH,QfH]
      unfold wP
      rw [YM,YC,YB hi2]
      simp
     obtain⟨s0,s1⟩:=HF2.out (I.take k)
     have hwl:=HH.out.2.1 L[i] (YG hi2)
     have s2:(I.take k).length*2147483647≤4194304*2147483647:=Nat.mul_le_mul_right _ (by rw [List.length_take];omega)
     have hs0:0≤sumP L (I.take k):=s0
     have hs1:sumP L (I.take k)≤9007199254740992:=by omega
     generalize L[i].2.2=wt at *
     generalize sumP L (I.take k)=S at *
     have HLT:Hid (k<I.length):=hlt
     have hwr:IntKind.i64.wrap (S+(wt:Int))=S+(wt:Int):=QaM _ (by omega) (by omega)
     clear hgc hlt hi1 hi2 hcc hb' hcap s0 s1 s2 e0 e1
     go_wp2
     refine⟨⟨k+1,HLT.out,?_,by go_num,trivial⟩,by have:=HLT.out;simp [intOf];omega⟩
     rw [HST.out]
    ·obtain rfl:k=I.length:=by omega
     go_wp2
     refine bodyPost_ret (v:=.tuple #[.slice pa I.length ca,.int .i64 (sumP L (I.take I.length)),.int .i64 0]) (by simp [results,Tryz.results31,go_sem]) rfl ?_
     refine⟨.slice pa I.length ca,T,?_,HlT.out,?_,?_,?_,?_,HB4.out.trans (HB8.out.mono HB4.out.size)⟩
     ·rw [HI.out,List.take_length]
     ·rw [HI.out]
      exact Qa2 HO.out (by have:=HB4.out.size;have:=HB4r.out.size;omega)
     ·rw [HI.out];exact HALL.out.1
     ·rw [HI.out];exact HALL.out.2.1
     ·rw [HI.out];exact HALL.out.2.2
def onlyC (R:Act→World→Prop):Exit→Act→World→Prop
 | .normal,a,w=>R a w
 | _,_,_=>False
theorem QoR {P:Program}{s:Code}{Q:Exit→Act→World→Prop}{a:Act}{w:World}(R:Act→World→Prop)(first:s.wp P (onlyC R) a w)(rest:∀ a' w',R a' w'→Q .normal a' w'):s.wp P Q a w:=by
 refine wp_mono first ?_
 intro e a' w' hq
 cases e with
 | normal=>exact rest _ _ hq
 | _=>exact hq.elim
theorem Qlz {A:World}{base:Nat}{e:TypeId}{size:Nat}{v:Value}{n:Nat}{xs:List Value}(h:A.ownsRow base e size v n xs){p:Addr}(hp:∀ q,v.ownBlock=some q→q≠p.block)(u:Value):(A.setCell p u).ownsRow base e size v n xs:=by
 refine⟨h.1,?_⟩
 rcases h.2 with h1 | ⟨g,cap,cur,rfl,h2,h3,h4⟩
 ·exact .inl h1
 ·refine .inr ⟨g,cap,cur,rfl,h2,?_,h4⟩
  rw [← h3]
  exact heap_setCell_other _ p g _ (hp g rfl)
def JoinP (W:World)(cost:Int)(e:Ending)(w':World):Prop:=∃ (lv:Value) (I:List Int),e = .returned (.tuple #[lv,.int .i64 cost,.int .i64 0])∧w'.ownsRow W.heap.size 3 1 lv I.length (I.map (Value.int .i64))∧I.Pairwise (· < ·)∧I.length≤4194304∧Below W.heap.size W w'
theorem QnS (N:Nat)(l:List Ed)(hR:RightG (N:Int) l)(r:List (List Int))(hS:SysR N l r)(hP:QdJ (numsL N l r)=0)(hn:l.any negB=false)(hw:∀ e∈l,-2147483648≤e.2.2∧e.2.2≤2147483648)(cost:Int)(hc0 : -9007199254740992≤cost)(hc1:cost≤9007199254740992)
  (hJ:∀ W gv bv,Edges W.heap.size W gv (dualL (QaJ N l r) l)→Ints W.heap.size W bv (oddK ((QaJ N l r).length:Int) (dualL (QaJ N l r) l) (iotaI l.length l.length))→Calls Tryz.prog 31 #[.agg #[.int .i64 ((QaJ N l r).length:Int),gv],bv] W fun e w'=>JoinP W cost e w')
  (sv rv:Value) (w:World) (hl:Edges w.heap.size w sv l) (hr:Lsts w.heap.size w rv r) :
  Calls Tryz.prog 16 #[.agg #[.int .i64 (N:Int),sv],rv] w fun e w'=>∃ (g:Nat) (SD:List Bool),e = .returned (.tuple #[.slice (some ⟨g,0,none⟩) N N,.int .i64 (sumC l l.length-cost),.int .i64 0])∧w.heap.size≤g∧Blk 4 w' g (SD.map Value.bool)∧SD.length=N∧bAt SD 0=false∧Below w.heap.size w w':=by
 have hmix:=mixed
 obtain⟨p,c,rfl⟩:=hl.len
 obtain⟨pr,cr,rfl⟩:=hr.len
 have hm1:=hR.m1
 obtain⟨w1,hw1⟩:∃ W,(w.alloc (.cells #[.int .i64 (N:Int),.slice p l.length c] 24))=W:=⟨_,rfl⟩
 have hb1:Below w.heap.size w w1:=by rw [← hw1];exact YD.alloc YA _
 have hX1:Blk 24 w1 w.heap.size [.int .i64 (N:Int),.slice p l.length c]:=by rw [← hw1];exact heap_alloc_new w _
 have hft:=QeR (N:Int) l (by omega) (.slice p l.length c) w1 (hl.go hb1)
 have hfc:fitC (N:Int) l=0:=by unfold fitC;rw [if_pos (right_iff.2 hR),hn];rfl
 rw [hfc] at hft
 have HX1:Hid (Blk 24 w1 w.heap.size [.int .i64 (N:Int),.slice p l.length c]):=hX1
 have HB1:Hid (Below w.heap.size w w1):=hb1
 have HL:Hid (Edges w.heap.size w (.slice p l.length c) l):=hl
 have HLr:Hid (Lsts w.heap.size w (.slice pr r.length cr) r):=hr
 have HR:Hid (RightG (N:Int) l):=hR
 have HJ:Hid _:=hJ
 have HWt:Hid _:=hw
 have x0:=hX1.cell (j:=0) rfl
 have x1:=hX1.cell (j:=1) rfl
 have hdp:=fun W h=>Qkw N l hR r hS hP (.slice p l.length c) (.slice pr r.length cr) W (hl.go h) (hr.go h)
 have HDP:Hid (∀ W,Below w.heap.size w W→_):=hdp
 clear hX1 hb1 hl hr hJ hw hfc hdp hR hS hP hn
 go_enter Tryz.func16,Tryz.ntmps16
 go_wp2_with fail
 refine hft.mono ?_
 rintro e w2 ⟨rfl,hg2⟩
 clear hft hw1 x0 x1
 have hX2:=HX1.out.go hg2.below
 have HX2:Hid (Blk 24 w2 w.heap.size [.int .i64 (N:Int),.slice p l.length c]):=hX2
 have HB2:Hid (Below w.heap.size w w2):=HB1.out.trans (hg2.below.mono HB1.out.size)
 have x0:=hX2.cell (j:=0) rfl
 have x1:=hX2.cell (j:=1) rfl
 have hdu:=HDP.out w2 HB2.out
 clear hX2 hg2 HX1 HB1 HDP
 go_wp2_with fail
 refine hdu.mono ?_
 rintro e w3 ⟨gv,rfl,hg3,hb3⟩
 clear hdu x0 x1
 obtain⟨pg,cg,rfl⟩:=hg3.len
 have HB3:Hid (Below w.heap.size w w3):=HB2.out.trans (hb3.mono HB2.out.size)
 have HX3:Hid (Blk 24 w3 w.heap.size [.int .i64 (N:Int),.slice p l.length c]):=HX2.out.go hb3
 obtain⟨DL,hDL⟩:∃ DL,dualL (QaJ N l r) l=DL:=⟨_,rfl⟩
 have HDL:Hid (DL.length=l.length):=by show _=_;rw [← hDL];exact QeX _ _
 have HJ2:Hid (∀ W gv bv,Edges W.heap.size W gv DL→Ints W.heap.size W bv (oddK ((QaJ N l r).length:Int) DL (iotaI DL.length DL.length))→Calls Tryz.prog 31 #[.agg #[.int .i64 ((QaJ N l r).length:Int),gv],bv] W fun e w'=>JoinP W cost e w'):=by
  have h:=HJ.out
  rw [hDL] at h
  rw [HDL.out]
  exact h
 rw [hDL] at hg3 ⊢
 obtain⟨F,hF⟩:∃ F,(QaJ N l r).length=F:=⟨_,rfl⟩
 rw [hF] at HJ2 ⊢
 have HG3:Hid (Edges w3.heap.size w3 (.slice pg DL.length cg) DL):=hg3
 clear hDL hF hb3 hg3 HX2 HB2 HJ
 have HN4:Hid (Blk 24 (w3.alloc (.cells #[.int .i64 (F:Int),.slice pg DL.length cg] 24)) w3.heap.size [.int .i64 (F:Int),.slice pg DL.length cg]):=heap_alloc_new w3 _
 have HB4:Hid (Below w3.heap.size w3 (w3.alloc (.cells #[.int .i64 (F:Int),.slice pg DL.length cg] 24))):=YD.alloc YA _
 go_wp2
 obtain⟨w4,hw4⟩:∃ W,w3.alloc (.cells #[.int .i64 (F:Int),.slice pg DL.length cg] 24)=W:=⟨_,rfl⟩
 rw [hw4] at HN4 HB4 ⊢
 clear hw4
 obtain⟨xd,hxd⟩:∃ n,w3.heap.size=n:=⟨_,rfl⟩
 have n0:=HN4.out.cell (j:=0) rfl
 have n1:=HN4.out.cell (j:=1) rfl
 rw [hxd] at HN4 n0 n1 ⊢
 have HG4:Hid (Edges w4.heap.size w4 (.slice pg DL.length cg) DL):=HG3.out.go HB4.out
 refine QoR (fun a' w'=>∃ (bx:Nat) (v26 v27 v28 v29 v30 v31 v32 v33 iv:Value) (I:List Int),a'={ tmps:=#[.agg #[.int .i64 (N:Int),.slice p l.length c],.slice pr r.length cr,.pointer (some ⟨w.heap.size,0,none⟩),undef,.slice none 0 0,.int .i64 0,.int .i64 0,.int .i64 0,.pointer (some ⟨xd,0,none⟩),.pointer (some ⟨bx,0,none⟩),.int .i64 cost,undef,.agg #[.int .i64 (N:Int),.slice p l.length c],.int .i64 0,.int .i64 0,.bool false,undef,.tuple #[.agg #[.int .i64 (F:Int),.slice pg DL.length cg],.int .i64 0],.agg #[.int .i64 (N:Int),.slice p l.length c],.slice pr r.length cr,.tuple #[.agg #[.int .i64 (F:Int),.slice pg DL.length cg],.int .i64 0],.agg #[.int .i64 (F:Int),.slice pg DL.length cg],.int .i64 0,.int .i64 0,.bool false,undef,v26,v27,v28,v29,v30,v31,v32,v33,undef,undef,undef,undef,undef,undef,undef,undef,undef,undef,undef],defers:=[] }∧w'.cell? ⟨bx,0,none⟩=some iv∧Ints w'.heap.size w' iv I∧I.Pairwise (· < ·)∧I.length≤4194304∧Below w4.heap.size w4 w') ?_ ?_
 ·refine Qah (S:=(fun w':World=>w'.cell? ⟨xd,0,none⟩=some (.int .i64 (F:Int))∧w'.cell? ⟨xd,1,none⟩=some (.slice pg DL.length cg))) (by kernel_rfl) ⟨n0,n1⟩ (fun hHeld=>?_)
  have hbd:Below w4.heap.size w4 w4.drew:=Qab YD 1
  refine tL 0 ?_
  try simp only [YS]
  refine tL 1 ?_
  refine Qad (rs:=[2,8]) (by kernel_rfl) (by simp) ?_
  refine AllReadyL.cons rfl (fun K hK=>?_) (AllReadyL.cons rfl (fun K hK=>?_) AllReadyL.nil)
  ·go_simp
   refine (Qex (F:Int) DL (by have:=HDL.out;omega) (.slice pg DL.length cg) w4.drew (HG4.out.go hbd)).mono ?_
   rintro e w5 ⟨bv,rfl,hbi,hbo⟩
   obtain⟨pq,cq,rfl⟩:=hbi.len
   have hbw5:Below w4.heap.size w4 w5:=hbd.trans (hbo.mono hbd.size)
   refine hK.out _ _ ⟨Qaa hbo hHeld.1,Qaa hbo hHeld.2⟩ (fun hHeld5=>?_)
   clear hK K
   try simp only [Act.put,YS,YT,YU]
   refine Qad (rs:=[3,8]) (by kernel_rfl) (by simp) ?_
   refine AllReadyL.cons rfl (fun K hK=>?_) (AllReadyL.cons rfl (fun K hK=>?_) AllReadyL.nil)
   ·go_simp
    refine (HJ2.out w5 (.slice pg DL.length cg) _ (HG4.out.go hbw5) hbi).mono ?_
    rintro e w6 ⟨lv,I,rfl,hIi,hIp,hIl,hjb⟩
    obtain⟨pl,cl,rfl⟩:=Qag hIi
    have hbw6:Below w4.heap.size w4 w6:=hbw5.trans (hjb.mono hbw5.size)
    refine hK.out _ _ ⟨Qaa hjb hHeld5.1,Qaa hjb hHeld5.2⟩ (fun hHeld6=>?_)
    clear hK K
    try simp only [Act.put,YS,YT,YU]
    refine tL 4 ?_
    try simp only [YS]
    refine tL 5 ?_
    refine tL 6 ?_
    refine tL 7 ?_
    refine Qad (rs:=[8]) (by kernel_rfl) (by simp) ?_
    refine AllReadyL.cons rfl (fun K hK=>?_) AllReadyL.nil
    go_simp
    have hba:Below w6.heap.size w6 (w6.alloc (.cells #[.slice none 0 0] 27)):=YD.alloc YA _
    have hBx:Blk 27 (w6.alloc (.cells #[.slice none 0 0] 27)) w6.heap.size [.slice none 0 0]:=heap_alloc_new w6 _
    refine hK.out _ _ ⟨Qaa hba hHeld6.1,Qaa hba hHeld6.2⟩ (fun hHeld7=>?_)
    clear hK K
    try simp only [Act.put,YS,YT,YU]
    have hbw7:Below w4.heap.size w4 (w6.alloc (.cells #[.slice none 0 0] 27)):=hbw6.trans (hba.mono hbw6.size)
    obtain⟨w7,hww7⟩:∃ W,w6.alloc (.cells #[.slice none 0 0] 27)=W:=⟨_,rfl⟩
    rw [hww7] at hba hBx hbw7 hHeld7 ⊢
    clear hww7
    obtain⟨bx,hbx⟩:∃ n,w6.heap.size=n:=⟨_,rfl⟩
    have hbx4:w4.heap.size≤bx:=by rw [← hbx];exact hbw6.size
    have HBX:Hid (w6.heap.size=bx):=hbx
    rw [hbx] at hBx ⊢
    clear hbx
    have f0:=hBx.frozen 0
    have y0:=hBx.cell (j:=0) rfl
    refine Qad (rs:=[9]) (by kernel_rfl) (by simp) ?_
    refine AllReadyL.cons rfl (fun K hK=>?_) AllReadyL.nil
    go_simp
    have hxb:bx≠xd:=by have:=HN4.out.lt;omega
    refine hK.out _ _ ⟨by rw [World.cell?_setCell_far _ _ _ _ hxb];exact hHeld7.1,by rw [World.cell?_setCell_far _ _ _ _ hxb];exact hHeld7.2⟩ (fun hHeld9=>?_)
    clear hK K
    try simp only [Act.put,YS,YT,YU]
    refine tL 10 ?_
    refine Qad (rs:=[11]) (by kernel_rfl) (by simp) ?_
    refine AllReadyL.last rfl (by kernel_rfl) (fun K hK=>?_)
    go_simp
    refine hK.out _ _ ?_
    clear hK K
    try simp only [Act.put,YS,YT,YU]
    refine Qaj (by kernel_rfl) ?_ _
    have hset:=hBx.set 0 (.slice pl I.length cl)
    exact⟨bx,_,_,_,_,_,_,_,_,_,I,rfl,hset.cell (j:=0) rfl,Qcl (Qlz (QbQ hIi hba) (p:=⟨bx,0,none⟩) (fun q hq=>by have h1:=(hIi.lt q hq).2;have h2:=HBX.out;show q≠bx;omega) _),hIp,hIl,hbw7.setCell (p:=⟨bx,0,none⟩) (by show _≤bx;omega) _⟩
   ·go_simp
    have hba:Below w5.heap.size w5 (w5.alloc (.cells #[.slice none 0 0] 27)):=YD.alloc YA _
    have hBx:Blk 27 (w5.alloc (.cells #[.slice none 0 0] 27)) w5.heap.size [.slice none 0 0]:=heap_alloc_new w5 _
    refine hK.out _ _ ⟨Qaa hba hHeld5.1,Qaa hba hHeld5.2⟩ (fun hHeld7=>?_)
    clear hK K
    try simp only [Act.put,YS,YT,YU]
    have hbw7:Below w4.heap.size w4 (w5.alloc (.cells #[.slice none 0 0] 27)):=hbw5.trans (hba.mono hbw5.size)
    obtain⟨w7,hww7⟩:∃ W,w5.alloc (.cells #[.slice none 0 0] 27)=W:=⟨_,rfl⟩
    rw [hww7] at hba hBx hbw7 hHeld7 ⊢
    clear hww7
    obtain⟨bx,hbx⟩:∃ n,w5.heap.size=n:=⟨_,rfl⟩
    have hbx4:w4.heap.size≤bx:=by rw [← hbx];exact hbw5.size
    rw [hbx] at hBx ⊢
    clear hbx
    refine Qad (rs:=[3]) (by kernel_rfl) (by simp) ?_
    refine AllReadyL.cons rfl (fun K hK=>?_) AllReadyL.nil
    go_simp
    refine (HJ2.out w7 (.slice pg DL.length cg) _ (HG4.out.go hbw7) (hbi.go hba)).mono ?_
    rintro e w8 ⟨lv,I,rfl,hIi,hIp,hIl,hjb⟩
    obtain⟨pl,cl,rfl⟩:=Qag hIi
    have hbw8:Below w4.heap.size w4 w8:=hbw7.trans (hjb.mono hbw7.size)
    refine hK.out _ _ ⟨Qaa hjb hHeld7.1,Qaa hjb hHeld7.2⟩ (fun hHeld8=>?_)
    clear hK K
    try simp only [Act.put,YS,YT,YU]
    refine tL 4 ?_
    try simp only [YS]
    refine tL 5 ?_
    refine tL 6 ?_
    refine tL 7 ?_
    have hBx8:=hBx.go hjb
    have f0:=hBx8.frozen 0
    have y0:=hBx8.cell (j:=0) rfl
    refine Qad (rs:=[9]) (by kernel_rfl) (by simp) ?_
    refine AllReadyL.cons rfl (fun K hK=>?_) AllReadyL.nil
    go_simp
    have hxb:bx≠xd:=by have:=HN4.out.lt;omega
    refine hK.out _ _ ⟨by rw [World.cell?_setCell_far _ _ _ _ hxb];exact hHeld8.1,by rw [World.cell?_setCell_far _ _ _ _ hxb];exact hHeld8.2⟩ (fun hHeld9=>?_)
    clear hK K
    try simp only [Act.put,YS,YT,YU]
    refine tL 10 ?_
    refine Qad (rs:=[11]) (by kernel_rfl) (by simp) ?_
    refine AllReadyL.last rfl (by kernel_rfl) (fun K hK=>?_)
    go_simp
    refine hK.out _ _ ?_
    clear hK K
    try simp only [Act.put,YS,YT,YU]
    refine Qaj (by kernel_rfl) ?_ _
    have hset:=hBx8.set 0 (.slice pl I.length cl)
    exact⟨bx,_,_,_,_,_,_,_,_,_,I,rfl,hset.cell (j:=0) rfl,Qcl (Qaf hIi (p:=⟨bx,0,none⟩) hBx.lt _),hIp,hIl,hbw8.setCell (p:=⟨bx,0,none⟩) (by show _≤bx;omega) _⟩
  ·go_simp
   have hba:Below w4.heap.size w4 ((w4.alloc (.cells #[.slice none 0 0] 27)).drew):=((Grew.refl w4).alloc _ |>.drewN 1).below
   have hBx:Blk 27 ((w4.alloc (.cells #[.slice none 0 0] 27)).drew) w4.heap.size [.slice none 0 0]:=heap_alloc_new w4 _
   have hlx4:w4.heap.size<((w4.alloc (.cells #[.slice none 0 0] 27)).drew).heap.size:=hBx.lt
   refine hK.out _ _ ⟨Qaa hba n0,Qaa hba n1⟩ (fun hHeld7=>?_)
   clear hK K
   try simp only [Act.put,YS,YT,YU]
   obtain⟨w7,hww7⟩:∃ W,((w4.alloc (.cells #[.slice none 0 0] 27)).drew)=W:=⟨_,rfl⟩
   rw [hww7] at hba hBx hHeld7 hlx4 ⊢
   clear hww7
   have hbw7:Below w4.heap.size w4 w7:=hba
   refine Qad (rs:=[2]) (by kernel_rfl) (by simp) ?_
   refine AllReadyL.cons rfl (fun K hK=>?_) AllReadyL.nil
   go_simp
   refine (Qex (F:Int) DL (by have:=HDL.out;omega) (.slice pg DL.length cg) w7 (HG4.out.go hbw7)).mono ?_
   rintro e w5 ⟨bv,rfl,hbi,hbo⟩
   obtain⟨pq,cq,rfl⟩:=hbi.len
   have hbw5:Below w4.heap.size w4 w5:=hbw7.trans (hbo.mono hbw7.size)
   refine hK.out _ _ ⟨Qaa hbo hHeld7.1,Qaa hbo hHeld7.2⟩ (fun hHeld5=>?_)
   clear hK K
   try simp only [Act.put,YS,YT,YU]
   refine Qad (rs:=[3]) (by kernel_rfl) (by simp) ?_
   refine AllReadyL.cons rfl (fun K hK=>?_) AllReadyL.nil
   go_simp
   refine (HJ2.out w5 (.slice pg DL.length cg) _ (HG4.out.go hbw5) hbi).mono ?_
   rintro e w8 ⟨lv,I,rfl,hIi,hIp,hIl,hjb⟩
   obtain⟨pl,cl,rfl⟩:=Qag hIi
   have hbw8:Below w4.heap.size w4 w8:=hbw5.trans (hjb.mono hbw5.size)
   refine hK.out _ _ ⟨Qaa hjb hHeld5.1,Qaa hjb hHeld5.2⟩ (fun hHeld8=>?_)
   clear hK K
   try simp only [Act.put,YS,YT,YU]
   refine tL 4 ?_
   try simp only [YS]
   refine tL 5 ?_
   refine tL 6 ?_
   refine tL 7 ?_
   have hBx8:=(hBx.go hbo).go hjb
   have f0:=hBx8.frozen 0
   have y0:=hBx8.cell (j:=0) rfl
   refine Qad (rs:=[9]) (by kernel_rfl) (by simp) ?_
   refine AllReadyL.cons rfl (fun K hK=>?_) AllReadyL.nil
   go_simp
   have hxb:w4.heap.size≠xd:=by have:=HN4.out.lt;omega
   refine hK.out _ _ ⟨by rw [World.cell?_setCell_far _ _ _ _ hxb];exact hHeld8.1,by rw [World.cell?_setCell_far _ _ _ _ hxb];exact hHeld8.2⟩ (fun hHeld9=>?_)
   clear hK K
   try simp only [Act.put,YS,YT,YU]
   refine tL 10 ?_
   refine Qad (rs:=[11]) (by kernel_rfl) (by simp) ?_
   refine AllReadyL.last rfl (by kernel_rfl) (fun K hK=>?_)
   go_simp
   refine hK.out _ _ ?_
   clear hK K
   try simp only [Act.put,YS,YT,YU]
   refine Qaj (by kernel_rfl) ?_ _
   have hset:=hBx8.set 0 (.slice pl I.length cl)
   exact⟨w4.heap.size,_,_,_,_,_,_,_,_,_,I,rfl,hset.cell (j:=0) rfl,Qcl (Qaf hIi (p:=⟨w4.heap.size,0,none⟩) (hBx.go hbo).lt _),hIp,hIl,hbw8.setCell (p:=⟨w4.heap.size,0,none⟩) (by show _≤w4.heap.size;omega) _⟩
 ·rintro a' w5 ⟨bx,v26,v27,v28,v29,v30,v31,v32,v33,iv,I,rfl,hbx,hIi,hIp,hIl,hb5⟩
  have hb5w:Below w.heap.size w w5:=HB3.out.trans ((HB4.out.trans (hb5.mono HB4.out.size)).mono HB3.out.size)
  have hX5:Blk 24 w5 w.heap.size [.int .i64 (N:Int),.slice p l.length c]:=(HX3.out.go HB4.out).go hb5
  have g0:=hX5.cell (j:=0) rfl
  have g1:=hX5.cell (j:=1) rfl
  have HB5:Hid (Below w.heap.size w w5):=hb5w
  have HBX:Hid (w5.cell? ⟨bx,0,none⟩=some iv):=hbx
  have HIi:Hid (Ints w5.heap.size w5 iv I):=hIi
  clear hb5 hb5w hX5 HX3 HB3 HN4 HB4 HG3 HG4 HJ2 n0 n1 hbx hIi HLr
  go_wp2
  refine wp_region_held_drew (S:=(fun w':World=>w'.cell? ⟨w.heap.size,0,none⟩=some (.int .i64 (N:Int))∧w'.cell? ⟨w.heap.size,1,none⟩=some (.slice p l.length c))) (by kernel_rfl) ⟨g0,g1⟩ (fun hHeld=>?_)
  try simp only [YP,YQ,YR,YS,YT,YU]
  refine tH 0 ?_
  try simp only [YS]
  refine tH 1 ?_
  refine tH 3 ?_
  refine tH 5 ?_
  refine wpAnyH_ready (rs:=[2]) (by kernel_rfl) (by simp) ?_
  refine AllReadyH.cons rfl (fun K hK=>?_) AllReadyH.nil
  go_simp
  have hbd:Below w5.heap.size w5 w5.drew:=Qab YD 1
  have hsp:=QjD N l HR.out 33 #[.pointer (some ⟨bx,0,none⟩)] (fun _ _=>by kernel_rfl) (.slice p l.length c) w5.drew (HL.out.go (HB5.out.trans (hbd.mono HB5.out.size))) (fun i _ W hW=>QkJ (i:Int) I hIp hIl iv bx W (Qaa (hbd.trans hW) HBX.out) ((HIi.out.below (hbd.trans hW)).mono (hbd.trans hW).size))
  refine hsp.mono ?_
  rintro e w6 ⟨g,SD,rfl,hg,hSD,hSl,hS0,hb6⟩
  clear hsp
  have hb56:Below w5.heap.size w5 w6:=hbd.trans hb6
  refine hK.out _ _ ⟨Qaa hb56 g0,Qaa hb56 g1⟩ (fun hHeld6=>?_)
  clear hK K hHeld g0 g1
  have HB6:Hid (Below w.heap.size w w6):=HB5.out.trans (hb56.mono HB5.out.size)
  have hgw:w.heap.size≤g:=Nat.le_trans HB5.out.size hg
  clear hb56 hb6 hbd HBX HIi hg
  try simp only [Act.put,YS,YT,YU]
  refine wpAnyH_ready (rs:=[4]) (by kernel_rfl) (by simp) ?_
  refine AllReadyH.cons rfl (fun K hK=>?_) AllReadyH.nil
  go_simp
  refine (Qgv (N:Int) l hm1 HWt.out (.slice p l.length c) w6 (HL.out.go HB6.out)).mono ?_
  rintro e w7 ⟨rfl,hb7⟩
  refine hK.out _ _ ⟨Qaa hb7 hHeld6.1,Qaa hb7 hHeld6.2⟩ (fun hHeld7=>?_)
  clear hK K hHeld6
  have hfew:=QfI HWt.out l.length YA
  have hwr:IntKind.i64.wrap (sumC l l.length-cost)=sumC l l.length-cost:=QaM _ (by omega) (by omega)
  have HB7:Hid (Below w.heap.size w w7):=HB6.out.trans (hb7.mono HB6.out.size)
  have HSD:Hid (Blk 4 w7 g (SD.map Value.bool)):=hSD.go hb7
  clear hb7 hfew hSD
  obtain⟨tot,htot⟩:∃ t,sumC l l.length=t:=⟨_,rfl⟩
  have HTOT:Hid (sumC l l.length=tot):=htot
  rw [htot] at hwr ⊢
  clear htot
  try simp only [Act.put,YS,YT,YU]
  refine tH 6 ?_
  try simp only [YS,YT,YU]
  refine tH 7 ?_
  refine tH 8 ?_
  refine tH 9 ?_
  refine wpAnyH_done (by kernel_rfl) ?_ _
  try simp only [YS,YT,YU]
  go_wp2
  try simp only [YP,YQ,YR,YS,YT,YU]
  refine bodyPost_ret (v:=.tuple #[.slice (some ⟨g,0,none⟩) N N,.int .i64 (tot-cost),.int .i64 0]) (by simp [results,Tryz.results16,go_sem]) rfl ?_
  exact⟨g,SD,by rw [HTOT.out],hgw,HSD.out,hSl,hS0,HB7.out⟩
def exW:List Ed:=[(0,1,1),(0,2,2),(1,2,3)]
def LZ:List Eg:=[(0,1,1),(1,0,2),(0,1,3)]
theorem QmK:RightG ((3:Nat):Int) exW:=right_iff.1 (by decide)
theorem Qpu:SysR 3 exW exR:=by
 refine⟨rfl,fun v hv=>?_⟩
 match v,hv with
 | 0,_=>decide
 | 1,_=>decide
 | 2,_=>decide
theorem QmM:QaJ 3 exW exR=[[(0,1),(1,2),(2,0)],[(0,2),(2,1),(1,0)]]:=by kernel_rfl
theorem Qoj:numsL 3 exW exR=[2]:=by kernel_rfl
theorem Qjm:dualL (QaJ 3 exW exR) exW=LZ.map edE:=by kernel_rfl
theorem QmL:(QaJ 3 exW exR).length=2:=by rw [QmM];rfl
theorem Qpv:oddK 2 (LZ.map edE) (iotaI 3 3)=[0,1]:=by decide
theorem Qnc:∀ e∈LZ,e.1<2∧e.2.1<2:=by decide
theorem QoQ:∀ e∈LZ,e.2.2≤2147483647:=by decide
theorem Qox:rgtW ((2:Nat):Int) (LZ.map edE)=0:=by decide
theorem QpG:ConnT LZ 1 0:=⟨[1],1,(0,1,1),by simp [LZ],.inr ⟨rfl,rfl⟩,0,rfl,rfl,rfl⟩
theorem QpF:∃ D,IsD LZ 1 2 D∧at' D 0=1:=⟨relN LZ (dist0 2 1) 2,QnA (by omega) (Qoo LZ (by omega)) Qnc QoQ,by decide⟩
theorem joinZ (W:World)(gv bv:Value)(hg:Edges W.heap.size W gv (LZ.map edE))(hb:Ints W.heap.size W bv [0,1]):Calls Tryz.prog 31 #[.agg #[.int .i64 2,gv],bv] W fun e w'=>JoinP W 1 e w':=by
 refine (Qn9 2 LZ 0 1 (by omega) (by omega) (by omega) Qox (by decide) Qnc QoQ QpG gv bv W hg hb).mono ?_
 rintro e w' ⟨lv,T,rfl,hl,ho,hr,_,hs,hbel⟩
 obtain⟨D,h1,h2⟩:=QpF
 rw [hs D h1,h2]
 have hk:=Qed T T.length
 refine⟨lv,trueL T,rfl,ho,(rs_iff.1 hr).2,?_,hbel⟩
 show (trueK T T.length).length≤_
 rw [hl] at hk ⊢
 have:LZ.length=3:=rfl
 omega
theorem QfF (w:World):Calls Tryz.prog 9 #[] w fun r w'=>r = .returned (.bool true)∧Below w.heap.size w w':=by
 have hmix:=mixed
 obtain⟨w1,hw1⟩:∃ W,w.alloc (.cells #[.int .i64 0,.int .i64 1,.int .i64 1,.int .i64 0,.int .i64 2,.int .i64 2,.int .i64 1,.int .i64 2,.int .i64 3] 50)=W:=⟨_,rfl⟩
 obtain⟨w2,hw2⟩:∃ W,w1.alloc (.cells #[.int .i64 3,.slice (some ⟨w.heap.size,0,none⟩) 3 3] 24)=W:=⟨_,rfl⟩
 obtain⟨w3,hw3⟩:∃ W,w2.alloc (.cells #[.int .i64 1,.int .i64 2] 3)=W:=⟨_,rfl⟩
 obtain⟨w4,hw4⟩:∃ W,w3.alloc (.cells #[.int .i64 2,.int .i64 0] 3)=W:=⟨_,rfl⟩
 obtain⟨w5,hw5⟩:∃ W,w4.alloc (.cells #[.int .i64 0,.int .i64 1] 3)=W:=⟨_,rfl⟩
 obtain⟨w6,hw6⟩:∃ W,w5.alloc (.cells #[.slice (some ⟨w.heap.size+1+1,0,none⟩) 2 2,.slice (some ⟨w.heap.size+1+1+1,0,none⟩) 2 2,.slice (some ⟨w.heap.size+1+1+1+1,0,none⟩) 2 2] 27)=W:=⟨_,rfl⟩
 have hs1:w1.heap.size=w.heap.size+1:=by rw [← hw1];simp
 have hs2:w2.heap.size=w.heap.size+1+1:=by rw [← hw2];simp [hs1]
 have hs3:w3.heap.size=w.heap.size+1+1+1:=by rw [← hw3];simp [hs2]
 have hs4:w4.heap.size=w.heap.size+1+1+1+1:=by rw [← hw4];simp [hs3]
 have hs5:w5.heap.size=w.heap.size+1+1+1+1+1:=by rw [← hw5];simp [hs4]
 have hb1:Below w.heap.size w w1:=by rw [← hw1];exact YD.alloc YA _
 have hb2:Below w1.heap.size w1 w2:=by rw [← hw2];exact YD.alloc YA _
 have hb3:Below w2.heap.size w2 w3:=by rw [← hw3];exact YD.alloc YA _
 have hb4:Below w3.heap.size w3 w4:=by rw [← hw4];exact YD.alloc YA _
 have hb5:Below w4.heap.size w4 w5:=by rw [← hw5];exact YD.alloc YA _
 have hb6:Below w5.heap.size w5 w6:=by rw [← hw6];exact YD.alloc YA _
 have hE1:Blk 50 w1 w.heap.size (flat exW):=by rw [← hw1];exact heap_alloc_new w _
 have hG2:Blk 24 w2 (w.heap.size+1) [.int .i64 3,.slice (some ⟨w.heap.size,0,none⟩) 3 3]:=by rw [← hs1,← hw2];exact heap_alloc_new w1 _
 have h3:Blk 3 w3 (w.heap.size+1+1) (([1,2]:List Int).map (Value.int .i64)):=by rw [← hs2,← hw3];exact heap_alloc_new w2 _
 have h4:Blk 3 w4 (w.heap.size+1+1+1) (([2,0]:List Int).map (Value.int .i64)):=by rw [← hs3,← hw4];exact heap_alloc_new w3 _
 have h5:Blk 3 w5 (w.heap.size+1+1+1+1) (([0,1]:List Int).map (Value.int .i64)):=by rw [← hs4,← hw5];exact heap_alloc_new w4 _
 have h6:Blk 27 w6 (w.heap.size+1+1+1+1+1) [.slice (some ⟨w.heap.size+1+1,0,none⟩) 2 2,.slice (some ⟨w.heap.size+1+1+1,0,none⟩) 2 2,.slice (some ⟨w.heap.size+1+1+1+1,0,none⟩) 2 2]:=by rw [← hs5,← hw6];exact heap_alloc_new w5 _
 have hb26:Below w2.heap.size w2 w6:=((hb3.trans (hb4.mono hb3.size)).trans (hb5.mono (Nat.le_trans hb3.size hb4.size))).trans (hb6.mono (Nat.le_trans (Nat.le_trans hb3.size hb4.size) hb5.size))
 have hb16:Below w1.heap.size w1 w6:=hb2.trans (hb26.mono hb2.size)
 have hE6:Edges w6.heap.size w6 (.slice (some ⟨w.heap.size,0,none⟩) 3 3) exW:=hE1.edges.go hb16
 have i1:=((h3.go hb4).go hb5).go hb6
 have i2:=(h4.go hb5).go hb6
 have i3:=h5.go hb6
 have hLs:Lsts w6.heap.size w6 (.slice (some ⟨w.heap.size+1+1+1+1+1,0,none⟩) 3 3) exR:=by
  refine .inr ⟨_,0,3,rfl,h6.lt,YA,fun j x hx=>?_⟩
  match j,hx with
  | 0,hx=>cases hx;exact⟨_,h6.cell (j:=0) rfl,i1.ints⟩
  | 1,hx=>cases hx;exact⟨_,h6.cell (j:=1) rfl,i2.ints⟩
  | 2,hx=>cases hx;exact⟨_,h6.cell (j:=2) rfl,i3.ints⟩
  | j+3,hx=>exact absurd (YE hx).1 (by simp [exR])
 have hbw6:Below w.heap.size w w6:=hb1.trans (hb16.mono hb1.size)
 have hmax:=QnS 3 exW QmK exR Qpu (by rw [Qoj];rfl) (by decide) (by decide) 1 (by omega) (by omega) (fun W gv bv h1 h2=>by
  rw [Qjm] at h1
  rw [Qjm,QmL] at h2
  rw [QmL]
  have h3:Ints W.heap.size W bv [0,1]:=by
   have e:oddK ((2:Nat):Int) (LZ.map edE) (iotaI exW.length exW.length)=[0,1]:=Qpv
   rw [e] at h2
   exact h2
  exact joinZ W gv bv h1 h3) (.slice (some ⟨w.heap.size,0,none⟩) 3 3) (.slice (some ⟨w.heap.size+1+1+1+1+1,0,none⟩) 3 3) w6 hE6 hLs
 have HB:Hid (Below w.heap.size w w6):=hbw6
 rw [show sumC exW exW.length-1=5 from by decide] at hmax
 clear hs1 hs2 hs3 hs4 hs5 hb1 hb2 hb3 hb4 hb5 hb6 hE1 hG2 h3 h4 h5 h6 hb26 hb16 hE6 i1 i2 i3 hLs hbw6
 subst hw6
 subst hw5
 subst hw4
 subst hw3
 subst hw2
 subst hw1
 go_enter Tryz.func9,Tryz.ntmps9
 go_wp2_with fail
 refine hmax.mono ?_
 rintro e w7 ⟨g,SD,rfl,hg,hSD,hSl,hS0,hb7⟩
 clear hmax
 have s0:=hSD.bcell (v:=0) (by omega)
 rw [hS0] at s0
 have HB7:Hid (Below w.heap.size w w7):=HB.out.trans (hb7.mono HB.out.size)
 clear hb7 hSD hSl hS0 HB hg
 go_wp2
 go_ret
 exact⟨rfl,HB7.out⟩
theorem Qf8 (n:Int)(l:List Ed)(sv:Value)(w:World)(hl:Edges w.heap.size w sv l):
  Calls Tryz.prog 6 #[.agg #[.int .i64 n,sv]] w fun e w'=>e = .returned (.bool true)∧Below w.heap.size w w':=by
 have hmix:=mixed
 have hg1:Grew w (w.alloc (.cells #[.int .i64 n,sv] 24)):=(Grew.refl w).alloc _
 have hl1:=hl.go hg1.below
 obtain⟨p,c,rfl⟩:=hl.len
 have hlt:=Ql8 n l 20 (by decide) (by decide) (.slice p l.length c) _ hl1
 go_enter Tryz.func6,Tryz.ntmps6
 go_wp2_with fail
 refine hlt.mono ?_
 rintro e w2 ⟨rfl,hg2⟩
 obtain⟨q0,q1⟩:=box2 _ hg2
 have HB2:Hid (Below w.heap.size w w2):=(hg1.trans hg2).below
 have HL:Hid (Edges w.heap.size w (.slice p l.length c) l):=hl
 clear hlt hl1 hg1 hg2 hl
 cases hL:Qg0 n l 20 with
 | false=>
  go_wp2_with fail
  refine (QfF w2).mono ?_
  rintro e w3 ⟨rfl,hb3⟩
  have HB3:Hid (Below w.heap.size w w3):=HB2.out.trans (hb3.mono HB2.out.size)
  clear hb3
  go_wp2
  go_ret
  exact⟨rfl,HB3.out⟩
 | true=>
  have hlight:=Qh9 hL
  obtain⟨a,k,hA,hB⟩:∃ a k:Int,(∀ W,Edges W.heap.size W (.slice p l.length c) l→Calls Tryz.prog 23 #[.agg #[.int .i64 n,.slice p l.length c]] W fun e w'=>e = .returned (.tuple #[.int .i64 a,.int .i64 k])∧Below W.heap.size W w')∧(∀ W,Edges W.heap.size W (.slice p l.length c) l→Calls Tryz.prog 24 #[.agg #[.int .i64 n,.slice p l.length c]] W fun e w'=>e = .returned (.tuple #[.int .i64 a,.int .i64 k])∧Below W.heap.size W w'):=by
   by_cases hk:fitC n l=0
   ·have hk0:rightK n l=0∧l.any negB=false:=by
     unfold fitC at hk
     by_cases h1:rightK n l=0
     ·rw [if_pos h1] at hk
      cases e:l.any negB with
      | true=>rw [e] at hk;simp at hk
      | false=>exact⟨h1,rfl⟩
     ·rw [if_neg h1] at hk
      omega
    have hR:=right_iff.1 hk0.1
    obtain⟨N,rfl⟩:∃ N:Nat,n=(N:Int):=⟨n.toNat,by have:=hR.n0;omega⟩
    refine⟨_,0,fun W h=>?_,fun W h=>QgO N l hR hk0.2 (.slice p l.length c) W h⟩
    refine (Qm5 N l hR hk0.2 (.slice p l.length c) W h).mono ?_
    rintro e w' ⟨SD,hSD,rfl,hb⟩
    have hlen:(walkW N l).block.length=l.length:=(Qcd hR).lenK
    refine⟨?_,hb⟩
    rw [QjW (q':=badB N l) (fun b hb=>by
     obtain⟨_,_,u,rfl⟩:=QbT hlen b hb
     exact Qn5 hR hSD u)]
   ·exact⟨0,fitC n l,fun W h=>Qm4 n l (by omega) hk (.slice p l.length c) W h,fun W h=>QgN n l (by omega) hk (.slice p l.length c) W h⟩
  have hA2:=hA w2 (HL.out.go HB2.out)
  have HBR:Hid _:=hB
  clear hA hB hL hlight
  go_wp2_with fail
  refine hA2.mono ?_
  rintro e w3 ⟨rfl,hb3⟩
  clear hA2
  have HB3:Hid (Below w.heap.size w w3):=HB2.out.trans (hb3.mono HB2.out.size)
  replace q0:=Qaa hb3 q0
  replace q1:=Qaa hb3 q1
  have hB3:=HBR.out w3 (HL.out.go HB3.out)
  clear hb3 HB2 HBR
  go_wp2_with fail
  refine hB3.mono ?_
  rintro e w4 ⟨rfl,hb4⟩
  clear hB3 q0 q1
  have HB4:Hid (Below w.heap.size w w4):=HB3.out.trans (hb4.mono HB3.out.size)
  have hal:=QfF w4
  clear hb4 HB3
  go_wp2_with fail
  refine hal.mono ?_
  rintro e w5 ⟨rfl,hb5⟩
  have HB5:Hid (Below w.heap.size w w5):=HB4.out.trans (hb5.mono HB4.out.size)
  clear hal hb5
  go_wp2
  go_ret
  exact⟨rfl,HB5.out⟩
end Go.Proofs.YtalflecmadacaaaGreat
