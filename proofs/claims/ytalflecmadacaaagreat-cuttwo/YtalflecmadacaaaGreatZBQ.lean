/-
  PROVED: filigreelaw15.CutTwo returns true for any arguments, and each argument reads afterwards as it read before. No condition.
-/
import Derived.Test.YtalflecmadacaaaGreatZBO
import Derived.Test.YtalflecmadacaaaGreatZAS
import Derived.Test.YtalflecmadacaaaGreatZBH
import Derived.BigQuiet
import Derived.Test.YtalflecmadacaaaGreatZBI
import Derived.Test.YtalflecmadacaaaGreatZBP
import Derived.Test.YtalflecmadacaaaGreatZBN
import Derived.Test.YtalflecmadacaaaGreatZBG
import Derived.Test.YtalflecmadacaaaGreatZAD
set_option maxRecDepth 100000
set_option maxHeartbeats 8000000
namespace Go.Proofs.YtalflecmadacaaaGreat
open Go Go.Proofs Go.RowKit
def eCnt (X:List Int)(l:List Ed):Nat:=l.countP fun e=>inB X e.1
def fCnt (X:List Int)(fs:List (List Dt)):Nat:=fs.countP fun f=>inB X (f.getD 0 (0,0)).1
theorem Ql5 {X:List Int}{l:List Ed}{k:Nat}(h:k<l.length):eCnt X (l.take (k+1))=eCnt X (l.take k)+if inB X l[k].1=true then 1 else 0:=by
 unfold eCnt
 rw [QcD h,List.countP_append,List.countP_cons,List.countP_nil]
 omega
theorem Ql0 {X:List Int}{fs:List (List Dt)}{k:Nat}(h:k<fs.length):fCnt X (fs.take (k+1))=fCnt X (fs.take k)+if inB X (fs[k].getD 0 (0,0)).1=true then 1 else 0:=by
 unfold fCnt
 rw [QcD h,List.countP_append,List.countP_cons,List.countP_nil]
 omega
def numE (X:List Int)(l:List Ed)(fs:List (List Dt)):Int:=(X.length:Int)-(eCnt X l:Int)+(fCnt X fs:Int)+if eCnt X l=0 then 1 else 0
theorem Qof {N:Nat}{l:List Ed}(hR:RightG (N:Int) l){i:Nat}(hi:i<(compC N l).length){x:Int}(hx:0≤x):inB ((compC N l).getD i []) x=decide (x.toNat∈KC N l i):=by
 have hmem:(compC N l).getD i []∈compC N l:=by rw [YC,YB hi];exact YG hi
 unfold inB KC
 congr 1
 apply propext
 rw [List.mem_map]
 constructor
 ·intro h;exact⟨x,h,rfl⟩
 ·rintro⟨y,hy,e⟩
  obtain⟨u,rfl,_⟩:=(QbT hR).mem _ hmem y hy
  have:x=(u:Int):=by omega
  rw [this];exact hy
theorem Qm0 {N:Nat}{l:List Ed}{r:List (List Int)}(hR:RightG (N:Int) l)(hS:SysR N l r){i:Nat}(hi:i<(compC N l).length):(numsL N l r).getD i 0=numE ((compC N l).getD i []) l (facesL N l r):=by
 have hD:=Qa2 hR hS
 have he:eCnt ((compC N l).getD i []) l=eK l (KC N l i):=by
  unfold eCnt eK
  refine List.countP_congr fun e he=>?_
  rw [Qof hR hi (hR.each e he).1.1]
 have hf:fCnt ((compC N l).getD i []) (facesL N l r)=(QgY (facesL N l r) (KC N l i)).length:=by
  unfold fCnt QgY
  rw [← List.countP_eq_length_filter]
  refine List.countP_congr fun f hf=>?_
  have hx:f.getD 0 (0,0)∈Qah N l:=by
   refine (hD.mem _).1 (List.mem_flatten.2 ⟨f,hf,?_⟩)
   match f,(hD.rnd f hf).1 with
   | y :: f,_=>simp
  obtain⟨u,v,e,hu,_⟩:=QbI hR hx
  rw [Qof hR hi (by rw [e];simp only;omega)]
 unfold numE
 rw [QoQ hR hS hi,(Qpz hR hS hi).2,he,hf]
theorem Qgw (N:Nat)(l:List Ed)(hR:RightG (N:Int) l)(r:List (List Int))(hS:SysR N l r)(hN:N≤1000)(hm:l.length≤4000)(sv rv:Value)(w:World)(hl:Edges w.heap.size w sv l)(hr:Lsts w.heap.size w rv r):
  Calls Tryz.prog 41 #[.agg #[.int .i64 (N:Int),sv],rv] w fun e w'=>∃ lv,e = .returned lv∧Ints w'.heap.size w' lv (numsL N l r)∧Below w.heap.size w w':=by
 obtain⟨p,c,rfl⟩:=hl.len
 have hb1:Below w.heap.size w (w.alloc (.cells #[.int .i64 (N:Int),.slice p l.length c] 24)):=YD.alloc YA _
 have hX1:Blk 24 (w.alloc (.cells #[.int .i64 (N:Int),.slice p l.length c] 24)) w.heap.size [.int .i64 (N:Int),.slice p l.length c]:=heap_alloc_new w _
 obtain⟨i0,hi,hz0,hz1,hz2⟩:=info_parts infoI
 have hcm:=Qdm N l hR _ _ (hl.go hb1)
 have q0:=hX1.cell (j:=0) rfl
 have q1:=hX1.cell (j:=1) rfl
 have HRF:Hid (∀ W,Edges W.heap.size W (.slice p l.length c) l→Lsts W.heap.size W rv r→_):=fun W h1 h2=>Qgv N l hR r hS hm (.slice p l.length c) rv W h1 h2
 have HCF:Hid ((compC N l).length≤N):=(QbT hR).few
 have HCL:Hid (∀ x∈compC N l,x.length≤N):=(QbT hR).len
 have HNA:Hid (∀ i,i<(compC N l).length→(numsL N l r).getD i 0=numE ((compC N l).getD i []) l (facesL N l r)):=fun i h=>Qm0 hR hS h
 have HFF:Hid ((facesL N l r).length≤12000):=by have:=Qhp hR r (u:=N) (v:=0) YA;rw [QeI hR] at this;unfold Hid;omega
 have HFN:Hid (∀ f∈facesL N l r,f≠[]):=fun f hf=>((Qa2 hR hS).rnd f hf).1
 have HNL:Hid ((numsL N l r).length=(compC N l).length):=Qen N l r
 have HL:Hid (Edges w.heap.size w (.slice p l.length c) l):=hl
 have HR:Hid (Lsts w.heap.size w rv r):=hr
 have HB1:Hid (Below w.heap.size w (w.alloc (.cells #[.int .i64 (N:Int),.slice p l.length c] 24))):=hb1
 have HX1:Hid (Blk 24 (w.alloc (.cells #[.int .i64 (N:Int),.slice p l.length c] 24)) w.heap.size [.int .i64 (N:Int),.slice p l.length c]):=hX1
 have hcm':Calls Tryz.prog 70 #[.agg #[.int .i64 (N:Int),.slice p l.length c]] (w.alloc (.cells #[.int .i64 (N:Int),.slice p l.length c] 24)) fun r w'=>∃ lv svs h0,r = .returned lv∧Grp h0 lv svs (compC N l) w'∧Below (w.alloc (.cells #[.int .i64 (N:Int),.slice p l.length c] 24)).heap.size (w.alloc (.cells #[.int .i64 (N:Int),.slice p l.length c] 24)) w':=hcm
 clear hb1 hX1 hl hr hR hS hcm
 have hmix:=mixed
 generalize compC N l=C at *
 generalize facesL N l r=fs at *
 generalize numsL N l r=nums at *
 go_enter Tryz.func41,Tryz.ntmps41
 go_wp2_with fail
 generalize w.alloc (.cells #[.int .i64 (N:Int),.slice p l.length c] 24)=w1 at *
 refine hcm'.mono ?_
 clear hcm'
 rintro e w2 ⟨cv,svc,h0,rfl,hG2,hb2⟩
 have hCl:=hG2.lsts
 obtain⟨pc,cc,rfl⟩:=hCl.len
 have HC2:Hid (Lsts w2.heap.size w2 (.slice pc C.length cc) C):=hCl
 have HB2:Hid (Below w.heap.size w w2):=HB1.out.trans (hb2.mono HB1.out.size)
 have HX2:Hid (Blk 24 w2 w.heap.size [.int .i64 (N:Int),.slice p l.length c]):=HX1.out.go hb2
 clear hG2 hCl hb2 q0 q1 HB1 HX1
 have q0:=HX2.out.cell (j:=0) rfl
 have q1:=HX2.out.cell (j:=1) rfl
 have hrf:=HRF.out w2 (HL.out.go HB2.out) (HR.out.go HB2.out)
 go_wp2_with fail
 refine hrf.mono ?_
 clear hrf
 rintro e w3 ⟨lb,svb,rfl,hG3,hb3⟩
 have hFl:=hG3.ldr
 obtain⟨pf,cf,rfl⟩:=hFl.len
 have HF3:Hid (LDr w3.heap.size w3 (.slice pf fs.length cf) fs):=hFl
 have HC3:Hid (Lsts w3.heap.size w3 (.slice pc C.length cc) C):=HC2.out.go hb3
 have HB3:Hid (Below w.heap.size w w3):=HB2.out.trans (hb3.mono HB2.out.size)
 have HX3:Hid (Blk 24 w3 w.heap.size [.int .i64 (N:Int),.slice p l.length c]):=HX2.out.go hb3
 clear hG3 hFl hb3 q0 q1 HB2 HX2 HC2 HRF
 have hCN:C.length≤N:=HCF.out
 go_wp2
 go_loopw [7,8] (fun ov iv wr=>∃ (i:Nat) (R:List Int),i≤C.length∧iv = .int .i64 i∧Hid (R=nums.take i)∧wr.ownsRow w3.heap.size 3 1 ov R.length (R.map (Value.int .i64))∧Below w3.heap.size w3 wr) (fun _ iv _=>C.length-(intOf iv).toNat)
 case atStart=>exact⟨0,[],YN,rfl,by unfold Hid;simp,World.ownsRow_nil _ _ _ _,YD⟩
 case round=>
  obtain⟨i,R,hiC,rfl,HRT,hown,hb⟩:=hrel
  obtain⟨ax,cx,rfl⟩:=Qaf hown
  by_cases hlt:i<C.length
  ·have hil:(i:Int)<(C.length:Int):=by omega
   have hC4:=HC3.out.go hb
   obtain⟨bc,oc,rfl,hbc,hcc,px,kx,hIx,c0⟩:=hC4.cellAt hlt
   have hXl:=HCL.out _ (YG hlt)
   have HNM:Hid (nums.getD i 0=numE C[i] l fs):=by
    have:=HNA.out i hlt
    rw [YC (l:=C),YB hlt] at this
    exact this
   have HIX:Hid (Ints wr.heap.size wr (.slice px C[i].length kx) C[i]):=hIx
   have HOW:Hid (wr.ownsRow w3.heap.size 3 1 (.slice ax R.length cx) R.length (R.map (Value.int .i64))):=hown
   have HB:Hid (Below w3.heap.size w3 wr):=hb
   have HLT:Hid (i<C.length):=hlt
   clear hIx hC4 hown hb
   generalize C[i]=X at *
   clear hlt
   generalize wr=w4 at *
   have hbcw:bc<w4.heap.size:=hbc
   go_wp2
   go_loopw [10,11] (fun ev kv wr=>∃ k:Nat,k≤l.length∧kv = .int .i64 k∧ev = .int .i64 (eCnt X (l.take k):Int)∧Below w4.heap.size w4 wr) (fun _ kv _=>l.length-(intOf kv).toNat)
   case atStart=>exact⟨0,YN,rfl,rfl,YD⟩
   case round=>
    obtain⟨k,hk,rfl,rfl,hbk⟩:=hrel
    have hbw:=HB3.out.trans ((HB.out.trans (hbk.mono HB.out.size)).mono HB3.out.size)
    have e1:=((HX3.out.go (HB.out.trans (hbk.mono HB.out.size)))).cell (j:=1) rfl
    have c1:=(hbk.cell (p:=⟨bc,oc+i,none⟩) hbcw).trans c0
    by_cases hkl:k<l.length
    ·have hkl':(k:Int)<(l.length:Int):=by omega
     obtain⟨bl,ol,rfl,hbl,hcl,hop,_⟩:=(HL.out.go hbw).open hkl
     obtain⟨d0,d1,d2⟩:=hop wr YD k hkl
     clear hop
     have hec:=Ql5 (X:=X) hkl
     have hle:eCnt X (l.take k)≤k:=by unfold eCnt;exact Nat.le_trans List.countP_le_length (by rw [List.length_take];omega)
     have hht:∀ q,Calls Tryz.prog 54 #[.slice px X.length kx,.int .i64 l[k].1] (wr.drewN q) fun r w'=>r = .returned (.bool (inB X l[k].1))∧w'=wr.drewN q:=fun q=>QfP X (by omega) _ _ _ _ (HIX.out.go (Qaa hbk q))
     have HBK:Hid (Below w4.heap.size w4 wr):=hbk
     have HKL:Hid (k<l.length):=hkl
     have HEC:Hid (eCnt X (l.take (k+1))=eCnt X (l.take k)+if inB X l[k].1=true then 1 else 0):=hec
     clear hbk hbw hec
     generalize l[k]=ed at *
     generalize eCnt X (l.take k)=ec at *
     clear hkl
     go_wp2
     go_quiet ((go_at_call 54;exact Calls.quiet_of_same (hht _)))
     have HB5:Hid (Below w4.heap.size w4 (wr.drewN nq)):=Qaa HBK.out nq
     generalize wr.drewN nq=w5 at HB5 ⊢
     clear c1 e1 hht d0 d1 d2
     cases hin:inB X ed.1 with
     | true=>
      have HE2:Hid (eCnt X (l.take (k+1))=ec+1):=by have:=HEC.out;rw [hin] at this;exact this
      clear hin HEC
      go_wp2
      exact⟨⟨k+1,HKL.out,by go_num,by rw [HE2.out];go_num,HB5.out⟩,by have:=HKL.out;simp [intOf];omega⟩
     | false=>
      have HE2:Hid (eCnt X (l.take (k+1))=ec):=by have:=HEC.out;rw [hin] at this;exact this
      clear hin HEC
      go_wp2
      exact⟨⟨k+1,HKL.out,by go_num,by rw [HE2.out],HB5.out⟩,by have:=HKL.out;simp [intOf];omega⟩
    ·have hkn:¬ (k:Int)<(l.length:Int):=by omega
     have HKE:Hid (l.take k=l):=List.take_of_length_le (by omega)
     rw [HKE.out]
     have hle:eCnt X l≤l.length:=List.countP_le_length
     have HEV:Hid (nums.getD i 0=(X.length:Int)-(eCnt X l:Int)+(fCnt X fs:Int)+if eCnt X l=0 then 1 else 0):=HNM.out
     have HBK:Hid (Below w4.heap.size w4 wr):=hbk
     clear hbk hbw hkl
     generalize eCnt X l=ec at *
     generalize wr=w6 at *
     go_wp2
     go_loopw [9,12] (fun nv kv wr=>∃ k:Nat,k≤fs.length∧kv = .int .i64 k∧nv = .int .i64 ((X.length:Int)-(ec:Int)+(fCnt X (fs.take k):Int))∧Below w6.heap.size w6 wr) (fun _ kv _=>fs.length-(intOf kv).toNat)
     case atStart=>exact⟨0,YN,rfl,by show Value.int .i64 _=Value.int .i64 _;congr 1;simp [fCnt],YD⟩
     case round=>
      clear e1 c1
      obtain⟨k,hk,rfl,rfl,hbk⟩:=hrel
      have hb46:=HBK.out.trans (hbk.mono HBK.out.size)
      have hb36:=HB.out.trans (hb46.mono HB.out.size)
      have c1:=(hb46.cell (p:=⟨bc,oc+i,none⟩) hbcw).trans c0
      by_cases hkl:k<fs.length
      ·have hkl':(k:Int)<(fs.length:Int):=by omega
       obtain⟨bl,ol,rfl,hbl,hcl,pg,cg,hDg,d0⟩:=(HF3.out.go hb36).cellAt hkl
       have hne:=List.length_pos_iff.2 (HFN.out _ (YG hkl))
       obtain⟨bg,og,rfl,hbg,hcg,g0,g1⟩:=hDg.cellAt hne
       have hec:=Ql0 (X:=X) hkl
       have hg:fs[k].getD 0 (0,0)=fs[k][0]:=by rw [YC,YB hne];rfl
       rw [hg] at hec
       have hle2:fCnt X (fs.take k)≤k:=by unfold fCnt;exact Nat.le_trans List.countP_le_length (by rw [List.length_take];omega)
       have hff:=HFF.out
       have hht:∀ q,Calls Tryz.prog 54 #[.slice px X.length kx,.int .i64 fs[k][0].1] (wr.drewN q) fun r w'=>r = .returned (.bool (inB X fs[k][0].1))∧w'=wr.drewN q:=fun q=>QfP X (by omega) _ _ _ _ (HIX.out.go (Qaa hb46 q))
       have HBK2:Hid (Below w6.heap.size w6 wr):=hbk
       have HKL:Hid (k<fs.length):=hkl
       have HEC:Hid (fCnt X (fs.take (k+1))=fCnt X (fs.take k)+if inB X fs[k][0].1=true then 1 else 0):=hec
       clear hbk hb46 hb36 hec hg hDg
       generalize fs[k][0]=dd at *
       generalize fs[k]=fk at *
       generalize fCnt X (fs.take k)=fc at *
       rw [Nat.zero_mul,Nat.add_zero] at g0
       have hfk:(0:Int)<(fk.length:Int):=by omega
       clear hkl g1 hne
       go_wp2
       go_quiet ((go_at_call 54;exact Calls.quiet_of_same (hht _)))
       have HB5:Hid (Below w6.heap.size w6 (wr.drewN nq)):=Qaa HBK2.out nq
       generalize wr.drewN nq=w5 at HB5 ⊢
       clear c1 hht d0 g0
       cases hin:inB X dd.1 with
       | true=>
        have HE2:Hid (fCnt X (fs.take (k+1))=fc+1):=by have:=HEC.out;rw [hin] at this;exact this
        clear hin HEC
        go_wp2
        exact⟨⟨k+1,HKL.out,by go_num,by rw [HE2.out];go_num,HB5.out⟩,by have:=HKL.out;simp [intOf];omega⟩
       | false=>
        have HE2:Hid (fCnt X (fs.take (k+1))=fc):=by have:=HEC.out;rw [hin] at this;exact this
        clear hin HEC
        go_wp2
        exact⟨⟨k+1,HKL.out,by go_num,by rw [HE2.out],HB5.out⟩,by have:=HKL.out;simp [intOf];omega⟩
      ·have hkn:¬ (k:Int)<(fs.length:Int):=by omega
       have HKE2:Hid (fs.take k=fs):=List.take_of_length_le (by omega)
       rw [HKE2.out]
       have hle2:fCnt X fs≤fs.length:=List.countP_le_length
       have hff:=HFF.out
       generalize fCnt X fs=fc at *
       have hown6:=Qaz HOW.out hb46
       have HB6:Hid (Below w3.heap.size w3 wr):=hb36
       have hlow:∀ q,(Value.slice ax R.length cx).ownBlock=some q→w3.heap.size≤q:=fun q hq=>(HOW.out.lt q hq).1
       have HTK:Hid (R++[nums.getD i 0]=nums.take (i+1)):=by
        have hin2:i<nums.length:=by rw [HNL.out];exact HLT.out
        unfold Hid
        rw [HRT.out,QcD hin2,YC,YB hin2]
        rfl
       have hRl:R.length≤1000:=by have:=HCF.out;have:=HLT.out;rw [HRT.out,List.length_take];omega
       clear HRT
       clear hbk hb46 hb36 c1 hkl
       by_cases hec0:ec=0
       ·subst hec0
        have HV:Hid (nums.getD i 0=(X.length:Int)+(fc:Int)+1):=by
         have:=HEV.out
         rw [if_pos rfl] at this
         unfold Hid
         omega
        have hownA:=hown6.alloc (.cells #[.int .i64 ((X.length:Int)+(fc:Int)+1)] 3)
        have hnews:=Qbc wr (.int .i64 ((X.length:Int)+(fc:Int)+1)) 3
        have hone:∀ z∈[Value.int .i64 ((X.length:Int)+(fc:Int)+1)],z.oneCell'=true:=YO
        have hbA:=HB6.out.alloc HB6.out.size (.cells #[.int .i64 ((X.length:Int)+(fc:Int)+1)] 3)
        have hbs:=hbA.size
        have hmx:R.length+1≤maxLen:=by unfold maxLen;omega
        have hby:(R.length+1)*8≤140737488355328:=by omega
        clear hown6
        go_wp2_with (at_builtin;refine wpList_append_own_at _ rfl _ _ 27 rfl w3.heap.size 3 i0 (.int .i64 0) 1 8 Tryz.underlying27 hi hz0 hz1 hz2 rfl (by decide) (.slice ax R.length cx) _ _ rfl hownA ⟨wr.heap.size,0,none⟩ 1 1 [.int .i64 ((X.length:Int)+(fc:Int)+1)] rfl rfl hnews hone hmx hby hbs ?_)
        intro v7 w7 hown7 hg7 hnil7 hat7
        obtain⟨a7,m7,k7,rfl⟩:=Qar hown7
        have HB7:Hid (Below w3.heap.size w3 w7):=hbA.grown hg7 hbs hlow
        have HO7:Hid (w7.ownsRow w3.heap.size 3 1 (.slice a7 m7 k7) (R++[((X.length:Int)+(fc:Int)+1)]).length ((R++[((X.length:Int)+(fc:Int)+1)]).map (Value.int .i64))):=by
         unfold Hid
         rw [YI,List.map_append]
         exact hown7
        clear hown7 hg7 hnil7 hat7 hownA hnews hone hbA
        go_wp2
        exact⟨⟨i+1,R++[((X.length:Int)+(fc:Int)+1)],HLT.out,by go_num,by rw [← HV.out];exact HTK.out,HO7.out,HB7.out⟩,by have:=HLT.out;simp [intOf];omega⟩
       ·have hecb:((ec:Int)==0)=false:=by rw [beq_eq_false_iff_ne];omega
        have HV:Hid (nums.getD i 0=(X.length:Int)-(ec:Int)+(fc:Int)):=by
         have:=HEV.out
         rw [if_neg hec0] at this
         unfold Hid
         omega
        clear hec0
        have hownA:=hown6.alloc (.cells #[.int .i64 ((X.length:Int)-(ec:Int)+(fc:Int))] 3)
        have hnews:=Qbc wr (.int .i64 ((X.length:Int)-(ec:Int)+(fc:Int))) 3
        have hone:∀ z∈[Value.int .i64 ((X.length:Int)-(ec:Int)+(fc:Int))],z.oneCell'=true:=YO
        have hbA:=HB6.out.alloc HB6.out.size (.cells #[.int .i64 ((X.length:Int)-(ec:Int)+(fc:Int))] 3)
        have hbs:=hbA.size
        have hmx:R.length+1≤maxLen:=by unfold maxLen;omega
        have hby:(R.length+1)*8≤140737488355328:=by omega
        clear hown6
        go_wp2_with (at_builtin;refine wpList_append_own_at _ rfl _ _ 27 rfl w3.heap.size 3 i0 (.int .i64 0) 1 8 Tryz.underlying27 hi hz0 hz1 hz2 rfl (by decide) (.slice ax R.length cx) _ _ rfl hownA ⟨wr.heap.size,0,none⟩ 1 1 [.int .i64 ((X.length:Int)-(ec:Int)+(fc:Int))] rfl rfl hnews hone hmx hby hbs ?_)
        intro v7 w7 hown7 hg7 hnil7 hat7
        obtain⟨a7,m7,k7,rfl⟩:=Qar hown7
        have HB7:Hid (Below w3.heap.size w3 w7):=hbA.grown hg7 hbs hlow
        have HO7:Hid (w7.ownsRow w3.heap.size 3 1 (.slice a7 m7 k7) (R++[((X.length:Int)-(ec:Int)+(fc:Int))]).length ((R++[((X.length:Int)-(ec:Int)+(fc:Int))]).map (Value.int .i64))):=by
         unfold Hid
         rw [YI,List.map_append]
         exact hown7
        clear hown7 hg7 hnil7 hat7 hownA hnews hone hbA
        go_wp2
        exact⟨⟨i+1,R++[((X.length:Int)-(ec:Int)+(fc:Int))],HLT.out,by go_num,by rw [← HV.out];exact HTK.out,HO7.out,HB7.out⟩,by have:=HLT.out;simp [intOf];omega⟩
  ·have hin:¬ (i:Int)<(C.length:Int):=by omega
   have HKE:Hid (nums.take i=nums):=List.take_of_length_le (by rw [HNL.out];omega)
   have HFIN:Hid (Ints wr.heap.size wr (.slice ax R.length cx) nums∧Below w.heap.size w wr):=by
    refine⟨?_,HB3.out.trans (hb.mono HB3.out.size)⟩
    have:=Qfd hown
    rw [← HKE.out,← HRT.out]
    exact this
   clear hown hb hlt hiC
   go_wp2
   go_ret
   exact⟨.slice ax R.length cx,rfl,HFIN.out.1,HFIN.out.2⟩
theorem QkY {L:List Int}{i:Nat}(hi:i<L.length)(h:L[i]≠2):Qa5 L=12:=by
 unfold Qa5
 rw [if_pos]
 rw [List.any_eq_true]
 exact⟨L[i],YG hi,by simpa using h⟩
theorem Qjp {L:List Int}(h:∀ (i:Nat) (hi:i<L.length),L[i]=2):Qa5 L=0:=by
 unfold Qa5
 rw [if_neg]
 rw [List.any_eq_true]
 rintro⟨x,hx,h2⟩
 obtain⟨i,hi,rfl⟩:=List.getElem_of_mem hx
 simp at h2
 exact h2 (h i hi)
theorem Qgu (N:Nat)(l:List Ed)(hR:RightG (N:Int) l)(r:List (List Int))(hS:SysR N l r)(hN:N≤1000)(hm:l.length≤4000)(sv rv:Value)(w:World)(hl:Edges w.heap.size w sv l)(hr:Lsts w.heap.size w rv r):
  Calls Tryz.prog 19 #[.agg #[.int .i64 (N:Int),sv],rv] w fun e w'=>e = .returned (.int .i64 (Qa5 (numsL N l r)))∧Below w.heap.size w w':=by
 have hb1:Below w.heap.size w (w.alloc (.cells #[.int .i64 (N:Int),sv] 24)):=YD.alloc YA _
 have hX1:Blk 24 (w.alloc (.cells #[.int .i64 (N:Int),sv] 24)) w.heap.size [.int .i64 (N:Int),sv]:=heap_alloc_new w _
 have q0:=hX1.cell (j:=0) rfl
 have q1:=hX1.cell (j:=1) rfl
 have hrc:=Qe3 (N:Int) l r sv rv _ (hl.go hb1) (hr.go hb1)
 rw [Qd2 hR hS] at hrc
 have HRE:Hid (∀ W,Edges W.heap.size W sv l→Lsts W.heap.size W rv r→_):=fun W h1 h2=>Qgw N l hR r hS hN hm sv rv W h1 h2
 have HL:Hid (Edges w.heap.size w sv l):=hl
 have HR:Hid (Lsts w.heap.size w rv r):=hr
 have HB1:Hid (Below w.heap.size w (w.alloc (.cells #[.int .i64 (N:Int),sv] 24))):=hb1
 have HX1:Hid (Blk 24 (w.alloc (.cells #[.int .i64 (N:Int),sv] 24)) w.heap.size [.int .i64 (N:Int),sv]):=hX1
 have HNL:Hid ((numsL N l r).length≤1000):=by have:=Qen N l r;have:=(QbT hR).few;unfold Hid;omega
 clear hb1 hX1 hl hr hR hS
 generalize numsL N l r=nums at *
 go_enter Tryz.func19,Tryz.ntmps19
 go_wp2_with fail
 generalize w.alloc (.cells #[.int .i64 (N:Int),sv] 24)=w1 at *
 refine hrc.mono ?_
 clear hrc
 rintro e w2 ⟨rfl,hb2⟩
 have HB2:Hid (Below w.heap.size w w2):=HB1.out.trans (hb2.mono HB1.out.size)
 have HX2:Hid (Blk 24 w2 w.heap.size [.int .i64 (N:Int),sv]):=HX1.out.go hb2
 clear hb2 q0 q1 HB1 HX1
 have q0:=HX2.out.cell (j:=0) rfl
 have q1:=HX2.out.cell (j:=1) rfl
 have hre:=HRE.out w2 (HL.out.go HB2.out) (HR.out.go HB2.out)
 go_wp2_with fail
 refine hre.mono ?_
 clear hre
 rintro e w3 ⟨lv,rfl,hI3,hb3⟩
 obtain⟨pn,cn,rfl⟩:=hI3.len
 have HI3:Hid (Ints w3.heap.size w3 (.slice pn nums.length cn) nums):=hI3
 have HB3:Hid (Below w.heap.size w w3):=HB2.out.trans (hb3.mono HB2.out.size)
 have hnl:=HNL.out
 clear hI3 hb3 q0 q1 HB2 HX2
 go_wp2
 go_loop [7] (fun i=>∃ j:Nat,j≤nums.length∧i = .int .i64 j∧Hid (∀ (k:Nat) (hk:k<nums.length),k<j→nums[k]=2)) (fun i=>nums.length-(intOf i).toNat)
 case atStart=>exact⟨0,YN,rfl,fun k _ h=>by omega⟩
 case round=>
  obtain⟨j,hj,rfl,HS⟩:=hrel
  by_cases hlt:j<nums.length
  ·have hjl:(j:Int)<(nums.length:Int):=by omega
   obtain⟨b,off,rfl,hbb,hcap,hc⟩:=HI3.out.open hlt
   have c0:=hc w3 YD j hlt
   by_cases he:nums[j]=2
   ·have HS2:Hid (∀ (k:Nat) (hk:k<nums.length),k<j+1→nums[k]=2):=fun k hk h=>by
     by_cases e:k=j
     ·subst e;exact he
     ·exact HS.out k hk (by omega)
    rw [he] at c0
    have HLT:Hid (j<nums.length):=hlt
    clear hc HS he hlt
    go_wp2
    exact⟨⟨j+1,HLT.out,by go_num,HS2.out⟩,by have:=HLT.out;simp [intOf];omega⟩
   ·have HE:Hid (Qa5 nums=12):=QkY hlt he
    have he':(nums[j] != 2)=true:=by simpa using he
    generalize nums[j]=x at *
    clear hc HS he hlt
    go_wp2
    go_ret
    exact⟨by rw [HE.out];rfl,HB3.out⟩
  ·have hjn:¬ (j:Int)<(nums.length:Int):=by omega
   have HE:Hid (Qa5 nums=0):=Qjp (fun k hk=>HS.out k hk (by omega))
   clear HS
   go_wp2
   go_ret
   exact⟨by rw [HE.out];rfl,HB3.out⟩
theorem Qgt (n:Int)(l:List Ed)(r:List (List Int))(hk:sysK n l r≠0)(sv rv:Value)(w:World)(hl:Edges w.heap.size w sv l)(hr:Lsts w.heap.size w rv r):
  Calls Tryz.prog 19 #[.agg #[.int .i64 n,sv],rv] w fun e w'=>e = .returned (.int .i64 (sysK n l r))∧Below w.heap.size w w':=by
 have hbA:Below w.heap.size w (w.alloc (.cells #[.int .i64 n,sv] 24)):=YD.alloc YA _
 have hX:Blk 24 (w.alloc (.cells #[.int .i64 n,sv] 24)) w.heap.size [.int .i64 n,sv]:=heap_alloc_new w _
 have q0:=hX.cell (j:=0) rfl
 have q1:=hX.cell (j:=1) rfl
 have hrc:=Qe3 n l r sv rv _ (hl.go hbA) (hr.go hbA)
 have HBA:Hid _:=hbA
 clear hX hl hr hbA
 generalize sysK n l r=k at *
 go_enter Tryz.func19,Tryz.ntmps19
 go_wp2_with fail
 generalize w.alloc (.cells #[.int .i64 n,sv] 24)=w1 at *
 refine hrc.mono ?_
 clear hrc
 rintro e w2 ⟨rfl,hb2⟩
 have HB2:Hid (Below w.heap.size w w2):=HBA.out.trans (hb2.mono HBA.out.size)
 clear hb2 q0 q1
 go_wp2
 go_ret
 exact⟨rfl,HB2.out⟩
def ntP (S:List Bool)(j:Nat):List Bool:=(List.range S.length).map fun i=>if i<j then !bAt S i else false
theorem QoR (S:List Bool)(j:Nat):(ntP S j).length=S.length:=by simp [ntP]
theorem Qm2 (S:List Bool):ntP S 0=List.replicate S.length false:=by
 apply List.ext_getElem?
 intro i
 by_cases h:i<S.length
 ·simp [ntP,h]
 ·simp [ntP,h]
theorem Qm3 {S:List Bool}{j:Nat}:(ntP S j).set j (!bAt S j)=ntP S (j+1):=by
 apply List.ext_getElem?
 intro i
 by_cases h:i<S.length
 ·rw [List.getElem?_set]
  by_cases e:j=i
  ·subst e
   simp [ntP,h]
  ·rw [if_neg e]
   by_cases hi:i<j
   ·simp [ntP,h,hi,show i<j+1 by omega]
   ·simp [ntP,h,hi,show ¬ i<j+1 by omega]
 ·rw [YL (by simp [ntP];omega),YL (by simp [ntP];omega)]
theorem Qm4 (S:List Bool):ntP S S.length=ntB S:=by
 apply List.ext_getElem?
 intro i
 by_cases h:i<S.length
 ·simp [ntP,ntB,bAt,h]
 ·simp [ntP,ntB,h]
theorem Qj1 (n:Int)(l:List Ed)(r:List (List Int))(S:List Bool)(hr1:r.length≤9223372036854775807)(sv rv bv:Value)(w:World)(hl:Edges w.heap.size w sv l)(hr:Lsts w.heap.size w rv r)(hS:Bools w.heap.size w bv S):
  Calls Tryz.prog 8 #[.agg #[.int .i64 n,sv],rv,bv] w fun e w'=>e = .returned (.bool true)∧Below w.heap.size w w':=by
 obtain⟨p,c,rfl⟩:=hl.len
 obtain⟨ps,cs,rfl⟩:=hS.len
 have hb1:Below w.heap.size w (w.alloc (.cells #[.int .i64 n,.slice p l.length c] 24)):=YD.alloc YA _
 have hX1:Blk 24 (w.alloc (.cells #[.int .i64 n,.slice p l.length c] 24)) w.heap.size [.int .i64 n,.slice p l.length c]:=heap_alloc_new w _
 have hlt:=Qjy n l r hr1 40 (by decide) (by decide) (.slice p l.length c) rv _ (hl.go hb1) (hr.go hb1)
 have q0:=hX1.cell (j:=0) rfl
 have q1:=hX1.cell (j:=1) rfl
 have HL:Hid (Edges w.heap.size w (.slice p l.length c) l):=hl
 have HR:Hid (Lsts w.heap.size w rv r):=hr
 have HS:Hid (Bools w.heap.size w (.slice ps S.length cs) S):=hS
 have HB1:Hid (Below w.heap.size w (w.alloc (.cells #[.int .i64 n,.slice p l.length c] 24))):=hb1
 have HX1:Hid (Blk 24 (w.alloc (.cells #[.int .i64 n,.slice p l.length c] 24)) w.heap.size [.int .i64 n,.slice p l.length c]):=hX1
 clear hb1 hX1 hl hr hS
 have hmix:=mixed
 go_enter Tryz.func8,Tryz.ntmps8
 go_wp2_with fail
 generalize w.alloc (.cells #[.int .i64 n,.slice p l.length c] 24)=w2 at *
 refine hlt.mono ?_
 clear hlt
 rintro e w3 ⟨bb,rfl,hbb,hb3⟩
 have HB3:Hid (Below w.heap.size w w3):=HB1.out.trans (hb3.mono HB1.out.size)
 have HX3:Hid (Blk 24 w3 w.heap.size [.int .i64 n,.slice p l.length c]):=HX1.out.go hb3
 have HBB:Hid (bb=true→Qb5 n l 40=true∧(r.length:Int)≤2*40):=hbb
 clear HB1 HX1 hb3 q0 q1 hbb
 cases bb with
 | false=>
  go_wp2_with fail
  refine (Qbf w3).mono ?_
  rintro e w4 ⟨rfl,hb4⟩
  have HB4:Hid (Below w.heap.size w w4):=HB3.out.trans (hb4.mono HB3.out.size)
  clear hb4
  go_wp2
  go_ret
  exact⟨rfl,HB4.out⟩
 | true=>
  have q0:=HX3.out.cell (j:=0) rfl
  have q1:=HX3.out.cell (j:=1) rfl
  obtain⟨k,hpl,hk0⟩:∃ k:Int,(Calls Tryz.prog 19 #[.agg #[.int .i64 n,.slice p l.length c],rv] w3 fun e w'=>e = .returned (.int .i64 k)∧Below w3.heap.size w3 w')∧(k=0→∃ N:Nat,n=(N:Int)∧RightG (N:Int) l∧SysR N l r∧Qa5 (numsL N l r)=0):=by
   by_cases hk:sysK n l r=0
   ·obtain⟨N,rfl,hR,hS⟩:=Qhj hk
    have hlm:l.length≤160:=by have:=(QbO (HBB.out rfl).1).2;omega
    have hnm:N≤40:=by have:=(QbO (HBB.out rfl).1).1;omega
    exact⟨_,Qgu N l hR r hS (by omega) (by omega) _ rv w3 (HL.out.go HB3.out) (HR.out.go HB3.out),fun h=>⟨N,rfl,hR,hS,h⟩⟩
   ·exact⟨_,Qgt n l r hk _ rv w3 (HL.out.go HB3.out) (HR.out.go HB3.out),fun h=>absurd h hk⟩
  have HK0:Hid _:=hk0
  clear hk0
  go_wp2_with fail
  refine hpl.mono ?_
  clear hpl
  rintro e w4 ⟨rfl,hb4⟩
  have HB4:Hid (Below w.heap.size w w4):=HB3.out.trans (hb4.mono HB3.out.size)
  have HX4:Hid (Blk 24 w4 w.heap.size [.int .i64 n,.slice p l.length c]):=HX3.out.go hb4
  clear q0 q1 hb4 HX3 HB3
  by_cases hk:k=0
  ·obtain⟨N,rfl,hR,hSy,hP⟩:=HK0.out hk
   subst hk
   have q0:=HX4.out.cell (j:=0) rfl
   have q1:=HX4.out.cell (j:=1) rfl
   have hlm:l.length≤160:=by have:=(QbO (HBB.out trivial).1).2;omega
   have hnm:N≤40:=by have:=(QbO (HBB.out trivial).1).1;omega
   have hfm:=Qfl hR r
   have HM:Hid (l.any negB=false→Qcw (cAt N l N) l→∀ W,Edges W.heap.size W (.slice p l.length c) l→Lsts W.heap.size W rv r→_):=fun hn h2 W h3 h4=>Qjv N l hR r hSy hP hn (by omega) h2 (.slice p l.length c) rv W h3 h4
   have HT:Hid (∀ W,Edges W.heap.size W (.slice p l.length c) l→_):=fun W h=>Qjm N l hR (.slice p l.length c) W h
   have HW8:Hid (∀ e∈l,-2147483648≤e.2.2∧e.2.2≤2147483648):=fun e he=>by
    obtain⟨⟨_,_,_,_,_,h5,h6⟩,_⟩:=hR.each e he
    omega
   have HLM:Hid (l.length≤160):=hlm
   have hng:=Qej (N:Int) l (by omega) (.slice p l.length c) w4 (HL.out.go HB4.out)
   clear hR hSy hP hfm hnm hlm HBB HK0
   go_wp2_with fail
   refine hng.mono ?_
   clear hng
   rintro e w5 ⟨rfl,hb5⟩
   have HB5:Hid (Below w.heap.size w w5):=HB4.out.trans (hb5.mono HB4.out.size)
   have HX5:Hid (Blk 24 w5 w.heap.size [.int .i64 (N:Int),.slice p l.length c]):=HX4.out.go hb5
   clear q0 q1 hb5 HX4 HB4
   cases hneg:l.any negB with
   | true=>
    go_wp2_with fail
    refine (Qbf w5).mono ?_
    rintro e w6 ⟨rfl,hb6⟩
    have HB6:Hid (Below w.heap.size w w6):=HB5.out.trans (hb6.mono HB5.out.size)
    clear hb6
    go_wp2
    go_ret
    exact⟨rfl,HB6.out⟩
   | false=>
    have HNG:Hid (l.any negB=false):=hneg
    clear hneg
    by_cases hs:(1000:Int)<(S.length:Int)
    ·go_wp2_with fail
     refine (Qbf w5).mono ?_
     rintro e w6 ⟨rfl,hb6⟩
     have HB6:Hid (Below w.heap.size w w6):=HB5.out.trans (hb6.mono HB5.out.size)
     clear hb6
     go_wp2
     go_ret
     exact⟨rfl,HB6.out⟩
    ·have hsd:decide ((1000:Int)<(S.length:Int))=false:=by simp;omega
     obtain⟨i0,hi,hz0,hz1,hz2⟩:=info_parts Qff
     go_wp2_with (at_make;refine wpList_make_full _ rfl _ _ 25 rfl w5.heap.size 4 i0 (.bool false) 1 Tryz.underlying25 hi hz0 hz1 .i64 .i64 _ _ S.length rfl rfl rfl rfl (by rw [hz2];omega) (by unfold maxLen;omega) YA ?_;intro w6 hown hgrow;have hb6:Below w5.heap.size w5 w6:=YD.grown hgrow YA (fun k e=>by cases e))
     have hrow:=Blk.made hown
     rw [QaT,← Qm2 S] at hrow
     have HT6:Hid (Blk 4 w6 w5.heap.size ((ntP S 0).map Value.bool)):=hrow
     have HB6:Hid (Below w.heap.size w w6):=HB5.out.trans (hb6.mono HB5.out.size)
     have HX6:Hid (Blk 24 w6 w.heap.size [.int .i64 (N:Int),.slice p l.length c]):=HX5.out.go hb6
     have HS6:Hid (Bools w6.heap.size w6 (.slice ps S.length cs) S):=(HS.out.below HB6.out).mono HB6.out.size
     have HS5:Hid (Bools w5.heap.size w6 (.slice ps S.length cs) S):=((HS.out.below HB5.out).mono HB5.out.size).below hb6
     have HZ:Hid (w.heap.size<w5.heap.size):=HX5.out.lt
     clear hown hgrow hrow hb6 HX5 HB5 hi hz0 hz1 hz2 HS6
     generalize w5.heap.size=g at *
     go_wp2
     go_loopw [8] (fun iv wr=>∃ j:Nat,j≤S.length∧iv = .int .i64 (j:Int)∧Hid (Blk 4 wr g ((ntP S j).map Value.bool))∧Hid (Below g w6 wr)) (fun i _=>S.length-(intOf i).toNat)
     case atStart=>exact⟨0,YN,rfl,HT6.out,YD⟩
     case round=>
      obtain⟨j,hj,rfl,HTj,HBj⟩:=hrel
      by_cases hlt:j<S.length
      ·have hjl:(j:Int)<(S.length:Int):=by omega
       obtain⟨b,off,rfl,hbb,hcap,hc⟩:=HS5.out.open hlt
       have c0:=hc _ HBj.out j hlt
       have fz:=HTj.out.frozen j
       have hex:S[j]=bAt S j:=by simp [bAt,hlt]
       have HT2:Hid _:=HTj.out.set j (.bool (!bAt S j))
       have HB2:Hid _:=HBj.out.setCell (p:=⟨g,j,none⟩) YA (.bool (!bAt S j))
       have HY:Hid _:=Qm3 (S:=S) (j:=j)
       have HLT:Hid (j<S.length):=hlt
       rw [hex] at c0
       obtain⟨z,hz⟩:∃ z,wr.cell? ⟨g,j,none⟩=some z:=⟨_,HTj.out.cell (by rw [YH,YB (by rw [QoR];exact hlt)];rfl)⟩
       clear hc HTj HBj hlt hex
       generalize bAt S j=x at *
       go_wp2
       refine⟨⟨j+1,HLT.out,by go_num,?_,HB2.out⟩,by have:=HLT.out;simp [intOf];omega⟩
       unfold Hid
       rw [← HY.out,List.map_set]
       exact HT2.out
      ·obtain rfl:j=S.length:=by omega
       have hjl:¬ (S.length:Int)<(S.length:Int):=by omega
       rw [Qm4] at HTj
       have HB7:Hid (Below w.heap.size w wr):=by
        have h:=HBj.out
        exact HB6.out.trans (h.mono (by have:=HZ.out;omega))
       have HX7:Hid (Blk 24 wr w.heap.size [.int .i64 (N:Int),.slice p l.length c]):=by
        have h:=HBj.out
        exact HX6.out.below h HZ.out
       have HTn:Hid (Bools wr.heap.size wr (.slice (some ⟨g,0,none⟩) S.length S.length) (ntB S)):=by
        have h:=HTj.out.bools
        rw [Qle] at h
        exact h
       have HSr:Hid (Bools wr.heap.size wr (.slice ps S.length cs) S):=(HS.out.below HB7.out).mono HB7.out.size
       clear HTj HBj HB6 HX6 HT6 HS5
       generalize wr=w7 at *
       have q0:=HX7.out.cell (j:=0) rfl
       have q1:=HX7.out.cell (j:=1) rfl
       have hwe:=QdW (N:Int) l S (.slice p l.length c) (.slice ps S.length cs) w7 (HL.out.go HB7.out) HSr.out
       go_wp2_with fail
       refine hwe.mono ?_
       rintro e w8 ⟨rfl,hb8⟩
       clear hwe q0 q1
       have HB8:Hid (Below w.heap.size w w8):=HB7.out.trans (hb8.mono HB7.out.size)
       have HX8:Hid (Blk 24 w8 w.heap.size [.int .i64 (N:Int),.slice p l.length c]):=HX7.out.go hb8
       have HTn8:Hid (Bools w8.heap.size w8 (.slice (some ⟨g,0,none⟩) S.length S.length) (ntB S)):=(HTn.out.below hb8).mono hb8.size
       have q0:=HX8.out.cell (j:=0) rfl
       have q1:=HX8.out.cell (j:=1) rfl
       have hwn:=QdW (N:Int) l (ntB S) (.slice p l.length c) (.slice (some ⟨g,0,none⟩) S.length S.length) w8 (HL.out.go HB8.out) HTn8.out
       rw [wC_nt,kC_nt] at hwn
       clear hb8 HX7 HB7 HTn HSr
       generalize wC (N:Int) l S=wa at *
       generalize kC (N:Int) l S=ka at *
       go_wp2_with fail
       refine hwn.mono ?_
       rintro e w9 ⟨rfl,hb9⟩
       clear hwn q0 q1
       have HB9:Hid (Below w.heap.size w w9):=HB8.out.trans (hb9.mono HB8.out.size)
       have HX9:Hid (Blk 24 w9 w.heap.size [.int .i64 (N:Int),.slice p l.length c]):=HX8.out.go hb9
       have q0:=HX9.out.cell (j:=0) rfl
       have q1:=HX9.out.cell (j:=1) rfl
       have htw:=HT.out w9 (HL.out.go HB9.out)
       clear hb9 HX8 HB8 HTn8 HT
       go_wp2_with fail
       refine htw.mono ?_
       rintro e w10 ⟨hres,hb10⟩
       clear htw q0 q1
       have HB10:Hid (Below w.heap.size w w10):=HB9.out.trans (hb10.mono HB9.out.size)
       have HX10:Hid (Blk 24 w10 w.heap.size [.int .i64 (N:Int),.slice p l.length c]):=HX9.out.go hb10
       clear hb10 HX9 HB9
       rcases hres with ⟨hno,bt,rfl,_⟩ | ⟨_,rfl⟩
       ·have q0:=HX10.out.cell (j:=0) rfl
        have q1:=HX10.out.cell (j:=1) rfl
        have hmx:=HM.out HNG.out hno w10 (HL.out.go HB10.out) (HR.out.go HB10.out)
        clear hno HM
        go_wp2_with fail
        refine hmx.mono ?_
        rintro e w11 ⟨sd,rfl,hb11⟩
        clear hmx q0 q1
        have HB11:Hid (Below w.heap.size w w11):=HB10.out.trans (hb11.mono HB10.out.size)
        have HX11:Hid (Blk 24 w11 w.heap.size [.int .i64 (N:Int),.slice p l.length c]):=HX10.out.go hb11
        clear hb11 HX10 HB10
        go_wp2
        go_loopw [18,19] (fun cv iv wr=>∃ k:Nat,k≤l.length∧cv = .int .i64 (sumC l k)∧iv = .int .i64 (k:Int)∧Grew w11 wr) (fun _ i _=>l.length-(intOf i).toNat)
        case atStart=>exact⟨0,YN,rfl,rfl,Grew.refl _⟩
        case round=>
         obtain⟨k,hk,rfl,rfl,hg⟩:=hrel
         have HBk:Hid (Below w.heap.size w wr):=HB11.out.trans (hg.below.mono HB11.out.size)
         have hX:=HX11.out.go hg.below
         have q1:=hX.cell (j:=1) rfl
         have HG:Hid (Grew w11 wr):=hg
         clear hX hg
         by_cases hlt:k<l.length
         ·have hkl:(k:Int)<(l.length:Int):=by omega
          obtain⟨b,off,rfl,hbb,hcap,hc,-⟩:=HL.out.open hlt
          obtain⟨e0,e1,e2⟩:=hc _ HBk.out k hlt
          have HST:Hid (sumC l (k+1)=sumC l k+l[k].2.2):=Qd6 hlt
          have hf:=Qfv HW8.out k hk
          have hwe:=HW8.out l[k] (YG hlt)
          have s2:(k:Int)≤160:=by have:=HLM.out;omega
          have hwr:IntKind.i64.wrap (sumC l k+l[k].2.2)=sumC l k+l[k].2.2:=QaU _ (by omega) (by omega)
          have HLT:Hid (k<l.length):=hlt
          generalize sumC l k=sm at *
          generalize l[k].2.2=wt at *
          generalize l[k].1=u at *
          generalize l[k].2.1=v at *
          clear hc hlt hf hwe
          go_wp2
          refine⟨⟨k+1,HLT.out,?_,by go_num,HG.out⟩,by have:=HLT.out;simp [intOf];omega⟩
          rw [HST.out]
         ·obtain rfl:k=l.length:=by omega
          have hkl:¬ (l.length:Int)<(l.length:Int):=by omega
          clear HG
          generalize sumC l l.length=sm at *
          generalize wr=w12 at *
          have hal:=Qbf w12
          go_wp2_with fail
          refine hal.mono ?_
          rintro e w13 ⟨rfl,hb13⟩
          have HB13:Hid (Below w.heap.size w w13):=HBk.out.trans (hb13.mono HBk.out.size)
          clear hb13 hal
          go_wp2
          go_ret
          exact⟨rfl,HB13.out⟩
       ·go_wp2_with fail
        refine (Qbf w10).mono ?_
        rintro e w11 ⟨rfl,hb11⟩
        have HB11:Hid (Below w.heap.size w w11):=HB10.out.trans (hb11.mono HB10.out.size)
        clear hb11
        go_wp2
        go_ret
        exact⟨rfl,HB11.out⟩
  ·go_wp2_with fail
   refine (Qbf w4).mono ?_
   rintro e w5 ⟨rfl,hb5⟩
   have HB5:Hid (Below w.heap.size w w5):=HB4.out.trans (hb5.mono HB4.out.size)
   clear hb5
   go_wp2
   go_ret
   exact⟨rfl,HB5.out⟩
end Go.Proofs.YtalflecmadacaaaGreat
namespace Go.Proofs.YtalflecmadacaaaGreat.cutTwo
open Go Go.ChangeShapes Go.WideShapes Go.ChangeAt Go.RowKit
theorem lifted (os:Os)(started:os.Started)(H:Type)(enc:TypeId × Value→H):
  ReturnsInHanded {} Tryz.checked os 8 .any (Rows.cutTwoSpec.pre6 enc Tryz.prog Tryz.f8 Rows.cutTwoRow.domain false) (Rows.cutTwoSpec.post enc Tryz.prog Tryz.f8 false true false false):=by
 refine returnsInHanded_of_change (C:=Tryz.checked) own started (by kernel_rfl) Tryz.func8
  (ChangeSpec.witness6 (enc:=enc) (C:=Tryz.checked) false ⟨#[],#[.agg #[.int .i64 0,.slice none 0 0],.slice none 0 0,.slice none 0 0],[]⟩ 8 (by kernel_rfl) (by kernel_rfl) (by kernel_rfl) (by kernel_rfl)) ?_
 intro W base args ds gs before hval0 hW hcnd _
 have hval:∀ (j:Nat) t v,Tryz.f8.params[j]? = some t→args[j]? = some v→Value.okWide Tryz.prog W .any base t v:=hval0
 have hW':=hW
 obtain⟨p,q,hA0,hV,rfl,hfz,hnd⟩:=hW
 have hA:DataW.TrodAll enc Tryz.prog W 0 (fun _=>true) true Tryz.f8.params.toList args.toList ds p:=hA0
 rw [Tryz.params8] at hA hval
 obtain⟨v0,vs0,d0,ds0,p0,q0,hargs,rfl,rfl,h0,r0⟩:=trodAll_cons hA
 obtain⟨v1,vs1,d1,ds1,p1,q1,rfl,rfl,rfl,h1,r1⟩:=trodAll_cons r0
 obtain⟨v2,vs2,d2,ds2,p2,q2,rfl,rfl,rfl,h2,r2⟩:=trodAll_cons r1
 obtain⟨rfl,rfl,rfl⟩:=trodAll_nil r2
 obtain rfl:args = #[v0,v1,v2]:=by cases args;simp_all
 obtain⟨rfl,rfl⟩:=trodVars_none hV
 have k0:=h0
 have lt0:∀ x∈p0,x.block<W.heap.size:=by obtain⟨m,hm⟩:=k0;exact DataW.trod_lt m _ _ _ hm
 have k1:=h1
 have lt1:∀ x∈p1,x.block<W.heap.size:=by obtain⟨m,hm⟩:=k1;exact DataW.trod_lt m _ _ _ hm
 have k2:=h2
 have lt2:∀ x∈p2,x.block<W.heap.size:=by obtain⟨m,hm⟩:=k2;exact DataW.trod_lt m _ _ _ hm
 obtain⟨n0,s0,l0,rfl,e0⟩:=Qnw (hval 0 24 v0 rfl rfl) h0
 obtain⟨l1,e1,m1,x1⟩:=QoT (hval 1 35 v1 rfl rfl) h1
 obtain⟨l2,e2⟩:=QnM (hval 2 25 v2 rfl rfl) h2
 clear hA0 hval0
 refine (Qj1 n0 l0 l1 l2 m1 _ _ _ W e0 e1 e2).mono fun e W' ⟨he,bel⟩=>?_
 subst he
 exact⟨_,rfl,_,_,_,[],_,[],hW',trodAll_mk1 (shut_bool Tryz.underlying4 _),(trodAll_cons_mk (Below.trod QhR (by kernel_rfl) (of_decide_eq_true (by kernel_rfl)) k0 bel lt0) (trodAll_cons_mk (Below.trod QhR (by kernel_rfl) (of_decide_eq_true (by kernel_rfl)) k1 bel lt1) (trodAll_cons_mk (Below.trod QhR (by kernel_rfl) (of_decide_eq_true (by kernel_rfl)) k2 bel lt2) trodAll_mk0))),rfl,bel.frame _,fun h=>by cases h⟩
end Go.Proofs.YtalflecmadacaaaGreat.cutTwo
namespace Go.Proofs.YtalflecmadacaaaGreat
open Go
theorem cutTwo_holds:Rows.CutTwoSaid:=
 OpenClaim.holds_of_wide 8 Tryz.f8 rfl rfl rfl rfl rfl rfl rfl ⟨rfl,rfl,rfl,rfl,rfl⟩ rfl rfl rfl rfl rfl (by kernel_rfl) Tryz.func8 (by kernel_rfl)
  (of_decide_eq_true (by kernel_rfl)) (by unfold Func.isWrapper;first | (rw [if_pos (by decide +kernel)];kernel_rfl) | (rw [if_neg (by decide +kernel)];exact⟨rfl,rfl⟩))
  (fun os started H enc _=>cutTwo.lifted os started H enc)
#print axioms cutTwo_holds
end Go.Proofs.YtalflecmadacaaaGreat
