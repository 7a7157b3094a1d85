import Derived.WalkMore
import Derived.Test.YtalflecmadacaaaGreatZAL
import Derived.Test.YtalflecmadacaaaGreatZAA
import Derived.Test.YtalflecmadacaaaGreatZAD
set_option maxRecDepth 100000
set_option maxHeartbeats 8000000
namespace Go.Proofs.YtalflecmadacaaaGreat
open Go Go.Proofs Go.RowKit
theorem QdK (N:Nat)(l:List Ed)(hR:RightG (N:Int) l)(r:List (List Int))(hS:SysR N l r)(f:Nat)(cb:Array Value)(eg:∀ args w,(callFunc f args).run Tryz.prog w = .ok (.enter f args) w)(I:List (List Dt)→List Nat→World→Prop)(sv rv:Value)(w:World)(hl:Edges w.heap.size w sv l)(hr:Lsts w.heap.size w rv r)
  (hI0:I [] [] w) (hI:∀ fs bs A B,I fs bs A→StillR w.heap.size bs A B→I fs bs B) (hT:Tells w.heap.size f cb (keysR r N) I) :
  Calls Tryz.prog 105 #[.agg #[.int .i64 (N:Int),sv],rv,.func (.func f) #[] cb] w fun e w'=>e = .returned (.tuple #[])∧∃ bs,I (Qae (nxD r) (2*l.length+1) (Qah N l) (Qah N l).length).1 bs w':=by
 obtain⟨p,c,rfl⟩:=hl.len
 obtain⟨pr,cr,rfl⟩:=hr.len
 have hg1:Grew w (w.alloc (.cells #[.int .i64 (N:Int),.slice p l.length c] 24)):=(Grew.refl w).alloc _
 have hX1:Blk 24 (w.alloc (.cells #[.int .i64 (N:Int),.slice p l.length c] 24)) w.heap.size [.int .i64 (N:Int),.slice p l.length c]:=heap_alloc_new w _
 obtain⟨i0,hi,hz0,hz1,hz2⟩:=info_parts QiJ
 have hn1:=hR.n1
 have hm1:=hR.m1
 have q0:=hX1.cell (j:=0) rfl
 have q1:=hX1.cell (j:=1) rfl
 have hs1:(w.alloc (.cells #[.int .i64 (N:Int),.slice p l.length c] 24)).heap.size=w.heap.size+1:=by simp
 have hin:∀ x∈r,x.length≤4194304∧x.Nodup:=fun x hx=>by
  obtain⟨v,hv,rfl⟩:=List.getElem_of_mem hx
  have hvN:v<N:=by rw [← hS.len];exact hv
  have e:r.getD v []=r[v]:=by rw [YC,YB hv];rfl
  have h1:=hS.perm v hvN
  have h2:=hS.nodup hR hvN
  rw [e] at h1 h2
  refine⟨?_,h2⟩
  rw [h1.length_eq]
  exact Nat.le_trans (QaO _ _) hm1
 have hbe:=QeV r (by rw [hS.len];omega) hin (2*l.length) _ _ (hr.go hg1.below)
 have hrl:=hS.len
 rw [hrl,QiY hS hR YA,hs1] at hbe
 have e2:((2*l.length:Nat):Int)=2*(l.length:Int):=by omega
 rw [e2] at hbe
 rw [hrl]
 clear e2
 go_enter Tryz.func105,Tryz.ntmps105
 go_wp2
 go_step3
 go_wp2_with fail
 refine hbe.mono ?_
 clear hbe
 rintro e w2 ⟨rfl,hM2,hb2⟩
 have hX2:=hX1.below hb2 (by omega)
 have hbw2:Below w.heap.size w w2:=hg1.below.trans (hb2.mono (by omega))
 have x0:=hX2.cell (j:=0) rfl
 have x1:=hX2.cell (j:=1) rfl
 have hda:=Qma N l hR _ _ (hl.go hbw2)
 clear q0 q1 hX1 hg1 hb2 hs1
 go_wp2_with fail
 refine hda.mono ?_
 clear hda
 rintro e w3 ⟨dv,rfl,hD3,hb3⟩
 have hM3:MapD w3 (w.heap.size+1) (leftE (nxD r) (keysR r N)):=hM2.keep (hb3.block _ hM2.lt)
 have hm2:=hM2.lt
 have hb30:=hb3.size
 have hbw3:=hbw2.trans (hb3.mono hbw2.size)
 obtain⟨pd,cd,rfl⟩:=Qaf hD3
 clear hX2 x0 x1 hM2 hb3 hbw2
 go_wp2
 go_step3
 go_wp2
 have HP:Hid (PermS (nxD r) (keysR r N)):=Qfs hS hR
 have HDS:Hid (∀ d∈Qah N l,d∈keysR r N):=fun d h=>(QaM hS hR).2 h
 have HZ:Hid (((0:Int),(0:Int))∉keysR r N):=fun h=>Qmb hR ((QaM hS hR).1 h)
 have hSl:(keysR r N).length=2*l.length:=by rw [Qc1 hS YA,QbR fun e he=>(hR.each e he).1]
 have hsl:=Qci hm1 N
 have hGo:Going (nxD r) (keysR r N) (Qah N l) (2*l.length+1) (keysR r N) [] (0,0) 0:=Going.start (Qcq hS hR) (0,0) (Qah N l) (2*l.length+1)
 obtain⟨h0,hh0⟩:∃ h0,h0=w.heap.size:=⟨_,rfl⟩
 obtain⟨bd,hbd⟩:∃ bd,bd=w3.heap.size:=⟨_,rfl⟩
 have hLay:LayR h0 (bd+1) (h0+1) bd (.slice pd (Qah N l).length cd):=by
  refine⟨by omega,by omega,by have:=hbw3.size;omega,by omega,by omega,fun q hq=>?_⟩
  obtain⟨a1,a2⟩:=Qaw hD3 hq
  exact⟨by omega,by omega,by omega⟩
 have hbA:Below w3.heap.size w3 (w3.alloc (.cells #[.int .i64 0,.int .i64 0] 91)):=YD.alloc YA _
 have hRI0:RI (nxD r) (keysR r N) (Qah N l) (2*l.length+1) h0 (bd+1) (h0+1) bd (.slice pd (Qah N l).length cd) I (.slice none 0 0) 0 (w3.alloc (.cells #[.int .i64 0,.int .i64 0] 91)) (keysR r N) [] (0,0) 0 []:=by
  refine⟨hGo,.inl ⟨rfl,rfl,rfl,rfl⟩,?_,?_,?_,World.ownsRow_nil _ _ _ _,(fun q hq=>by simp [Value.ownBlock] at hq),(fun q hq=>by simp at hq),?_,(by rw [hbd];simp)⟩
  ·rw [hh0];exact hM3.keep (hbA.block _ (by omega))
  ·rw [hbd];exact heap_alloc_new w3 _
  ·exact QaH (Qaz hD3 hbA) (by have:=hbw3.size;omega)
  ·refine hI _ _ _ _ hI0 ?_
   have h1:=hbw3.trans (hbA.mono hbw3.size)
   exact⟨h1.os,h1.tape,h1.output,h1.size,fun q hq _=>h1.block q hq⟩
 rw [← hh0] at hI hT ⊢
 rw [← hbd] at ⊢
 have hh2:h0≤bd+1:=by have:=hbw3.size;omega
 clear hM3 hD3 hGo hbA hI0 hbw3 hm2 hb30
 generalize w3.alloc (.cells #[.int .i64 0,.int .i64 0] 91)=w5 at hRI0 ⊢
 obtain⟨S,HSS⟩:∃ S,Hid (keysR r N=S):=⟨_,rfl⟩
 obtain⟨st,HST⟩:∃ st,Hid (Qah N l=st):=⟨_,rfl⟩
 obtain⟨nx,HNX⟩:∃ nx,Hid (nxD r=nx):=⟨_,rfl⟩
 rw [HSS.out] at HP HDS HZ hSl hRI0 hT
 rw [HST.out] at HDS hsl hLay hRI0 ⊢
 rw [HNX.out] at HP hRI0
 have HI:Hid _:=hI
 have HT:Hid _:=hT
 have HLay:Hid _:=hLay
 have HR0:Hid _:=hRI0
 clear hI hT hLay hRI0 hl hr hin hR hS hh0 hbd
 go_loopg [8,10] (S.length+st.length) (fun k fv bv wr=>∃ (begun:Nat) (left face:List Dt) (d:Dt) (j:Nat) (bs:List Nat),bv = .int .i64 (begun:Int)∧Hid (RI nx S st (2*l.length+1) h0 (bd+1) (h0+1) bd (.slice pd st.length cd) I fv begun wr left face d j bs)∧begun≤st.length∧left.length+(st.length-begun)≤k)
 case atStart=>exact⟨0,S,[],(0,0),0,[],rfl,HR0.out,YN,by omega⟩
 case round=>
  obtain⟨begun,left,face,d,j,bs,rfl,HRI,hbl,hms⟩:=hrel
  obtain⟨pf,cf,rfl⟩:=Qaf HRI.out.fc
  have c0:=HRI.out.dc.cell (j:=0) rfl
  have c1:=HRI.out.dc.cell (j:=1) rfl
  have hlk:=HRI.out.map.lookup d
  rw [Qlv] at hlk
  by_cases hd:d∈left
  ·rw [if_pos hd] at hlk
   have hlk':(Instr.lookup 148 (.map (some (h0+1))) (.agg #[.int .i64 d.1,.int .i64 d.2]) true).run Tryz.prog wr = .ok (.tuple #[.agg #[.int .i64 (nx d).1,.int .i64 (nx d).2],.bool true]) wr:=hlk
   have Hd:Hid _:=hd
   have hpos:=List.length_pos_of_mem hd
   clear hlk hd
   have hbdl:bd<wr.heap.size:=HRI.out.dc.lt
   have hbdm:bd≠h0+1:=HLay.out.ne.symm
   have hbA:Below wr.heap.size wr (wr.alloc (.cells #[.int .i64 (nx d).1,.int .i64 (nx d).2] 91)):=YD.alloc YA _
   have hM1:MapD (wr.alloc (.cells #[.int .i64 (nx d).1,.int .i64 (nx d).2] 91)) (h0+1) (leftE nx left):=HRI.out.map.keep (hbA.block _ HRI.out.map.lt)
   have hB1:Blk 91 (wr.alloc (.cells #[.int .i64 (nx d).1,.int .i64 (nx d).2] 91)) wr.heap.size [.int .i64 (nx d).1,.int .i64 (nx d).2]:=heap_alloc_new wr _
   have hD1:=HRI.out.dc.go hbA
   have hF1:=Qaz HRI.out.fc hbA
   have hml:=HRI.out.map.lt
   have HbA:Hid _:=hbA
   go_wp2_with (at_delete;refine Qhb _ rfl _ _ rfl (h0+1) (leftE nx left) d rfl hM1 rfl ?_)
   intro w6 hM6 hg6
   rw [Ql4] at hM6
   have hD6:=hD1.grown hg6 (by simp;omega)
   have hB6:=hB1.grown hg6 (by simp;omega)
   have hF6:w6.ownsRow (bd+1) 91 2 (.slice pf face.length cf) face.length (flatD face):=Qal hF1 hg6 (by
    rcases Qk6 (.slice pf face.length cf) with h1 | h1
    ·exact .inl h1
    ·refine .inr fun e=>?_
     have:=(Qaw hF1 e).1
     have:=HLay.out.m2
     omega)
   have d0:=hD6.cell (j:=0) rfl
   have d1:=hD6.cell (j:=1) rfl
   have hbd6:bd<w6.heap.size:=hD6.lt
   have hbh6:wr.heap.size<w6.heap.size:=hB6.lt
   clear hM1 hB1 hD1 hF1 c0 c1 hlk' hbA
   have hfl:face.length≤8388608:=by have:=HRI.out.go.len;omega
   have hmx:face.length+1≤maxLen:=by unfold maxLen;omega
   have hby:(face.length+1)*16≤140737488355328:=by omega
   have hnews:=newsD (w:=w6) (t:=91) d
   have hone:=oneD d
   have hownA:=hF6.alloc (.cells #[.int .i64 d.1,.int .i64 d.2] 91)
   have hbs:bd+1≤(w6.alloc (.cells #[.int .i64 d.1,.int .i64 d.2] 91)).heap.size:=by simp;omega
   go_wp2_with (at_builtin;refine wpList_append_own_at _ rfl _ _ 92 rfl (bd+1) 91 i0 (.agg #[.int .i64 0,.int .i64 0]) 2 16 Tryz.underlying92 hi hz0 hz1 hz2 rfl (by decide) (.slice pf face.length cf) _ _ rfl hownA ⟨w6.heap.size,0,none⟩ 1 1 (encDc d) rfl rfl hnews hone hmx hby hbs ?_)
   intro v7 w7 hown7 hg7 hnil7 hat7
   obtain⟨a7,m7,k7,rfl⟩:=Qar hown7
   have hbA6:w6.grownBy (w6.alloc (.cells #[.int .i64 d.1,.int .i64 d.2] 91)) (Value.slice pf face.length cf).ownBlock:=World.grownBy_alloc _ _ _
   have hg67:=hbA6.trans hg7
   have hnb:∀ q,q<bd+1→some q≠(Value.slice pf face.length cf).ownBlock:=fun q hq e=>by
    have:=(Qaw hF6 e.symm).1
    omega
   have hM7:MapD w7 (h0+1) (leftE nx (left.erase d)):=hM6.keep (hg67.block _ hM6.lt (hnb _ HLay.out.m2))
   have hD7:=hD6.grown hg67 (hnb _ (by omega))
   have hB7:=hB6.grown hg67 (fun e=>by
    have:=(Qaw HRI.out.fc e.symm).2
    omega)
   have b0:=hB7.cell (j:=0) rfl
   have b1:=hB7.cell (j:=1) rfl
   have f0:=hD7.frozen 0
   have f1:=(hD7.set 0 (.int .i64 (nx d).1)).frozen 1
   have g0:=hD7.cell (j:=0) rfl
   have g1:=(hD7.set 0 (.int .i64 (nx d).1)).cell (j:=1) rfl
   have hD8:=(hD7.set 0 (.int .i64 (nx d).1)).set 1 (.int .i64 (nx d).2)
   have HC:Hid (Chg (XR (h0+1) bd (.slice pf face.length cf)) wr ((w7.setCell ⟨bd,0,none⟩ (.int .i64 (nx d).1)).setCell ⟨bd,1,none⟩ (.int .i64 (nx d).2))):=by
    refine ((((Chg.of_below HbA.out).trans (Chg.of_grown hg6 fun q e=>?_)).trans (Chg.of_grown hg67 fun q e=>?_)).trans (Chg.of_set (p:=⟨bd,0,none⟩) ?_ _)).trans (Chg.of_set (p:=⟨bd,1,none⟩) ?_ _)
    ·exact .inl (Option.some.inj e).symm
    ·exact .inr (.inr e)
    ·exact .inr (.inl rfl)
    ·exact .inr (.inl rfl)
   have hbn:bd≠wr.heap.size:=by omega
   have HM8:Hid (MapD ((w7.setCell ⟨bd,0,none⟩ (.int .i64 (nx d).1)).setCell ⟨bd,1,none⟩ (.int .i64 (nx d).2)) (h0+1) (leftE nx (left.erase d))):=hM7.keep ((Below.heap_setCell _ _ _ _ (by simp;omega)).trans (Below.heap_setCell _ _ _ _ (by simp;omega)))
   have HF8:Hid (((w7.setCell ⟨bd,0,none⟩ (.int .i64 (nx d).1)).setCell ⟨bd,1,none⟩ (.int .i64 (nx d).2)).ownsRow (bd+1) 91 2 (.slice a7 m7 k7) (face++[d]).length (flatD (face++[d]))):=by
    rw [Hid,YI,Qdu]
    exact Qag (Qag hown7 (by simp) _) (by simp) _
   have HV:Hid ((Value.slice a7 m7 k7).ownBlock=(Value.slice pf face.length cf).ownBlock∨∃ q,(Value.slice a7 m7 k7).ownBlock=some q∧wr.heap.size≤q):=by
    rcases hat7 with h1 | h1
    ·exact .inl h1
    ·exact .inr ⟨_,h1,by omega⟩
   have HD8:Hid _:=hD8
   clear hown7 hg7 hnil7 hat7 hownA hnews hone hmx hby hbs hM6 hM7 hD6 hD7 hB6 hB7 hF6 hg6 hg67 hnb hbA6 hD8 d0 d1
   go_wp2
   go_roundg (gk-1)
   case measure=>omega
   case rel=>
    have h:=HRI.out
    have hd:=Hd.out
    have hdS:d∈S:=(h.go.all d).2 (.inl hd)
    have hph:begun=j+1∧j<st.length∧(face=[]→d=st.getD j (0,0)):=by
     rcases h.ph with ⟨_,_,_,e⟩ | ⟨e1,e2,_,e3⟩
     ·rw [e] at hdS
      exact absurd hdS HZ.out
     ·exact⟨e1,e2,e3⟩
    refine⟨begun,left.erase d,face++[d],nx d,j,bs,rfl,h.turn HI.out HLay.out HC.out (h.go.take hd hph.2.2) (.inr ⟨hph.1,hph.2.1,HP.out.mem d hdS,fun e=>by simp at e⟩) HM8.out HD8.out HF8.out HV.out,hbl,?_⟩
    rw [List.length_erase_of_mem hd]
    omega
  ·rw [if_neg hd] at hlk
   have hlk':(Instr.lookup 148 (.map (some (h0+1))) (.agg #[.int .i64 d.1,.int .i64 d.2]) true).run Tryz.prog wr = .ok (.tuple #[.agg #[.int .i64 0,.int .i64 0],.bool false]) wr:=hlk
   have hbA:Below wr.heap.size wr (wr.alloc (.cells #[.int .i64 0,.int .i64 0] 91)):=YD.alloc YA _
   clear hlk
   by_cases hf:face=[]
   ·subst hf
    have HDN:Hid _:=HRI.out.none HI.out HLay.out hd hbA
    have hbdl:bd<wr.heap.size:=HRI.out.dc.lt
    have f0:=HRI.out.dc.frozen 0
    have f1:=HRI.out.dc.frozen 1
    by_cases hbe:begun=st.length
    ·have hbe':((begun:Int)==(st.length:Int))=true:=by rw [beq_iff_eq];omega
     have HFIN:Hid (I (Qae nx (2*l.length+1) st st.length).1 bs (wr.alloc (.cells #[.int .i64 0,.int .i64 0] 91))):=by rw [Hid,← hbe];exact HDN.out.inv
     clear hbe hd hbA HRI HDN
     go_wp2
     simp only [Exit.noGoto]
     refine bodyPost_end (results_none rfl _ _ _) rfl ?_
     exact⟨rfl,bs,by rw [HNX.out,HST.out];exact HFIN.out⟩
    ·have hbe':((begun:Int)==(st.length:Int))=false:=by rw [beq_eq_false_iff_ne];omega
     have hblt:begun<st.length:=by omega
     have hbl':(begun:Int)<(st.length:Int):=by omega
     obtain⟨sb,so,hps,hsb,hsc,s0,s1⟩:=(Drts.of_owns HRI.out.st).cellAt hblt
     have HGD:Hid (st[begun]=st.getD begun (0,0)):=by rw [Hid,YC,YB hblt];rfl
     have HDM:Hid (st[begun]∈S):=HDS.out _ (YG hblt)
     generalize st[begun]=d2 at *
     have hnxt:=HDN.out.next HI.out HLay.out hblt HGD.out HDM.out
     rw [World.setCell_alloc_past (hn:=hbdl),World.setCell_alloc_past (hn:=by simp;exact hbdl)] at hnxt
     have HNXT:Hid _:=hnxt
     clear hnxt
     have hsbd:sb≠bd:=(HLay.out.st sb (by rw [hps];rfl)).2.2
     clear hbe hd hbA HRI HDN
     subst hps
     go_wp2
     go_roundg (gk-1)
     case measure=>omega
     case rel=>exact⟨begun+1,left,[],d2,begun,bs,by go_num,HNXT.out,by omega,by omega⟩
   ·have hfp:0<face.length:=List.length_pos_iff.2 hf
    have hfp':(0:Int)<(face.length:Int):=by omega
    have hRI:=HRI.out
    have hR1:=hRI.turn HI.out HLay.out (Chg.of_below hbA) hRI.go hRI.ph (hRI.map.keep (hbA.block _ hRI.map.lt)) (hRI.dc.go hbA) (Qaz hRI.fc hbA) (.inl rfl)
    have hbdl:bd<wr.heap.size:=hRI.dc.lt
    obtain⟨gf,cf',hpf⟩:=QcQ hRI.fc hfp
    simp only [Value.slice.injEq] at hpf
    obtain⟨rfl,_,rfl⟩:=hpf
    have hfl:((Qae nx (2*l.length+1) st j).1.map List.length).sum+face.length≤8388608:=by rw [Qdk];have:=hRI.go.len;omega
    have hcall:=HT.out (Qae nx (2*l.length+1) st j).1 bs face _ _ hR1.inv (fun q hq=>⟨Nat.le_trans hh2 (hR1.bsr q hq).1,(hR1.bsr q hq).2⟩) (Nat.le_trans hh2 hR1.sz) hf (fun x hx=>(hRI.go.all x).2 (.inr (.inl hx))) hfl (QaH hR1.fc hh2) hR1.ap
    have HR1:Hid _:=hR1
    have Hf:Hid _:=hf
    have Hd:Hid _:=hd
    clear hRI hR1 HRI hf hd hbA hfp
    go_wp2_with fail
    refine hcall.mono ?_
    clear hcall
    rintro e w6 ⟨rfl,bs',hI6,hT6⟩
    have HDN:Hid _:=HR1.out.toldD HP.out (by omega) HLay.out hh2 Hf.out Hd.out hT6 hI6
    clear HR1 hI6 hT6 Hf Hd c0 c1 hlk'
    by_cases hbe:begun=st.length
    ·have hbe':((begun:Int)==(st.length:Int))=true:=by rw [beq_iff_eq];omega
     have HFIN:Hid (I (Qae nx (2*l.length+1) st st.length).1 bs' w6):=by rw [Hid,← hbe];exact HDN.out.inv
     clear hbe HDN
     go_wp2
     simp only [Exit.noGoto]
     refine bodyPost_end (results_none rfl _ _ _) rfl ?_
     exact⟨rfl,bs',by rw [HNX.out,HST.out];exact HFIN.out⟩
    ·have hbe':((begun:Int)==(st.length:Int))=false:=by rw [beq_eq_false_iff_ne];omega
     have hblt:begun<st.length:=by omega
     have hbl':(begun:Int)<(st.length:Int):=by omega
     obtain⟨sb,so,hps,hsb,hsc,s0,s1⟩:=(Drts.of_owns HDN.out.st).cellAt hblt
     have HGD:Hid (st[begun]=st.getD begun (0,0)):=by rw [Hid,YC,YB hblt];rfl
     have HDM:Hid (st[begun]∈S):=HDS.out _ (YG hblt)
     generalize st[begun]=d2 at *
     have g0:=HDN.out.dc.cell (j:=0) rfl
     have g1:=(HDN.out.dc.set 0 (.int .i64 d2.1)).cell (j:=1) rfl
     have f0:=HDN.out.dc.frozen 0
     have f1:=(HDN.out.dc.set 0 (.int .i64 d2.1)).frozen 1
     have HNXT:Hid _:=HDN.out.next HI.out HLay.out hblt HGD.out HDM.out
     have hsbd:sb≠bd:=(HLay.out.st sb (by rw [hps];rfl)).2.2
     clear hbe HDN
     subst hps
     go_wp2
     go_roundg (gk-1)
     case measure=>omega
     case rel=>exact⟨begun+1,left,[],d2,begun,bs',by go_num,HNXT.out,by omega,by omega⟩
structure GrpD (h0:Nat)(lv:Value)(svs:List Value)(pre:List (List Dt))(W:World):Prop where
 len:svs.length=pre.length
 own:W.ownsRow h0 92 1 lv svs.length svs
 inn:∀ (k:Nat) (sv:Value) (xs:List Dt),svs[k]? = some sv→pre[k]? = some xs→W.ownsRow h0 91 2 sv xs.length (flatD xs)
 apart:∀ (k j:Nat) (sv sv':Value),svs[k]? = some sv→svs[j]? = some sv'→k≠j→sv.ownBlock=none∨sv.ownBlock≠sv'.ownBlock
 outer:∀ (k:Nat) (sv:Value),svs[k]? = some sv→sv.ownBlock=none∨sv.ownBlock≠lv.ownBlock
theorem GrpD.start (h0:Nat)(W:World):GrpD h0 (.slice none 0 0) [] [] W:=
 ⟨rfl,World.ownsRow_nil _ _ _ _,fun k sv xs h=>by simp at h,fun k j sv sv' h=>by simp at h,fun k sv h=>by simp at h⟩
theorem GrpD.go {h0:Nat}{lv:Value}{svs:List Value}{pre:List (List Dt)}{A B:World}(h:GrpD h0 lv svs pre A)(hb:Below A.heap.size A B):GrpD h0 lv svs pre B:=by
 have hk:∀ {e:TypeId} {size:Nat} {v:Value} {n:Nat} {xs:List Value},A.ownsRow h0 e size v n xs→B.ownsRow h0 e size v n xs:=fun {e size v n xs} ho=>by
  refine Qal ho (grown_below' hb none) ?_
  cases v.ownBlock with
  | none=>exact .inl rfl
  | some k=>exact .inr (by simp)
 exact⟨h.len,hk h.own,fun k sv xs h1 h2=>hk (h.inn k sv xs h1 h2),h.apart,h.outer⟩
theorem GrpD.low {h0:Nat}{lv:Value}{svs:List Value}{pre:List (List Dt)}{W:World}(h:GrpD h0 lv svs pre W){p:Addr}(hp:p.block<h0)(u:Value):GrpD h0 lv svs pre (W.setCell p u):=
 ⟨h.len,Qag h.own hp u,fun k sv xs h1 h2=>Qag (h.inn k sv xs h1 h2) hp u,h.apart,h.outer⟩
theorem GrpD.add {h0:Nat}{lv lv' sv:Value}{svs:List Value}{pre:List (List Dt)}{W A B:World}{o:Obj}{xs:List Dt}(h:GrpD h0 lv svs pre W)(hh:h0≤W.heap.size)(hA:Below W.heap.size W A)(hs:A.ownsRow W.heap.size 91 2 sv xs.length (flatD xs))
  (hB:B.ownsRow h0 92 1 lv' (svs.length+1) (svs++[sv])) (hg:(A.alloc o).grownBy B lv.ownBlock) (hat:lv'.ownBlock=lv.ownBlock∨lv'.ownBlock=some (A.alloc o).heap.size):GrpD h0 lv' (svs++[sv]) (pre++[xs]) B:=by
 have hA':=h.go hA
 have hkA:∀ {e:TypeId} {size:Nat} {v:Value} {n:Nat} {zs:List Value},A.ownsRow h0 e size v n zs→(v.ownBlock=none∨v.ownBlock≠lv.ownBlock)→B.ownsRow h0 e size v n zs:=fun {e size v n zs} ho hne=>Qal (World.ownsRow.alloc ho o) hg hne
 have hlen:=h.len
 have far:∀ {e:TypeId} {size:Nat} {x:Value} {n:Nat} {zs:List Value},W.ownsRow h0 e size x n zs→sv.ownBlock=none∨sv.ownBlock≠x.ownBlock:=fun {e size x n zs} ho=>by
  cases hv:sv.ownBlock with
  | none=>exact .inl rfl
  | some b=>
   refine .inr fun e=>?_
   have h1:=(hs.lt b hv).1
   have h2:=(ho.lt b e.symm).2
   omega
 have far':∀ {e:TypeId} {size:Nat} {x:Value} {n:Nat} {zs:List Value},W.ownsRow h0 e size x n zs→x.ownBlock=none∨x.ownBlock≠sv.ownBlock:=fun {e size x n zs} ho=>by
  cases hv:x.ownBlock with
  | none=>exact .inl rfl
  | some b=>
   refine .inr fun e=>?_
   have h1:=(hs.lt b e.symm).1
   have h2:=(ho.lt b hv).2
   omega
 have split:∀ {k:Nat} {x:Value},(svs++[sv])[k]? = some x→(k<svs.length∧svs[k]? = some x)∨(k=svs.length∧x=sv):=fun {k x} hx=>by
  rw [List.getElem?_append] at hx
  by_cases hk:k<svs.length
  ·rw [if_pos hk] at hx
   exact .inl ⟨hk,hx⟩
  ·rw [if_neg hk] at hx
   have h1:=(YE hx).1
   simp at h1
   have h2:k=svs.length:=by omega
   subst h2
   simp at hx
   exact .inr ⟨rfl,hx.symm⟩
 have row:∀ {k:Nat} {x:Value},svs[k]? = some x→∃ zs:List Dt,W.ownsRow h0 91 2 x zs.length (flatD zs):=fun {k x} hx=>by
  have hk:=(YE hx).1
  exact⟨_,h.inn k x _ hx (YB (by omega))⟩
 have new:∀ {e:TypeId} {size:Nat} {x:Value} {n:Nat} {zs:List Value},A.ownsRow h0 e size x n zs→x.ownBlock=none∨x.ownBlock≠some (A.alloc o).heap.size:=fun {e size x n zs} ho=>Qdn ho (by simp)
 refine⟨by simp [hlen],by rw [YI];exact hB,?_,?_,?_⟩
 ·intro k x zs hx hp
  rcases split hx with ⟨hk,hy⟩ | ⟨rfl,rfl⟩
  ·rw [List.getElem?_append_left (by omega)] at hp
   exact hkA (hA'.inn k x zs hy hp) (h.outer k x hy)
  ·rw [hlen,List.getElem?_append_right YA,Nat.sub_self] at hp
   simp at hp
   subst hp
   exact hkA (QaH hs hh) (far h.own)
 ·intro k j x x' hx hx' hkj
  rcases split hx with ⟨hk,hy⟩ | ⟨rfl,rfl⟩
  ·rcases split hx' with ⟨hj,hy'⟩ | ⟨rfl,rfl⟩
   ·exact h.apart k j x x' hy hy' hkj
   ·obtain⟨zs,hz⟩:=row hy
    exact far' hz
  ·rcases split hx' with ⟨hj,hy'⟩ | ⟨rfl,rfl⟩
   ·obtain⟨zs,hz⟩:=row hy'
    exact far hz
   ·exact absurd rfl hkj
 ·intro k x hx
  rcases split hx with ⟨hk,hy⟩ | ⟨rfl,rfl⟩
  ·rcases hat with e | e
   ·rw [e];exact h.outer k x hy
   ·rw [e]
    exact new (hA'.inn k x _ hy (YB (by omega)))
  ·rcases hat with e | e
   ·rw [e];exact far h.own
   ·rw [e]
    exact new (QaH hs hh)
theorem Qod:(Tryz.prog.info? 92).map (fun i=>(i.zero,i.size,i.bytes))=some (some (.slice none 0 0),1,24):=by kernel_rfl
theorem GrpD.lts {h0:Nat}{lv:Value}{svs:List Value}{pre:List (List Dt)}{W:World}(h:GrpD h0 lv svs pre W){sv:Value}(hs:sv∈svs){q:Nat}(hq:sv.ownBlock=some q):h0≤q∧q<W.heap.size:=by
 obtain⟨k,hk⟩:=List.getElem?_of_mem hs
 have hlt:=(YE hk).1
 exact Qaw (h.inn k sv _ hk (YB (by rw [← h.len];exact hlt))) hq
theorem GrpD.base {h0 h1:Nat}{lv:Value}{svs:List Value}{pre:List (List Dt)}{W:World}(h:GrpD h0 lv svs pre W)(hh:h1≤h0):GrpD h1 lv svs pre W:=
 ⟨h.len,QaH h.own hh,fun k sv xs h1 h2=>QaH (h.inn k sv xs h1 h2) hh,h.apart,h.outer⟩
theorem Qa8:∀ L:List Dt,(flatD L).length=L.length*2
 | []=>rfl
 | d :: L=>by
  have e:flatD (d :: L)=[.int .i64 d.1,.int .i64 d.2]++flatD L:=rfl
  rw [e,YI,Qa8 L,List.length_cons]
  simp
  omega
theorem QeF {n:Nat}{w:World}{b off c:Nat}{L:List Dt}(h:Drts n w (.slice (some ⟨b,off,none⟩) L.length c) L):∀ (j:Nat) (u:Value),(flatD L)[j]? = some u→w.cell? ((⟨b,off,none⟩:Addr).add j)=some u:=by
 intro j u hu
 have hj:=(YE hu).1
 rw [Qa8] at hj
 have hi:j / 2<L.length:=by omega
 obtain⟨b',off',e,_,_,c0,c1⟩:=h.cellAt hi
 simp only [Option.some.injEq,Addr.mk.injEq,and_true] at e
 obtain⟨rfl,rfl⟩:=e
 obtain⟨k0,k1⟩:=QbQ (YB hi)
 rw [Go.WideShapes.add_plain]
 rcases Nat.mod_two_eq_zero_or_one j with h0 | h0
 ·have e:j=j / 2*2:=by omega
  rw [← e] at k0 c0
  rw [hu] at k0
  rw [Option.some.inj k0]
  exact c0
 ·have e:j=j / 2*2+1:=by omega
  rw [← e] at k1
  rw [hu] at k1
  rw [Option.some.inj k1]
  rw [Nat.add_assoc,← e] at c1
  exact c1
theorem QgW:∀ (L:List Dt),∀ u∈flatD L,u.oneCell'=true:=by
 intro L u hu
 unfold flatD at hu
 obtain⟨d,_,h⟩:=List.mem_flatMap.1 hu
 exact oneD d u h
theorem Qj4 (L:List Dt)(hL:L.length≤8388608)(hne:L≠[])(sv:Value)(w:World)(h:Drts w.heap.size w sv L):
  Calls Tryz.prog 107 #[sv] w fun e w'=>∃ v',e = .returned v'∧w'.ownsRow w.heap.size 91 2 v' L.length (flatD L)∧Below w.heap.size w w':=by
 obtain⟨p,c,rfl⟩:=h.len
 have hpos:=List.length_pos_iff.2 hne
 obtain⟨b,off,rfl,hbb,hcap,_,_⟩:=h.cellAt hpos
 obtain⟨i0,hi,hz0,hz1,hz2⟩:=info_parts QiJ
 have hbA:Below w.heap.size w (w.alloc (.cells #[] 91)):=YD.alloc YA _
 have hB:Blk 91 (w.alloc (.cells #[] 91)) w.heap.size []:=heap_alloc_new w _
 have hown:(w.alloc (.cells #[] 91)).ownsRow w.heap.size 91 2 (.slice (some ⟨w.heap.size,0,none⟩) 0 0) 0 []:=⟨by simp,.inr ⟨w.heap.size,0,#[],rfl,YA,hB,YA,by unfold maxLen;omega,rfl,rfl⟩⟩
 have heq:(binOp .eql 92 (.slice (some ⟨b,off,none⟩) L.length c) (.slice none 0 0)).run Tryz.prog w = .ok (.bool false) w:=by rfl
 have hnews:=QeF (h.go hbA)
 have hone:=QgW L
 have hfl:=Qa8 L
 have hmx:0+L.length≤maxLen:=by unfold maxLen;omega
 have hby:(0+L.length)*16≤140737488355328:=by omega
 have hbs:w.heap.size≤(w.alloc (.cells #[] 91)).heap.size:=by simp
 go_enter Tryz.func107,Tryz.ntmps107
 go_wp2_with (at_builtin;refine wpList_append_own_at _ rfl _ _ 92 rfl w.heap.size 91 i0 (.agg #[.int .i64 0,.int .i64 0]) 2 16 Tryz.underlying92 hi hz0 hz1 hz2 rfl (by decide) (.slice (some ⟨w.heap.size,0,none⟩) 0 0) _ _ rfl hown ⟨b,off,none⟩ L.length c (flatD L) rfl hfl hnews hone hmx hby hbs ?_)
 intro v7 w7 hown7 hg7 hnil7 hat7
 obtain⟨a7,m7,k7,rfl⟩:=Qar hown7
 have hb7:Below w.heap.size w w7:=hbA.grown hg7 hbs (fun k e=>(hown.lt k e).1)
 have HO:Hid _:=hown7
 clear hown7 hg7 hnil7 hat7 hnews hone hfl hown
 go_wp2
 go_ret
 exact⟨.slice a7 m7 k7,rfl,HO.out,hb7⟩
structure IF (w0:World)(h0 fb:Nat)(fs:List (List Dt))(bs:List Nat)(W:World)(lv:Value)(svs:List Value):Prop where
 grp:GrpD h0 lv svs fs W
 var:Blk 75 W fb [lv]
 inl:∀ q,lv.ownBlock=some q→q∈bs
 ins:∀ sv∈svs,∀ q,sv.ownBlock=some q→q∈bs
 os:W.os=w0.os
 tape:W.tape=w0.tape
 output:W.output=w0.output
 size:h0≤W.heap.size
 low:∀ q,q<h0→q≠fb→W.heap[q]? = w0.heap[q]?
 few:fs.length≤(fs.map List.length).sum
theorem GrpD.same {h0:Nat}{lv:Value}{svs:List Value}{pre:List (List Dt)}{A B:World}(h:GrpD h0 lv svs pre A)(h1:∀ q,lv.ownBlock=some q→B.heap[q]? = A.heap[q]?)(h2:∀ sv∈svs,∀ q,sv.ownBlock=some q→B.heap[q]? = A.heap[q]?):GrpD h0 lv svs pre B:=
 ⟨h.len,Qa6 h.own h1,fun k sv xs hk hp=>Qa6 (h.inn k sv xs hk hp) (h2 sv (YK hk)),h.apart,h.outer⟩
theorem IF.still {w0:World}{h0 fb:Nat}(hfb:fb<h0){fs:List (List Dt)}{bs:List Nat}{A B:World}{lv:Value}{svs:List Value}(h:IF w0 h0 fb fs bs A lv svs)(hS:StillR h0 bs A B):IF w0 h0 fb fs bs B lv svs:=by
 refine⟨h.grp.same (fun q hq=>hS.block q (Qaw h.grp.own hq).2 (.inr (h.inl q hq))) (fun sv hs q hq=>hS.block q (h.grp.lts hs hq).2 (.inr (h.ins sv hs q hq))),(hS.block fb h.var.lt (.inl hfb)).trans h.var,h.inl,h.ins,hS.os.trans h.os,hS.tape.trans h.tape,hS.output.trans h.output,Nat.le_trans h.size hS.size,fun q hq hne=>(hS.block q (Nat.lt_of_lt_of_le hq h.size) (.inl hq)).trans (h.low q hq hne),h.few⟩
theorem QgZ (w0:World)(h0 fb:Nat)(hfb:fb<h0)(S:List Dt):Tells h0 106 #[.pointer (some ⟨fb,0,none⟩)] S (fun fs bs W=>∃ lv svs,IF w0 h0 fb fs bs W lv svs):=by
 intro fs bs face fv W hIF hbs hsz hne hfS hsum hfo hap
 obtain⟨lv,svs,hIF⟩:=hIF
 obtain⟨i0,hi,hz0,hz1,hz2⟩:=info_parts Qod
 have hfp:=List.length_pos_iff.2 hne
 have hc0:=hIF.var.cell (j:=0) rfl
 obtain⟨pl,cl,rfl⟩:=Qaf hIF.grp.own
 have hfew:=hIF.few
 have hlen:=hIF.grp.len
 have hmx:svs.length+1≤maxLen:=by unfold maxLen;omega
 have hby:(svs.length+1)*24≤140737488355328:=by omega
 clear hlen hfew
 have hmix:=mixed
 have hcl:=Qj4 face (by omega) hne fv
 show Calls Tryz.prog 106 #[fv,.pointer (some ⟨fb,0,none⟩)] W _
 obtain⟨pf,cf,rfl⟩:=Qaf hfo
 have HIF:Hid _:=hIF
 have HFO:Hid _:=hfo
 have HBS:Hid _:=hbs
 clear hIF hfo hbs hap hfS
 go_enter Tryz.func106,Tryz.ntmps106
 go_wp2
 refine Qai (S:=(fun w':World=>w'.cell? ⟨fb,0,none⟩=some (.slice pl svs.length cl))) (by kernel_rfl) ?_ (fun hHeld=>?_)
 ·(try dsimp only);go_keep
 refine tL 0 ?_
 try simp only [YS]
 refine tL 1 ?_
 have hbd:Below W.heap.size W W.drew:=Qaa YD 1
 generalize W.drew=wd at *
 refine Qac (rs:=[2]) (by kernel_rfl) (by simp) ?_
 refine AllReadyL.cons rfl (fun K hK=>?_) AllReadyL.nil
 go_simp
 refine (hcl wd ((Drts.of_owns HFO.out).go hbd)).mono ?_
 rintro e w4 ⟨v4,rfl,hO4,hb4⟩
 have hb34:=hbd.trans (hb4.mono hbd.size)
 have c4:=Qad hb34 hc0
 refine hK.out _ _ c4 (fun hHeld4=>?_)
 clear hK K hHeld
 obtain⟨p4,k4,rfl⟩:=Qaf hO4
 try simp only [Act.put,YS,YT,YU]
 have hb4A:Below w4.heap.size w4 (w4.alloc (.cells #[.slice p4 face.length k4] 92)):=YD.alloc YA _
 have hG4:=HIF.out.grp.go hb34
 have hownA:=Qaz hG4.own hb4A
 have hnw:Src (w4.alloc (.cells #[.slice p4 face.length k4] 92)) (.slice (some ⟨w4.heap.size,0,none⟩) 1 1) 1 1 [.slice p4 face.length k4]:=.inr ⟨⟨w4.heap.size,0,none⟩,1,rfl,rfl,Qbc w4 (.slice p4 face.length k4) 92,fun z hz=>by rw [YF hz];rfl⟩
 have hsz4:h0≤(w4.alloc (.cells #[.slice p4 face.length k4] 92)).heap.size:=by have:=hb34.size;simp;omega
 have hfb4:fb<w4.heap.size:=by have:=hb34.size;omega
 refine Qac (rs:=[3]) (by kernel_rfl) (by simp) ?_
 refine AllReadyL.cons rfl (fun K hK=>?_) AllReadyL.nil
 go_simp
 refine hK.out _ _ (Qad hb4A c4) (fun hHeld5=>?_)
 clear hK K
 try simp only [Act.put,YS,YT,YU]
 refine Qac (rs:=[4]) (by kernel_rfl) (by simp) ?_
 refine AllReadyL.cons rfl (fun K hK=>?_) AllReadyL.nil
 refine Qap rfl _ _ 75 rfl h0 92 i0 (.slice none 0 0) 1 24 Tryz.underlying75 hi hz0 hz1 hz2 rfl (by decide) (.slice pl svs.length cl) svs.length svs rfl hownA (.slice (some ⟨w4.heap.size,0,none⟩) 1 1) 1 [.slice p4 face.length k4] rfl hnw hmx hby hsz4 ?_
 intro v8 w8 ho8 hg8 hat8
 obtain⟨a8,m8,k8,rfl⟩:=Qar ho8
 have hlvb:∀ q,(Value.slice pl svs.length cl).ownBlock=some q→h0≤q:=fun q hq=>(Qaw hownA hq).1
 have hV8:Blk 75 w8 fb [.slice pl svs.length cl]:=(hg8.block fb (by simp;omega) (fun e=>by have:=hlvb fb e.symm;omega)).trans ((HIF.out.var.go hb34).go hb4A)
 refine hK.out _ _ (hV8.cell (j:=0) rfl) (fun hHeld8=>?_)
 clear hK K
 try simp only [Act.put,YS]
 have g0:=hV8.cell (j:=0) rfl
 have f0:=hV8.frozen 0
 have hV9:=hV8.set 0 (.slice a8 m8 k8)
 have hb3A:=hb34.trans (hb4A.mono hb34.size)
 have hsz8:=hg8.size
 have hszA:=hb3A.size
 have hG9:GrpD h0 (.slice a8 m8 k8) (svs++[.slice p4 face.length k4]) (fs++[face]) (w8.setCell ⟨fb,0,none⟩ (.slice a8 m8 k8)):=GrpD.low (HIF.out.grp.add HIF.out.size hb34 (QaH hO4 hbd.size) ho8 hg8 hat8) (by simp;omega) _
 have HFIN:Hid (∃ bs',(∃ lv svs,IF w0 h0 fb (fs++[face]) bs' (w8.setCell ⟨fb,0,none⟩ (.slice a8 m8 k8)) lv svs)∧ToldR h0 bs bs' W (w8.setCell ⟨fb,0,none⟩ (.slice a8 m8 k8))):=by
  have h:=HIF.out
  refine⟨bs++((Value.slice p4 face.length k4).ownBlock.toList++(Value.slice a8 m8 k8).ownBlock.toList),⟨_,_,hG9,hV9,fun q hq=>by rw [hq];simp,fun sv hs q hq=>?_,?_,?_,?_,?_,fun q hq hne=>?_,?_⟩,?_,fun q h1 h2 h3=>?_,fun q hq=>?_,fun q hq=>?_⟩
  ·rcases YJ hs with h1 | h1
   ·exact List.mem_append_left _ (h.ins sv h1 q hq)
   ·rw [YF h1] at hq
    rw [hq]
    simp
  ·exact (hg8.os.trans hb3A.os).trans h.os
  ·exact (hg8.tape.trans hb3A.tape).trans h.tape
  ·exact (hg8.output.trans hb3A.output).trans h.output
  ·simp;omega
  ·have e1:(w8.setCell ⟨fb,0,none⟩ (.slice a8 m8 k8)).heap[q]? = w8.heap[q]?:=Below.heap_setCell _ _ _ _ (by simpa using hne)
   rw [e1,hg8.block q (by omega) (fun e=>by have:=hlvb q e.symm;omega),hb3A.block q (by omega)]
   exact h.low q hq hne
  ·rw [List.map_append,List.sum_append,YI]
   have:=h.few
   simp
   omega
  ·simp;omega
  ·have e1:(w8.setCell ⟨fb,0,none⟩ (.slice a8 m8 k8)).heap[q]? = w8.heap[q]?:=Below.heap_setCell _ _ _ _ (by simp;omega)
   rw [e1,hg8.block q (by omega) (fun e=>h3 (h.inl q e.symm)),hb3A.block q h2]
  ·rcases YJ hq with h1 | h1
   ·exact .inl h1
   ·rcases YJ h1 with h2 | h2
    ·right
     have e:(Value.slice p4 face.length k4).ownBlock=some q:=by simpa using h2
     have:=(Qaw hO4 e).1
     have:=hbd.size
     omega
    ·have e:(Value.slice a8 m8 k8).ownBlock=some q:=by simpa using h2
     rcases hat8 with h3 | h3
     ·rw [h3] at e
      exact .inl (h.inl q e)
     ·rw [h3] at e
      have:=Option.some.inj e
      right
      omega
  ·have hs:(w8.setCell ⟨fb,0,none⟩ (.slice a8 m8 k8)).heap.size=w8.heap.size:=by simp
   rw [hs]
   rcases YJ hq with h1 | h1
   ·have:=(HBS.out q h1).2
    omega
   ·rcases YJ h1 with h2 | h2
    ·have e:(Value.slice p4 face.length k4).ownBlock=some q:=by simpa using h2
     have:=(Qaw hO4 e).2
     have:=hb4A.size
     omega
    ·have e:(Value.slice a8 m8 k8).ownBlock=some q:=by simpa using h2
     exact (Qaw ho8 e).2
 clear ho8 hg8 hat8 hG9 hV9 hV8 hownA hnw hG4 hO4 hlvb hHeld4 hHeld5
 refine Qac (rs:=[5]) (by kernel_rfl) (by simp) ?_
 refine AllReadyL.last rfl (by kernel_rfl) (fun K hK=>?_)
 go_simp
 refine hK.out _ _ ?_
 clear hK K
 try simp only [Act.put,YS,YT,YU]
 refine Qak (by kernel_rfl) ?_ _
 go_wp2
 refine bodyPost_end (results_none rfl _ _ _) rfl ?_
 exact⟨rfl,HFIN.out⟩
def bumpL (L:List Int)(k:Nat)(x:Int):List Int:=L.set k (L.getD k 0+x)
theorem Qda (L:List Int)(k:Nat)(x:Int):(bumpL L k x).length=L.length:=by simp [bumpL]
theorem Qdb (L:List Int)(k:Nat)(x:Int)(i:Nat):(bumpL L k x).getD i 0=if k=i∧k<L.length then L.getD k 0+x else L.getD i 0:=by unfold bumpL;rw [Qav]
def ofRow (O:List Int)(xs:List Int)(i:Int):List Int:=xs.foldl (fun O v=>O.set v.toNat i) O
def ofC (N:Nat)(C:List (List Int)):Nat→List Int
 | 0=>List.replicate N 0
 | j+1=>ofRow (ofC N C j) (C.getD j []) (j:Int)
theorem QgD (i:Int):∀ (xs:List Int) (O:List Int),(ofRow O xs i).length=O.length
 | [],_=>rfl
 | x :: xs,O=>by
  have:=QgD i xs (O.set x.toNat i)
  unfold ofRow at *
  rw [List.foldl_cons,this]
  simp
theorem QhI (N:Nat)(C:List (List Int)):∀ j,(ofC N C j).length=N
 | 0=>by simp [ofC]
 | j+1=>by rw [ofC,QgD];exact QhI N C j
def hd0 (r:List (List Int))(xs:List Int):Int:=if (r.getD (xs.getD 0 0).toNat []).length=0 then 1 else 0
def liC (C r:List (List Int))(j:Nat):List Int:=(List.range C.length).map fun i=>if i<j then ((C.getD i []).length:Int)+hd0 r (C.getD i []) else 0
def liE (O L:List Int)(es:List Ed):List Int:=es.foldl (fun L e=>bumpL L (O.getD e.1.toNat 0).toNat (-1)) L
def liF (O L:List Int)(fs:List (List Dt)):List Int:=fs.foldl (fun L f=>bumpL L (O.getD (f.getD 0 (0,0)).1.toNat 0).toNat 1) L
def numsM (N:Nat)(l:List Ed)(r C:List (List Int))(fs:List (List Dt)):List Int:=liF (ofC N C C.length) (liE (ofC N C C.length) (liC C r C.length) l) fs
theorem QhQ (O:List Int):∀ (es:List Ed) (L:List Int),(liE O L es).length=L.length
 | [],_=>rfl
 | e :: es,L=>by
  have:=QhQ O es (bumpL L (O.getD e.1.toNat 0).toNat (-1))
  unfold liE at *
  rw [List.foldl_cons,this,Qda]
theorem QfN (O:List Int):∀ (fs:List (List Dt)) (L:List Int),(liF O L fs).length=L.length
 | [],_=>rfl
 | f :: fs,L=>by
  have:=QfN O fs (bumpL L (O.getD (f.getD 0 (0,0)).1.toNat 0).toNat 1)
  unfold liF at *
  rw [List.foldl_cons,this,Qda]
theorem QiH (O L:List Int)(fs:List (List Dt))(f:List Dt):liF O L (fs++[f])=bumpL (liF O L fs) (O.getD (f.getD 0 (0,0)).1.toNat 0).toNat 1:=by
 unfold liF
 rw [List.foldl_append]
 rfl
def Betw (a b:Int)(L:List Int):Prop:=∀ i,a≤L.getD i 0∧L.getD i 0≤b
theorem Betw.bump {a b:Int}{L:List Int}(h:Betw a b L)(k:Nat){x:Int}(hx : -1≤x∧x≤1):Betw (a-1) (b+1) (bumpL L k x):=by
 intro i
 have h1:=h i
 have h2:=h k
 rw [Qdb]
 split <;> omega
structure IN (w0:World)(h0 lb:Nat)(O L:List Int)(fs:List (List Dt))(bs:List Nat)(W:World):Prop where
 none:bs=[]
 lst:Blk 3 W lb ((liF O L fs).map (Value.int .i64))
 os:W.os=w0.os
 tape:W.tape=w0.tape
 output:W.output=w0.output
 size:h0≤W.heap.size
 low:∀ q,q<h0→q≠lb→W.heap[q]? = w0.heap[q]?
 btw:Betw (-8388608) (8388608+((fs.map List.length).sum:Nat)) (liF O L fs)
theorem IN.still {w0:World}{h0 lb:Nat}{O L:List Int}(hlb:lb<h0){fs:List (List Dt)}{bs:List Nat}{A B:World}(h:IN w0 h0 lb O L fs bs A)(hS:StillR h0 bs A B):IN w0 h0 lb O L fs bs B:=
 ⟨h.none,(hS.block lb h.lst.lt (.inl hlb)).trans h.lst,hS.os.trans h.os,hS.tape.trans h.tape,hS.output.trans h.output,Nat.le_trans h.size hS.size,fun q hq hne=>(hS.block q (Nat.lt_of_lt_of_le hq h.size) (.inl hq)).trans (h.low q hq hne),h.btw⟩
theorem QeT (w0:World)(h0 lb ob lvb ovb n N:Nat)(O L:List Int)(hL:L.length=n)(hOl:O.length=N)(hO:∀ v,v<N→∃ k:Nat,O.getD v 0=(k:Int)∧k<n)(hlb:lb<h0)(hob:ob<h0)(hlv:lvb<h0)(hov:ovb<h0)(hn1:ob≠lb)(hn2:lvb≠lb)(hn3:ovb≠lb)
  (v1:Blk 27 w0 lvb [.slice (some ⟨lb,0,none⟩) n n]) (v2:Blk 27 w0 ovb [.slice (some ⟨ob,0,none⟩) N N]) (v3:Blk 3 w0 ob (O.map (Value.int .i64))) (S:List Dt) (hS:∀ d∈S,∃ u:Nat,d.1=(u:Int)∧u<N) :
  Tells h0 123 #[.pointer (some ⟨lvb,0,none⟩),.pointer (some ⟨ovb,0,none⟩)] S (IN w0 h0 lb O L):=by
 intro fs bs face fv W hI hbs hsz hne hfS hsum hfo hap
 have hfp:=List.length_pos_iff.2 hne
 obtain⟨u,hu,huN⟩:=hS face[0] (hfS _ (YG hfp))
 obtain⟨k,hk,hkn⟩:=hO u huN
 have hg0:face.getD 0 (0,0)=face[0]:=by rw [YC,YB hfp];rfl
 have hLn:(liF O L fs).length=n:=by rw [QfN,hL]
 obtain⟨pf,cf,rfl⟩:=Qaf hfo
 obtain⟨b,off,rfl,hbb,hcap,a0,a1⟩:=(Drts.of_owns hfo).cellAt hfp
 rw [hu,Nat.zero_mul,Nat.add_zero] at a0
 have V1:Blk 27 W lvb [.slice (some ⟨lb,0,none⟩) n n]:=(hI.low lvb hlv hn2).trans v1
 have V2:Blk 27 W ovb [.slice (some ⟨ob,0,none⟩) N N]:=(hI.low ovb hov hn3).trans v2
 have V3:Blk 3 W ob (O.map (Value.int .i64)):=(hI.low ob hob hn1).trans v3
 have c1:=V1.cell (j:=0) rfl
 have c2:=V2.cell (j:=0) rfl
 have c3:W.cell? ⟨ob,u,none⟩=some (.int .i64 (k:Int)):=V3.cell (by
  rw [YH,YB (by omega)]
  rw [YC,YB (by omega)] at hk
  simpa using hk)
 have c4:W.cell? ⟨lb,k,none⟩=some (.int .i64 ((liF O L fs).getD k 0)):=hI.lst.cell (by
  rw [YH,YB (by omega),YC,YB (by omega)]
  rfl)
 have f4:=hI.lst.frozen k
 have hbt:=hI.btw k
 have hB5:=hI.lst.set k (.int .i64 ((liF O L fs).getD k 0+1))
 have e5:(bumpL (liF O L fs) k 1).map (Value.int .i64)=((liF O L fs).map (Value.int .i64)).set k (.int .i64 ((liF O L fs).getD k 0+1)):=by unfold bumpL;rw [List.map_set]
 have HFIN:Hid (∀ q,IN w0 h0 lb O L (fs++[face]) [] ((W.drewN q).setCell ⟨lb,k,none⟩ (.int .i64 ((liF O L fs).getD k 0+1)))∧ToldR h0 bs [] W ((W.drewN q).setCell ⟨lb,k,none⟩ (.int .i64 ((liF O L fs).getD k 0+1)))):=fun q=>by
  have hset:∀ p,p≠lb→((W.drewN q).setCell ⟨lb,k,none⟩ (.int .i64 ((liF O L fs).getD k 0+1))).heap[p]? = W.heap[p]?:=fun p hp=>Below.heap_setCell _ _ _ _ (by simpa using hp)
  refine⟨⟨rfl,?_,hI.os,hI.tape,hI.output,by simp;exact hI.size,fun p hp hne=>(hset p hne).trans (hI.low p hp hne),?_⟩,by simp,fun p h1 h2 h3=>hset p (by omega),fun p hp=>by simp at hp,fun p hp=>by simp at hp⟩
  ·rw [QiH,hg0,hu,YM,hk,YM,e5]
   exact hB5
  ·rw [QiH]
   intro i
   have:=(hI.btw.bump (O.getD (face.getD 0 (0,0)).1.toNat 0).toNat (x:=1) (by omega)) i
   have h2:=hI.btw
   rw [List.map_append,List.sum_append]
   simp only [List.map_cons,List.map_nil,List.sum_cons,List.sum_nil,Nat.add_zero]
   have h3:=hI.btw i
   rw [Qdb] at *
   split
   ·have:=hI.btw (O.getD (face.getD 0 (0,0)).1.toNat 0).toNat
    omega
   ·omega
 have huN':(u:Int)<(N:Int):=by omega
 have hkn':(k:Int)<(n:Int):=by omega
 have hfp':(0:Int)<(face.length:Int):=by omega
 have hlo : -9000000≤(liF O L fs).getD k 0:=by omega
 have hhi:(liF O L fs).getD k 0≤20000000:=by omega
 generalize (liF O L fs).getD k 0=y at *
 show Calls Tryz.prog 123 #[.slice (some ⟨b,off,none⟩) face.length cf,.pointer (some ⟨lvb,0,none⟩),.pointer (some ⟨ovb,0,none⟩)] W _
 clear hI hbs hfo hap hfS hbt hB5 e5 v1 v2 v3 V1 V2 V3 hS hO hu hk hg0 hLn hL hOl hsum
 go_enter Tryz.func123,Tryz.ntmps123
 go_wp2
 refine Qai (S:=(fun w':World=>w'.cell? ⟨lvb,0,none⟩=some (.slice (some ⟨lb,0,none⟩) n n)∧w'.cell? ⟨ovb,0,none⟩=some (.slice (some ⟨ob,0,none⟩) N N)∧w'.cell? ⟨b,off,none⟩=some (.int .i64 (u:Int))∧w'.cell? ⟨ob,u,none⟩=some (.int .i64 (k:Int))∧w'.cell? ⟨lb,k,none⟩=some (.int .i64 y))) (by kernel_rfl) ?_ (fun hHeld=>?_)
 ·(try dsimp only);go_keep
 refine tL 0 ?_
 try simp only [YS]
 refine tL 1 ?_
 refine tL 2 ?_
 refine tL 3 ?_
 refine tL 4 ?_
 refine tL 5 ?_
 refine tL 6 ?_
 refine tL 7 ?_
 refine tL 8 ?_
 refine tL 9 ?_
 refine tL 10 ?_
 refine tL 11 ?_
 refine Qac (rs:=[12]) (by kernel_rfl) (by simp) ?_
 refine AllReadyL.last rfl (by kernel_rfl) (fun K hK=>?_)
 go_simp
 refine hK.out _ _ ?_
 clear hK K
 try simp only [Act.put,YS,YT,YU]
 refine Qak (by kernel_rfl) ?_ _
 go_wp2
 refine bodyPost_end (results_none rfl _ _ _) rfl ?_
 rw [show IntKind.i64.wrap (y+1)=y+1 from QaU _ (by omega) (by omega)]
 exact⟨rfl,[],HFIN.out 1⟩
end Go.Proofs.YtalflecmadacaaaGreat
