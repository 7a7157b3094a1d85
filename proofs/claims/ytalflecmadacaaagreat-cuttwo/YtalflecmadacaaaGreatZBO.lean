import Derived.Test.YtalflecmadacaaaGreatZBN
import Derived.Test.YtalflecmadacaaaGreatZBE
set_option maxRecDepth 100000
set_option maxHeartbeats 8000000
namespace Go.Proofs.YtalflecmadacaaaGreat
open Go Go.Proofs Go.RowKit
theorem Qgv (N:Nat)(l:List Ed)(hR:RightG (N:Int) l)(r:List (List Int))(hS:SysR N l r)(hm:l.length≤4000)(sv rv:Value)(w:World)(hl:Edges w.heap.size w sv l)(hr:Lsts w.heap.size w rv r):
  Calls Tryz.prog 71 #[.agg #[.int .i64 (N:Int),sv],rv] w fun e w'=>∃ lv svs,e = .returned lv∧GrpD w.heap.size lv svs (facesL N l r) w'∧Below w.heap.size w w':=by
 obtain⟨p,c,rfl⟩:=hl.len
 obtain⟨pr,cr,rfl⟩:=hr.len
 have hb1:Below w.heap.size w (w.alloc (.cells #[.int .i64 (N:Int),.slice p l.length c] 24)):=YD.alloc YA _
 have hX1:Blk 24 (w.alloc (.cells #[.int .i64 (N:Int),.slice p l.length c] 24)) w.heap.size [.int .i64 (N:Int),.slice p l.length c]:=heap_alloc_new w _
 obtain⟨i0,hi,hz0,hz1,hz2⟩:=info_parts QiJ
 obtain⟨j0,hj,hy0,hy1,hy2⟩:=info_parts Qod
 have hn1:=hR.n1
 have HR:Hid (RightG (N:Int) l):=hR
 have HSY:Hid (SysR N l r):=hS
 have HB1:Hid (Below w.heap.size w (w.alloc (.cells #[.int .i64 (N:Int),.slice p l.length c] 24))):=hb1
 have HX1:Hid (Blk 24 (w.alloc (.cells #[.int .i64 (N:Int),.slice p l.length c] 24)) w.heap.size [.int .i64 (N:Int),.slice p l.length c]):=hX1
 have HL:Hid (Lsts w.heap.size w (.slice pr r.length cr) r):=hr
 have hrl:r.length=N:=hS.len
 have HRR:Hid (∀ x∈r,x.length≤9223372036854775807):=fun x hx=>by
  obtain⟨v,hv,rfl⟩:=List.getElem_of_mem hx
  have h1:=(hS.perm v (by omega)).length_eq
  rw [YC,YB hv] at h1
  have:=QaO (v:Int) l
  simp only [Option.getD_some] at h1
  omega
 have HLEN:Hid (r.length=N):=hrl
 have HSP:Hid (PermS (nxD r) (keysR r N)):=Qfs hS hR
 have HSN:Hid ((keysR r N).Nodup):=Qcq hS hR
 have HSL:Hid ((keysR r N).length=2*l.length):=by
  unfold Hid
  rw [Qc1 hS YA,QbR (fun e he=>(hR.each e he).1)]
 rw [hrl] at HL ⊢
 clear hb1 hX1 hl hr hR hS hrl
 go_enter Tryz.func71,Tryz.ntmps71
 go_wp2
 generalize w.alloc (.cells #[.int .i64 (N:Int),.slice p l.length c] 24)=w1 at *
 go_loopw [5,6,7] (fun ov mv iv wr=>∃ (u:Nat) (svs:List Value),u≤N∧iv = .int .i64 u∧FI w1.heap.size ov mv svs (stF l r u 0) wr∧Below w1.heap.size w1 wr) (fun _ _ iv _=>N-(intOf iv).toNat)
 case atStart=>exact⟨0,[],YN,rfl,by rw [QmC HR.out];exact FI.start _ _,YD⟩
 case round=>
  obtain⟨u,svs,hu,rfl,hF,hb⟩:=hrel
  have q0:=(HX1.out.go hb).cell (j:=0) rfl
  by_cases hlt:u<N
  ·have hul:(u:Int)<(N:Int):=by omega
   have HF:Hid (FI w1.heap.size _ _ svs (stF l r u 0) wr):=hF
   have HB:Hid (Below w1.heap.size w1 wr):=hb
   clear hF hb
   generalize wr=w2 at *
   go_wp2
   go_loopw [5,6,8] (fun ov mv iv wr=>∃ (v:Nat) (svs:List Value),v≤N∧iv = .int .i64 v∧FI w1.heap.size ov mv svs (stF l r u v) wr∧Below w1.heap.size w1 wr) (fun _ _ iv _=>N-(intOf iv).toNat)
   case atStart=>exact⟨0,svs,YN,rfl,HF.out,HB.out⟩
   case round=>
    clear HF HB q0
    clear svs
    obtain⟨v,svs,hv,rfl,hF,hb⟩:=hrel
    have q0:=(HX1.out.go hb).cell (j:=0) rfl
    have q1:=(HX1.out.go hb).cell (j:=1) rfl
    by_cases hvl:v<N
    ·have hvl':(v:Int)<(N:Int):=by omega
     have hst:=Qhp HR.out r (v:=v) hu
     obtain⟨po,co,rfl⟩:=Qaf hF.grp.own
     obtain⟨pm,cm,rfl⟩:=Qaf hF.met
     have HSM:Hid ((v:Int)∈nb l (u:Int)→stF l r u (v+1)=stepF (nxD r) (2*l.length+1) (stF l r u v) ((u:Int),(v:Int))):=Qoy HR.out
     have HSO:Hid ((v:Int)∉nb l (u:Int)→stF l r u (v+1)=stF l r u v):=Qox
     have HDM:Hid ((v:Int)∈nb l (u:Int)→((u:Int),(v:Int))∈Qah N l):=fun h=>dartsL_mem.2 ⟨u,hlt,rfl,h⟩
     have hsvl:=hF.grp.len
     have hf1:svs.length≤12000:=by omega
     have hf2:(stF l r u v).2.length≤100000000:=by
      refine Nat.le_trans hst.2 (Nat.le_trans (Nat.mul_le_mul (Nat.mul_le_mul_left 3 hm) (Nat.add_le_add_right (Nat.mul_le_mul_left 2 hm) 1)) (by decide))
     generalize stF l r u v=st at *
     clear hst hsvl
     have hbA:Below wr.heap.size wr (wr.alloc (.cells #[.int .i64 (u:Int),.int .i64 (v:Int)] 91)):=YD.alloc YA _
     have hXd:Blk 91 (wr.alloc (.cells #[.int .i64 (u:Int),.int .i64 (v:Int)] 91)) wr.heap.size [.int .i64 (u:Int),.int .i64 (v:Int)]:=heap_alloc_new wr _
     have hb3:Below w1.heap.size w1 (wr.alloc (.cells #[.int .i64 (u:Int),.int .i64 (v:Int)] 91)):=hb.trans (hbA.mono hb.size)
     have hF3:=hF.go hbA
     have HWR:Hid (wr.heap.size<(wr.alloc (.cells #[.int .i64 (u:Int),.int .i64 (v:Int)] 91)).heap.size∧w1.heap.size≤wr.heap.size):=⟨by simp,hb.size⟩
     have hbw3:=HB1.out.trans (hb3.mono HB1.out.size)
     have hLr:Lsts w.heap.size (wr.alloc (.cells #[.int .i64 (u:Int),.int .i64 (v:Int)] 91)) (.slice pr r.length cr) r:=by rw [HLEN.out];exact HL.out.below hbw3
     have hur:u<r.length:=by rw [HLEN.out];exact hlt
     obtain⟨br,offr,rfl,hbr,hcr,px,cx,hIx,c0⟩:=hLr.cellAt hur
     have hpu:=HSY.out.perm u hlt
     rw [YC,YB hur] at hpu
     simp only [Option.getD_some] at hpu
     have hxl:r[u].length≤4194304:=by have:=hpu.length_eq;have:=QaO (u:Int) l;omega
     have hhas:=QfP r[u] hxl (v:Int) _ _ _ hIx
     have hme:(v:Int)∈r[u]↔(v:Int)∈nb l (u:Int):=hpu.mem_iff
     clear hpu hxl hIx hLr
     generalize r[u]=X at *
     have HFX:Hid (FI w1.heap.size (.slice po svs.length co) (.slice pm st.2.length cm) svs st wr):=hF
     have HF3:Hid (FI w1.heap.size (.slice po svs.length co) (.slice pm st.2.length cm) svs st (wr.alloc (.cells #[.int .i64 (u:Int),.int .i64 (v:Int)] 91))):=hF3
     have HB3:Hid (Below w1.heap.size w1 (wr.alloc (.cells #[.int .i64 (u:Int),.int .i64 (v:Int)] 91))):=hb3
     have HXD:Hid (Blk 91 (wr.alloc (.cells #[.int .i64 (u:Int),.int .i64 (v:Int)] 91)) wr.heap.size [.int .i64 (u:Int),.int .i64 (v:Int)]):=hXd
     have hin:=QkM st.2 (by omega) ((u:Int),(v:Int)) _ _ (Drts.of_owns hF3.met)
     have d0:=hXd.cell (j:=0) rfl
     have d1:=hXd.cell (j:=1) rfl
     clear hF hF3 hb3 hXd hbA hb hbw3
     by_cases hmem:(v:Int)∈nb l (u:Int)
     ·rw [inB_true.2 (hme.2 hmem)] at hhas
      have HST:Hid _:=HSM.out hmem
      have HD:Hid _:=HDM.out hmem
      clear HSM HSO HDM hme hmem
      go_wp2_with fail
      generalize hdb:wr.heap.size=db at *
      generalize wr.alloc (.cells #[.int .i64 (u:Int),.int .i64 (v:Int)] 91)=w3 at *
      refine hhas.mono ?_
      clear hhas
      rintro e w4 ⟨rfl,rfl⟩
      go_wp2_with fail
      refine hin.mono ?_
      clear hin
      rintro e w5 ⟨rfl,hb5⟩
      have hb5':=HB3.out.trans (hb5.mono HB3.out.size)
      have hF5:=HF3.out.go hb5
      by_cases hct:st.2.contains ((u:Int),(v:Int))=true
      ·rw [hct]
       have HST2:Hid (stF l r u (v+1)=st):=by
        unfold Hid
        rw [HST.out]
        unfold stepF
        rw [if_pos hct]
       have HF5:Hid _:=hF5
       have HB5:Hid _:=hb5'
       clear hct HST hF5 hb5'
       go_wp2
       exact⟨⟨v+1,svs,by omega,by go_num,by rw [HST2.out];exact HF5.out,HB5.out⟩,by simp [intOf];omega⟩
      ·have hcf:st.2.contains ((u:Int),(v:Int))=false:=by simpa using hct
       rw [hcf]
       have HST2:Hid (stF l r u (v+1)=(st.1++[orb (nxD r) ((u:Int),(v:Int)) (2*l.length+1) ((u:Int),(v:Int))],st.2++orb (nxD r) ((u:Int),(v:Int)) (2*l.length+1) ((u:Int),(v:Int)))):=by
        unfold Hid
        rw [HST.out]
        unfold stepF
        rw [if_neg hct]
       have HOL:Hid ((orb (nxD r) ((u:Int),(v:Int)) (2*l.length+1) ((u:Int),(v:Int))).length≤2*l.length):=by
        unfold Hid
        have:=QoK HSP.out HSN.out (fuel:=2*l.length+1) (by have:=HSL.out;omega) ((QaM HSY.out HR.out).2 HD.out)
        have:=HSL.out
        omega
       have HOS:Hid (OrbI (nxD r) ((u:Int),(v:Int)) (2*l.length+1) [] ((u:Int),(v:Int)) (orb (nxD r) ((u:Int),(v:Int)) (2*l.length+1) ((u:Int),(v:Int)))):=by
        unfold Hid OrbI
        rfl
       generalize orb (nxD r) ((u:Int),(v:Int)) (2*l.length+1) ((u:Int),(v:Int))=O at *
       have hXd5:=HXD.out.go hb5
       have HXD5:Hid (Blk 91 w5 db [.int .i64 (u:Int),.int .i64 (v:Int)]):=hXd5
       have HF5:Hid (FI w1.heap.size (.slice po svs.length co) (.slice pm st.2.length cm) svs st w5):=hF5
       have HB5:Hid (Below w1.heap.size w1 w5):=hb5'
       have HDB:Hid (db<w5.heap.size):=hXd5.lt
       clear d0 d1
       have d0:=hXd5.cell (j:=0) rfl
       have d1:=hXd5.cell (j:=1) rfl
       have q15:=(HX1.out.go hb5').cell (j:=1) rfl
       have hb6:Below w5.heap.size w5 (w5.alloc (.cells #[.int .i64 (u:Int),.int .i64 (v:Int)] 91)):=YD.alloc YA _
       have hX6:Blk 91 (w5.alloc (.cells #[.int .i64 (u:Int),.int .i64 (v:Int)] 91)) w5.heap.size [.int .i64 (u:Int),.int .i64 (v:Int)]:=heap_alloc_new w5 _
       have HB6:Hid (Below w5.heap.size w5 (w5.alloc (.cells #[.int .i64 (u:Int),.int .i64 (v:Int)] 91))):=hb6
       have HX6:Hid (Blk 91 (w5.alloc (.cells #[.int .i64 (u:Int),.int .i64 (v:Int)] 91)) w5.heap.size [.int .i64 (u:Int),.int .i64 (v:Int)]):=hX6
       have HS6:Hid ((w5.alloc (.cells #[.int .i64 (u:Int),.int .i64 (v:Int)] 91)).heap.size=w5.heap.size+1):=by unfold Hid;simp
       clear hct hcf HST hF5 hb5' hXd5 hb6 hX6 hb5 HXD
       go_wp2
       generalize w5.alloc (.cells #[.int .i64 (u:Int),.int .i64 (v:Int)] 91)=w6 at *
       go_loopw [10,11] (fun fv xv wr=>∃ (F:List Dt) (x:Dt) (bx:Nat),xv = .pointer (some ⟨bx,0,none⟩)∧Blk 91 wr bx [.int .i64 x.1,.int .i64 x.2]∧wr.ownsRow w6.heap.size 91 2 fv F.length (flatD F)∧Hid (x∈Qah N l)∧OrbI (nxD r) ((u:Int),(v:Int)) (2*l.length+1) F x O∧fv.ownBlock≠some bx∧w5.heap.size≤bx∧Below w5.heap.size w5 wr∧w6.heap.size≤wr.heap.size) (fun fv _ _=>2*l.length+1-(lenOf fv))
       case atStart=>exact⟨[],((u:Int),(v:Int)),w5.heap.size,rfl,HX6.out,World.ownsRow_nil _ _ _ _,HD.out,HOS.out,by simp [Value.ownBlock],YA,HB6.out,YA⟩
       case round=>
        obtain⟨F,⟨x1,x2⟩,bx,rfl,hBx,hown,HXM,hOI,hobx,hbx,hbr,hszr⟩:=hrel
        obtain⟨pf,cf,rfl⟩:=Qaf hown
        have hFO:=hOI.len (by have:=HOL.out;omega)
        have hfl:(F.length:Int)≤2*(l.length:Int):=by have:=HOL.out;omega
        have HFO:Hid (F.length<O.length):=hFO
        have HOI:Hid (OrbI (nxD r) ((u:Int),(v:Int)) (2*l.length+1) F (x1,x2) O):=hOI
        have hbw:=HB5.out.trans (hbr.mono HB5.out.size)
        have e1:=(HX1.out.go hbw).cell (j:=1) rfl
        have x0:=hBx.cell (j:=0) rfl
        have x1':=hBx.cell (j:=1) rfl
        have hbxl:=hBx.lt
        have hownA:=hown.alloc (.cells #[.int .i64 x1,.int .i64 x2] 91)
        have hbA:Below wr.heap.size wr (wr.alloc (.cells #[.int .i64 x1,.int .i64 x2] 91)):=YD.alloc YA _
        have hnews:=newsD (w:=wr) (t:=91) (x1,x2)
        have hone:=oneD (x1,x2)
        have hmx:F.length+1≤maxLen:=by unfold maxLen;omega
        have hby:(F.length+1)*16≤140737488355328:=by omega
        have hbs:w6.heap.size≤(wr.alloc (.cells #[.int .i64 x1,.int .i64 x2] 91)).heap.size:=by have:=hbA.size;omega
        have hlow:∀ q,(Value.slice pf F.length cf).ownBlock=some q→w5.heap.size≤q:=fun q hq=>by have:=(hown.lt q hq).1;have:=HS6.out;omega
        have HBX:Hid (Blk 91 wr bx [.int .i64 x1,.int .i64 x2]):=hBx
        have HBR:Hid (Below w5.heap.size w5 wr):=hbr
        have HOBX:Hid ((Value.slice pf F.length cf).ownBlock≠some bx):=hobx
        clear hBx hOI hFO hobx hbw
        clear q0 q1 d0 d1 q15
        go_wp2_with (at_builtin;refine wpList_append_own_at _ rfl _ _ 92 rfl w6.heap.size 91 i0 (.agg #[.int .i64 0,.int .i64 0]) 2 16 Tryz.underlying92 hi hz0 hz1 hz2 rfl (by decide) (.slice pf F.length cf) _ _ rfl hownA ⟨wr.heap.size,0,none⟩ 1 1 (encDc (x1,x2)) rfl rfl hnews hone hmx hby hbs ?_)
        intro v7 w7 hown7 hg7 hnil7 hat7
        obtain⟨g7,k7,rfl,hg7b⟩:∃ g k,v7 = .slice (some ⟨g,0,none⟩) (F.length+1) k∧v7.ownBlock=some g:=by
         rcases hown7.2 with ⟨_,h0⟩ | ⟨g,cap,cur,h1,_⟩
         ·omega
         ·exact⟨g,cap,h1,by rw [h1];rfl⟩
        have hb7:Below w5.heap.size w5 w7:=(HBR.out.alloc HBR.out.size _).grown hg7 (by have:=HBR.out.size;have:=hbA.size;omega) hlow
        have hX7:Blk 91 w7 bx [.int .i64 x1,.int .i64 x2]:=(HBX.out.go hbA).grown hg7 (fun e=>HOBX.out e.symm)
        have hne7:g7≠bx:=by
         intro e
         rcases hat7 with h1 | h1
         ·rw [hg7b,e] at h1;exact HOBX.out h1.symm
         ·rw [hg7b] at h1
          have:=Option.some.inj h1
          have:=hbA.size
          omega
        have hs7:w6.heap.size≤w7.heap.size:=Nat.le_trans hbs hg7.size
        obtain⟨G,HG⟩:∃ G,Hid (G=F++[(x1,x2)]):=⟨_,rfl⟩
        have hGl:F.length+1=G.length:=by rw [HG.out];simp
        have hown8:w7.ownsRow w6.heap.size 91 2 (.slice (some ⟨g7,0,none⟩) G.length k7) G.length (flatD G):=by
         rw [← hGl,HG.out,Qdu];exact hown7
        rw [hGl]
        have HO8:Hid (w7.ownsRow w6.heap.size 91 2 (.slice (some ⟨g7,0,none⟩) G.length k7) G.length (flatD G)):=hown8
        have HB7:Hid (Below w5.heap.size w5 w7):=hb7
        have HX7:Hid (Blk 91 w7 bx [.int .i64 x1,.int .i64 x2]):=hX7
        clear x0 x1' e1 hown hownA hnews hone hown7 hg7 hnil7 hat7 hown8 hlow hbs
        have x0:=hX7.cell (j:=0) rfl
        have x1':=hX7.cell (j:=1) rfl
        have hbw7:=HB1.out.trans ((HB5.out.trans (hb7.mono HB5.out.size)).mono HB1.out.size)
        have hrn:=Qhz r HRR.out (x1,x2) _ w7 (HL.out.go hbw7)
        rw [QmZ HR.out HSY.out HXM.out] at hrn
        have HYM:Hid (nxD r (x1,x2)∈Qah N l):=Qn4 HR.out HSY.out HXM.out
        have HND:Hid (nxD r (x1,x2)=((u:Int),(v:Int))→G=O):=fun h=>by rw [HG.out];exact HOI.out.done (by have:=HOL.out;omega) h
        have HNN:Hid (nxD r (x1,x2)≠((u:Int),(v:Int))→OrbI (nxD r) ((u:Int),(v:Int)) (2*l.length+1) G (nxD r (x1,x2)) O):=fun h=>by rw [HG.out];exact HOI.out.next (by have:=HOL.out;omega) h
        have HGL:Hid (F.length+1=G.length∧F.length<O.length):=⟨hGl,HFO.out⟩
        clear hX7 hb7 HBX HBR HOBX HOI HFO HG hGl hbw7 HXM
        generalize nxD r (x1,x2)=y at *
        obtain⟨y1,y2⟩:=y
        go_wp2_with fail
        refine hrn.mono ?_
        clear hrn
        rintro e w8 ⟨rfl,hb8⟩
        have hX8:=HX7.out.go hb8
        clear x0 x1'
        have x0:=hX8.cell (j:=0) rfl
        have x1':=hX8.cell (j:=1) rfl
        have fx0:=hX8.frozen 0
        have fx1:=hX8.frozen 1
        have hb58:=HB7.out.trans (hb8.mono HB7.out.size)
        have hXd8:=HXD5.out.go hb58
        have d0:=hXd8.cell (j:=0) rfl
        have d1:=hXd8.cell (j:=1) rfl
        have hdbx:db≠bx:=by have:=HDB.out;omega
        have HX9:Hid (Blk 91 ((w8.setCell ⟨bx,0,none⟩ (.int .i64 y1)).setCell ⟨bx,1,none⟩ (.int .i64 y2)) bx [.int .i64 y1,.int .i64 y2]):=(hX8.set 0 (.int .i64 y1)).set 1 (.int .i64 y2)
        have HB9:Hid (Below w5.heap.size w5 ((w8.setCell ⟨bx,0,none⟩ (.int .i64 y1)).setCell ⟨bx,1,none⟩ (.int .i64 y2))):=(hb58.setCell (p:=⟨bx,0,none⟩) hbx _).setCell (p:=⟨bx,1,none⟩) hbx _
        have HO9:Hid (((w8.setCell ⟨bx,0,none⟩ (.int .i64 y1)).setCell ⟨bx,1,none⟩ (.int .i64 y2)).ownsRow w6.heap.size 91 2 (.slice (some ⟨g7,0,none⟩) G.length k7) G.length (flatD G)):=by
         refine Qa6 (Qaz HO8.out hb8) (fun q hq=>?_)
         have hq':g7=q:=by simpa [Value.ownBlock] using hq
         subst hq'
         rw [Below.heap_setCell _ _ _ _ hne7,Below.heap_setCell _ _ _ _ hne7]
        have HS9:Hid (w6.heap.size≤((w8.setCell ⟨bx,0,none⟩ (.int .i64 y1)).setCell ⟨bx,1,none⟩ (.int .i64 y2)).heap.size):=by
         have:=hb8.size
         unfold Hid
         simp
         omega
        have hbx9:bx<((w8.setCell ⟨bx,0,none⟩ (.int .i64 y1)).setCell ⟨bx,1,none⟩ (.int .i64 y2)).heap.size:=HX9.out.lt
        clear hX8 hb8 hb58 hXd8 HX7 HB7 HO8
        by_cases hyd:y1=(u:Int)∧y2=(v:Int)
        ·obtain⟨rfl,rfl⟩:=hyd
         have HGO:Hid (G=O):=HND.out rfl
         clear HND HNN
         have hF9:=HF5.out.go HB9.out
         have hbw9:=HB5.out.trans (HB9.out.mono HB5.out.size)
         have HBW9:Hid _:=hbw9
         have hownM:=hF9.met
         have hnews:=QeF (Drts.of_owns HO9.out)
         have hone:=QgW G
         have hflG:=Qa8 G
         have hGf:G.length≤8000:=by have:=HOL.out;have:=HGL.out;rw [HGO.out];omega
         have hmx2:st.2.length+G.length≤maxLen:=by unfold maxLen;omega
         have hby2:(st.2.length+G.length)*16≤140737488355328:=by omega
         have hbs2:w1.heap.size≤((w8.setCell ⟨bx,0,none⟩ (.int .i64 (u:Int))).setCell ⟨bx,1,none⟩ (.int .i64 (v:Int))).heap.size:=hbw9.size
         have hlowM:∀ q,(Value.slice pm st.2.length cm).ownBlock=some q→w1.heap.size≤q:=fun q hq=>(HF5.out.met.lt q hq).1
         have hlowO:∀ q,(Value.slice po svs.length co).ownBlock=some q→w1.heap.size≤q:=fun q hq=>(HF5.out.grp.own.lt q hq).1
         have HF9:Hid (FI w1.heap.size (.slice po svs.length co) (.slice pm st.2.length cm) svs st ((w8.setCell ⟨bx,0,none⟩ (.int .i64 (u:Int))).setCell ⟨bx,1,none⟩ (.int .i64 (v:Int)))):=hF9
         clear hF9 hbw9 HGL HYM HX9 HBW9
         go_wp2_with (at_builtin;refine wpList_append_own_at _ rfl _ _ 92 rfl w1.heap.size 91 i0 (.agg #[.int .i64 0,.int .i64 0]) 2 16 Tryz.underlying92 hi hz0 hz1 hz2 rfl (by decide) (.slice pm st.2.length cm) _ _ rfl hownM ⟨g7,0,none⟩ G.length k7 (flatD G) rfl hflG hnews hone hmx2 hby2 hbs2 ?_)
         intro v10 w10 hown10 hg10 hnil10 hat10
         obtain⟨a10,m10,k10,rfl⟩:=Qar hown10
         have hO10:w10.ownsRow w1.heap.size 92 1 (.slice po svs.length co) svs.length svs:=by
          refine Qal HF9.out.grp.own hg10 ?_
          cases hv9:(Value.slice po svs.length co).ownBlock with
          | none=>exact .inl rfl
          | some b9=>
           refine .inr fun e=>?_
           rcases HF9.out.ap1 with h1 | h1
           ·rw [h1] at e;cases e
           ·exact h1 (by rw [hv9];exact e.symm)
         have hownA2:=hO10.alloc (.cells #[.slice (some ⟨g7,0,none⟩) G.length k7] 92)
         have hnews2:=Qbc w10 (.slice (some ⟨g7,0,none⟩) G.length k7) 92
         have hone2:∀ z∈[Value.slice (some ⟨g7,0,none⟩) G.length k7],z.oneCell'=true:=YO
         have hb10:Below w1.heap.size w1 w10:=(HB5.out.trans (HB9.out.mono HB5.out.size)).grown hg10 hbs2 hlowM
         have hb11:Below w1.heap.size w1 (w10.alloc (.cells #[.slice (some ⟨g7,0,none⟩) G.length k7] 92)):=hb10.alloc hb10.size _
         have hbs3:=hb11.size
         have hmx3:svs.length+1≤maxLen:=by unfold maxLen;omega
         have hby3:(svs.length+1)*24≤140737488355328:=by omega
         have HOWN10:Hid _:=hown10
         have HG10:Hid _:=hg10
         have HAT10:Hid _:=hat10
         clear hown10 hg10 hnil10 hat10 hownM hnews hone hflG hO10
         go_wp2_with (at_builtin;refine wpList_append_own_at _ rfl _ _ 75 rfl w1.heap.size 92 j0 (.slice none 0 0) 1 24 Tryz.underlying75 hj hy0 hy1 hy2 rfl (by decide) (.slice po svs.length co) _ _ rfl hownA2 ⟨w10.heap.size,0,none⟩ 1 1 [.slice (some ⟨g7,0,none⟩) G.length k7] rfl rfl hnews2 hone2 hmx3 hby3 hbs3 ?_)
         intro v12 w12 hown12 hg12 hnil12 hat12
         obtain⟨a12,m12,k12,rfl⟩:=Qar hown12
         have HB12:Hid (Below w1.heap.size w1 w12):=hb11.grown hg12 hbs3 hlowO
         have HSZ:Hid (((w8.setCell ⟨bx,0,none⟩ (.int .i64 (u:Int))).setCell ⟨bx,1,none⟩ (.int .i64 (v:Int))).heap.size=w8.heap.size):=by unfold Hid;simp
         have hs16:w1.heap.size≤w6.heap.size:=by have:=HB5.out.size;have:=HS6.out;omega
         have HF12:Hid _:=HF9.out.add hs16 HS9.out (fun q hq=>by have:=(HF5.out.grp.own.lt q hq).2;have:=HS6.out;omega) (fun q hq=>by have:=(HF5.out.met.lt q hq).2;have:=HS6.out;omega) (fun x hx q hq=>by have:=(HF5.out.grp.lts hx hq).2;have:=HS6.out;omega) HO9.out HOWN10.out HG10.out (by rw [HSZ.out];exact HAT10.out) hown12 hg12 (by rw [World.size_alloc];exact hat12)
         clear hown12 hg12 hnil12 hat12 hownA2 hnews2 hone2 HOWN10 HG10 HAT10
         go_wp2
         exact⟨⟨v+1,svs++[.slice (some ⟨g7,0,none⟩) G.length k7],by omega,by go_num,by rw [HST2.out,← HGO.out];exact HF12.out,HB12.out⟩,by simp [intOf];omega⟩
        ·have HOI2:Hid (OrbI (nxD r) ((u:Int),(v:Int)) (2*l.length+1) G (y1,y2) O):=HNN.out (fun e=>hyd ⟨congrArg Prod.fst e,congrArg Prod.snd e⟩)
         clear HND HNN
         have HXN:Hid (Blk 91 (((w8.setCell ⟨bx,0,none⟩ (.int .i64 y1)).setCell ⟨bx,1,none⟩ (.int .i64 y2)).alloc (.cells #[.int .i64 y1,.int .i64 y2] 91)) ((w8.setCell ⟨bx,0,none⟩ (.int .i64 y1)).setCell ⟨bx,1,none⟩ (.int .i64 y2)).heap.size [.int .i64 y1,.int .i64 y2]):=heap_alloc_new _ _
         have HBN:Hid (Below w5.heap.size w5 (((w8.setCell ⟨bx,0,none⟩ (.int .i64 y1)).setCell ⟨bx,1,none⟩ (.int .i64 y2)).alloc (.cells #[.int .i64 y1,.int .i64 y2] 91))):=HB9.out.alloc HB9.out.size _
         have HON:Hid _:=HO9.out.alloc (.cells #[.int .i64 y1,.int .i64 y2] 91)
         have HLE:Hid (g7<((w8.setCell ⟨bx,0,none⟩ (.int .i64 y1)).setCell ⟨bx,1,none⟩ (.int .i64 y2)).heap.size):=(HO9.out.lt g7 rfl).2
         have HMS:Hid (2*l.length+1-G.length<2*l.length+1-F.length):=by have:=HOL.out;have:=HGL.out;unfold Hid;omega
         have HSN9:Hid (w5.heap.size≤((w8.setCell ⟨bx,0,none⟩ (.int .i64 y1)).setCell ⟨bx,1,none⟩ (.int .i64 y2)).heap.size):=HB9.out.size
         have HSZ:Hid (((w8.setCell ⟨bx,0,none⟩ (.int .i64 y1)).setCell ⟨bx,1,none⟩ (.int .i64 y2)).heap.size=w8.heap.size):=by unfold Hid;simp
         have HXN2:Hid (Blk 91 (((w8.setCell ⟨bx,0,none⟩ (.int .i64 y1)).setCell ⟨bx,1,none⟩ (.int .i64 y2)).alloc (.cells #[.int .i64 y1,.int .i64 y2] 91)) w8.heap.size [.int .i64 y1,.int .i64 y2]):=by
          have:=HXN.out
          rw [HSZ.out] at this
          exact this
         have HNB:Hid ((Value.slice (some ⟨g7,0,none⟩) G.length k7).ownBlock≠some w8.heap.size):=by
          have h1:=HLE.out
          rw [HSZ.out] at h1
          intro e
          have:g7=w8.heap.size:=by simpa [Value.ownBlock] using e
          omega
         have HS8:Hid (w5.heap.size≤w8.heap.size):=by
          have h1:=HSN9.out
          rw [HSZ.out] at h1
          exact h1
         have HS10:Hid (w6.heap.size≤(((w8.setCell ⟨bx,0,none⟩ (.int .i64 y1)).setCell ⟨bx,1,none⟩ (.int .i64 y2)).alloc (.cells #[.int .i64 y1,.int .i64 y2] 91)).heap.size):=by
          have h1:=HS9.out
          rw [HSZ.out] at h1
          unfold Hid
          rw [World.size_alloc,HSZ.out]
          omega
         clear HX9 HB9 HO9 HXN HLE HSN9 HS9 HSZ
         by_cases hy1u:y1=(u:Int)
         ·have hy2v:(y2==(v:Int))=false:=by
           rw [beq_eq_false_iff_ne]
           exact fun e=>hyd ⟨hy1u,e⟩
          subst hy1u
          clear hyd
          go_wp2
          exact⟨⟨G,((u:Int),y2),w8.heap.size,rfl,HXN2.out,HON.out,HYM,HOI2.out,HNB.out,HS8.out,HBN.out,HS10.out⟩,HMS.out⟩
         ·have hy1v:(y1==(u:Int))=false:=by
           rw [beq_eq_false_iff_ne];exact hy1u
          clear hyd hy1u
          go_wp2
          exact⟨⟨G,(y1,y2),w8.heap.size,rfl,HXN2.out,HON.out,HYM,HOI2.out,HNB.out,HS8.out,HBN.out,HS10.out⟩,HMS.out⟩
     ·rw [inB_false.2 (fun h=>hmem (hme.1 h))] at hhas
      have HST:Hid _:=HSO.out hmem
      clear HSM HSO HDM hme hmem hin
      go_wp2_with fail
      generalize hdb:wr.heap.size=db at *
      generalize wr.alloc (.cells #[.int .i64 (u:Int),.int .i64 (v:Int)] 91)=w3 at *
      refine hhas.mono ?_
      clear hhas
      rintro e w4 ⟨rfl,rfl⟩
      go_wp2
      exact⟨⟨v+1,svs,by omega,by go_num,by rw [HST.out];exact HF3.out,HB3.out⟩,by simp [intOf];omega⟩
    ·have hvn:¬ (v:Int)<(N:Int):=by omega
     have HVN:Hid (v=N):=by unfold Hid;omega
     have HF:Hid _:=hF
     have HB:Hid _:=hb
     clear hF hb hv hvl
     go_wp2
     exact⟨⟨u+1,svs,by omega,by go_num,by rw [← QmD HR.out,← HVN.out];exact HF.out,HB.out⟩,by simp [intOf];omega⟩
  ·have hun:¬ (u:Int)<(N:Int):=by omega
   have HUN:Hid (u=N):=by unfold Hid;omega
   obtain⟨po,co,rfl⟩:=Qaf hF.grp.own
   have HF:Hid (GrpD w.heap.size (.slice po svs.length co) svs (facesL N l r) wr∧Below w.heap.size w wr):=by
    refine⟨?_,HB1.out.trans (hb.mono HB1.out.size)⟩
    rw [← QeI HR.out,← HUN.out]
    exact hF.grp.base HB1.out.size
   clear hF hb hlt hu
   go_wp2
   go_ret
   exact⟨.slice po svs.length co,rfl,⟨svs,HF.out.1⟩,HF.out.2⟩
theorem Qpx {w:World}{t:TypeId}(x:Value):∀ (i:Nat) (u:Value),[x][i]? = some u→(w.alloc (.cells #[x] t)).cell? ((⟨w.heap.size,0,none⟩:Addr).add i)=some u:=by
 intro i u hu
 rw [Go.WideShapes.add_plain,Nat.zero_add]
 match i,hu with
 | 0,hu=>cases hu;simp
def preU (l:List Ed)(u v:Nat):List Int:=((List.range v).filter fun (y:Nat)=>decide (0≤findP l (u:Int) (y:Int))).map fun (y:Nat)=>(y:Int)
theorem QoI {l:List Ed}{u v:Nat}(h:0≤findP l (u:Int) (v:Int)):preU l u (v+1)=preU l u v++[(v:Int)]:=by
 unfold preU
 rw [List.range_succ,List.filter_append,List.map_append]
 simp [h]
theorem QmL {l:List Ed}{u v:Nat}(h:findP l (u:Int) (v:Int)<0):preU l u (v+1)=preU l u v:=by
 unfold preU
 rw [List.range_succ,List.filter_append,List.map_append]
 have:¬ 0≤findP l (u:Int) (v:Int):=by omega
 simp [this]
theorem QmM (l:List Ed)(u v:Nat):(preU l u v).length≤v:=by
 unfold preU
 rw [List.length_map]
 exact Nat.le_trans (List.length_filter_le _ _) (by simp)
theorem findP_iff {l:List Ed}{u v:Int}:0≤findP l u v↔∃ e∈l,endsB u v e=true:=by
 unfold findP
 cases h:l.findIdx? (endsB u v) with
 | none=>
  rw [List.findIdx?_eq_none_iff] at h
  constructor
  ·intro h0;simp at h0
  ·rintro⟨e,he,hb⟩;rw [h e he] at hb;cases hb
 | some i=>
  rw [List.findIdx?_eq_some_iff_getElem] at h
  obtain⟨h1,h2,_⟩:=h
  exact⟨fun _=>⟨_,YG h1,h2⟩,fun _=>by simp only;omega⟩
theorem Qd8:∀ (a b:List Int),a.Pairwise (· < ·)→b.Pairwise (· < ·)→(∀ x,x∈a↔x∈b)→a=b
 | [],[],_,_,_=>rfl
 | [],y :: b,_,_,h=>by have:=(h y).2 (List.mem_cons_self ..);cases this
 | x :: a,[],_,_,h=>by have:=(h x).1 (List.mem_cons_self ..);cases this
 | x :: a,y :: b,ha,hb,h=>by
  rw [List.pairwise_cons] at ha hb
  have hxy:x=y:=by
   have h1:=(h x).1 (List.mem_cons_self ..)
   have h2:=(h y).2 (List.mem_cons_self ..)
   rcases List.mem_cons.1 h1 with e | h1
   ·exact e
   ·rcases List.mem_cons.1 h2 with e | h2
    ·exact e.symm
    ·have:=hb.1 x h1;have:=ha.1 y h2;omega
  subst hxy
  rw [Qd8 a b ha.2 hb.2 fun z=>?_]
  constructor
  ·intro hz
   rcases List.mem_cons.1 ((h z).1 (List.mem_cons_of_mem _ hz)) with e | h1
   ·have:=ha.1 z hz;omega
   ·exact h1
  ·intro hz
   rcases List.mem_cons.1 ((h z).2 (List.mem_cons_of_mem _ hz)) with e | h1
   ·have:=hb.1 z hz;omega
   ·exact h1
theorem QkP (l:List Ed)(u v:Nat):(preU l u v).Pairwise (· < ·):=by
 unfold preU
 rw [List.pairwise_map]
 refine (List.Pairwise.filter _ List.pairwise_lt_range).imp ?_
 intro a b h;omega
theorem QkQ {N:Nat}{l:List Ed}(hR:RightG (N:Int) l)(u:Nat):preU l u N=nb l (u:Int):=by
 refine Qd8 _ _ (QkP l u N) (Qco hR _) fun x=>?_
 unfold preU
 rw [List.mem_map]
 constructor
 ·rintro⟨y,hy,rfl⟩
  rw [List.mem_filter] at hy
  obtain⟨e,he,hb⟩:=findP_iff.1 (of_decide_eq_true hy.2)
  have hlt:=(hR.each e he).2
  refine mem_nb.2 ⟨e,he,?_⟩
  simp only [endsB,Bool.or_eq_true,Bool.and_eq_true,decide_eq_true_eq] at hb
  omega
 ·intro hx
  obtain⟨_,h0,h1,_⟩:=QaZ hR hx
  obtain⟨e,he,hc⟩:=mem_nb.1 hx
  refine⟨x.toNat,?_,by omega⟩
  rw [List.mem_filter]
  refine⟨List.mem_range.2 (by omega),decide_eq_true (findP_iff.2 ⟨e,he,?_⟩)⟩
  simp only [endsB,Bool.or_eq_true,Bool.and_eq_true,decide_eq_true_eq]
  omega
structure RNear (N g H:Nat)(l:List Ed)(u:Nat)(s:Value)(pre:List Int)(vs:List Value)(W:World):Prop where
 row:Blk 27 W g vs
 len:vs.length=N
 out:g<H
 hi:H≤W.heap.size
 old:∀ i,i<u→i<N→∃ s,vs[i]? = some s∧W.ownsRow (g+1) 3 1 s (nb l (i:Int)).length ((nb l (i:Int)).map (Value.int .i64))∧∀ k,s.ownBlock=some k→k<H
 new:∀ i,u<i→i<N→vs[i]? = some (.slice none 0 0)
 here:vs[u]? = some s
 own:W.ownsRow H 3 1 s pre.length (pre.map (Value.int .i64))
theorem RNear.go {N g H:Nat}{l:List Ed}{u:Nat}{s:Value}{pre:List Int}{vs:List Value}{A B:World}(h:RNear N g H l u s pre vs A)(hb:Below A.heap.size A B):RNear N g H l u s pre vs B:=
 ⟨h.row.go hb,h.len,h.out,Nat.le_trans h.hi hb.size,fun i hi hN=>by
  obtain⟨s,h1,h2,h3⟩:=h.old i hi hN
  exact⟨s,h1,Qaz h2 hb,h3⟩,h.new,h.here,Qaz h.own hb⟩
theorem RNear.push {N g H:Nat}{l:List Ed}{u:Nat}{s s':Value}{pre:List Int}{vs:List Value}{A B:World}(h:RNear N g H l u s pre vs A)(y:Int)
  (hown:B.ownsRow H 3 1 s' (pre.length+1) (pre.map (Value.int .i64)++[.int .i64 y])) (hg:A.grownBy B s.ownBlock) :
  RNear N g H l u s' (pre++[y]) (vs.set u s') (B.setCell ⟨g,u,none⟩ s'):=by
 have hu:u<vs.length:=(YE h.here).1
 have hgo:=h.out
 have hne:some g≠s.ownBlock:=fun e=>by have:=(h.own.lt g e.symm).1;omega
 refine⟨(h.row.grown hg hne).set u s',by rw [List.length_set];exact h.len,h.out,?_,fun i hi hN=>?_,fun i hi hN=>?_,?_,?_⟩
 ·have:=hg.size;have:=h.hi;simp;omega
 ·obtain⟨si,h1,h2,h3⟩:=h.old i hi hN
  refine⟨si,by rw [List.getElem?_set_ne (by omega)];exact h1,QfF (h2.kept hg ?_) (by simp) _,h3⟩
  cases hk:si.ownBlock with
  | none=>exact .inl rfl
  | some k=>exact .inr fun e=>by have:=h3 k hk;have:=(h.own.lt k e.symm).1;omega
 ·rw [List.getElem?_set_ne (by omega)];exact h.new i hi hN
 ·rw [List.getElem?_set_self hu]
 ·refine QfF ?_ (by simpa using h.out) _
  rw [YI,List.map_append]
  exact hown
theorem RNear.next {N g H:Nat}{l:List Ed}{u:Nat}{s:Value}{vs:List Value}{W:World}(h:RNear N g H l u s (nb l (u:Int)) vs W)(hu:u+1<N):RNear N g W.heap.size l (u+1) (.slice none 0 0) [] vs W:=
 ⟨h.row,h.len,h.row.lt,YA,fun i hi hN=>by
  by_cases e:i=u
  ·subst e
   exact⟨s,h.here,QaH h.own (by have:=h.out;omega),fun k hk=>(h.own.lt k hk).2⟩
  ·obtain⟨si,h1,h2,h3⟩:=h.old i (by omega) hN
   exact⟨si,h1,h2,fun k hk=>(h2.lt k hk).2⟩,fun i hi hN=>h.new i (by omega) hN,h.new (u+1) (by omega) hu,World.ownsRow_nil _ _ _ _⟩
def RDone (N g:Nat)(l:List Ed)(vs:List Value)(W:World):Prop:=
 Blk 27 W g vs∧vs.length=N∧∀ i,i<N→∃ s,vs[i]? = some s∧W.ownsRow (g+1) 3 1 s (nb l (i:Int)).length ((nb l (i:Int)).map (Value.int .i64))
theorem RNear.done {N g H:Nat}{l:List Ed}{u:Nat}{s:Value}{vs:List Value}{W:World}(h:RNear N g H l u s (nb l (u:Int)) vs W)(hu:u+1=N):RDone N g l vs W:=
 ⟨h.row,h.len,fun i hi=>by
  by_cases e:i=u
  ·subst e
   exact⟨s,h.here,QaH h.own (by have:=h.out;omega)⟩
  ·obtain⟨si,h1,h2,h3⟩:=h.old i (by omega) hi
   exact⟨si,h1,h2⟩⟩
theorem Qk4 {W:World}{base:Nat}{e:TypeId}{v:Value}{xs:List Int}{n:Nat}(h:W.ownsRow base e 1 v n (xs.map (Value.int .i64)))(hn:xs.length=n):Ints W.heap.size W v xs:=by
 rcases QcR h with ⟨p,c,rfl⟩
 rcases h.2 with ⟨h2,_⟩ | ⟨g,cap,cur,hv,_⟩
 ·have:xs=[]:=by
   cases xs with
   | nil=>rfl
   | cons x xs=>simp only [Value.slice.injEq] at h2;simp at hn;omega
  subst this
  simp at hn;subst hn
  exact Vals.nil _ _ _ _
 ·simp only [Value.slice.injEq] at hv
  obtain⟨rfl,_,rfl⟩:=hv
  obtain⟨rest,hB,h1,h3,_,_⟩:=Qbh h
  subst hn
  exact .inr ⟨g,0,_,rfl,hB.lt,by omega,fun j x hx=>by
   rw [Nat.zero_add]
   refine hB.cell ?_
   have hj:=(YE hx).1
   rw [List.getElem?_append_left (by simpa using hj),YH,hx];rfl⟩
theorem RDone.lsts {N g:Nat}{l:List Ed}{vs:List Value}{W:World}(h:RDone N g l vs W):Lsts W.heap.size W (.slice (some ⟨g,0,none⟩) N N) (nearL N l):=by
 obtain⟨h1,h2,h3⟩:=h
 refine .inr ⟨g,0,N,by rw [QaA],h1.lt,by rw [QaA];exact YA,fun j x hx=>?_⟩
 have hj:j<N:=by have:=(YE hx).1;rwa [QaA] at this
 rw [QcW hj] at hx
 cases hx
 obtain⟨s,h4,h5⟩:=h3 j hj
 exact⟨s,by rw [Nat.zero_add];exact h1.cell h4,Qk4 h5 rfl⟩
theorem RNear.start {N g:Nat}{l:List Ed}{W:World}(h:Blk 27 W g (List.replicate N (.slice none 0 0)))(hN:0<N):RNear N g W.heap.size l 0 (.slice none 0 0) [] (List.replicate N (.slice none 0 0)) W:=
 ⟨h,by simp,h.lt,YA,fun i hi=>by omega,fun i _ hi=>by rw [List.getElem?_replicate,if_pos hi],by rw [List.getElem?_replicate,if_pos hN],World.ownsRow_nil _ _ _ _⟩
theorem QhA (N:Nat)(l:List Ed)(hR:RightG (N:Int) l)(sv:Value)(w:World)(hl:Edges w.heap.size w sv l):
  Calls Tryz.prog 69 #[.agg #[.int .i64 (N:Int),sv]] w fun r w'=>∃ nv,r = .returned nv∧Lsts w'.heap.size w' nv (nearL N l)∧Below w.heap.size w w':=by
 have hg1:Grew w (w.alloc (.cells #[.int .i64 (N:Int),sv] 24)):=(Grew.refl w).alloc _
 obtain⟨p,c,rfl⟩:=hl.len
 obtain⟨i0,hi,hz0,hz1,hz2⟩:=info_parts infoS
 obtain⟨k0,hki,hkz0,hkz1,hkz2⟩:=info_parts infoI
 have hn1:=hR.n1
 have hm1:=hR.m1
 go_enter Tryz.func69,Tryz.ntmps69
 go_wp2_with (at_make;refine wpList_make_full _ rfl _ _ 35 rfl (w.heap.size+1) 27 i0 (.slice none 0 0) 1 Tryz.underlying35 hi hz0 hz1 .i64 .i64 _ _ N rfl rfl rfl rfl (by rw [hz2];omega) (by unfold maxLen;omega) (by simp) ?_;intro w3 hown hgrow;have hb3:Below (w.heap.size+1) (w.alloc (.cells #[.int .i64 (N:Int),.slice p l.length c] 24)) w3:=YD.grown hgrow (by simp) (fun k e=>by cases e);have x0:w3.cell? ⟨w.heap.size,0,none⟩=some (.int .i64 (N:Int)):=(hb3.cell (p:=⟨w.heap.size,0,none⟩) (by simp)).trans (by simp);have x1:w3.cell? ⟨w.heap.size,1,none⟩=some (.slice p l.length c):=(hb3.cell (p:=⟨w.heap.size,1,none⟩) (by simp)).trans (by simp))
 have hrow:=Blk.made hown
 rw [Qd9] at hrow
 simp only [World.size_alloc] at hrow
 have hgl3:=hrow.lt
 have hbw3:Below w.heap.size w w3:=hg1.below.trans (hb3.mono (by omega))
 clear hown hgrow hi hz0 hz1 hz2 hb3
 have hst:0<N→RNear N (w.heap.size+1) w3.heap.size l 0 (.slice none 0 0) [] (List.replicate N (.slice none 0 0)) w3:=fun h=>RNear.start hrow h
 have hsd:0=N→RDone N (w.heap.size+1) l (List.replicate N (.slice none 0 0)) w3:=fun h=>⟨hrow,by simp,fun i hi=>by omega⟩
 go_loopw [4] (fun i wr=>∃ (u H:Nat) (vs:List Value),u≤N∧i = .int .i64 u∧(u<N→RNear N (w.heap.size+1) H l u (.slice none 0 0) [] vs wr)∧(u=N→RDone N (w.heap.size+1) l vs wr)∧Below (w.heap.size+1) w3 wr) (fun i _=>N-(intOf i).toNat)
 case atStart=>exact⟨0,_,_,YN,rfl,hst,hsd,YD⟩
 case round=>
  obtain⟨u,H,vs,hu,rfl,hrn,hrd,hb⟩:=hrel
  have y0:=(hb.cell (p:=⟨w.heap.size,0,none⟩) (by simp)).trans x0
  have y1:=(hb.cell (p:=⟨w.heap.size,1,none⟩) (by simp)).trans x1
  by_cases hlt:u<N
  ·have hRN:=hrn hlt
   have huN:(u:Int)<(N:Int):=by omega
   clear hrn hrd hst hsd hrow
   go_wp2
   clear y0 y1
   go_loopw [5] (fun i wr2=>∃ (v:Nat) (s:Value) (vs:List Value),v≤N∧i = .int .i64 v∧RNear N (w.heap.size+1) H l u s (preU l u v) vs wr2∧Below (w.heap.size+1) w3 wr2) (fun i _=>N-(intOf i).toNat)
   case atStart=>exact⟨0,_,_,YN,rfl,hRN,hb⟩
   case round=>
    obtain⟨v,s,vs2,hv,rfl,hI,hb2⟩:=hrel
    clear hRN hb
    have z0:=(hb2.cell (p:=⟨w.heap.size,0,none⟩) (by simp)).trans x0
    have z1:=(hb2.cell (p:=⟨w.heap.size,1,none⟩) (by simp)).trans x1
    have hbw:Below w.heap.size w wr:=hbw3.trans (hb2.mono (by omega))
    have hgw:=hI.row.lt
    by_cases hlv:v<N
    ·have hvN:(v:Int)<(N:Int):=by omega
     have hfd:=QhB (N:Int) l hm1 (u:Int) (v:Int) (.slice p l.length c) wr (hl.go hbw)
     by_cases hf:0≤findP l (u:Int) (v:Int)
     ·have HP:Hid _:=QoI hf
      generalize findP l (u:Int) (v:Int)=k at hfd hf
      go_wp2_with fail
      refine hfd.mono ?_
      rintro e w5 ⟨rfl,hg5⟩
      have hI6:=hI.go (hg5.trans ((Grew.refl w5).alloc (.cells #[.int .i64 (v:Int)] 3))).below
      have hI5:=hI.go hg5.below
      have hb5:Below (w.heap.size+1) w3 w5:=hb2.trans (hg5.below.mono (by omega))
      clear hfd hI z0 z1
      obtain⟨ps,cs,rfl⟩:=QcR hI5.own
      have k1:=hI5.row.cell hI5.here
      have hpl:=QmM l u v
      have hown6:=hI6.own
      have hne:some (w.heap.size+1)≠(Value.slice ps (preU l u v).length cs).ownBlock:=fun e=>by have:=(hI6.own.lt _ e.symm).1;have:=hI6.out;omega
      have hlow:∀ k,(Value.slice ps (preU l u v).length cs).ownBlock=some k→w.heap.size+1≤k:=fun k e=>by have:=(hI6.own.lt _ e).1;have:=hI6.out;omega
      have hnw:∀ (i:Nat) (x:Value),[Value.int .i64 (v:Int)][i]? = some x→(w5.alloc (.cells #[.int .i64 (v:Int)] 3)).cell? ((⟨w5.heap.size,0,none⟩:Addr).add i)=some x:=Qpx _
      have hmx:(preU l u v).length+1≤maxLen:=by unfold maxLen;omega
      have hby:((preU l u v).length+1)*8≤140737488355328:=by omega
      have hbs:=hI6.hi
      have hb6:Below (w.heap.size+1) w3 (w5.alloc (.cells #[.int .i64 (v:Int)] 3)):=hb5.alloc (by have:=hg5.below.size;omega) _
      have hs6:w.heap.size+1≤(w5.alloc (.cells #[.int .i64 (v:Int)] 3)).heap.size:=by have:=hg5.below.size;simp;omega
      have hvl:(u:Int)<(N:Int):=huN
      go_wp2_with (at_builtin;refine wpList_append_own_at _ rfl _ _ 27 rfl H 3 k0 (.int .i64 0) 1 8 Tryz.underlying27 hki hkz0 hkz1 hkz2 (by simp [Value.cells]) (by decide) (.slice ps (preU l u v).length cs) _ _ rfl hown6 ⟨w5.heap.size,0,none⟩ 1 1 [.int .i64 (v:Int)] rfl rfl hnw (by simp [Value.oneCell']) hmx hby hbs ?_;intro v6 w6 hown7 hgrow7 hnil7 hat7;obtain⟨p6,c6,rfl⟩:=QcR hown7;have hr7:=hI6.row.grown hgrow7 hne;have k6:=hr7.cell hI6.here;have f6:=hr7.frozen u)
      have hpu:=hI6.push (v:Int) hown7 hgrow7
      have hb7:Below (w.heap.size+1) w3 w6:=hb6.grown hgrow7 hs6 hlow
      rw [← HP.out] at hpu
      exact⟨⟨v+1,_,_,by omega,by go_num,hpu,hb7.setCell (p:=⟨w.heap.size+1,u,none⟩) YA _⟩,by simp [intOf];omega⟩
     ·have hf':findP l (u:Int) (v:Int)<0:=by omega
      have HP:Hid _:=QmL hf'
      clear hf
      generalize findP l (u:Int) (v:Int)=k at hfd hf'
      go_wp2_with fail
      refine hfd.mono ?_
      rintro e w5 ⟨rfl,hg5⟩
      have hI5:=hI.go hg5.below
      have hb5:Below (w.heap.size+1) w3 w5:=hb2.trans (hg5.below.mono (by omega))
      clear hfd hI z0 z1
      go_wp2
      refine⟨⟨v+1,s,vs2,by omega,by go_num,?_,hb5⟩,by simp [intOf];omega⟩
      rw [HP.out]
      exact hI5
    ·obtain rfl:v=N:=by omega
     rw [QkQ hR] at hI
     have hnx:=fun h=>hI.next h
     have hdn:=fun h=>hI.done h
     go_wp2
     exact⟨⟨u+1,_,vs2,by omega,by go_num,hnx,hdn,hb2⟩,by simp [intOf];omega⟩
  ·obtain rfl:u=N:=by omega
   have hL:=(hrd rfl).lsts
   go_wp2
   go_ret
   exact⟨_,rfl,hL,hbw3.trans (hb.mono (by omega))⟩
end Go.Proofs.YtalflecmadacaaaGreat
