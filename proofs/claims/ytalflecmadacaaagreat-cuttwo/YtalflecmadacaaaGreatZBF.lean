import Derived.Deep.QuietTactic
import Derived.BigQuiet
import Derived.Test.YtalflecmadacaaaGreatZBE
import Derived.Test.YtalflecmadacaaaGreatZAC
import Derived.Test.YtalflecmadacaaaGreatZAH
import Derived.OwnWalk
import Derived.Test.YtalflecmadacaaaGreatZAB
set_option maxRecDepth 100000
set_option maxHeartbeats 8000000
namespace Go.Proofs.YtalflecmadacaaaGreat
open Go Go.Proofs Go.RowKit
def c0P (N:Nat)(es:List Ed)(j:Nat):List Int:=(List.range N).map fun (v:Nat)=>if v<j∧(labAt N es N).getD v 0=(v:Int) then 1 else 0
theorem Qf1 (N:Nat)(es:List Ed)(j:Nat):(c0P N es j).length=N:=by simp [c0P]
theorem QiW {N:Nat}{es:List Ed}{j v:Nat}(h:v<N):(c0P N es j)[v]? = some (if v<j∧(labAt N es N).getD v 0=(v:Int) then 1 else 0):=by simp [c0P,h]
theorem QnK (N:Nat)(es:List Ed):c0P N es 0=List.replicate N 0:=by
 apply List.ext_getElem?
 intro i
 by_cases h:i<N
 ·rw [QiW h];simp [h]
 ·rw [YL (by rw [Qf1];omega),YL (by simp;omega)]
theorem QnL (N:Nat)(es:List Ed):c0P N es N=c0L N es:=by
 unfold c0P c0L
 refine List.map_congr_left fun v hv=>?_
 have hv':=List.mem_range.1 hv
 simp [hv']
theorem Qpd {N:Nat}{es:List Ed}{j:Nat}(h:(labAt N es N).getD j 0=(j:Int)):(c0P N es j).set j 1=c0P N es (j+1):=by
 apply List.ext_getElem?
 intro i
 by_cases hi:i<N
 ·rw [List.getElem?_set,Qf1,QiW hi,QiW hi]
  by_cases e:j=i
  ·subst e
   rw [if_pos rfl,if_pos hi,if_pos ⟨by omega,h⟩]
  ·rw [if_neg e]
   congr 1
   have:(i<j↔i<j+1):=by omega
   simp only [this]
 ·rw [YL (by rw [List.length_set,Qf1];omega),YL (by rw [Qf1];omega)]
theorem QpM {N:Nat}{es:List Ed}{j:Nat}(h:¬ (labAt N es N).getD j 0=(j:Int)):c0P N es (j+1)=c0P N es j:=by
 unfold c0P
 refine List.map_congr_left fun v _=>?_
 by_cases e:v=j
 ·subst e
  rw [if_neg (fun a=>h a.2),if_neg (fun a=>h a.2)]
 ·have:(v<j+1↔v<j):=by omega
  simp only [this]
def Qcw (L:List Int)(l:List Ed):Prop:=∀ e∈l,L.getD e.1.toNat 0≠L.getD e.2.1.toNat 0
def cIn (N:Nat)(es:List Ed)(i k:Nat):List Int:=(es.take k).foldl tint (cAt N es i)
theorem Qic (N:Nat)(es:List Ed)(i k:Nat):(cIn N es i k).length=N:=by unfold cIn;rw [QbP,Qbw]
theorem QnJ (N:Nat)(es:List Ed)(i:Nat):cIn N es i es.length=cAt N es (i+1):=by unfold cIn;rw [List.take_length];rfl
theorem QnI {N:Nat}{es:List Ed}{i k:Nat}(h:k<es.length):cIn N es i (k+1)=tint (cIn N es i k) es[k]:=by
 unfold cIn
 rw [List.take_add_one,YB h,List.foldl_append]
 rfl
theorem QiV {N:Nat}{es:List Ed}(hE:Ends N es)(i k:Nat):Cols (cIn N es i k):=
 QeD (fun e he=>hE e (List.mem_of_mem_take he)) (Qbw N es i) (QdV hE i)
def twoL (L:List Int)(N j:Nat):List Bool:=(List.range N).map fun v=>if v<j then L.getD v 0==2 else false
theorem Qkg (L:List Int)(N:Nat):twoL L N 0=List.replicate N false:=by
 apply List.ext_getElem?
 intro i
 by_cases h:i<N
 ·simp [twoL,h]
 ·simp [twoL,h]
theorem Qkh {L:List Int}{N j:Nat}:(twoL L N j).set j (L.getD j 0==2)=twoL L N (j+1):=by
 apply List.ext_getElem?
 intro i
 by_cases h:i<N
 ·rw [List.getElem?_set]
  by_cases e:j=i
  ·subst e
   simp [twoL,h]
  ·rw [if_neg e]
   by_cases hi:i<j
   ·simp [twoL,h,hi,show i<j+1 by omega]
   ·simp [twoL,h,hi,show ¬ i<j+1 by omega]
 ·rw [YL (by simp [twoL];omega),YL (by simp [twoL];omega)]
theorem Qi5 {L:List Int}{e:Ed}{u v:Nat}{N:Nat}(hL:L.length=N)(hu:e.1.toNat=u)(hv:e.2.1.toNat=v)(hvN:v<N)(h1:L.getD u 0≠0)(h2:L.getD v 0=0):tint L e=L.set v (3-L.getD u 0):=by
 unfold tint
 rw [hu,hv]
 have e1:tint1 L u v=L.set v (3-L.getD u 0):=by unfold tint1;rw [if_pos ⟨h1,h2⟩]
 have hk:=Qbz (u:=u) (v:=v) (L:=L) (by omega) h1
 have e2:tint1 (tint1 L u v) v u=tint1 L u v:=by
  conv=>lhs;unfold tint1
  exact if_neg (fun h=>by
   have h3:=h.2
   have h4:(tint1 L u v).getD u 0=0:=h3
   rw [hk] at h4
   exact h1 h4)
 rw [e2,e1]
theorem Qhg {L:List Int}{e:Ed}{u v:Nat}(hu:e.1.toNat=u)(hv:e.2.1.toNat=v)(h1:L.getD u 0=0)(h2:L.getD v 0≠0):tint L e=L.set u (3-L.getD v 0):=by
 unfold tint
 rw [hu,hv]
 have e1:tint1 L u v=L:=by unfold tint1;exact if_neg (fun h=>h.1 h1)
 rw [e1]
 unfold tint1
 exact if_pos ⟨h2,h1⟩
theorem Qkk {L:List Int}{e:Ed}{u v:Nat}(hu:e.1.toNat=u)(hv:e.2.1.toNat=v)(h:L.getD u 0=0↔L.getD v 0=0):tint L e=L:=by
 unfold tint
 rw [hu,hv]
 have e1:tint1 L u v=L:=by unfold tint1;exact if_neg (fun a=>a.1 (h.2 a.2))
 rw [e1]
 unfold tint1
 exact if_neg (fun a=>a.1 (h.1 a.2))
theorem Qjm (N:Nat)(l:List Ed)(hR:RightG (N:Int) l)(sv:Value)(w:World)(hl:Edges w.heap.size w sv l):
  Calls Tryz.prog 25 #[.agg #[.int .i64 (N:Int),sv]] w fun r w'=>((Qcw (cAt N l N) l∧∃ bv,r = .returned (.tuple #[bv,.bool true])∧Bools w'.heap.size w' bv (twoL (cAt N l N) N N))∨(¬ Qcw (cAt N l N) l∧r = .returned (.tuple #[.slice none 0 0,.bool false])))∧Below w.heap.size w w':=by
 have hmix:=mixed
 obtain⟨i0,hi,hz0,hz1,hz2⟩:=info_parts infoI
 obtain⟨j0,kj,kz0,kz1,kz2⟩:=info_parts QpH
 have hE:=Qao hR
 have hn1:=hR.n1
 have hm1:=hR.m1
 obtain⟨p,c,rfl⟩:=hl.len
 have hb1:Below w.heap.size w (w.alloc (.cells #[.int .i64 (N:Int),.slice p l.length c] 24)):=YD.alloc YA _
 have q0:(w.alloc (.cells #[.int .i64 (N:Int),.slice p l.length c] 24)).cell? ⟨w.heap.size,0,none⟩=some (.int .i64 (N:Int)):=Qam rfl rfl
 have q1:(w.alloc (.cells #[.int .i64 (N:Int),.slice p l.length c] 24)).cell? ⟨w.heap.size,1,none⟩=some (.slice p l.length c):=Qam rfl rfl
 have hsz1:(w.alloc (.cells #[.int .i64 (N:Int),.slice p l.length c] 24)).heap.size=w.heap.size+1:=by simp
 go_enter Tryz.func25,Tryz.ntmps25
 go_wp2_with (at_make;refine wpList_make_full _ rfl _ _ 27 rfl 0 3 i0 (.int .i64 0) 1 Tryz.underlying27 hi hz0 hz1 .i64 .i64 _ _ N rfl rfl rfl rfl (by rw [hz2];omega) (by unfold maxLen;omega) YN ?_;intro w2 hown hgrow;have hb2:Below (w.heap.size+1) (w.alloc (.cells #[.int .i64 (N:Int),.slice p l.length c] 24)) w2:=YD.grown hgrow (by rw [hsz1];exact YA) (fun k e=>by cases e);have s0:=(hb2.cell (p:=⟨w.heap.size,0,none⟩) (Nat.lt_succ_self _)).trans q0;have s1:=(hb2.cell (p:=⟨w.heap.size,1,none⟩) (Nat.lt_succ_self _)).trans q1)
 have hC2:=Blk.made hown
 rw [QaK,← QnK N l,hsz1] at hC2
 have hbw2:=hb1.trans (hb2.mono (by omega))
 have hl2:=hl.go hbw2
 clear hown hgrow q0 q1
 have hcg:=hC2.lt
 refine (QcM N l hR _ _ hl2).mono ?_
 rintro e w3 ⟨lg,rfl,hLg,hlgt,hb3⟩
 have hC3:=hC2.go hb3
 have t0:=Qad hb3 s0
 have t1:=Qad hb3 s1
 have hbw3:=hbw2.trans (hb3.mono hbw2.size)
 have hne:lg≠w.heap.size+1:=by omega
 have hxw:w.heap.size<w3.heap.size:=World.block_lt_of_cell? w3 ⟨w.heap.size,0,none⟩ t0
 have HLab:Hid (∀ v,v<N→w3.cell? ⟨lg,v,none⟩=some (.int .i64 ((labAt N l N).getD v 0))):=fun v hv=>hLg.cell (by rw [YH,YB (by rw [QaB];exact hv)];simp [show v<(labAt N l N).length by rw [QaB];exact hv])
 have hcl3:w.heap.size+1<w3.heap.size:=hC3.lt
 have HR:Hid _:=hR
 have HEn:Hid _:=hE
 have HC3:Hid (Blk 3 w3 (w.heap.size+1) ((c0P N l 0).map (Value.int .i64))):=hC3
 clear hC2 hb2 hb3 s0 s1 hbw2 hl2 hLg hC3 hR hE hb1 hsz1 hcg
 generalize hcb:w.heap.size+1=cb at *
 have hxcb:w.heap.size<cb:=by omega
 clear hcb
 generalize hxb:w.heap.size=xb at t0 t1 hxw hxcb ⊢
 go_wp2
 go_loopw [6] (fun iv wr=>∃ j:Nat,j≤N∧iv = .int .i64 j∧Hid (Blk 3 wr cb ((c0P N l j).map (Value.int .i64)))∧Hid (w3.grownBy wr (some cb))) (fun i _=>N-(intOf i).toNat)
 case atStart=>exact⟨0,YN,rfl,HC3.out,⟨rfl,rfl,rfl,YA,fun _ _ _=>rfl⟩⟩
 case round=>
  obtain⟨j,hj,rfl,HC,HG⟩:=hrel
  have r0:=HG.out.cell t0 (by simp;omega)
  by_cases hlt:j<N
  ·have a0:=HG.out.cell (HLab.out j hlt) (by simp;omega)
   have hjl:(j:Int)<(N:Int):=by omega
   obtain⟨z,hz⟩:∃ z,wr.cell? ⟨cb,j,none⟩=some z:=⟨_,HC.out.cell (by rw [YH,QiW hlt];rfl)⟩
   have fz:=HC.out.frozen j
   have HC2:Hid _:=HC.out.set j (.int .i64 1)
   have HG2:Hid (w3.grownBy (wr.setCell ⟨cb,j,none⟩ (.int .i64 1)) (some cb)):=⟨HG.out.os,HG.out.tape,HG.out.output,by simp;exact HG.out.size,fun k hk hne=>(Below.heap_setCell _ _ _ _ (fun e=>hne (by rw [e]))).trans (HG.out.block k hk hne)⟩
   by_cases hr:(labAt N l N).getD j 0=(j:Int)
   ·rw [hr] at a0
    have HY:Hid _:=Qpd hr
    clear hr
    go_wp2
    refine⟨⟨j+1,by omega,by go_num,?_,HG2.out⟩,by simp [intOf];omega⟩
    unfold Hid
    rw [← HY.out,List.map_set]
    exact HC2.out
   ·have HN:Hid _:=QpM hr
    generalize (labAt N l N).getD j 0=lj at *
    have hr':(lj==(j:Int))=false:=by simpa using hr
    go_wp2
    refine⟨⟨j+1,by omega,by go_num,?_,HG.out⟩,by simp [intOf];omega⟩
    rw [HN.out]
    exact HC.out
  ·obtain rfl:N=j:=by omega
   have hjl:¬ (N:Int)<(N:Int):=by omega
   rw [QnL] at HC
   clear HLab HC3
   generalize wr=wq at *
   go_wp2
   go_loopw [7] (fun iv wr=>∃ i:Nat,i≤N∧iv = .int .i64 i∧Hid (Blk 3 wr cb ((cAt N l i).map (Value.int .i64)))∧Hid (w3.grownBy wr (some cb))) (fun i _=>N-(intOf i).toNat)
   case atStart=>exact⟨0,YN,rfl,HC.out,HG.out⟩
   case round=>
    obtain⟨i,hiN,rfl,HCi,HGi⟩:=hrel
    have r0i:=HGi.out.cell t0 (by simp;omega)
    by_cases hlt:i<N
    ·have hil:(i:Int)<(N:Int):=by omega
     have HLT:Hid (i<N):=hlt
     generalize wr=wp at *
     go_wp2
     go_loopw [8] (fun kv wr=>∃ k:Nat,k≤l.length∧kv = .int .i64 k∧Hid (Blk 3 wr cb ((cIn N l i k).map (Value.int .i64)))∧Hid (w3.grownBy wr (some cb))) (fun i _=>l.length-(intOf i).toNat)
     case atStart=>exact⟨0,YN,rfl,HCi.out,HGi.out⟩
     case round=>
      obtain⟨k,hk,rfl,HCk,HGk⟩:=hrel
      have r1:=HGk.out.cell t1 (by simp;omega)
      by_cases hltk:k<l.length
      ·have hbwk:Below w.heap.size w wr:=⟨HGk.out.os.trans hbw3.os,HGk.out.tape.trans hbw3.tape,HGk.out.output.trans hbw3.output,Nat.le_trans hbw3.size HGk.out.size,fun q hq=>(HGk.out.block q (by omega) (by simp;omega)).trans (hbw3.block q hq)⟩
       obtain⟨b,off,rfl,hbb,hcap,hc,-⟩:=hl.open hltk
       obtain⟨c0,c1,c2⟩:=hc wr hbwk k hltk
       have hkl:(k:Int)<(l.length:Int):=by omega
       have hokE:=(HR.out.each l[k] (YG hltk)).1
       unfold okE at hokE
       obtain⟨u,hu⟩:∃ u:Nat,l[k].1=(u:Int):=⟨l[k].1.toNat,by omega⟩
       obtain⟨v,hv⟩:∃ v:Nat,l[k].2.1=(v:Int):=⟨l[k].2.1.toNat,by omega⟩
       have huN:u<N:=by omega
       have hvN:v<N:=by omega
       have huv:u≠v:=by omega
       have hut:l[k].1.toNat=u:=by omega
       have hvt:l[k].2.1.toNat=v:=by omega
       have HS:Hid _:=QnI (N:=N) (es:=l) (i:=i) hltk
       have hcu:=QiV HEn.out i k u
       have hcv:=QiV HEn.out i k v
       have HF1:Hid (∀ (h1:(cIn N l i k).getD u 0≠0) (h2:(cIn N l i k).getD v 0=0),cIn N l i (k+1)=(cIn N l i k).set v (3-(cIn N l i k).getD u 0)):=fun h1 h2=>HS.out.trans (Qi5 (Qic N l i k) hut hvt hvN h1 h2)
       have HF2:Hid (∀ (h1:(cIn N l i k).getD u 0=0) (h2:(cIn N l i k).getD v 0≠0),cIn N l i (k+1)=(cIn N l i k).set u (3-(cIn N l i k).getD v 0)):=fun h1 h2=>HS.out.trans (Qhg hut hvt h1 h2)
       have HF3:Hid (((cIn N l i k).getD u 0=0↔(cIn N l i k).getD v 0=0)→cIn N l i (k+1)=cIn N l i k):=fun h=>HS.out.trans (Qkk hut hvt h)
       have HU:Hid ((cIn N l i k)[u]? = some ((cIn N l i k).getD u 0)):=by unfold Hid;rw [YC,YB (by rw [Qic];exact huN)];rfl
       have HV:Hid ((cIn N l i k)[v]? = some ((cIn N l i k).getD v 0)):=by unfold Hid;rw [YC,YB (by rw [Qic];exact hvN)];rfl
       rw [hu] at c0
       rw [hv] at c1
       have hul:(u:Int)<(N:Int):=by omega
       have hvl:(v:Int)<(N:Int):=by omega
       have HLK:Hid (k<l.length):=hltk
       clear hc hokE hu hv hut hvt HS c2 hltk
       go_wp2
       go_quiet (fail)
       have HC5:Hid (Blk 3 (wr.drewN nq) cb ((cIn N l i k).map (Value.int .i64))):=HCk.out
       have HG5:Hid (w3.grownBy (wr.drewN nq) (some cb)):=⟨HGk.out.os,HGk.out.tape,HGk.out.output,HGk.out.size,HGk.out.block⟩
       clear HCk HGk c0 c1 r1 hbwk
       generalize wr.drewN nq=w5 at HC5 HG5 ⊢
       have t5:w5.cell? ⟨cb,u,none⟩=some (.int .i64 ((cIn N l i k).getD u 0)):=HC5.out.cell (by rw [YH,HU.out];rfl)
       have t6:w5.cell? ⟨cb,v,none⟩=some (.int .i64 ((cIn N l i k).getD v 0)):=HC5.out.cell (by rw [YH,HV.out];rfl)
       have f5:=HC5.out.frozen u
       have f6:=HC5.out.frozen v
       generalize hLL:cIn N l i k=LL at *
       generalize hau:LL.getD u 0=au at *
       generalize hav:LL.getD v 0=av at *
       have hklt:=HLK.out
       have HGs:Hid (∀ (q:Nat) (x:Int),w3.grownBy (w5.setCell ⟨cb,q,none⟩ (.int .i64 x)) (some cb)):=fun q x=>⟨HG5.out.os,HG5.out.tape,HG5.out.output,by simp;exact HG5.out.size,fun q2 hq hne=>(Below.heap_setCell _ _ _ _ (fun e=>hne (by rw [e]))).trans (HG5.out.block q2 hq hne)⟩
       clear hLL hau hav HU HV
       by_cases h1:au=0
       ·subst h1
        by_cases h2:av=0
        ·subst h2
         have HE:Hid _:=HF3.out ⟨fun _=>rfl,fun _=>rfl⟩
         clear HF1 HF2 HF3
         go_wp2
         refine⟨⟨k+1,HLK.out,by go_num,?_,HG5.out⟩,by simp [intOf];omega⟩
         rw [HE.out]
         exact HC5.out
        ·have HE:Hid _:=HF2.out rfl h2
         have h2':(av==0)=false:=by simpa using h2
         have HC6:Hid _:=HC5.out.set u (.int .i64 (3-av))
         clear HF1 HF2 HF3
         go_wp2
         refine⟨⟨k+1,HLK.out,by go_num,?_,HGs.out u _⟩,by simp [intOf];omega⟩
         unfold Hid
         rw [HE.out,List.map_set]
         exact HC6.out
       ·have h1':(au==0)=false:=by simpa using h1
        by_cases h2:av=0
        ·subst h2
         have HE:Hid _:=HF1.out h1 rfl
         have HC6:Hid _:=HC5.out.set v (.int .i64 (3-au))
         have h3':((3-au)==0)=false:=by
          have:¬ 3-au=0:=by omega
          simpa using this
         clear HF1 HF2 HF3
         go_wp2
         refine⟨⟨k+1,HLK.out,by go_num,?_,HGs.out v _⟩,by simp [intOf];omega⟩
         unfold Hid
         rw [HE.out,List.map_set]
         exact HC6.out
        ·have h2':(av==0)=false:=by simpa using h2
         have HE:Hid _:=HF3.out ⟨fun h=>absurd h h1,fun h=>absurd h h2⟩
         clear HF1 HF2 HF3
         go_wp2
         refine⟨⟨k+1,HLK.out,by go_num,?_,HG5.out⟩,by simp [intOf];omega⟩
         rw [HE.out]
         exact HC5.out
      ·obtain rfl:k=l.length:=by omega
       have hkl:¬ (l.length:Int)<(l.length:Int):=by omega
       rw [QnJ] at HCk
       go_wp2
       exact⟨⟨i+1,HLT.out,by have:=HLT.out;go_num,HCk.out,HGk.out⟩,by have:=HLT.out;simp [intOf];omega⟩
    ·obtain rfl:N=i:=by omega
     have hil:¬ (N:Int)<(N:Int):=by omega
     have r1i:=HGi.out.cell t1 (by simp;omega)
     have hbwi:Below w.heap.size w wr:=⟨HGi.out.os.trans hbw3.os,HGi.out.tape.trans hbw3.tape,HGi.out.output.trans hbw3.output,Nat.le_trans hbw3.size HGi.out.size,fun q hq=>(HGi.out.block q (by omega) (by simp;omega)).trans (hbw3.block q hq)⟩
     have HCV:Hid (∀ v,v<N→wr.cell? ⟨cb,v,none⟩=some (.int .i64 ((cAt N l N).getD v 0))):=fun v hv=>HCi.out.cell (by rw [YH,YB (by rw [Qbw];exact hv)];simp [show v<(cAt N l N).length by rw [Qbw];exact hv])
     clear HCi HGi HC HG hbw3 t0 t1
     go_wp2_with (at_make;refine wpList_make_full _ rfl _ _ 25 rfl wr.heap.size 4 j0 (.bool false) 1 Tryz.underlying25 kj kz0 kz1 .i64 .i64 _ _ N rfl rfl rfl rfl (by rw [kz2];omega) (by unfold maxLen;omega) YA ?_;intro w7 hown hgrow;have hb7:Below wr.heap.size wr w7:=YD.grown hgrow YA (fun k e=>by cases e))
     have hM7:=Blk.made hown
     rw [Qid,← Qkg (cAt N l N)] at hM7
     have hbw7:=hbwi.trans (hb7.mono hbwi.size)
     have y0:=Qad hb7 r0i
     have y1:=Qad hb7 r1i
     have HCV7:Hid (∀ v,v<N→w7.cell? ⟨cb,v,none⟩=some (.int .i64 ((cAt N l N).getD v 0))):=fun v hv=>Qad hb7 (HCV.out v hv)
     have hgl:=hM7.lt
     have hcbl:N=0∨cb<wr.heap.size:=by
      by_cases h:N=0
      ·exact .inl h
      ·exact .inr (World.block_lt_of_cell? wr ⟨cb,0,none⟩ (HCV.out 0 (by omega)))
     have hwg:w.heap.size≤wr.heap.size:=hbwi.size
     have hxg:xb<wr.heap.size:=World.block_lt_of_cell? wr ⟨xb,0,none⟩ r0i
     have HM7:Hid (Blk 4 w7 wr.heap.size ((twoL (cAt N l N) N 0).map Value.bool)):=hM7
     clear hown hgrow hb7 r0i r1i HCV hM7 hbwi
     generalize wr.heap.size=g at *
     generalize wr=wz at *
     go_wp2
     go_loopw [12] (fun iv wr=>∃ k:Nat,k≤l.length∧iv = .int .i64 k∧Hid (∀ (q:Nat) (e:Ed),q<k→l[q]? = some e→(cAt N l N).getD e.1.toNat 0≠(cAt N l N).getD e.2.1.toNat 0)∧Grew w7 wr) (fun i _=>l.length-(intOf i).toNat)
     case atStart=>exact⟨0,YN,rfl,fun q e h=>by omega,Grew.refl _⟩
     case round=>
      obtain⟨k,hk,rfl,HP,hgm⟩:=hrel
      have hbm:Below w.heap.size w wr:=hbw7.trans (hgm.below.mono hbw7.size)
      have z1:=Qad hgm.below y1
      by_cases hltk:k<l.length
      ·obtain⟨b,off,rfl,hbb,hcap,hc,-⟩:=hl.open hltk
       obtain⟨c0,c1,c2⟩:=hc _ hbm k hltk
       have hkl:(k:Int)<(l.length:Int):=by omega
       have hokE:=(HR.out.each l[k] (YG hltk)).1
       unfold okE at hokE
       obtain⟨u,hu⟩:∃ u:Nat,l[k].1=(u:Int):=⟨l[k].1.toNat,by omega⟩
       obtain⟨v,hv⟩:∃ v:Nat,l[k].2.1=(v:Int):=⟨l[k].2.1.toNat,by omega⟩
       have huN:u<N:=by omega
       have hvN:v<N:=by omega
       have HY:Hid ((cAt N l N).getD u 0=(cAt N l N).getD v 0→¬ Qcw (cAt N l N) l):=fun h hall=>hall l[k] (YG hltk) (by rw [hu,hv];exact h)
       have HNx:Hid ((cAt N l N).getD u 0≠(cAt N l N).getD v 0→∀ (q:Nat) (e:Ed),q<k+1→l[q]? = some e→(cAt N l N).getD e.1.toNat 0≠(cAt N l N).getD e.2.1.toNat 0):=fun hne q e hq he=>by
        by_cases h:q=k
        ·subst h
         rw [YB hltk] at he
         cases he
         rw [hu,hv]
         exact hne
        ·exact HP.out q e (by omega) he
       have d0:=Qad hgm.below (HCV7.out u huN)
       have d1:=Qad hgm.below (HCV7.out v hvN)
       have HGm:Hid (Grew w7 wr):=hgm
       clear hgm
       rw [hu] at c0
       rw [hv] at c1
       have hul:(u:Int)<(N:Int):=by omega
       have hvl:(v:Int)<(N:Int):=by omega
       have HLK:Hid (k<l.length):=hltk
       clear hc hokE hu hv c2 hltk HP
       generalize (cAt N l N).getD u 0=cu at *
       generalize (cAt N l N).getD v 0=cv at *
       have HBm:Hid _:=hbm
       clear hbm
       generalize wr=wm at *
       by_cases hcc:cu=cv
       ·have HQ:Hid _:=HY.out hcc
        subst hcc
        clear HY HNx
        go_wp2
        go_quiet (fail)
        have HBq:Hid (Below w.heap.size w (wm.drewN nq)):=Qaa HBm.out nq
        generalize wm.drewN nq=wn at HBq ⊢
        go_wp2
        (try simp only [Exit.inBlock,Exit.then])
        refine bodyPost_ret (results_tmp2 rfl _ _ _) rfl ?_
        exact⟨.inr ⟨HQ.out,rfl⟩,HBq.out⟩
       ·have HQ:Hid _:=HNx.out hcc
        have hcc':(cu==cv)=false:=by simpa using hcc
        clear HY HNx
        go_wp2
        go_quiet (fail)
        have HGq:Hid (Grew w7 (wm.drewN nq)):=Grew.drewN HGm.out nq
        have hlk:=HLK.out
        go_wp2
        exact⟨⟨k+1,HLK.out,by go_num,HQ.out,HGq.out⟩,by simp [intOf];omega⟩
      ·obtain rfl:k=l.length:=by omega
       have hkl:¬ (l.length:Int)<(l.length:Int):=by omega
       have HA:Hid (Qcw (cAt N l N) l):=fun e he=>by
        obtain⟨q,hq,rfl⟩:=List.getElem_of_mem he
        exact HP.out q _ hq (YB hq)
       have z0:=Qad hgm.below y0
       have HM8:Hid (Blk 4 wr g ((twoL (cAt N l N) N 0).map Value.bool)):=Blk.go HM7.out hgm.below
       have HCV8:Hid (∀ v,v<N→wr.cell? ⟨cb,v,none⟩=some (.int .i64 ((cAt N l N).getD v 0))):=fun v hv=>Qad hgm.below (HCV7.out v hv)
       clear HP hgm HM7 HCV7 y0 y1 hbw7
       generalize wr=wm at *
       go_wp2
       go_loopw [13] (fun iv wr=>∃ v:Nat,v≤N∧iv = .int .i64 v∧Hid (Blk 4 wr g ((twoL (cAt N l N) N v).map Value.bool))∧Hid (Below g wm wr)) (fun i _=>N-(intOf i).toNat)
       case atStart=>exact⟨0,YN,rfl,HM8.out,YD⟩
       case round=>
        obtain⟨v,hv,rfl,HM,HB⟩:=hrel
        have x0:wr.cell? ⟨xb,0,none⟩=some (.int .i64 (N:Int)):=(HB.out.cell (p:=⟨xb,0,none⟩) hxg).trans z0
        by_cases hlt:v<N
        ·have hvl:(v:Int)<(N:Int):=by omega
         have d0:=(HB.out.cell (p:=⟨cb,v,none⟩) (by show cb<g;omega)).trans (HCV8.out v hlt)
         obtain⟨z,hz⟩:∃ z,wr.cell? ⟨g,v,none⟩=some z:=⟨_,HM.out.cell (by rw [YH];rw [YB (by simp [twoL];exact hlt)];rfl)⟩
         have fz:=HM.out.frozen v
         have HM2:Hid _:=HM.out.set v (.bool ((cAt N l N).getD v 0==2))
         have HB2:Hid _:=HB.out.setCell (p:=⟨g,v,none⟩) YA (.bool ((cAt N l N).getD v 0==2))
         have HT:Hid _:=Qkh (L:=cAt N l N) (N:=N) (j:=v)
         clear HM HB
         generalize (cAt N l N).getD v 0=cv at *
         go_wp2
         refine⟨⟨v+1,by omega,by go_num,?_,HB2.out⟩,by simp [intOf];omega⟩
         unfold Hid
         rw [← HT.out,List.map_set]
         exact HM2.out
        ·obtain rfl:N=v:=by omega
         have hvl:¬ (N:Int)<(N:Int):=by omega
         have hsl:(twoL (cAt N l N) N N).length=N:=by simp [twoL]
         have HI:Hid (Bools wr.heap.size wr (.slice (some ⟨g,0,none⟩) N N) (twoL (cAt N l N) N N)):=by
          have:=HM.out.bools
          rw [hsl] at this
          exact this
         have HB3:Hid (Below w.heap.size w wr):=hbm.trans (HB.out.mono hwg)
         clear HM HB
         go_wp2
         (try simp only [Exit.inBlock,Exit.then])
         refine bodyPost_ret (results_tmp2 rfl _ _ _) rfl ?_
         exact⟨.inl ⟨HA.out,.slice (some ⟨g,0,none⟩) N N,rfl,HI.out⟩,by rw [← hxb];exact HB3.out⟩
def inBH (a:List Int)(x:Int):Bool:=decide (x∈a)
theorem QlN (a:List Int)(y x:Int):inBH (a++[y]) x=(inBH a x || decide (x=y)):=by simp [inBH]
theorem QeW {α:Type}{a:List α}{j:Nat}(h:j<a.length):a.take (j+1)=a.take j++[a[j]]:=by rw [List.take_add_one,YB h];rfl
def QgA (l:List Ed)(x:Int):Bool:=decide (0≤x) && decide (x<(l.length:Int))
def goodB (l:List Ed)(seen:List Int)(x:Int):Bool:=QgA l x && !inBH seen x
def okB (l:List Ed)(a:List Int)(j:Nat):Bool:=(List.range j).all fun i=>goodB l (a.take i) (a[i]?.getD 0)
theorem QmT {l:List Ed}{a:List Int}{j:Nat}(h:j<a.length):okB l a (j+1)=(okB l a j && goodB l (a.take j) a[j]):=by
 unfold okB
 rw [List.range_succ,List.all_append]
 simp [YB h]
theorem QoL {l:List Ed}{a:List Int}{j k:Nat}(h:okB l a j=false)(hk:j≤k):okB l a k=false:=by
 unfold okB at *
 rw [List.all_eq_false] at *
 obtain⟨x,hx,hb⟩:=h
 exact⟨x,List.mem_range.2 (by have:=List.mem_range.1 hx;omega),hb⟩
def wgt (l:List Ed)(x:Int):Int:=(l[x.toNat]?.getD (0,0,0)).2.2
def sumW (l:List Ed)(a:List Int)(j:Nat):Int:=((a.take j).map (wgt l)).sum
theorem Qgi {l:List Ed}{a:List Int}{j:Nat}(h:j<a.length):sumW l a (j+1)=sumW l a j+wgt l a[j]:=by
 unfold sumW
 rw [QeW h,List.map_append,List.sum_append]
 show _+(wgt l a[j]+0)=_
 omega
theorem Qj8 {l:List Ed}{n:Int}(hr:RightG n l)(x:Int): -2147483648<wgt l x∧wgt l x<2147483648:=by
 unfold wgt
 cases h:l[x.toNat]? with
 | none=>simp
 | some e=>have:=(hr.each e (YK h)).1;unfold okE at this;simp;omega
theorem QeX {l:List Ed}{n:Int}(hr:RightG n l)(a:List Int):∀ j,j≤a.length→-2147483648*(j:Int)≤sumW l a j∧sumW l a j≤2147483648*(j:Int)
 | 0,_=>by simp [sumW]
 | j+1,h=>by
  have h1:=QeX hr a j (by omega)
  have h2:=Qj8 hr a[j]
  rw [Qgi (by omega)]
  omega
def wK (l:List Ed)(a:List Int):Int:=if okB l a a.length=true then 0 else 1
def wV (l:List Ed)(a:List Int):Int:=if okB l a a.length=true then sumW l a a.length else 0
def QbV (m:Nat)(seen:List Int):List Bool:=(List.range m).map fun (i:Nat)=>inBH seen (i:Int)
theorem Qdg (m:Nat)(seen:List Int):(QbV m seen).length=m:=by simp [QbV]
theorem Qd0 {m:Nat}{seen:List Int}{i:Nat}(h:i<m):(QbV m seen)[i]? = some (inBH seen (i:Int)):=by simp [QbV,h]
theorem QdZ {m:Nat}{seen:List Int}{i:Nat}(h:¬ i<m):(QbV m seen)[i]? = none:=YL (by rw [Qdg];omega)
theorem Qi7 (m:Nat):QbV m []=List.replicate m false:=by
 apply List.ext_getElem <;> simp [QbV,inBH]
theorem Qi6 {m:Nat}{seen:List Int}{x:Int}(h0:0≤x):(QbV m seen).set x.toNat true=QbV m (seen++[x]):=by
 apply List.ext_getElem?
 intro i
 rw [List.getElem?_set]
 by_cases hm:i<m
 ·rw [Qd0 hm,Qd0 hm,QlN,Qdg]
  split
  ·rename_i he
   rw [if_pos (by omega)]
   have:decide ((i:Int)=x)=true:=by simp;omega
   rw [this,Bool.or_true]
  ·rename_i he
   have:decide ((i:Int)=x)=false:=by simp;omega
   rw [this,Bool.or_false]
 ·rw [QdZ hm,QdZ hm,Qdg]
  split
  ·rw [if_neg (by omega)]
  ·rfl
theorem QhT (n:Int)(l:List Ed)(x:Int)(sv:Value)(w:World)(hl:Edges w.heap.size w sv l):
  Calls Tryz.prog 53 #[.agg #[.int .i64 n,sv],.int .i64 x] w fun r w'=>r = .returned (.bool (QgA l x))∧Grew w w':=by
 unfold QgA
 obtain⟨p,c,rfl⟩:=hl.len
 go_enter Tryz.func53,Tryz.ntmps53
 go_wp2
 all_goals go_ret
 all_goals refine⟨?_,(Grew.refl w).alloc _⟩
 all_goals simp
 all_goals first | done | omega | (simp_all <;> omega)
theorem infoB:(Tryz.prog.info? 4).map (fun i=>(i.zero,i.size,i.bytes))=some (some (.bool false),1,1):=by kernel_rfl
theorem Qj6 (n:Nat):(madeCells (Value.bool false).cells (n*1)).toList=(List.replicate n false).map Value.bool:=by
 apply List.ext_getElem
 ·simp [madeCells]
 ·intro i h1 h2
  simp [madeCells,Value.cells,Nat.mod_one]
def wgtV (n:Int)(l:List Ed)(a:List Int):Int:=if rightK n l=0 then wV l a else 0
def wgtK (n:Int)(l:List Ed)(a:List Int):Int:=if rightK n l=0 then wK l a else 1
theorem Qi2 (n:Int)(l:List Ed)(a:List Int)(ha:a.length≤4194304)(sv sa:Value)(w:World)(hl:Edges w.heap.size w sv l)(hA:Ints w.heap.size w sa a):
  Calls Tryz.prog 27 #[.agg #[.int .i64 n,sv],sa] w fun r w'=>r = .returned (.tuple #[.int .i64 (wgtV n l a),.int .i64 (wgtK n l a)])∧Below w.heap.size w w':=by
 have hg1:Grew w (w.alloc (.cells #[.int .i64 n,sv] 24)):=(Grew.refl w).alloc _
 have hl1:=hl.go hg1.below
 obtain⟨p,c,rfl⟩:=hl.len
 obtain⟨pa,ca,rfl⟩:=hA.len
 obtain⟨i0,hi,hz0,hz1,hz2⟩:=info_parts infoB
 have hrc:=fun W h=>Qbg n l (.slice p l.length c) W h
 by_cases hr:rightK n l=0
 ·have hR:=right_iff.1 hr
  have hm1:=hR.m1
  have HV:Hid (wgtV n l a=wV l a):=if_pos hr
  have HK:Hid (wgtK n l a=wK l a):=if_pos hr
  rw [hr] at hrc
  clear hr
  go_enter Tryz.func27,Tryz.ntmps27
  go_wp2_with fail
  refine (hrc _ hl1).mono ?_
  rintro e w2 ⟨rfl,hg2⟩
  have hl2:=hl1.go hg2.below
  have q0:=(box2 _ hg2).1
  have q1:=(box2 _ hg2).2
  have hbox:=QeP hg2
  have hbw:=(hg1.trans hg2).below
  clear hrc
  go_wp2_with (at_make;refine wpList_make_full _ rfl _ _ 25 rfl w2.heap.size 4 i0 (.bool false) 1 Tryz.underlying25 hi hz0 hz1 .i64 .i64 _ _ l.length rfl rfl rfl rfl (by rw [hz2];omega) (by unfold maxLen;omega) YA ?_;intro w3 hown hgrow)
  have hb3:Below w2.heap.size w2 w3:=YD.grown hgrow YA (fun k e=>by cases e)
  have hrow:=Blk.made hown
  rw [Qj6] at hrow
  replace q0:=(hb3.cell (p:=⟨w.heap.size,0,none⟩) hbox).trans q0
  replace q1:=(hb3.cell (p:=⟨w.heap.size,1,none⟩) hbox).trans q1
  have hl3:=hl2.go hb3
  have hbw3:=hbw.trans (hb3.mono hbw.size)
  have HB:Hid _:=QeX hR a
  have hlw:Edges w2.heap.size w3 (.slice p l.length c) l:=hl2.below hb3
  clear hown hgrow hi hz0 hz1 hz2 hg2 hl2 hl1 hbw
  generalize w2.heap.size=g at hbox hrow hb3 hlw
  clear hb3
  go_loopw [7,19] (fun s i wr=>∃ j:Nat,j≤a.length∧i = .int .i64 j∧s = .int .i64 (sumW l a j)∧Hid (okB l a j=true)∧Blk 4 wr g ((QbV l.length (a.take j)).map Value.bool)∧Below g w3 wr) (fun _ i _=>a.length-(intOf i).toNat)
  case atStart=>exact⟨0,YN,rfl,rfl,rfl,by rw [List.take_zero,Qi7];exact hrow,YD⟩
  case round=>
   obtain⟨j,hj,rfl,rfl,hok,hB,hb⟩:=hrel
   by_cases hlt:j<a.length
   ·obtain⟨ba,offa,rfl,hba,hcapa,hca⟩:=hA.open hlt
    have c0:=hca wr (hbw3.trans (hb.mono (by omega))) j hlt
    have d0:=(hb.cell (p:=⟨w.heap.size,0,none⟩) hbox).trans q0
    have d1:=(hb.cell (p:=⟨w.heap.size,1,none⟩) hbox).trans q1
    have hjl:(j:Int)<(a.length:Int):=by omega
    have hgl:=hB.lt
    have hlr:Edges wr.heap.size wr (.slice p l.length c) l:=(hlw.below hb).mono (by omega)
    clear hca
    go_wp2_with fail
    refine (QhT n l a[j] _ _ hlr).mono ?_
    rintro e w7 ⟨rfl,hg7⟩
    have hB7:=hB.go hg7.below
    have hb7:=hb.trans (hg7.below.mono (by omega))
    have hg7l:=hB7.lt
    have d17:=(hg7.below.cell (p:=⟨w.heap.size,1,none⟩) (by show w.heap.size<_;omega)).trans d1
    have hl7:=hlr.go hg7.below
    have hnext:=QmT (l:=l) hlt
    have hsum:=Qgi (l:=l) hlt
    have hbd:=HB.out j hj
    have hbd2:=HB.out (j+1) hlt
    rw [hok.out,Bool.true_and] at hnext
    have HT:Hid (a.take (j+1)=a.take j++[a[j]]):=QeW hlt
    generalize a[j]=y at *
    have HNX:Hid _:=hnext
    have HSU:Hid _:=hsum
    have hbad:okB l a (j+1)=false→Hid (wgtV n l a=0)∧Hid (wgtK n l a=1):=fun h=>by
     have h1:=QoL h (Nat.succ_le_of_lt hlt)
     unfold Hid
     rw [HV.out,HK.out]
     unfold wV wK
     rw [h1]
     exact⟨rfl,rfl⟩
    clear hB hb c0 d0 d1 hlr hg7 hnext hsum
    cases hpl:QgA l y with
    | false=>
     obtain⟨h1,h2⟩:=hbad (by rw [HNX.out];unfold goodB;rw [hpl];rfl)
     clear hbad hpl hok
     go_wp2
     go_ret2
     exact⟨by rw [h1.out,h2.out];rfl,hbw3.trans (hb7.mono (by omega))⟩
    | true=>
     have hy:0≤y∧y<(l.length:Int):=by simpa [QgA] using hpl
     obtain⟨x,rfl⟩:∃ x:Nat,y=(x:Int):=⟨y.toNat,by omega⟩
     have hx:x<l.length:=by omega
     have hxl:(x:Int)<(l.length:Int):=by omega
     have t0:w7.cell? ⟨g,x,none⟩=some (.bool (inBH (a.take j) (x:Int))):=hB7.cell (by rw [YH,Qd0 hx];rfl)
     have f0:=hB7.frozen x
     cases hin:inBH (a.take j) (x:Int) with
     | true=>
      obtain⟨h1,h2⟩:=hbad (by rw [HNX.out];unfold goodB;rw [hpl,hin];rfl)
      rw [hin] at t0
      clear hbad hpl hin hok
      go_wp2
      go_ret2
      exact⟨by rw [h1.out,h2.out];rfl,hbw3.trans (hb7.mono (by omega))⟩
     | false=>
      have HOK:Hid (okB l a (j+1)=true):=by unfold Hid;rw [HNX.out];unfold goodB;rw [hpl,hin];rfl
      rw [hin] at t0
      obtain⟨bl,offl,rfl,hbl,hcapl,hcl,-⟩:=hl7.open hx
      obtain⟨e0,e1,e2⟩:=hcl w7 YD x hx
      have hwx:wgt l (x:Int)=l[x].2.2:=by simp [wgt,hx]
      have hblg:bl<g:=by
       rcases hlw with ⟨⟨p',c',h1⟩,h2⟩ | ⟨b',off',cap',h1,h2,_⟩
       ·rw [h2] at hx;simp at hx
       ·simp only [Value.slice.injEq,Option.some.injEq,Addr.mk.injEq] at h1
        omega
      have hne:bl≠g:=by omega
      have hneb:w.heap.size≠g:=by omega
      have hsm:Hid (sumW l a (j+1)=sumW l a j+l[x].2.2):=by unfold Hid;rw [HSU.out,hwx]
      have hBn:=hB7.set x (.bool true)
      rw [← List.map_set,show (QbV l.length (a.take j)).set x true=QbV l.length (a.take (j+1)) by rw [HT.out];exact Qi6 (x:=(x:Int)) (by omega)] at hBn
      have hlo : -9223372036854775808≤sumW l a j+l[x].2.2:=by rw [← hsm.out];omega
      have hhi:sumW l a j+l[x].2.2≤9223372036854775807:=by rw [← hsm.out];omega
      have hwr:=QaU _ hlo hhi
      clear hbad hpl hin hok hbd hbd2 hwx hcl
      go_wp2
      refine⟨⟨j+1,by omega,by go_num,by rw [hsm.out],HOK,hBn,hb7.setCell (p:=⟨g,x,none⟩) YA _⟩,by simp [intOf];omega⟩
   ·obtain rfl:j=a.length:=by omega
    have h1:Hid (wgtV n l a=sumW l a a.length):=by unfold Hid;rw [HV.out];unfold wV;rw [if_pos hok.out]
    have h2:Hid (wgtK n l a=0):=by unfold Hid;rw [HK.out];unfold wK;rw [if_pos hok.out]
    clear hok
    go_wp2
    go_ret2
    exact⟨by rw [h1.out,h2.out];rfl,hbw3.trans (hb.mono (by omega))⟩
 ·have HV:Hid (wgtV n l a=0):=if_neg hr
  have HK:Hid (wgtK n l a=1):=if_neg hr
  generalize rightK n l=k at hrc hr
  have hk:(k==0)=false:=by simpa using hr
  clear hr
  go_enter Tryz.func27,Tryz.ntmps27
  go_wp2_with fail
  refine (hrc _ hl1).mono ?_
  rintro e w2 ⟨rfl,hg2⟩
  clear hrc
  go_wp2
  go_ret2
  exact⟨by rw [HV.out,HK.out];rfl,(hg1.trans hg2).below⟩
end Go.Proofs.YtalflecmadacaaaGreat
