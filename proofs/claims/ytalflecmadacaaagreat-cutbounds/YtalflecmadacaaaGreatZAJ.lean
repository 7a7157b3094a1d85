import Derived.Deep.QuietTactic
import Derived.BigQuiet
import Derived.Test.YtalflecmadacaaaGreatZAH
import Derived.Test.YtalflecmadacaaaGreatZAC
import Derived.Test.YtalflecmadacaaaGreatZAI
set_option maxRecDepth 100000
set_option maxHeartbeats 8000000
namespace Go.Proofs.YtalflecmadacaaaGreat
open Go Go.Proofs Go.RowKit
def c0P (N:Nat)(es:List Ed)(j:Nat):List Int:=(List.range N).map fun (v:Nat)=>if v<j∧(labAt N es N).getD v 0=(v:Int) then 1 else 0
theorem Qgg (N:Nat)(es:List Ed)(j:Nat):(c0P N es j).length=N:=by simp [c0P]
theorem Qjs {N:Nat}{es:List Ed}{j v:Nat}(h:v<N):(c0P N es j)[v]? = some (if v<j∧(labAt N es N).getD v 0=(v:Int) then 1 else 0):=by simp [c0P,h]
theorem Qos (N:Nat)(es:List Ed):c0P N es 0=List.replicate N 0:=by
 apply List.ext_getElem?
 intro i
 by_cases h:i<N
 ·rw [Qjs h];simp [h]
 ·rw [YL (by rw [Qgg];omega),YL (by simp;omega)]
theorem Qot (N:Nat)(es:List Ed):c0P N es N=c0L N es:=by
 unfold c0P c0L
 refine List.map_congr_left fun v hv=>?_
 have hv':=List.mem_range.1 hv
 simp [hv']
theorem QpA {N:Nat}{es:List Ed}{j:Nat}(h:(labAt N es N).getD j 0=(j:Int)):(c0P N es j).set j 1=c0P N es (j+1):=by
 apply List.ext_getElem?
 intro i
 by_cases hi:i<N
 ·rw [List.getElem?_set,Qgg,Qjs hi,Qjs hi]
  by_cases e:j=i
  ·subst e
   rw [if_pos rfl,if_pos hi,if_pos ⟨by omega,h⟩]
  ·rw [if_neg e]
   congr 1
   have:(i<j↔i<j+1):=by omega
   simp only [this]
 ·rw [YL (by rw [List.length_set,Qgg];omega),YL (by rw [Qgg];omega)]
theorem Qp7 {N:Nat}{es:List Ed}{j:Nat}(h:¬ (labAt N es N).getD j 0=(j:Int)):c0P N es (j+1)=c0P N es j:=by
 unfold c0P
 refine List.map_congr_left fun v _=>?_
 by_cases e:v=j
 ·subst e
  rw [if_neg (fun a=>h a.2),if_neg (fun a=>h a.2)]
 ·have:(v<j+1↔v<j):=by omega
  simp only [this]
def QcC (L:List Int)(l:List Ed):Prop:=∀ e∈l,L.getD e.1.toNat 0≠L.getD e.2.1.toNat 0
def cIn (N:Nat)(es:List Ed)(i k:Nat):List Int:=(es.take k).foldl tint (cAt N es i)
theorem Qit (N:Nat)(es:List Ed)(i k:Nat):(cIn N es i k).length=N:=by unfold cIn;rw [QbU,Qbt]
theorem Qor (N:Nat)(es:List Ed)(i:Nat):cIn N es i es.length=cAt N es (i+1):=by unfold cIn;rw [List.take_length];rfl
theorem Qoq {N:Nat}{es:List Ed}{i k:Nat}(h:k<es.length):cIn N es i (k+1)=tint (cIn N es i k) es[k]:=by
 unfold cIn
 rw [List.take_add_one,YB h,List.foldl_append]
 rfl
theorem Qjr {N:Nat}{es:List Ed}(hE:Ends N es)(i k:Nat):Cols (cIn N es i k):=
 QeQ (fun e he=>hE e (List.mem_of_mem_take he)) (Qbt N es i) (Qd7 hE i)
def twoL (L:List Int)(N j:Nat):List Bool:=(List.range N).map fun v=>if v<j then L.getD v 0==2 else false
theorem QkM (L:List Int)(N:Nat):twoL L N 0=List.replicate N false:=by
 apply List.ext_getElem?
 intro i
 by_cases h:i<N
 ·simp [twoL,h]
 ·simp [twoL,h]
theorem QkN {L:List Int}{N j:Nat}:(twoL L N j).set j (L.getD j 0==2)=twoL L N (j+1):=by
 apply List.ext_getElem?
 intro i
 by_cases h:i<N
 ·rw [List.getElem?_set]
  by_cases e:j=i
  ·subst e
   simp [twoL,h]
  ·rw [if_neg e]
   by_cases hi:i<j
   ·simp [twoL,h,hi,show i<j+1 by omega]
   ·simp [twoL,h,hi,show ¬ i<j+1 by omega]
 ·rw [YL (by simp [twoL];omega),YL (by simp [twoL];omega)]
theorem Qjz {L:List Int}{e:Ed}{u v:Nat}{N:Nat}(hL:L.length=N)(hu:e.1.toNat=u)(hv:e.2.1.toNat=v)(hvN:v<N)(h1:L.getD u 0≠0)(h2:L.getD v 0=0):tint L e=L.set v (3-L.getD u 0):=by
 unfold tint
 rw [hu,hv]
 have e1:tint1 L u v=L.set v (3-L.getD u 0):=by unfold tint1;rw [if_pos ⟨h1,h2⟩]
 have hk:=Qbw (u:=u) (v:=v) (L:=L) (by omega) h1
 have e2:tint1 (tint1 L u v) v u=tint1 L u v:=by
  conv=>lhs;unfold tint1
  exact if_neg (fun h=>by
   have h3:=h.2
   have h4:(tint1 L u v).getD u 0=0:=h3
   rw [hk] at h4
   exact h1 h4)
 rw [e2,e1]
theorem QhA {L:List Int}{e:Ed}{u v:Nat}(hu:e.1.toNat=u)(hv:e.2.1.toNat=v)(h1:L.getD u 0=0)(h2:L.getD v 0≠0):tint L e=L.set u (3-L.getD v 0):=by
 unfold tint
 rw [hu,hv]
 have e1:tint1 L u v=L:=by unfold tint1;exact if_neg (fun h=>h.1 h1)
 rw [e1]
 unfold tint1
 exact if_pos ⟨h2,h1⟩
theorem QkQ {L:List Int}{e:Ed}{u v:Nat}(hu:e.1.toNat=u)(hv:e.2.1.toNat=v)(h:L.getD u 0=0↔L.getD v 0=0):tint L e=L:=by
 unfold tint
 rw [hu,hv]
 have e1:tint1 L u v=L:=by unfold tint1;exact if_neg (fun a=>a.1 (h.2 a.2))
 rw [e1]
 unfold tint1
 exact if_neg (fun a=>a.1 (h.1 a.2))
theorem QjP (N:Nat)(l:List Ed)(hR:RightG (N:Int) l)(sv:Value)(w:World)(hl:Edges w.heap.size w sv l):
  Calls Tryz.prog 25 #[.agg #[.int .i64 (N:Int),sv]] w fun r w'=>((QcC (cAt N l N) l∧∃ bv,r = .returned (.tuple #[bv,.bool true])∧Bools w'.heap.size w' bv (twoL (cAt N l N) N N))∨(¬ QcC (cAt N l N) l∧r = .returned (.tuple #[.slice none 0 0,.bool false])))∧Below w.heap.size w w':=by
 have hmix:=mixed
 obtain⟨i0,hi,hz0,hz1,hz2⟩:=info_parts infoI
 obtain⟨j0,kj,kz0,kz1,kz2⟩:=info_parts Qp2
 have hE:=Qaw hR
 have hn1:=hR.n1
 have hm1:=hR.m1
 obtain⟨p,c,rfl⟩:=hl.len
 have hb1:Below w.heap.size w (w.alloc (.cells #[.int .i64 (N:Int),.slice p l.length c] 24)):=YD.alloc YA _
 have q0:(w.alloc (.cells #[.int .i64 (N:Int),.slice p l.length c] 24)).cell? ⟨w.heap.size,0,none⟩=some (.int .i64 (N:Int)):=Qan rfl rfl
 have q1:(w.alloc (.cells #[.int .i64 (N:Int),.slice p l.length c] 24)).cell? ⟨w.heap.size,1,none⟩=some (.slice p l.length c):=Qan rfl rfl
 have hsz1:(w.alloc (.cells #[.int .i64 (N:Int),.slice p l.length c] 24)).heap.size=w.heap.size+1:=by simp
 go_enter Tryz.func25,Tryz.ntmps25
 go_wp2_with (at_make;refine wpList_make_full _ rfl _ _ 27 rfl 0 3 i0 (.int .i64 0) 1 Tryz.underlying27 hi hz0 hz1 .i64 .i64 _ _ N rfl rfl rfl rfl (by rw [hz2];omega) (by unfold maxLen;omega) YN ?_;intro w2 hown hgrow;have hb2:Below (w.heap.size+1) (w.alloc (.cells #[.int .i64 (N:Int),.slice p l.length c] 24)) w2:=YD.grown hgrow (by rw [hsz1];exact YA) (fun k e=>by cases e);have s0:=(hb2.cell (p:=⟨w.heap.size,0,none⟩) (Nat.lt_succ_self _)).trans q0;have s1:=(hb2.cell (p:=⟨w.heap.size,1,none⟩) (Nat.lt_succ_self _)).trans q1)
 have hC2:=Blk.made hown
 rw [QaD,← Qos N l,hsz1] at hC2
 have hbw2:=hb1.trans (hb2.mono (by omega))
 have hl2:=hl.go hbw2
 clear hown hgrow q0 q1
 have hcg:=hC2.lt
 refine (QcQ N l hR _ _ hl2).mono ?_
 rintro e w3 ⟨lg,rfl,hLg,hlgt,hb3⟩
 have hC3:=hC2.go hb3
 have t0:=Qaa hb3 s0
 have t1:=Qaa hb3 s1
 have hbw3:=hbw2.trans (hb3.mono hbw2.size)
 have hne:lg≠w.heap.size+1:=by omega
 have hxw:w.heap.size<w3.heap.size:=World.block_lt_of_cell? w3 ⟨w.heap.size,0,none⟩ t0
 have HLab:Hid (∀ v,v<N→w3.cell? ⟨lg,v,none⟩=some (.int .i64 ((labAt N l N).getD v 0))):=fun v hv=>hLg.cell (by rw [YH,YB (by rw [QaC];exact hv)];simp [show v<(labAt N l N).length by rw [QaC];exact hv])
 have hcl3:w.heap.size+1<w3.heap.size:=hC3.lt
 have HR:Hid _:=hR
 have HEn:Hid _:=hE
 have HC3:Hid (Blk 3 w3 (w.heap.size+1) ((c0P N l 0).map (Value.int .i64))):=hC3
 clear hC2 hb2 hb3 s0 s1 hbw2 hl2 hLg hC3 hR hE hb1 hsz1 hcg
 generalize hcb:w.heap.size+1=cb at *
 have hxcb:w.heap.size<cb:=by omega
 clear hcb
 generalize hxb:w.heap.size=xb at t0 t1 hxw hxcb ⊢
 go_wp2
 go_loopw [6] (fun iv wr=>∃ j:Nat,j≤N∧iv = .int .i64 j∧Hid (Blk 3 wr cb ((c0P N l j).map (Value.int .i64)))∧Hid (w3.grownBy wr (some cb))) (fun i _=>N-(intOf i).toNat)
 case atStart=>exact⟨0,YN,rfl,HC3.out,⟨rfl,rfl,rfl,YA,fun _ _ _=>rfl⟩⟩
 case round=>
  obtain⟨j,hj,rfl,HC,HG⟩:=hrel
  have r0:=HG.out.cell t0 (by simp;omega)
  by_cases hlt:j<N
  ·have a0:=HG.out.cell (HLab.out j hlt) (by simp;omega)
   have hjl:(j:Int)<(N:Int):=by omega
   obtain⟨z,hz⟩:∃ z,wr.cell? ⟨cb,j,none⟩=some z:=⟨_,HC.out.cell (by rw [YH,Qjs hlt];rfl)⟩
   have fz:=HC.out.frozen j
   have HC2:Hid _:=HC.out.set j (.int .i64 1)
   have HG2:Hid (w3.grownBy (wr.setCell ⟨cb,j,none⟩ (.int .i64 1)) (some cb)):=⟨HG.out.os,HG.out.tape,HG.out.output,by simp;exact HG.out.size,fun k hk hne=>(Below.heap_setCell _ _ _ _ (fun e=>hne (by rw [e]))).trans (HG.out.block k hk hne)⟩
   by_cases hr:(labAt N l N).getD j 0=(j:Int)
   ·rw [hr] at a0
    have HY:Hid _:=QpA hr
    clear hr
    go_wp2
    refine⟨⟨j+1,by omega,by go_num,?_,HG2.out⟩,by simp [intOf];omega⟩
    unfold Hid
    rw [← HY.out,List.map_set]
    exact HC2.out
   ·have HN:Hid _:=Qp7 hr
    generalize (labAt N l N).getD j 0=lj at *
    have hr':(lj==(j:Int))=false:=by simpa using hr
    go_wp2
    refine⟨⟨j+1,by omega,by go_num,?_,HG.out⟩,by simp [intOf];omega⟩
    rw [HN.out]
    exact HC.out
  ·obtain rfl:N=j:=by omega
   have hjl:¬ (N:Int)<(N:Int):=by omega
   rw [Qot] at HC
   clear HLab HC3
   generalize wr=wq at *
   go_wp2
   go_loopw [7] (fun iv wr=>∃ i:Nat,i≤N∧iv = .int .i64 i∧Hid (Blk 3 wr cb ((cAt N l i).map (Value.int .i64)))∧Hid (w3.grownBy wr (some cb))) (fun i _=>N-(intOf i).toNat)
   case atStart=>exact⟨0,YN,rfl,HC.out,HG.out⟩
   case round=>
    obtain⟨i,hiN,rfl,HCi,HGi⟩:=hrel
    have r0i:=HGi.out.cell t0 (by simp;omega)
    by_cases hlt:i<N
    ·have hil:(i:Int)<(N:Int):=by omega
     have HLT:Hid (i<N):=hlt
     generalize wr=wp at *
     go_wp2
     go_loopw [8] (fun kv wr=>∃ k:Nat,k≤l.length∧kv = .int .i64 k∧Hid (Blk 3 wr cb ((cIn N l i k).map (Value.int .i64)))∧Hid (w3.grownBy wr (some cb))) (fun i _=>l.length-(intOf i).toNat)
     case atStart=>exact⟨0,YN,rfl,HCi.out,HGi.out⟩
     case round=>
      obtain⟨k,hk,rfl,HCk,HGk⟩:=hrel
      have r1:=HGk.out.cell t1 (by simp;omega)
      by_cases hltk:k<l.length
      ·have hbwk:Below w.heap.size w wr:=⟨HGk.out.os.trans hbw3.os,HGk.out.tape.trans hbw3.tape,HGk.out.output.trans hbw3.output,Nat.le_trans hbw3.size HGk.out.size,fun q hq=>(HGk.out.block q (by omega) (by simp;omega)).trans (hbw3.block q hq)⟩
       obtain⟨b,off,rfl,hbb,hcap,hc,-⟩:=hl.open hltk
       obtain⟨c0,c1,c2⟩:=hc wr hbwk k hltk
       have hkl:(k:Int)<(l.length:Int):=by omega
       have hokE:=(HR.out.each l[k] (YG hltk)).1
       unfold okE at hokE
       obtain⟨u,hu⟩:∃ u:Nat,l[k].1=(u:Int):=⟨l[k].1.toNat,by omega⟩
       obtain⟨v,hv⟩:∃ v:Nat,l[k].2.1=(v:Int):=⟨l[k].2.1.toNat,by omega⟩
       have huN:u<N:=by omega
       have hvN:v<N:=by omega
       have huv:u≠v:=by omega
       have hut:l[k].1.toNat=u:=by omega
       have hvt:l[k].2.1.toNat=v:=by omega
       have HS:Hid _:=Qoq (N:=N) (es:=l) (i:=i) hltk
       have hcu:=Qjr HEn.out i k u
       have hcv:=Qjr HEn.out i k v
       have HF1:Hid (∀ (h1:(cIn N l i k).getD u 0≠0) (h2:(cIn N l i k).getD v 0=0),cIn N l i (k+1)=(cIn N l i k).set v (3-(cIn N l i k).getD u 0)):=fun h1 h2=>HS.out.trans (Qjz (Qit N l i k) hut hvt hvN h1 h2)
       have HF2:Hid (∀ (h1:(cIn N l i k).getD u 0=0) (h2:(cIn N l i k).getD v 0≠0),cIn N l i (k+1)=(cIn N l i k).set u (3-(cIn N l i k).getD v 0)):=fun h1 h2=>HS.out.trans (QhA hut hvt h1 h2)
       have HF3:Hid (((cIn N l i k).getD u 0=0↔(cIn N l i k).getD v 0=0)→cIn N l i (k+1)=cIn N l i k):=fun h=>HS.out.trans (QkQ hut hvt h)
       have HU:Hid ((cIn N l i k)[u]? = some ((cIn N l i k).getD u 0)):=by unfold Hid;rw [YC,YB (by rw [Qit];exact huN)];rfl
       have HV:Hid ((cIn N l i k)[v]? = some ((cIn N l i k).getD v 0)):=by unfold Hid;rw [YC,YB (by rw [Qit];exact hvN)];rfl
       rw [hu] at c0
       rw [hv] at c1
       have hul:(u:Int)<(N:Int):=by omega
       have hvl:(v:Int)<(N:Int):=by omega
       have HLK:Hid (k<l.length):=hltk
       clear hc hokE hu hv hut hvt HS c2 hltk
       go_wp2
       go_quiet (fail)
       have HC5:Hid (Blk 3 (wr.drewN nq) cb ((cIn N l i k).map (Value.int .i64))):=HCk.out
       have HG5:Hid (w3.grownBy (wr.drewN nq) (some cb)):=⟨HGk.out.os,HGk.out.tape,HGk.out.output,HGk.out.size,HGk.out.block⟩
       clear HCk HGk c0 c1 r1 hbwk
       generalize wr.drewN nq=w5 at HC5 HG5 ⊢
       have t5:w5.cell? ⟨cb,u,none⟩=some (.int .i64 ((cIn N l i k).getD u 0)):=HC5.out.cell (by rw [YH,HU.out];rfl)
       have t6:w5.cell? ⟨cb,v,none⟩=some (.int .i64 ((cIn N l i k).getD v 0)):=HC5.out.cell (by rw [YH,HV.out];rfl)
       have f5:=HC5.out.frozen u
       have f6:=HC5.out.frozen v
       generalize hLL:cIn N l i k=LL at *
       generalize hau:LL.getD u 0=au at *
       generalize hav:LL.getD v 0=av at *
       have hklt:=HLK.out
       have HGs:Hid (∀ (q:Nat) (x:Int),w3.grownBy (w5.setCell ⟨cb,q,none⟩ (.int .i64 x)) (some cb)):=fun q x=>⟨HG5.out.os,HG5.out.tape,HG5.out.output,by simp;exact HG5.out.size,fun q2 hq hne=>(Below.heap_setCell _ _ _ _ (fun e=>hne (by rw [e]))).trans (HG5.out.block q2 hq hne)⟩
       clear hLL hau hav HU HV
       by_cases h1:au=0
       ·subst h1
        by_cases h2:av=0
        ·subst h2
         have HE:Hid _:=HF3.out ⟨fun _=>rfl,fun _=>rfl⟩
         clear HF1 HF2 HF3
         go_wp2
         refine⟨⟨k+1,HLK.out,by go_num,?_,HG5.out⟩,by simp [intOf];omega⟩
         rw [HE.out]
         exact HC5.out
        ·have HE:Hid _:=HF2.out rfl h2
         have h2':(av==0)=false:=by simpa using h2
         have HC6:Hid _:=HC5.out.set u (.int .i64 (3-av))
         clear HF1 HF2 HF3
         go_wp2
         refine⟨⟨k+1,HLK.out,by go_num,?_,HGs.out u _⟩,by simp [intOf];omega⟩
         unfold Hid
         rw [HE.out,List.map_set]
         exact HC6.out
       ·have h1':(au==0)=false:=by simpa using h1
        by_cases h2:av=0
        ·subst h2
         have HE:Hid _:=HF1.out h1 rfl
         have HC6:Hid _:=HC5.out.set v (.int .i64 (3-au))
         have h3':((3-au)==0)=false:=by
          have:¬ 3-au=0:=by omega
          simpa using this
         clear HF1 HF2 HF3
         go_wp2
         refine⟨⟨k+1,HLK.out,by go_num,?_,HGs.out v _⟩,by simp [intOf];omega⟩
         unfold Hid
         rw [HE.out,List.map_set]
         exact HC6.out
        ·have h2':(av==0)=false:=by simpa using h2
         have HE:Hid _:=HF3.out ⟨fun h=>absurd h h1,fun h=>absurd h h2⟩
         clear HF1 HF2 HF3
         go_wp2
         refine⟨⟨k+1,HLK.out,by go_num,?_,HG5.out⟩,by simp [intOf];omega⟩
         rw [HE.out]
         exact HC5.out
      ·obtain rfl:k=l.length:=by omega
       have hkl:¬ (l.length:Int)<(l.length:Int):=by omega
       rw [Qor] at HCk
       go_wp2
       exact⟨⟨i+1,HLT.out,by have:=HLT.out;go_num,HCk.out,HGk.out⟩,by have:=HLT.out;simp [intOf];omega⟩
    ·obtain rfl:N=i:=by omega
     have hil:¬ (N:Int)<(N:Int):=by omega
     have r1i:=HGi.out.cell t1 (by simp;omega)
     have hbwi:Below w.heap.size w wr:=⟨HGi.out.os.trans hbw3.os,HGi.out.tape.trans hbw3.tape,HGi.out.output.trans hbw3.output,Nat.le_trans hbw3.size HGi.out.size,fun q hq=>(HGi.out.block q (by omega) (by simp;omega)).trans (hbw3.block q hq)⟩
     have HCV:Hid (∀ v,v<N→wr.cell? ⟨cb,v,none⟩=some (.int .i64 ((cAt N l N).getD v 0))):=fun v hv=>HCi.out.cell (by rw [YH,YB (by rw [Qbt];exact hv)];simp [show v<(cAt N l N).length by rw [Qbt];exact hv])
     clear HCi HGi HC HG hbw3 t0 t1
     go_wp2_with (at_make;refine wpList_make_full _ rfl _ _ 25 rfl wr.heap.size 4 j0 (.bool false) 1 Tryz.underlying25 kj kz0 kz1 .i64 .i64 _ _ N rfl rfl rfl rfl (by rw [kz2];omega) (by unfold maxLen;omega) YA ?_;intro w7 hown hgrow;have hb7:Below wr.heap.size wr w7:=YD.grown hgrow YA (fun k e=>by cases e))
     have hM7:=Blk.made hown
     rw [Qiu,← QkM (cAt N l N)] at hM7
     have hbw7:=hbwi.trans (hb7.mono hbwi.size)
     have y0:=Qaa hb7 r0i
     have y1:=Qaa hb7 r1i
     have HCV7:Hid (∀ v,v<N→w7.cell? ⟨cb,v,none⟩=some (.int .i64 ((cAt N l N).getD v 0))):=fun v hv=>Qaa hb7 (HCV.out v hv)
     have hgl:=hM7.lt
     have hcbl:N=0∨cb<wr.heap.size:=by
      by_cases h:N=0
      ·exact .inl h
      ·exact .inr (World.block_lt_of_cell? wr ⟨cb,0,none⟩ (HCV.out 0 (by omega)))
     have hwg:w.heap.size≤wr.heap.size:=hbwi.size
     have hxg:xb<wr.heap.size:=World.block_lt_of_cell? wr ⟨xb,0,none⟩ r0i
     have HM7:Hid (Blk 4 w7 wr.heap.size ((twoL (cAt N l N) N 0).map Value.bool)):=hM7
     clear hown hgrow hb7 r0i r1i HCV hM7 hbwi
     generalize wr.heap.size=g at *
     generalize wr=wz at *
     go_wp2
     go_loopw [12] (fun iv wr=>∃ k:Nat,k≤l.length∧iv = .int .i64 k∧Hid (∀ (q:Nat) (e:Ed),q<k→l[q]? = some e→(cAt N l N).getD e.1.toNat 0≠(cAt N l N).getD e.2.1.toNat 0)∧Grew w7 wr) (fun i _=>l.length-(intOf i).toNat)
     case atStart=>exact⟨0,YN,rfl,fun q e h=>by omega,Grew.refl _⟩
     case round=>
      obtain⟨k,hk,rfl,HP,hgm⟩:=hrel
      have hbm:Below w.heap.size w wr:=hbw7.trans (hgm.below.mono hbw7.size)
      have z1:=Qaa hgm.below y1
      by_cases hltk:k<l.length
      ·obtain⟨b,off,rfl,hbb,hcap,hc,-⟩:=hl.open hltk
       obtain⟨c0,c1,c2⟩:=hc _ hbm k hltk
       have hkl:(k:Int)<(l.length:Int):=by omega
       have hokE:=(HR.out.each l[k] (YG hltk)).1
       unfold okE at hokE
       obtain⟨u,hu⟩:∃ u:Nat,l[k].1=(u:Int):=⟨l[k].1.toNat,by omega⟩
       obtain⟨v,hv⟩:∃ v:Nat,l[k].2.1=(v:Int):=⟨l[k].2.1.toNat,by omega⟩
       have huN:u<N:=by omega
       have hvN:v<N:=by omega
       have HY:Hid ((cAt N l N).getD u 0=(cAt N l N).getD v 0→¬ QcC (cAt N l N) l):=fun h hall=>hall l[k] (YG hltk) (by rw [hu,hv];exact h)
       have HNx:Hid ((cAt N l N).getD u 0≠(cAt N l N).getD v 0→∀ (q:Nat) (e:Ed),q<k+1→l[q]? = some e→(cAt N l N).getD e.1.toNat 0≠(cAt N l N).getD e.2.1.toNat 0):=fun hne q e hq he=>by
        by_cases h:q=k
        ·subst h
         rw [YB hltk] at he
         cases he
         rw [hu,hv]
         exact hne
        ·exact HP.out q e (by omega) he
       have d0:=Qaa hgm.below (HCV7.out u huN)
       have d1:=Qaa hgm.below (HCV7.out v hvN)
       have HGm:Hid (Grew w7 wr):=hgm
       clear hgm
       rw [hu] at c0
       rw [hv] at c1
       have hul:(u:Int)<(N:Int):=by omega
       have hvl:(v:Int)<(N:Int):=by omega
       have HLK:Hid (k<l.length):=hltk
       clear hc hokE hu hv c2 hltk HP
       generalize (cAt N l N).getD u 0=cu at *
       generalize (cAt N l N).getD v 0=cv at *
       have HBm:Hid _:=hbm
       clear hbm
       generalize wr=wm at *
       by_cases hcc:cu=cv
       ·have HQ:Hid _:=HY.out hcc
        subst hcc
        clear HY HNx
        go_wp2
        go_quiet (fail)
        have HBq:Hid (Below w.heap.size w (wm.drewN nq)):=Qab HBm.out nq
        generalize wm.drewN nq=wn at HBq ⊢
        go_wp2
        (try simp only [Exit.inBlock,Exit.then])
        refine bodyPost_ret (results_tmp2 rfl _ _ _) rfl ?_
        exact⟨.inr ⟨HQ.out,rfl⟩,HBq.out⟩
       ·have HQ:Hid _:=HNx.out hcc
        have hcc':(cu==cv)=false:=by simpa using hcc
        clear HY HNx
        go_wp2
        go_quiet (fail)
        have HGq:Hid (Grew w7 (wm.drewN nq)):=Grew.drewN HGm.out nq
        have hlk:=HLK.out
        go_wp2
        exact⟨⟨k+1,HLK.out,by go_num,HQ.out,HGq.out⟩,by simp [intOf];omega⟩
      ·obtain rfl:k=l.length:=by omega
       have hkl:¬ (l.length:Int)<(l.length:Int):=by omega
       have HA:Hid (QcC (cAt N l N) l):=fun e he=>by
        obtain⟨q,hq,rfl⟩:=List.getElem_of_mem he
        exact HP.out q _ hq (YB hq)
       have z0:=Qaa hgm.below y0
       have HM8:Hid (Blk 4 wr g ((twoL (cAt N l N) N 0).map Value.bool)):=Blk.go HM7.out hgm.below
       have HCV8:Hid (∀ v,v<N→wr.cell? ⟨cb,v,none⟩=some (.int .i64 ((cAt N l N).getD v 0))):=fun v hv=>Qaa hgm.below (HCV7.out v hv)
       clear HP hgm HM7 HCV7 y0 y1 hbw7
       generalize wr=wm at *
       go_wp2
       go_loopw [13] (fun iv wr=>∃ v:Nat,v≤N∧iv = .int .i64 v∧Hid (Blk 4 wr g ((twoL (cAt N l N) N v).map Value.bool))∧Hid (Below g wm wr)) (fun i _=>N-(intOf i).toNat)
       case atStart=>exact⟨0,YN,rfl,HM8.out,YD⟩
       case round=>
        obtain⟨v,hv,rfl,HM,HB⟩:=hrel
        have x0:wr.cell? ⟨xb,0,none⟩=some (.int .i64 (N:Int)):=(HB.out.cell (p:=⟨xb,0,none⟩) hxg).trans z0
        by_cases hlt:v<N
        ·have hvl:(v:Int)<(N:Int):=by omega
         have d0:=(HB.out.cell (p:=⟨cb,v,none⟩) (by show cb<g;omega)).trans (HCV8.out v hlt)
         obtain⟨z,hz⟩:∃ z,wr.cell? ⟨g,v,none⟩=some z:=⟨_,HM.out.cell (by rw [YH];rw [YB (by simp [twoL];exact hlt)];rfl)⟩
         have fz:=HM.out.frozen v
         have HM2:Hid _:=HM.out.set v (.bool ((cAt N l N).getD v 0==2))
         have HB2:Hid _:=HB.out.setCell (p:=⟨g,v,none⟩) YA (.bool ((cAt N l N).getD v 0==2))
         have HT:Hid _:=QkN (L:=cAt N l N) (N:=N) (j:=v)
         clear HM HB
         generalize (cAt N l N).getD v 0=cv at *
         go_wp2
         refine⟨⟨v+1,by omega,by go_num,?_,HB2.out⟩,by simp [intOf];omega⟩
         unfold Hid
         rw [← HT.out,List.map_set]
         exact HM2.out
        ·obtain rfl:N=v:=by omega
         have hvl:¬ (N:Int)<(N:Int):=by omega
         have hsl:(twoL (cAt N l N) N N).length=N:=by simp [twoL]
         have HI:Hid (Bools wr.heap.size wr (.slice (some ⟨g,0,none⟩) N N) (twoL (cAt N l N) N N)):=by
          have:=HM.out.bools
          rw [hsl] at this
          exact this
         have HB3:Hid (Below w.heap.size w wr):=hbm.trans (HB.out.mono hwg)
         clear HM HB
         go_wp2
         (try simp only [Exit.inBlock,Exit.then])
         refine bodyPost_ret (results_tmp2 rfl _ _ _) rfl ?_
         exact⟨.inl ⟨HA.out,.slice (some ⟨g,0,none⟩) N N,rfl,HI.out⟩,by rw [← hxb];exact HB3.out⟩
theorem Qm9 {N:Nat}{l:List Ed}{D F:List Int}(T:Tr N l D F){col:Nat→Bool}(hc:∀ a b,Adj l a b→col a≠col b){a x:Nat}(hx:x<N)(h:Anc F a x):D.getD a 0≤D.getD x 0∧col x=(col a ^^ decide ((D.getD x 0-D.getD a 0) % 2=1)):=by
 obtain⟨ls,hl⟩:=h
 induction ls generalizing x with
 | nil=>
  have e:x=a:=hl
  subst e
  simp
 | cons y ls ih=>
  have hy:=hl.1
  rcases T.par x hx with ⟨_,h2⟩ | ⟨z,h1,h2,h3,h4⟩
  ·omega
  ·have e:y=z:=by omega
   subst e
   obtain⟨i1,i2⟩:=ih h1 hl.2
   have h5:=hc y x h4
   refine⟨by omega,?_⟩
   have h6:col x = !col y:=by
    revert h5
    cases col x <;> cases col y <;> simp
   rw [h6,i2,h3]
   generalize D.getD y 0=dy
   generalize D.getD a 0=da
   by_cases e:(dy-da) % 2=1
   ·have e2:¬ (dy+1-da) % 2=1:=by omega
    simp [e,e2]
   ·have e2:(dy+1-da) % 2=1:=by omega
    simp [e,e2]
theorem QoW {N:Nat}{l:List Ed}(hR:RightG (N:Int) l):QcC (cAt N l N) l↔∃ col:Nat→Bool,∀ a b,Adj l a b→col a≠col b:=by
 have h0:=QoV hR
 constructor
 ·intro h
  have hp:=h0.1 h
  refine⟨fun v=>decide ((walkW N l).depth.getD v 0 % 2=1),?_⟩
  rintro a b ⟨e,he,h1⟩ h2
  have h3:=decide_eq_decide.1 h2
  have h4:=hp e he
  rcases h1 with ⟨rfl,rfl⟩ | ⟨rfl,rfl⟩ <;> omega
 ·rintro⟨col,hc⟩
  refine h0.2 fun e he=>?_
  have T:=Qdg hR
  obtain⟨⟨a1,a2,a3,a4,_,_⟩,_⟩:=hR.each e he
  have hA:Adj l e.1.toNat e.2.1.toNat:=⟨e,he,.inl ⟨rfl,rfl⟩⟩
  obtain⟨k,hk⟩:=Qdz hR hA
  have hne:=hc _ _ hA
  have hp1:=T.pos e.1.toNat (by omega)
  have hp2:=T.pos e.2.1.toNat (by omega)
  rcases T.edge k _ _ hk with h | h
  ·obtain⟨h1,h2⟩:=Qm9 T hc (by omega) h
   intro h3
   rw [decide_eq_false (by omega),Bool.xor_false] at h2
   exact hne h2.symm
  ·obtain⟨h1,h2⟩:=Qm9 T hc (by omega) h
   intro h3
   rw [decide_eq_false (by omega),Bool.xor_false] at h2
   exact hne h2
theorem Qhp {N:Nat}{l:List Ed}(hR:RightG (N:Int) l)(B:List Int)(u:Int):RightG (N:Int) (blkOf l B u):=by
 refine⟨hR.n0,hR.n1,?_,fun e he=>?_,?_⟩
 ·unfold blkOf
  rw [List.length_map]
  have h1:=List.length_filter_le (fun k=>B.getD k 0==u) (List.range l.length)
  rw [List.length_range] at h1
  have:=hR.m1
  omega
 ·obtain⟨k,h1,_⟩:=blkOf_mem.1 he
  exact hR.each e (YK h1)
 ·unfold blkOf
  rw [List.pairwise_map]
  have h1:((List.range l.length).filter fun k=>B.getD k 0==u).Pairwise (· < ·):=List.Pairwise.filter _ List.pairwise_lt_range
  refine (List.Pairwise.and_mem.1 h1).imp fun {a b} hab=>?_
  obtain⟨ha,hb,hlt⟩:=hab
  have ha2:=List.mem_range.1 (List.mem_filter.1 ha).1
  have hb2:=List.mem_range.1 (List.mem_filter.1 hb).1
  have h2:=List.pairwise_iff_getElem.1 hR.rise a b ha2 hb2 hlt
  rw [YC,YC,YB ha2,YB hb2]
  exact h2
def oneB (L:List Int)(l:List Ed):Bool:=l.all fun e=>L.getD e.1.toNat 0 != L.getD e.2.1.toNat 0
theorem oneB_iff {L:List Int}{l:List Ed}:oneB L l=true↔QcC L l:=by
 unfold oneB QcC
 rw [List.all_eq_true]
 exact⟨fun h e he=>by simpa using h e he,fun h e he=>by simpa using h e he⟩
def badB (N:Nat)(l:List Ed)(b:List Int):Bool:=!oneB (cAt N (pick l b) N) (pick l b)
theorem Qn5 {N:Nat}{l:List Ed}(hR:RightG (N:Int) l){SD:List Bool}(hSD:∀ u v,Adj l u v→Conn (l.filter fun e=>bAt SD e.1.toNat != bAt SD e.2.1.toNat) u v)(u:Int):
  (memb (walkW N l).block u l.length).any (keptE l SD)=badB N l (memb (walkW N l).block u l.length):=by
 have h1:=Qn4 hR hSD u
 have h2:=Qhp hR (walkW N l).block u
 rw [← Qet] at h2
 have h3:=QoW h2
 have h4:=oneB_iff (L:=cAt N (pick l (memb (walkW N l).block u l.length)) N) (l:=pick l (memb (walkW N l).block u l.length))
 unfold badB
 rw [Bool.eq_iff_iff,h1,← h3,← h4]
 simp
def plOf (v:Int)(l:List Ed):List Int:=(Qai v 0 l).map (·.2)
theorem QdY (v:Int)(l:List Ed):(plOf v l).length=(nb l v).length:=by
 unfold plOf
 rw [List.length_map,QbD]
theorem Qes {l:List Ed}{i:Nat}(h:i<l.length)(v:Int):plOf v (l.take (i+1))=plOf v (l.take i)++(if l[i].1=v then [(i:Int)] else if l[i].2.1=v then [(i:Int)] else []):=by
 unfold plOf
 rw [QeF h,List.map_append]
 congr 1
 split
 ·rfl
 ·split <;> rfl
theorem QiW:∀ {l:List Ed}{v:Int}{x:Int} ,x∈plOf v l→∃ i:Nat,x=i∧∃ h:i<l.length,l[i].1=v∨l[i].2.1=v:=by
 intro l v x hx
 have hall:∀ k,k≤l.length→∀ x∈plOf v (l.take k),∃ i:Nat,x=i∧∃ h:i<l.length,l[i].1=v∨l[i].2.1=v:=by
  intro k
  induction k with
  | zero=>intro _ x hx;simp [plOf,Qai] at hx
  | succ k ih=>
   intro hk x hx
   rw [Qes (by omega)] at hx
   rcases YJ hx with h | h
   ·exact ih (by omega) x h
   ·split at h
    ·rename_i h1
     exact⟨k,YF h,by omega,.inl h1⟩
    ·split at h
     ·rename_i h1
      exact⟨k,YF h,by omega,.inr h1⟩
     ·simp at h
 have:=hall l.length YA x
 rw [List.take_length] at this
 exact this hx
def rowsP (N sb:Nat)(off deg:Nat→Nat)(pre:Nat→List Int):List Value:=(List.range N).map fun v=>.slice (some ⟨sb,off v,none⟩) (pre v).length (deg v)
theorem Qch {N sb:Nat}{off deg:Nat→Nat}{pre:Nat→List Int}{v:Nat}(h:v<N):(rowsP N sb off deg pre)[v]? = some (.slice (some ⟨sb,off v,none⟩) (pre v).length (deg v)):=by simp [rowsP,h]
theorem Qei (N sb:Nat)(off deg:Nat→Nat)(pre:Nat→List Int):(rowsP N sb off deg pre).length=N:=by simp [rowsP]
def halfP (N sb:Nat)(off deg:Nat→Nat)(j:Nat):List Value:=(List.range N).map fun v=>if v<j then .slice (some ⟨sb,off v,none⟩) 0 (deg v) else .slice none 0 0
theorem Qd2 {N sb:Nat}{off deg:Nat→Nat}{j v:Nat}(h:v<N):(halfP N sb off deg j)[v]? = some (if v<j then .slice (some ⟨sb,off v,none⟩) 0 (deg v) else .slice none 0 0):=by simp [halfP,h]
theorem Qc6 (N sb:Nat)(off deg:Nat→Nat)(j:Nat):(halfP N sb off deg j).length=N:=by simp [halfP]
theorem Qkj (N sb:Nat)(off deg:Nat→Nat):halfP N sb off deg 0=List.replicate N (.slice none 0 0):=by
 apply List.ext_getElem?
 intro i
 by_cases h:i<N
 ·rw [Qd2 h];simp [h]
 ·rw [YL (by rw [Qc6];omega),YL (by simp;omega)]
theorem Qkk {N sb:Nat}{off deg:Nat→Nat}{j:Nat}:(halfP N sb off deg j).set j (.slice (some ⟨sb,off j,none⟩) 0 (deg j))=halfP N sb off deg (j+1):=by
 apply List.ext_getElem?
 intro i
 by_cases h:i<N
 ·rw [List.getElem?_set,Qd2 h,Qd2 h,Qc6]
  by_cases e:j=i
  ·subst e;rw [if_pos rfl,if_pos h,if_pos (by omega)]
  ·rw [if_neg e]
   by_cases hi:i<j
   ·rw [if_pos hi,if_pos (by omega)]
   ·rw [if_neg hi,if_neg (by omega)]
 ·rw [YL (by rw [List.length_set,Qc6];omega),YL (by rw [Qc6];omega)]
theorem Qkl (N sb:Nat)(off deg:Nat→Nat):halfP N sb off deg N=rowsP N sb off deg (fun _=>[]):=by
 unfold halfP rowsP
 refine List.map_congr_left fun v hv=>?_
 rw [if_pos (List.mem_range.1 hv)]
 rfl
def updP (pre:Nat→List Int)(v:Nat)(y:Int):Nat→List Int:=fun i=>if i=v then pre v++[y] else pre i
structure PlsI (N lb sb M2:Nat)(off deg:Nat→Nat)(pre:Nat→List Int)(W:World):Prop where
 row:Blk 27 W lb (rowsP N sb off deg pre)
 le:∀ v,v<N→(pre v).length≤deg v
 cur:∃ cs,Blk 3 W sb cs∧cs.length=M2∧∀ v j x,v<N→(pre v)[j]? = some x→cs[off v+j]? = some (.int .i64 x)
theorem PlsI.go {N lb sb M2:Nat}{off deg:Nat→Nat}{pre:Nat→List Int}{A B:World}(h:PlsI N lb sb M2 off deg pre A)(hb:Below A.heap.size A B):PlsI N lb sb M2 off deg pre B:=by
 obtain⟨cs,h1,h2,h3⟩:=h.cur
 exact⟨h.row.go hb,h.le,cs,h1.go hb,h2,h3⟩
theorem PlsI.push {N lb sb M2:Nat}{off deg:Nat→Nat}{pre:Nat→List Int}{W:World}(h:PlsI N lb sb M2 off deg pre W)(hne:lb≠sb)(hsep:∀ u v j k,u<N→v<N→j<deg u→k<deg v→off u+j=off v+k→u=v∧j=k)(hin:∀ v j,v<N→j<deg v→off v+j<M2){v:Nat}(hv:v<N)(y:Int)(hd:(pre v).length+1≤deg v):
  PlsI N lb sb M2 off deg (updP pre v y) ((W.setCell ⟨sb,off v+(pre v).length,none⟩ (.int .i64 y)).setCell ⟨lb,v,none⟩ (.slice (some ⟨sb,off v,none⟩) ((pre v).length+1) (deg v))):=by
 obtain⟨cs,h1,h2,h3⟩:=h.cur
 have hr:=(h.row.other (p:=⟨sb,off v+(pre v).length,none⟩) hne (.int .i64 y)).set v (.slice (some ⟨sb,off v,none⟩) ((pre v).length+1) (deg v))
 have e1:(rowsP N sb off deg pre).set v (.slice (some ⟨sb,off v,none⟩) ((pre v).length+1) (deg v))=rowsP N sb off deg (updP pre v y):=by
  apply List.ext_getElem?
  intro i
  by_cases hi:i<N
  ·rw [List.getElem?_set,Qei,Qch hi,Qch hi]
   by_cases e:v=i
   ·subst e;rw [if_pos rfl,if_pos hi];simp [updP]
   ·rw [if_neg e]
    have:updP pre v y i=pre i:=by unfold updP;rw [if_neg (Ne.symm e)]
    rw [this]
  ·rw [YL (by rw [List.length_set,Qei];omega),YL (by rw [Qei];omega)]
 rw [e1] at hr
 have hcs:=(h1.set (off v+(pre v).length) (.int .i64 y)).other (p:=⟨lb,v,none⟩) (Ne.symm hne) (.slice (some ⟨sb,off v,none⟩) ((pre v).length+1) (deg v))
 have hO:=hin v (pre v).length hv (by omega)
 refine⟨hr,fun u hu=>?_,_,hcs,by simp only [List.length_set];exact h2,fun u j x hu hx=>?_⟩
 ·unfold updP
  by_cases e:u=v
  ·subst e;rw [if_pos rfl,YI];exact hd
  ·rw [if_neg e];exact h.le u hu
 ·have old:(pre u)[j]? = some x→(cs.set (off v+(pre v).length) (.int .i64 y))[off u+j]? = some (.int .i64 x):=fun hx'=>by
   have g1:=h3 u j x hu hx'
   have hjl:=(YE hx').1
   have hle:=h.le u hu
   have hnq:off v+(pre v).length≠off u+j:=fun e=>by
    obtain⟨e1,e2⟩:=hsep v u (pre v).length j hv hu (by omega) (by omega) e
    subst e1
    omega
   rw [List.getElem?_set_ne (by omega)];exact g1
  unfold updP at hx
  by_cases e:u=v
  ·subst e
   rw [if_pos rfl] at hx
   by_cases hjl:j<(pre u).length
   ·rw [List.getElem?_append_left hjl] at hx
    exact old hx
   ·have hj:=(YE hx).1
    rw [YI,List.length_singleton] at hj
    obtain rfl:j=(pre u).length:=by omega
    rw [List.getElem?_append_right YA,Nat.sub_self] at hx
    obtain rfl:y=x:=by simpa using hx
    rw [List.getElem?_set_self (by rw [h2];omega)]
  ·rw [if_neg e] at hx
   exact old hx
theorem PlsI.at {N lb sb M2:Nat}{off deg:Nat→Nat}{pre:Nat→List Int}{W:World}(h:PlsI N lb sb M2 off deg pre W){v j:Nat}{x:Int}(hv:v<N)(hx:(pre v)[j]? = some x):W.cell? ⟨sb,off v+j,none⟩=some (.int .i64 x):=by
 obtain⟨cs,h1,_,h3⟩:=h.cur
 exact h1.cell (h3 v j x hv hx)
end Go.Proofs.YtalflecmadacaaaGreat
