import Derived.Test.YtalflecmadacaaaGreatZAM
import Derived.Test.YtalflecmadacaaaGreatZAK
import Derived.Test.YtalflecmadacaaaGreatZAA
set_option maxRecDepth 100000
set_option maxHeartbeats 8000000
namespace Go.Proofs.YtalflecmadacaaaGreat
open Go Go.Proofs Go.RowKit
structure CompsOK (N:Nat)(C:List (List Int)):Prop where
 few:C.length≤N
 pos:0<N→0<C.length
 ne:∀ x∈C,x≠[]
 len:∀ x∈C,x.length≤N
 mem:∀ x∈C,∀ v∈x,∃ u:Nat,v=(u:Int)∧u<N
structure NW (w2:World)(lb lvb ob ovb n N:Nat)(O L:List Int)(W:World):Prop where
 lst:Blk 3 W lb (L.map (Value.int .i64))
 lv:Blk 27 W lvb [.slice (some ⟨lb,0,none⟩) n n]
 ofs:Blk 3 W ob (O.map (Value.int .i64))
 ov:Blk 27 W ovb [.slice (some ⟨ob,0,none⟩) N N]
 below:Below lb w2 W
 len:L.length=n
 olen:O.length=N
 o1:lb<lvb
 o2:lvb<ob
 o3:ob<ovb
section
variable {w2:World} {lb lvb ob ovb n N:Nat} {O L:List Int} {W:World}
theorem NW.setL (h:NW w2 lb lvb ob ovb n N O L W)(k:Nat)(x:Int):NW w2 lb lvb ob ovb n N O (L.set k x) (W.setCell ⟨lb,k,none⟩ (.int .i64 x)):=by
 have h1:=h.o1
 have h2:=h.o2
 have h3:=h.o3
 exact⟨by rw [List.map_set];exact h.lst.set k _,h.lv.other (by simp;omega) _,h.ofs.other (by simp;omega) _,h.ov.other (by simp;omega) _,h.below.setCell (p:=⟨lb,k,none⟩) YA _,by simpa using h.len,h.olen,h1,h2,h3⟩
theorem NW.setO (h:NW w2 lb lvb ob ovb n N O L W)(k:Nat)(x:Int):NW w2 lb lvb ob ovb n N (O.set k x) L (W.setCell ⟨ob,k,none⟩ (.int .i64 x)):=by
 have h1:=h.o1
 have h2:=h.o2
 have h3:=h.o3
 exact⟨h.lst.other (by simp;omega) _,h.lv.other (by simp;omega) _,by rw [List.map_set];exact h.ofs.set k _,h.ov.other (by simp;omega) _,h.below.setCell (p:=⟨ob,k,none⟩) (by simp;omega) _,h.len,by simpa using h.olen,h1,h2,h3⟩
theorem NW.go {B:World}(h:NW w2 lb lvb ob ovb n N O L W)(hb:Below W.heap.size W B):NW w2 lb lvb ob ovb n N O L B:=
 ⟨h.lst.go hb,h.lv.go hb,h.ofs.go hb,h.ov.go hb,h.below.trans (hb.mono (by have:=h.lst.lt;omega)),h.len,h.olen,h.o1,h.o2,h.o3⟩
theorem NW.cellL (h:NW w2 lb lvb ob ovb n N O L W){k:Nat}(hk:k<n):W.cell? ⟨lb,k,none⟩=some (.int .i64 (L.getD k 0)):=h.lst.cell (by
 have:=h.len
 rw [YH,YB (by omega),YC,YB (by omega)]
 rfl)
theorem NW.cellO (h:NW w2 lb lvb ob ovb n N O L W){k:Nat}(hk:k<N):W.cell? ⟨ob,k,none⟩=some (.int .i64 (O.getD k 0)):=h.ofs.cell (by
 have:=h.olen
 rw [YH,YB (by omega),YC,YB (by omega)]
 rfl)
end
theorem Qdp (C r:List (List Int))(j:Nat):(liC C r j).length=C.length:=by simp [liC]
theorem Qn8 {C r:List (List Int)}{j i:Nat}(hi:i<C.length):(liC C r j).getD i 0=if i<j then ((C.getD i []).length:Int)+hd0 r (C.getD i []) else 0:=by
 unfold liC
 rw [YC,YH,YB (by simpa using hi)]
 simp
theorem Qnh (C r:List (List Int)):liC C r 0=List.replicate C.length 0:=by
 unfold liC
 refine List.ext_getElem (by simp) fun i h1 h2=>?_
 simp
theorem Qni {C r:List (List Int)}{j:Nat}:liC C r (j+1)=(liC C r j).set j (((C.getD j []).length:Int)+hd0 r (C.getD j [])):=by
 unfold liC
 refine List.ext_getElem (by simp) fun i h1 h2=>?_
 rw [List.getElem_set]
 simp only [List.getElem_map,List.getElem_range]
 by_cases h:j=i
 ·subst h
  simp
 ·rw [if_neg h]
  by_cases h3:i<j
  ·rw [if_pos h3,if_pos (by omega)]
  ·rw [if_neg h3,if_neg (by omega)]
theorem Qnj {N:Nat}{C r:List (List Int)}(hC:CompsOK N C)(j:Nat):Betw 0 (N+1) (liC C r j):=by
 intro i
 by_cases hi:i<C.length
 ·rw [Qn8 hi]
  split
  ·have h1:C.getD i []∈C:=by rw [YC,YB hi];exact YG hi
   have h2:=hC.len _ h1
   unfold hd0
   split <;> omega
  ·omega
 ·rw [YC,YL (by rw [Qdp];omega)]
  simp
  omega
theorem Qjs {O xs:List Int}{i:Int}{k:Nat}(hk:k<xs.length):ofRow O (xs.take (k+1)) i=(ofRow O (xs.take k) i).set (xs[k]).toNat i:=by
 unfold ofRow
 rw [List.take_add_one,List.foldl_append,YB hk]
 rfl
theorem QiB {n N:Nat}{i:Nat}(hi:i<n):∀ (xs:List Int) (O:List Int),(∀ v,v<N→∃ k:Nat,O.getD v 0=(k:Int)∧k<n)→∀ v,v<N→∃ k:Nat,(ofRow O xs (i:Int)).getD v 0=(k:Int)∧k<n
 | [],_,h=>h
 | x :: xs,O,h=>by
  have:=QiB (N:=N) hi xs (O.set x.toNat (i:Int)) (fun v hv=>by
   rw [Qav]
   split
   ·exact⟨i,rfl,hi⟩
   ·exact h v hv)
  unfold ofRow at *
  rw [List.foldl_cons]
  exact this
theorem Qn2 {N:Nat}{C:List (List Int)}(hC:CompsOK N C):∀ j,j≤C.length→∀ v,v<N→∃ k:Nat,(ofC N C j).getD v 0=(k:Int)∧k<C.length
 | 0,_=>fun v hv=>⟨0,by simp [ofC,hv],hC.pos (by omega)⟩
 | j+1,hj=>QiB (by omega) _ _ (Qn2 hC j (by omega))
theorem Qng {O L:List Int}{es:List Ed}{k:Nat}(hk:k<es.length):liE O L (es.take (k+1))=bumpL (liE O L (es.take k)) (O.getD (es[k]).1.toNat 0).toNat (-1):=by
 unfold liE
 rw [List.take_add_one,List.foldl_append,YB hk]
 rfl
theorem QiI {O L:List Int}{a b:Int}(h:Betw a b L):∀ es:List Ed,Betw (a-es.length) b (liE O L es):=by
 intro es
 induction es generalizing L a with
 | nil=>simpa [liE] using h
 | cons e es ih=>
  have h1:Betw (a-1) b (bumpL L (O.getD e.1.toNat 0).toNat (-1)):=fun i=>by
   have h1:=h i
   have h2:=h (O.getD e.1.toNat 0).toNat
   rw [Qdb]
   split <;> omega
  have h2:=ih h1
  intro i
  have h3:=h2 i
  have e1:liE O L (e :: es)=liE O (bumpL L (O.getD e.1.toNat 0).toNat (-1)) es:=rfl
  rw [e1]
  simp only [List.length_cons]
  omega
theorem QhK (N:Nat)(l:List Ed)(hR:RightG (N:Int) l)(r:List (List Int))(hS:SysR N l r)(C:List (List Int))(hC:CompsOK N C)(sv rv:Value)(w:World)(hl:Edges w.heap.size w sv l)(hr:Lsts w.heap.size w rv r)
  (hco:∀ W,Edges W.heap.size W sv l→Calls Tryz.prog 122 #[.agg #[.int .i64 (N:Int),sv]] W fun e w'=>∃ lv,e = .returned lv∧Lsts w'.heap.size w' lv C∧Below W.heap.size W w') :
  Calls Tryz.prog 103 #[.agg #[.int .i64 (N:Int),sv],rv] w fun e w'=>∃ lv,e = .returned lv∧Ints w'.heap.size w' lv (numsM N l r C (Qae (nxD r) (2*l.length+1) (Qah N l) (Qah N l).length).1)∧Below w.heap.size w w':=by
 have hn1:=hR.n1
 have hm1:=hR.m1
 have hcf:=hC.few
 obtain⟨p,c,rfl⟩:=hl.len
 obtain⟨i0,hi,hz0,hz1,hz2⟩:=info_parts infoI
 have hbA:Below w.heap.size w (w.alloc (.cells #[.int .i64 (N:Int),.slice p l.length c] 24)):=YD.alloc YA _
 have hX:Blk 24 (w.alloc (.cells #[.int .i64 (N:Int),.slice p l.length c] 24)) w.heap.size [.int .i64 (N:Int),.slice p l.length c]:=heap_alloc_new w _
 have q0:=hX.cell (j:=0) rfl
 have q1:=hX.cell (j:=1) rfl
 have hcc:=hco _ (hl.go hbA)
 have HR:Hid (RightG (N:Int) l):=hR
 have HS:Hid (SysR N l r):=hS
 have HC:Hid (CompsOK N C):=hC
 have HL:Hid (Edges w.heap.size w (.slice p l.length c) l):=hl
 have HR0:Hid (Lsts w.heap.size w rv r):=hr
 have hrlen:=hr.len
 obtain⟨pr,cr,rfl⟩:=hrlen
 rw [hS.len] at HR0 ⊢
 clear hR hS hC hl hr hco
 go_enter Tryz.func103,Tryz.ntmps103
 go_wp2_with fail
 refine hcc.mono ?_
 clear hcc
 rintro e w2 ⟨cv,rfl,hCL,hb2⟩
 obtain⟨pc,cc,rfl⟩:=hCL.len
 have hX2:=hX.go hb2
 have hB2:Below w.heap.size w w2:=hbA.trans (hb2.mono hbA.size)
 have hxl:w.heap.size<w2.heap.size:=hX2.lt
 clear q0 q1 hX hbA hb2
 go_wp2_with (at_make;refine wpList_make_full _ rfl _ _ 27 rfl w2.heap.size 3 i0 (.int .i64 0) 1 Tryz.underlying27 hi hz0 hz1 .i64 .i64 _ _ C.length rfl rfl rfl rfl (by rw [hz2];omega) (by unfold maxLen;omega) YA ?_)
 intro w3 hown hgrow
 have hb3:Below w2.heap.size w2 w3:=YD.grown hgrow YA (fun k e=>by cases e)
 have hrow:=Blk.made (n:=C.length) (k:=1) (z:=.int .i64 0) (by rw [Nat.mul_one];exact hown)
 rw [QaK] at hrow
 obtain⟨lb,HLB⟩:∃ lb,Hid (lb=w2.heap.size):=⟨_,rfl⟩
 rw [← HLB.out] at hrow hb3 ⊢
 have hV3:Blk 27 (w3.alloc (.cells #[.slice (some ⟨lb,0,none⟩) C.length C.length] 27)) w3.heap.size [.slice (some ⟨lb,0,none⟩) C.length C.length]:=heap_alloc_new w3 _
 have hb3A:Below w3.heap.size w3 (w3.alloc (.cells #[.slice (some ⟨lb,0,none⟩) C.length C.length] 27)):=YD.alloc YA _
 have hlb3:lb<w3.heap.size:=hrow.lt
 have hrow4:=hrow.go hb3A
 have hX4:=(hX2.below hb3 (by rw [HLB.out];exact hxl)).go hb3A
 have y0:=hX4.cell (j:=0) rfl
 have y1:=hX4.cell (j:=1) rfl
 have hb4:Below lb w2 (w3.alloc (.cells #[.slice (some ⟨lb,0,none⟩) C.length C.length] 27)):=hb3.trans (hb3A.mono (by omega))
 have h34:(w3.alloc (.cells #[.slice (some ⟨lb,0,none⟩) C.length C.length] 27)).heap.size=w3.heap.size+1:=by simp
 clear hown hgrow hrow hb3 hb3A
 have hsz4:w.heap.size≠w3.heap.size:=by have:=HLB.out;omega
 go_wp2_with (at_make;refine wpList_make_full _ rfl _ _ 27 rfl (w3.heap.size+1) 3 i0 (.int .i64 0) 1 Tryz.underlying27 hi hz0 hz1 .i64 .i64 _ _ N rfl rfl rfl rfl (by rw [hz2];omega) (by unfold maxLen;omega) (by rw [h34];exact YA) ?_)
 intro w5 hown hgrow
 generalize w3.alloc (.cells #[.slice (some ⟨lb,0,none⟩) C.length C.length] 27)=w4 at *
 have hrow5:=Blk.made (n:=N) (k:=1) (z:=.int .i64 0) (by rw [Nat.mul_one];exact hown)
 rw [QaK] at hrow5
 have hb5:Below w4.heap.size w4 w5:=YD.grown hgrow YA (fun k e=>by cases e)
 obtain⟨lvb,HLV⟩:∃ lvb,Hid (lvb=w3.heap.size):=⟨_,rfl⟩
 rw [← HLV.out] at hrow5 hV3 h34 hlb3 ⊢
 have hV6:Blk 27 (w5.alloc (.cells #[.slice (some ⟨lvb+1,0,none⟩) N N] 27)) w5.heap.size [.slice (some ⟨lvb+1,0,none⟩) N N]:=heap_alloc_new w5 _
 have hb6:Below w5.heap.size w5 (w5.alloc (.cells #[.slice (some ⟨lvb+1,0,none⟩) N N] 27)):=YD.alloc YA _
 have hNW:NW w2 lb lvb (lvb+1) w5.heap.size C.length N (ofC N C 0) (liC C r 0) (w5.alloc (.cells #[.slice (some ⟨lvb+1,0,none⟩) N N] 27)):=by
  refine⟨by rw [Qnh];exact (hrow4.go hb5).go hb6,(hV3.go hb5).go hb6,hrow5.go hb6,hV6,?_,Qdp _ _ _,QhI _ _ _,hlb3,by omega,hrow5.lt⟩
  exact (hb4.trans (hb5.mono (by omega))).trans (hb6.mono (by have:=hrow5.lt;omega))
 have HX4:Hid (Blk 24 w2 w.heap.size [.int .i64 (N:Int),.slice p l.length c]):=hX2
 have HB2:Hid (Below w.heap.size w w2):=hB2
 have HCL:Hid (Lsts w2.heap.size w2 (.slice pc C.length cc) C):=hCL
 have HXL:Hid (w.heap.size<w2.heap.size):=hxl
 have HNW:Hid _:=hNW
 clear hX2 hB2 hCL hxl hNW hV6 hb6 hb5 hrow5 hown hgrow hX4 y0 y1 hb4 h34 hrow4 hV3 hsz4 hlb3 HLV hi hz0 hz1 hz2
 obtain⟨ob,HOB⟩:∃ ob,Hid (lvb+1=ob):=⟨_,rfl⟩
 rw [HOB.out] at HNW ⊢
 go_wp2
 generalize w5.alloc (.cells #[.slice (some ⟨ob,0,none⟩) N N] 27)=w6 at HNW ⊢
 generalize w5.heap.size=ovb at *
 have hcm:C.length≤1048576:=by omega
 go_loopw [24] (fun iv wr=>∃ j:Nat,j≤C.length∧iv = .int .i64 j∧Hid (NW w2 lb lvb ob ovb C.length N (ofC N C j) (liC C r j) wr)) (fun i _=>C.length-(intOf i).toNat)
 case atStart=>exact⟨0,YN,rfl,HNW.out⟩
 case round=>
  clear HNW
  obtain⟨j,hj,rfl,HN⟩:=hrel
  have hbw:Below w.heap.size w wr:=HB2.out.trans (HN.out.below.mono (by rw [HLB.out];exact HB2.out.size))
  by_cases hlt:j<C.length
  ·have hjl:(j:Int)<(C.length:Int):=by omega
   obtain⟨b,off,rfl,hbb,hcap,px,cx,hIx,c0'⟩:=HCL.out.cellAt hlt
   have hbl2:Below w2.heap.size w2 wr:=by rw [← HLB.out];exact HN.out.below
   have c0:=(hbl2.cell (p:=⟨b,_,none⟩) hbb).trans c0'
   have hmem:=YG hlt
   have hxl:=HC.out.len _ hmem
   have hxn:=List.length_pos_iff.2 (HC.out.ne _ hmem)
   have HXM:Hid (∀ v∈C[j],∃ u:Nat,v=(u:Int)∧u<N):=HC.out.mem _ hmem
   have hg:C.getD j []=C[j]:=by rw [YC,YB hlt];rfl
   have HST:Hid (liC C r (j+1)=(liC C r j).set j ((C[j].length:Int)+hd0 r C[j])):=by unfold Hid;rw [Qni,hg]
   have HSO:Hid (ofC N C (j+1)=ofRow (ofC N C j) C[j] (j:Int)):=by unfold Hid;rw [ofC,hg]
   clear hg hmem c0' hbl2
   generalize C[j]=X at *
   have v1:=HN.out.lv.cell (j:=0) rfl
   have t1:=HN.out.cellL hlt
   have f1:=HN.out.lst.frozen j
   have HN1:Hid (NW w2 lb lvb ob ovb C.length N (ofC N C j) ((liC C r j).set j (X.length:Int)) (wr.setCell ⟨lb,j,none⟩ (.int .i64 (X.length:Int)))):=HN.out.setL j _
   have hob1:=HN.out.o1
   have hob2:=HN.out.o2
   have hob3:=HN.out.o3
   have hblb:b≠lb:=by rw [HLB.out];omega
   have HLT:Hid (j<C.length):=hlt
   obtain⟨bx,ox,rfl,hbx,hcx,hcells⟩:=hIx.open hxn
   have HCE:Hid (∀ W',Below w2.heap.size w2 W'→∀ (i:Nat) (hi:i<X.length),W'.cell? ⟨bx,ox+i,none⟩=some (.int .i64 X[i])):=hcells
   have HIB:Hid (bx<w2.heap.size):=hbx
   clear hcells hIx HN hlt hbx hbb
   go_wp2
   generalize wr.setCell ⟨lb,j,none⟩ (.int .i64 (X.length:Int))=w7 at HN1 ⊢
   clear c0 v1 t1 f1 hbw
   go_loopw [36] (fun iv wx=>∃ k:Nat,k≤X.length∧iv = .int .i64 k∧Hid (NW w2 lb lvb ob ovb C.length N (ofRow (ofC N C j) (X.take k) (j:Int)) ((liC C r j).set j (X.length:Int)) wx)) (fun i _=>X.length-(intOf i).toNat)
   case atStart=>exact⟨0,YN,rfl,HN1.out⟩
   case round=>
    clear HN1
    obtain⟨k,hk,rfl,HNk⟩:=hrel
    have hblk:Below w2.heap.size w2 wr:=by rw [← HLB.out];exact HNk.out.below
    by_cases hkl:k<X.length
    ·have hkl':(k:Int)<(X.length:Int):=by omega
     obtain⟨u,hu,huN⟩:=HXM.out X[k] (YG hkl)
     have c1:=HCE.out wr hblk k hkl
     rw [hu] at c1
     have v2:=HNk.out.ov.cell (j:=0) rfl
     have t2:=HNk.out.cellO huN
     have f2:=HNk.out.ofs.frozen u
     have HNn:=HNk.out.setO u (j:Int)
     have e:(ofRow (ofC N C j) (X.take k) (j:Int)).set u (j:Int)=ofRow (ofC N C j) (X.take (k+1)) (j:Int):=by
      rw [Qjs hkl,hu]
      rfl
     rw [e] at HNn
     have HNN:Hid _:=HNn
     have huN':(u:Int)<(N:Int):=by omega
     have hbxb:bx≠ob:=by have:=HIB.out;have:=HLB.out;omega
     clear e HNn HNk hu hblk
     have HKL:Hid (k<X.length):=hkl
     clear hkl
     go_wp2
     exact⟨⟨k+1,HKL.out,by go_num,HNN.out⟩,by have:=HKL.out;simp [intOf];omega⟩
    ·obtain rfl:k=X.length:=by omega
     rw [List.take_length] at HNk
     obtain⟨u,hu,huN⟩:=HXM.out X[0] (YG hxn)
     have c1:=HCE.out wr hblk 0 hxn
     rw [hu] at c1
     rw [Nat.add_zero] at c1
     have hbwr:Below w.heap.size w wr:=HB2.out.trans (hblk.mono HB2.out.size)
     have hur:u<r.length:=by rw [HS.out.len];exact huN
     have hRr:Lsts w.heap.size wr (.slice pr r.length cr) r:=by rw [HS.out.len];exact HR0.out.below hbwr
     obtain⟨br,offr,rfl,hbr,hcapr,pu,cu,hIu,c2⟩:=hRr.cellAt hur
     have hgu:(r.getD (X.getD 0 0).toNat [])=r[u]:=by
      rw [YC (l:=X),YB hxn]
      simp only [Option.getD_some]
      rw [hu,YM,YC,YB hur]
      rfl
     have hhd:hd0 r X=if r[u].length=0 then 1 else 0:=by unfold hd0;rw [hgu]
     have huN':(u:Int)<(N:Int):=by omega
     have hx0:(0:Int)<(X.length:Int):=by omega
     have HFIN:Hid (NW w2 lb lvb ob ovb C.length N (ofC N C (j+1)) ((liC C r j).set j (X.length:Int)) wr):=by rw [Hid,HSO.out];exact HNk.out
     clear hgu hRr hIu hblk HNk hu
     by_cases hz:r[u].length=0
     ·rw [if_pos hz] at hhd
      rw [hz] at c2
      have v1:=HFIN.out.lv.cell (j:=0) rfl
      have t1:=HFIN.out.cellL HLT.out
      have f1:=HFIN.out.lst.frozen j
      have eg:((liC C r j).set j (X.length:Int)).getD j 0=(X.length:Int):=by
       rw [Qav,if_pos ⟨rfl,by rw [Qdp];exact HLT.out⟩]
      rw [eg] at t1
      have HN2:=HFIN.out.setL j ((X.length:Int)+1)
      rw [List.set_set] at HN2
      have e2:(liC C r j).set j ((X.length:Int)+1)=liC C r (j+1):=by rw [HST.out,hhd]
      rw [e2] at HN2
      have HN3:Hid _:=HN2
      clear eg HN2 e2 hhd hz HFIN
      go_wp2
      exact⟨⟨j+1,HLT.out,by go_num,HN3.out⟩,by have:=HLT.out;simp [intOf];omega⟩
     ·rw [if_neg hz] at hhd
      have hz':((r[u].length:Int)==0)=false:=by rw [beq_eq_false_iff_ne];omega
      have HN3:Hid (NW w2 lb lvb ob ovb C.length N (ofC N C (j+1)) (liC C r (j+1)) wr):=by
       rw [Hid,HST.out,hhd,Int.add_zero]
       exact HFIN.out
      clear HFIN hhd hz
      generalize r[u].length=ru at *
      go_wp2
      exact⟨⟨j+1,HLT.out,by go_num,HN3.out⟩,by have:=HLT.out;simp [intOf];omega⟩
  ·obtain rfl:j=C.length:=by omega
   have HO:Hid (∀ v,v<N→∃ k:Nat,(ofC N C C.length).getD v 0=(k:Int)∧k<C.length):=Qn2 HC.out C.length YA
   have HB0:Hid (Betw 0 (N+1) (liC C r C.length)):=Qnj HC.out _
   obtain⟨O,HOO⟩:∃ O,Hid (ofC N C C.length=O):=⟨_,rfl⟩
   obtain⟨L0,HLL⟩:∃ L0,Hid (liC C r C.length=L0):=⟨_,rfl⟩
   rw [HOO.out] at HO HN
   rw [HLL.out] at HB0 HN
   have hblr:Below w2.heap.size w2 wr:=by rw [← HLB.out];exact HN.out.below
   have hXr:=HX4.out.below hblr HXL.out
   have x0:=hXr.cell (j:=0) rfl
   have x1:=hXr.cell (j:=1) rfl
   clear hXr hblr hbw
   go_wp2
   clear x0 x1
   go_loopw [63] (fun iv wx=>∃ k:Nat,k≤l.length∧iv = .int .i64 k∧Hid (NW w2 lb lvb ob ovb C.length N O (liE O L0 (l.take k)) wx)) (fun i _=>l.length-(intOf i).toNat)
   case atStart=>exact⟨0,YN,rfl,HN.out⟩
   case round=>
    clear HN
    obtain⟨k,hk,rfl,HNk⟩:=hrel
    have hblk:Below w2.heap.size w2 wr:=by rw [← HLB.out];exact HNk.out.below
    have hbwr:Below w.heap.size w wr:=HB2.out.trans (hblk.mono HB2.out.size)
    by_cases hkl:k<l.length
    ·have hkl':(k:Int)<(l.length:Int):=by omega
     obtain⟨b,off,rfl,hbb,hcap,hcl,_⟩:=HL.out.open hkl
     obtain⟨d0,d1,d2⟩:=hcl wr hbwr k hkl
     have hin:=(HR.out.each l[k] (YG hkl)).1
     have HET:Hid (liE O L0 (l.take (k+1))=bumpL (liE O L0 (l.take k)) (O.getD (l[k]).1.toNat 0).toNat (-1)):=Qng (O:=O) (L:=L0) hkl
     obtain⟨u,hu⟩:∃ u:Nat,l[k].1=(u:Int):=⟨l[k].1.toNat,by have:=hin;unfold okE at this;omega⟩
     have huN:u<N:=by unfold okE at hin;omega
     rw [hu,YM] at HET
     rw [hu] at d0
     generalize l[k].2.1=V at *
     generalize l[k].2.2=Wt at *
     clear hin hu hcl
     obtain⟨g,hg,hgn⟩:=HO.out u huN
     rw [hg,YM] at HET
     have hbt:=QiI (O:=O) HB0.out (l.take k) g
     rw [List.length_take] at hbt
     have hbA:Below wr.heap.size wr (wr.alloc (.cells #[.int .i64 (u:Int),.int .i64 V,.int .i64 Wt] 50)):=YD.alloc YA _
     have hXA:Blk 50 (wr.alloc (.cells #[.int .i64 (u:Int),.int .i64 V,.int .i64 Wt] 50)) wr.heap.size [.int .i64 (u:Int),.int .i64 V,.int .i64 Wt]:=heap_alloc_new wr _
     have hNA:=HNk.out.go hbA
     have a0:=hXA.cell (j:=0) rfl
     have a1:=hNA.lv.cell (j:=0) rfl
     have a2:=hNA.ov.cell (j:=0) rfl
     have a3:=hNA.cellO huN
     rw [hg] at a3
     have a4:=hNA.cellL hgn
     have f4:=hNA.lst.frozen g
     have hlo : -4194304≤(liE O L0 (l.take k)).getD g 0:=by omega
     have hhi:(liE O L0 (l.take k)).getD g 0≤4194304:=by omega
     have HNN:Hid (∀ q,NW w2 lb lvb ob ovb C.length N O (liE O L0 (l.take (k+1))) (((wr.alloc (.cells #[.int .i64 (u:Int),.int .i64 V,.int .i64 Wt] 50)).drewN q).setCell ⟨lb,g,none⟩ (.int .i64 ((liE O L0 (l.take k)).getD g 0-1)))):=fun q=>by
      have h1:=(hNA.go (Qaa YD q)).setL g ((liE O L0 (l.take k)).getD g 0-1)
      rw [HET.out]
      exact h1
     have huN':(u:Int)<(N:Int):=by omega
     have hgn':(g:Int)<(C.length:Int):=by omega
     have HKL:Hid (k<l.length):=hkl
     generalize (liE O L0 (l.take k)).getD g 0=y at *
     clear hbt hNA hXA hbA HNk hkl hblk hbwr HET hg hgn huN
     go_wp2
     generalize wr.alloc (.cells #[.int .i64 (u:Int),.int .i64 V,.int .i64 Wt] 50)=wA at *
     generalize wr.heap.size=eb at *
     clear d0 d1 d2
     refine Qai (S:=(fun w':World=>w'.cell? ⟨lvb,0,none⟩=some (.slice (some ⟨lb,0,none⟩) C.length C.length)∧w'.cell? ⟨ovb,0,none⟩=some (.slice (some ⟨ob,0,none⟩) N N)∧w'.cell? ⟨eb,0,none⟩=some (.int .i64 (u:Int))∧w'.cell? ⟨ob,u,none⟩=some (.int .i64 (g:Int))∧w'.cell? ⟨lb,g,none⟩=some (.int .i64 y))) (by kernel_rfl) ?_ (fun hHeld=>?_)
     ·(try dsimp only);go_keep
     refine tL 0 ?_
     try simp only [YS]
     refine tL 1 ?_
     refine tL 2 ?_
     refine tL 3 ?_
     refine tL 4 ?_
     refine tL 5 ?_
     refine tL 6 ?_
     refine tL 7 ?_
     refine tL 8 ?_
     refine tL 9 ?_
     refine Qac (rs:=[10]) (by kernel_rfl) (by simp) ?_
     refine AllReadyL.last rfl (by kernel_rfl) (fun K hK=>?_)
     go_simp
     refine hK.out _ _ ?_
     clear hK K
     try simp only [Act.put,YS,YT,YU]
     refine Qak (by kernel_rfl) ?_ _
     rw [show IntKind.i64.wrap (y-1)=y-1 from QaU _ (by omega) (by omega)]
     have HN2:Hid (NW w2 lb lvb ob ovb C.length N O (liE O L0 (l.take (k+1))) (wA.setCell ⟨lb,g,none⟩ (.int .i64 (y-1))).drew):=HNN.out 1
     clear HNN hHeld a0 a1 a2 a3 a4 f4
     generalize (wA.setCell ⟨lb,g,none⟩ (.int .i64 (y-1))).drew=wB at HN2 ⊢
     go_wp2
     exact⟨⟨k+1,HKL.out,by go_num,HN2.out⟩,by have:=HKL.out;simp [intOf];omega⟩
    ·obtain rfl:k=l.length:=by omega
     rw [List.take_length] at HNk
     have hbt:Betw (-8388608) 8388608 (liE O L0 l):=fun i=>by
      have:=QiI (O:=O) HB0.out l i
      omega
     have hXr:=HX4.out.below hblk HXL.out
     have x0:=hXr.cell (j:=0) rfl
     have x1:=hXr.cell (j:=1) rfl
     have hN:=HNk.out
     have o1:=hN.o1
     have o2:=hN.o2
     have o3:=hN.o3
     have hsz:=hN.ov.lt
     have hent:∀ (args:Array Value) (W:World),(callFunc 123 args).run Tryz.prog W = .ok (.enter 123 args) W:=fun args W=>by kernel_rfl
     have hgr:=QdK N l HR.out r HS.out 123 #[.pointer (some ⟨lvb,0,none⟩),.pointer (some ⟨ovb,0,none⟩)] hent (IN wr wr.heap.size lb O (liE O L0 l)) (.slice p l.length c) (.slice pr N cr) wr (HL.out.go hbwr) (HR0.out.go hbwr)
      ⟨rfl,hN.lst,rfl,rfl,rfl,YA,fun q _ _=>rfl,fun i=>by have:=hbt i;show -8388608≤(liE O L0 l).getD i 0∧(liE O L0 l).getD i 0≤8388608+((0:Nat):Int);omega⟩ (fun fs bs A B h hSt=>h.still (by omega) hSt)
      (QeT wr wr.heap.size lb ob lvb ovb C.length N O (liE O L0 l) hN.len hN.olen HO.out (by omega) (by omega) (by omega) (by omega) (by omega) (by omega) (by omega) hN.lv hN.ov hN.ofs _ (fun d hd=>by
       obtain⟨u,h1,h2,_⟩:=dartsL_mem.1 ((QaM HS.out HR.out).1 hd)
       exact⟨u,h2,h1⟩))
     have HFIN:Hid (∀ fs bs w',IN wr wr.heap.size lb O (liE O L0 l) fs bs w'→w'.cell? ⟨lvb,0,none⟩=some (.slice (some ⟨lb,0,none⟩) C.length C.length)∧Ints w'.heap.size w' (.slice (some ⟨lb,0,none⟩) C.length C.length) (numsM N l r C fs)∧Below w.heap.size w w'):=fun fs bs w' h=>by
      have hlb:=HLB.out
      have hxl:=HXL.out
      refine⟨Blk.cell (j:=0) ((h.low lvb (by omega) (by omega)).trans hN.lv) rfl,?_,?_⟩
      ·have e:numsM N l r C fs=liF O (liE O L0 l) fs:=by unfold numsM;rw [HOO.out,HLL.out]
       have hlen:(liF O (liE O L0 l) fs).length=C.length:=by rw [QfN];exact hN.len
       rw [e]
       exact .inr ⟨lb,0,C.length,by rw [hlen],h.lst.lt,by rw [hlen];exact YA,fun j x hx=>h.lst.cell (by rw [Nat.zero_add,YH,hx];rfl)⟩
      ·exact⟨h.os.trans hbwr.os,h.tape.trans hbwr.tape,h.output.trans hbwr.output,by have:=h.size;have:=hbwr.size;omega,fun q hq=>(h.low q (by have:=hbwr.size;omega) (by omega)).trans (hbwr.block q hq)⟩
     clear hN hXr HNk hbt hblk hbwr o1 o2 o3 hsz HO HB0
     obtain⟨fs,HFS⟩:∃ fs,Hid ((Qae (nxD r) (2*l.length+1) (Qah N l) (Qah N l).length).1=fs):=⟨_,rfl⟩
     rw [HFS.out] at hgr
     go_wp2_with fail
     refine hgr.mono ?_
     clear hgr
     rintro e w9 ⟨rfl,bs,hIN⟩
     obtain⟨z0,z1,z2⟩:=HFIN.out fs bs w9 hIN
     have HZ1:Hid (Ints w9.heap.size w9 (.slice (some ⟨lb,0,none⟩) C.length C.length) (numsM N l r C fs)):=z1
     clear z1 hIN HFIN x0 x1
     go_wp2
     go_ret
     exact⟨.slice (some ⟨lb,0,none⟩) C.length C.length,rfl,by rw [HFS.out];exact HZ1.out,z2⟩
def stepF (nx:Dt→Dt)(fuel:Nat)(s:List (List Dt) × List Dt)(d:Dt):List (List Dt) × List Dt:=if s.2.contains d then s else (s.1++[orb nx d fuel d],s.2++orb nx d fuel d)
def foldF (nx:Dt→Dt)(fuel:Nat)(starts:List Dt):List (List Dt) × List Dt:=starts.foldl (stepF nx fuel) ([],[])
theorem Qfj (nx:Dt→Dt)(fuel:Nat)(starts:List Dt)(d:Dt):foldF nx fuel (starts++[d])=stepF nx fuel (foldF nx fuel starts) d:=by
 unfold foldF
 rw [List.foldl_append]
 rfl
theorem Qec (nx:Dt→Dt)(fuel:Nat)(starts:List Dt):∀ {j:Nat},j≤starts.length→Qae nx fuel starts j=foldF nx fuel (starts.take j)
 | 0,_=>rfl
 | j+1,h=>by
  have hj:j<starts.length:=by omega
  have e:starts.getD j (0,0)=starts[j]:=by rw [YC,YB hj];rfl
  rw [Qae,e,Qec nx fuel starts (by omega:j≤starts.length),List.take_add_one,YB hj]
  show _=foldF nx fuel (starts.take j++[starts[j]])
  rw [Qfj]
  rfl
theorem QhG (nx:Dt→Dt)(d:Dt):∀ (k:Nat) (x:Dt),(orb nx d k x).length≤k
 | 0,_=>by simp [orb]
 | k+1,x=>by
  rw [orb]
  split
  ·simp
  ·have:=QhG nx d k (nx x)
   simp
   omega
theorem QlS (nx:Dt→Dt)(fuel:Nat)(starts:List Dt):(foldF nx fuel starts).1.length≤starts.length∧(foldF nx fuel starts).2.length≤starts.length*fuel:=by
 have aux:∀ (L:List Dt) (s:List (List Dt) × List Dt),(L.foldl (stepF nx fuel) s).1.length≤s.1.length+L.length∧(L.foldl (stepF nx fuel) s).2.length≤s.2.length+L.length*fuel:=by
  intro L
  induction L with
  | nil=>intro s;simp
  | cons d L ih=>
   intro s
   rw [List.foldl_cons]
   have h1:=ih (stepF nx fuel s d)
   have h2:(stepF nx fuel s d).1.length≤s.1.length+1∧(stepF nx fuel s d).2.length≤s.2.length+fuel:=by
    unfold stepF
    split
    ·exact⟨by omega,by omega⟩
    ·have:=QhG nx d fuel d
     simp
     omega
   rw [List.length_cons,Nat.succ_mul]
   omega
 have:=aux starts ([],[])
 unfold foldF
 simpa using this
theorem QeN (l:List Ed)(j:Nat):Qah (j+1) l=Qah j l++(nb l (j:Int)).map fun v=>((j:Int),v):=by
 unfold Qah
 rw [List.range_succ,List.flatMap_append]
 simp
theorem Going.any2 {nx:Dt→Dt}{S starts:List Dt}{F:Nat}{left:List Dt}{d:Dt}{j:Nat}(h:Going nx S starts F left [] d j)(d':Dt):Going nx S starts F left [] d' j:=⟨h.shut,h.nodup,h.all,h.len,fun e=>absurd rfl e⟩
section
variable {N:Nat} {l:List Ed} {r:List (List Int)}
def stsAt (l:List Ed)(u v:Nat):List Dt:=Qah u l++((nb l (u:Int)).filter fun x=>decide (x<(v:Int))).map fun x=>((u:Int),x)
theorem Qdh (hR:RightG (N:Int) l)(u:Nat):stsAt l u 0=Qah u l:=by
 unfold stsAt
 have:(nb l (u:Int)).filter (fun x=>decide (x<((0:Nat):Int)))=[]:=by
  rw [List.filter_eq_nil_iff]
  intro x hx
  have:=(QaZ hR hx).2.1
  simp
  omega
 rw [this]
 simp
theorem Qi8 (hR:RightG (N:Int) l)(u:Nat):stsAt l u N=Qah (u+1) l:=by
 unfold stsAt
 have:(nb l (u:Int)).filter (fun x=>decide (x<(N:Int)))=nb l (u:Int):=by
  rw [List.filter_eq_self]
  intro x hx
  have:=(QaZ hR hx).2.2.1
  simp
  omega
 rw [this,QeN]
theorem Qc8:∀ {L:List Int},L.Pairwise (· < ·)→∀ {v:Nat},(v:Int)∈L→L.filter (fun x=>decide (x<((v+1:Nat):Int)))=L.filter (fun x=>decide (x<(v:Int)))++[(v:Int)]
 | [],_,v,h=>by simp at h
 | a :: L,hp,v,h=>by
  rw [List.pairwise_cons] at hp
  rcases List.mem_cons.1 h with e | h
  ·have h1:L.filter (fun x=>decide (x<((v+1:Nat):Int)))=[]:=by
    rw [List.filter_eq_nil_iff]
    intro x hx
    have:=hp.1 x hx
    simp
    omega
   have h2:L.filter (fun x=>decide (x<(v:Int)))=[]:=by
    rw [List.filter_eq_nil_iff]
    intro x hx
    have:=hp.1 x hx
    simp
    omega
   rw [List.filter_cons_of_pos (by simp;omega),List.filter_cons_of_neg (by simp;omega),h1,h2,← e]
   rfl
  ·have:=hp.1 _ h
   rw [List.filter_cons_of_pos (by simp;omega),List.filter_cons_of_pos (by simp;omega),Qc8 hp.2 h]
   rfl
theorem QfS {L:List Int}{v:Nat}(h:(v:Int)∉L):L.filter (fun x=>decide (x<((v+1:Nat):Int)))=L.filter (fun x=>decide (x<(v:Int))):=by
 refine List.filter_congr fun x hx=>?_
 have:x≠(v:Int):=fun e=>h (by rw [← e];exact hx)
 by_cases h1:x<(v:Int)
 ·rw [decide_eq_true h1,decide_eq_true (by omega)]
 ·rw [decide_eq_false h1,decide_eq_false (by omega)]
theorem Qks (hR:RightG (N:Int) l){u v:Nat}(h:(v:Int)∈nb l (u:Int)):stsAt l u (v+1)=stsAt l u v++[((u:Int),(v:Int))]:=by
 unfold stsAt
 rw [Qc8 (Qco hR _) h,List.map_append,List.append_assoc]
 rfl
theorem Qkr {u v:Nat}(h:(v:Int)∉nb l (u:Int)):stsAt l u (v+1)=stsAt l u v:=by
 unfold stsAt
 rw [QfS h]
def stF (l:List Ed)(r:List (List Int))(u v:Nat):List (List Dt) × List Dt:=foldF (nxD r) (2*l.length+1) (stsAt l u v)
theorem QmC (hR:RightG (N:Int) l)(r:List (List Int)):stF l r 0 0=([],[]):=by
 unfold stF
 rw [Qdh hR]
 rfl
theorem QmD (hR:RightG (N:Int) l)(r:List (List Int))(u:Nat):stF l r u N=stF l r (u+1) 0:=by
 unfold stF
 rw [Qdh hR,Qi8 hR]
theorem Qoy (hR:RightG (N:Int) l){u v:Nat}(h:(v:Int)∈nb l (u:Int)):stF l r u (v+1)=stepF (nxD r) (2*l.length+1) (stF l r u v) ((u:Int),(v:Int)):=by
 unfold stF
 rw [Qks hR h,Qfj]
theorem Qox {u v:Nat}(h:(v:Int)∉nb l (u:Int)):stF l r u (v+1)=stF l r u v:=by
 unfold stF
 rw [Qkr h]
theorem Qfm (l:List Ed):∀ j,(Qah j l).length=degS l j
 | 0=>by simp [Qah,degS]
 | j+1=>by
  rw [QeN,YI,List.length_map,Qfm l j]
  rfl
theorem Qkt (hR:RightG (N:Int) l){u v:Nat}(hu:u≤N):(stsAt l u v).length≤3*l.length:=by
 unfold stsAt
 rw [YI,List.length_map,Qfm]
 have h1:=Qct (l:=l) hu
 have h2:degS l N=2*l.length:=QbR (fun e he=>(hR.each e he).1)
 have h3:=List.length_filter_le (fun x=>decide (x<(v:Int))) (nb l (u:Int))
 have h4:=QaO (u:Int) l
 omega
theorem Qhp (hR:RightG (N:Int) l)(r:List (List Int)){u v:Nat}(hu:u≤N):(stF l r u v).1.length≤3*l.length∧(stF l r u v).2.length≤3*l.length*(2*l.length+1):=by
 have h1:=Qkt hR (v:=v) hu
 have h2:=QlS (nxD r) (2*l.length+1) (stsAt l u v)
 exact⟨Nat.le_trans h2.1 h1,Nat.le_trans h2.2 (Nat.mul_le_mul_right _ h1)⟩
end
section
variable {nx:Dt→Dt} {S starts:List Dt} {fuel:Nat}
def Rnd (nx:Dt→Dt)(f:List Dt):Prop:=f≠[]∧∃ d,Way nx d d f
theorem Qez (hP:PermS nx S){j:Nat}{left face:List Dt}{d:Dt}(h:Going nx S starts fuel left face d j)(hf:face≠[])(hd:d∉left)(hdS:d∈S):∃ d,Way nx d d face:=by
 have hw:=h.way hf
 have hnd:=(List.nodup_append.1 h.nodup).2.1
 have hnf:face.Nodup:=(List.nodup_append.1 hnd).1
 have hap:∀ y∈face,y∉(Qae nx fuel starts j).2:=fun y hy hy'=>(List.nodup_append.1 hnd).2.2 y hy y hy' rfl
 have hsub:∀ y∈face,y∈S:=fun y hy=>(h.all y).2 (.inr (.inl hy))
 have hdm:d∈(Qae nx fuel starts j).2∨d∈face:=by
  rcases (h.all d).1 hdS with h1 | h1 | h1
  ·exact absurd h1 hd
  ·exact .inr h1
  ·exact .inl h1
 have e:=Way.round hP h.shut hf hw hsub hnf hap hdm
 rw [← e] at hw
 exact⟨d,hw⟩
theorem QjQ (hP:PermS nx S)(hfu:S.length≤fuel){j:Nat}:∀ (n:Nat) {left face:List Dt} {d:Dt},left.length≤n→Going nx S starts fuel left face d j→d∈S→(face=[]→d=starts.getD j (0,0))→∃ left',Going nx S starts fuel left' [] (0,0) (j+1)∧∀ f∈(Qae nx fuel starts (j+1)).1,f∈(Qae nx fuel starts j).1∨Rnd nx f:=by
 intro n
 induction n with
 | zero=>
  intro left face d hn hG hd h0
  have hl:left=[]:=List.eq_nil_of_length_eq_zero (by omega)
  have hdl:d∉left:=by rw [hl];simp
  by_cases hf:face=[]
  ·subst hf
   obtain⟨e1,e2⟩:=hG.skip hdl hd (h0 rfl) (0,0)
   exact⟨left,e2,fun f hm=>.inl (by rw [e1] at hm;exact hm)⟩
  ·obtain⟨e1,e2⟩:=hG.done hP hf hdl hd hfu (0,0)
   exact⟨left,e2,fun f hm=>by
    rw [e1] at hm
    rcases YJ hm with h1 | h1
    ·exact .inl h1
    ·rw [YF h1]
     exact .inr ⟨hf,Qez hP hG hf hdl hd⟩⟩
 | succ n ih=>
  intro left face d hn hG hd h0
  by_cases hdl:d∈left
  ·have h1:=hG.take hdl h0
   refine ih ?_ h1 (hP.mem d hd) (fun e=>by simp at e)
   rw [List.length_erase_of_mem hdl]
   omega
  ·by_cases hf:face=[]
   ·subst hf
    obtain⟨e1,e2⟩:=hG.skip hdl hd (h0 rfl) (0,0)
    exact⟨left,e2,fun f hm=>.inl (by rw [e1] at hm;exact hm)⟩
   ·obtain⟨e1,e2⟩:=hG.done hP hf hdl hd hfu (0,0)
    exact⟨left,e2,fun f hm=>by
     rw [e1] at hm
     rcases YJ hm with h1 | h1
     ·exact .inl h1
     ·rw [YF h1]
      exact .inr ⟨hf,Qez hP hG hf hdl hd⟩⟩
theorem QeA (hP:PermS nx S)(hn:S.Nodup)(hfu:S.length≤fuel)(hst:∀ d∈starts,d∈S):∀ {j:Nat},j≤starts.length→(∃ left,Going nx S starts fuel left [] (0,0) j)∧∀ f∈(Qae nx fuel starts j).1,Rnd nx f
 | 0,_=>⟨⟨S,Going.start hn _ _ _⟩,fun f h=>by simp [Qae] at h⟩
 | j+1,h=>by
  obtain⟨⟨left,hG⟩,hr⟩:=QeA hP hn hfu hst (by omega:j≤starts.length)
  have hj:j<starts.length:=by omega
  have hm:starts.getD j (0,0)∈S:=by
   rw [YC,YB hj]
   exact hst _ (YG hj)
  obtain⟨left',hG',hr'⟩:=QjQ hP hfu left.length YA (hG.any2 (starts.getD j (0,0))) hm (fun _=>rfl)
  exact⟨⟨left',hG'⟩,fun f hf=>(hr' f hf).elim (hr f) id⟩
theorem QbL:∀ j,(Qae nx fuel starts j).1.flatten=(Qae nx fuel starts j).2
 | 0=>rfl
 | j+1=>by
  rw [Qae]
  split
  ·exact QbL j
  ·simp [QbL j]
theorem Qht (j:Nat):∀ x∈(Qae nx fuel starts j).2,x∈(Qae nx fuel starts (j+1)).2:=by
 intro x hx
 rw [Qae]
 split
 ·exact hx
 ·exact List.mem_append_left _ hx
theorem Qgo (hf:0<fuel)(j:Nat):starts.getD j (0,0)∈(Qae nx fuel starts (j+1)).2:=by
 rw [Qae]
 split
 ·rename_i h
  simpa using h
 ·refine List.mem_append_right _ ?_
  match fuel,hf with
  | k+1,_=>rw [orb];exact List.mem_cons_self ..
theorem QcK (hf:0<fuel):∀ (k j:Nat),j<k→starts.getD j (0,0)∈(Qae nx fuel starts k).2
 | k+1,j,h=>by
  by_cases e:j=k
  ·subst e;exact Qgo hf j
  ·exact Qht k _ (QcK hf k j (by omega))
end
end Go.Proofs.YtalflecmadacaaaGreat
