import Derived.OwnWalk
import Derived.Test.YtalflecmadacaaaGreatShelfS
import Derived.Test.YtalflecmadacaaaGreatZAN
import Derived.Test.YtalflecmadacaaaGreatZAA
import Derived.Test.YtalflecmadacaaaGreatZAH
import Derived.Deep.QuietTactic
import Derived.Deep.RegionLaw
import Derived.BigQuiet
import Derived.Deep.RegionHeld3
import Derived.Test.YtalflecmadacaaaGreatZAM
set_option maxRecDepth 100000
set_option maxHeartbeats 8000000
namespace Go.Proofs.YtalflecmadacaaaGreat
open Go Go.Proofs Go.RowKit
def fitC (n:Int)(l:List Ed):Int:=if rightK n l=0 then if l.any negB=true then 10 else 0 else 1
theorem QmG (e:Ed)(w:World):Calls Tryz.prog 56 #[edV e] w fun r w'=>r = .returned (.bool (negB e))∧Grew w w':=by
 obtain⟨a,b,c⟩:=e
 unfold edV negB
 by_cases h:c<0
 all_goals
  go_enter Tryz.func56,Tryz.ntmps56
  go_wp2
  go_ret
  exact⟨by simp [h],(Grew.refl w).alloc _⟩
theorem QeR (n:Int)(l:List Ed)(hm:l.length≤8388608)(sv:Value)(w:World)(hl:Edges w.heap.size w sv l):
  Calls Tryz.prog 29 #[.agg #[.int .i64 n,sv]] w fun r w'=>r = .returned (.int .i64 (fitC n l))∧Grew w w':=by
 have hg1:Grew w (w.alloc (.cells #[.int .i64 n,sv] 24)):=(Grew.refl w).alloc _
 have hl1:=hl.go hg1.below
 obtain⟨p,c,rfl⟩:=hl.len
 have hrc:=Qbz n l (.slice p l.length c) _ hl1
 go_enter Tryz.func29,Tryz.ntmps29
 go_wp2_with fail
 refine hrc.mono ?_
 rintro e w2 ⟨rfl,hg2⟩
 have hg:=hg1.trans hg2
 have q1:w2.cell? ⟨w.heap.size,1,none⟩=some (.slice p l.length c):=(hg2.below.cell (p:=⟨w.heap.size,1,none⟩) (by simp)).trans (by simp)
 have hce:=Qga 56 #[] negB (fun _ _=>by kernel_rfl) l hm (.slice p l.length c) w2 (hl1.go hg2.below) (fun e _ W _=>by
  have h:=QmG e W
  exact h)
 clear hrc hl1
 by_cases hk:rightK n l=0
 ·have HE:∀ b,l.any negB=b→Hid (fitC n l=if b=true then 10 else 0):=fun b h=>by show _=_;unfold fitC;rw [if_pos hk,h]
  rw [hk]
  go_wp2_with fail
  refine hce.mono ?_
  rintro e w3 ⟨rfl,hg3⟩
  cases hb:l.any negB with
  | true=>
   have H:=HE true hb
   clear HE
   go_wp2
   go_ret
   exact⟨by rw [H.out];rfl,hg.trans hg3⟩
  | false=>
   have H:=HE false hb
   clear HE
   go_wp2
   go_ret
   exact⟨by rw [H.out];rfl,hg.trans hg3⟩
 ·have hk2:(rightK n l==0)=false:=by simpa using hk
  have H:Hid (fitC n l=1):=if_neg hk
  generalize rightK n l=k at *
  clear hce q1
  go_wp2
  go_ret
  exact⟨by rw [H.out];rfl,hg⟩
theorem Qgv (n:Int)(l:List Ed)(hm:l.length≤4194304)(hw:∀ e∈l,-2147483648≤e.2.2∧e.2.2≤2147483648)(sv:Value)(w:World)(hl:Edges w.heap.size w sv l):
  Calls Tryz.prog 36 #[.agg #[.int .i64 n,sv]] w fun r w'=>r = .returned (.int .i64 (sumC l l.length))∧Below w.heap.size w w':=by
 have hmix:=mixed
 obtain⟨p,c,rfl⟩:=hl.len
 have hg1:Grew w (w.alloc (.cells #[.int .i64 n,.slice p l.length c] 24)):=(Grew.refl w).alloc _
 have HL:Hid (Edges w.heap.size w (.slice p l.length c) l):=hl
 have HW:Hid _:=hw
 clear hl hw
 go_enter Tryz.func36,Tryz.ntmps36
 go_wp2
 go_loopw [3,9] (fun cv i wr=>∃ k:Nat,k≤l.length∧cv = .int .i64 (sumC l k)∧i = .int .i64 (k:Int)∧Hid (Below w.heap.size w wr)) (fun _ i _=>l.length-(intOf i).toNat)
 case atStart=>exact⟨0,YN,rfl,rfl,hg1.below⟩
 case round=>
  clear hg1
  obtain⟨k,hk,rfl,rfl,HB⟩:=hrel
  by_cases hlt:k<l.length
  ·have hkl:(k:Int)<(l.length:Int):=by omega
   obtain⟨b,off,rfl,hbb,hcap,hc,-⟩:=HL.out.open hlt
   obtain⟨e0,e1,e2⟩:=hc _ HB.out k hlt
   have HST:Hid (sumC l (k+1)=sumC l k+l[k].2.2):=QgC hlt
   have hf:=QfI HW.out k hk
   have hwe:=HW.out l[k] (YG hlt)
   have s2:(k:Int)≤4194304:=by omega
   have hwr:IntKind.i64.wrap (sumC l k+l[k].2.2)=sumC l k+l[k].2.2:=QaM _ (by omega) (by omega)
   have HLT:Hid (k<l.length):=hlt
   generalize sumC l k=S at *
   generalize l[k].2.2=wt at *
   generalize l[k].1=u at *
   generalize l[k].2.1=v at *
   have HB6:Hid (Below wr.heap.size wr (wr.alloc (.cells #[.int .i64 u,.int .i64 v,.int .i64 wt] 50))):=YD.alloc YA _
   clear hc hlt hf hwe s2
   go_wp2
   refine⟨⟨k+1,HLT.out,?_,by go_num,HB.out.trans (HB6.out.mono HB.out.size)⟩,by have:=HLT.out;simp [intOf];omega⟩
   rw [HST.out]
  ·obtain rfl:k=l.length:=by omega
   go_wp2
   go_ret
   exact⟨rfl,HB.out⟩
def iotaI (m j:Nat):List Int:=(List.range m).map fun i=>if i<j then (i:Int) else 0
theorem Qa8 (m j:Nat):(iotaI m j).length=m:=by simp [iotaI]
theorem Qj9 (m:Nat):iotaI m 0=List.replicate m 0:=by
 apply List.ext_getElem <;> simp [iotaI]
theorem Qmk {m j:Nat}:(iotaI m j).set j (j:Int)=iotaI m (j+1):=by
 apply List.ext_getElem?
 intro i
 rw [List.getElem?_set,Qa8]
 by_cases h:i<m
 ·have a:∀ q,(iotaI m q)[i]? = some (if i<q then (i:Int) else 0):=fun q=>by simp [iotaI,h]
  rw [a,a]
  by_cases e:j=i
  ·subst e;rw [if_pos rfl,if_pos h,if_pos (by omega)]
  ·rw [if_neg e]
   congr 1
   by_cases hi:i<j
   ·rw [if_pos hi,if_pos (by omega)]
   ·rw [if_neg hi,if_neg (by omega)]
 ·have a:∀ q,(iotaI m q)[i]? = none:=fun q=>YL (by rw [Qa8];omega)
  rw [a,a]
  by_cases e:j=i
  ·subst e;rw [if_pos rfl,if_neg h]
  ·rw [if_neg e]
theorem Qex (n:Int)(l:List Ed)(hm:l.length≤4194304)(sv:Value)(w:World)(hl:Edges w.heap.size w sv l):
  Calls Tryz.prog 32 #[.agg #[.int .i64 n,sv]] w fun r w'=>∃ rv,r = .returned rv∧Ints w'.heap.size w' rv (oddK n l (iotaI l.length l.length))∧Below w.heap.size w w':=by
 have hmix:=mixed
 obtain⟨p,c,rfl⟩:=hl.len
 obtain⟨i0,hi,hz0,hz1,hz2⟩:=info_parts infoI
 obtain⟨w1,hw1⟩:∃ W,(w.alloc (.cells #[.int .i64 n,.slice p l.length c] 24))=W:=⟨_,rfl⟩
 have hb1:Below w.heap.size w w1:=by rw [← hw1];exact YD.alloc YA _
 have hX1:Blk 24 w1 w.heap.size [.int .i64 n,.slice p l.length c]:=by rw [← hw1];exact heap_alloc_new w _
 have HX1:Hid (Blk 24 w1 w.heap.size [.int .i64 n,.slice p l.length c]):=hX1
 have HB1:Hid (Below w.heap.size w w1):=hb1
 have HL:Hid (Edges w.heap.size w (.slice p l.length c) l):=hl
 have hlx:=hX1.lt
 have x1:=hX1.cell (j:=1) rfl
 clear hX1 hb1 hl
 go_enter Tryz.func32,Tryz.ntmps32
 go_wp2_with (at_make;refine wpList_make_full _ rfl _ _ 27 rfl w1.heap.size 3 i0 (.int .i64 0) 1 Tryz.underlying27 hi hz0 hz1 .i64 .i64 _ _ l.length rfl rfl rfl rfl (by rw [hz2];omega) (by unfold maxLen;omega) YA ?_;intro w3 hown hgrow;have hb3:Below w1.heap.size w1 w3:=YD.grown hgrow YA (fun k e=>by cases e);have hrow:=Blk.made hown;rw [QaD,← Qj9] at hrow;have HR3:Hid (Blk 3 w3 w1.heap.size ((iotaI l.length 0).map (Value.int .i64))):=hrow;have HX3:Hid (Blk 24 w3 w.heap.size [.int .i64 n,.slice p l.length c]):=HX1.out.go hb3;have HB3:Hid (Below w.heap.size w w3):=HB1.out.trans (hb3.mono HB1.out.size);clear hown hgrow hrow hb3 x1)
 clear hw1 HX1 HB1 hi hz0 hz1 hz2
 obtain⟨g,hg⟩:∃ g,w1.heap.size=g:=⟨_,rfl⟩
 rw [hg] at HR3 hlx ⊢
 clear hg
 go_loopw [11] (fun i wr=>∃ j:Nat,j≤l.length∧i = .int .i64 (j:Int)∧Hid (Blk 3 wr g ((iotaI l.length j).map (Value.int .i64)))∧Hid (Blk 24 wr w.heap.size [.int .i64 n,.slice p l.length c])∧Hid (Below w.heap.size w wr)) (fun i _=>l.length-(intOf i).toNat)
 case atStart=>exact⟨0,YN,rfl,HR3,HX3,HB3⟩
 case round=>
  clear HR3 HX3 HB3
  obtain⟨j,hj,rfl,HR,HX,HB⟩:=hrel
  by_cases hlt:j<l.length
  ·have hjl:(j:Int)<(l.length:Int):=by omega
   have t0:wr.cell? ⟨g,j,none⟩=some (.int .i64 ((iotaI l.length j)[j]'(by rw [Qa8];exact hlt))):=HR.out.cell (by rw [YH,YB (by rw [Qa8];exact hlt)];rfl)
   have tf:=HR.out.frozen j
   have HR2:Hid (Blk 3 (wr.setCell ⟨g,j,none⟩ (.int .i64 (j:Int))) g ((iotaI l.length (j+1)).map (Value.int .i64))):=by
    have h1:=HR.out.set j (.int .i64 (j:Int))
    rw [← List.map_set,Qmk] at h1
    exact h1
   have HX2:Hid _:=HX.out.other (p:=⟨g,j,none⟩) (by show w.heap.size≠g;omega) (.int .i64 (j:Int))
   have HB2:Hid _:=HB.out.setCell (p:=⟨g,j,none⟩) (by show w.heap.size≤g;omega) (.int .i64 (j:Int))
   have HLT:Hid (j<l.length):=hlt
   generalize (iotaI l.length j)[j]'(by rw [Qa8];exact hlt)=tv at t0
   clear hlt HR HX HB
   go_wp2
   exact⟨⟨j+1,HLT.out,by go_num,HR2,HX2,HB2⟩,by have:=HLT.out;simp [intOf];omega⟩
  ·obtain rfl:j=l.length:=by omega
   have x0:=HX.out.cell (j:=0) rfl
   have x1:=HX.out.cell (j:=1) rfl
   have hIn:Ints wr.heap.size wr (.slice (some ⟨g,0,none⟩) l.length l.length) (iotaI l.length l.length):=by
    have h:=HR.out
    exact .inr ⟨g,0,l.length,by rw [Qa8],h.lt,by rw [Qa8];exact YA,fun q y hy=>by rw [Nat.zero_add];exact h.cell (by rw [YH,hy];rfl)⟩
   have hod:=Qpg n l (iotaI l.length l.length) (by rw [Qa8];omega) (.slice p l.length c) (.slice (some ⟨g,0,none⟩) l.length l.length) wr (HL.out.go HB.out) hIn
   clear hIn HR HX
   go_wp2_with fail
   refine hod.mono ?_
   rintro e w5 ⟨rv,rfl,hr5,hb5⟩
   clear hod
   have HR5:Hid _:=hr5
   clear hr5
   go_wp2
   go_ret
   exact⟨rv,rfl,HR5.out,HB.out.trans (hb5.mono HB.out.size)⟩
theorem QkJ (x:Int)(I:List Int)(hI:I.Pairwise (· < ·))(hIl:I.length≤4194304)(iv:Value)(bx:Nat)(W:World)(hbx:W.cell? ⟨bx,0,none⟩=some iv)(hv:Ints W.heap.size W iv I):
  Calls Tryz.prog 33 #[.int .i64 x,.pointer (some ⟨bx,0,none⟩)] W fun e w'=>∃ b,e = .returned (.bool b)∧Below W.heap.size W w':=by
 have hmix:=mixed
 have hle:(I.take I.length).Pairwise (·≤·):=by rw [List.take_length];exact hI.imp fun h=>Int.le_of_lt h
 rcases hv with ⟨⟨p,c,rfl⟩,rfl⟩ | ⟨b,off,c,rfl,hb,hc,hcc⟩
 ·have hbs:=Tryz.slices_BinarySearch_int_empty p c x W
  go_enter Tryz.func33,Tryz.ntmps33
  go_wp2_with fail
  refine hbs.mono ?_
  rintro e w2 ⟨rfl,rfl⟩
  clear hbs
  go_wp2
  go_ret
  exact⟨_,rfl,YD⟩
 ·have hbs:=Tryz.slices_BinarySearch_int b off I.length c I x W YA (by omega) (fun j hj=>by
   have:=hcc j I[j] (YB hj)
   rw [this]
   congr 2
   simp [YC,YB hj]) hle
  go_enter Tryz.func33,Tryz.ntmps33
  go_wp2_with fail
  refine hbs.mono ?_
  rintro e w2 ⟨rfl,q,rfl⟩
  clear hbs
  go_wp2
  go_ret
  exact⟨_,rfl,Qab YD q⟩
theorem QnU (a:Lay)(hL:LayOK a)(lv ov:Value)(s:WS)(init:List Stp)(top:Stp)(pb cap v u:Nat)(pl:Int)(hp:s.path=init++[top])(hv:top.v=(v:Int))(hvN:v<a.N)(huN:u<a.N)(hD:s.depth.length=a.N)(hRt:s.root.length=a.N)(hF:s.from_.length=a.N)(hP:s.path.length≤1073741824)(h1:s.depth.getD u 0<0)(h2:0≤s.depth.getD v 0)(h3:s.depth.getD v 0≤1073741824)(w:World)(h:WB a lv (.slice (some ⟨pb,0,none⟩) s.path.length cap) ov s w)(hA:QaE (.slice (some ⟨pb,0,none⟩) s.path.length cap) ov):
  Calls Tryz.prog 118 #[.pointer (some ⟨a.wb,0,none⟩),.pointer (some ⟨pb,init.length*5,none⟩),.agg #[.int .i64 (u:Int),.int .i64 pl]] w fun e w'=>e = .returned (.tuple #[])∧∃ pv',WB a lv pv' ov (lookW s init top ((u:Int),pl)) w'∧QaE pv' ov∧Wk a w w':=by
 have hmix:=mixed
 have hb1:Below w.heap.size w (w.alloc (.cells #[.int .i64 (u:Int),.int .i64 pl] 142)):=YD.alloc YA _
 have hX:Blk 142 (w.alloc (.cells #[.int .i64 (u:Int),.int .i64 pl] 142)) w.heap.size [.int .i64 (u:Int),.int .i64 pl]:=heap_alloc_new w _
 have h':=h.go hb1
 have b3:=h'.blk.cell (j:=3) rfl
 obtain⟨p0,-,-,-,-⟩:=h'.top hp
 rw [hv] at p0
 have x0:=hX.cell (j:=0) rfl
 have hvN':(v:Int)<(a.N:Int):=by omega
 have huN':(u:Int)<(a.N:Int):=by omega
 have hne:v≠u:=fun e=>by subst e;omega
 have t0:(w.alloc (.cells #[.int .i64 (u:Int),.int .i64 pl] 142)).cell? ⟨a.db,v,none⟩=some (.int .i64 (s.depth.getD v 0)):=h'.dep.cell (by rw [YH,YB (by omega)];simp [show v<s.depth.length by omega])
 have t1:(w.alloc (.cells #[.int .i64 (u:Int),.int .i64 pl] 142)).cell? ⟨a.db,u,none⟩=some (.int .i64 (s.depth.getD u 0)):=h'.dep.cell (by rw [YH,YB (by omega)];simp [show u<s.depth.length by omega])
 have HL:Hid (lookW s init top ((u:Int),pl)={ s with root:=s.root.set u (s.root.getD v 0),from_:=s.from_.set u (v:Int),depth:=s.depth.set u (s.depth.getD v 0+1),path:=init++[top]++[⟨(u:Int),pl,0,s.depth.getD v 0,s.opn.length⟩] }):=by
  unfold Hid lookW at_
  simp only [YM,hv]
  rw [if_pos h1]
 generalize hdu:s.depth.getD u 0=du at *
 generalize hdv:s.depth.getD v 0=dv at *
 generalize hrv:s.root.getD v 0=rv at *
 go_enter Tryz.func118,Tryz.ntmps118
 go_wp2
 go_quiet (fail)
 have hbq:Below (w.alloc (.cells #[.int .i64 (u:Int),.int .i64 pl] 142)).heap.size (w.alloc (.cells #[.int .i64 (u:Int),.int .i64 pl] 142)) ((w.alloc (.cells #[.int .i64 (u:Int),.int .i64 pl] 142)).drewN nq):=Qab YD nq
 have hW:=h'.go hbq
 have hX5:=hX.go hbq
 have hsw:w.heap.size<((w.alloc (.cells #[.int .i64 (u:Int),.int .i64 pl] 142)).drewN nq).heap.size:=hX5.lt
 have hpb:=h.way.lt pb rfl
 have hWk:Wk a w ((w.alloc (.cells #[.int .i64 (u:Int),.int .i64 pl] 142)).drewN nq):=Wk.of_below (n:=w.heap.size) (hb1.trans (hbq.mono (by simp))) (by omega)
 generalize (w.alloc (.cells #[.int .i64 (u:Int),.int .i64 pl] 142)).drewN nq=w5 at hW hX5 hWk hsw ⊢
 clear b3 p0 x0 t0 t1 hb1 hbq h' hX
 have c1:=hW.blk.cell (j:=1) rfl
 have c2:=hW.blk.cell (j:=2) rfl
 have c3:=hW.blk.cell (j:=3) rfl
 have x0:=hX5.cell (j:=0) rfl
 obtain⟨p0,-,-,-,-⟩:=hW.top hp
 rw [hv] at p0
 have r0:w5.cell? ⟨a.rb,v,none⟩=some (.int .i64 rv):=hW.root.cell (by rw [YH,YB (by omega)];simp [← hrv,show v<s.root.length by omega])
 obtain⟨y1,k1⟩:∃ z,w5.cell? ⟨a.rb,u,none⟩=some z:=⟨_,hW.root.cell (by rw [YH,YB (by omega)];rfl)⟩
 obtain⟨y2,k2⟩:∃ z,w5.cell? ⟨a.fb,u,none⟩=some z:=⟨_,hW.frm.cell (by rw [YH,YB (by omega)];rfl)⟩
 obtain⟨y3,k3⟩:∃ z,w5.cell? ⟨a.db,u,none⟩=some z:=⟨_,hW.dep.cell (by rw [YH,YB (by omega)];rfl)⟩
 have f1:=hW.root.frozen u
 have f2:=hW.frm.frozen u
 have f3:=hW.dep.frozen u
 have n1:=hL.wr
 have n2:=hL.wf
 have n3:=hL.wd
 have n4:=hL.rf
 have n5:=hL.rd
 have n6:=hL.fd
 have n7:pb≠a.rb:=by have:=hL.r0;omega
 have n8:pb≠a.fb:=by have:=hL.f0;omega
 have n9:pb≠a.db:=by have:=hL.d0;omega
 have m1:w.heap.size≠a.rb:=by have:=hL.r0;omega
 have m2:w.heap.size≠a.fb:=by have:=hL.f0;omega
 have m3:w.heap.size≠a.db:=by have:=hL.d0;omega
 have hT:=((hW.setRoot hL u rv).setFrom hL u (v:Int)).setDepth hL u (dv+1)
 have hXT:=((hX5.other (p:=⟨a.rb,u,none⟩) m1 (.int .i64 rv)).other (p:=⟨a.fb,u,none⟩) m2 (.int .i64 (v:Int))).other (p:=⟨a.db,u,none⟩) m3 (.int .i64 (dv+1))
 have hWkT:=((hWk.set (p:=⟨a.rb,u,none⟩) (.inl (.inr (.inl rfl))) (.int .i64 rv)).set (p:=⟨a.fb,u,none⟩) (.inl (.inr (.inr (.inl rfl)))) (.int .i64 (v:Int))).set (p:=⟨a.db,u,none⟩) (.inl (.inr (.inr (.inr (.inl rfl))))) (.int .i64 (dv+1))
 have HT:Hid _:=hT
 have HXT:Hid _:=hXT
 have HWk:Hid _:=hWkT
 have HN:Hid (w.heap.size<w5.heap.size):=hsw
 have Hpb:Hid _:=hpb
 have Hp:Hid _:=hp
 have Hlen:Hid (s.path.length=init.length+1):=by unfold Hid;rw [hp];simp
 clear hT hXT hWkT hWk hX5 hW h hsw hpb hp hdu hdv hrv hD hRt hF hv
 have hwr:IntKind.i64.wrap (dv+1)=dv+1:=QaM _ (by omega) (by omega)
 go_wp2
 generalize w.heap.size=xb at *
 generalize init.length*5=off at *
 refine wp_region_held_drew (S:=(fun w':World=>w'.cell? ⟨a.wb,1,none⟩=some (.slice (some ⟨a.rb,0,none⟩) a.N a.N)∧w'.cell? ⟨a.wb,2,none⟩=some (.slice (some ⟨a.fb,0,none⟩) a.N a.N)∧w'.cell? ⟨a.wb,3,none⟩=some (.slice (some ⟨a.db,0,none⟩) a.N a.N)∧w'.cell? ⟨xb,0,none⟩=some (.int .i64 (u:Int))∧w'.cell? ⟨pb,off,none⟩=some (.int .i64 (v:Int))∧w'.cell? ⟨a.rb,v,none⟩=some (.int .i64 rv))) (by kernel_rfl) ?_ (fun hHeld=>?_)
 ·(try dsimp only);go_keep
 refine tH 0 ?_
 try simp only [z4]
 refine tH 1 ?_
 refine tH 2 ?_
 refine tH 3 ?_
 refine tH 4 ?_
 refine tH 5 ?_
 refine tH 6 ?_
 refine tH 7 ?_
 refine tH 8 ?_
 refine tH 9 ?_
 refine tH 10 ?_
 refine tH 11 ?_
 refine tH 12 ?_
 refine tH 13 ?_
 refine tH 14 ?_
 refine tH 15 ?_
 refine tH 16 ?_
 refine tH 17 ?_
 refine tH 18 ?_
 refine tH 19 ?_
 refine tH 20 ?_
 refine tH 21 ?_
 refine tH 22 ?_
 refine tH 23 ?_
 refine tH 24 ?_
 refine tH 25 ?_
 refine tH 26 ?_
 refine tH 27 ?_
 refine tH 28 ?_
 refine tH 29 ?_
 refine tH 30 ?_
 refine tH 31 ?_
 refine tH 32 ?_
 refine tH 33 ?_
 refine wpAnyH_ready (rs:=[34]) (by kernel_rfl) (by simp) ?_
 refine AllReadyH.cons rfl (fun K hK=>?_) AllReadyH.nil
 go_simp
 refine hK.out _ _ ?_ (fun hHeld=>?_)
 ·(try dsimp only);first | (go_keep;done) | ((repeat' apply And.intro) <;> go_simp)
 clear hK K
 try simp only [Act.put,z4,z5,z6]
 refine wpAnyH_ready (rs:=[35]) (by kernel_rfl) (by simp) ?_
 refine AllReadyH.cons rfl (fun K hK=>?_) AllReadyH.nil
 go_simp
 refine hK.out _ _ ?_ (fun hHeld=>?_)
 ·(try dsimp only);first | (go_keep;done) | ((repeat' apply And.intro) <;> go_simp)
 clear hK K
 try simp only [Act.put,z4,z5,z6]
 refine wpAnyH_ready (rs:=[36]) (by kernel_rfl) (by simp) ?_
 refine AllReadyH.cons rfl (fun K hK=>?_) AllReadyH.nil
 go_simp
 refine hK.out _ _ ?_ (fun hHeld=>?_)
 ·(try dsimp only);first | (go_keep;done) | ((repeat' apply And.intro) <;> go_simp)
 clear hK K
 try simp only [Act.put,z4,z5,z6]
 refine wpAnyH_ready (rs:=[37]) (by kernel_rfl) (by simp) ?_
 refine AllReadyH.cons rfl (fun K hK=>?_) AllReadyH.nil
 go_simp
 refine hK.out _ _ ?_ (fun hHeld=>?_)
 ·(try dsimp only);first | (go_keep;done) | ((repeat' apply And.intro) <;> go_simp)
 clear hK K
 try simp only [Act.put,z4,z5,z6]
 refine wpAnyH_ready (rs:=[38]) (by kernel_rfl) (by simp) ?_
 refine AllReadyH.cons rfl (fun K hK=>?_) AllReadyH.nil
 go_simp
 refine hK.out _ _ ?_ (fun hHeld=>?_)
 ·(try dsimp only);first | (go_keep;done) | ((repeat' apply And.intro) <;> go_simp)
 clear hK K
 try simp only [Act.put,z4,z5,z6]
 refine wpAnyH_ready (rs:=[39]) (by kernel_rfl) (by simp) ?_
 refine AllReadyH.cons rfl (fun K hK=>?_) AllReadyH.nil
 go_simp
 refine hK.out _ _ ?_ (fun hHeld=>?_)
 ·(try dsimp only);first | (go_keep;done) | ((repeat' apply And.intro) <;> go_simp)
 clear hK K
 try simp only [Act.put,z4,z5,z6]
 refine wpAnyH_done (by kernel_rfl) ?_ _
 have hW6:=HT.out.go (B:=(((w5.setCell ⟨a.rb,u,none⟩ (.int .i64 rv)).setCell ⟨a.fb,u,none⟩ (.int .i64 (v:Int))).setCell ⟨a.db,u,none⟩ (.int .i64 (dv+1))).drew) (Qab YD 1)
 have hX6:Blk 142 (((w5.setCell ⟨a.rb,u,none⟩ (.int .i64 rv)).setCell ⟨a.fb,u,none⟩ (.int .i64 (v:Int))).setCell ⟨a.db,u,none⟩ (.int .i64 (dv+1))).drew xb [.int .i64 (u:Int),.int .i64 pl]:=HXT.out
 have hk6:Wk a w (((w5.setCell ⟨a.rb,u,none⟩ (.int .i64 rv)).setCell ⟨a.fb,u,none⟩ (.int .i64 (v:Int))).setCell ⟨a.db,u,none⟩ (.int .i64 (dv+1))).drew:=⟨HWk.out.os,HWk.out.tape,HWk.out.output,HWk.out.size,HWk.out.block⟩
 have hs6:xb<(((w5.setCell ⟨a.rb,u,none⟩ (.int .i64 rv)).setCell ⟨a.fb,u,none⟩ (.int .i64 (v:Int))).setCell ⟨a.db,u,none⟩ (.int .i64 (dv+1))).drew.heap.size:=hX6.lt
 generalize (((w5.setCell ⟨a.rb,u,none⟩ (.int .i64 rv)).setCell ⟨a.fb,u,none⟩ (.int .i64 (v:Int))).setCell ⟨a.db,u,none⟩ (.int .i64 (dv+1))).drew=w6 at hW6 hX6 hk6 hs6 ⊢
 clear HT HXT HWk hHeld c1 c2 c3 x0 p0 r0 k1 k2 k3 f1 f2 f3 n1 n2 n3 n4 n5 n6 n7 n8 n9 m1 m2 m3 HN
 have hxne:xb≠a.wb:=by have:=Hpb.out;have:=hL.w0;omega
 have b5:=hW6.blk.cell (j:=5) rfl
 have b6:=hW6.blk.cell (j:=6) rfl
 have x0:=hX6.cell (j:=0) rfl
 have x1:=hX6.cell (j:=1) rfl
 obtain⟨po,co,rfl⟩:=Qag hW6.opn
 obtain⟨i0,hi,hz0,hz1,hz2⟩:=info_parts QoJ
 have hnw:=news_step' w6.drew (.int .i64 (u:Int)) (.int .i64 pl) (.int .i64 0) (.int .i64 dv) (.int .i64 (s.opn.length:Int)) rfl rfl rfl rfl rfl
 have hb7:Below w6.heap.size w6 (w6.drew.alloc (.cells #[.int .i64 (u:Int),.int .i64 pl,.int .i64 0,.int .i64 dv,.int .i64 (s.opn.length:Int)] 144)):=(Qab YD 1).alloc YA _
 have hW7:=hW6.go hb7
 have hown:=hW7.way
 have hs7:a.h0≤(w6.drew.alloc (.cells #[.int .i64 (u:Int),.int .i64 pl,.int .i64 0,.int .i64 dv,.int .i64 (s.opn.length:Int)] 144)).heap.size:=by
  have:=hb7.size;have:=Hpb.out;omega
 have fin:∀ (v8:Value) (w8:World),w8.ownsRow a.h0 144 5 v8 (s.path.length+1) (flatP s.path++[.int .i64 (u:Int),.int .i64 pl,.int .i64 0,.int .i64 dv,.int .i64 (s.opn.length:Int)])→(w6.drew.alloc (.cells #[.int .i64 (u:Int),.int .i64 pl,.int .i64 0,.int .i64 dv,.int .i64 (s.opn.length:Int)] 144)).grownBy w8 (Value.slice (some ⟨pb,0,none⟩) s.path.length cap).ownBlock→(v8.ownBlock=(Value.slice (some ⟨pb,0,none⟩) s.path.length cap).ownBlock∨v8.ownBlock=some (w6.drew.alloc (.cells #[.int .i64 (u:Int),.int .i64 pl,.int .i64 0,.int .i64 dv,.int .i64 (s.opn.length:Int)] 144)).heap.size)→(∃ pv',WB a lv pv' (.slice po s.opn.length co) (lookW s init top ((u:Int),pl)) (w8.setCell ⟨a.wb,5,none⟩ v8)∧QaE pv' (.slice po s.opn.length co)∧Wk a w (w8.setCell ⟨a.wb,5,none⟩ v8))∧(w8.cell? ⟨a.wb,5,none⟩=some (.slice (some ⟨pb,0,none⟩) s.path.length cap)∧w8.cell? ⟨a.wb,6,none⟩=some (.slice po s.opn.length co)∧w8.cell? ⟨xb,0,none⟩=some (.int .i64 (u:Int))∧w8.cell? ⟨xb,1,none⟩=some (.int .i64 pl))∧w8.frozen? ⟨a.wb,5,none⟩=false:=fun v8 w8 ho hg hat=>by
  have hlow:∀ k,(Value.slice (some ⟨pb,0,none⟩) s.path.length cap).ownBlock=some k→a.h0≤k:=fun k e=>(hW7.way.lt k e).1
  have hS:=hW7.setPth (P:=s.path++[⟨(u:Int),pl,0,dv,s.opn.length⟩]) hL hA hg hlow (by rw [YI,Qa9];exact ho)
  have hb8:Blk 97 w8 a.wb (Qjq a lv (.slice (some ⟨pb,0,none⟩) s.path.length cap) (.slice po s.opn.length co)):=(hg.block a.wb hW7.blk.lt (fun e=>by have:=hlow a.wb e.symm;have:=hL.w0;omega)).trans hW7.blk
  have hX7:=hX6.go hb7
  have hX8:Blk 142 w8 xb [.int .i64 (u:Int),.int .i64 pl]:=(hg.block xb hX7.lt (fun e=>by have h1:some xb=some pb:=e;have:=Hpb.out;simp at h1;omega)).trans hX7
  refine⟨⟨v8,?_,QcB hA hat (fun k e=>(hW7.opn.lt k e).2),((hk6.trans (Wk.of_below hb7 (by have:=Hpb.out;omega))).trans (Wk.grown hg hs7 hlow)).set (p:=⟨a.wb,5,none⟩) (.inl (.inl rfl)) _⟩,⟨hb8.cell (j:=5) rfl,hb8.cell (j:=6) rfl,hX8.cell (j:=0) rfl,hX8.cell (j:=1) rfl⟩,hb8.frozen 5⟩
  rw [HL.out,← Hp.out]
  exact hS
 have Hfin:Hid _:=fin
 have Hown:Hid _:=hown
 have Hnw:Hid _:=hnw
 have Hs7:Hid _:=hs7
 clear fin hW6 hW7 hb7 hX6 hk6 hown hnw hs7
 go_wp2
 refine Qah (S:=(fun w':World=>w'.cell? ⟨a.wb,5,none⟩=some (.slice (some ⟨pb,0,none⟩) s.path.length cap)∧w'.cell? ⟨a.wb,6,none⟩=some (.slice po s.opn.length co)∧w'.cell? ⟨xb,0,none⟩=some (.int .i64 (u:Int))∧w'.cell? ⟨xb,1,none⟩=some (.int .i64 pl))) (by kernel_rfl) ?_ (fun hHeld=>?_)
 ·(try dsimp only);go_keep
 refine tL 0 ?_
 try simp only [z4]
 refine tL 1 ?_
 refine tL 2 ?_
 refine tL 3 ?_
 refine tL 4 ?_
 refine tL 5 ?_
 refine tL 6 ?_
 refine tL 7 ?_
 refine tL 8 ?_
 refine tL 9 ?_
 refine tL 10 ?_
 refine tL 11 ?_
 refine tL 12 ?_
 refine tL 13 ?_
 refine tL 14 ?_
 refine tL 15 ?_
 refine Qad (rs:=[16]) (by kernel_rfl) (by simp) ?_
 refine AllReadyL.cons rfl (fun K hK=>?_) AllReadyL.nil
 go_simp
 refine hK.out _ _ ?_ (fun hHeld=>?_)
 ·(try dsimp only);first | (go_keep;done) | ((repeat' apply And.intro) <;> go_simp)
 clear hK K
 try simp only [Act.put,z4,z5,z6]
 refine Qad (rs:=[17]) (by kernel_rfl) (by simp) ?_
 refine AllReadyL.cons rfl (fun K hK=>?_) AllReadyL.nil
 refine Qap rfl _ _ 95 rfl a.h0 144 i0 (.agg #[.int .i64 0,.int .i64 0,.int .i64 0,.int .i64 0,.int .i64 0]) 5 40 Tryz.underlying95 hi hz0 hz1 hz2 rfl (by decide) (.slice (some ⟨pb,0,none⟩) s.path.length cap) s.path.length (flatP s.path) rfl Hown.out (.slice (some ⟨_,0,none⟩) 1 1) 1 [.int .i64 (u:Int),.int .i64 pl,.int .i64 0,.int .i64 dv,.int .i64 (s.opn.length:Int)] rfl Hnw.out (by unfold maxLen;omega) (by omega) Hs7.out ?_
 intro v8 w8 ho8 hg8 hat8
 obtain⟨a8,m8,k8,rfl⟩:=QaB ho8
 obtain⟨z1,z2,z3⟩:=Hfin.out _ _ ho8 hg8 hat8
 refine hK.out _ _ z2 (fun hHeld=>?_)
 clear hK K ho8 hg8 hat8
 obtain⟨z4,-,-,-⟩:=z2
 try simp only [Act.put,z4]
 refine tL 18 ?_
 refine tL 19 ?_
 refine Qad (rs:=[20]) (by kernel_rfl) (by simp) ?_
 refine AllReadyL.last rfl (by kernel_rfl) (fun K hK=>?_)
 go_simp
 refine hK.out _ _ ?_
 clear hK K
 try simp only [Act.put,z4,z5,z6]
 refine Qaj (by kernel_rfl) ?_ _
 go_wp2
 refine bodyPost_end (results_none rfl _ _ _) rfl ?_
 exact⟨rfl,z1⟩
theorem Qi5 (W:World)(y:Int):Src (W.alloc (.cells #[.int .i64 y] 3)).drew (.slice (some ⟨W.heap.size,0,none⟩) 1 1) 1 1 [.int .i64 y]:=
 .inr ⟨⟨W.heap.size,0,none⟩,1,rfl,rfl,fun j u hu=>Qci W (.int .i64 y) 3 j u hu,fun u hu=>by rw [YF hu];rfl⟩
theorem Ql2 (a:Lay)(hL:LayOK a)(lv ov:Value)(s:WS)(init:List Stp)(top:Stp)(pb cap v u:Nat)(pl:Int)(hp:s.path=init++[top])(hv:top.v=(v:Int))(hvN:v<a.N)(huN:u<a.N)(hD:s.depth.length=a.N)(hO:s.opn.length≤1073741824)(h1:0≤s.depth.getD u 0)(h2:s.depth.getD u 0<s.depth.getD v 0)(w:World)(h:WB a lv (.slice (some ⟨pb,0,none⟩) s.path.length cap) ov s w)(hA:QaE (.slice (some ⟨pb,0,none⟩) s.path.length cap) ov):
  Calls Tryz.prog 118 #[.pointer (some ⟨a.wb,0,none⟩),.pointer (some ⟨pb,init.length*5,none⟩),.agg #[.int .i64 (u:Int),.int .i64 pl]] w fun e w'=>e = .returned (.tuple #[])∧∃ ov',WB a lv (.slice (some ⟨pb,0,none⟩) s.path.length cap) ov' (lookW s init top ((u:Int),pl)) w'∧QaE (.slice (some ⟨pb,0,none⟩) s.path.length cap) ov'∧Wk a w w':=by
 have hmix:=mixed
 have HL:Hid (lookW s init top ((u:Int),pl)={ s with path:=init++[{ top with low:=min top.low (s.depth.getD u 0) }],opn:=s.opn++[pl] }):=by
  unfold Hid lookW at_
  simp only [YM,hv]
  rw [if_neg (by omega),if_pos h2]
 have hb1:Below w.heap.size w (w.alloc (.cells #[.int .i64 (u:Int),.int .i64 pl] 142)):=YD.alloc YA _
 have hX:Blk 142 (w.alloc (.cells #[.int .i64 (u:Int),.int .i64 pl] 142)) w.heap.size [.int .i64 (u:Int),.int .i64 pl]:=heap_alloc_new w _
 have h':=h.go hb1
 have b3:=h'.blk.cell (j:=3) rfl
 obtain⟨p0,-,-,p3,-⟩:=h'.top hp
 rw [hv] at p0
 have x0:=hX.cell (j:=0) rfl
 have hvN':(v:Int)<(a.N:Int):=by omega
 have huN':(u:Int)<(a.N:Int):=by omega
 have t0:(w.alloc (.cells #[.int .i64 (u:Int),.int .i64 pl] 142)).cell? ⟨a.db,v,none⟩=some (.int .i64 (s.depth.getD v 0)):=h'.dep.cell (by rw [YH,YB (by omega)];simp [show v<s.depth.length by omega])
 have t1:(w.alloc (.cells #[.int .i64 (u:Int),.int .i64 pl] 142)).cell? ⟨a.db,u,none⟩=some (.int .i64 (s.depth.getD u 0)):=h'.dep.cell (by rw [YH,YB (by omega)];simp [show u<s.depth.length by omega])
 generalize s.depth.getD u 0=du at *
 generalize s.depth.getD v 0=dv at *
 have h1':¬ du<0:=by omega
 go_enter Tryz.func118,Tryz.ntmps118
 go_wp2
 go_quiet (fail)
 have hbq:Below (w.alloc (.cells #[.int .i64 (u:Int),.int .i64 pl] 142)).heap.size (w.alloc (.cells #[.int .i64 (u:Int),.int .i64 pl] 142)) ((w.alloc (.cells #[.int .i64 (u:Int),.int .i64 pl] 142)).drewN nq):=Qab YD nq
 have hW:=h'.go hbq
 have hX5:=hX.go hbq
 have hpb0:=h.way.lt pb rfl
 have hWk:Wk a w ((w.alloc (.cells #[.int .i64 (u:Int),.int .i64 pl] 142)).drewN nq):=Wk.of_below (n:=w.heap.size) (hb1.trans (hbq.mono (by simp))) (by omega)
 generalize (w.alloc (.cells #[.int .i64 (u:Int),.int .i64 pl] 142)).drewN nq=w5 at hW hX5 hWk ⊢
 obtain⟨-,-,-,y3,-⟩:=hW.top hp
 have fr:=hW.way.frozenAt (init.length*5+3)
 obtain⟨po,co,rfl⟩:=Qag hW.opn
 obtain⟨i0,hi,hz0,hz1,hz2⟩:=info_parts infoI
 have hpb:=hW.way.lt pb rfl
 have hne:w.heap.size≠pb:=by have:=(h.way.lt pb rfl).2;omega
 have tail:∀ m:Int,m=min top.low du→WB a lv (.slice (some ⟨pb,0,none⟩) s.path.length cap) (.slice po s.opn.length co) { s with path:=init++[{ top with low:=m }] } (w5.setCell ⟨pb,init.length*5+3,none⟩ (.int .i64 m)):=fun m _=>by
  have h1:=hW.setWay hL hA (j:=init.length*5+3) (u:=.int .i64 m) (P:=init++[{ top with low:=m }]) (by rw [hp];exact Qhe init top m) (by rw [hp];simp)
  have el:(init++[{ top with low:=m }]:List Stp).length=s.path.length:=by rw [hp];simp
  rw [el] at h1
  exact h1
 have fin:∀ (m:Int) (v8:Value) (w8:World),m=min top.low du→w8.ownsRow a.h0 3 1 v8 (s.opn.length+1) (s.opn.map (Value.int .i64)++[.int .i64 pl])→((w5.setCell ⟨pb,init.length*5+3,none⟩ (.int .i64 m)).alloc (.cells #[.int .i64 pl] 3)).drew.grownBy w8 (Value.slice po s.opn.length co).ownBlock→(v8.ownBlock=(Value.slice po s.opn.length co).ownBlock∨v8.ownBlock=some ((w5.setCell ⟨pb,init.length*5+3,none⟩ (.int .i64 m)).alloc (.cells #[.int .i64 pl] 3)).drew.heap.size)→(∃ ov',WB a lv (.slice (some ⟨pb,0,none⟩) s.path.length cap) ov' (lookW s init top ((u:Int),pl)) (w8.setCell ⟨a.wb,6,none⟩ v8)∧QaE (.slice (some ⟨pb,0,none⟩) s.path.length cap) ov'∧Wk a w (w8.setCell ⟨a.wb,6,none⟩ v8))∧w8.cell? ⟨a.wb,6,none⟩=some (.slice po s.opn.length co)∧w8.frozen? ⟨a.wb,6,none⟩=false:=fun m v8 w8 hm ho hg hat=>by
  have hT:=(tail m hm).go (B:=((w5.setCell ⟨pb,init.length*5+3,none⟩ (.int .i64 m)).alloc (.cells #[.int .i64 pl] 3)).drew) (Qab (YD.alloc YA _) 1)
  have hlow:∀ k,(Value.slice po s.opn.length co).ownBlock=some k→a.h0≤k:=fun k e=>(hW.opn.lt k e).1
  have hS:=hT.setOpn (P:=s.opn++[pl]) hL hA hg hlow (by rw [YI,List.map_append];exact ho)
  have hb8:Blk 97 w8 a.wb (Qjq a lv (.slice (some ⟨pb,0,none⟩) s.path.length cap) (.slice po s.opn.length co)):=(hg.block a.wb hT.blk.lt (fun e=>by have:=hlow a.wb e.symm;have:=hL.w0;omega)).trans hT.blk
  have hk8:=(((hWk.set (p:=⟨pb,init.length*5+3,none⟩) (.inr (by have:=hpb0;simp only;omega)) (.int .i64 m)).trans (Wk.of_below (n:=w5.heap.size) (Qab ((Below.refl (w5.setCell ⟨pb,init.length*5+3,none⟩ (.int .i64 m)).heap.size _).alloc YA (.cells #[.int .i64 pl] 3)) 1 |>.mono (by simp)) (by omega))).trans (Wk.grown hg (by show a.h0≤(World.alloc _ _).heap.size;simp;omega) hlow)).set (p:=⟨a.wb,6,none⟩) (.inl (.inl rfl)) v8
  refine⟨⟨v8,?_,QfE (QcB (QfE hA) hat (fun k e=>(hT.way.lt k e).2)),hk8⟩,hb8.cell (j:=6) rfl,hb8.frozen 6⟩
  rw [HL.out,← hm]
  exact hS
 have b6:∀ m:Int,(w5.setCell ⟨pb,init.length*5+3,none⟩ (.int .i64 m)).cell? ⟨a.wb,6,none⟩=some (.slice po s.opn.length co):=fun m=>(hW.blk.other (p:=⟨pb,init.length*5+3,none⟩) (by have:=hL.w0;simp only;omega) (.int .i64 m)).cell (j:=6) rfl
 have b7:∀ m:Int,((w5.setCell ⟨pb,init.length*5+3,none⟩ (.int .i64 m)).alloc (.cells #[.int .i64 pl] 3)).cell? ⟨a.wb,6,none⟩=some (.slice po s.opn.length co):=fun m=>((hW.blk.other (p:=⟨pb,init.length*5+3,none⟩) (by have:=hL.w0;simp only;omega) (.int .i64 m)).go (YD.alloc YA _)).cell (j:=6) rfl
 have hs5:∀ m:Int,(w5.setCell ⟨pb,init.length*5+3,none⟩ (.int .i64 m)).heap.size=w5.heap.size:=fun m=>by simp
 have x1:∀ m:Int,(w5.setCell ⟨pb,init.length*5+3,none⟩ (.int .i64 m)).cell? ⟨w.heap.size,1,none⟩=some (.int .i64 pl):=fun m=>(hX5.other (p:=⟨pb,init.length*5+3,none⟩) hne (.int .i64 m)).cell (j:=1) rfl
 have hownA:∀ m:Int,m=min top.low du→((w5.setCell ⟨pb,init.length*5+3,none⟩ (.int .i64 m)).alloc (.cells #[.int .i64 pl] 3)).drew.ownsRow a.h0 3 1 (.slice po s.opn.length co) s.opn.length (s.opn.map (Value.int .i64)):=fun m hm=>((tail m hm).go (B:=((w5.setCell ⟨pb,init.length*5+3,none⟩ (.int .i64 m)).alloc (.cells #[.int .i64 pl] 3)).drew) (Qab (YD.alloc YA _) 1)).opn
 have hsz:∀ m:Int,a.h0≤((w5.setCell ⟨pb,init.length*5+3,none⟩ (.int .i64 m)).alloc (.cells #[.int .i64 pl] 3)).drew.heap.size:=fun m=>by
  show a.h0≤((w5.setCell ⟨pb,init.length*5+3,none⟩ (.int .i64 m)).alloc (.cells #[.int .i64 pl] 3)).heap.size
  simp
  omega
 have Hfin:Hid _:=fin
 have HownA:Hid _:=hownA
 clear b3 p0 p3 x0 t0 t1 h' hX hb1 hbq tail fin hownA
 by_cases hm:du<top.low
 ·have b6':=b6 du
  have x1':=x1 du
  have hO1:=HownA.out du (by omega)
  have hs1:=Qi5 (w5.setCell ⟨pb,init.length*5+3,none⟩ (.int .i64 du)) pl
  rw [hs5] at hs1
  have b7':=b7 du
  have hsz1:=hsz du
  clear b6 x1 hsz b7 hs5
  go_wp2
  go_region_law (refine Qap rfl _ _ 27 rfl a.h0 3 i0 (.int .i64 0) 1 8 Tryz.underlying27 hi hz0 hz1 hz2 rfl (by decide) (.slice po s.opn.length co) s.opn.length (s.opn.map (Value.int .i64)) rfl hO1 (.slice (some ⟨_,0,none⟩) 1 1) 1 [.int .i64 pl] rfl hs1 (by unfold maxLen;omega) (by omega) hsz1 ?_;intro v8 w8 ho8 hg8 hat8;obtain⟨a8,m8,k8,rfl⟩:=QaB ho8;obtain⟨z1,z2,z3⟩:=Hfin.out du _ _ (by omega) ho8 hg8 hat8)
  all_goals go_wp2
  all_goals refine bodyPost_end (results_none rfl _ _ _) rfl ?_
  all_goals exact⟨rfl,z1⟩
 ·have b6':=b6 top.low
  have x1':=x1 top.low
  have hO1:=HownA.out top.low (by omega)
  have hs1:=Qi5 (w5.setCell ⟨pb,init.length*5+3,none⟩ (.int .i64 top.low)) pl
  rw [hs5] at hs1
  have b7':=b7 top.low
  have hsz1:=hsz top.low
  clear b6 x1 hsz b7 hs5
  go_wp2
  go_region_law (refine Qap rfl _ _ 27 rfl a.h0 3 i0 (.int .i64 0) 1 8 Tryz.underlying27 hi hz0 hz1 hz2 rfl (by decide) (.slice po s.opn.length co) s.opn.length (s.opn.map (Value.int .i64)) rfl hO1 (.slice (some ⟨_,0,none⟩) 1 1) 1 [.int .i64 pl] rfl hs1 (by unfold maxLen;omega) (by omega) hsz1 ?_;intro v8 w8 ho8 hg8 hat8;obtain⟨a8,m8,k8,rfl⟩:=QaB ho8;obtain⟨z1,z2,z3⟩:=Hfin.out top.low _ _ (by omega) ho8 hg8 hat8)
  all_goals go_wp2
  all_goals refine bodyPost_end (results_none rfl _ _ _) rfl ?_
  all_goals exact⟨rfl,z1⟩
theorem QnW (a:Lay)(hL:LayOK a)(lv ov:Value)(s:WS)(init:List Stp)(top:Stp)(pb cap v u:Nat)(pl:Int)(hp:s.path=init++[top])(hv:top.v=(v:Int))(hvN:v<a.N)(huN:u<a.N)(hN:a.N≤1048576)(hD:s.depth.length=a.N)(hRt:s.root.length=a.N)(hF:s.from_.length=a.N)(hP:s.path.length≤1073741824)(hO:s.opn.length≤1073741824)(h2:0≤s.depth.getD v 0)(h3:s.depth.getD v 0≤1073741824)(w:World)(h:WB a lv (.slice (some ⟨pb,0,none⟩) s.path.length cap) ov s w)(hA:QaE (.slice (some ⟨pb,0,none⟩) s.path.length cap) ov):
  Calls Tryz.prog 118 #[.pointer (some ⟨a.wb,0,none⟩),.pointer (some ⟨pb,init.length*5,none⟩),.agg #[.int .i64 (u:Int),.int .i64 pl]] w fun e w'=>e = .returned (.tuple #[])∧∃ pv' ov',WB a lv pv' ov' (lookW s init top ((u:Int),pl)) w'∧QaE pv' ov'∧Wk a w w':=by
 by_cases h1:s.depth.getD u 0<0
 ·refine (QnU a hL lv ov s init top pb cap v u pl hp hv hvN huN hD hRt hF hP h1 h2 h3 w h hA).mono ?_
  rintro e w' ⟨rfl,pv',g1,g2,g3⟩
  exact⟨rfl,pv',ov,g1,g2,g3⟩
 ·by_cases h4:s.depth.getD u 0<s.depth.getD v 0
  ·refine (Ql2 a hL lv ov s init top pb cap v u pl hp hv hvN huN hD hO (by omega) h4 w h hA).mono ?_
   rintro e w' ⟨rfl,ov',g1,g2,g3⟩
   exact⟨rfl,_,ov',g1,g2,g3⟩
  ·refine (Ql1 a lv ov s init top pb cap v u pl hp hv hvN huN hN hD (by omega) (by omega) w h).mono ?_
   rintro e w' ⟨rfl,hb⟩
   have hpb:=h.way.lt pb rfl
   have HE:lookW s init top ((u:Int),pl)=s:=by
    unfold lookW at_
    simp only [YM,hv]
    rw [if_neg h1,if_neg h4,← hp]
   refine⟨rfl,_,_,?_,hA,Wk.of_below hb (by omega)⟩
   rw [HE]
   exact h.go hb
end Go.Proofs.YtalflecmadacaaaGreat
