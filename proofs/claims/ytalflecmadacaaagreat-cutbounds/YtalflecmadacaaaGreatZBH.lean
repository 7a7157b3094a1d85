import Derived.OwnWalk
import Derived.Test.YtalflecmadacaaaGreatShelfS
import Derived.Test.YtalflecmadacaaaGreatZAN
import Derived.Test.YtalflecmadacaaaGreatZAA
import Derived.Test.YtalflecmadacaaaGreatZAH
import Derived.Test.YtalflecmadacaaaGreatZAQ
import Derived.Test.YtalflecmadacaaaGreatZAP
import Derived.Deep.QuietTactic
import Derived.BigQuiet
import Derived.Test.YtalflecmadacaaaGreatZAJ
import Derived.Test.YtalflecmadacaaaGreatZAR
set_option maxRecDepth 100000
set_option maxHeartbeats 8000000
namespace Go.Proofs.YtalflecmadacaaaGreat
open Go Go.Proofs Go.RowKit
def fitC (n:Int)(l:List Ed):Int:=if rightK n l=0 then if l.any negB=true then 10 else 0 else 1
theorem QmG (e:Ed)(w:World):Calls Tryz.prog 56 #[edV e] w fun r w'=>r = .returned (.bool (negB e))∧Grew w w':=by
 obtain⟨a,b,c⟩:=e
 unfold edV negB
 by_cases h:c<0
 all_goals
  go_enter Tryz.func56,Tryz.ntmps56
  go_wp2
  go_ret
  exact⟨by simp [h],(Grew.refl w).alloc _⟩
theorem QeR (n:Int)(l:List Ed)(hm:l.length≤8388608)(sv:Value)(w:World)(hl:Edges w.heap.size w sv l):
  Calls Tryz.prog 29 #[.agg #[.int .i64 n,sv]] w fun r w'=>r = .returned (.int .i64 (fitC n l))∧Grew w w':=by
 have hg1:Grew w (w.alloc (.cells #[.int .i64 n,sv] 24)):=(Grew.refl w).alloc _
 have hl1:=hl.go hg1.below
 obtain⟨p,c,rfl⟩:=hl.len
 have hrc:=Qbz n l (.slice p l.length c) _ hl1
 go_enter Tryz.func29,Tryz.ntmps29
 go_wp2_with fail
 refine hrc.mono ?_
 rintro e w2 ⟨rfl,hg2⟩
 have hg:=hg1.trans hg2
 have q1:w2.cell? ⟨w.heap.size,1,none⟩=some (.slice p l.length c):=(hg2.below.cell (p:=⟨w.heap.size,1,none⟩) (by simp)).trans (by simp)
 have hce:=Qga 56 #[] negB (fun _ _=>by kernel_rfl) l hm (.slice p l.length c) w2 (hl1.go hg2.below) (fun e _ W _=>by
  have h:=QmG e W
  exact h)
 clear hrc hl1
 by_cases hk:rightK n l=0
 ·have HE:∀ b,l.any negB=b→Hid (fitC n l=if b=true then 10 else 0):=fun b h=>by show _=_;unfold fitC;rw [if_pos hk,h]
  rw [hk]
  go_wp2_with fail
  refine hce.mono ?_
  rintro e w3 ⟨rfl,hg3⟩
  cases hb:l.any negB with
  | true=>
   have H:=HE true hb
   clear HE
   go_wp2
   go_ret
   exact⟨by rw [H.out];rfl,hg.trans hg3⟩
  | false=>
   have H:=HE false hb
   clear HE
   go_wp2
   go_ret
   exact⟨by rw [H.out];rfl,hg.trans hg3⟩
 ·have hk2:(rightK n l==0)=false:=by simpa using hk
  have H:Hid (fitC n l=1):=if_neg hk
  generalize rightK n l=k at *
  clear hce q1
  go_wp2
  go_ret
  exact⟨by rw [H.out];rfl,hg⟩
theorem Qgv (n:Int)(l:List Ed)(hm:l.length≤4194304)(hw:∀ e∈l,-2147483648≤e.2.2∧e.2.2≤2147483648)(sv:Value)(w:World)(hl:Edges w.heap.size w sv l):
  Calls Tryz.prog 36 #[.agg #[.int .i64 n,sv]] w fun r w'=>r = .returned (.int .i64 (sumC l l.length))∧Below w.heap.size w w':=by
 have hmix:=mixed
 obtain⟨p,c,rfl⟩:=hl.len
 have hg1:Grew w (w.alloc (.cells #[.int .i64 n,.slice p l.length c] 24)):=(Grew.refl w).alloc _
 have HL:Hid (Edges w.heap.size w (.slice p l.length c) l):=hl
 have HW:Hid _:=hw
 clear hl hw
 go_enter Tryz.func36,Tryz.ntmps36
 go_wp2
 go_loopw [3,9] (fun cv i wr=>∃ k:Nat,k≤l.length∧cv = .int .i64 (sumC l k)∧i = .int .i64 (k:Int)∧Hid (Below w.heap.size w wr)) (fun _ i _=>l.length-(intOf i).toNat)
 case atStart=>exact⟨0,YN,rfl,rfl,hg1.below⟩
 case round=>
  clear hg1
  obtain⟨k,hk,rfl,rfl,HB⟩:=hrel
  by_cases hlt:k<l.length
  ·have hkl:(k:Int)<(l.length:Int):=by omega
   obtain⟨b,off,rfl,hbb,hcap,hc,-⟩:=HL.out.open hlt
   obtain⟨e0,e1,e2⟩:=hc _ HB.out k hlt
   have HST:Hid (sumC l (k+1)=sumC l k+l[k].2.2):=QgC hlt
   have hf:=QfI HW.out k hk
   have hwe:=HW.out l[k] (YG hlt)
   have s2:(k:Int)≤4194304:=by omega
   have hwr:IntKind.i64.wrap (sumC l k+l[k].2.2)=sumC l k+l[k].2.2:=QaM _ (by omega) (by omega)
   have HLT:Hid (k<l.length):=hlt
   generalize sumC l k=S at *
   generalize l[k].2.2=wt at *
   generalize l[k].1=u at *
   generalize l[k].2.1=v at *
   have HB6:Hid (Below wr.heap.size wr (wr.alloc (.cells #[.int .i64 u,.int .i64 v,.int .i64 wt] 50))):=YD.alloc YA _
   clear hc hlt hf hwe s2
   go_wp2
   refine⟨⟨k+1,HLT.out,?_,by go_num,HB.out.trans (HB6.out.mono HB.out.size)⟩,by have:=HLT.out;simp [intOf];omega⟩
   rw [HST.out]
  ·obtain rfl:k=l.length:=by omega
   go_wp2
   go_ret
   exact⟨rfl,HB.out⟩
def iotaI (m j:Nat):List Int:=(List.range m).map fun i=>if i<j then (i:Int) else 0
theorem Qa8 (m j:Nat):(iotaI m j).length=m:=by simp [iotaI]
theorem Qj9 (m:Nat):iotaI m 0=List.replicate m 0:=by
 apply List.ext_getElem <;> simp [iotaI]
theorem Qmk {m j:Nat}:(iotaI m j).set j (j:Int)=iotaI m (j+1):=by
 apply List.ext_getElem?
 intro i
 rw [List.getElem?_set,Qa8]
 by_cases h:i<m
 ·have a:∀ q,(iotaI m q)[i]? = some (if i<q then (i:Int) else 0):=fun q=>by simp [iotaI,h]
  rw [a,a]
  by_cases e:j=i
  ·subst e;rw [if_pos rfl,if_pos h,if_pos (by omega)]
  ·rw [if_neg e]
   congr 1
   by_cases hi:i<j
   ·rw [if_pos hi,if_pos (by omega)]
   ·rw [if_neg hi,if_neg (by omega)]
 ·have a:∀ q,(iotaI m q)[i]? = none:=fun q=>YL (by rw [Qa8];omega)
  rw [a,a]
  by_cases e:j=i
  ·subst e;rw [if_pos rfl,if_neg h]
  ·rw [if_neg e]
theorem Qex (n:Int)(l:List Ed)(hm:l.length≤4194304)(sv:Value)(w:World)(hl:Edges w.heap.size w sv l):
  Calls Tryz.prog 32 #[.agg #[.int .i64 n,sv]] w fun r w'=>∃ rv,r = .returned rv∧Ints w'.heap.size w' rv (oddK n l (iotaI l.length l.length))∧Below w.heap.size w w':=by
 have hmix:=mixed
 obtain⟨p,c,rfl⟩:=hl.len
 obtain⟨i0,hi,hz0,hz1,hz2⟩:=info_parts infoI
 obtain⟨w1,hw1⟩:∃ W,(w.alloc (.cells #[.int .i64 n,.slice p l.length c] 24))=W:=⟨_,rfl⟩
 have hb1:Below w.heap.size w w1:=by rw [← hw1];exact YD.alloc YA _
 have hX1:Blk 24 w1 w.heap.size [.int .i64 n,.slice p l.length c]:=by rw [← hw1];exact heap_alloc_new w _
 have HX1:Hid (Blk 24 w1 w.heap.size [.int .i64 n,.slice p l.length c]):=hX1
 have HB1:Hid (Below w.heap.size w w1):=hb1
 have HL:Hid (Edges w.heap.size w (.slice p l.length c) l):=hl
 have hlx:=hX1.lt
 have x1:=hX1.cell (j:=1) rfl
 clear hX1 hb1 hl
 go_enter Tryz.func32,Tryz.ntmps32
 go_wp2_with (at_make;refine wpList_make_full _ rfl _ _ 27 rfl w1.heap.size 3 i0 (.int .i64 0) 1 Tryz.underlying27 hi hz0 hz1 .i64 .i64 _ _ l.length rfl rfl rfl rfl (by rw [hz2];omega) (by unfold maxLen;omega) YA ?_;intro w3 hown hgrow;have hb3:Below w1.heap.size w1 w3:=YD.grown hgrow YA (fun k e=>by cases e);have hrow:=Blk.made hown;rw [QaD,← Qj9] at hrow;have HR3:Hid (Blk 3 w3 w1.heap.size ((iotaI l.length 0).map (Value.int .i64))):=hrow;have HX3:Hid (Blk 24 w3 w.heap.size [.int .i64 n,.slice p l.length c]):=HX1.out.go hb3;have HB3:Hid (Below w.heap.size w w3):=HB1.out.trans (hb3.mono HB1.out.size);clear hown hgrow hrow hb3 x1)
 clear hw1 HX1 HB1 hi hz0 hz1 hz2
 obtain⟨g,hg⟩:∃ g,w1.heap.size=g:=⟨_,rfl⟩
 rw [hg] at HR3 hlx ⊢
 clear hg
 go_loopw [11] (fun i wr=>∃ j:Nat,j≤l.length∧i = .int .i64 (j:Int)∧Hid (Blk 3 wr g ((iotaI l.length j).map (Value.int .i64)))∧Hid (Blk 24 wr w.heap.size [.int .i64 n,.slice p l.length c])∧Hid (Below w.heap.size w wr)) (fun i _=>l.length-(intOf i).toNat)
 case atStart=>exact⟨0,YN,rfl,HR3,HX3,HB3⟩
 case round=>
  clear HR3 HX3 HB3
  obtain⟨j,hj,rfl,HR,HX,HB⟩:=hrel
  by_cases hlt:j<l.length
  ·have hjl:(j:Int)<(l.length:Int):=by omega
   have t0:wr.cell? ⟨g,j,none⟩=some (.int .i64 ((iotaI l.length j)[j]'(by rw [Qa8];exact hlt))):=HR.out.cell (by rw [YH,YB (by rw [Qa8];exact hlt)];rfl)
   have tf:=HR.out.frozen j
   have HR2:Hid (Blk 3 (wr.setCell ⟨g,j,none⟩ (.int .i64 (j:Int))) g ((iotaI l.length (j+1)).map (Value.int .i64))):=by
    have h1:=HR.out.set j (.int .i64 (j:Int))
    rw [← List.map_set,Qmk] at h1
    exact h1
   have HX2:Hid _:=HX.out.other (p:=⟨g,j,none⟩) (by show w.heap.size≠g;omega) (.int .i64 (j:Int))
   have HB2:Hid _:=HB.out.setCell (p:=⟨g,j,none⟩) (by show w.heap.size≤g;omega) (.int .i64 (j:Int))
   have HLT:Hid (j<l.length):=hlt
   generalize (iotaI l.length j)[j]'(by rw [Qa8];exact hlt)=tv at t0
   clear hlt HR HX HB
   go_wp2
   exact⟨⟨j+1,HLT.out,by go_num,HR2,HX2,HB2⟩,by have:=HLT.out;simp [intOf];omega⟩
  ·obtain rfl:j=l.length:=by omega
   have x0:=HX.out.cell (j:=0) rfl
   have x1:=HX.out.cell (j:=1) rfl
   have hIn:Ints wr.heap.size wr (.slice (some ⟨g,0,none⟩) l.length l.length) (iotaI l.length l.length):=by
    have h:=HR.out
    exact .inr ⟨g,0,l.length,by rw [Qa8],h.lt,by rw [Qa8];exact YA,fun q y hy=>by rw [Nat.zero_add];exact h.cell (by rw [YH,hy];rfl)⟩
   have hod:=Qpg n l (iotaI l.length l.length) (by rw [Qa8];omega) (.slice p l.length c) (.slice (some ⟨g,0,none⟩) l.length l.length) wr (HL.out.go HB.out) hIn
   clear hIn HR HX
   go_wp2_with fail
   refine hod.mono ?_
   rintro e w5 ⟨rv,rfl,hr5,hb5⟩
   clear hod
   have HR5:Hid _:=hr5
   clear hr5
   go_wp2
   go_ret
   exact⟨rv,rfl,HR5.out,HB.out.trans (hb5.mono HB.out.size)⟩
theorem QkJ (x:Int)(I:List Int)(hI:I.Pairwise (· < ·))(hIl:I.length≤4194304)(iv:Value)(bx:Nat)(W:World)(hbx:W.cell? ⟨bx,0,none⟩=some iv)(hv:Ints W.heap.size W iv I):
  Calls Tryz.prog 33 #[.int .i64 x,.pointer (some ⟨bx,0,none⟩)] W fun e w'=>∃ b,e = .returned (.bool b)∧Below W.heap.size W w':=by
 have hmix:=mixed
 have hle:(I.take I.length).Pairwise (·≤·):=by rw [List.take_length];exact hI.imp fun h=>Int.le_of_lt h
 rcases hv with ⟨⟨p,c,rfl⟩,rfl⟩ | ⟨b,off,c,rfl,hb,hc,hcc⟩
 ·have hbs:=Tryz.slices_BinarySearch_int_empty p c x W
  go_enter Tryz.func33,Tryz.ntmps33
  go_wp2_with fail
  refine hbs.mono ?_
  rintro e w2 ⟨rfl,rfl⟩
  clear hbs
  go_wp2
  go_ret
  exact⟨_,rfl,YD⟩
 ·have hbs:=Tryz.slices_BinarySearch_int b off I.length c I x W YA (by omega) (fun j hj=>by
   have:=hcc j I[j] (YB hj)
   rw [this]
   congr 2
   simp [YB hj]) hle
  go_enter Tryz.func33,Tryz.ntmps33
  go_wp2_with fail
  refine hbs.mono ?_
  rintro e w2 ⟨rfl,q,rfl⟩
  clear hbs
  go_wp2
  go_ret
  exact⟨_,rfl,Qab YD q⟩
theorem QfU (L:List Int):∀ i,∀ u∈(gath L i).1,∃ p:Nat,p<i∧L.getD p 0=u
 | 0,u,h=>by simp [gath] at h
 | i+1,u,h=>by
  by_cases e:L.getD i 0∈(gath L i).1
  ·rw [Qa5 e] at h
   obtain⟨p,h1,h2⟩:=QfU L i u h
   exact⟨p,by omega,h2⟩
  ·rw [Qa6 e] at h
   rcases YJ h with h | h
   ·obtain⟨p,h1,h2⟩:=QfU L i u h
    exact⟨p,by omega,h2⟩
   ·exact⟨i,by omega,(YF h).symm⟩
theorem QbT {L:List Int}{m:Nat}(hL:L.length=m):∀ b∈gOf L,b≠[]∧(∀ x∈b,∃ k:Nat,x=(k:Int)∧k<m)∧∃ u,b=memb L u m:=by
 intro b hb
 obtain⟨i,hi,rfl⟩:=List.getElem_of_mem hb
 obtain⟨u,h1,h2⟩:=QoN (YB hi)
 rw [h2,hL]
 refine⟨fun e=>?_,fun x hx=>?_,u,rfl⟩
 ·obtain⟨p,h3,h4⟩:=QfU L L.length u (YK h1)
  have h5:(p:Int)∈memb L u m:=memb_mem.2 ⟨p,rfl,by omega,h4⟩
  rw [e] at h5
  simp at h5
 ·obtain⟨p,h3,h4,_⟩:=memb_mem.1 hx
  exact⟨p,h3,h4⟩
theorem Qfk {l:List Ed}{n:Int}(hR:RightG n l)(hn:l.any negB=false){b:List Int}(h0:b≠[])(hb:∀ x∈b,∃ k:Nat,x=(k:Int)∧k<l.length):0≤lowW l b∧lowW l b≤2147483648:=by
 have hw:∀ x∈b,0≤wtI l x∧wtI l x≤2147483648:=fun x hx=>by
  obtain⟨k,rfl,hk⟩:=hb x hx
  obtain⟨⟨_,_,_,_,_,h5,h6⟩,_⟩:=hR.each l[k] (YG hk)
  have h7:=List.any_eq_false.1 hn l[k] (YG hk)
  have h8:¬ l[k].2.2<0:=fun h=>h7 (by simp [negB,h])
  have h9:wtI l (k:Int)=l[k].2.2:=by simp [wtI,hk]
  rw [h9]
  omega
 unfold lowW
 cases b with
 | nil=>exact absurd rfl h0
 | cons y b=>
  have h1:=hw y (List.mem_cons_self ..)
  exact Qi6 l h1.1 h1.2 fun x hx=>(hw x hx).1
theorem Qm4 (n:Int)(l:List Ed)(hm:l.length≤8388608)(hk:fitC n l≠0)(sv:Value)(w:World)(hl:Edges w.heap.size w sv l):
  Calls Tryz.prog 23 #[.agg #[.int .i64 n,sv]] w fun e w'=>e = .returned (.tuple #[.int .i64 0,.int .i64 (fitC n l)])∧Below w.heap.size w w':=by
 obtain⟨p,c,rfl⟩:=hl.len
 have hg1:Grew w (w.alloc (.cells #[.int .i64 n,.slice p l.length c] 24)):=(Grew.refl w).alloc _
 have hft:=QeR n l hm (.slice p l.length c) _ (hl.go hg1.below)
 generalize fitC n l=k at *
 have hk2:(k==0)=false:=by simpa using hk
 have HG1:Hid (Grew w (w.alloc (.cells #[.int .i64 n,.slice p l.length c] 24))):=hg1
 clear hg1 hl
 go_enter Tryz.func23,Tryz.ntmps23
 go_wp2_with fail
 refine hft.mono ?_
 rintro e w2 ⟨rfl,hg2⟩
 have HB:Hid (Below w.heap.size w w2):=(HG1.out.trans hg2).below
 clear hft hg2 HG1
 go_wp2
 refine bodyPost_ret (v:=.tuple #[.int .i64 0,.int .i64 k]) (by simp [results,Tryz.results23,go_sem]) rfl ?_
 exact⟨rfl,HB.out⟩
theorem Qm5 (N:Nat)(l:List Ed)(hR:RightG (N:Int) l)(hn:l.any negB=false)(sv:Value)(w:World)(hl:Edges w.heap.size w sv l):
  Calls Tryz.prog 23 #[.agg #[.int .i64 (N:Int),sv]] w fun e w'=>∃ SD:List Bool,(∀ u v,Adj l u v→Conn (esS l SD) u v)∧e = .returned (.tuple #[.int .i64 (sumC l l.length-offB l (fun b=>b.any (keptE l SD)) (gOf (walkW N l).block) (gOf (walkW N l).block).length),.int .i64 0])∧Below w.heap.size w w':=by
 have hmix:=mixed
 obtain⟨p,c,rfl⟩:=hl.len
 have hm1:=hR.m1
 obtain⟨w1,hw1⟩:∃ W,(w.alloc (.cells #[.int .i64 (N:Int),.slice p l.length c] 24))=W:=⟨_,rfl⟩
 have hb1:Below w.heap.size w w1:=by rw [← hw1];exact YD.alloc YA _
 have hX1:Blk 24 w1 w.heap.size [.int .i64 (N:Int),.slice p l.length c]:=by rw [← hw1];exact heap_alloc_new w _
 have hft:=QeR (N:Int) l (by omega) (.slice p l.length c) w1 (hl.go hb1)
 have hfc:fitC (N:Int) l=0:=by unfold fitC;rw [if_pos (right_iff.2 hR),hn];rfl
 rw [hfc] at hft
 have hlab:=Qho hR
 have hlen:(walkW N l).block.length=l.length:=(Qcd hR).lenK
 have HX1:Hid (Blk 24 w1 w.heap.size [.int .i64 (N:Int),.slice p l.length c]):=hX1
 have HB1:Hid (Below w.heap.size w w1):=hb1
 have HL:Hid (Edges w.heap.size w (.slice p l.length c) l):=hl
 have HBL:Hid (∀ W,Edges W.heap.size W (.slice p l.length c) l→_):=fun W h=>QkE N l hR hlab hlen (.slice p l.length c) W h
 have HEA:Hid _:=QbT hlen
 have HLB:Hid (∀ b∈gOf (walkW N l).block,0≤lowW l b∧lowW l b≤2147483648):=fun b hb=>Qfk hR hn (QbT hlen b hb).1 (QbT hlen b hb).2.1
 have HGL:Hid ((gOf (walkW N l).block).length≤l.length):=by
  show _≤_
  have h1:=Qc8 (walkW N l).block (walkW N l).block.length
  have h2:=Qd5 (walkW N l).block (walkW N l).block.length
  show (gath (walkW N l).block (walkW N l).block.length).2.length≤l.length
  omega
 have HGS:Hid (∀ b∈gOf (walkW N l).block,b.length≤l.length):=fun b hb=>by
  have:=Qcm (walkW N l).block (walkW N l).block.length b hb
  omega
 have HWt:Hid (∀ e∈l,-2147483648≤e.2.2∧e.2.2≤2147483648):=fun e he=>by
  obtain⟨⟨_,_,_,_,_,h5,h6⟩,_⟩:=hR.each e he
  omega
 have HR:Hid (RightG (N:Int) l):=hR
 have x0:=hX1.cell (j:=0) rfl
 have x1:=hX1.cell (j:=1) rfl
 change Hid (∀ W,Edges W.heap.size W (.slice p l.length c) l→Calls Tryz.prog 45 #[.agg #[.int .i64 (N:Int),.slice p l.length c]] W fun r w'=>∃ lv svs h0,r = .returned lv∧Grp h0 lv svs (gOf (walkW N l).block) w'∧Below W.heap.size W w') at HBL
 clear hX1 hb1 hl hfc hlab hlen hR hn
 generalize gOf (walkW N l).block=G at *
 go_enter Tryz.func23,Tryz.ntmps23
 go_wp2_with fail
 refine hft.mono ?_
 rintro e w2 ⟨rfl,hg2⟩
 clear hft hw1 x0 x1
 have hX2:=HX1.out.go hg2.below
 have HX2:Hid (Blk 24 w2 w.heap.size [.int .i64 (N:Int),.slice p l.length c]):=hX2
 have HB2:Hid (Below w.heap.size w w2):=HB1.out.trans (hg2.below.mono HB1.out.size)
 have x0:=hX2.cell (j:=0) rfl
 have x1:=hX2.cell (j:=1) rfl
 have hsp:=QhL N l HR.out 43 #[] (fun _ _=>by kernel_rfl) (.slice p l.length c) w2 (HL.out.go HB2.out) (fun i _ W _=>QlS (i:Int) W)
 clear hX2 hg2 HX1 HB1
 go_wp2_with fail
 refine hsp.mono ?_
 rintro e w3 ⟨g,SD,rfl,hgz,hSD,hSl,hcon,hb3⟩
 clear hsp x0 x1
 have HB3:Hid (Below w.heap.size w w3):=HB2.out.trans (hb3.mono HB2.out.size)
 have hX3:=HX2.out.go hb3
 have hbA:Below w3.heap.size w3 (w3.alloc (.cells #[.slice (some ⟨g,0,none⟩) N N] 25)):=YD.alloc YA _
 have hBx:Blk 25 (w3.alloc (.cells #[.slice (some ⟨g,0,none⟩) N N] 25)) w3.heap.size [.slice (some ⟨g,0,none⟩) N N]:=heap_alloc_new w3 _
 have HBx:Hid (Blk 25 (w3.alloc (.cells #[.slice (some ⟨g,0,none⟩) N N] 25)) w3.heap.size [.slice (some ⟨g,0,none⟩) N N]):=hBx
 have HX4:Hid (Blk 24 (w3.alloc (.cells #[.slice (some ⟨g,0,none⟩) N N] 25)) w.heap.size [.int .i64 (N:Int),.slice p l.length c]):=hX3.go hbA
 have HSD4:Hid (Blk 4 (w3.alloc (.cells #[.slice (some ⟨g,0,none⟩) N N] 25)) g (SD.map Value.bool)):=hSD.go hbA
 have HB4:Hid (Below w.heap.size w (w3.alloc (.cells #[.slice (some ⟨g,0,none⟩) N N] 25))):=HB3.out.trans (hbA.mono HB3.out.size)
 have HSl:Hid (SD.length=N):=hSl
 have HCN:Hid (∀ u v,Adj l u v→Conn (esS l SD) u v):=hcon
 have x0:=HX4.out.cell (j:=0) rfl
 have x1:=HX4.out.cell (j:=1) rfl
 clear hb3 hX3 hbA hBx hSD hSl hcon HB2 HX2 HB3
 go_wp2_with fail
 obtain⟨w4,hw4⟩:∃ W,w3.alloc (.cells #[.slice (some ⟨g,0,none⟩) N N] 25)=W:=⟨_,rfl⟩
 rw [hw4] at HBx HX4 HSD4 HB4 ⊢
 clear hw4 x0 x1
 obtain⟨bs,hbs⟩:∃ n,w3.heap.size=n:=⟨_,rfl⟩
 rw [hbs] at HBx ⊢
 clear hbs
 refine (Qgv (N:Int) l hm1 HWt.out (.slice p l.length c) w4 (HL.out.go HB4.out)).mono ?_
 rintro e w5 ⟨rfl,hb5⟩
 have HX5:Hid (Blk 24 w5 w.heap.size [.int .i64 (N:Int),.slice p l.length c]):=HX4.out.go hb5
 have HB5:Hid (Below w.heap.size w w5):=HB4.out.trans (hb5.mono HB4.out.size)
 have HBx5:Hid (Blk 25 w5 bs [.slice (some ⟨g,0,none⟩) N N]):=HBx.out.go hb5
 have HSD5:Hid (Blk 4 w5 g (SD.map Value.bool)):=HSD4.out.go hb5
 have x0:=HX5.out.cell (j:=0) rfl
 have x1:=HX5.out.cell (j:=1) rfl
 have hbl:=HBL.out w5 (HL.out.go HB5.out)
 clear hb5 HX4 HB4 HBx HSD4 HBL
 go_wp2_with fail
 refine hbl.mono ?_
 rintro e w6 ⟨lv,svs,h0,rfl,hG,hb6⟩
 clear hbl x0 x1
 have hLs:=hG.lsts
 obtain⟨pl,cl,rfl⟩:=hLs.len
 have HX6:Hid (Blk 24 w6 w.heap.size [.int .i64 (N:Int),.slice p l.length c]):=HX5.out.go hb6
 have HB6:Hid (Below w.heap.size w w6):=HB5.out.trans (hb6.mono HB5.out.size)
 have HBx6:Hid (Blk 25 w6 bs [.slice (some ⟨g,0,none⟩) N N]):=HBx5.out.go hb6
 have HSD6:Hid (Blk 4 w6 g (SD.map Value.bool)):=HSD5.out.go hb6
 have HLs:Hid (Lsts w6.heap.size w6 (.slice pl G.length cl) G):=hLs
 clear hb6 hG hLs HX5 HB5 HBx5 HSD5
 have hoff0:=Qev l (fun b=>b.any (keptE l SD)) G
 obtain⟨tot,htot⟩:∃ t,sumC l l.length=t:=⟨_,rfl⟩
 have hfew:=QfI HWt.out l.length YA
 have HTE:Hid (sumC l l.length=tot):=htot
 rw [htot] at hfew ⊢
 clear htot
 have HTOT:Hid (-9007199254740992≤tot∧tot≤9007199254740992):=by constructor <;> omega
 clear hfew
 go_wp2
 go_loopw [7,23] (fun bv iv wr=>∃ j:Nat,j≤G.length∧bv = .int .i64 (tot-offB l (fun b=>b.any (keptE l SD)) G j)∧iv = .int .i64 (j:Int)∧Hid (Below w6.heap.size w6 wr)) (fun _ i _=>G.length-(intOf i).toNat)
 case atStart=>exact⟨0,YN,by rw [hoff0,Int.sub_zero],rfl,YD⟩
 case round=>
  clear hoff0
  obtain⟨j,hj,rfl,rfl,HBr⟩:=hrel
  by_cases hlt:j<G.length
  ·have hjl:(j:Int)<(G.length:Int):=by omega
   have hXr:=HX6.out.go HBr.out
   have x0:=hXr.cell (j:=0) rfl
   have x1:=hXr.cell (j:=1) rfl
   have hbw:=HB6.out.trans (HBr.out.mono HB6.out.size)
   obtain⟨b,off,rfl,hbb,hcap,px,cx,hIx,c0⟩:=(HLs.out.go HBr.out).cellAt hlt
   have hmem:=YG hlt
   obtain⟨hne,hin,_⟩:=HEA.out _ hmem
   have hbl:=HGS.out _ hmem
   have hlow:=HLB.out _ hmem
   have hofew:=Qi0 (q:=fun b=>b.any (keptE l SD)) HLB.out j hj
   have HST:Hid _:=Qew (l:=l) (q:=fun b=>b.any (keptE l SD)) hlt
   have hcf:=Qf9 44 #[.pointer (some ⟨bs,0,none⟩),.pointer (some ⟨w.heap.size,0,none⟩)] (keptE l SD) (fun _ _=>by kernel_rfl) G[j] (by omega) (.slice px G[j].length cx) wr hIx (fun x hx W hg=>by
    obtain⟨q,rfl,hq⟩:=hin x hx
    have h:=Qn6 N l HR.out SD HSl.out q hq g bs w.heap.size p c wr W hg ((HBx6.out.go HBr.out).cell (j:=0) rfl) (hXr.cell (j:=1) rfl) (HL.out.go hbw) (HSD6.out.go HBr.out)
    exact h)
   have HLE:Hid (∀ W,Edges W.heap.size W (.slice p l.length c) l→Ints W.heap.size W (.slice px G[j].length cx) G[j]→_):=fun W h h2=>Qmc (N:Int) l G[j] hne (by omega) hin (.slice p l.length c) (.slice px G[j].length cx) W h h2
   have HIx:Hid (Ints wr.heap.size wr (.slice px G[j].length cx) G[j]):=hIx
   have HXr:Hid (Blk 24 wr w.heap.size [.int .i64 (N:Int),.slice p l.length c]):=hXr
   have HBW:Hid (Below w.heap.size w wr):=hbw
   have hgl:=HGL.out
   have hto:=HTOT.out
   have hsub:IntKind.i64.wrap (tot-offB l (fun b=>b.any (keptE l SD)) G j-lowW l (G[j]'hlt))=tot-offB l (fun b=>b.any (keptE l SD)) G j-lowW l (G[j]'hlt):=QaM _ (by omega) (by omega)
   have HLT:Hid (j<G.length):=hlt
   clear hXr hbw hmem hne hin hbl hlow hofew hIx hbb hcap hto
   cases hv:(G[j]'hlt).any (keptE l SD) with
   | true=>
    rw [hv] at hcf HST
    generalize offB l (fun b=>b.any (keptE l SD)) G j=ob at *
    generalize lowW l (G[j]'hlt)=lw at *
    generalize (G[j]'hlt)=B at *
    clear hv hlt
    go_wp2_with fail
    refine hcf.mono ?_
    rintro e w7 ⟨rfl,hg7⟩
    clear hcf x0 x1 c0
    have hb7:=hg7.below
    have hX7:=HXr.out.go hb7
    have x0:=hX7.cell (j:=0) rfl
    have x1:=hX7.cell (j:=1) rfl
    have HB7:Hid (Below w.heap.size w w7):=HBW.out.trans (hb7.mono HBW.out.size)
    have HBr7:Hid (Below w6.heap.size w6 w7):=HBr.out.trans (hb7.mono HBr.out.size)
    have hle:=HLE.out w7 (HL.out.go HB7.out) (HIx.out.go hb7)
    clear hX7 hb7 hg7 HXr HLE HIx
    go_wp2_with fail
    refine hle.mono ?_
    rintro e w8 ⟨rfl,hb8⟩
    clear hle x0 x1
    have HBr8:Hid (Below w6.heap.size w6 w8):=HBr7.out.trans (hb8.mono HBr7.out.size)
    clear hb8
    go_wp2
    refine⟨⟨j+1,HLT.out,?_,by go_num,HBr8.out⟩,by have:=HLT.out;simp [intOf];omega⟩
    rw [HST.out,if_pos trivial]
    congr 1
    omega
   | false=>
    rw [hv] at hcf HST
    generalize offB l (fun b=>b.any (keptE l SD)) G j=ob at *
    generalize lowW l (G[j]'hlt)=lw at *
    generalize (G[j]'hlt)=B at *
    clear hv HLE hsub hlt
    go_wp2_with fail
    refine hcf.mono ?_
    rintro e w7 ⟨rfl,hg7⟩
    clear hcf x0 x1 c0
    have HBr7:Hid (Below w6.heap.size w6 w7):=HBr.out.trans (hg7.below.mono HBr.out.size)
    clear hg7
    go_wp2
    refine⟨⟨j+1,HLT.out,?_,by go_num,HBr7.out⟩,by have:=HLT.out;simp [intOf];omega⟩
    rw [HST.out,if_neg (by simp),Int.add_zero]
  ·obtain rfl:j=G.length:=by omega
   have HBW:Hid (Below w.heap.size w wr):=HB6.out.trans (HBr.out.mono HB6.out.size)
   clear HBr
   go_wp2
   refine bodyPost_ret (v:=.tuple #[.int .i64 (tot-offB l (fun b=>b.any (keptE l SD)) G G.length),.int .i64 0]) (by simp [results,Tryz.results23,go_sem]) rfl ?_
   exact⟨SD,HCN.out,by rw [HTE.out],HBW.out⟩
theorem Qlv {l:List Ed}{b:List Int}{k:Nat}(h:k<b.length):pick l (b.take (k+1))=pick l (b.take k)++[l.getD b[k].toNat (0,0,0)]:=by
 unfold pick
 rw [List.take_succ_eq_append_getElem h,List.map_append]
 rfl
theorem Qcg {l:List Ed}:∀ {xs:List Int},(∀ x∈xs,0≤wtI l x∧wtI l x≤2147483648)→0≤(xs.map (wtI l)).sum∧(xs.map (wtI l)).sum≤(xs.length:Int)*2147483648
 | [],_=>by simp
 | x :: xs,h=>by
  have h1:=h x (List.mem_cons_self ..)
  have h2:=Qcg (xs:=xs) fun y hy=>h y (List.mem_cons_of_mem _ hy)
  rw [List.map_cons,List.sum_cons,List.length_cons]
  generalize (xs.map (wtI l)).sum=s at *
  omega
theorem Qnn {l:List Ed}{L:List Int}(hL:L.length=l.length)(hw:∀ x∈(gOf L).flatten,0≤wtI l x∧wtI l x≤2147483648)(j:Nat):0≤sumG l (gOf L) j∧sumG l (gOf L) j≤(l.length:Int)*2147483648:=by
 have hp:(gOf L).flatten.length=l.length:=by
  have h:=(List.perm_iff_count (l₁:=(gOf L).flatten) (l₂:=(List.range l.length).map fun (k:Nat)=>(k:Int))).2 fun x=>by
   by_cases hx:∃ p:Nat,x=(p:Int)∧p<L.length
   ·obtain⟨p,rfl,hp⟩:=hx
    rw [Qfy hp]
    refine (QbS (List.Pairwise.map _ (fun a b h=>by omega) List.nodup_range) ?_).symm
    exact List.mem_map.2 ⟨p,List.mem_range.2 (by omega),rfl⟩
   ·rw [List.count_eq_zero.2 (fun h=>hx (Qds h)),List.count_eq_zero.2]
    intro h
    obtain⟨p,hp,rfl⟩:=List.mem_map.1 h
    exact hx ⟨p,rfl,by have:=List.mem_range.1 hp;omega⟩
  have:=h.length_eq
  simpa using this
 have hsub:∀ x∈((gOf L).take j).flatten,x∈(gOf L).flatten:=fun x hx=>by
  obtain⟨b,hb,h2⟩:=List.mem_flatten.1 hx
  exact List.mem_flatten.2 ⟨b,List.mem_of_mem_take hb,h2⟩
 have hlen:((gOf L).take j).flatten.length≤l.length:=by
  have e:(gOf L).flatten=((gOf L).take j).flatten++((gOf L).drop j).flatten:=by rw [← List.flatten_append,List.take_append_drop]
  rw [← hp,e,YI]
  omega
 have h:=Qcg (xs:=((gOf L).take j).flatten) fun x hx=>hw x (hsub x hx)
 unfold sumG
 generalize (((gOf L).take j).flatten.map (wtI l)).sum=s at *
 omega
theorem Qiy {l:List Ed}{q:Nat}(hq:q<l.length):wtI l (q:Int)=l[q].2.2:=by simp [wtI,hq]
theorem QgN (n:Int)(l:List Ed)(hm:l.length≤4194304)(hk:fitC n l≠0)(sv:Value)(w:World)(hl:Edges w.heap.size w sv l):
  Calls Tryz.prog 24 #[.agg #[.int .i64 n,sv]] w fun e w'=>e = .returned (.tuple #[.int .i64 0,.int .i64 (fitC n l)])∧Below w.heap.size w w':=by
 obtain⟨p,c,rfl⟩:=hl.len
 have hg1:Grew w (w.alloc (.cells #[.int .i64 n,.slice p l.length c] 24)):=(Grew.refl w).alloc _
 have hrr:=QdG n l (.slice p l.length c) _ (hl.go hg1.below)
 have HG1:Hid (Grew w (w.alloc (.cells #[.int .i64 n,.slice p l.length c] 24))):=hg1
 have HL:Hid (Edges w.heap.size w (.slice p l.length c) l):=hl
 by_cases hk0:rightK n l=0
 ·have hneg:l.any negB=true:=by
   cases e:l.any negB with
   | true=>rfl
   | false=>
    exfalso
    apply hk
    unfold fitC
    rw [if_pos hk0,e]
    rfl
  have HF:Hid (fitC n l=10):=by show _=_;unfold fitC;rw [if_pos hk0,hneg];rfl
  rw [hk0] at hrr
  clear hg1 hl hk
  go_enter Tryz.func24,Tryz.ntmps24
  go_wp2_with fail
  refine hrr.mono ?_
  rintro e w2 ⟨rfl,hg2⟩
  have q:=box2 _ hg2
  have q0:=q.1
  have q1:=q.2
  have HB2:Hid (Below w.heap.size w w2):=(HG1.out.trans hg2).below
  have hng:=Qb4 n l hm (.slice p l.length c) w2 (HL.out.go HB2.out)
  rw [hneg] at hng
  clear hrr hg2 HG1 q
  go_wp2_with fail
  refine hng.mono ?_
  rintro e w3 ⟨rfl,hb3⟩
  have HB3:Hid (Below w.heap.size w w3):=HB2.out.trans (hb3.mono HB2.out.size)
  clear hng hb3 q0 q1
  go_wp2
  refine bodyPost_ret (v:=.tuple #[.int .i64 0,.int .i64 10]) (by simp [results,Tryz.results24,go_sem]) rfl ?_
  exact⟨by rw [HF.out],HB3.out⟩
 ·have HF:Hid (fitC n l=1):=if_neg hk0
  have hk2:(rightK n l==0)=false:=by simpa using hk0
  generalize rightK n l=k at *
  clear hg1 hl hk hk0
  go_enter Tryz.func24,Tryz.ntmps24
  go_wp2_with fail
  refine hrr.mono ?_
  rintro e w2 ⟨rfl,hg2⟩
  have HB2:Hid (Below w.heap.size w w2):=(HG1.out.trans hg2).below
  clear hrr hg2 HG1
  go_wp2
  refine bodyPost_ret (v:=.tuple #[.int .i64 0,.int .i64 1]) (by simp [results,Tryz.results24,go_sem]) rfl ?_
  exact⟨by rw [HF.out],HB2.out⟩
theorem QgO (N:Nat)(l:List Ed)(hR:RightG (N:Int) l)(hn:l.any negB=false)(sv:Value)(w:World)(hl:Edges w.heap.size w sv l):
  Calls Tryz.prog 24 #[.agg #[.int .i64 (N:Int),sv]] w fun e w'=>e = .returned (.tuple #[.int .i64 (sumC l l.length-offB l (badB N l) (gOf (walkW N l).block) (gOf (walkW N l).block).length),.int .i64 0])∧Below w.heap.size w w':=by
 have hmix:=mixed
 obtain⟨p,c,rfl⟩:=hl.len
 obtain⟨i0,hi,hz0,hz1,hz2⟩:=info_parts infoE
 have hm1:=hR.m1
 have hg1:Grew w (w.alloc (.cells #[.int .i64 (N:Int),.slice p l.length c] 24)):=(Grew.refl w).alloc _
 have hrr:=QdG (N:Int) l (.slice p l.length c) _ (hl.go hg1.below)
 rw [right_iff.2 hR] at hrr
 have hlen:(walkW N l).block.length=l.length:=(Qcd hR).lenK
 have HL:Hid (Edges w.heap.size w (.slice p l.length c) l):=hl
 have HG1:Hid (Grew w (w.alloc (.cells #[.int .i64 (N:Int),.slice p l.length c] 24))):=hg1
 have HNG:Hid _:=hn
 have HBL:Hid (∀ W,Edges W.heap.size W (.slice p l.length c) l→Calls Tryz.prog 48 #[.agg #[.int .i64 (N:Int),.slice p l.length c]] W fun r w'=>∃ lv svs h0,r = .returned lv∧Grp h0 lv svs (gOf (walkW N l).block) w'∧Below W.heap.size W w'):=fun W h=>by
  have h2:=QfO N l hR (.slice p l.length c) W h
  rw [← Qhz hR] at h2
  exact h2
 have hwt:∀ x:Int,(∃ k:Nat,x=(k:Int)∧k<l.length)→0≤wtI l x∧wtI l x≤2147483648:=fun x hx=>by
  obtain⟨k,rfl,hk⟩:=hx
  obtain⟨⟨_,_,_,_,_,h5,h6⟩,_⟩:=hR.each l[k] (YG hk)
  have h7:=List.any_eq_false.1 hn l[k] (YG hk)
  have h8:¬ l[k].2.2<0:=fun h=>h7 (by simp [negB,h])
  rw [Qiy hk]
  omega
 have HWT:Hid _:=hwt
 have HEA:Hid (∀ b∈gOf (walkW N l).block,(b≠[]∧∀ x∈b,∃ k:Nat,x=(k:Int)∧k<l.length)∧b.length≤l.length∧RightG (N:Int) (pick l b)):=fun b hb=>by
  obtain⟨h1,h2,u,h3⟩:=QbT hlen b hb
  refine⟨⟨h1,h2⟩,?_,?_⟩
  ·have:=Qcm (walkW N l).block (walkW N l).block.length b hb
   omega
  ·rw [h3,Qet]
   exact Qhp hR _ u
 have HLB:Hid (∀ b∈gOf (walkW N l).block,0≤lowW l b∧lowW l b≤2147483648):=fun b hb=>Qfk hR hn (QbT hlen b hb).1 (QbT hlen b hb).2.1
 have HGL:Hid ((gOf (walkW N l).block).length≤l.length):=by
  show _≤_
  have h1:=Qc8 (walkW N l).block (walkW N l).block.length
  have h2:=Qd5 (walkW N l).block (walkW N l).block.length
  show (gath (walkW N l).block (walkW N l).block.length).2.length≤l.length
  omega
 have HSG:Hid (∀ j,0≤sumG l (gOf (walkW N l).block) j∧sumG l (gOf (walkW N l).block) j≤(l.length:Int)*2147483648):=fun j=>Qnn hlen (fun x hx=>hwt x (by
  obtain⟨k,h1,h2⟩:=Qds hx
  exact⟨k,h1,by omega⟩)) j
 have HALL:Hid (sumG l (gOf (walkW N l).block) (gOf (walkW N l).block).length=sumC l l.length):=Qno hlen
 clear hg1 hl hwt hlen hn hR
 rw [← HALL.out]
 clear HALL
 generalize gOf (walkW N l).block=G at *
 go_enter Tryz.func24,Tryz.ntmps24
 go_wp2_with fail
 refine hrr.mono ?_
 rintro e w2 ⟨rfl,hg2⟩
 have q0:=(box2 _ hg2).1
 have q1:=(box2 _ hg2).2
 have HB2:Hid (Below w.heap.size w w2):=(HG1.out.trans hg2).below
 have hng:=Qb4 (N:Int) l hm1 (.slice p l.length c) w2 (HL.out.go HB2.out)
 rw [HNG.out] at hng
 clear hrr hg2 HG1 HNG
 go_wp2_with fail
 refine hng.mono ?_
 rintro e w3 ⟨rfl,hb3⟩
 have HB3:Hid (Below w.heap.size w w3):=HB2.out.trans (hb3.mono HB2.out.size)
 replace q0:=Qaa hb3 q0
 replace q1:=Qaa hb3 q1
 have hbl:=HBL.out w3 (HL.out.go HB3.out)
 clear hng hb3 HB2 HBL
 go_wp2_with fail
 refine hbl.mono ?_
 rintro e w4 ⟨lv,svs,h0,rfl,hG,hb4⟩
 clear hbl
 have hLs:=hG.lsts
 obtain⟨pl,cl,rfl⟩:=hLs.len
 have HB4:Hid (Below w.heap.size w w4):=HB3.out.trans (hb4.mono HB3.out.size)
 replace q0:=Qaa hb4 q0
 replace q1:=Qaa hb4 q1
 have HLs:Hid (Lsts w4.heap.size w4 (.slice pl G.length cl) G):=hLs
 have HQ:Hid (w4.cell? ⟨w.heap.size,0,none⟩=some (.int .i64 (N:Int))∧w4.cell? ⟨w.heap.size,1,none⟩=some (.slice p l.length c)):=⟨q0,q1⟩
 have HX4:Hid (w.heap.size<w4.heap.size):=World.block_lt_of_cell? w4 ⟨w.heap.size,0,none⟩ q0
 clear hb4 hG hLs HB3 q0 q1
 have hoff0:=Qev l (badB N l) G
 have hsg0:sumG l G 0=0:=by simp [sumG]
 go_wp2
 go_loopw [5,6] (fun wv iv wr=>∃ j:Nat,j≤G.length∧wv = .int .i64 (sumG l G j-offB l (badB N l) G j)∧iv = .int .i64 (j:Int)∧Hid (Below w4.heap.size w4 wr)) (fun _ i _=>G.length-(intOf i).toNat)
 case atStart=>exact⟨0,YN,by rw [hoff0,hsg0];rfl,rfl,YD⟩
 case round=>
  clear hoff0 hsg0
  obtain⟨j,hj,rfl,rfl,HBr⟩:=hrel
  by_cases hlt:j<G.length
  ·have hjl:(j:Int)<(G.length:Int):=by omega
   have x0:=Qaa HBr.out HQ.out.1
   have x1:=Qaa HBr.out HQ.out.2
   have hbw:=HB4.out.trans (HBr.out.mono HB4.out.size)
   obtain⟨b,off,rfl,hbb,hcap,px,cx,hIx,c0⟩:=(HLs.out.go HBr.out).cellAt hlt
   have hmem:=YG hlt
   obtain⟨⟨hne,hin⟩,hbl,hRb⟩:=HEA.out _ hmem
   have hlow:=HLB.out _ hmem
   have hofew:=Qi0 (q:=badB N l) HLB.out j hj
   have hsfew:=HSG.out j
   have HSO:Hid _:=Qew (l:=l) (q:=badB N l) hlt
   have HSS:Hid _:=QkX (l:=l) hlt
   have HIN:Hid (∀ x∈G[j],∃ k:Nat,x=(k:Int)∧k<l.length):=hin
   have HLM:Hid (lowF l 2147483648 G[j]=lowW l G[j]):=Qpl hne fun x hx=>(HWT.out x (hin x hx)).2
   have HBL:Hid (G[j].length≤l.length):=hbl
   have HTW:Hid (∀ ev W,Edges W.heap.size W ev (pick l G[j])→_):=fun ev W h=>QjP N (pick l G[j]) hRb ev W h
   have HBB:Hid (badB N l (G[j]'hlt) = !oneB (cAt N (pick l (G[j]'hlt)) N) (pick l (G[j]'hlt))):=rfl
   have HGB:Hid (0≤sumG l G j-offB l (badB N l) G j+18014398509481984∧sumG l G j-offB l (badB N l) G j≤18014398509481984∧0≤lowW l G[j]∧lowW l G[j]≤2147483648):=by
    have:=HGL.out
    refine⟨?_,?_,hlow⟩ <;> omega
   have HIx:Hid (Ints wr.heap.size wr (.slice px G[j].length cx) G[j]):=hIx
   have HBW:Hid (Below w.heap.size w wr):=hbw
   have HLT:Hid (j<G.length):=hlt
   clear hbw hmem hne hin hbl hRb hlow hofew hsfew hIx hbb hcap
   generalize badB N l (G[j]'hlt)=bad at *
   obtain⟨sg,hsg⟩:∃ s,sumG l G j-offB l (badB N l) G j=s:=⟨_,rfl⟩
   have HSGE:Hid (sumG l G j-offB l (badB N l) G j=sg):=hsg
   rw [hsg] at HGB ⊢
   clear hsg
   obtain⟨lw,hlw⟩:∃ s,lowW l (G[j]'hlt)=s:=⟨_,rfl⟩
   rw [hlw] at HGB HLM HSO
   clear hlw
   obtain⟨B,hB⟩:∃ B,(G[j]'hlt)=B:=⟨_,rfl⟩
   rw [hB] at HSS HIN HLM HBL HTW HBB HIx c0
   clear hB hlt
   have hbA:Below wr.heap.size wr (wr.alloc (.cells #[.int .i64 (N:Int),.slice none 0 0] 24)):=YD.alloc YA _
   have hH0:Blk 24 (wr.alloc (.cells #[.int .i64 (N:Int),.slice none 0 0] 24)) wr.heap.size [.int .i64 (N:Int),.slice none 0 0]:=heap_alloc_new wr _
   have HbA:Hid (Below wr.heap.size wr (wr.alloc (.cells #[.int .i64 (N:Int),.slice none 0 0] 24))):=hbA
   have HH0:Hid (Blk 24 (wr.alloc (.cells #[.int .i64 (N:Int),.slice none 0 0] 24)) wr.heap.size [.int .i64 (N:Int),.slice none 0 0]):=hH0
   have HC0:Hid (wr.cell? ⟨b,off+j,none⟩=some (.slice px B.length cx)):=c0
   have HX1:Hid (wr.cell? ⟨w.heap.size,1,none⟩=some (.slice p l.length c)):=x1
   clear hbA hH0 c0 x1
   go_wp2
   obtain⟨w5,hw5⟩:∃ W,wr.alloc (.cells #[.int .i64 (N:Int),.slice none 0 0] 24)=W:=⟨_,rfl⟩
   rw [hw5] at HbA HH0 ⊢
   clear hw5 x0
   obtain⟨x,hx⟩:∃ n,wr.heap.size=n:=⟨_,rfl⟩
   have HXE:Hid (wr.heap.size=x):=hx
   rw [hx] at HH0 ⊢
   have HbX:Hid (Below x wr w5):=by have h:=HbA.out;rw [hx] at h;exact h
   clear hx HbA
   generalize wr=wo at *
   go_loopw [5,8,9] (fun wv lv kv wr=>∃ (k:Nat) (ev:Value),k≤B.length∧wv = .int .i64 (sg+sumB l B k)∧lv = .int .i64 (lowF l 2147483648 (B.take k))∧kv = .int .i64 (k:Int)∧Hid (Blk 24 wr x [.int .i64 (N:Int),ev])∧Hid (wr.ownsRow (x+1) 50 3 ev (pick l (B.take k)).length (flat (pick l (B.take k))))∧Hid (Below x wo wr)) (fun _ _ i _=>B.length-(intOf i).toNat)
   case atStart=>exact⟨0,.slice none 0 0,YN,by rw [show sumB l B 0=0 from by simp [sumB],Int.add_zero],rfl,rfl,HH0.out,World.ownsRow_nil _ _ _ _,HbX.out⟩
   case round=>
    clear HH0 HbX
    obtain⟨k,ev,hk,rfl,rfl,rfl,HH,HO,HBs⟩:=hrel
    have hbk:Below wo.heap.size wo wr:=by have h:=HBs.out;rw [← HXE.out] at h;exact h
    have r1:=Qaa hbk HX1.out
    have r2:=Qaa hbk HC0.out
    by_cases hlt:k<B.length
    ·have hkl:(k:Int)<(B.length:Int):=by omega
     obtain⟨rb,ro,rfl,_,_,hrc⟩:=(HIx.out.go hbk).open hlt
     have d0:=hrc wr YD k hlt
     obtain⟨q,hq,hql⟩:=HIN.out B[k] (YG hlt)
     obtain⟨be,oe,rfl,_,_,hec,-⟩:=(HL.out.go HBW.out).open hql
     obtain⟨e0,e1,e2⟩:=hec wr hbk q hql
     have hwq:=HWT.out B[k] (HIN.out B[k] (YG hlt))
     have HPS:Hid (pick l (B.take (k+1))=pick l (B.take k)++[l[q]]):=by
      show _=_
      rw [Qlv hlt,hq,YM,YC,YB hql]
      rfl
     have HSB:Hid (sumB l B (k+1)=sumB l B k+l[q].2.2):=by show _=_;rw [QkY hlt,hq,Qiy hql]
     have HLF:Hid (lowF l 2147483648 (B.take (k+1))=min (lowF l 2147483648 (B.take k)) l[q].2.2):=by
      show _=_
      rw [List.take_succ_eq_append_getElem hlt,QgX,hq,Qiy hql]
     have hsb:=Qcg (l:=l) (xs:=B.take k) fun y hy=>HWT.out y (HIN.out y (List.mem_of_mem_take hy))
     have hbl:=HBL.out
     have hgb:=HGB.out
     rw [hq,Qiy hql] at hwq
     have hadd:IntKind.i64.wrap (sg+sumB l B k+l[q].2.2)=sg+sumB l B k+l[q].2.2:=by
      refine QaM _ ?_ ?_ <;> (unfold sumB;rw [List.length_take] at hsb;omega)
     have HPL:Hid ((pick l (B.take k)).length=k):=by show _=_;unfold pick;rw [List.length_map,List.length_take];omega
     rw [hq] at d0
     have hqL:(q:Int)<(l.length:Int):=by omega
     have HLTk:Hid (k<B.length):=hlt
     have hk4:k≤4194304:=by omega
     clear hlt hrc hec hq hsb hwq hgb hbl
     obtain⟨ee,hee⟩:∃ e:Ed,l[q]=e:=⟨_,rfl⟩
     rw [hee] at e0 e1 e2 HPS HSB HLF hadd
     clear hee
     generalize sumB l B k=sb at *
     generalize lowF l 2147483648 (B.take k)=lf at *
     generalize pick l (B.take k)=PK at *
     go_wp2
     have hbd:Below wr.heap.size wr wr.drew:=Qab YD 1
     refine Qah (S:=(fun w':World=>w'.cell? ⟨w.heap.size,1,none⟩=some (.slice (some ⟨be,oe,none⟩) l.length c)∧w'.cell? ⟨b,off+j,none⟩=some (.slice (some ⟨rb,ro,none⟩) B.length cx)∧w'.cell? ⟨rb,ro+k,none⟩=some (.int .i64 (q:Int))∧w'.cell? ⟨be,oe+q*3,none⟩=some (.int .i64 ee.1)∧w'.cell? ⟨be,oe+q*3+1,none⟩=some (.int .i64 ee.2.1)∧w'.cell? ⟨be,oe+q*3+2,none⟩=some (.int .i64 ee.2.2))) (by kernel_rfl) ?_ (fun hHeld=>?_)
     ·exact⟨Qaa hbd r1,Qaa hbd r2,Qaa hbd d0,Qaa hbd e0,Qaa hbd e1,Qaa hbd e2⟩
     refine tL 0 ?_
     try simp only [YS]
     refine tL 1 ?_
     refine tL 2 ?_
     refine tL 3 ?_
     refine tL 4 ?_
     refine tL 5 ?_
     try simp only [YS,YT,YU]
     refine tL 6 ?_
     refine tL 7 ?_
     refine tL 8 ?_
     refine tL 9 ?_
     refine tL 10 ?_
     try simp only [YS,YT,YU]
     have HH5:Hid (Blk 24 wr.drew x [.int .i64 (N:Int),ev]):=HH.out
     have HO5:Hid (wr.drew.ownsRow (x+1) 50 3 ev PK.length (flat PK)):=QbQ HO.out hbd
     have HB5:Hid (Below x wo wr.drew):=Qab HBs.out 1
     clear r1 r2 d0 e0 e1 e2 hbd hbk HH HO HBs
     generalize wr.drew=w6 at *
     have hbA:Below w6.heap.size w6 (w6.alloc (.cells #[.int .i64 0,.int .i64 0,.int .i64 0] 50)):=YD.alloc YA _
     have hBk:Blk 50 (w6.alloc (.cells #[.int .i64 0,.int .i64 0,.int .i64 0] 50)) w6.heap.size [.int .i64 0,.int .i64 0,.int .i64 0]:=heap_alloc_new w6 _
     refine Qad (rs:=[11]) (by kernel_rfl) (by simp) ?_
     refine AllReadyL.cons rfl (fun K hK=>?_) AllReadyL.nil
     go_simp
     refine hK.out _ _ ⟨Qaa hbA hHeld.1,Qaa hbA hHeld.2.1,Qaa hbA hHeld.2.2.1,Qaa hbA hHeld.2.2.2.1,Qaa hbA hHeld.2.2.2.2.1,Qaa hbA hHeld.2.2.2.2.2⟩ (fun hHeld6=>?_)
     clear hK K
     try simp only [Act.put,YS,YT,YU]
     have hBs:Blk 50 (w6.alloc (.cells #[.int .i64 ee.1,.int .i64 ee.2.1,.int .i64 ee.2.2] 50)) w6.heap.size [.int .i64 ee.1,.int .i64 ee.2.1,.int .i64 ee.2.2]:=heap_alloc_new w6 _
     have hb7:Below w6.heap.size w6 (w6.alloc (.cells #[.int .i64 ee.1,.int .i64 ee.2.1,.int .i64 ee.2.2] 50)):=YD.alloc YA _
     refine Qad (rs:=[12]) (by kernel_rfl) (by simp) ?_
     refine AllReadyL.last rfl (by kernel_rfl) (fun K hK=>?_)
     go_simp
     refine hK.out _ _ ?_
     clear hK K
     try simp only [Act.put,YS,YT,YU]
     refine Qaj (by kernel_rfl) ?_ _
     try simp only [YP,YQ,YR,YS,YT,YU]
     have hH7:=HH5.out.go hb7
     have hO7:=QbQ HO5.out hb7
     have hB7:=HB5.out.trans (hb7.mono (by have h1:=HB5.out.size;have h2:=HXE.out;omega))
     have hx6:=HH5.out.lt
     have hevl:∀ z,ev.ownBlock=some z→x+1≤z∧z<w6.heap.size:=fun z hz=>HO5.out.lt z hz
     clear hHeld hHeld6 hbA hBk hb7 HH5 HO5 HB5
     generalize w6.alloc (.cells #[.int .i64 ee.1,.int .i64 ee.2.1,.int .i64 ee.2.2] 50)=w7 at *
     generalize w6.heap.size=eb at *
     have heb:=hBs.lt
     obtain⟨pp,cc,rfl⟩:=QcV hO7
     have k1:=hH7.cell (j:=1) rfl
     have f1:=hH7.frozen 1
     have y0:=hBs.cell (j:=0) rfl
     have y1:=hBs.cell (j:=1) rfl
     have y2:=hBs.cell (j:=2) rfl
     have hex:eb≠x:=by omega
     have hown9:=hO7.alloc (.cells #[.int .i64 ee.1,.int .i64 ee.2.1,.int .i64 ee.2.2] 50)
     have hn3:=news3 (w:=w7) (t:=50) ee
     have ho3:=one3 ee
     have hmx:PK.length+1≤maxLen:=by have:=HPL.out;unfold maxLen;omega
     have hby24:(PK.length+1)*24≤140737488355328:=by have:=HPL.out;omega
     have hbs:x+1≤(w7.alloc (.cells #[.int .i64 ee.1,.int .i64 ee.2.1,.int .i64 ee.2.2] 50)).heap.size:=by simp;omega
     have hgA:Below w7.heap.size w7 (w7.alloc (.cells #[.int .i64 ee.1,.int .i64 ee.2.1,.int .i64 ee.2.2] 50)):=YD.alloc YA _
     have hH9:=hH7.go hgA
     have hE9:=hBs.go hgA
     have hB9:=hB7.trans (hgA.mono (by omega))
     have hneH:some x≠(Value.slice pp PK.length cc).ownBlock:=fun e=>by have:=hevl _ e.symm;omega
     have hneE:some eb≠(Value.slice pp PK.length cc).ownBlock:=fun e=>by have:=hevl _ e.symm;omega
     have hlow:∀ z,(Value.slice pp PK.length cc).ownBlock=some z→x≤z:=fun z hz=>by have:=hevl z hz;omega
     have HPS2:Hid _:=HPS
     clear hO7 hgA hBs hH7 hB7 HPS
     go_wp2_with (at_builtin;refine wpList_append_own_at _ rfl _ _ 22 rfl (x+1) 50 i0 (.agg #[.int .i64 0,.int .i64 0,.int .i64 0]) 3 24 Tryz.underlying22 hi hz0 hz1 hz2 (by simp [Value.cells]) (by decide) (.slice pp PK.length cc) _ _ rfl hown9 ⟨w7.heap.size,0,none⟩ 1 1 (encE ee) rfl rfl hn3 ho3 hmx hby24 hbs ?_;intro v8 w8 hown8 hgrow8 hnil8 hat8;obtain⟨p8,c8,rfl⟩:=QcV hown8;have hH8:=hH9.grown hgrow8 hneH;have hE8:=hE9.grown hgrow8 hneE;have k8:=hH8.cell (j:=1) rfl;have f8:=hH8.frozen 1;have z2:=hE8.cell (j:=2) rfl)
     have hb8:Below x wo w8:=hB9.grown hgrow8 (by simp;omega) (fun z hz=>hlow z hz)
     refine⟨⟨k+1,_,HLTk.out,?_,?_,by go_num,hH8.set 1 _,?_,hb8.setCell (p:=⟨x,1,none⟩) YA _⟩,by have:=HLTk.out;simp [intOf];omega⟩
     ·rw [HSB.out,← Int.add_assoc]
     ·rw [HLF.out]
     ·unfold Hid
      rw [HPS2.out,Qhb,YI]
      exact QfS hown8 (by simp) _
    ·obtain rfl:k=B.length:=by omega
     have hkl:¬ (B.length:Int)<(B.length:Int):=by omega
     rw [List.take_length] at HO
     have hEd:=Edges.of_owns HO.out
     have htw:=HTW.out ev wr hEd
     have k0:=HH.out.cell (j:=0) rfl
     have k1:=HH.out.cell (j:=1) rfl
     rw [List.take_length,HLM.out]
     have HB5:Hid (Below w4.heap.size w4 wr):=HBr.out.trans (hbk.mono HBr.out.size)
     have hgb:=HGB.out
     have hsb:=Qcg (l:=l) (xs:=B.take B.length) fun y hy=>HWT.out y (HIN.out y (List.mem_of_mem_take hy))
     have hbl:=HBL.out
     have hsub:IntKind.i64.wrap (sg+sumB l B B.length-lw)=sg+sumB l B B.length-lw:=by
      refine QaM _ ?_ ?_ <;> (unfold sumB;rw [List.length_take] at hsb;omega)
     clear HO hEd HTW hbk hsb hgb hbl
     generalize hsB:sumB l B B.length=sB at *
     go_wp2_with fail
     refine htw.mono ?_
     rintro e w6 ⟨hres,hb6⟩
     clear htw k0 k1
     have HB6:Hid (Below w4.heap.size w4 w6):=HB5.out.trans (hb6.mono HB5.out.size)
     clear hb6 HB5
     rcases hres with ⟨hno,bt,rfl,_⟩ | ⟨hno,rfl⟩
     ·have HBD:Hid (bad=false):=by show _=_;rw [HBB.out,oneB_iff.2 hno];rfl
      clear hno hsub
      have hgl:=HGL.out
      go_wp2
      refine⟨⟨j+1,HLT.out,?_,by go_num,HB6.out⟩,by have:=HLT.out;simp [intOf];omega⟩
      rw [HSO.out,HSS.out,HBD.out,if_neg (by simp),← HSGE.out]
      congr 1
      omega
     ·have HBD:Hid (bad=true):=by
       show _=_
       rw [HBB.out]
       cases e:oneB (cAt N (pick l B) N) (pick l B) with
       | true=>exact absurd (oneB_iff.1 e) hno
       | false=>rfl
      clear hno
      have hgl:=HGL.out
      go_wp2
      refine⟨⟨j+1,HLT.out,?_,by go_num,HB6.out⟩,by have:=HLT.out;simp [intOf];omega⟩
      rw [HSO.out,HSS.out,HBD.out,if_pos rfl,← HSGE.out]
      congr 1
      omega
  ·obtain rfl:j=G.length:=by omega
   have HBW:Hid (Below w.heap.size w wr):=HB4.out.trans (HBr.out.mono HB4.out.size)
   clear HBr
   go_wp2
   refine bodyPost_ret (v:=.tuple #[.int .i64 (sumG l G G.length-offB l (badB N l) G G.length),.int .i64 0]) (by simp [results,Tryz.results24,go_sem]) rfl ?_
   exact⟨rfl,HBW.out⟩
end Go.Proofs.YtalflecmadacaaaGreat
