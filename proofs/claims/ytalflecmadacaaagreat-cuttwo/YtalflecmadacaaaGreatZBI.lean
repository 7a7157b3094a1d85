import Derived.OwnWalk
import Derived.Test.YtalflecmadacaaaGreatShelfS
import Derived.Test.YtalflecmadacaaaGreatZAP
import Derived.Test.YtalflecmadacaaaGreatZAA
import Derived.Test.YtalflecmadacaaaGreatZAS
import Derived.Test.YtalflecmadacaaaGreatZBH
import Derived.Sort.OwnSortedInts
import Derived.Test.YtalflecmadacaaaGreatZAT
set_option maxRecDepth 100000
set_option maxHeartbeats 8000000
namespace Go.Proofs.YtalflecmadacaaaGreat
open Go Go.Proofs Go.RowKit
def fitC (n:Int)(l:List Ed):Int:=if rightK n l=0 then if l.any negB=true then 10 else 0 else 1
theorem QlX (e:Ed)(w:World):Calls Tryz.prog 56 #[edV e] w fun r w'=>r = .returned (.bool (negB e))∧Grew w w':=by
 obtain⟨a,b,c⟩:=e
 unfold edV negB
 by_cases h:c<0
 all_goals
  go_enter Tryz.func56,Tryz.ntmps56
  go_wp2
  go_ret
  exact⟨by simp [h],(Grew.refl w).alloc _⟩
theorem QlW (n:Int)(l:List Ed)(hm:l.length≤8388608)(sv:Value)(w:World)(hl:Edges w.heap.size w sv l):
  Calls Tryz.prog 29 #[.agg #[.int .i64 n,sv]] w fun r w'=>r = .returned (.int .i64 (fitC n l))∧Grew w w':=by
 have hg1:Grew w (w.alloc (.cells #[.int .i64 n,sv] 24)):=(Grew.refl w).alloc _
 have hl1:=hl.go hg1.below
 obtain⟨p,c,rfl⟩:=hl.len
 have hrc:=Qbg n l (.slice p l.length c) _ hl1
 go_enter Tryz.func29,Tryz.ntmps29
 go_wp2_with fail
 refine hrc.mono ?_
 rintro e w2 ⟨rfl,hg2⟩
 have hg:=hg1.trans hg2
 have q1:w2.cell? ⟨w.heap.size,1,none⟩=some (.slice p l.length c):=(hg2.below.cell (p:=⟨w.heap.size,1,none⟩) (by simp)).trans (by simp)
 have hce:=QfV 56 #[] negB (fun _ _=>by kernel_rfl) l hm (.slice p l.length c) w2 (hl1.go hg2.below) (fun e _ W _=>by
  have h:=QlX e W
  exact h)
 clear hrc hl1
 by_cases hk:rightK n l=0
 ·have HE:∀ b,l.any negB=b→Hid (fitC n l=if b=true then 10 else 0):=fun b h=>by show _=_;unfold fitC;rw [if_pos hk,h]
  rw [hk]
  go_wp2_with fail
  refine hce.mono ?_
  rintro e w3 ⟨rfl,hg3⟩
  cases hb:l.any negB with
  | true=>
   have H:=HE true hb
   clear HE
   go_wp2
   go_ret
   exact⟨by rw [H.out];rfl,hg.trans hg3⟩
  | false=>
   have H:=HE false hb
   clear HE
   go_wp2
   go_ret
   exact⟨by rw [H.out];rfl,hg.trans hg3⟩
 ·have hk2:(rightK n l==0)=false:=by simpa using hk
  have H:Hid (fitC n l=1):=if_neg hk
  generalize rightK n l=k at *
  clear hce q1
  go_wp2
  go_ret
  exact⟨by rw [H.out];rfl,hg⟩
theorem Qkj (n:Int)(l:List Ed)(hm:l.length≤4194304)(hw:∀ e∈l,-2147483648≤e.2.2∧e.2.2≤2147483648)(sv:Value)(w:World)(hl:Edges w.heap.size w sv l):
  Calls Tryz.prog 36 #[.agg #[.int .i64 n,sv]] w fun r w'=>r = .returned (.int .i64 (sumC l l.length))∧Below w.heap.size w w':=by
 have hmix:=mixed
 obtain⟨p,c,rfl⟩:=hl.len
 have hg1:Grew w (w.alloc (.cells #[.int .i64 n,.slice p l.length c] 24)):=(Grew.refl w).alloc _
 have HL:Hid (Edges w.heap.size w (.slice p l.length c) l):=hl
 have HW:Hid _:=hw
 clear hl hw
 go_enter Tryz.func36,Tryz.ntmps36
 go_wp2
 go_loopw [3,9] (fun cv i wr=>∃ k:Nat,k≤l.length∧cv = .int .i64 (sumC l k)∧i = .int .i64 (k:Int)∧Hid (Below w.heap.size w wr)) (fun _ i _=>l.length-(intOf i).toNat)
 case atStart=>exact⟨0,YN,rfl,rfl,hg1.below⟩
 case round=>
  clear hg1
  obtain⟨k,hk,rfl,rfl,HB⟩:=hrel
  by_cases hlt:k<l.length
  ·have hkl:(k:Int)<(l.length:Int):=by omega
   obtain⟨b,off,rfl,hbb,hcap,hc,-⟩:=HL.out.open hlt
   obtain⟨e0,e1,e2⟩:=hc _ HB.out k hlt
   have HST:Hid (sumC l (k+1)=sumC l k+l[k].2.2):=Qd6 hlt
   have hf:=Qfv HW.out k hk
   have hwe:=HW.out l[k] (YG hlt)
   have s2:(k:Int)≤4194304:=by omega
   have hwr:IntKind.i64.wrap (sumC l k+l[k].2.2)=sumC l k+l[k].2.2:=QaU _ (by omega) (by omega)
   have HLT:Hid (k<l.length):=hlt
   generalize sumC l k=S at *
   generalize l[k].2.2=wt at *
   generalize l[k].1=u at *
   generalize l[k].2.1=v at *
   have HB6:Hid (Below wr.heap.size wr (wr.alloc (.cells #[.int .i64 u,.int .i64 v,.int .i64 wt] 50))):=YD.alloc YA _
   clear hc hlt hf hwe s2
   go_wp2
   refine⟨⟨k+1,HLT.out,?_,by go_num,HB.out.trans (HB6.out.mono HB.out.size)⟩,by have:=HLT.out;simp [intOf];omega⟩
   rw [HST.out]
  ·obtain rfl:k=l.length:=by omega
   go_wp2
   go_ret
   exact⟨rfl,HB.out⟩
def iotaI (m j:Nat):List Int:=(List.range m).map fun i=>if i<j then (i:Int) else 0
theorem Qa1 (m j:Nat):(iotaI m j).length=m:=by simp [iotaI]
theorem QjC (m:Nat):iotaI m 0=List.replicate m 0:=by
 apply List.ext_getElem <;> simp [iotaI]
theorem QlF {m j:Nat}:(iotaI m j).set j (j:Int)=iotaI m (j+1):=by
 apply List.ext_getElem?
 intro i
 rw [List.getElem?_set,Qa1]
 by_cases h:i<m
 ·have a:∀ q,(iotaI m q)[i]? = some (if i<q then (i:Int) else 0):=fun q=>by simp [iotaI,h]
  rw [a,a]
  by_cases e:j=i
  ·subst e;rw [if_pos rfl,if_pos h,if_pos (by omega)]
  ·rw [if_neg e]
   congr 1
   by_cases hi:i<j
   ·rw [if_pos hi,if_pos (by omega)]
   ·rw [if_neg hi,if_neg (by omega)]
 ·have a:∀ q,(iotaI m q)[i]? = none:=fun q=>YL (by rw [Qa1];omega)
  rw [a,a]
  by_cases e:j=i
  ·subst e;rw [if_pos rfl,if_neg h]
  ·rw [if_neg e]
theorem Qem (n:Int)(l:List Ed)(hm:l.length≤4194304)(sv:Value)(w:World)(hl:Edges w.heap.size w sv l):
  Calls Tryz.prog 32 #[.agg #[.int .i64 n,sv]] w fun r w'=>∃ rv,r = .returned rv∧Ints w'.heap.size w' rv (oddK n l (iotaI l.length l.length))∧Below w.heap.size w w':=by
 have hmix:=mixed
 obtain⟨p,c,rfl⟩:=hl.len
 obtain⟨i0,hi,hz0,hz1,hz2⟩:=info_parts infoI
 obtain⟨w1,hw1⟩:∃ W,(w.alloc (.cells #[.int .i64 n,.slice p l.length c] 24))=W:=⟨_,rfl⟩
 have hb1:Below w.heap.size w w1:=by rw [← hw1];exact YD.alloc YA _
 have hX1:Blk 24 w1 w.heap.size [.int .i64 n,.slice p l.length c]:=by rw [← hw1];exact heap_alloc_new w _
 have HX1:Hid (Blk 24 w1 w.heap.size [.int .i64 n,.slice p l.length c]):=hX1
 have HB1:Hid (Below w.heap.size w w1):=hb1
 have HL:Hid (Edges w.heap.size w (.slice p l.length c) l):=hl
 have hlx:=hX1.lt
 have x1:=hX1.cell (j:=1) rfl
 clear hX1 hb1 hl
 go_enter Tryz.func32,Tryz.ntmps32
 go_wp2_with (at_make;refine wpList_make_full _ rfl _ _ 27 rfl w1.heap.size 3 i0 (.int .i64 0) 1 Tryz.underlying27 hi hz0 hz1 .i64 .i64 _ _ l.length rfl rfl rfl rfl (by rw [hz2];omega) (by unfold maxLen;omega) YA ?_;intro w3 hown hgrow;have hb3:Below w1.heap.size w1 w3:=YD.grown hgrow YA (fun k e=>by cases e);have hrow:=Blk.made hown;rw [QaK,← QjC] at hrow;have HR3:Hid (Blk 3 w3 w1.heap.size ((iotaI l.length 0).map (Value.int .i64))):=hrow;have HX3:Hid (Blk 24 w3 w.heap.size [.int .i64 n,.slice p l.length c]):=HX1.out.go hb3;have HB3:Hid (Below w.heap.size w w3):=HB1.out.trans (hb3.mono HB1.out.size);clear hown hgrow hrow hb3 x1)
 clear hw1 HX1 HB1 hi hz0 hz1 hz2
 obtain⟨g,hg⟩:∃ g,w1.heap.size=g:=⟨_,rfl⟩
 rw [hg] at HR3 hlx ⊢
 clear hg
 go_loopw [11] (fun i wr=>∃ j:Nat,j≤l.length∧i = .int .i64 (j:Int)∧Hid (Blk 3 wr g ((iotaI l.length j).map (Value.int .i64)))∧Hid (Blk 24 wr w.heap.size [.int .i64 n,.slice p l.length c])∧Hid (Below w.heap.size w wr)) (fun i _=>l.length-(intOf i).toNat)
 case atStart=>exact⟨0,YN,rfl,HR3,HX3,HB3⟩
 case round=>
  clear HR3 HX3 HB3
  obtain⟨j,hj,rfl,HR,HX,HB⟩:=hrel
  by_cases hlt:j<l.length
  ·have hjl:(j:Int)<(l.length:Int):=by omega
   have t0:wr.cell? ⟨g,j,none⟩=some (.int .i64 ((iotaI l.length j)[j]'(by rw [Qa1];exact hlt))):=HR.out.cell (by rw [YH,YB (by rw [Qa1];exact hlt)];rfl)
   have tf:=HR.out.frozen j
   have HR2:Hid (Blk 3 (wr.setCell ⟨g,j,none⟩ (.int .i64 (j:Int))) g ((iotaI l.length (j+1)).map (Value.int .i64))):=by
    have h1:=HR.out.set j (.int .i64 (j:Int))
    rw [← List.map_set,QlF] at h1
    exact h1
   have HX2:Hid _:=HX.out.other (p:=⟨g,j,none⟩) (by show w.heap.size≠g;omega) (.int .i64 (j:Int))
   have HB2:Hid _:=HB.out.setCell (p:=⟨g,j,none⟩) (by show w.heap.size≤g;omega) (.int .i64 (j:Int))
   have HLT:Hid (j<l.length):=hlt
   generalize (iotaI l.length j)[j]'(by rw [Qa1];exact hlt)=tv at t0
   clear hlt HR HX HB
   go_wp2
   exact⟨⟨j+1,HLT.out,by go_num,HR2,HX2,HB2⟩,by have:=HLT.out;simp [intOf];omega⟩
  ·obtain rfl:j=l.length:=by omega
   have x0:=HX.out.cell (j:=0) rfl
   have x1:=HX.out.cell (j:=1) rfl
   have hIn:Ints wr.heap.size wr (.slice (some ⟨g,0,none⟩) l.length l.length) (iotaI l.length l.length):=by
    have h:=HR.out
    exact .inr ⟨g,0,l.length,by rw [Qa1],h.lt,by rw [Qa1];exact YA,fun q y hy=>by rw [Nat.zero_add];exact h.cell (by rw [YH,hy];rfl)⟩
   have hod:=QoM n l (iotaI l.length l.length) (by rw [Qa1];omega) (.slice p l.length c) (.slice (some ⟨g,0,none⟩) l.length l.length) wr (HL.out.go HB.out) hIn
   clear hIn HR HX
   go_wp2_with fail
   refine hod.mono ?_
   rintro e w5 ⟨rv,rfl,hr5,hb5⟩
   clear hod
   have HR5:Hid _:=hr5
   clear hr5
   go_wp2
   go_ret
   exact⟨rv,rfl,HR5.out,HB.out.trans (hb5.mono HB.out.size)⟩
theorem Qkc (x:Int)(I:List Int)(hI:I.Pairwise (· < ·))(hIl:I.length≤4194304)(iv:Value)(bx:Nat)(W:World)(hbx:W.cell? ⟨bx,0,none⟩=some iv)(hv:Ints W.heap.size W iv I):
  Calls Tryz.prog 33 #[.int .i64 x,.pointer (some ⟨bx,0,none⟩)] W fun e w'=>∃ b,e = .returned (.bool b)∧Below W.heap.size W w':=by
 have hmix:=mixed
 have hle:(I.take I.length).Pairwise (·≤·):=by rw [List.take_length];exact hI.imp fun h=>Int.le_of_lt h
 rcases hv with ⟨⟨p,c,rfl⟩,rfl⟩ | ⟨b,off,c,rfl,hb,hc,hcc⟩
 ·have hbs:=Tryz.slices_BinarySearch_int_empty p c x W
  go_enter Tryz.func33,Tryz.ntmps33
  go_wp2_with fail
  refine hbs.mono ?_
  rintro e w2 ⟨rfl,rfl⟩
  clear hbs
  go_wp2
  go_ret
  exact⟨_,rfl,YD⟩
 ·have hbs:=Tryz.slices_BinarySearch_int b off I.length c I x W YA (by omega) (fun j hj=>by
   have:=hcc j I[j] (YB hj)
   rw [this]
   congr 2
   simp [YB hj]) hle
  go_enter Tryz.func33,Tryz.ntmps33
  go_wp2_with fail
  refine hbs.mono ?_
  rintro e w2 ⟨rfl,q,rfl⟩
  clear hbs
  go_wp2
  go_ret
  exact⟨_,rfl,Qaa YD q⟩
theorem QhX (N:Nat)(l:List Ed)(hR:RightG (N:Int) l)(r:List (List Int))(hS:SysR N l r)(hP:Qa5 (numsL N l r)=0)(sv rv:Value)(w:World)(hl:Edges w.heap.size w sv l)(hr:Lsts w.heap.size w rv r):
  Calls Tryz.prog 57 #[.agg #[.int .i64 (N:Int),sv],rv] w fun e w'=>∃ lv svs,e = .returned (.tuple #[lv,.int .i64 0])∧GrpD w.heap.size lv svs (facesL N l r) w'∧Below w.heap.size w w':=by
 have hbA:Below w.heap.size w (w.alloc (.cells #[.int .i64 (N:Int),sv] 24)):=YD.alloc YA _
 have hX:Blk 24 (w.alloc (.cells #[.int .i64 (N:Int),sv] 24)) w.heap.size [.int .i64 (N:Int),sv]:=heap_alloc_new w _
 have q0:=hX.cell (j:=0) rfl
 have q1:=hX.cell (j:=1) rfl
 have hrc:=QkX N l hR r hS sv rv _ (hl.go hbA) (hr.go hbA)
 rw [hP] at hrc
 have HX:Hid (Blk 24 (w.alloc (.cells #[.int .i64 (N:Int),sv] 24)) w.heap.size [.int .i64 (N:Int),sv]):=hX
 have HN:Hid (∀ W,Below w.heap.size w W→Calls Tryz.prog 81 #[.agg #[.int .i64 (N:Int),sv],rv] W fun e w'=>∃ lv svs,e = .returned (.tuple #[lv,.int .i64 0])∧GrpD W.heap.size lv svs (facesL N l r) w'∧Below W.heap.size W w'):=fun W h=>QlY N l hR r hS sv rv W (hl.go h) (hr.go h)
 have HBA:Hid _:=hbA
 clear hX hl hr hbA hR hS
 go_enter Tryz.func57,Tryz.ntmps57
 go_wp2_with fail
 generalize w.alloc (.cells #[.int .i64 (N:Int),sv] 24)=w1 at *
 refine hrc.mono ?_
 clear hrc
 rintro e w2 ⟨rfl,hb2⟩
 have hX2:=HX.out.go hb2
 have hB2:Below w.heap.size w w2:=HBA.out.trans (hb2.mono HBA.out.size)
 have y0:=hX2.cell (j:=0) rfl
 have y1:=hX2.cell (j:=1) rfl
 have hn:=HN.out w2 hB2
 have HB2:Hid (Below w.heap.size w w2):=hB2
 clear hX2 HX HN q0 q1 hb2 hB2
 go_wp2_with fail
 refine hn.mono ?_
 clear hn
 rintro e w3 ⟨lv,svs,rfl,hG,hb3⟩
 have HB3:Hid (Below w.heap.size w w3):=HB2.out.trans (hb3.mono HB2.out.size)
 have HG:Hid (GrpD w.heap.size lv svs (facesL N l r) w3):=hG.base HB2.out.size
 clear hb3 y0 y1 hG
 go_wp2
 refine bodyPost_ret (results_tmp2 rfl _ _ _) rfl ?_
 exact⟨lv,svs,rfl,HG.out,HB3.out⟩
def dualL (fs:List (List Dt))(l:List Ed):List Ed:=l.map fun e=>(faceOf fs (e.1,e.2.1),faceOf fs (e.2.1,e.1),e.2.2)
theorem QbH (fs:List (List Dt))(l:List Ed):(dualL fs l).length=l.length:=List.length_map ..
def dualH (fs:List (List Dt))(l:List Ed)(j:Nat):List Ed:=dualL fs (l.take j)++List.replicate (l.length-j) (0,0,0)
theorem QjY (fs:List (List Dt))(l:List Ed):dualH fs l 0=List.replicate l.length (0,0,0):=by simp [dualH,dualL]
theorem Qj0 (fs:List (List Dt))(l:List Ed):dualH fs l l.length=dualL fs l:=by simp [dualH]
theorem Ql7 (fs:List (List Dt))(l:List Ed){j:Nat}(h:j≤l.length):(dualH fs l j).length=l.length:=by
 simp [dualH,dualL]
 omega
theorem QjZ (fs:List (List Dt))(l:List Ed){j:Nat}(h:j<l.length):(dualH fs l j).set j (faceOf fs (l[j].1,l[j].2.1),faceOf fs (l[j].2.1,l[j].1),l[j].2.2)=dualH fs l (j+1):=by
 unfold dualH dualL
 have e:l.length-j=(l.length-(j+1))+1:=by omega
 have h1:((l.take j).map fun e:Ed=>(faceOf fs (e.1,e.2.1),faceOf fs (e.2.1,e.1),e.2.2)).length=j:=by simp;omega
 rw [List.set_append,h1,if_neg (Nat.lt_irrefl j),Nat.sub_self,e,List.replicate_succ,List.set_cons_zero,List.take_add_one,YB h,List.map_append,List.append_assoc]
 rfl
theorem Qjk {fn:Func}{p u:Tmp}(h:fn.results = #[.cell p 24,.tmp u]){tmps:Array Value}{w:World}{b:Nat}{x y:Value}(hp:tmps.getD p undef = .pointer (some ⟨b,0,none⟩))(h0:w.cell? ⟨b,0,none⟩=some x)(h1:w.cell? ⟨b,1,none⟩=some y):
  (results fn tmps).run Tryz.prog w = .ok (.tuple #[.agg #[x,y],tmps.getD u undef]) w:=by
 rw [results_cell_tmp h,hp]
 have a1:=Tryz.isAgg24
 have a2:=Tryz.sizeOf24
 go_simp
theorem QnE (n:Int)(l:List Ed)(hm:l.length≤4194304)(F:List (List Dt))(hf:F.length≤16777216)(hin:∀ x∈F,x.length≤16777216)(hnd:F.flatten.Nodup)(sv rv:Value)(w:World)(hl:Edges w.heap.size w sv l)
  (hP:∀ W,Below w.heap.size w W→Calls Tryz.prog 57 #[.agg #[.int .i64 n,sv],rv] W fun e w'=>∃ lv svs,e = .returned (.tuple #[lv,.int .i64 0])∧GrpD W.heap.size lv svs F w'∧Below W.heap.size W w') :
  Calls Tryz.prog 30 #[.agg #[.int .i64 n,sv],rv] w fun e w'=>∃ gv,e = .returned (.tuple #[.agg #[.int .i64 (F.length:Int),gv],.int .i64 0])∧Edges w'.heap.size w' gv (dualL F l)∧Below w.heap.size w w':=by
 obtain⟨p,c,rfl⟩:=hl.len
 obtain⟨i0,hi,hz0,hz1,hz2⟩:=info_parts infoE
 have hbA:Below w.heap.size w (w.alloc (.cells #[.int .i64 n,.slice p l.length c] 24)):=YD.alloc YA _
 have hX:Blk 24 (w.alloc (.cells #[.int .i64 n,.slice p l.length c] 24)) w.heap.size [.int .i64 n,.slice p l.length c]:=heap_alloc_new w _
 have hs1:(w.alloc (.cells #[.int .i64 n,.slice p l.length c] 24)).heap.size=w.heap.size+1:=by simp
 generalize hw1:w.alloc (.cells #[.int .i64 n,.slice p l.length c] 24)=w1 at *
 have hbB:Below w1.heap.size w1 (w1.alloc (.cells #[.int .i64 0,.slice none 0 0] 24)):=YD.alloc YA _
 have hY:Blk 24 (w1.alloc (.cells #[.int .i64 0,.slice none 0 0] 24)) w1.heap.size [.int .i64 0,.slice none 0 0]:=heap_alloc_new w1 _
 have hX1:=hX.go hbB
 rw [hs1] at hY
 have q0:=hX1.cell (j:=0) rfl
 have q1:=hX1.cell (j:=1) rfl
 have hbw2:Below w.heap.size w (w1.alloc (.cells #[.int .i64 0,.slice none 0 0] 24)):=hbA.trans (hbB.mono hbA.size)
 have hip:=hP _ hbw2
 have HL:Hid (Edges w.heap.size w (.slice p l.length c) l):=hl
 have HIN:Hid ((∀ x∈F,x.length≤16777216)∧F.flatten.Nodup):=⟨hin,hnd⟩
 have HX:Hid (Blk 24 (w1.alloc (.cells #[.int .i64 0,.slice none 0 0] 24)) w.heap.size [.int .i64 n,.slice p l.length c]):=hX1
 have HY:Hid (Blk 24 (w1.alloc (.cells #[.int .i64 0,.slice none 0 0] 24)) (w.heap.size+1) [.int .i64 0,.slice none 0 0]):=hY
 have HB2:Hid (Below w.heap.size w (w1.alloc (.cells #[.int .i64 0,.slice none 0 0] 24))):=hbw2
 clear hl hin hnd hP hX hX1 hY hbA hbB hbw2
 go_enter Tryz.func30,Tryz.ntmps30
 go_wp2_with fail
 generalize w1.alloc (.cells #[.int .i64 0,.slice none 0 0] 24)=w2 at *
 refine hip.mono ?_
 clear hip
 rintro e w3 ⟨lv,svs,rfl,hG,hb3⟩
 have hlen:=hG.len
 obtain⟨pl,cl,rfl⟩:=QcR hG.own
 rw [hlen] at hG
 have HG:Hid (LDr w3.heap.size w3 (.slice pl F.length cl) F):=by have:=hG.ldr;exact this
 have HX3:Hid (Blk 24 w3 w.heap.size [.int .i64 n,.slice p l.length c]):=HX.out.go hb3
 have HY3:Hid (Blk 24 w3 (w.heap.size+1) [.int .i64 0,.slice none 0 0]):=HY.out.go hb3
 have HB3:Hid (Below w.heap.size w w3):=HB2.out.trans (hb3.mono HB2.out.size)
 clear hG hb3 HX HY HB2 q0 q1
 have hly:=HY3.out.lt
 have q1:=HX3.out.cell (j:=1) rfl
 rw [hlen]
 go_wp2_with (at_make;refine wpList_make_full _ rfl _ _ 22 rfl w3.heap.size 50 i0 (.agg #[.int .i64 0,.int .i64 0,.int .i64 0]) 3 Tryz.underlying22 hi hz0 hz1 .i64 .i64 _ _ l.length rfl rfl rfl rfl (by rw [hz2];omega) (by unfold maxLen;omega) YA ?_;intro w4 hown hgrow;have hb4:Below w3.heap.size w3 w4:=YD.grown hgrow YA (fun k e=>by cases e);have x0:=(HX3.out.go hb4).cell (j:=0) rfl;have x1:=(HX3.out.go hb4).cell (j:=1) rfl)
 have hsd:=Qkz n l hm F hf HIN.out.1 HIN.out.2 (.slice p l.length c) (.slice pl F.length cl) w4 (HL.out.go (HB3.out.trans (hb4.mono HB3.out.size))) (HG.out.go hb4)
 have hrow:=Blk.made hown
 rw [QlU,← QjY F l] at hrow
 have HR4:Hid (Blk 50 w4 w3.heap.size (flat (dualH F l 0))):=hrow
 have HX4:Hid (Blk 24 w4 w.heap.size [.int .i64 n,.slice p l.length c]):=HX3.out.go hb4
 have HY4:Hid (Blk 24 w4 (w.heap.size+1) [.int .i64 0,.slice none 0 0]):=HY3.out.go hb4
 have HB4:Hid (Below w.heap.size w w4):=HB3.out.trans (hb4.mono HB3.out.size)
 clear hown hgrow hb4 hrow HX3 HY3 HB3 q1 x0 x1 HG HIN hi hz0 hz1 hz2
 generalize hge:w3.heap.size=g at *
 refine hsd.mono ?_
 clear hsd
 rintro e w5 ⟨gs,rfl,hgs,hB5,hb5⟩
 have hgl:=HR4.out.lt
 have hB0:=HR4.out.go hb5
 have HX5:Hid (Blk 24 w5 w.heap.size [.int .i64 n,.slice p l.length c]):=HX4.out.go hb5
 have HY5:Hid (Blk 24 w5 (w.heap.size+1) [.int .i64 0,.slice none 0 0]):=HY4.out.go hb5
 have HB5:Hid (Below w.heap.size w w5):=HB4.out.trans (hb5.mono HB4.out.size)
 clear hb5 HX4 HY4 HB4 HR4
 have hgg:g<gs:=by omega
 go_wp2
 go_loopw [29] (fun i wr=>∃ j:Nat,j≤l.length∧i = .int .i64 j∧Blk 50 wr g (flat (dualH F l j))∧Blk 80 wr gs (flatD (Qb1 F l))∧Below g w5 wr) (fun i _=>l.length-(intOf i).toNat)
 case atStart=>exact⟨0,YN,rfl,hB0,hB5,YD⟩
 case round=>
  clear hB0 hB5
  obtain⟨j,hj,rfl,hB,hS,hb⟩:=hrel
  rename World=>w6
  have hbX:=HX5.out
  have x1:=(hb.cell (p:=⟨w.heap.size,1,none⟩) (by simp only;omega)).trans (HX5.out.cell (j:=1) rfl)
  by_cases hlt:j<l.length
  ·obtain⟨b,off,rfl,hbb,hcap,hc,-⟩:=HL.out.open hlt
   obtain⟨-,-,c2⟩:=hc w6 (HB5.out.trans (hb.mono (by omega))) j hlt
   have hjl:(j:Int)<(l.length:Int):=by omega
   have HS:Hid _:=QjZ F l hlt
   have hsl:=hS.lt
   obtain⟨d0,d1⟩:=QbQ (L:=Qb1 F l) (j:=j) (x:=(faceOf F (l[j].1,l[j].2.1),faceOf F (l[j].2.1,l[j].1))) (by unfold Qb1;rw [YH,YB hlt];rfl)
   have s0:=hS.cell d0
   have s1:=hS.cell d1
   have hln:j<(dualH F l j).length:=by rw [Ql7 F l hj];exact hlt
   clear hc d0 d1
   generalize l[j].2.2=wt at *
   generalize faceOf F (l[j].1,l[j].2.1)=x at *
   generalize faceOf F (l[j].2.1,l[j].1)=y at *
   simp only at s0 s1
   have hbN:Below w6.heap.size w6 (w6.alloc (.cells #[.int .i64 x,.int .i64 y] 80)):=YD.alloc YA _
   have hE:Blk 80 (w6.alloc (.cells #[.int .i64 x,.int .i64 y] 80)) w6.heap.size [.int .i64 x,.int .i64 y]:=heap_alloc_new w6 _
   have e0:=hE.cell (j:=0) rfl
   have e1:=hE.cell (j:=1) rfl
   have hBN:=hB.go hbN
   have hSN:=hS.go hbN
   have y1:=(hbN.cell (p:=⟨w.heap.size,1,none⟩) (by simp only;have:=hb.size;omega)).trans x1
   have y2:=(hbN.cell (p:=⟨b,off+j*3+2,none⟩) (by simp only;have:=hb.size;omega)).trans c2
   have HBN:Hid (Below g w5 (w6.alloc (.cells #[.int .i64 x,.int .i64 y] 80))):=hb.alloc (by omega) _
   clear hbN hE hB hS hbX
   go_wp2_with fail
   generalize w6.alloc (.cells #[.int .i64 x,.int .i64 y] 80)=w7 at *
   have hBn:=((hBN.set (j*3) (.int .i64 x)).set (j*3+1) (.int .i64 y)).set (j*3+2) (.int .i64 wt)
   have efs:=QiP (dualH F l j) j (x,y,wt)
   simp only at efs
   rw [efs,HS.out] at hBn
   have HBn:Hid _:=hBn
   have f0:w7.drew.frozen? ⟨g,j*3,none⟩=false:=hBN.frozen (j*3)
   have f1:w7.drew.frozen? ⟨g,j*3+1,none⟩=false:=hBN.frozen (j*3+1)
   have f2:w7.drew.frozen? ⟨g,j*3+2,none⟩=false:=hBN.frozen (j*3+2)
   have f3:w7.frozen? ⟨g,j*3+1,none⟩=false:=hBN.frozen (j*3+1)
   have f4:w7.frozen? ⟨g,j*3+2,none⟩=false:=hBN.frozen (j*3+2)
   have HSN:Hid (Blk 80 w7 gs (flatD (Qb1 F l))):=hSN
   have HBO:Hid (Blk 50 w7 g (flat (dualH F l j))):=hBN
   clear hBn hBN hSN s0 s1 x1 c2 efs
   obtain⟨⟨o0,g0⟩,⟨o1,g1⟩,⟨o2,g2⟩⟩:(∃ o,w7.cell? ⟨g,j*3,none⟩=some o)∧(∃ o,w7.cell? ⟨g,j*3+1,none⟩=some o)∧(∃ o,w7.cell? ⟨g,j*3+2,none⟩=some o):=by
    obtain⟨d0,d1,d2⟩:=QeE (YB hln)
    exact⟨⟨_,HBO.out.cell d0⟩,⟨_,HBO.out.cell d1⟩,⟨_,HBO.out.cell d2⟩⟩
   have HGG:Hid (g<gs):=hgg
   clear hln hgg
   refine Qai (S:=(fun w':World=>w'.cell? ⟨w6.heap.size,0,none⟩=some (.int .i64 x)∧w'.cell? ⟨w6.heap.size,1,none⟩=some (.int .i64 y)∧w'.cell? ⟨w.heap.size,1,none⟩=some (.slice (some ⟨b,off,none⟩) l.length c)∧w'.cell? ⟨b,off+j*3+2,none⟩=some (.int .i64 wt))) (by kernel_rfl) ⟨e0,e1,y1,y2⟩ (fun hHeld=>?_)
   refine tL 0 ?_
   try simp only [YS]
   refine tL 1 ?_
   refine tL 2 ?_
   refine tL 3 ?_
   refine tL 4 ?_
   refine tL 5 ?_
   refine tL 6 ?_
   refine tL 7 ?_
   refine tL 8 ?_
   refine tL 9 ?_
   refine tL 10 ?_
   refine tL 11 ?_
   refine tL 12 ?_
   refine tL 13 ?_
   clear e0 e1 y1 y2 hHeld
   refine Qac (rs:=[14]) (by kernel_rfl) (by simp) ?_
   refine AllReadyL.last rfl (by kernel_rfl) (fun K hK=>?_)
   go_simp
   refine hK.out _ _ ?_
   clear hK K
   try simp only [Act.put,YS,YT,YU]
   refine Qak (by kernel_rfl) ?_ _
   have hBq:Blk 50 (((w7.setCell ⟨g,j*3,none⟩ (.int .i64 x)).setCell ⟨g,j*3+1,none⟩ (.int .i64 y)).setCell ⟨g,j*3+2,none⟩ (.int .i64 wt)).drew g (flat (dualH F l (j+1))):=HBn.out
   have hSq:Blk 80 (((w7.setCell ⟨g,j*3,none⟩ (.int .i64 x)).setCell ⟨g,j*3+1,none⟩ (.int .i64 y)).setCell ⟨g,j*3+2,none⟩ (.int .i64 wt)).drew gs (flatD (Qb1 F l)):=by
    have hgg:=HGG.out
    have h1:=Below.heap_setCell w7 ⟨g,j*3,none⟩ (.int .i64 x) gs (by simp only;omega)
    have h2:=Below.heap_setCell (w7.setCell ⟨g,j*3,none⟩ (.int .i64 x)) ⟨g,j*3+1,none⟩ (.int .i64 y) gs (by simp only;omega)
    have h3:=Below.heap_setCell ((w7.setCell ⟨g,j*3,none⟩ (.int .i64 x)).setCell ⟨g,j*3+1,none⟩ (.int .i64 y)) ⟨g,j*3+2,none⟩ (.int .i64 wt) gs (by simp only;omega)
    exact (h3.trans (h2.trans h1)).trans HSN.out
   have hbq:Below g w5 (((w7.setCell ⟨g,j*3,none⟩ (.int .i64 x)).setCell ⟨g,j*3+1,none⟩ (.int .i64 y)).setCell ⟨g,j*3+2,none⟩ (.int .i64 wt)).drew:=Qaa (((HBN.out.setCell (p:=⟨g,j*3,none⟩) YA _).setCell (p:=⟨g,j*3+1,none⟩) YA _).setCell (p:=⟨g,j*3+2,none⟩) YA _) 1
   clear HBn HBN f0 f1 f2 f3 f4 g0 g1 g2 HS HSN HBO
   go_wp2
   exact⟨⟨j+1,by omega,by go_num,hBq,hSq,hbq⟩,by simp [intOf];omega⟩
  ·obtain rfl:j=l.length:=by omega
   have hjl:¬ (l.length:Int)<(l.length:Int):=by omega
   rw [Qj0] at hB
   have hY6:Blk 24 w6 (w.heap.size+1) [.int .i64 0,.slice none 0 0]:=(hb.block _ (by omega)).trans HY5.out
   have y0:=hY6.cell (j:=0) rfl
   have y1:=hY6.cell (j:=1) rfl
   have f0:=hY6.frozen 0
   have f1:=hY6.frozen 1
   have hY7:=(hY6.set 0 (.int .i64 (F.length:Int))).set 1 (.slice (some ⟨g,0,none⟩) l.length l.length)
   have z0:=hY7.cell (j:=0) rfl
   have z1:=hY7.cell (j:=1) rfl
   have hBW:Below w.heap.size w w6:=HB5.out.trans (hb.mono (by omega))
   have HBF:Hid (Below w.heap.size w ((w6.setCell ⟨w.heap.size+1,0,none⟩ (.int .i64 (F.length:Int))).setCell ⟨w.heap.size+1,1,none⟩ (.slice (some ⟨g,0,none⟩) l.length l.length))):=(hBW.setCell (p:=⟨w.heap.size+1,0,none⟩) (by simp) _).setCell (p:=⟨w.heap.size+1,1,none⟩) (by simp) _
   have HBG:Hid (Blk 50 ((w6.setCell ⟨w.heap.size+1,0,none⟩ (.int .i64 (F.length:Int))).setCell ⟨w.heap.size+1,1,none⟩ (.slice (some ⟨g,0,none⟩) l.length l.length)) g (flat (dualL F l))):=by
    have h1:=Below.heap_setCell w6 ⟨w.heap.size+1,0,none⟩ (.int .i64 (F.length:Int)) g (by simp only;omega)
    have h2:=Below.heap_setCell (w6.setCell ⟨w.heap.size+1,0,none⟩ (.int .i64 (F.length:Int))) ⟨w.heap.size+1,1,none⟩ (.slice (some ⟨g,0,none⟩) l.length l.length) g (by simp only;omega)
    exact (h2.trans h1).trans hB
   have HLN:Hid (l.length=(dualL F l).length):=(QbH F l).symm
   clear hB hS hb hY6 hY7 hBW hbX x1 HX5 HY5 HL
   go_wp2
   refine bodyPost_ret (Qjk rfl rfl z0 z1) rfl ?_
   refine⟨_,rfl,?_,HBF.out⟩
   have:=HBG.out.edges
   rw [QbH] at this
   exact this
theorem QmX (L:List Eg)(v:Nat){m:Nat}(hm:L.length=m):oddA L (iotaI m m) v=(L.map fun e=>tog e v).foldr xor false:=by
 have e1:(L.map fun e=>tog e v)=(iotaI m m).map fun i=>tog (Qca L i) v:=by
  apply List.ext_getElem
  ·rw [List.length_map,List.length_map,Qa1,hm]
  ·intro i h1 h2
   rw [List.length_map] at h1
   simp only [List.getElem_map,iotaI,List.getElem_range]
   rw [if_pos (by omega),QbG (YB h1)]
 rw [e1,List.foldr_map]
 rfl
theorem QmU {N:Nat}{l:List Ed}{r:List (List Int)}(hR:RightG (N:Int) l)(hS:SysR N l r){col:Int→Bool}(hc:∀ e∈l,col e.1≠col e.2.1):
  oddK ((facesL N l r).length:Int) (dualL (facesL N l r) l) (iotaI l.length l.length)=[]:=by
 unfold oddK
 split
 ·have hD:=Qa2 hR hS
  have hfo:∀ (i:Nat) (hi:i<(facesL N l r).length) (d:Dt),d∈(facesL N l r)[i]→faceOf (facesL N l r) d=(i:Int):=fun i hi d hd=>QeJ hD.nodup hi hd
  have hdr:∀ d∈Qah N l,0≤faceOf (facesL N l r) d:=fun d hd=>by
   obtain⟨f,hf,hdf⟩:=List.mem_flatten.1 ((hD.mem d).2 hd)
   obtain⟨i,hi,rfl⟩:=List.mem_iff_getElem.1 hf
   rw [hfo i hi d hdf]
   omega
  unfold oddV
  refine List.eq_nil_iff_forall_not_mem.2 fun x hx=>?_
  obtain⟨i,rfl,hi,hb⟩:=trueL_mem.1 hx
  have hlen:((dualL (facesL N l r) l).map unE).length=l.length:=by rw [List.length_map,QbH]
  unfold oddT at hi hb
  rw [List.length_map,List.length_range] at hi
  unfold bAt at hb
  rw [YC,YH,List.getElem?_range hi] at hb
  simp only [Option.map_some,Option.getD_some] at hb
  rw [QmX _ i hlen] at hb
  have h2:=QjU hR hS hc (faceOf (facesL N l r)) hfo i
  unfold dualL at hb
  rw [List.map_map,List.map_map] at hb
  have hb2:(l.map ((fun e=>tog e i) ∘ unE ∘ fun e=>(faceOf (facesL N l r) (e.1,e.2.1),faceOf (facesL N l r) (e.2.1,e.1),e.2.2))).foldr xor false=true:=hb
  have e2:(l.map ((fun e=>tog e i) ∘ unE ∘ fun e=>(faceOf (facesL N l r) (e.1,e.2.1),faceOf (facesL N l r) (e.2.1,e.1),e.2.2)))=l.map fun e=>(faceOf (facesL N l r) (e.1,e.2.1)==(i:Int)) ^^ (faceOf (facesL N l r) (e.2.1,e.1)==(i:Int)):=by
   refine List.map_congr_left fun e he=>?_
   have h3:=hdr (e.1,e.2.1) ((Qbp hR).mem_iff.1 (List.mem_flatMap.2 ⟨e,he,List.mem_cons_self ..⟩))
   have h4:=hdr (e.2.1,e.1) ((Qbp hR).mem_iff.1 (List.mem_flatMap.2 ⟨e,he,List.mem_cons_of_mem _ (List.mem_cons_self ..)⟩))
   have tn:∀ z:Int,0≤z→(z.toNat==i)=(z==(i:Int)):=fun z hz=>by
    by_cases e5:z=(i:Int)
    ·subst e5;simp
    ·have e6:¬ z.toNat=i:=by omega
     rw [beq_eq_false_iff_ne.2 e5,beq_eq_false_iff_ne.2 e6]
   show tog (unE (faceOf (facesL N l r) (e.1,e.2.1),faceOf (facesL N l r) (e.2.1,e.1),e.2.2)) i=_
   unfold tog unE
   rw [tn _ h3,tn _ h4]
  rw [e2,h2] at hb2
  exact absurd hb2 (by simp)
 ·rfl
theorem Qeu {n:Int}:∀ {L:List Ed},(∀ e∈L,fitW n e=0)→lstW n L=0
 | [],_=>rfl
 | e :: L,h=>by
  unfold lstW
  rw [if_pos (h e (List.mem_cons_self ..))]
  exact Qeu fun x hx=>h x (List.mem_cons_of_mem _ hx)
theorem QjW {N:Nat}{l:List Ed}{r:List (List Int)}(hR:RightG (N:Int) l)(hS:SysR N l r)(hn:l.any negB=false)(hF:(facesL N l r).length≤1048576):
  rgtW ((facesL N l r).length:Int) (dualL (facesL N l r) l)=0:=by
 have hD:=Qa2 hR hS
 have hdr:∀ d∈Qah N l,0≤faceOf (facesL N l r) d∧faceOf (facesL N l r) d<((facesL N l r).length:Int):=fun d hd=>by
  obtain⟨f,hf,hdf⟩:=List.mem_flatten.1 ((hD.mem d).2 hd)
  obtain⟨i,hi,rfl⟩:=List.mem_iff_getElem.1 hf
  rw [QeJ hD.nodup hi hdf]
  omega
 have hm:=hR.m1
 unfold rgtW
 rw [if_neg (by omega),if_neg (by rw [QbH];omega)]
 refine Qeu fun x hx=>?_
 unfold dualL at hx
 obtain⟨e,he,rfl⟩:=List.mem_map.1 hx
 have h3:=hdr (e.1,e.2.1) ((Qbp hR).mem_iff.1 (List.mem_flatMap.2 ⟨e,he,List.mem_cons_self ..⟩))
 have h4:=hdr (e.2.1,e.1) ((Qbp hR).mem_iff.1 (List.mem_flatMap.2 ⟨e,he,List.mem_cons_of_mem _ (List.mem_cons_self ..)⟩))
 obtain⟨⟨_,_,_,_,_,h5,h6⟩,_⟩:=hR.each e he
 have h7:=List.any_eq_false.1 hn e he
 have h8:¬ e.2.2<0:=fun h=>h7 (by simp [negB,h])
 have v1:=vtx_iff.2 h3
 have v2:=vtx_iff.2 h4
 unfold fitW
 simp only
 rw [v1,v2,if_neg (by simp),if_neg h8,if_neg (by omega)]
def wayM (L:List Eg)(V:List Int):Nat→Nat→List Int
 | 0,_=>[]
 | k+1,v=>if at' V v = -1 then [] else at' V v :: wayM L V k (par L V v)
theorem Qbx {L:List Eg}{V:List Int}{v:Nat}(h:at' V v = -1):∀ k,wayM L V k v=[]
 | 0=>rfl
 | _+1=>if_pos h
theorem Qcy {L:List Eg}{V:List Int}{v k:Nat}(h:at' V v≠-1):wayM L V (k+1) v=at' V v :: wayM L V k (par L V v):=if_neg h
theorem QlP (W:World):Go.Sort.grow W #[]=W:=by cases W;simp [Go.Sort.grow]
theorem Qom (N:Nat)(L:List Eg)(hN:N≤40)(hE:∀ e∈L,e.1<N∧e.2.1<N)(V:List Int)(lV:V.length=N)(hV:QeR L N V)(v:Nat)(hv:v<N)(sv vv:Value)(w:World)(hl:Edges w.heap.size w sv (L.map edE))(hI:Ints w.heap.size w vv V):
  Calls Tryz.prog 116 #[.agg #[.int .i64 (N:Int),sv],vv,.int .i64 (v:Int)] w fun r w'=>∃ rv,r = .returned rv∧w'.ownsRow w.heap.size 3 1 rv (wayM L V N v).length ((wayM L V N v).reverse.map (Value.int .i64))∧Below w.heap.size w w':=by
 have hmix:=mixed
 obtain⟨p,c,rfl⟩:=hl.lenG
 obtain⟨pv,cv,rfl,hov⟩:=hI.openW
 obtain⟨bv,ov,rfl,hbv,hcv⟩:=hov (j:=v) (by omega)
 obtain⟨i0,hi,hz0,hz1,hz2⟩:=Qcr QlL
 have hb1:Below w.heap.size w (w.alloc (.cells #[.int .i64 (N:Int),.slice p L.length c] 24)):=YD.alloc YA _
 have hX1:Blk 24 (w.alloc (.cells #[.int .i64 (N:Int),.slice p L.length c] 24)) w.heap.size [.int .i64 (N:Int),.slice p L.length c]:=heap_alloc_new w _
 have q0:=hX1.cell (j:=0) rfl
 have hN1:(N:Int)<1048576:=by omega
 have HCV:Hid (∀ W',Below w.heap.size w W'→∀ i,i<N→W'.cell? ⟨bv,ov+i,none⟩=some (.int .i64 (at' V i))):=by rw [lV] at hcv;exact hcv
 have HL:Hid _:=hl
 have HV:Hid _:=hV
 have HE:Hid _:=hE
 rw [lV]
 clear hcv hov hl hI hV hE lV
 have hs1:(w.alloc (.cells #[.int .i64 (N:Int),.slice p L.length c] 24)).heap.size=w.heap.size+1:=by simp
 have hiv:∀ (u:Nat) W,u<N→Calls Tryz.prog 126 #[.agg #[.int .i64 (N:Int),.slice p L.length c],.int .i64 (u:Int)] W fun r w'=>r = .returned (.bool true)∧Grew W w':=fun u W hu=>by
  have h:=Qb6 (N:Int) (u:Int) (.slice p L.length c) W ⟨_,_,_,rfl⟩
  rwa [vtx_iff.2 (by omega)] at h
 go_enter Tryz.func116,Tryz.ntmps116
 go_wp2
 generalize w.alloc (.cells #[.int .i64 (N:Int),.slice p L.length c] 24)=w1 at *
 have hmax:max (1048576:Int) (N:Int)=1048576:=by omega
 have hmin:min (N:Int) 1048576=(N:Int):=by omega
 rw [hmax,hmin]
 clear hmax hmin
 go_loopg [2,8] N (fun k vv wv wr=>∃ (u:Nat) (A:List Int),vv = .int .i64 u∧u<N∧A.length+k=N∧Hid (A++wayM L V k u=wayM L V N v)∧wr.ownsRow (w.heap.size+1) 3 1 wv A.length (A.map (Value.int .i64))∧Blk 24 wr w.heap.size [.int .i64 (N:Int),.slice p L.length c]∧Below w.heap.size w wr)
 case atStart=>exact⟨v,[],rfl,hv,by simp,(show Hid _ from by simp [Hid]),World.ownsRow_nil _ _ _ _,hX1,hb1⟩
 case round=>
  clear hX1 hb1 q0 hs1
  obtain⟨u,A,rfl,hu,hAk,HA,hO,hX,hb⟩:=hrel
  obtain⟨pa,ca,rfl⟩:=Qan hO
  have q0:=hX.cell (j:=0) rfl
  have q1:=hX.cell (j:=1) rfl
  have hiu:=hiv u wr hu
  have hul:(u:Int)<(N:Int):=by omega
  go_wp2_with fail
  refine hiu.mono ?_
  rintro e w2 ⟨rfl,hg2⟩
  clear hiu q0 q1
  have hX2:=hX.go hg2.below
  have hb2:=hb.trans (hg2.below.mono hb.size)
  have hO2:=Qaq hO hg2.below
  clear hX hb hO hg2
  have v0:=HCV.out w2 hb2 u hu
  by_cases hstop:gk=0∨at' V u = -1
  ·have hAE:A=wayM L V N v:=by
    rw [← HA.out]
    rcases hstop with h | h
    ·rw [h];simp [wayM]
    ·rw [Qbx h];simp
   have HAE:Hid _:=hAE
   have hrv:∃ Q:Ending→World→Prop,(Calls Tryz.prog 151 #[.slice pa A.length ca] w2 Q)∧∀ e w',Q e w'→e = .returned (.tuple #[])∧w'.ownsRow w.heap.size 3 1 (.slice pa A.length ca) A.length (A.reverse.map (Value.int .i64))∧Below w.heap.size w w':=by
    by_cases hA0:A.length=0
    ·rw [hA0]
     refine⟨_,Tryz.slices_Reverse_int_empty pa ca w2,?_⟩
     rintro e w' ⟨rfl,rfl⟩
     have:A=[]:=List.eq_nil_of_length_eq_zero hA0
     subst this
     exact⟨rfl,QaW hO2 (by omega),hb2⟩
    ·obtain⟨g,cap,e⟩:=QcP hO2 (by omega)
     simp only [Value.slice.injEq] at e
     obtain⟨rfl,_,rfl⟩:=e
     rcases hO2.2 with ⟨h0,_⟩ | ⟨g2,cap2,cur2,e2,hbase,hblk,h1,h2,h3,h4⟩
     ·cases h0
     ·simp only [Value.slice.injEq,Option.some.injEq,Addr.mk.injEq] at e2
      obtain⟨⟨rfl,_,_⟩,_,rfl⟩:=e2
      refine⟨_,Tryz.slices_Reverse_int g 0 ca A w2 (holds_of_blockI hblk (by simpa using h4)) (by omega),?_⟩
      rintro e w3 ⟨rfl,nn,hw3⟩
      have hw4:w3=Go.Sort.grow (Go.Sort.putRow (Value.int .i64) (Go.Sort.ahead w2 nn) g 0 A.reverse.toArray) #[]:=by
       rw [hw3,QlP]
      refine⟨rfl,?_,?_⟩
      ·rw [hw4]
       exact ownsRow_sortedI (ss:=A) (ts:=A.reverse) (by simp) (by omega) hblk h1 h2 h3
      ·have hg3:w2.grownBy w3 (some g):=by
        rw [hw4]
        exact grownBy_sortedI _
       exact hb2.grown hg3 hb2.size (fun q e=>by cases e;omega)
   obtain⟨QQ,hrv,hQQ⟩:=hrv
   have HQ:Hid _:=hQQ
   have HS:Hid _:=hstop
   clear hQQ hAE hstop
   by_cases hk0:gk=0
   ·have hd:((A.length:Int)==(N:Int))=true:=by simp;omega
    clear hAk HA hk0 HS
    go_wp2_with fail
    refine hrv.mono ?_
    intro e w3 hq3
    obtain⟨rfl,hO3,hb3⟩:=HQ.out e w3 hq3
    clear hrv
    go_wp2
    go_ret
    exact⟨_,rfl,by rw [← HAE.out];exact hO3,hb3⟩
   ·have hd:((A.length:Int)==(N:Int))=false:=by simp;omega
    rw [HS.out.resolve_left hk0] at v0
    clear hAk HA hk0 HS
    go_wp2_with fail
    refine hrv.mono ?_
    intro e w3 hq3
    obtain⟨rfl,hO3,hb3⟩:=HQ.out e w3 hq3
    clear hrv
    go_wp2
    go_ret
    exact⟨_,rfl,by rw [← HAE.out];exact hO3,hb3⟩
  ·obtain⟨k,HGK⟩:∃ k,Hid (gk=k+1):=⟨gk-1,show gk=gk-1+1 by omega⟩
   have hne:at' V u≠-1:=fun h=>hstop (.inr h)
   rcases HV.out u hu with h2 | ⟨i,e,h2,he,hev⟩
   ·exact absurd h2 hne
   ·have hd:((A.length:Int)==(N:Int))=false:=by have:=HGK.out;simp;omega
    have hstep:=Qcy (L:=L) (k:=k) hne
    rw [Qiy h2 he,h2] at hstep
    have HST:Hid _:=hstep
    have hil:=(YE he).1
    have hie:=(YE he).2
    have hen:Qcj L (i:Int) u=true:=ends_iff.2 ⟨i,rfl,e,he,hev⟩
    have hun:oth e u<N:=by
     have:=HE.out e (YK he)
     rcases Qe5 hev with ⟨a,b⟩ | ⟨a,b⟩ <;> omega
    have hot:=fun W=>QgC e u W
    rw [h2] at v0
    have hni:¬ (i:Int) = -1:=by omega
    obtain⟨bl,ol,rfl,hbl,hcl,hcel⟩:=Edges.eg HL.out hil
    have HCE:Hid (∀ W',Below w.heap.size w W'→W'.cell? ⟨bl,ol+i*3,none⟩=some (.int .i64 (e.1:Int))∧W'.cell? ⟨bl,ol+i*3+1,none⟩=some (.int .i64 (e.2.1:Int))∧W'.cell? ⟨bl,ol+i*3+2,none⟩=some (.int .i64 (e.2.2:Int))):=fun W' hW=>by
     have:=hcel W' hW i hil
     rwa [hie] at this
    have hea:∀ W,Below w.heap.size w W→Calls Tryz.prog 149 #[.agg #[.int .i64 (N:Int),.slice (some ⟨bl,ol,none⟩) L.length c],.int .i64 (i:Int),.int .i64 (u:Int)] W fun r w'=>r = .returned (.bool true)∧Grew W w':=fun W h=>by
     have:=QjV (N:Int) L (i:Int) u _ W ((Edges.below HL.out h).mono h.size)
     rwa [hen] at this
    have hil':(i:Int)<(L.length:Int):=by omega
    have HVI:Hid _:=h2
    clear hcel he hie hev hne h2 hstop hstep
    generalize oth e u=u' at *
    have hAL:A.length≤40:=by omega
    rw [HGK.out] at HA
    have hNu:decide (N≤u)=false:=by simp;omega
    have hib:((i:Int) == -1)=false:=by simp
    have HAK:Hid _:=hAk
    clear hAk
    go_wp2
    have hxl:=hX2.lt
    have q0g:=cell_grown (a:=⟨w.heap.size,0,none⟩) hxl (hX2.cell (j:=0) rfl)
    have q1g:=cell_grown (a:=⟨w.heap.size,1,none⟩) hxl (hX2.cell (j:=1) rfl)
    have v0g:=cell_grown (a:=⟨bv,ov+u,none⟩) (by show bv<_;omega) v0
    have hea1:∀ n os,Calls Tryz.prog 149 #[.agg #[.int .i64 (N:Int),.slice (some ⟨bl,ol,none⟩) L.length c],.int .i64 (i:Int),.int .i64 (u:Int)] (Go.Sort.grow (w2.drewN n) os) fun r w'=>r = .returned (.bool true)∧Grew (Go.Sort.grow (w2.drewN n) os) w':=fun n os=>hea _ (hb2.trans ((Grew.below ⟨n,os,rfl⟩).mono hb2.size))
    go_quiet_grown (first | (go_at_call 149;refine Calls.grown_of (hea1 _ _)))
    have hgr:Grew w2 (Go.Sort.grow (w2.drewN nq) osq):=⟨nq,osq,rfl⟩
    generalize Go.Sort.grow (w2.drewN nq) osq=w3 at *
    have hX3:=hX2.go hgr.below
    have hb3:=hb2.trans (hgr.below.mono hb2.size)
    have hO3:=Qaq hO2 hgr.below
    clear q0g q1g v0g hea1 hea hX2 hb2 hO2 hgr v0 hxl
    have v3:=HCV.out w3 hb3 u hu
    rw [HVI.out] at v3
    have hOA:=World.ownsRow.alloc hO3 (.cells #[.int .i64 (i:Int)] 3)
    have hnews:=Qbi w3 (.int .i64 (i:Int)) 3
    have hmx:A.length+1≤maxLen:=by unfold maxLen;omega
    have hby:(A.length+1)*8≤140737488355328:=by omega
    have hxl:=hX3.lt
    have hbs:w.heap.size+1≤(w3.alloc (.cells #[.int .i64 (i:Int)] 3)).heap.size:=by simp only [World.size_alloc];omega
    have hlow:∀ q,(Value.slice pa A.length ca).ownBlock=some q→w.heap.size+1≤q:=fun q hq=>(hO3.lt q hq).1
    have hone:∀ z∈[Value.int .i64 (i:Int)],z.oneCell'=true:=YO
    go_wp2_with (at_builtin;refine wpList_append_own_at _ rfl _ _ 27 rfl (w.heap.size+1) 3 i0 (.int .i64 0) 1 8 Tryz.underlying27 hi hz0 hz1 hz2 rfl (by decide) (.slice pa A.length ca) _ _ rfl hOA ⟨w3.heap.size,0,none⟩ 1 1 [.int .i64 (i:Int)] rfl rfl hnews hone hmx hby hbs ?_)
    intro v7 w7 hown7 hg7 hnil7 hat7
    obtain⟨a7,c7,rfl⟩:=Qan hown7
    have hbA:Below w.heap.size w (w3.alloc (.cells #[.int .i64 (i:Int)] 3)):=hb3.trans (((Below.refl w3.heap.size w3).alloc YA _).mono hb3.size)
    have hb7:Below w.heap.size w w7:=hbA.grown hg7 hbA.size (fun q hq=>by have:=hlow q hq;omega)
    have hXA:Blk 24 (w3.alloc (.cells #[.int .i64 (i:Int)] 3)) w.heap.size [.int .i64 (N:Int),.slice (some ⟨bl,ol,none⟩) L.length c]:=hX3.go ((Below.refl w3.heap.size w3).alloc YA _)
    have hX7:Blk 24 w7 w.heap.size [.int .i64 (N:Int),.slice (some ⟨bl,ol,none⟩) L.length c]:=(hg7.block w.heap.size hXA.lt (fun e=>by have:=hlow _ e.symm;omega)).trans hXA
    clear hg7 hnil7 hat7 hOA hnews hone hbs hXA hbA hX3 hb3 hO3 v3 hxl hlow hmx hby
    go_wp2
    have hs7:=hb7.size
    have hxl:=hX7.lt
    obtain⟨g0,g1,g2⟩:=HCE.out w7 hb7
    have v7:=HCV.out w7 hb7 u hu
    rw [HVI.out] at v7
    have q1g:=cell_grown (a:=⟨w.heap.size,1,none⟩) hxl (hX7.cell (j:=1) rfl)
    replace v7:=cell_grown (a:=⟨bv,ov+u,none⟩) (by show bv<_;omega) v7
    replace g0:=cell_grown (a:=⟨bl,ol+i*3,none⟩) (by show bl<_;omega) g0
    replace g1:=cell_grown (a:=⟨bl,ol+i*3+1,none⟩) (by show bl<_;omega) g1
    replace g2:=cell_grown (a:=⟨bl,ol+i*3+2,none⟩) (by show bl<_;omega) g2
    go_quiet_grown (first | (go_at_call 150;refine Calls.grown_of (hot _)))
    have hgr:Grew w7 (Go.Sort.grow (w7.drewN nq) osq):=⟨nq,osq,rfl⟩
    generalize Go.Sort.grow (w7.drewN nq) osq=w8 at *
    go_wp2
    go_roundg k
    case measure=>have:=HGK.out;omega
    case rel=>
     refine⟨u',A++[(i:Int)],rfl,hun,by have:=HAK.out;have:=HGK.out;simp;omega,?_,?_,hX7.go hgr.below,hb7.trans (hgr.below.mono hs7)⟩
     ·unfold Hid
      have:=HA.out
      rw [HST.out] at this
      rw [← this];simp
     ·rw [YI,List.map_append]
      exact Qaq hown7 hgr.below
end Go.Proofs.YtalflecmadacaaaGreat
