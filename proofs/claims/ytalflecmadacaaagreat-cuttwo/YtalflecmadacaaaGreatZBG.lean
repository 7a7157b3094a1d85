import Derived.OwnWalk
import Derived.BigQuiet
import Derived.Test.YtalflecmadacaaaGreatZBC
import Derived.Test.YtalflecmadacaaaGreatZBF
import Derived.Test.YtalflecmadacaaaGreatZAA
import Derived.Test.YtalflecmadacaaaGreatZAS
import Derived.Test.YtalflecmadacaaaGreatZAB
import Derived.Test.YtalflecmadacaaaGreatZAH
set_option maxRecDepth 100000
set_option maxHeartbeats 8000000
namespace Go.Proofs.YtalflecmadacaaaGreat
open Go Go.Proofs Go.RowKit
def acrT (l:List Ed)(S:List Bool):List Bool:=l.map fun e=>bAt S e.1.toNat != bAt S e.2.1.toNat
theorem Qpj {l:List Ed}{S:List Bool}{j:Nat}(h:j<l.length):bAt (acrT l S) j=(bAt S l[j].1.toNat != bAt S l[j].2.1.toNat):=by simp [acrT,bAt,h]
def okC (n:Int)(l:List Ed)(S:List Bool):Bool:=decide (rightK n l=0∧(S.length:Int)=n)
def acrK (n:Int)(l:List Ed)(S:List Bool):Int:=if okC n l S=true then 0 else 1
def acrV (n:Int)(l:List Ed)(S:List Bool):List Int:=if okC n l S=true then trueK (acrT l S) l.length else []
theorem Qig {n:Int}{l:List Ed}{S:List Bool}(h:rightK n l=0)(h2:(S.length:Int)=n):acrK n l S=0∧acrV n l S=trueK (acrT l S) l.length:=by
 have:okC n l S=true:=by simp [okC,h,h2]
 exact⟨if_pos this,if_pos this⟩
theorem Qmk {n:Int}{l:List Ed}{S:List Bool}(h:¬ (rightK n l=0∧(S.length:Int)=n)):acrK n l S=1∧acrV n l S=[]:=by
 have:¬ okC n l S=true:=by simpa [okC] using h
 exact⟨if_neg this,if_neg this⟩
theorem Qj7 (n:Int)(l:List Ed)(S:List Bool)(sv bv:Value)(w:World)(hl:Edges w.heap.size w sv l)(hS:Bools w.heap.size w bv S):
  Calls Tryz.prog 10 #[.agg #[.int .i64 n,sv],bv] w fun r w'=>∃ lv,r = .returned (.tuple #[lv,.int .i64 (acrK n l S)])∧Ints w'.heap.size w' lv (acrV n l S)∧Below w.heap.size w w':=by
 have hmix:=mixed
 obtain⟨p,c,rfl⟩:=hl.len
 obtain⟨ps,cs,rfl⟩:=hS.len
 obtain⟨w1,hw1⟩:∃ W,(w.alloc (.cells #[.int .i64 n,.slice p l.length c] 24))=W:=⟨_,rfl⟩
 have hb1:Below w.heap.size w w1:=by rw [← hw1];exact YD.alloc YA _
 have hX1:Blk 24 w1 w.heap.size [.int .i64 n,.slice p l.length c]:=by rw [← hw1];exact heap_alloc_new w _
 have hrc:=Qbg n l (.slice p l.length c) w1 (hl.go hb1)
 have x0:=hX1.cell (j:=0) rfl
 have x1:=hX1.cell (j:=1) rfl
 have HX1:Hid (Blk 24 w1 w.heap.size [.int .i64 n,.slice p l.length c]):=hX1
 have HB1:Hid (Below w.heap.size w w1):=hb1
 have HL:Hid (Edges w.heap.size w (.slice p l.length c) l):=hl
 have HS:Hid (Bools w.heap.size w (.slice ps S.length cs) S):=hS
 clear hX1 hb1 hl hS
 go_enter Tryz.func10,Tryz.ntmps10
 go_wp2_with fail
 refine hrc.mono ?_
 rintro e w2 ⟨rfl,hg2⟩
 clear hrc hw1 x0 x1
 have hX2:=HX1.out.go hg2.below
 have x0:=hX2.cell (j:=0) rfl
 have x1:=hX2.cell (j:=1) rfl
 have HX2:Hid (Blk 24 w2 w.heap.size [.int .i64 n,.slice p l.length c]):=hX2
 have HB2:Hid (Below w.heap.size w w2):=HB1.out.trans (hg2.below.mono HB1.out.size)
 have hlx:=hX2.lt
 clear hX2 hg2 HX1 HB1
 by_cases hk:rightK n l=0
 ·by_cases hn:(S.length:Int)=n
  ·have HE:Hid (acrK n l S=0∧acrV n l S=trueK (acrT l S) l.length):=Qig hk hn
   have HR:Hid (RightG n l):=right_iff.1 hk
   have hm1:=HR.out.m1
   rw [hk]
   subst hn
   clear hk
   go_wp2
   go_loopw [6,22] (fun lv iv wr=>∃ j:Nat,j≤l.length∧iv = .int .i64 (j:Int)∧wr.ownsRow (w.heap.size+1) 3 1 lv (trueK (acrT l S) j).length ((trueK (acrT l S) j).map (Value.int .i64))∧Hid (Blk 24 wr w.heap.size [.int .i64 (S.length:Int),.slice p l.length c])∧Hid (Below w.heap.size w wr)) (fun _ i _=>l.length-(intOf i).toNat)
   case atStart=>exact⟨0,YN,rfl,World.ownsRow_nil _ _ _ _,HX2,HB2⟩
   case round=>
    clear HX2 HB2 x0 x1
    obtain⟨j,hj,rfl,hO,HX,HB⟩:=hrel
    obtain⟨pp,cc,rfl⟩:=Qaf hO
    have x1:=HX.out.cell (j:=1) rfl
    by_cases hlt:j<l.length
    ·have hjl:(j:Int)<(l.length:Int):=by omega
     obtain⟨b,off,rfl,hbb,hcap,hc,-⟩:=HL.out.open hlt
     obtain⟨e0,e1,e2⟩:=hc _ HB.out j hlt
     have hok:=(HR.out.each l[j] (YG hlt)).1
     unfold okE at hok
     have hat:=Qpj (S:=S) hlt
     obtain⟨U,hU⟩:∃ U:Nat,l[j].1=(U:Int):=⟨l[j].1.toNat,by omega⟩
     obtain⟨V,hV⟩:∃ V:Nat,l[j].2.1=(V:Int):=⟨l[j].2.1.toNat,by omega⟩
     rw [hU,hV,YM,YM] at hat
     rw [hU] at e0
     rw [hV] at e1
     have hUN:U<S.length:=by omega
     have hVN:V<S.length:=by omega
     obtain⟨b2,off2,rfl,hbb2,hcap2,hc2⟩:=Vals.open (enc:=Value.bool) HS.out hUN
     have d0:=hc2 wr HB.out U hUN
     have d1:=hc2 wr HB.out V hVN
     have hbU:bAt S U=S[U]:=by simp [bAt,hUN]
     have hbV:bAt S V=S[V]:=by simp [bAt,hVN]
     rw [← hbU] at d0
     rw [← hbV] at d1
     have hUl:(U:Int)<(S.length:Int):=by omega
     have hVl:(V:Int)<(S.length:Int):=by omega
     have hlen:=QbY (acrT l S) j
     have hst:Hid _:=Qde (acrT l S) j
     have HAT:Hid _:=hat
     have HLT:Hid (j<l.length):=hlt
     have hxl:=HX.out.lt
     have HO:Hid _:=hO
     generalize l[j].2.2=wt at e2
     clear hc hc2 hok hU hV hlt hbb hcap hbb2 hcap2 hbU hbV hat hO
     generalize bAt S U=bU at *
     generalize bAt S V=bV at *
     have HEf:bAt (acrT l S) j=false→Hid (trueK (acrT l S) (j+1)=trueK (acrT l S) j):=fun h=>by unfold Hid;rw [hst.out,h];simp
     have HEt:bAt (acrT l S) j=true→Hid (trueK (acrT l S) (j+1)=trueK (acrT l S) j++[(j:Int)]):=fun h=>by unfold Hid;rw [hst.out,h];simp
     clear hst
     cases bU with
     | false=>
      cases bV with
      | false=>
       have HE2:=HEf HAT.out
       clear HEf HEt HAT
       obtain⟨w4,hw4⟩:∃ W,wr.alloc (.cells #[.int .i64 (U:Int),.int .i64 (V:Int),.int .i64 wt] 50)=W:=⟨_,rfl⟩
       have hb4:Below wr.heap.size wr w4:=by rw [← hw4];exact YD.alloc YA _
       have hY4:Blk 50 w4 wr.heap.size [.int .i64 (U:Int),.int .i64 (V:Int),.int .i64 wt]:=by rw [← hw4];exact heap_alloc_new wr _
       have y0:=hY4.cell (j:=0) rfl
       have y1:=hY4.cell (j:=1) rfl
       have d0:=Qad hb4 d0
       have d1:=Qad hb4 d1
       have HW4:Hid (wr.alloc (.cells #[.int .i64 (U:Int),.int .i64 (V:Int),.int .i64 wt] 50)=w4):=hw4
       have HX4:Hid (Blk 24 w4 w.heap.size [.int .i64 (S.length:Int),.slice (some ⟨b,off,none⟩) l.length c]):=HX.out.go hb4
       have HB4:Hid (Below w.heap.size w w4):=HB.out.trans (hb4.mono HB.out.size)
       have HO4:Hid (w4.ownsRow (w.heap.size+1) 3 1 (.slice pp (trueK (acrT l S) j).length cc) (trueK (acrT l S) j).length ((trueK (acrT l S) j).map (Value.int .i64))):=QaY HO.out hb4
       have hz4:w.heap.size+1≤w4.heap.size:=Nat.le_trans hxl hb4.size
       clear hw4 hb4 hY4 HX HB HO
       go_wp2
       rw [HW4.out]
       clear HW4
       go_quiet (fail)
       have hbq:Below w4.heap.size w4 (w4.drewN nq):=Qaa YD nq
       have HX5:Hid (Blk 24 (w4.drewN nq) w.heap.size [.int .i64 (S.length:Int),.slice (some ⟨b,off,none⟩) l.length c]):=HX4.out
       have HB5:Hid (Below w.heap.size w (w4.drewN nq)):=Qaa HB4.out nq
       have HO5:Hid ((w4.drewN nq).ownsRow (w.heap.size+1) 3 1 (.slice pp (trueK (acrT l S) j).length cc) (trueK (acrT l S) j).length ((trueK (acrT l S) j).map (Value.int .i64))):=QaY HO4.out hbq
       have hz5:w.heap.size+1≤(w4.drewN nq).heap.size:=hz4
       obtain⟨w5,hw5⟩:∃ W,w4.drewN nq=W:=⟨_,rfl⟩
       rw [hw5] at HX5 HB5 HO5 hz5 ⊢
       clear hw5 hbq HX4 HB4 HO4 hz4
       clear e0 e1 e2 d0 d1 y0 y1
       go_wp2
       refine⟨⟨j+1,HLT.out,by go_num,?_,HX5,HB5⟩,by have:=HLT.out;simp [intOf];omega⟩
       rw [HE2.out]
       exact HO5.out
      | true=>
       have HE2:=HEt HAT.out
       clear HEf HEt HAT
       obtain⟨w4,hw4⟩:∃ W,wr.alloc (.cells #[.int .i64 (U:Int),.int .i64 (V:Int),.int .i64 wt] 50)=W:=⟨_,rfl⟩
       have hb4:Below wr.heap.size wr w4:=by rw [← hw4];exact YD.alloc YA _
       have hY4:Blk 50 w4 wr.heap.size [.int .i64 (U:Int),.int .i64 (V:Int),.int .i64 wt]:=by rw [← hw4];exact heap_alloc_new wr _
       have y0:=hY4.cell (j:=0) rfl
       have y1:=hY4.cell (j:=1) rfl
       have d0:=Qad hb4 d0
       have d1:=Qad hb4 d1
       have HW4:Hid (wr.alloc (.cells #[.int .i64 (U:Int),.int .i64 (V:Int),.int .i64 wt] 50)=w4):=hw4
       have HX4:Hid (Blk 24 w4 w.heap.size [.int .i64 (S.length:Int),.slice (some ⟨b,off,none⟩) l.length c]):=HX.out.go hb4
       have HB4:Hid (Below w.heap.size w w4):=HB.out.trans (hb4.mono HB.out.size)
       have HO4:Hid (w4.ownsRow (w.heap.size+1) 3 1 (.slice pp (trueK (acrT l S) j).length cc) (trueK (acrT l S) j).length ((trueK (acrT l S) j).map (Value.int .i64))):=QaY HO.out hb4
       have hz4:w.heap.size+1≤w4.heap.size:=Nat.le_trans hxl hb4.size
       clear hw4 hb4 hY4 HX HB HO
       go_wp2
       rw [HW4.out]
       clear HW4
       go_quiet (fail)
       have hbq:Below w4.heap.size w4 (w4.drewN nq):=Qaa YD nq
       have HX5:Hid (Blk 24 (w4.drewN nq) w.heap.size [.int .i64 (S.length:Int),.slice (some ⟨b,off,none⟩) l.length c]):=HX4.out
       have HB5:Hid (Below w.heap.size w (w4.drewN nq)):=Qaa HB4.out nq
       have HO5:Hid ((w4.drewN nq).ownsRow (w.heap.size+1) 3 1 (.slice pp (trueK (acrT l S) j).length cc) (trueK (acrT l S) j).length ((trueK (acrT l S) j).map (Value.int .i64))):=QaY HO4.out hbq
       have hz5:w.heap.size+1≤(w4.drewN nq).heap.size:=hz4
       obtain⟨w5,hw5⟩:∃ W,w4.drewN nq=W:=⟨_,rfl⟩
       rw [hw5] at HX5 HB5 HO5 hz5 ⊢
       clear hw5 hbq HX4 HB4 HO4 hz4
       clear e0 e1 e2 d0 d1 y0 y1
       obtain⟨i2,hi,hz0,hz1,hz2⟩:=info_parts QgP
       have hbA:Below w5.heap.size w5 (w5.alloc (.cells #[.int .i64 (j:Int)] 3)):=YD.alloc YA _
       have hOA:=World.ownsRow.alloc HO5.out (.cells #[.int .i64 (j:Int)] 3)
       have hnews:=QcS w5 (.int .i64 (j:Int)) 3
       have hone:∀ y∈[Value.int .i64 (j:Int)],y.oneCell'=true:=YO
       have hmx:(trueK (acrT l S) j).length+1≤maxLen:=by unfold maxLen;omega
       have hby:((trueK (acrT l S) j).length+1)*8≤140737488355328:=by omega
       have hbs:w.heap.size+1≤(w5.alloc (.cells #[.int .i64 (j:Int)] 3)).heap.size:=Nat.le_trans hz5 hbA.size
       have hlow:∀ q,(Value.slice pp (trueK (acrT l S) j).length cc).ownBlock=some q→w.heap.size+1≤q:=fun q hq=>(HO5.out.lt q hq).1
       go_wp2_with (at_builtin;refine wpList_append_own_at _ rfl _ _ 27 rfl (w.heap.size+1) 3 i2 (.int .i64 0) 1 8 Tryz.underlying27 hi hz0 hz1 hz2 rfl (by decide) (.slice pp (trueK (acrT l S) j).length cc) _ _ rfl hOA ⟨w5.heap.size,0,none⟩ 1 1 [.int .i64 (j:Int)] rfl rfl hnews hone hmx hby hbs ?_)
       intro v9 w9 hown9 hg9 hnil9 hat9
       have hb9:Below (w.heap.size+1) w5 w9:=(hbA.mono hz5).grown hg9 hbs (fun q hq=>hlow q hq)
       have HX9:Hid (Blk 24 w9 w.heap.size [.int .i64 (S.length:Int),.slice (some ⟨b,off,none⟩) l.length c]):=(hb9.block w.heap.size (by omega)).trans HX5.out
       have HB9:Hid (Below w.heap.size w w9):=HB5.out.trans (hb9.mono (by omega))
       have HO9:Hid (w9.ownsRow (w.heap.size+1) 3 1 v9 ((trueK (acrT l S) j).length+1) ((trueK (acrT l S) j).map (Value.int .i64)++[.int .i64 (j:Int)])):=hown9
       obtain⟨a9,c9,rfl⟩:=Qaf hown9
       clear hbA hOA hnews hone hmx hby hbs hlow hown9 hg9 hnil9 hat9 hb9 hi hz0 hz1 hz2 HX5 HO5 HB5
       go_wp2
       refine⟨⟨j+1,HLT.out,by go_num,?_,HX9,HB9⟩,by have:=HLT.out;simp [intOf];omega⟩
       rw [HE2.out,YI,List.map_append]
       exact HO9.out
     | true=>
      cases bV with
      | false=>
       have HE2:=HEt HAT.out
       clear HEf HEt HAT
       obtain⟨w4,hw4⟩:∃ W,wr.alloc (.cells #[.int .i64 (U:Int),.int .i64 (V:Int),.int .i64 wt] 50)=W:=⟨_,rfl⟩
       have hb4:Below wr.heap.size wr w4:=by rw [← hw4];exact YD.alloc YA _
       have hY4:Blk 50 w4 wr.heap.size [.int .i64 (U:Int),.int .i64 (V:Int),.int .i64 wt]:=by rw [← hw4];exact heap_alloc_new wr _
       have y0:=hY4.cell (j:=0) rfl
       have y1:=hY4.cell (j:=1) rfl
       have d0:=Qad hb4 d0
       have d1:=Qad hb4 d1
       have HW4:Hid (wr.alloc (.cells #[.int .i64 (U:Int),.int .i64 (V:Int),.int .i64 wt] 50)=w4):=hw4
       have HX4:Hid (Blk 24 w4 w.heap.size [.int .i64 (S.length:Int),.slice (some ⟨b,off,none⟩) l.length c]):=HX.out.go hb4
       have HB4:Hid (Below w.heap.size w w4):=HB.out.trans (hb4.mono HB.out.size)
       have HO4:Hid (w4.ownsRow (w.heap.size+1) 3 1 (.slice pp (trueK (acrT l S) j).length cc) (trueK (acrT l S) j).length ((trueK (acrT l S) j).map (Value.int .i64))):=QaY HO.out hb4
       have hz4:w.heap.size+1≤w4.heap.size:=Nat.le_trans hxl hb4.size
       clear hw4 hb4 hY4 HX HB HO
       go_wp2
       rw [HW4.out]
       clear HW4
       go_quiet (fail)
       have hbq:Below w4.heap.size w4 (w4.drewN nq):=Qaa YD nq
       have HX5:Hid (Blk 24 (w4.drewN nq) w.heap.size [.int .i64 (S.length:Int),.slice (some ⟨b,off,none⟩) l.length c]):=HX4.out
       have HB5:Hid (Below w.heap.size w (w4.drewN nq)):=Qaa HB4.out nq
       have HO5:Hid ((w4.drewN nq).ownsRow (w.heap.size+1) 3 1 (.slice pp (trueK (acrT l S) j).length cc) (trueK (acrT l S) j).length ((trueK (acrT l S) j).map (Value.int .i64))):=QaY HO4.out hbq
       have hz5:w.heap.size+1≤(w4.drewN nq).heap.size:=hz4
       obtain⟨w5,hw5⟩:∃ W,w4.drewN nq=W:=⟨_,rfl⟩
       rw [hw5] at HX5 HB5 HO5 hz5 ⊢
       clear hw5 hbq HX4 HB4 HO4 hz4
       clear e0 e1 e2 d0 d1 y0 y1
       obtain⟨i2,hi,hz0,hz1,hz2⟩:=info_parts QgP
       have hbA:Below w5.heap.size w5 (w5.alloc (.cells #[.int .i64 (j:Int)] 3)):=YD.alloc YA _
       have hOA:=World.ownsRow.alloc HO5.out (.cells #[.int .i64 (j:Int)] 3)
       have hnews:=QcS w5 (.int .i64 (j:Int)) 3
       have hone:∀ y∈[Value.int .i64 (j:Int)],y.oneCell'=true:=YO
       have hmx:(trueK (acrT l S) j).length+1≤maxLen:=by unfold maxLen;omega
       have hby:((trueK (acrT l S) j).length+1)*8≤140737488355328:=by omega
       have hbs:w.heap.size+1≤(w5.alloc (.cells #[.int .i64 (j:Int)] 3)).heap.size:=Nat.le_trans hz5 hbA.size
       have hlow:∀ q,(Value.slice pp (trueK (acrT l S) j).length cc).ownBlock=some q→w.heap.size+1≤q:=fun q hq=>(HO5.out.lt q hq).1
       go_wp2_with (at_builtin;refine wpList_append_own_at _ rfl _ _ 27 rfl (w.heap.size+1) 3 i2 (.int .i64 0) 1 8 Tryz.underlying27 hi hz0 hz1 hz2 rfl (by decide) (.slice pp (trueK (acrT l S) j).length cc) _ _ rfl hOA ⟨w5.heap.size,0,none⟩ 1 1 [.int .i64 (j:Int)] rfl rfl hnews hone hmx hby hbs ?_)
       intro v9 w9 hown9 hg9 hnil9 hat9
       have hb9:Below (w.heap.size+1) w5 w9:=(hbA.mono hz5).grown hg9 hbs (fun q hq=>hlow q hq)
       have HX9:Hid (Blk 24 w9 w.heap.size [.int .i64 (S.length:Int),.slice (some ⟨b,off,none⟩) l.length c]):=(hb9.block w.heap.size (by omega)).trans HX5.out
       have HB9:Hid (Below w.heap.size w w9):=HB5.out.trans (hb9.mono (by omega))
       have HO9:Hid (w9.ownsRow (w.heap.size+1) 3 1 v9 ((trueK (acrT l S) j).length+1) ((trueK (acrT l S) j).map (Value.int .i64)++[.int .i64 (j:Int)])):=hown9
       obtain⟨a9,c9,rfl⟩:=Qaf hown9
       clear hbA hOA hnews hone hmx hby hbs hlow hown9 hg9 hnil9 hat9 hb9 hi hz0 hz1 hz2 HX5 HO5 HB5
       go_wp2
       refine⟨⟨j+1,HLT.out,by go_num,?_,HX9,HB9⟩,by have:=HLT.out;simp [intOf];omega⟩
       rw [HE2.out,YI,List.map_append]
       exact HO9.out
      | true=>
       have HE2:=HEf HAT.out
       clear HEf HEt HAT
       obtain⟨w4,hw4⟩:∃ W,wr.alloc (.cells #[.int .i64 (U:Int),.int .i64 (V:Int),.int .i64 wt] 50)=W:=⟨_,rfl⟩
       have hb4:Below wr.heap.size wr w4:=by rw [← hw4];exact YD.alloc YA _
       have hY4:Blk 50 w4 wr.heap.size [.int .i64 (U:Int),.int .i64 (V:Int),.int .i64 wt]:=by rw [← hw4];exact heap_alloc_new wr _
       have y0:=hY4.cell (j:=0) rfl
       have y1:=hY4.cell (j:=1) rfl
       have d0:=Qad hb4 d0
       have d1:=Qad hb4 d1
       have HW4:Hid (wr.alloc (.cells #[.int .i64 (U:Int),.int .i64 (V:Int),.int .i64 wt] 50)=w4):=hw4
       have HX4:Hid (Blk 24 w4 w.heap.size [.int .i64 (S.length:Int),.slice (some ⟨b,off,none⟩) l.length c]):=HX.out.go hb4
       have HB4:Hid (Below w.heap.size w w4):=HB.out.trans (hb4.mono HB.out.size)
       have HO4:Hid (w4.ownsRow (w.heap.size+1) 3 1 (.slice pp (trueK (acrT l S) j).length cc) (trueK (acrT l S) j).length ((trueK (acrT l S) j).map (Value.int .i64))):=QaY HO.out hb4
       have hz4:w.heap.size+1≤w4.heap.size:=Nat.le_trans hxl hb4.size
       clear hw4 hb4 hY4 HX HB HO
       go_wp2
       rw [HW4.out]
       clear HW4
       go_quiet (fail)
       have hbq:Below w4.heap.size w4 (w4.drewN nq):=Qaa YD nq
       have HX5:Hid (Blk 24 (w4.drewN nq) w.heap.size [.int .i64 (S.length:Int),.slice (some ⟨b,off,none⟩) l.length c]):=HX4.out
       have HB5:Hid (Below w.heap.size w (w4.drewN nq)):=Qaa HB4.out nq
       have HO5:Hid ((w4.drewN nq).ownsRow (w.heap.size+1) 3 1 (.slice pp (trueK (acrT l S) j).length cc) (trueK (acrT l S) j).length ((trueK (acrT l S) j).map (Value.int .i64))):=QaY HO4.out hbq
       have hz5:w.heap.size+1≤(w4.drewN nq).heap.size:=hz4
       obtain⟨w5,hw5⟩:∃ W,w4.drewN nq=W:=⟨_,rfl⟩
       rw [hw5] at HX5 HB5 HO5 hz5 ⊢
       clear hw5 hbq HX4 HB4 HO4 hz4
       clear e0 e1 e2 d0 d1 y0 y1
       go_wp2
       refine⟨⟨j+1,HLT.out,by go_num,?_,HX5,HB5⟩,by have:=HLT.out;simp [intOf];omega⟩
       rw [HE2.out]
       exact HO5.out
    ·obtain rfl:j=l.length:=by omega
     have HI:=QbE hO
     have HIh:Hid _:=HI
     clear HI hO
     go_wp2
     refine bodyPost_ret (results_tmp2 rfl _ _ _) rfl ?_
     exact⟨_,by rw [HE.out.1];rfl,by rw [HE.out.2];exact HIh.out,HB.out⟩
  ·have HE:Hid (acrK n l S=1∧acrV n l S=[]):=Qmk (fun h=>hn h.2)
   have hnb:((S.length:Int)==n)=false:=by simpa using hn
   rw [hk]
   clear hk
   go_wp2
   refine bodyPost_ret (results_tmp2 rfl _ _ _) rfl ?_
   exact⟨_,by rw [HE.out.1];rfl,by rw [HE.out.2];exact Vals.nil _ _ _ _,HB2.out⟩
 ·have HE:Hid (acrK n l S=1∧acrV n l S=[]):=Qmk (fun h=>hk h.1)
  have hkb:(rightK n l==0)=false:=by simpa using hk
  generalize rightK n l=k at *
  go_wp2
  refine bodyPost_ret (results_tmp2 rfl _ _ _) rfl ?_
  exact⟨_,by rw [HE.out.1];rfl,by rw [HE.out.2];exact Vals.nil _ _ _ _,HB2.out⟩
def wC (n:Int)(l:List Ed)(S:List Bool):Int:=if acrK n l S=0 then wV l (acrV n l S) else 0
def kC (n:Int)(l:List Ed)(S:List Bool):Int:=if acrK n l S=0 then wK l (acrV n l S) else 1
theorem QdW (n:Int)(l:List Ed)(S:List Bool)(sv bv:Value)(w:World)(hl:Edges w.heap.size w sv l)(hS:Bools w.heap.size w bv S):
  Calls Tryz.prog 12 #[.agg #[.int .i64 n,sv],bv] w fun r w'=>r = .returned (.tuple #[.int .i64 (wC n l S),.int .i64 (kC n l S)])∧Below w.heap.size w w':=by
 have hmix:=mixed
 obtain⟨p,c,rfl⟩:=hl.len
 obtain⟨ps,cs,rfl⟩:=hS.len
 obtain⟨w1,hw1⟩:∃ W,(w.alloc (.cells #[.int .i64 n,.slice p l.length c] 24))=W:=⟨_,rfl⟩
 have hb1:Below w.heap.size w w1:=by rw [← hw1];exact YD.alloc YA _
 have hX1:Blk 24 w1 w.heap.size [.int .i64 n,.slice p l.length c]:=by rw [← hw1];exact heap_alloc_new w _
 have hac:=Qj7 n l S (.slice p l.length c) (.slice ps S.length cs) w1 (hl.go hb1) ((hS.below hb1).mono hb1.size)
 have x0:=hX1.cell (j:=0) rfl
 have x1:=hX1.cell (j:=1) rfl
 have HX1:Hid (Blk 24 w1 w.heap.size [.int .i64 n,.slice p l.length c]):=hX1
 have HB1:Hid (Below w.heap.size w w1):=hb1
 have HL:Hid (Edges w.heap.size w (.slice p l.length c) l):=hl
 clear hX1 hb1 hl hS
 go_enter Tryz.func12,Tryz.ntmps12
 go_wp2_with fail
 refine hac.mono ?_
 rintro e w2 ⟨lv,rfl,hA,hb2⟩
 clear hac hw1 x0 x1
 have hX2:=HX1.out.go hb2
 have x0:=hX2.cell (j:=0) rfl
 have x1:=hX2.cell (j:=1) rfl
 have HB2:Hid (Below w.heap.size w w2):=HB1.out.trans (hb2.mono HB1.out.size)
 obtain⟨pa,ca,rfl⟩:=hA.len
 clear hX2 hb2 HX1 HB1
 by_cases hk:rightK n l=0∧(S.length:Int)=n
 ·have HE:Hid (acrK n l S=0):=(Qig hk.1 hk.2).1
  have hR:=right_iff.1 hk.1
  have hm1:=hR.m1
  have HW:Hid (wC n l S=wV l (acrV n l S)∧kC n l S=wK l (acrV n l S)):=by
   show _∧_
   unfold wC kC
   rw [HE.out,if_pos rfl,if_pos rfl]
   exact⟨rfl,rfl⟩
  have hal:(acrV n l S).length≤4194304:=by
   rw [(Qig hk.1 hk.2).2]
   have:=QbY (acrT l S) l.length
   omega
  have hwe:∀ W,Below w.heap.size w W→Ints W.heap.size W (.slice pa (acrV n l S).length ca) (acrV n l S)→Calls Tryz.prog 27 #[.agg #[.int .i64 n,.slice p l.length c],.slice pa (acrV n l S).length ca] W fun r w'=>r = .returned (.tuple #[.int .i64 (wV l (acrV n l S)),.int .i64 (wK l (acrV n l S))])∧Below W.heap.size W w':=fun W hW hA=>by
   have h:=Qi2 n l (acrV n l S) (by omega) (.slice p l.length c) _ W (HL.out.go hW) hA
   have e1:wgtV n l (acrV n l S)=wV l (acrV n l S):=if_pos hk.1
   have e2:wgtK n l (acrV n l S)=wK l (acrV n l S):=if_pos hk.1
   rw [e1,e2] at h
   exact h
  have hw2:=hwe w2 HB2.out hA
  rw [HE.out]
  clear hwe hA hk hR hm1 hal HE
  generalize wV l (acrV n l S)=rv at *
  generalize wK l (acrV n l S)=rk at *
  go_wp2_with fail
  refine hw2.mono ?_
  rintro e w3 ⟨rfl,hb3⟩
  clear hw2
  have HB3:Hid (Below w.heap.size w w3):=HB2.out.trans (hb3.mono HB2.out.size)
  clear hb3
  go_wp2
  refine bodyPost_ret (results_tmp2 rfl _ _ _) rfl ?_
  exact⟨by rw [HW.out.1,HW.out.2];rfl,HB3.out⟩
 ·have HE:Hid (acrK n l S=1):=(Qmk hk).1
  have HW:Hid (wC n l S=0∧kC n l S=1):=by
   show _∧_
   unfold wC kC
   rw [HE.out,if_neg (by omega),if_neg (by omega)]
   exact⟨rfl,rfl⟩
  rw [HE.out]
  clear hA hk HE
  go_wp2
  refine bodyPost_ret (results_tmp2 rfl _ _ _) rfl ?_
  exact⟨by rw [HW.out.1,HW.out.2];rfl,HB2.out⟩
def ntB (S:List Bool):List Bool:=S.map fun b=>!b
theorem Qle (S:List Bool):(ntB S).length=S.length:=List.length_map ..
theorem Qoh {S:List Bool}{i:Nat}(h:i<S.length):bAt (ntB S) i = !bAt S i:=by
 simp [bAt,ntB,h]
theorem Qn0 (n:Int)(l:List Ed)(S:List Bool):okC n l (ntB S)=okC n l S:=by
 unfold okC
 rw [Qle]
theorem Qpi {n:Int}{l:List Ed}{S:List Bool}(h:okC n l S=true):acrT l (ntB S)=acrT l S:=by
 unfold okC at h
 obtain⟨h1,h2⟩:=of_decide_eq_true h
 have hR:=right_iff.1 h1
 unfold acrT
 refine List.map_congr_left fun e he=>?_
 obtain⟨⟨a1,a2,a3,a4,_,_⟩,_⟩:=hR.each e he
 rw [Qoh (by omega),Qoh (by omega)]
 cases bAt S e.1.toNat <;> cases bAt S e.2.1.toNat <;> rfl
theorem Qml (n:Int)(l:List Ed)(S:List Bool):acrV n l (ntB S)=acrV n l S:=by
 unfold acrV
 rw [Qn0]
 by_cases h:okC n l S=true
 ·rw [if_pos h,if_pos h,Qpi h]
 ·rw [if_neg h,if_neg h]
theorem Qmm (n:Int)(l:List Ed)(S:List Bool):acrK n l (ntB S)=acrK n l S:=by
 unfold acrK
 rw [Qn0]
theorem wC_nt (n:Int)(l:List Ed)(S:List Bool):wC n l (ntB S)=wC n l S:=by
 unfold wC
 rw [Qmm,Qml]
theorem kC_nt (n:Int)(l:List Ed)(S:List Bool):kC n l (ntB S)=kC n l S:=by
 unfold kC
 rw [Qmm,Qml]
theorem Qej (n:Int)(l:List Ed)(hm:l.length≤4194304)(sv:Value)(w:World)(hl:Edges w.heap.size w sv l):
  Calls Tryz.prog 18 #[.agg #[.int .i64 n,sv]] w fun r w'=>r = .returned (.bool (l.any negB))∧Below w.heap.size w w':=by
 have hmix:=mixed
 obtain⟨p,c,rfl⟩:=hl.len
 have hg1:Grew w (w.alloc (.cells #[.int .i64 n,.slice p l.length c] 24)):=(Grew.refl w).alloc _
 have x1:(w.alloc (.cells #[.int .i64 n,.slice p l.length c] 24)).cell? ⟨w.heap.size,1,none⟩=some (.slice p l.length c):=Qam rfl rfl
 have HB1:Hid (Below w.heap.size w (w.alloc (.cells #[.int .i64 n,.slice p l.length c] 24))):=hg1.below
 have HL:Hid (Edges w.heap.size w (.slice p l.length c) l):=hl
 clear hl hg1
 go_enter Tryz.func18,Tryz.ntmps18
 go_wp2
 generalize w.alloc (.cells #[.int .i64 n,.slice p l.length c] 24)=w1 at *
 go_loopw [3] (fun iv wr=>∃ k:Nat,k≤l.length∧iv = .int .i64 (k:Int)∧Hid (∀ (q:Nat) (hq:q<l.length),q<k→negB l[q]=false)∧Grew w1 wr) (fun i _=>l.length-(intOf i).toNat)
 case atStart=>exact⟨0,YN,rfl,fun q _ h=>by omega,Grew.refl _⟩
 case round=>
  obtain⟨k,hk,rfl,HS,hg⟩:=hrel
  have y1:=Qad hg.below x1
  have HB2:Hid (Below w.heap.size w wr):=HB1.out.trans (hg.below.mono HB1.out.size)
  by_cases hlt:k<l.length
  ·have hkl:(k:Int)<(l.length:Int):=by omega
   obtain⟨b,off,rfl,hbb,hcap,hc,-⟩:=HL.out.open hlt
   obtain⟨e0,e1,e2⟩:=hc _ HB2.out k hlt
   have HLT:Hid (k<l.length):=hlt
   by_cases hneg:l[k].2.2<0
   ·have HA:Hid (l.any negB=true):=List.any_eq_true.2 ⟨l[k],YG hlt,decide_eq_true hneg⟩
    generalize l[k].2.2=wt at *
    generalize l[k].1=u at *
    generalize l[k].2.1=v at *
    clear hc HS hlt
    go_wp2
    go_ret
    exact⟨by rw [HA.out];rfl,HB2.out⟩
   ·have HS2:Hid (∀ (q:Nat) (hq:q<l.length),q<k+1→negB l[q]=false):=fun q hq h=>by
     by_cases e:q=k
     ·subst e;exact decide_eq_false hneg
     ·exact HS.out q hq (by omega)
    have HG:Hid (Grew w1 wr):=hg
    generalize l[k].2.2=wt at *
    generalize l[k].1=u at *
    generalize l[k].2.1=v at *
    clear hc HS hlt hg
    go_wp2
    exact⟨⟨k+1,HLT.out,by go_num,HS2.out,HG.out⟩,by have:=HLT.out;simp [intOf];omega⟩
  ·obtain rfl:k=l.length:=by omega
   have HA:Hid (l.any negB=false):=by
    show _=_
    rw [List.any_eq_false]
    intro e he
    obtain⟨q,hq,rfl⟩:=List.getElem_of_mem he
    rw [HS.out q hq hq]
    simp
   clear HS
   go_wp2
   go_ret
   exact⟨by rw [HA.out];rfl,HB2.out⟩
end Go.Proofs.YtalflecmadacaaaGreat
