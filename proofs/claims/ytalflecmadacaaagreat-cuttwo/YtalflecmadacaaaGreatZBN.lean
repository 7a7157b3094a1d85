import Derived.Test.YtalflecmadacaaaGreatZBM
import Derived.Test.YtalflecmadacaaaGreatZBH
import Derived.Test.YtalflecmadacaaaGreatZBE
import Derived.Laws.ResultCell
import Derived.Deep.RegionHeld3
import Derived.Test.YtalflecmadacaaaGreatZAN
import Derived.Test.YtalflecmadacaaaGreatZAA
set_option maxRecDepth 100000
set_option maxHeartbeats 8000000
namespace Go.Proofs.YtalflecmadacaaaGreat
open Go Go.Proofs Go.RowKit
theorem Qno (N:Nat)(L:List Eg)(hN2:N≤1048576)(hk:rgtW (N:Int) (L.map edE)=0)(hm:L.length≤4194304)(hE:∀ e∈L,e.1<N∧e.2.1<N)(hW:∀ e∈L,e.2.2≤2147483647)(sv bv:Value)(w:World)(hl:Edges w.heap.size w sv (L.map edE))(hI:Ints w.heap.size w bv []):
  Calls Tryz.prog 31 #[.agg #[.int .i64 (N:Int),sv],bv] w fun e w'=>∃ lv,e = .returned (.tuple #[lv,.int .i64 0,.int .i64 0])∧w'.ownsRow w.heap.size 3 1 lv ([]:List Int).length (([]:List Int).map (Value.int .i64))∧Below w.heap.size w w':=by
 have hmix:=mixed
 obtain⟨p,c,rfl⟩:=hl.lenG
 obtain⟨pb,cb,rfl⟩:∃ pb cb,bv = .slice pb 0 cb:=by obtain⟨pb,cb,e⟩:=hI.len;exact⟨pb,cb,e⟩
 have hrs:rsB ([]:List Int) (N:Int)=true:=by simp [rsB]
 have hplc:plcB N ([]:List Int)=true:=QnW hrs
 have hfit:fitT (N:Int) (L.map edE) ([]:List Int)=0:=by
  unfold fitT
  rw [if_pos hk,if_pos hrs]
 obtain⟨w1,hw1⟩:∃ W,(w.alloc (.cells #[.int .i64 (N:Int),.slice p L.length c] 24))=W:=⟨_,rfl⟩
 have hb1:Below w.heap.size w w1:=by rw [← hw1];exact YD.alloc YA _
 have hX1:Blk 24 w1 w.heap.size [.int .i64 (N:Int),.slice p L.length c]:=by rw [← hw1];exact heap_alloc_new w _
 have hl1:Edges w1.heap.size w1 (.slice p L.length c) (L.map edE):=hl.go hb1
 have hI1:Ints w1.heap.size w1 (.slice pb 0 cb) ([]:List Int):=hI.go hb1
 have hft:=QgX (N:Int) (L.map edE) ([]:List Int) (by simp) _ _ w1 hl1 hI1
 rw [hfit] at hft
 have x0:=hX1.cell (j:=0) rfl
 have x1:=hX1.cell (j:=1) rfl
 have HX1:Hid (Blk 24 w1 w.heap.size [.int .i64 (N:Int),.slice p L.length c]):=hX1
 have HB1:Hid (Below w.heap.size w w1):=hb1
 have HL1:Hid (Edges w1.heap.size w1 (.slice p L.length c) (L.map edE)):=hl1
 have HI1:Hid (Ints w1.heap.size w1 (.slice pb 0 cb) ([]:List Int)):=hI1
 have HH:Hid ((∀ e∈L,e.1<N∧e.2.1<N)∧(∀ e∈L,e.2.2≤2147483647)):=⟨hE,hW⟩
 have HPLC:Hid (plcB N ([]:List Int)=true):=hplc
 clear hX1 hb1 hl1 hI1 hl hE hW hk hrs hplc hfit hI
 go_enter Tryz.func31,Tryz.ntmps31
 go_wp2_with fail
 refine hft.mono ?_
 rintro e w2 ⟨rfl,hg2⟩
 clear hft hw1 x0 x1
 have hb2:=hg2.below
 have hX2:=HX1.out.go hb2
 have x0:=hX2.cell (j:=0) rfl
 have x1:=hX2.cell (j:=1) rfl
 have HX2:Hid (Blk 24 w2 w.heap.size [.int .i64 (N:Int),.slice p L.length c]):=hX2
 have HB2:Hid (Below w.heap.size w w2):=HB1.out.trans (hb2.mono HB1.out.size)
 have HL2:Hid (Edges w2.heap.size w2 (.slice p L.length c) (L.map edE)):=HL1.out.go hb2
 have HI2:Hid (Ints w2.heap.size w2 (.slice pb 0 cb) ([]:List Int)):=HI1.out.go hb2
 have hld:=Qex N L hN2 hm HH.out.1 _ w2 HL2.out
 clear hX2 hb2 hg2 HX1 HB1 HL1 HI1
 go_wp2_with fail
 refine hld.mono ?_
 rintro e w3 ⟨g,R,rfl,hR,hG,hb3,hg⟩
 clear hld x0 x1
 have hX3:=HX2.out.go hb3
 have x0:=hX3.cell (j:=0) rfl
 have x1:=hX3.cell (j:=1) rfl
 have HX3:Hid (Blk 24 w3 w.heap.size [.int .i64 (N:Int),.slice p L.length c]):=hX3
 have HB3:Hid (Below w.heap.size w w3):=HB2.out.trans (hb3.mono HB2.out.size)
 have HL3:Hid (Edges w3.heap.size w3 (.slice p L.length c) (L.map edE)):=HL2.out.go hb3
 have HI3:Hid (Ints w3.heap.size w3 (.slice pb 0 cb) ([]:List Int)):=HI2.out.go hb3
 have HG3:Hid (Blk 3 w3 g (natsV (leadL N R))):=hG
 have HR:Hid (LeadP L N R):=hR
 have hRN:∀ v,v<N→R v<N:=fun v hv=>Nat.lt_of_le_of_lt (hR.low v hv) hv
 have hio:=QgN N R ([]:List Int) hN2 hRN HPLC.out (by simp) g _ w3 HG3.out HI3.out
 rw [show (turnT R (List.replicate N false) ([]:List Int)).contains true=false from Qgd fun v _=>Qhw N v] at hio
 have HRN:Hid _:=hRN
 clear hX3 hb3 HX2 HB2 HL2 HI2 hG hR hg hRN
 go_wp2_with fail
 refine hio.mono ?_
 rintro e w4 ⟨rfl,hb4⟩
 clear hio x0 x1
 have hX4:=HX3.out.go hb4
 have x0:=hX4.cell (j:=0) rfl
 have x1:=hX4.cell (j:=1) rfl
 have HX4:Hid (Blk 24 w4 w.heap.size [.int .i64 (N:Int),.slice p L.length c]):=hX4
 have HB4:Hid (Below w.heap.size w w4):=HB3.out.trans (hb4.mono HB3.out.size)
 have HL4:Hid (Edges w4.heap.size w4 (.slice p L.length c) (L.map edE)):=HL3.out.go hb4
 have HG4:Hid (Blk 3 w4 g (natsV (leadL N R))):=HG3.out.go hb4
 clear hX4 hb4 HX3 HB3 HL3 HI3 HG3
 obtain⟨i0,hi,hz0,hz1,hz2⟩:=info_parts Qff
 go_wp2_with (at_make;refine wpList_make_full _ rfl _ _ 25 rfl w4.heap.size 4 i0 (.bool false) 1 Tryz.underlying25 hi hz0 hz1 .i64 .i64 _ _ L.length rfl rfl rfl rfl (by rw [hz2];omega) (by unfold maxLen;omega) YA ?_;intro w5 hown hgrow;have hb5:Below w4.heap.size w4 w5:=YD.grown hgrow YA (fun k e=>by cases e);have hrow:=Blk.made hown;rw [QaT] at hrow;have HTk5:Hid (Blk 4 w5 w4.heap.size ((List.replicate L.length false).map Value.bool)):=hrow;clear hown hgrow hrow x0 x1;have hX5:=HX4.out.go hb5;have x0:=hX5.cell (j:=0) rfl;have x1:=hX5.cell (j:=1) rfl;have HX5:Hid (Blk 24 w5 w.heap.size [.int .i64 (N:Int),.slice p L.length c]):=hX5;have HB5:Hid (Below w.heap.size w w5):=HB4.out.trans (hb5.mono HB4.out.size);clear hX5;have hsp:=Qkx pb cb N L R hN2 hm HH.out.1 HRN.out g (.slice p L.length c) w5 (HL4.out.go hb5) (HG4.out.go hb5);clear hb5)
 refine hsp.mono ?_
 rintro e w6 ⟨rfl,hb6⟩
 clear hsp x0 x1 hi hz0 hz1 hz2
 have HB6:Hid (Below w.heap.size w w6):=HB5.out.trans (hb6.mono HB5.out.size)
 have HTk6:Hid (Blk 4 w6 w4.heap.size ((List.replicate L.length false).map Value.bool)):=HTk5.out.go hb6
 clear hb6
 go_wp2
 go_loopw [5,38] (fun c5 i wr=>c5 = .int .i64 0∧i = .int .i64 0∧wr=w6) (fun _ _ _=>0)
 case atStart=>exact⟨rfl,rfl,rfl⟩
 case round=>
  obtain⟨rfl,rfl,rfl⟩:=hrel
  have hto:=QbX (List.replicate L.length false) (by simpa using hm) (.slice (some ⟨w4.heap.size,0,none⟩) L.length L.length) wr (HTk6.out.boolsT List.length_replicate)
  rw [Qki] at hto
  go_wp2_with fail
  refine hto.mono ?_
  rintro e w8 ⟨lv,rfl,ho,hb8⟩
  clear hto
  have HO8:Hid (w8.ownsRow w.heap.size 3 1 lv ([]:List Int).length (([]:List Int).map (Value.int .i64))):=QaW ho HB6.out.size
  obtain⟨pa,ca,rfl⟩:=Qan ho
  have HB8:Hid (Below w.heap.size w w8):=HB6.out.trans (hb8.mono HB6.out.size)
  clear ho hb8
  go_wp2
  go_loopw [5,53] (fun cv i wr2=>cv = .int .i64 0∧i = .int .i64 0∧wr2=w8) (fun _ _ _=>0)
  case atStart=>exact⟨rfl,rfl,rfl⟩
  case round=>
   obtain⟨rfl,rfl,rfl⟩:=hrel
   go_wp2
   refine bodyPost_ret (v:=.tuple #[.slice pa 0 ca,.int .i64 0,.int .i64 0]) (by simp [results,Tryz.results31,go_sem]) rfl ?_
   exact⟨_,rfl,HO8.out,HB8.out⟩
section
variable {N:Nat} {r:List (List Int)}
end
section
variable {N:Nat} {l:List Ed} {r:List (List Int)}
end
def exR:List (List Int):=[[1,2],[2,0],[0,1]]
def Qmo (n:Int)(l:List Ed)(r:List (List Int))(c:Int)(w:World)(e:Ending)(w':World):Prop:=∃ b,e = .returned (.bool b)∧(b=true→Qb5 n l c=true∧(r.length:Int)≤2*c)∧Below w.heap.size w w'
theorem QbD {n:Int}{l:List Ed}{r:List (List Int)}{c:Int}{w w':World}{e:Ending}(he:e = .returned (.bool false))(hb:Below w.heap.size w w'):Qmo n l r c w e w':=⟨false,he,fun h=>absurd h (by decide),hb⟩
theorem Qjz {n:Int}{l:List Ed}{r:List (List Int)}{c:Int}{w w':World}{e:Ending}(he:e = .returned (.bool true))(h1:Qb5 n l c=true)(h2:(r.length:Int)≤2*c)(hb:Below w.heap.size w w'):Qmo n l r c w e w':=⟨true,he,fun _=>⟨h1,h2⟩,hb⟩
theorem Qjy (n:Int)(l:List Ed)(r:List (List Int))(hr1:r.length≤9223372036854775807)(c:Int)(h0:0≤c)(h1:c≤1000)(sv rv:Value)(w:World)(hl:Edges w.heap.size w sv l)(hr:Lsts w.heap.size w rv r):
  Calls Tryz.prog 15 #[.agg #[.int .i64 n,sv],rv,.int .i64 c] w (Qmo n l r c w):=by
 have hbA:Below w.heap.size w (w.alloc (.cells #[.int .i64 n,sv] 24)):=YD.alloc YA _
 have hX:Blk 24 (w.alloc (.cells #[.int .i64 n,sv] 24)) w.heap.size [.int .i64 n,sv]:=heap_alloc_new w _
 have hlc:=Qly n l c h0 h1 sv _ (hl.go hbA)
 obtain⟨p,cr,rfl⟩:=hr.len
 have HR0:=hr.go hbA
 have q0:=hX.cell (j:=0) rfl
 have q1:=hX.cell (j:=1) rfl
 have HR:Hid (Lsts (w.alloc (.cells #[.int .i64 n,sv] 24)).heap.size (w.alloc (.cells #[.int .i64 n,sv] 24)) (.slice p r.length cr) r):=HR0
 have HB:Hid (Below w.heap.size w (w.alloc (.cells #[.int .i64 n,sv] 24))):=hbA
 clear hr hl hX hbA HR0
 go_enter Tryz.func15,Tryz.ntmps15
 go_wp2
 generalize w.alloc (.cells #[.int .i64 n,sv] 24)=w1 at *
 have hrl:(r.length:Int)≤9223372036854775807:=by omega
 go_loopw [7,8] (fun mv iv wr=>∃ (j:Nat) (m:Int),j≤r.length∧iv = .int .i64 j∧mv = .int .i64 m∧wr=w1) (fun _ i _=>r.length-(intOf i).toNat)
 case atStart=>exact⟨0,0,YN,rfl,rfl,rfl⟩
 case round=>
  obtain⟨j,m,hj,rfl,rfl,rfl⟩:=hrel
  by_cases hlt:j<r.length
  ·have hjl:(j:Int)<(r.length:Int):=by omega
   by_cases hm:m≤1000
   ·obtain⟨b,off,rfl,hbb,hcap,px,cx,hIx,c0⟩:=HR.out.cellAt hlt
    have HLT:Hid (j<r.length):=hlt
    generalize r[j]=X at *
    clear hIx hlt hlc q0 q1
    go_wp2
    exact⟨⟨j+1,_,HLT.out,by go_num,rfl,trivial⟩,by have:=HLT.out;simp [intOf];omega⟩
   ·have hmd:decide (m≤1000)=false:=decide_eq_false hm
    go_wp2_with fail
    refine hlc.mono ?_
    clear hlc
    rintro e w3 ⟨rfl,hg3⟩
    have HB3:Hid (Below w.heap.size w w3):=HB.out.trans (hg3.below.mono HB.out.size)
    clear hg3 HR q0 q1
    cases hL:Qb5 n l c with
    | false=>
     go_wp2
     go_ret
     exact QbD rfl HB3.out
    | true=>
     have HL:Hid (Qb5 n l c=true):=hL
     clear hL
     by_cases hc:(r.length:Int)≤2*c
     ·have HC:Hid ((r.length:Int)≤2*c):=hc
      go_wp2
      go_ret
      exact QbD rfl HB3.out
     ·go_wp2
      go_ret
      exact QbD rfl HB3.out
  ·obtain rfl:j=r.length:=by omega
   go_wp2_with fail
   refine hlc.mono ?_
   clear hlc
   rintro e w3 ⟨rfl,hg3⟩
   have HB3:Hid (Below w.heap.size w w3):=HB.out.trans (hg3.below.mono HB.out.size)
   clear hg3 HR q0 q1
   cases hL:Qb5 n l c with
   | false=>
    go_wp2
    go_ret
    exact QbD rfl HB3.out
   | true=>
    have HL:Hid (Qb5 n l c=true):=hL
    clear hL
    by_cases hc:(r.length:Int)≤2*c
    ·have HC:Hid ((r.length:Int)≤2*c):=hc
     by_cases hm:m≤1000
     ·go_wp2
      go_ret
      exact Qjz rfl HL.out HC.out HB3.out
     ·have hmd:decide (m≤1000)=false:=decide_eq_false hm
      go_wp2
      go_ret
      exact QbD rfl HB3.out
    ·go_wp2
     go_ret
     exact QbD rfl HB3.out
def nxR (r:List (List Int))(d:Dt):Dt × Bool:=if 0≤d.2∧d.2<(r.length:Int) then (if d.1∈r.getD d.2.toNat [] then (nxD r d,true) else ((0,0),false)) else ((0,0),false)
theorem Qns {L:List Int}{x:Int}{k:Nat}(hk:k<L.length)(h:L[k]=x)(hne:∀ (j:Nat) (hj:j<k),L[j]≠x):L.idxOf x=k:=by
 unfold List.idxOf
 refine (List.findIdx_eq hk).2 ⟨by simpa using h,fun j hj=>by simpa using hne j hj⟩
theorem QoP {r:List (List Int)}{d:Dt}{v k:Nat}(hv:v<r.length)(hd:d.2=(v:Int))(hk:k<r[v].length)(h:r[v][k]=d.1)(hne:∀ (j:Nat) (hj:j<k),r[v][j]≠d.1):nxR r d=(((v:Int),aft r[v] k),true):=by
 have e:r.getD d.2.toNat []=r[v]:=by rw [hd,YM,YC,YB hv];rfl
 unfold nxR
 rw [if_pos ⟨by omega,by omega⟩,e,if_pos (by rw [← h];exact YG hk)]
 unfold nxD
 rw [e,Qns hk h hne,hd]
theorem QmY {r:List (List Int)}{d:Dt}{v:Nat}(hv:v<r.length)(hd:d.2=(v:Int))(h:d.1∉r[v]):nxR r d=((0,0),false):=by
 have e:r.getD d.2.toNat []=r[v]:=by rw [hd,YM,YC,YB hv];rfl
 unfold nxR
 rw [if_pos ⟨by omega,by omega⟩,e,if_neg h]
theorem Qld {r:List (List Int)}{d:Dt}(h:¬ (0≤d.2∧d.2<(r.length:Int))):nxR r d=((0,0),false):=if_neg h
def Qpm (L:List Int)(x:Int)(k:Nat):Prop:=∃ hk:k<L.length,L[k]=x∧∀ (j:Nat) (hj:j<k),L[j]≠x
theorem QdP {fn:Func}{p u:Tmp}(h:fn.results = #[.cell p 91,.tmp u]){tmps:Array Value}{w:World}{b:Nat}{x y:Value}(hp:tmps.getD p undef = .pointer (some ⟨b,0,none⟩))(h0:w.cell? ⟨b,0,none⟩=some x)(h1:w.cell? ⟨b,1,none⟩=some y):
  (results fn tmps).run Tryz.prog w = .ok (.tuple #[.agg #[x,y],tmps.getD u undef]) w:=by
 rw [results_cell_tmp h,hp]
 have a1:=Tryz.isAgg91
 have a2:=Tryz.sizeOf91
 go_simp
def NextQ (a:Dt × Bool)(w:World)(e:Ending)(w':World):Prop:=e = .returned (.tuple #[.agg #[.int .i64 a.1.1,.int .i64 a.1.2],.bool a.2])∧Below w.heap.size w w'
theorem Qkf (w:World)(d1 d2:Int):Below w.heap.size w ((w.alloc (.cells #[.int .i64 d1,.int .i64 d2] 91)).alloc (.cells #[.int .i64 0,.int .i64 0] 91))∧Blk 91 ((w.alloc (.cells #[.int .i64 d1,.int .i64 d2] 91)).alloc (.cells #[.int .i64 0,.int .i64 0] 91)) w.heap.size [.int .i64 d1,.int .i64 d2]∧Blk 91 ((w.alloc (.cells #[.int .i64 d1,.int .i64 d2] 91)).alloc (.cells #[.int .i64 0,.int .i64 0] 91)) (w.heap.size+1) [.int .i64 0,.int .i64 0]:=by
 have h1:Below w.heap.size w (w.alloc (.cells #[.int .i64 d1,.int .i64 d2] 91)):=YD.alloc YA _
 have h2:Below (w.alloc (.cells #[.int .i64 d1,.int .i64 d2] 91)).heap.size (w.alloc (.cells #[.int .i64 d1,.int .i64 d2] 91)) ((w.alloc (.cells #[.int .i64 d1,.int .i64 d2] 91)).alloc (.cells #[.int .i64 0,.int .i64 0] 91)):=YD.alloc YA _
 have h3:Blk 91 (w.alloc (.cells #[.int .i64 d1,.int .i64 d2] 91)) w.heap.size [.int .i64 d1,.int .i64 d2]:=heap_alloc_new _ _
 have h4:Blk 91 ((w.alloc (.cells #[.int .i64 d1,.int .i64 d2] 91)).alloc (.cells #[.int .i64 0,.int .i64 0] 91)) (w.alloc (.cells #[.int .i64 d1,.int .i64 d2] 91)).heap.size [.int .i64 0,.int .i64 0]:=heap_alloc_new _ _
 rw [World.size_alloc] at h4
 exact⟨h1.trans (h2.mono h1.size),h3.go h2,h4⟩
theorem Qhz (r:List (List Int))(hrr:∀ x∈r,x.length≤9223372036854775807)(d:Dt)(rv:Value)(w:World)(hr:Lsts w.heap.size w rv r):
  Calls Tryz.prog 95 #[rv,.agg #[.int .i64 d.1,.int .i64 d.2]] w (NextQ (nxR r d) w):=by
 obtain⟨p,c,rfl⟩:=hr.len
 obtain⟨d1,d2⟩:=d
 obtain⟨hb2,hX2,hY2⟩:=Qkf w d1 d2
 have HB2:Hid (Below w.heap.size w ((w.alloc (.cells #[.int .i64 d1,.int .i64 d2] 91)).alloc (.cells #[.int .i64 0,.int .i64 0] 91))):=hb2
 have HY2:Hid (Blk 91 ((w.alloc (.cells #[.int .i64 d1,.int .i64 d2] 91)).alloc (.cells #[.int .i64 0,.int .i64 0] 91)) (w.heap.size+1) [.int .i64 0,.int .i64 0]):=hY2
 have HX2:Hid (Blk 91 ((w.alloc (.cells #[.int .i64 d1,.int .i64 d2] 91)).alloc (.cells #[.int .i64 0,.int .i64 0] 91)) w.heap.size [.int .i64 d1,.int .i64 d2]):=hX2
 have HR:Hid (Lsts w.heap.size w (.slice p r.length c) r):=hr
 have HRR:Hid (∀ x∈r,x.length≤9223372036854775807):=hrr
 clear hb2 hX2 hY2 hr hrr
 go_enter Tryz.func95,Tryz.ntmps95
 by_cases hneg:d2<0
 ·have hE:nxR r (d1,d2)=((0,0),false):=Qld (fun h=>by have:=h.1;simp at this;omega)
  rw [hE]
  clear hE
  go_wp2
  refine bodyPost_ret (QdP rfl rfl (HY2.out.cell (j:=0) rfl) (HY2.out.cell (j:=1) rfl)) rfl ?_
  exact⟨rfl,HB2.out⟩
 ·by_cases hout:(r.length:Int)≤d2
  ·have hE:nxR r (d1,d2)=((0,0),false):=Qld (fun h=>by have:=h.2;simp at this;omega)
   rw [hE]
   clear hE
   go_wp2
   refine bodyPost_ret (QdP rfl rfl (HY2.out.cell (j:=0) rfl) (HY2.out.cell (j:=1) rfl)) rfl ?_
   exact⟨rfl,HB2.out⟩
  ·obtain⟨v,rfl⟩:∃ v:Nat,d2=(v:Int):=⟨d2.toNat,by omega⟩
   have hv:v<r.length:=by omega
   have hR2:=HR.out.below HB2.out
   obtain⟨b,off,rfl,hbb,hcap,px,cx,hIx,c0⟩:=hR2.cellAt hv
   have hxl:=HRR.out _ (YG hv)
   have q0:=HX2.out.cell (j:=0) rfl
   have q1:=HX2.out.cell (j:=1) rfl
   have y0:=HY2.out.cell (j:=0) rfl
   have y1:=HY2.out.cell (j:=1) rfl
   have fy0:=HY2.out.frozen 0
   have fy1:=HY2.out.frozen 1
   have hvl:(v:Int)<(r.length:Int):=by omega
   have hv0:¬ (v:Int)<0:=by omega
   have HIX:Hid (Ints w.heap.size ((w.alloc (.cells #[.int .i64 d1,.int .i64 (v:Int)] 91)).alloc (.cells #[.int .i64 0,.int .i64 0] 91)) (.slice px r[v].length cx) r[v]):=hIx
   have HHIT:Hid (∀ k,Qpm r[v] d1 k→nxR r (d1,(v:Int))=(((v:Int),aft r[v] k),true)):=fun k ⟨h1,h2,h3⟩=>QoP hv rfl h1 h2 h3
   have HMIS:Hid (d1∉r[v]→nxR r (d1,(v:Int))=((0,0),false)):=fun h=>QmY hv rfl h
   clear hIx hR2 hneg hout
   generalize hXe:r[v]=X at *
   clear hXe
   go_wp2
   generalize ((w.alloc (.cells #[.int .i64 d1,.int .i64 (v:Int)] 91)).alloc (.cells #[.int .i64 0,.int .i64 0] 91))=w2 at *
   go_loopw [7] (fun iv wr=>∃ j:Nat,j≤X.length∧iv = .int .i64 j∧Hid (∀ (i:Nat) (h1:i<X.length),i<j→X[i]≠d1)∧Below w2.heap.size w2 wr) (fun i _=>X.length-(intOf i).toNat)
   case atStart=>exact⟨0,YN,rfl,fun i _ h=>by omega,YD⟩
   case round=>
    clear q0 q1 y0 y1 fy0 fy1 c0
    obtain⟨j,hj,rfl,HS,hb⟩:=hrel
    have hXw:=HX2.out.go hb
    have hYw:=HY2.out.go hb
    have q0:=hXw.cell (j:=0) rfl
    have q1:=hXw.cell (j:=1) rfl
    by_cases hlt:j<X.length
    ·have hjl:(j:Int)<(X.length:Int):=by omega
     obtain⟨bx,ox,rfl,hbx,hcx,hcl⟩:=HIX.out.open hlt
     have hbm:Below w.heap.size w2 wr:=hb.mono HB2.out.size
     have hbxn:bx≠w.heap.size+1:=by omega
     have c1:=hcl wr hbm j hlt
     have HCL:Hid (∀ (i:Nat) (hi:i<X.length),wr.cell? ⟨bx,ox+i,none⟩=some (.int .i64 X[i])):=fun i hi=>hcl wr hbm i hi
     have HB:Hid (Below w2.heap.size w2 wr):=hb
     have HYw:Hid (Blk 91 wr (w.heap.size+1) [.int .i64 0,.int .i64 0]):=hYw
     clear hcl hb hXw hYw hbm
     by_cases he:X[j]=d1
     ·have HE:Hid _:=HHIT.out j ⟨hlt,he,fun i hi=>HS.out i (by omega) hi⟩
      rw [he] at c1
      clear he HS HHIT HMIS
      obtain⟨k,hk,hmod,hkv⟩:∃ (k:Nat) (hk:k<X.length),Int.tmod ((j:Int)+1) (X.length:Int)=(k:Int)∧aft X j=X[k]:=by
       by_cases e:j+1=X.length
       ·refine⟨0,by omega,?_,?_⟩
        ·rw [show (j:Int)+1=(X.length:Int) by omega,Int.tmod_self];rfl
        ·unfold aft
         rw [if_pos e,YC,YB (by omega)];rfl
       ·refine⟨j+1,by omega,?_,?_⟩
        ·rw [Int.tmod_eq_of_lt (by omega) (by omega)];omega
        ·unfold aft
         rw [if_neg e,YC,YB (by omega)];rfl
      have c2:=HCL.out k hk
      rw [hkv] at HE
      generalize X[k]=y at *
      have hkl:(k:Int)<(X.length:Int):=by omega
      have hx0:(X.length:Int)≠0:=by omega
      have hjx:(j:Int)+1≤(X.length:Int):=by omega
      have hXne:X≠[]:=fun e=>by rw [e] at hk;simp at hk
      have hwp:IntKind.i64.wrap ((j:Int)+1)=(j:Int)+1:=QaU _ (by omega) (by omega)
      have hbw:=HB2.out.trans (HB.out.mono HB2.out.size)
      have HFB:Hid (∀ (q:Nat) (x y:Int),Below w.heap.size w (((wr.drewN q).setCell ⟨w.heap.size+1,0,none⟩ (.int .i64 x)).setCell ⟨w.heap.size+1,1,none⟩ (.int .i64 y))):=fun q x y=>((Qaa hbw q).setCell (p:=⟨w.heap.size+1,0,none⟩) (by simp) _).setCell (p:=⟨w.heap.size+1,1,none⟩) (by simp) _
      clear hkv HCL HB hbw
      go_wp2
      go_quiet (fail)
      have HYq:Hid (Blk 91 (wr.drewN nq) (w.heap.size+1) [.int .i64 0,.int .i64 0]):=HYw.out
      have r1:(wr.drewN nq).cell? ⟨w.heap.size,1,none⟩=some (.int .i64 (v:Int)):=q1
      have r2:(wr.drewN nq).cell? ⟨bx,ox+k,none⟩=some (.int .i64 y):=c2
      have HFB3:Hid (∀ (x y:Int),Below w.heap.size w (((wr.drewN nq).setCell ⟨w.heap.size+1,0,none⟩ (.int .i64 x)).setCell ⟨w.heap.size+1,1,none⟩ (.int .i64 y))):=fun x y=>HFB.out nq x y
      clear HFB HYw q0 q1 c1 c2
      generalize wr.drewN nq=w3 at *
      have y0:=HYq.out.cell (j:=0) rfl
      have y1:=HYq.out.cell (j:=1) rfl
      have fy0:=HYq.out.frozen 0
      have fy1:=HYq.out.frozen 1
      go_wp2_with fail
      refine wp_region_held_drew (S:=(fun w':World=>w'.cell? ⟨w.heap.size,1,none⟩=some (.int .i64 (v:Int))∧w'.cell? ⟨bx,ox+k,none⟩=some (.int .i64 y))) (by kernel_rfl) ?_ (fun hHeld=>?_)
      ·(try dsimp only);go_keep
      refine tH 0 ?_
      try simp only [YS]
      refine tH 1 ?_
      refine tH 2 ?_
      refine tH 3 ?_
      refine tH 4 ?_
      refine tH 5 ?_
      refine tH 6 ?_
      refine wpAnyH_take (i:=7) (v:=.int .i64 (k:Int)) rfl (by kernel_rfl) (by kernel_rfl) (by kernel_rfl) (fun _ _ _ h=>h) (Or.inl ⟨by rfl,?_⟩) (by assumption) ?_
      ·intro w hSw
       go_simp
      try simp only [Act.put]
      refine tH 8 ?_
      refine tH 9 ?_
      refine tH 10 ?_
      refine wpAnyH_ready (rs:=[11]) (by kernel_rfl) (by simp) ?_
      refine AllReadyH.cons rfl (fun K hK=>?_) AllReadyH.nil
      go_simp
      refine hK.out _ _ ?_ (fun hHeld=>?_)
      ·(try dsimp only);first | (go_keep;done) | ((repeat' apply And.intro) <;> go_simp)
      clear hK K
      try simp only [Act.put,YS,YT,YU]
      refine wpAnyH_ready (rs:=[12]) (by kernel_rfl) (by simp) ?_
      refine AllReadyH.cons rfl (fun K hK=>?_) AllReadyH.nil
      go_simp
      refine hK.out _ _ ?_ (fun hHeld=>?_)
      ·(try dsimp only);first | (go_keep;done) | ((repeat' apply And.intro) <;> go_simp)
      clear hK K
      try simp only [Act.put,YS,YT,YU]
      refine wpAnyH_done (by kernel_rfl) ?_ _
      clear hHeld
      have hY4:=(HYq.out.set 0 (.int .i64 (v:Int))).set 1 (.int .i64 y)
      have z0:((w3.setCell ⟨w.heap.size+1,0,none⟩ (.int .i64 (v:Int))).setCell ⟨w.heap.size+1,1,none⟩ (.int .i64 y)).drew.cell? ⟨w.heap.size+1,0,none⟩=some (.int .i64 (v:Int)):=hY4.cell (j:=0) rfl
      have z1:((w3.setCell ⟨w.heap.size+1,0,none⟩ (.int .i64 (v:Int))).setCell ⟨w.heap.size+1,1,none⟩ (.int .i64 y)).drew.cell? ⟨w.heap.size+1,1,none⟩=some (.int .i64 y):=hY4.cell (j:=1) rfl
      have HFIN:Hid (Below w.heap.size w ((w3.setCell ⟨w.heap.size+1,0,none⟩ (.int .i64 (v:Int))).setCell ⟨w.heap.size+1,1,none⟩ (.int .i64 y)).drew):=Qaa (HFB3.out (v:Int) y) 1
      generalize ((w3.setCell ⟨w.heap.size+1,0,none⟩ (.int .i64 (v:Int))).setCell ⟨w.heap.size+1,1,none⟩ (.int .i64 y)).drew=w5 at z0 z1 HFIN ⊢
      go_wp2
      refine bodyPost_ret (QdP rfl rfl z0 z1) rfl ?_
      rw [HE.out]
      exact⟨rfl,HFIN.out⟩
     ·have HS2:Hid (∀ (i:Nat) (h1:i<X.length),i<j+1→X[i]≠d1):=fun i h1 h=>by
       by_cases e:i=j
       ·subst e;exact he
       ·exact HS.out i h1 (by omega)
      have HLT:Hid (j<X.length):=hlt
      generalize X[j]=x at *
      have hxd:(x==d1)=false:=by rw [beq_eq_false_iff_ne];exact he
      clear HS HHIT HMIS HCL hlt
      go_wp2
      go_quiet (fail)
      have HB3:Hid (Below w2.heap.size w2 (wr.drewN nq)):=Qaa HB.out nq
      generalize wr.drewN nq=w5 at HB3 ⊢
      go_wp2
      exact⟨⟨j+1,HLT.out,by go_num,HS2.out,HB3.out⟩,by have:=HLT.out;simp [intOf];omega⟩
    ·obtain rfl:j=X.length:=by omega
     have HE:Hid _:=HMIS.out (fun hm=>by
      obtain⟨i,hi,e⟩:=List.getElem_of_mem hm
      exact HS.out i hi hi e)
     clear HS HHIT HMIS
     have y0:=hYw.cell (j:=0) rfl
     have y1:=hYw.cell (j:=1) rfl
     have fy0:=hYw.frozen 0
     have fy1:=hYw.frozen 1
     have hY4:=(hYw.set 0 (.int .i64 0)).set 1 (.int .i64 0)
     have hbw:=HB2.out.trans (hb.mono HB2.out.size)
     have HFB:Hid (Below w.heap.size w ((wr.setCell ⟨w.heap.size+1,0,none⟩ (.int .i64 0)).setCell ⟨w.heap.size+1,1,none⟩ (.int .i64 0))):=(hbw.setCell (p:=⟨w.heap.size+1,0,none⟩) (by simp) _).setCell (p:=⟨w.heap.size+1,1,none⟩) (by simp) _
     have z0:=hY4.cell (j:=0) rfl
     have z1:=hY4.cell (j:=1) rfl
     clear hY4 hYw hXw hbw
     go_wp2
     refine bodyPost_ret (QdP rfl rfl z0 z1) rfl ?_
     rw [HE.out]
     exact⟨rfl,HFB.out⟩
theorem GrpD.add2 {h0 s0:Nat}{lv lv' sv:Value}{svs:List Value}{pre:List (List Dt)}{A B:World}{o:Obj}{xs:List Dt}(h:GrpD h0 lv svs pre A)(hh:h0≤s0)(hlv:∀ q,lv.ownBlock=some q→q<s0)(hsv:∀ x∈svs,∀ q,x.ownBlock=some q→q<s0)(hs:A.ownsRow s0 91 2 sv xs.length (flatD xs))
  (hB:B.ownsRow h0 92 1 lv' (svs.length+1) (svs++[sv])) (hg:(A.alloc o).grownBy B lv.ownBlock) (hat:lv'.ownBlock=lv.ownBlock∨lv'.ownBlock=some (A.alloc o).heap.size):GrpD h0 lv' (svs++[sv]) (pre++[xs]) B:=by
 have hkA:∀ {e:TypeId} {size:Nat} {v:Value} {n:Nat} {zs:List Value},A.ownsRow h0 e size v n zs→(v.ownBlock=none∨v.ownBlock≠lv.ownBlock)→B.ownsRow h0 e size v n zs:=fun {e size v n zs} ho hne=>Qal (World.ownsRow.alloc ho o) hg hne
 have hlen:=h.len
 have far:∀ {x:Value},(∀ q,x.ownBlock=some q→q<s0)→sv.ownBlock=none∨sv.ownBlock≠x.ownBlock:=fun {x} ho=>by
  cases hv:sv.ownBlock with
  | none=>exact .inl rfl
  | some b=>
   refine .inr fun e=>?_
   have h1:=(hs.lt b hv).1
   have h2:=ho b e.symm
   omega
 have far':∀ {x:Value},(∀ q,x.ownBlock=some q→q<s0)→x.ownBlock=none∨x.ownBlock≠sv.ownBlock:=fun {x} ho=>by
  cases hv:x.ownBlock with
  | none=>exact .inl rfl
  | some b=>
   refine .inr fun e=>?_
   have h1:=(hs.lt b e.symm).1
   have h2:=ho b hv
   omega
 have split:∀ {k:Nat} {x:Value},(svs++[sv])[k]? = some x→(k<svs.length∧svs[k]? = some x)∨(k=svs.length∧x=sv):=fun {k x} hx=>by
  rw [List.getElem?_append] at hx
  by_cases hk:k<svs.length
  ·rw [if_pos hk] at hx
   exact .inl ⟨hk,hx⟩
  ·rw [if_neg hk] at hx
   have h1:=(YE hx).1
   simp at h1
   have h2:k=svs.length:=by omega
   subst h2
   simp at hx
   exact .inr ⟨rfl,hx.symm⟩
 have new:∀ {e:TypeId} {size:Nat} {x:Value} {n:Nat} {zs:List Value},A.ownsRow h0 e size x n zs→x.ownBlock=none∨x.ownBlock≠some (A.alloc o).heap.size:=fun {e size x n zs} ho=>Qdn ho (by simp)
 refine⟨by simp [hlen],by rw [YI];exact hB,?_,?_,?_⟩
 ·intro k x zs hx hp
  rcases split hx with ⟨hk,hy⟩ | ⟨rfl,rfl⟩
  ·rw [List.getElem?_append_left (by omega)] at hp
   exact hkA (h.inn k x zs hy hp) (h.outer k x hy)
  ·rw [hlen,List.getElem?_append_right YA,Nat.sub_self] at hp
   simp at hp
   subst hp
   exact hkA (QaH hs hh) (far hlv)
 ·intro k j x x' hx hx' hkj
  rcases split hx with ⟨hk,hy⟩ | ⟨rfl,rfl⟩
  ·rcases split hx' with ⟨hj,hy'⟩ | ⟨rfl,rfl⟩
   ·exact h.apart k j x x' hy hy' hkj
   ·exact far' (hsv x (YK hy))
  ·rcases split hx' with ⟨hj,hy'⟩ | ⟨rfl,rfl⟩
   ·exact far (hsv x' (YK hy'))
   ·exact absurd rfl hkj
 ·intro k x hx
  rcases split hx with ⟨hk,hy⟩ | ⟨rfl,rfl⟩
  ·rcases hat with e | e
   ·rw [e];exact h.outer k x hy
   ·rw [e]
    exact new (h.inn k x _ hy (YB (by omega)))
  ·rcases hat with e | e
   ·rw [e];exact far hlv
   ·rw [e]
    exact new (QaH hs hh)
structure FI (h0:Nat)(lv mv:Value)(svs:List Value)(st:List (List Dt) × List Dt)(W:World):Prop where
 grp:GrpD h0 lv svs st.1 W
 met:W.ownsRow h0 91 2 mv st.2.length (flatD st.2)
 ap1:mv.ownBlock=none∨mv.ownBlock≠lv.ownBlock
 ap2:∀ sv∈svs,sv.ownBlock=none∨sv.ownBlock≠mv.ownBlock
theorem FI.start (h0:Nat)(W:World):FI h0 (.slice none 0 0) (.slice none 0 0) [] ([],[]) W:=⟨GrpD.start _ _,World.ownsRow_nil _ _ _ _,.inl rfl,fun sv h=>by simp at h⟩
theorem FI.go {h0:Nat}{lv mv:Value}{svs:List Value}{st:List (List Dt) × List Dt}{A B:World}(h:FI h0 lv mv svs st A)(hb:Below A.heap.size A B):FI h0 lv mv svs st B:=⟨h.grp.go hb,Qaz h.met hb,h.ap1,h.ap2⟩
theorem FI.add {h0 s0:Nat}{lv mv mv' lv' fv:Value}{svs:List Value}{st:List (List Dt) × List Dt}{A B D:World}{o:Obj}{F:List Dt}(h:FI h0 lv mv svs st A)(hs0:h0≤s0)(hsA:s0≤A.heap.size)(hlv:∀ q,lv.ownBlock=some q→q<s0)(hmv:∀ q,mv.ownBlock=some q→q<s0)(hsv:∀ x∈svs,∀ q,x.ownBlock=some q→q<s0)
  (hf:A.ownsRow s0 91 2 fv F.length (flatD F)) (hm:B.ownsRow h0 91 2 mv' (st.2.length+F.length) (flatD st.2++flatD F)) (hg:A.grownBy B mv.ownBlock) (hat:mv'.ownBlock=mv.ownBlock∨mv'.ownBlock=some A.heap.size)
  (hB:D.ownsRow h0 92 1 lv' (svs.length+1) (svs++[fv])) (hg2:(B.alloc o).grownBy D lv.ownBlock) (hat2:lv'.ownBlock=lv.ownBlock∨lv'.ownBlock=some (B.alloc o).heap.size):FI h0 lv' mv' (svs++[fv]) (st.1++[F],st.2++F) D:=by
 have hfm:fv.ownBlock=none∨fv.ownBlock≠mv.ownBlock:=by
  cases hv:fv.ownBlock with
  | none=>exact .inl rfl
  | some b=>
   refine .inr fun e=>?_
   have h1:=(hf.lt b hv).1
   have h2:=hmv b e.symm
   omega
 have hgB:GrpD h0 lv svs st.1 B:=by
  refine⟨h.grp.len,Qal h.grp.own hg ?_,fun k sv xs h1 h2=>Qal (h.grp.inn k sv xs h1 h2) hg (h.ap2 sv (YK h1)),h.grp.apart,h.grp.outer⟩
  cases hv:lv.ownBlock with
  | none=>exact .inl rfl
  | some b=>
   refine .inr fun e=>?_
   rcases h.ap1 with h1 | h1
   ·rw [h1] at e;cases e
   ·exact h1 (by rw [hv];exact e.symm)
 have hfB:B.ownsRow s0 91 2 fv F.length (flatD F):=Qal hf hg hfm
 have hG:=hgB.add2 hs0 hlv hsv hfB hB hg2 hat2
 have hml:mv'.ownBlock=none∨mv'.ownBlock≠lv.ownBlock:=by
  rcases hat with e | e
  ·rw [e];exact h.ap1
  ·rw [e]
   refine .inr fun e2=>?_
   have:=hlv _ e2.symm
   omega
 refine⟨hG,?_,?_,?_⟩
 ·rw [YI]
  have:flatD (st.2++F)=flatD st.2++flatD F:=by simp [flatD]
  rw [this]
  exact Qal (World.ownsRow.alloc hm o) hg2 hml
 ·rcases hat2 with e | e
  ·rw [e];exact hml
  ·rw [e]
   exact Qdn hm (by simp)
 ·intro x hx
  rcases YJ hx with hx | hx
  ·rcases hat with e | e
   ·rw [e];exact h.ap2 x hx
   ·rw [e]
    cases hv:x.ownBlock with
    | none=>exact .inl rfl
    | some b=>
     refine .inr fun e2=>?_
     have:=hsv x hx b hv
     simp at e2
     omega
  ·rw [YF hx]
   rcases hat with e | e
   ·rw [e];exact hfm
   ·rw [e]
    exact Qdn hf YA
theorem QoK {nx:Dt→Dt}{S:List Dt}(hP:PermS nx S)(hn:S.Nodup){fuel:Nat}(hfu:S.length≤fuel){d:Dt}(hd:d∈S):(orb nx d fuel d).length≤S.length:=by
 obtain⟨⟨left,hG⟩,_⟩:=QeA (starts:=[d]) hP hn hfu (fun x hx=>by rw [YF hx];exact hd) (j:=1) (by simp)
 have h1:=hG.len
 have e:(Qae nx fuel [d] 1).2=orb nx d fuel d:=by
  rw [Qae]
  simp [Qae]
 rw [e] at h1
 omega
def lenOf:Value→Nat
 | .slice _ n _=>n
 | _=>0
def OrbI (nx:Dt→Dt)(d:Dt)(k:Nat)(F:List Dt)(x:Dt)(O:List Dt):Prop:=F++orb nx d (k-F.length) x=O
theorem OrbI.len {nx:Dt→Dt}{d x:Dt}{k:Nat}{F O:List Dt}(h:OrbI nx d k F x O)(hO:O.length<k):F.length<O.length:=by
 unfold OrbI at h
 have h1:=congrArg List.length h
 rw [YI] at h1
 obtain⟨j,hj⟩:∃ j,k-F.length=j+1:=⟨k-F.length-1,by omega⟩
 rw [hj,orb,List.length_cons] at h1
 omega
theorem OrbI.done {nx:Dt→Dt}{d x:Dt}{k:Nat}{F O:List Dt}(h:OrbI nx d k F x O)(hO:O.length<k)(he:nx x=d):F++[x]=O:=by
 have hl:=h.len hO
 unfold OrbI at h
 obtain⟨j,hj⟩:∃ j,k-F.length=j+1:=⟨k-F.length-1,by omega⟩
 rw [hj,orb,if_pos he] at h
 exact h
theorem OrbI.next {nx:Dt→Dt}{d x:Dt}{k:Nat}{F O:List Dt}(h:OrbI nx d k F x O)(hO:O.length<k)(he:nx x≠d):OrbI nx d k (F++[x]) (nx x) O:=by
 have hl:=h.len hO
 unfold OrbI at h ⊢
 obtain⟨j,hj⟩:∃ j,k-F.length=j+1:=⟨k-F.length-1,by omega⟩
 rw [hj,orb,if_neg he] at h
 rw [YI,List.length_singleton,show k-(F.length+1)=j by omega,List.append_assoc]
 exact h
theorem QeI {N:Nat}{l:List Ed}(hR:RightG (N:Int) l)(r:List (List Int)):(stF l r N 0).1=facesL N l r:=by
 unfold stF facesL
 rw [Qdh hR,Qec _ _ _ YA,List.take_length]
theorem QmZ {N:Nat}{l:List Ed}{r:List (List Int)}(hR:RightG (N:Int) l)(hS:SysR N l r){d:Dt}(hd:d∈Qah N l):nxR r d=(nxD r d,true):=by
 obtain⟨u,v,rfl,hu,hv,huv,_⟩:=QbI hR hd
 unfold nxR
 rw [if_pos ⟨by simp only;omega,by simp only;rw [hS.len];omega⟩]
 simp only [YM]
 rw [if_pos ((hS.perm v hv).mem_iff.2 huv)]
end Go.Proofs.YtalflecmadacaaaGreat
